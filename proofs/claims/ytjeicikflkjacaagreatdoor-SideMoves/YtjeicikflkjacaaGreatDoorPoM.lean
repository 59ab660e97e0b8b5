/- Goroutine 0 beside leavers: from a lone run here to a run there. -/
import Derived.Test.YtjeicikflkjacaaGreatDoorM36
set_option linter.unusedSimpArgs false
set_option linter.unusedVariables false
namespace Go.Proofs.YtjeicikflkjacaaGreatDoor.Po
open Go
open Par (Fm Gr on onT Ag runT_draws putAt stopper lone_eq lone_go lone_ended)
section
variable {Z:Zs} {P:Program} {L:Lx} {T:List Item} {base:List Frame} {pc:Bool}
def EndR (pc:Bool)(T:List Item)(base:List Frame)(g:Goroutine):Prop:=g.callers.length=base.length∧(g.frame.mode=.returning∨(pc=true∧g.frame.todo=T))
def St1 (Z:Zs)(P:Program)(g:Goroutine)(w:World)(g1:Goroutine)(w1:World):Prop :=
 ∃(m:Nat) (u:World) (es:Array Event),w1=on u w.tape (w.drawn+m)∧(∀τ' d',Ag m w.tape w.drawn τ' d'→stepG P true g (on w τ' d')=.go g1 (on u τ' (d'+m)) es)∧(∀e∈es,EvO Z w1.heap.size e)∧w.heap.size≤w1.heap.size∧∀b,Z b→w1.heap[b]?=w.heap[b]?
theorem Stp.st1 {g g1:Goroutine}{w w1 v1:World}(h:Stp Z P true g w g1 w1 v1):St1 Z P g w g1 w1∧Wr Z v1 w1:=by
 obtain⟨m,u,es,h1,h2,h3⟩:=h
 exact⟨⟨m,u,es,h1,h2,h3.ev,h3.grow,h3.keep⟩,h3.wr⟩
inductive Chn (Z:Zs) (P:Program) (E:Goroutine→Prop):Nat→Goroutine→World→Goroutine→World→Prop
 | nil (g:Goroutine) (w:World):Chn Z P E 0 g w g w
 | cons {n:Nat} {g g1 g2:Goroutine} {w w1 w2:World} (hne:¬E g) (hr:g.status=.running) (hs:St1 Z P g w g1 w1) (hc:Chn Z P E n g1 w1 g2 w2):Chn Z P E (n+1) g w g2 w2
def Fi (pc:Bool)(fr:Frame):Prop:=if pc then fr.mode=.run∧fr.todo=[] else fr.mode=.returning
theorem Fi.calm {fr:Frame}(h:Fi pc fr):∀ch,fr.mode≠.panicking ch:=fun ch q=>by
 unfold Fi at h
 split at h
 ·rw[h.1] at q;cases q
 ·rw[h] at q;cases q
theorem tl_end {f:FuncId}{k G K:List Item}(tl:Tl L P f T G K)(h:k++K=T):k=[]∧(G=[]∨∃c K',G=[.code .skip]∧T=.code c :: K'):=by
 cases tl with
 | plain =>
  have:(k++T).length=T.length:=by rw[h]
  rw[List.length_append] at this
  exact⟨List.length_eq_zero_iff.1 (by omega),.inl rfl⟩
 | @cut cf c c' K hT hc =>
  subst hT
  have:(k++.code c' :: K).length=(Item.code cf :: K).length:=by rw[h]
  rw[List.length_append] at this
  have hk:k=[]:=by simpa using this
  subst hk
  refine⟨rfl,.inr ⟨cf,K,?_,rfl⟩⟩
  have e:c'=cf:=by
   injection h with h1 _
   injection h1
  cases hc with
  | here=>rfl
  | seq ha hc =>
   have h1:=hc.size
   rw[←e] at h1
   simp only[Code.seq.sizeOf_spec] at h1
   omega
 | stop hT hc =>
  subst hT
  cases k<;>cases h
theorem spin_never {f:FuncId}{t:Array Value}{fr2:Frame}{v2:World}(h2:fr2.mode=.returning∨fr2.todo=[]):∀(n:Nat) (v:World) (k:List Item),k=[.code (.loop .skip)]∨k=[.code .skip,.inLoop .skip]∨k=[.inLoop .skip]→runN P n (lone (Fm f t k .run) [stopper] v)≠.next (lone fr2 [stopper] v2)
 | 0,v,k,hk,hr=>by
  have e:lone (Fm f t k .run) [stopper] v=lone fr2 [stopper] v2:=by
   have:Stepped.next (lone (Fm f t k .run) [stopper] v)=.next (lone fr2 [stopper] v2):=hr
   injection this
  obtain⟨rfl,_,_⟩:=lone_eq e
  rcases h2 with h2|h2
  ·cases h2
  ·rcases hk with rfl|rfl|rfl<;>cases h2
 | n+1,v,k,hk,hr=>by
  rcases hk with rfl|rfl|rfl
  ·have h:stepG P true (Gr (Fm f t [.code (.loop .skip)] .run) [stopper]) v=.go (Gr (Fm f t [.code .skip,.inLoop .skip] .run) [stopper]) v #[]:=rfl
   simp only[runN,lone_go h] at hr
   exact spin_never h2 n v _ (.inr (.inl rfl)) hr
  ·have h:stepG P true (Gr (Fm f t [.code .skip,.inLoop .skip] .run) [stopper]) v=.go (Gr (Fm f t [.inLoop .skip] .run) [stopper]) v #[]:=rfl
   simp only[runN,lone_go h] at hr
   exact spin_never h2 n v _ (.inr (.inr rfl)) hr
  ·have h:stepG P true (Gr (Fm f t [.inLoop .skip] .run) [stopper]) v=.go (Gr (Fm f t [.code .skip,.inLoop .skip] .run) [stopper]) v #[]:=rfl
   simp only[runN,lone_go h] at hr
   exact spin_never h2 n v _ (.inr (.inl rfl)) hr
theorem UG.step (H:LOk Z P L)(hT:TextsT L P){g g':Goroutine}{v w:World}(hw:Wr Z v w)(h:UG L P T base g g')(hne:¬EndR pc T base g')(hpc:pc=false→T=[])(hsp:∀f t,g≠Gr (Fm f t [.code (.loop .skip)] .run) [stopper]){g1:Goroutine}{v1:World}{es:Array Event}(hs:stepG P true g v=.go g1 v1 es)(hr:g1.status=.running)(hc:∀ch,g1.frame.mode≠.panicking ch) :
  ∃g1' w1,St1 Z P g' w g1' w1∧Wr Z v1 w1∧UG L P T base g1 g1':=by
 cases h with
 | @bot f t k G K m hf ht hk hm tl =>
  rcases hm with rfl|rfl
  ·by_cases hcut:k=[]∧∃c,G=[.code c]
   ·obtain⟨rfl,c,rfl⟩:=hcut
    cases tl with
    | @cut cf c c' K hTe hcc =>
     cases hcc with
     | here =>
      cases pc with
      | false =>
       have:=hpc rfl
       rw[this] at hTe
       cases hTe
      | true=>exact absurd ⟨rfl,.inr ⟨rfl,hTe.symm⟩⟩ hne
     | @seq a b b' ha hb =>
      have e1:stepG P true (Gr (Fm f t [.code (.seq a b)] .run) [stopper]) v=.go (Gr (Fm f t ([.code a]++[.code b]) .run) [stopper]) v #[]:=rfl
      have e2:∀w,stepG P true (Gr (Fm f t (.code (.seq a b') :: K) .run) base) w=.go (Gr (Fm f t ([.code a]++.code b' :: K) .run) base) w #[]:=fun _=>rfl
      have hs':stepG P true (Gr (Fm f t [.code (.seq a b)] .run) [stopper]) v=.go g1 v1 es:=hs
      rw[e1] at hs'
      injection hs' with q1 q2 _
      subst q1 q2
      obtain⟨h1,h2⟩:=(Stp.same e2 hw).st1
      exact⟨_,w,h1,h2,.bot hf ht (todoT.cons (x:=.code a) ha todoT.nil) (.inl rfl) (.cut hTe hb)⟩
    | @stop c c' K hTe hcc =>
     cases hcc with
     | here=>exact absurd rfl (hsp f t)
     | @seq a b b' ha hb =>
      have e1:stepG P true (Gr (Fm f t [.code (.seq a b)] .run) [stopper]) v=.go (Gr (Fm f t ([.code a]++[.code b]) .run) [stopper]) v #[]:=rfl
      have e2:∀w,stepG P true (Gr (Fm f t (.code (.seq a b') :: K) .run) base) w=.go (Gr (Fm f t ([.code a]++.code b' :: K) .run) base) w #[]:=fun _=>rfl
      have hs':stepG P true (Gr (Fm f t [.code (.seq a b)] .run) [stopper]) v=.go g1 v1 es:=hs
      rw[e1] at hs'
      injection hs' with q1 q2 _
      subst q1 q2
      obtain⟨h1,h2⟩:=(Stp.same e2 hw).st1
      exact⟨_,w,h1,h2,.bot hf ht (todoT.cons (x:=.code a) ha todoT.nil) (.inl rfl) (.stop hTe hb)⟩
   ·have hK:k≠[]∨(G=[]∧K=[]):=by
     cases tl with
     | plain =>
      cases pc with
      | false=>exact .inr ⟨rfl,hpc rfl⟩
      | true =>
       refine .inl fun e=>hne ⟨rfl,.inr ⟨rfl,?_⟩⟩
       subst e
       rfl
     | cut hTe hcc=>exact .inl fun e=>hcut ⟨e,_,rfl⟩
     | stop hTe hcc=>exact .inl fun e=>hcut ⟨e,_,rfl⟩
    obtain⟨g1',w1,hst,hn⟩:=run_step H hT hw ht hk tl.inert hK true true [stopper] base hs hr hc
    obtain⟨h1,h2⟩:=hst.st1
    refine⟨g1',w1,h1,h2,?_⟩
    cases hn with
    | go ht hk hm=>exact .bot hf ht hk hm tl
    | enter hf2 ht2 hc2 hk2 hd =>
     obtain⟨fn,c,q,_,_⟩:=hT _ hf2
     exact .top ⟨fn,q⟩ ht2 (todoT.cons (x:=.code _) hc2 todoT.nil) (.inl rfl) (.last hf ht hk hk2 hd tl)
  ·exact absurd ⟨rfl,.inl rfl⟩ hne
 | @top f t k m hf ht hk hm cs cs' hst =>
  rcases hm with rfl|rfl
  ·obtain⟨g1',w1,hst2,hn⟩:=run_step H hT hw ht hk (G:=[]) (K:=[]) inert_nil (.inr ⟨rfl,rfl⟩) true true cs cs' (by rw[List.append_nil];exact hs) hr hc
   rw[List.append_nil] at hst2
   obtain⟨h1,h2⟩:=hst2.st1
   refine⟨g1',w1,h1,h2,?_⟩
   cases hn with
   | go ht hk hm =>
    rw[List.append_nil]
    exact .top hf ht hk hm hst
   | enter hf2 ht2 hc2 hk2 hd =>
    obtain⟨fn,c,q,_,_⟩:=hT _ hf2
    rw[List.append_nil]
    exact .top ⟨fn,q⟩ ht2 (todoT.cons (x:=.code _) hc2 todoT.nil) (.inl rfl) (.more hf ht hk hk2 hd hst)
  ·obtain⟨fn,hfn⟩:=hf
   cases hst with
   | @last f2 t2 k2 G2 K2 hf2 ht2 hk2 hne2 hd2 tl =>
    obtain⟨u,w1,rfl,hall⟩:=ret_step hw hfn hs
    obtain⟨t1,k1,ht1,hk1,hfin⟩:=finish_at ht2 hk2 hne2 hd2 u
    obtain⟨h1,h2⟩:=(hall true k (Fm f2 t2 (k2++K2) .run) base).st1
    rw[hfin K2] at h1
    refine⟨_,w1,h1,h2,?_⟩
    rw[hfin G2]
    exact .bot hf2 ht1 hk1 (.inl rfl) tl
   | @more f2 t2 k2 hf2 ht2 hk2 hne2 hd2 cs cs' hst =>
    obtain⟨u,w1,rfl,hall⟩:=ret_step hw hfn hs
    obtain⟨t1,k1,ht1,hk1,hfin⟩:=finish_at ht2 hk2 hne2 hd2 u
    obtain⟨h1,h2⟩:=(hall true k (Fm f2 t2 k2 .run) cs').st1
    have e0:=hfin []
    rw[List.append_nil,List.append_nil] at e0
    rw[e0] at h1
    refine⟨_,w1,h1,h2,?_⟩
    rw[e0]
    exact .top hf2 ht1 hk1 (.inl rfl) hst
theorem run_kind (H:LOk Z P L)(hT:TextsT L P){v w:World}(hw:Wr Z v w){f:FuncId}{t:Array Value}(ht:SlT L f t){k:List Item}(hk:todoT L P f k)(main:Bool)(cs:List Frame) :
  (∃o v1 es,stepG P main (Gr (Fm f t k .run) cs) v=.ended o v1 es)∨∃fr1 cs1 v1 es,stepG P main (Gr (Fm f t k .run) cs) v=.go (Gr fr1 cs1) v1 es∧((∀ch,fr1.mode≠.panicking ch)∨∃ch,fr1=Fm f t k (.panicking ch)∧cs1=cs):=by
 have ctl:∀ {k1:List Item} {m1:FrameMode} {v1:World} {es:Array Event},(m1=.run∨m1=.returning)→stepG P main (Gr (Fm f t k .run) cs) v=.go (Gr (Fm f t k1 m1) cs) v1 es→(∃o v1 es,stepG P main (Gr (Fm f t k .run) cs) v=.ended o v1 es)∨∃fr1 cs1 v1 es,stepG P main (Gr (Fm f t k .run) cs) v=.go (Gr fr1 cs1) v1 es∧((∀ch,fr1.mode≠.panicking ch)∨∃ch,fr1=Fm f t k (.panicking ch)∧cs1=cs):=fun {k1 m1 v1 es} hm h=>.inr ⟨_,_,_,_,h,.inl fun ch q=>by rcases hm with rfl|rfl<;>cases q⟩
 cases k with
 | nil=>exact ctl (k1:=[]) (.inr rfl) rfl
 | cons x k =>
  have hx:=hk.head
  cases x with
  | inBlock id=>exact ctl (k1:=k) (.inl rfl) rfl
  | inScope c=>exact ctl (k1:=k) (.inl rfl) rfl
  | inLoop c=>exact ctl (k1:=.code c :: .inLoop c :: k) (.inl rfl) rfl
  | inRegion ops l =>
   cases l with
   | nil=>exact ctl (k1:=k) (.inl rfl) rfl
   | cons i rest =>
    have e0:stepG P main (Gr (Fm f t (.inRegion ops (i :: rest) :: k) .run) cs) v=if ((ops[i]?).map (Region.wanted · (yielded ops t))).getD false then stepG.oper P true (Fm f t (.inRegion ops (i :: rest) :: k) .run) cs none v else .go (Gr (Fm f (putAt ops i t undef) (.inRegion ops rest :: k) .run) cs) v:=rfl
    cases hwt:((ops[i]?).map (Region.wanted · (yielded ops t))).getD false with
    | false =>
     rw[e0,hwt]
     exact .inr ⟨_,_,_,_,rfl,.inl fun ch q=>by cases q⟩
    | true =>
     cases hi:ops[i]? with
     | none=>rw[hi] at hwt;cases hwt
     | some o =>
      have hop:opT L P f o=true:=reg_head hx hi
      have hY:=op_yes H hop (rd_of ht (.inRegion ops (i :: rest) :: k) .run)
      have e:stepG.oper P true (Fm f t (.inRegion ops (i :: rest) :: k) .run) cs none v=stepG.apply P true (Fm f t (.inRegion ops (i :: rest) :: k) .run) cs none (execOp (Fm f t (.inRegion ops (i :: rest) :: k) .run).eval o) v:=by
       simp[stepG.oper,Frame.oper?,hi]
      rw[e0,hwt]
      simp only[if_true]
      rw[e]
      generalize (execOp (Fm f t (.inRegion ops (i :: rest) :: k) .run).eval o)=s at hY
      cases hrun:s.runT P v #[] with
      | mk r es0 =>
       cases r with
       | halt q v2 =>
        have hq:=(hY v w hw #[]).2 q v2 es0 hrun
        unfold stepG.apply
        simp only[hrun,if_true]
        cases hq with
        | panic u=>exact .inr ⟨_,_,_,_,rfl,.inr ⟨_,rfl,rfl⟩⟩
        | stuck w=>exact .inl ⟨_,_,_,rfl⟩
        | unsupported u hu=>cases u<;>first|exact .inl ⟨_,_,_,rfl⟩|exact absurd rfl (hu _)
       | ok n v2 =>
        obtain⟨hn,_⟩:=(hY v w hw #[]).1 n v2 es0 hrun
        unfold stepG.apply
        simp only[hrun,if_true]
        cases hn with
        | value x hx=>exact .inr ⟨_,_,_,_,rfl,.inl fun ch q=>by cases q⟩
        | skip=>exact .inr ⟨_,_,_,_,rfl,.inl fun ch q=>by cases q⟩
        | enter f2 x hf2 hx =>
         obtain⟨fn,c,h1,h2,h3⟩:=hT f2 hf2
         have en:Frame.enter P f2 x .normal=Fm f2 (x++Array.replicate (fn.ntmps - x.size) undef) [.code c] .run:=by
          unfold Frame.enter
          simp[h1,h2]
         exact .inr ⟨Fm f2 (x++Array.replicate (fn.ntmps - x.size) undef) [.code c] .run,_,_,_,by simp only[en];rfl,.inl fun ch q=>by cases q⟩
  | code c =>
   cases c with
   | skip=>exact ctl (k1:=k) (.inl rfl) rfl
   | label l=>exact ctl (k1:=k) (.inl rfl) rfl
   | ret=>exact ctl (k1:=.code .ret :: k) (.inr rfl) rfl
   | seq a b=>exact ctl (k1:=.code a :: .code b :: k) (.inl rfl) rfl
   | block id b=>exact ctl (k1:=.code b :: .inBlock id :: k) (.inl rfl) rfl
   | loop b=>exact ctl (k1:=.code b :: .inLoop b :: k) (.inl rfl) rfl
   | scope b=>exact ctl (k1:=.code b :: .inScope b :: k) (.inl rfl) rfl
   | cond c a b =>
    have e:stepG P main (Gr (Fm f t (.code (.cond c a b) :: k) .run) cs) v=match (Fm f t [] .run).eval c with
      | .bool q=>.go (Gr (Fm f t (.code (if q then a else b) :: k) .run) cs) v
      | _ => .ended (.stuck "cond: bool expected" ((Fm f t (.code (.cond c a b) :: k) .run).pos P)) v := rfl
    cases hq:(Fm f t [] .run).eval c with
    | bool q=>exact ctl (k1:=.code (if q then a else b) :: k) (.inl rfl) (by rw[e,hq])
    | _=>exact .inl ⟨_,_,_,by rw[e,hq]⟩
   | exit id =>
    cases hq:exitTo id k with
    | none => exact .inl ⟨.stuck "exit, goto: no such block or label" ((Fm f t (.code (.exit id) :: k) .run).pos P), v, #[], by simp [stepG, stepG.exec, hq]⟩
    | some k1=>exact ctl (k1:=k1) (m1:=.run) (v1:=v) (es:=#[]) (.inl rfl) (by simp[stepG,stepG.exec,hq])
   | goto l =>
    cases hq:gotoIn l k with
    | none => exact .inl ⟨.stuck "exit, goto: no such block or label" ((Fm f t (.code (.goto l) :: k) .run).pos P), v, #[], by simp [stepG, stepG.exec, hq]⟩
    | some k1=>exact ctl (k1:=k1) (m1:=.run) (v1:=v) (es:=#[]) (.inl rfl) (by simp[stepG,stepG.exec,hq])
   | region id ops draw =>
    cases draw with
    | false=>exact ctl (k1:=.inRegion ops (List.range ops.size) :: k) (.inl rfl) rfl
    | true =>
     have hr2:(choose (.order f id)).run P v=.ok ((Question.order f id).cut (v.tape v.drawn (.order f id))) { v with drawn:=v.drawn+1 }:=by
      show (Sem.choose (.order f id) Sem.pure).run P v=_
      simp[Sem.run,Question.forced]
     exact ctl (k1:=.inRegion ops (Region.schedule (P.follows .mixedOrders) ops ((Question.order f id).cut (v.tape v.drawn (.order f id)))) :: k) (m1:=.run) (v1:={ v with drawn:=v.drawn+1 }) (es:=#[]) (.inl rfl) (by simp[stepG,stepG.exec,hr2])
   | rangeFunc f2 ps as b=>cases hx
   | refuse why=>cases hx
  | _=>cases hx
theorem ret_kind {f:FuncId}{fn:Func}(hf:P.funcs[f]?=some fn)(t:Array Value)(k:List Item)(main:Bool)(c:Frame)(cs:List Frame)(v:World):(∃o v1 es,stepG P main (Gr (Fm f t k .returning) (c :: cs)) v=.ended o v1 es)∨∃u v1 es,stepG P main (Gr (Fm f t k .returning) (c :: cs)) v=.go (Gr (c.finish u) cs) v1 es:=by
 cases hr:(results fn t).runT P v #[] with
 | mk r es0 =>
  cases r with
  | halt q v2 =>
   have h2:(results fn t).run P v=.halt q v2:=by rw[←Sem.runT_fst P _ _ #[],hr]
   left
   cases q<;>exact⟨_,_,_,by simp[stepG,unwind,hf,h2,GStep.after];first|done|exact⟨rfl,rfl,rfl⟩⟩
  | ok u v2=>exact .inr ⟨u,v2,_,results_step hf hr⟩
theorem cut_code {f:FuncId}{cf c c':Code}(h:CutC L P f cf c c'):codeT L P f c=true:=by
 induction h with
 | here=>rfl
 | seq ha _ ih =>
  rw[codeT,Bool.and_eq_true]
  exact⟨ha,ih⟩
theorem cut_codeS {f:FuncId}{c c':Code}(h:CutS L P f c c'):codeT L P f c=true:=by
 induction h with
 | here=>rfl
 | seq ha _ ih =>
  rw[codeT,Bool.and_eq_true]
  exact⟨ha,ih⟩
theorem Tl.todo {f:FuncId}{k G K:List Item}(h:Tl L P f T G K)(hk:todoT L P f k):todoT L P f (k++G):=by
 cases h with
 | plain=>rw[List.append_nil];exact hk
 | cut hT h =>
  intro x hx
  rcases List.mem_append.1 hx with hx|hx
  ·exact hk x hx
  ·obtain rfl:x=_:=by simpa using hx
   exact cut_code h
 | stop hT h =>
  intro x hx
  rcases List.mem_append.1 hx with hx|hx
  ·exact hk x hx
  ·obtain rfl:x=_:=by simpa using hx
   exact cut_codeS h
def Fin2 (pc:Bool)(T:List Item)(base:List Frame)(fr:Frame)(g:Goroutine):Prop:=if pc then ∃f t,fr=Fm f t [] .run∧g=Gr (Fm f t T .run) base else ∃f t k k',(∃fn,P.funcs[f]?=some fn)∧fr=Fm f t k .returning∧g=Gr (Fm f t k' .returning) base
theorem chn_of (H:LOk Z P L)(hT:TextsT L P)(hpc:pc=false→T=[]){fr2:Frame}{v2:World}(hF:Fi pc fr2):∀(n:Nat) (fr:Frame) (cs:List Frame) (v w:World) (g':Goroutine),Wr Z v w→UG L P T base (Gr fr cs) g'→runN P n (lone fr cs v)=.next (lone fr2 [stopper] v2)→∃n' g2' w2,Chn Z P (EndR pc T base) n' g' w g2' w2∧Wr Z v2 w2∧Fin2 (P:=P) pc T base fr2 g2'
 | 0,fr,cs,v,w,g',hw,hg,hr=>by
  have e:lone fr cs v=lone fr2 [stopper] v2:=by
   have:Stepped.next (lone fr cs v)=.next (lone fr2 [stopper] v2):=hr
   injection this
  obtain⟨rfl,rfl,rfl⟩:=lone_eq e
  refine⟨0,g',w,.nil _ _,hw,?_⟩
  generalize hgq:Gr fr [stopper]=gq at hg
  cases hg with
  | @bot f t k G K m hf ht hk hm tl =>
   injection hgq with e1 _
   subst e1
   unfold Fi at hF
   unfold Fin2
   split at hF
   ·rename_i hp
    obtain⟨h1,h2⟩:=hF
    obtain rfl:m=.run:=h1
    have h2:k++G=[]:=h2
    obtain⟨rfl,rfl⟩:=List.append_eq_nil_iff.1 h2
    rw[if_pos hp]
    cases tl with
    | plain=>exact⟨f,t,rfl,rfl⟩
   ·rename_i hp
    obtain rfl:m=.returning:=hF
    rw[if_neg hp]
    obtain rfl:=hpc (by simpa using hp)
    exact⟨f,t,_,_,hf,rfl,rfl⟩
  | top hf ht hk hm hst =>
   injection hgq with _ e1
   obtain⟨⟨cs0,e,hne,_⟩,_⟩:=hst.form
   rw[←e1] at e
   cases cs0 with
   | nil=>exact absurd rfl hne
   | cons c cs0 =>
    have:=congrArg List.length e
    simp at this
 | n+1,fr,cs,v,w,g',hw,hg,hr=>by
  have lost:∀ {fr1:Frame} {cs1:List Frame} {v1:World} {es:Array Event},stepG P true (Gr fr cs) v=.go (Gr fr1 cs1) v1 es→Lost fr1 cs1→False:=fun h hd=>by
   simp only[runN,lone_go h] at hr
   exact hd.never n _ _ _ hF.calm hr
  have run':g'.status=.running:=by cases hg<;>rfl
  have on_:∀ {fr1:Frame} {cs1:List Frame} {v1:World} {es:Array Event},¬EndR pc T base g'→stepG P true (Gr fr cs) v=.go (Gr fr1 cs1) v1 es→(∀ch,fr1.mode≠.panicking ch)→∃n' g2' w2,Chn Z P (EndR pc T base) n' g' w g2' w2∧Wr Z v2 w2∧Fin2 (P:=P) pc T base fr2 g2':=fun {fr1 cs1 v1 es} hne h hp=>by
   have h2r:fr2.mode=.returning∨fr2.todo=[]:=by
    unfold Fi at hF
    split at hF
    ·exact .inr hF.2
    ·exact .inl hF
   obtain⟨g1',w1,h1,h2,h3⟩:=hg.step H hT hw hne hpc (fun f t e=>by
    injection e with e1 e2
    subst e1 e2
    exact spin_never h2r (n+1) v _ (.inl rfl) hr) h rfl hp
   simp only[runN,lone_go h] at hr
   obtain⟨n',g2',w2,hc,hw2,hg2⟩:=chn_of H hT hpc hF n fr1 cs1 v1 w1 g1' h2 h3 hr
   exact⟨n'+1,g2',w2,.cons hne run' h1 hc,hw2,hg2⟩
  have over:∀ {o:Outcome} {v1:World} {es:Array Event},stepG P true (Gr fr cs) v=.ended o v1 es→False:=fun h=>by
   simp[runN,lone_ended h] at hr
  generalize hgq:Gr fr cs=g at hg
  cases hg with
  | @bot f t k G K m hf ht hk hm tl =>
   injection hgq with e1 e2
   subst e1 e2
   obtain⟨fn,hfn⟩:=hf
   have back:∀ {f:FuncId} {fn:Func} (hfn:P.funcs[f]?=some fn) (t:Array Value) (k:List Item) (n:Nat) (v:World),runN P (n+1) (lone (Fm f t k .returning) [stopper] v)=.next (lone fr2 [stopper] v2)→False:=fun hfn t k n v hr=>by
    rcases ret_kind hfn t k true stopper [] v with⟨o,v1,es,h⟩|⟨u,v1,es,h⟩
    ·simp[runN,lone_ended h] at hr
    ·simp only[runN,lone_go h] at hr
     exact Lost.back.never n _ _ _ hF.calm hr
   have void:∀(n:Nat) (v:World),pc=true→runN P (n+1) (lone (Fm f t [] .run) [stopper] v)=.next (lone fr2 [stopper] v2)→False:=fun n v hp hr=>by
    have h:stepG P true (Gr (Fm f t [] .run) [stopper]) v=.go (Gr (Fm f t [] .returning) [stopper]) v #[]:=rfl
    simp only[runN,lone_go h] at hr
    cases n with
    | zero =>
     have e:lone (Fm f t [] .returning) [stopper] v=lone fr2 [stopper] v2:=by
      have:Stepped.next (lone (Fm f t [] .returning) [stopper] v)=.next (lone fr2 [stopper] v2):=hr
      injection this
     obtain⟨rfl,_,_⟩:=lone_eq e
     subst hp
     unfold Fi at hF
     cases hF.1
    | succ n=>exact back hfn t [] n v hr
   rcases hm with rfl|rfl
   ·by_cases hend:EndR pc T base (Gr (Fm f t (k++K) .run) base)
    ·rcases hend.2 with q|⟨hp,hl⟩
     ·cases q
     have hl:k++K=T:=hl
     obtain⟨rfl,rfl|⟨c,K',rfl,hTe⟩⟩:=tl_end tl hl
     ·exact (void n v hp hr).elim
     ·have h:stepG P true (Gr (Fm f t [.code .skip] .run) [stopper]) v=.go (Gr (Fm f t [] .run) [stopper]) v #[]:=rfl
      have hr':runN P (n+1) (lone (Fm f t [.code .skip] .run) [stopper] v)=.next (lone fr2 [stopper] v2):=hr
      simp only[runN,lone_go h] at hr'
      cases n with
      | zero =>
       have e:lone (Fm f t [] .run) [stopper] v=lone fr2 [stopper] v2:=by
        have:Stepped.next (lone (Fm f t [] .run) [stopper] v)=.next (lone fr2 [stopper] v2):=hr'
        injection this
       obtain⟨rfl,_,rfl⟩:=lone_eq e
       refine⟨0,_,w,.nil _ _,hw,?_⟩
       unfold Fin2
       rw[if_pos hp,hl]
       exact⟨f,t,rfl,rfl⟩
      | succ n=>exact (void n v hp hr').elim
    ·rcases run_kind H hT hw ht (tl.todo hk) true [stopper] with⟨o,v1,es,h⟩|⟨fr1,cs1,v1,es,h,hp|⟨ch,rfl,rfl⟩⟩
     ·exact (over h).elim
     ·exact on_ hend h hp
     ·exact (lost h (.pan f t (k++G) ch [] fun c hc=>by cases hc)).elim
   ·exact (back hfn t (k++G) n v hr).elim
  | @top f t k m hf ht hk hm cs1 cs' hst =>
   injection hgq with e1 e2
   subst e1 e2
   obtain⟨⟨cs0,e0,hne0,hcs⟩,hlen⟩:=hst.form
   have hend:¬EndR pc T base (Gr (Fm f t k m) cs'):=fun q=>by
    have:cs'.length=base.length:=q.1
    omega
   rcases hm with rfl|rfl
   ·rcases run_kind H hT hw ht hk true cs with⟨o,v1,es,h⟩|⟨fr1,cs1,v1,es,h,hp|⟨ch,rfl,rfl⟩⟩
    ·exact (over h).elim
    ·exact on_ hend h hp
    ·rw[e0] at h
     refine (lost (by rw[e0];exact h) (.pan f t k ch cs0 hcs)).elim
   ·obtain⟨fn,hfn⟩:=hf
    cases cs with
    | nil=>cases hst
    | cons c cs =>
     rcases ret_kind hfn t k true c cs v with⟨o,v1,es,h⟩|⟨u,v1,es,h⟩
     ·exact (over h).elim
     ·refine on_ hend h fun ch q=>?_
      have hc:∃f t k,c=Fm f t k .run:=by
       cases cs0 with
       | nil=>exact absurd rfl hne0
       | cons c0 cs0 =>
        injection e0 with e3 e4
        subst e3
        exact hcs c (by simp)
      obtain⟨f2,t2,k2,rfl⟩:=hc
      have:((Fm f2 t2 k2 .run).finish u).mode=.run:=by
       cases k2 with
       | nil=>rfl
       | cons x k2=>cases x<;>first|rfl|(rename_i ops l;cases l<;>rfl)
      rw[this] at q
      cases q
end
end Go.Proofs.YtjeicikflkjacaaGreatDoor.Po
