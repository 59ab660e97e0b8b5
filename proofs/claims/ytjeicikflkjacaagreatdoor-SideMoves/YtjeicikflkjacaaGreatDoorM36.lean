/- Goroutine 0 beside leavers: every step of a frame, here and there. -/
import Derived.Test.YtjeicikflkjacaaGreatDoorM35
import Derived.Test.YtjeicikflkjacaaGreatDoorM21
set_option linter.unusedSimpArgs false
set_option linter.unusedVariables false
namespace Go.Proofs.YtjeicikflkjacaaGreatDoor.Po
open Go
open Par (Fm Gr on onT Ag runT_draws putAt)
section
variable {Z:Zs} {P:Program} {L:Lx}
def Stp (Z:Zs)(P:Program)(main:Bool)(g:Goroutine)(w:World)(g1:Goroutine)(w1 v1:World):Prop :=
 ∃(m:Nat) (u:World) (es:Array Event),w1=on u w.tape (w.drawn+m)∧(∀τ' d',Ag m w.tape w.drawn τ' d'→stepG P main g (on w τ' d')=.go g1 (on u τ' (d'+m)) es)∧Aft Z w w1 v1 es
theorem Stp.same {main:Bool}{g g1:Goroutine}{v w:World}(h:∀w,stepG P main g w=.go g1 w #[])(hw:Wr Z v w):Stp Z P main g w g1 w v:=⟨0,w,#[],rfl,fun τ' d' _=>h _,.refl hw⟩
theorem evo_out {B:Nat}{e:Event}(h:EvO Z B e):e.loc≠.output:=by
 cases h<;>(intro q;cases q)
theorem yes_draws {α:Type}{Q:α→Prop}{s:Sem α}(h:Yes Z P Q s){v w:World}(hw:Wr Z v w){es:Array Event}{a:α}{v1:World}{es1:Array Event}(hr:s.runT P v es=(.ok a v1,es1)) :
  Q a∧∃(m:Nat) (u:World) (new:Array Event),(∀τ' d',Ag m w.tape w.drawn τ' d'→s.runT P (on w τ' d') #[]=(.ok a (on u τ' (d'+m)),new))∧Aft Z w (on u w.tape (w.drawn+m)) v1 new:=by
 obtain⟨hq,h1⟩:=(h v w hw es).1 a v1 es1 hr
 obtain⟨w1,new,e,ha⟩:=h1 #[]
 rw[Array.empty_append] at e
 have ew:on w w.tape w.drawn=w:=rfl
 obtain⟨m,r,h2,h3⟩:=runT_draws P s w #[] w.tape w.drawn (by
  dsimp only
  rw[ew,e]
  exact fun x hx=>evo_out (ha.ev x hx))
 dsimp only at h2 h3
 rw[ew,e] at h2 h3
 cases r with
 | halt q u=>cases h2
 | ok a2 u =>
  have h4:(Result.ok a w1)=.ok a2 (on u w.tape (w.drawn+m)):=h2
  injection h4 with h5 h6
  subst h5 h6
  exact⟨hq,m,u,new,h3,ha⟩
theorem aft_seen {w w1 v1:World}{new:Array Event}(h:Aft Z w w1 v1 new)(f:FuncId):Aft Z w w1 v1 (seen P f new++#[]):=by
 rw[Array.append_empty]
 exact⟨h.wr,fun e he=>h.ev e (Go.Conc.mem_seen he),h.grow,h.keep⟩
theorem slT_put {f:FuncId}{t:Array Value}(ht:SlT L f t){ops:Array Oper}{i:Nat}{o:Oper}(ho:ops[i]?=some o){u:Value}(hu:∀s,o.dst=some s→s∈L.fs f→FV L u):SlT L f (putAt ops i t u):=by
 intro s hs
 unfold Par.putAt
 rw[ho]
 dsimp only [Option.bind_some]
 cases hd:o.dst with
 | none=>exact ht s hs
 | some d =>
  dsimp only
  have e:(t.setIfInBounds d u).getD s undef=if d=s∧s<t.size then u else t.getD s undef:=by
   rw[Array.getD_eq_getD_getElem?,Array.getD_eq_getD_getElem?,Array.getElem?_setIfInBounds]
   by_cases h1:d=s
   ·subst h1
    by_cases h2:d<t.size
    ·simp[h2]
    ·simp[h2]
   ·simp[h1]
  rw[e]
  split
  ·rename_i h
   exact hu d hd (h.1 ▸ hs)
  ·exact ht s hs
theorem slT_undef {f:FuncId}{t:Array Value}(ht:SlT L f t)(ops:Array Oper)(i:Nat):SlT L f (putAt ops i t undef):=by
 cases ho:ops[i]? with
 | none =>
  unfold Par.putAt
  rw[ho]
  exact ht
 | some o=>exact slT_put ht ho fun _ _ _=>.inl rfl
theorem slT_enter {f:FuncId}{x:Array Value}(h:∀s∈L.fs f,x.size≤s)(n:Nat):SlT L f (x++Array.replicate (n - x.size) undef):=by
 intro s hs
 left
 have:=h s hs
 rw[Array.getD_eq_getD_getElem?,Array.getElem?_append_right this,Array.getElem?_replicate]
 split<;>rfl
theorem rd_of {f:FuncId}{t:Array Value}(ht:SlT L f t)(k:List Item)(m:FrameMode):Rd L f (Fm f t k m).eval:=⟨fun _=>rfl,fun s hs=>ht s hs⟩
def HeadFree (L:Lx)(f:FuncId)(k:List Item):Prop:=∀ops i rest k',k=Item.inRegion ops (i :: rest) :: k'→∀o,ops[i]?=some o→∀s,o.dst=some s→s∉L.fs f
inductive Nxt (L:Lx) (P:Program) (f:FuncId) (t:Array Value) (k G K:List Item) (cs cs':List Frame):Goroutine→Goroutine→Prop
 | go {t1:Array Value} {k1:List Item} {m1:FrameMode} (ht:SlT L f t1) (hk:todoT L P f k1) (hm:m1=.run∨m1=.returning):Nxt L P f t k G K cs cs' (Gr (Fm f t1 (k1++G) m1) cs) (Gr (Fm f t1 (k1++K) m1) cs')
 | enter {f2:FuncId} {t2:Array Value} {c:Code} (hf:L.T f2=true) (ht:SlT L f2 t2) (hc:codeT L P f2 c=true) (hk:k≠[]) (hd:HeadFree L f k):Nxt L P f t k G K cs cs' (Gr (Fm f2 t2 [.code c] .run) (Fm f t (k++G) .run :: cs)) (Gr (Fm f2 t2 [.code c] .run) (Fm f t (k++K) .run :: cs'))
theorem op_step (H:LOk Z P L)(hT:TextsT L P){v w:World}(hw:Wr Z v w){f:FuncId}{t:Array Value}(ht:SlT L f t){ops:Array Oper}{i:Nat}{rest:List Nat}{k:List Item}(hk:todoT L P f (.inRegion ops (i :: rest) :: k)){o:Oper}(ho:ops[i]?=some o)(G K:List Item)(cs cs':List Frame){g1:Goroutine}{v1:World}{es:Array Event}
  (hs:stepG.apply P true (Fm f t (.inRegion ops (i :: rest) :: (k++G)) .run) cs none (execOp (Fm f t (.inRegion ops (i :: rest) :: (k++G)) .run).eval o) v=.go g1 v1 es) (hr:g1.status=.running) (hc:∀ch,g1.frame.mode≠.panicking ch) :
  ∃g1' w1,(∃(m:Nat) (u:World) (es':Array Event),w1=on u w.tape (w.drawn+m)∧(∀τ' d',Ag m w.tape w.drawn τ' d'→stepG.apply P true (Fm f t (.inRegion ops (i :: rest) :: (k++K)) .run) cs' none (execOp (Fm f t (.inRegion ops (i :: rest) :: (k++K)) .run).eval o) (on w τ' d')=.go g1' (on u τ' (d'+m)) es')∧Aft Z w w1 v1 es')∧Nxt L P f t (.inRegion ops (i :: rest) :: k) G K cs cs' g1 g1':=by
 have hop:opT L P f o=true:=reg_head hk.head ho
 have hk':todoT L P f (.inRegion ops rest :: k):=.cons (reg_tail hk.head) hk.tail
 have hY:=op_yes H hop (rd_of ht (.inRegion ops (i :: rest) :: k) .run)
 have ev:∀K,(Fm f t (.inRegion ops (i :: rest) :: (k++K)) .run).eval=(Fm f t (.inRegion ops (i :: rest) :: k) .run).eval:=fun _=>rfl
 rw[ev] at hs
 simp only[ev]
 generalize hs0:(execOp (Fm f t (.inRegion ops (i :: rest) :: k) .run).eval o)=s at hs hY
 cases hrun:s.runT P v #[] with
 | mk r es0 =>
  cases r with
  | halt q v2 =>
   exfalso
   have hq:=(hY v w hw #[]).2 q v2 es0 hrun
   unfold stepG.apply at hs
   simp only[hrun,if_true] at hs
   cases hq with
   | panic u =>
    injection hs with h1 _ _
    exact hc _ (by rw[←h1];rfl)
   | stuck w=>cases hs
   | unsupported u hu=>cases u<;>first|cases hs|exact absurd rfl (hu _)
  | ok n v2 =>
   obtain⟨hn,m,u,new,hdr,ha⟩:=yes_draws hY hw hrun
   unfold stepG.apply at hs
   simp only[hrun,if_true] at hs
   cases hn with
   | value x hx =>
    injection hs with h1 h2 h3
    subst h1 h2
    refine⟨Gr (Fm f (putAt ops i t x) (.inRegion ops rest :: (k++K)) .run) cs',_,⟨m,u,_,rfl,fun τ' d' hag=>?_,aft_seen (P:=P) ha f⟩,.go (k1:=.inRegion ops rest :: k) (slT_put ht ho hx) hk' (.inl rfl)⟩
    unfold stepG.apply
    simp only[hdr τ' d' hag,if_true]
    rfl
   | skip =>
    injection hs with h1 h2 h3
    subst h1 h2
    refine⟨Gr (Fm f (putAt ops i t undef) (.inRegion ops rest :: (k++K)) .run) cs',_,⟨m,u,_,rfl,fun τ' d' hag=>?_,aft_seen (P:=P) ha f⟩,.go (k1:=.inRegion ops rest :: k) (slT_undef ht ops i) hk' (.inl rfl)⟩
    unfold stepG.apply
    simp only[hdr τ' d' hag,if_true]
    rfl
   | enter f2 x hf2 hx =>
    obtain⟨fn,c,h1,h2,h3⟩:=hT f2 hf2
    have en:Frame.enter P f2 x .normal=Fm f2 (x++Array.replicate (fn.ntmps - x.size) undef) [.code c] .run:=by
     unfold Frame.enter
     simp[h1,h2]
    injection hs with e1 e2 e3
    subst e1 e2
    refine⟨Gr (Fm f2 (x++Array.replicate (fn.ntmps - x.size) undef) [.code c] .run) (Fm f t (.inRegion ops (i :: rest) :: (k++K)) .run :: cs'),_,⟨m,u,_,rfl,fun τ' d' hag=>?_,aft_seen (P:=P) ha f⟩,?_⟩
    ·unfold stepG.apply
     simp only[hdr τ' d' hag,if_true,en]
     rfl
    ·simp only[en]
     refine .enter hf2 (slT_enter hx _) h3 (by simp) fun ops2 i2 rest2 k2 e2 o2 ho2 s2 hs2 hm=>?_
     injection e2 with e3 e4
     injection e3 with e5 e6
     injection e6 with e7 e8
     subst e5 e7
     rw[ho] at ho2
     obtain rfl:=Option.some.inj ho2
     obtain⟨y,hy⟩:=op_free hop (by rw[hs2];simpa using hm) (Fm f t (.inRegion ops (i :: rest) :: k) .run).eval
     rw[←hs0,hy] at hrun
     injection hrun with q1 _
     injection q1 with q2 _
     cases q2
theorem run_step (H:LOk Z P L)(hT:TextsT L P){v w:World}(hw:Wr Z v w){f:FuncId}{t:Array Value}(ht:SlT L f t){k:List Item}(hk:todoT L P f k){G K:List Item}(hG:Inert G)(hK:k≠[]∨(G=[]∧K=[]))(main main':Bool)(cs cs':List Frame){g1:Goroutine}{v1:World}{es:Array Event}
  (hs:stepG P main (Gr (Fm f t (k++G) .run) cs) v=.go g1 v1 es) (hr:g1.status=.running) (hc:∀ch,g1.frame.mode≠.panicking ch) :
  ∃g1' w1,Stp Z P main' (Gr (Fm f t (k++K) .run) cs') w g1' w1 v1∧Nxt L P f t k G K cs cs' g1 g1':=by
 have ctl:∀ {k1:List Item} {m1:FrameMode},todoT L P f k1→(m1=.run∨m1=.returning)→(∀v,stepG P main (Gr (Fm f t (k++G) .run) cs) v=.go (Gr (Fm f t (k1++G) m1) cs) v #[])→(∀w,stepG P main' (Gr (Fm f t (k++K) .run) cs') w=.go (Gr (Fm f t (k1++K) m1) cs') w #[])→∃g1' w1,Stp Z P main' (Gr (Fm f t (k++K) .run) cs') w g1' w1 v1∧Nxt L P f t k G K cs cs' g1 g1':=fun {k1 m1} h1 h2 h3 h4=>by
  rw[h3] at hs
  injection hs with e1 e2 _
  subst e1 e2
  exact⟨_,w,.same h4 hw,.go ht h1 h2⟩
 cases k with
 | nil =>
  obtain⟨rfl,rfl⟩:=hK.resolve_left (by simp)
  exact ctl (k1:=[]) (m1:=.returning) todoT.nil (.inr rfl) (fun _=>rfl) (fun _=>rfl)
 | cons x k =>
  have hx:=hk.head
  have hk1:=hk.tail
  cases x with
  | inBlock id=>exact ctl (k1:=k) (m1:=.run) hk1 (.inl rfl) (fun _=>rfl) (fun _=>rfl)
  | inScope c=>exact ctl (k1:=k) (m1:=.run) hk1 (.inl rfl) (fun _=>rfl) (fun _=>rfl)
  | inLoop c=>exact ctl (k1:=.code c :: .inLoop c :: k) (m1:=.run) (.cons hx (.cons hx hk1)) (.inl rfl) (fun _=>rfl) (fun _=>rfl)
  | inRegion ops l =>
   cases l with
   | nil=>exact ctl (k1:=k) (m1:=.run) hk1 (.inl rfl) (fun _=>rfl) (fun _=>rfl)
   | cons i rest =>
    have e0:∀(main:Bool) (k:List Item) (cs:List Frame) (v:World),stepG P main (Gr (Fm f t (.inRegion ops (i :: rest) :: k) .run) cs) v=if ((ops[i]?).map (Region.wanted · (yielded ops t))).getD false then stepG.oper P true (Fm f t (.inRegion ops (i :: rest) :: k) .run) cs none v else .go (Gr (Fm f (putAt ops i t undef) (.inRegion ops rest :: k) .run) cs) v:=fun _ _ _ _=>rfl
    cases hwt:((ops[i]?).map (Region.wanted · (yielded ops t))).getD false with
    | false =>
     rw[List.cons_append,e0,hwt] at hs
     simp only[Bool.false_eq_true,if_false] at hs
     injection hs with e1 e2 _
     subst e1 e2
     refine⟨Gr (Fm f (putAt ops i t undef) (.inRegion ops rest :: k++K) .run) cs',w,.same (fun w=>?_) hw,.go (k1:=.inRegion ops rest :: k) (slT_undef ht ops i) (.cons (reg_tail hx) hk1) (.inl rfl)⟩
     rw[List.cons_append,e0,hwt]
     rfl
    | true =>
     cases hi:ops[i]? with
     | none=>rw[hi] at hwt;cases hwt
     | some o =>
      have e:∀(k:List Item) (cs:List Frame) (v:World),stepG.oper P true (Fm f t (.inRegion ops (i :: rest) :: k) .run) cs none v=stepG.apply P true (Fm f t (.inRegion ops (i :: rest) :: k) .run) cs none (execOp (Fm f t (.inRegion ops (i :: rest) :: k) .run).eval o) v:=fun k cs v=>by
       simp[stepG.oper,Frame.oper?,hi]
      rw[List.cons_append,e0,hwt] at hs
      simp only[if_true] at hs
      rw[e] at hs
      obtain⟨g1',w1,⟨m,u,es',h1,h2,h3⟩,hn⟩:=op_step H hT hw ht hk hi G K cs cs' hs hr hc
      refine⟨g1',w1,⟨m,u,es',h1,fun τ' d' hag=>?_,h3⟩,hn⟩
      rw[List.cons_append,e0,hwt]
      simp only[if_true]
      rw[e]
      exact h2 τ' d' hag
  | code c =>
   cases c with
   | skip=>exact ctl (k1:=k) (m1:=.run) hk1 (.inl rfl) (fun _=>rfl) (fun _=>rfl)
   | label l=>exact ctl (k1:=k) (m1:=.run) hk1 (.inl rfl) (fun _=>rfl) (fun _=>rfl)
   | ret=>exact ctl (k1:=.code .ret :: k) (m1:=.returning) hk (.inr rfl) (fun _=>rfl) (fun _=>rfl)
   | seq a b =>
    have h2:codeT L P f (.seq a b)=true:=hx
    rw[codeT,Bool.and_eq_true] at h2
    exact ctl (k1:=.code a :: .code b :: k) (m1:=.run) (.cons h2.1 (.cons h2.2 hk1)) (.inl rfl) (fun _=>rfl) (fun _=>rfl)
   | block id b=>exact ctl (k1:=.code b :: .inBlock id :: k) (m1:=.run) (.cons hx (.cons rfl hk1)) (.inl rfl) (fun _=>rfl) (fun _=>rfl)
   | loop b=>exact ctl (k1:=.code b :: .inLoop b :: k) (m1:=.run) (.cons hx (.cons hx hk1)) (.inl rfl) (fun _=>rfl) (fun _=>rfl)
   | scope b=>exact ctl (k1:=.code b :: .inScope b :: k) (m1:=.run) (.cons hx (.cons hx hk1)) (.inl rfl) (fun _=>rfl) (fun _=>rfl)
   | cond c a b =>
    have h2:codeT L P f (.cond c a b)=true:=hx
    rw[codeT,Bool.and_eq_true] at h2
    have e:∀(main:Bool) (k:List Item) (cs:List Frame) (v:World),stepG P main (Gr (Fm f t (.code (.cond c a b) :: k) .run) cs) v=match (Fm f t [] .run).eval c with
      | .bool q=>.go (Gr (Fm f t (.code (if q then a else b) :: k) .run) cs) v
      | _ => .ended (.stuck "cond: bool expected" ((Fm f t (.code (.cond c a b) :: k) .run).pos P)) v := fun _ _ _ _ => rfl
    cases hq:(Fm f t [] .run).eval c with
    | bool q=>exact ctl (k1:=.code (if q then a else b) :: k) (m1:=.run) (.cons (by cases q with|true=>exact h2.1|false=>exact h2.2) hk1) (.inl rfl) (fun v=>by rw[List.cons_append,e,hq];rfl) (fun w=>by rw[List.cons_append,e,hq];rfl)
    | _=>rw[List.cons_append,e,hq] at hs;cases hs
   | exit id =>
    cases hq:exitTo id (k++G) with
    | none =>
     have e : stepG P main (Gr (Fm f t (.code (.exit id) :: (k ++ G)) .run) cs) v = .ended (.stuck "exit, goto: no such block or label" ((Fm f t (.code (.exit id) :: (k ++ G)) .run).pos P)) v := by
      simp[stepG,stepG.exec,hq]
     rw[List.cons_append,e] at hs
     cases hs
    | some k0 =>
     obtain⟨k1,rfl,h1,h2⟩:=exit_app id hG hq
     exact ctl (k1:=k1) (m1:=.run) (hk1.exit id h1) (.inl rfl) (fun _=>by simp[stepG,stepG.exec,hq]) (fun _=>by simp[stepG,stepG.exec,h2 K])
   | goto l =>
    cases hq:gotoIn l (k++G) with
    | none =>
     have e : stepG P main (Gr (Fm f t (.code (.goto l) :: (k ++ G)) .run) cs) v = .ended (.stuck "exit, goto: no such block or label" ((Fm f t (.code (.goto l) :: (k ++ G)) .run).pos P)) v := by
      simp[stepG,stepG.exec,hq]
     rw[List.cons_append,e] at hs
     cases hs
    | some k0 =>
     obtain⟨k1,rfl,h1,h2⟩:=goto_app l hG hq
     exact ctl (k1:=k1) (m1:=.run) (hk1.goto l h1) (.inl rfl) (fun _=>by simp[stepG,stepG.exec,hq]) (fun _=>by simp[stepG,stepG.exec,h2 K])
   | region id ops draw =>
    cases draw with
    | false=>exact ctl (k1:=.inRegion ops (List.range ops.size) :: k) (m1:=.run) (.cons (reg_all hx _) hk1) (.inl rfl) (fun _=>rfl) (fun _=>rfl)
    | true =>
     have e:∀(main:Bool) (k:List Item) (cs:List Frame) (w:World),stepG P main (Gr (Fm f t (.code (.region id ops true) :: k) .run) cs) w=.go (Gr (Fm f t (.inRegion ops (Region.schedule (P.follows .mixedOrders) ops ((Question.order f id).cut (w.tape w.drawn (.order f id)))) :: k) .run) cs) { w with drawn:=w.drawn+1 }:=fun main k cs w=>by
      have hr2:(choose (.order f id)).run P w=.ok ((Question.order f id).cut (w.tape w.drawn (.order f id))) { w with drawn:=w.drawn+1 }:=by
       show (Sem.choose (.order f id) Sem.pure).run P w=_
       simp[Sem.run,Question.forced]
      simp[stepG,stepG.exec,hr2]
     rw[List.cons_append,e] at hs
     injection hs with e1 e2 _
     subst e1 e2
     refine⟨Gr (Fm f t (.inRegion ops (Region.schedule (P.follows .mixedOrders) ops ((Question.order f id).cut (v.tape v.drawn (.order f id)))) :: k++K) .run) cs',{ w with drawn:=w.drawn+1 },⟨1,w,#[],rfl,fun τ' d' ha=>?_,⟨⟨hw.size,hw.off,hw.here,hw.there,hw.nop,hw.tape,by dsimp only;rw[hw.drawn],hw.os,hw.out⟩,fun e he=>by simp at he,Nat.le_refl _,fun _ _=>rfl⟩⟩,.go (k1:=.inRegion ops (Region.schedule (P.follows .mixedOrders) ops ((Question.order f id).cut (v.tape v.drawn (.order f id)))) :: k) ht (.cons (reg_all hx _) hk1) (.inl rfl)⟩
     have h0:=ha 0 (by omega) (.order f id)
     rw[Nat.add_zero,Nat.add_zero] at h0
     rw[List.cons_append,e]
     simp only[h0,hw.tape,hw.drawn]
     rfl
   | rangeFunc f2 ps as b=>cases hx
   | refuse why=>cases hx
  | _=>cases hx
end
end Go.Proofs.YtjeicikflkjacaaGreatDoor.Po

/- Goroutine 0 beside leavers: returns, stacks of frames. -/
set_option linter.unusedSimpArgs false
set_option linter.unusedVariables false
namespace Go.Proofs.YtjeicikflkjacaaGreatDoor.Po
open Go
open Par (Fm Gr on onT Ag runT_draws putAt stopper lone_eq lone_go lone_ended)
section
variable {Z:Zs} {P:Program} {L:Lx}
theorem ye_results (fn:Func)(t:Array Value):Ye Z P (results fn t):=by
 unfold results
 refine Ye.bind (ye_mapM (fun a=>?_) _) fun x=>?_
 ·cases a with
  | tmp s=>exact .pure trivial
  | cell a ty=>exact Ye.bind (ye_asAddr _) fun _=>ye_loadVar _ _
 ·exact .pure trivial
theorem results_step {main:Bool}{f:FuncId}{fn:Func}(hf:P.funcs[f]?=some fn){t:Array Value}{k:List Item}{c:Frame}{cs:List Frame}{v v1:World}{u:Value}{es:Array Event}(hr:(results fn t).runT P v #[]=(.ok u v1,es)):stepG P main (Gr (Fm f t k .returning) (c :: cs)) v=.go (Gr (c.finish u) cs) v1 (seen P f es):=by
 have h2:(results fn t).run P v=.ok u v1:=by rw[←Sem.runT_fst P _ v #[],hr]
 have h3:(results fn t).events P v #[]=es:=by unfold Sem.events;rw[hr]
 simp[stepG,unwind,doReturn,hf,h2,h3,GStep.after]
theorem ret_step {v w:World}(hw:Wr Z v w){f:FuncId}{fn:Func}(hf:P.funcs[f]?=some fn){t:Array Value}{k:List Item}{main:Bool}{c:Frame}{cs:List Frame}{g1:Goroutine}{v1:World}{es:Array Event}(hs:stepG P main (Gr (Fm f t k .returning) (c :: cs)) v=.go g1 v1 es) :
  ∃u w1,g1=Gr (c.finish u) cs∧∀(main':Bool) (k':List Item) (c':Frame) (cs':List Frame),Stp Z P main' (Gr (Fm f t k' .returning) (c' :: cs')) w (Gr (c'.finish u) cs') w1 v1:=by
 cases hr:(results fn t).runT P v #[] with
 | mk r es0 =>
  cases r with
  | halt q v2 =>
   exfalso
   have h2:(results fn t).run P v=.halt q v2:=by rw[←Sem.runT_fst P _ _ #[],hr]
   have:∃o es2,stepG P main (Gr (Fm f t k .returning) (c :: cs)) v=.ended o v2 es2:=by
    cases q<;>exact⟨_,_,by simp[stepG,unwind,hf,h2,GStep.after];first|done|exact⟨rfl,rfl⟩⟩
   obtain⟨o,es3,e⟩:=this
   rw[e] at hs
   cases hs
  | ok u v2 =>
   obtain⟨_,m,u2,new,hdr,ha⟩:=yes_draws (ye_results (Z:=Z) fn t) hw hr
   rw[results_step hf hr] at hs
   injection hs with h1 h2 _
   subst h1 h2
   refine⟨u,_,rfl,fun main' k' c' cs'=>⟨m,u2,seen P f new,rfl,fun τ' d' hag=>results_step hf (hdr τ' d' hag),?_⟩⟩
   have:=aft_seen (P:=P) ha f
   rwa [Array.append_empty] at this
inductive Lost:Frame→List Frame→Prop
 | pan (f:FuncId) (t:Array Value) (k:List Item) (ch:List PanicEntry) (cs:List Frame) (h:∀c∈cs,∃f t k,c=Fm f t k .run):Lost (Fm f t k (.panicking ch)) (cs++[stopper])
 | back:Lost stopper []
 | hit (ch:List PanicEntry):Lost { stopper with mode:=.panicking ch } []
theorem Lost.never {fr:Frame}{cs:List Frame}(h:Lost fr cs):∀(n:Nat) (w:World) (fr2:Frame) (w2:World),(∀ch,fr2.mode≠.panicking ch)→runN P n (lone fr cs w)≠.next (lone fr2 [stopper] w2):=by
 intro n
 induction n generalizing fr cs with
 | zero =>
  intro w fr2 w2 hm hr
  have e:lone fr cs w=lone fr2 [stopper] w2:=by
   have:Stepped.next (lone fr cs w)=.next (lone fr2 [stopper] w2):=hr
   injection this
  have e1:fr=fr2:=by
   have:=congrArg (fun m:Machine=>m.gs[0]?.map (·.frame)) e
   simpa [lone] using this
  have e2:cs=[stopper]:=by
   have:=congrArg (fun m:Machine=>m.gs[0]?.map (·.callers)) e
   simpa [lone] using this
  subst e1
  cases h with
  | pan=>exact hm _ rfl
  | back=>cases e2
  | hit=>cases e2
 | succ n ih =>
  intro w fr2 w2 hm hr
  have key:(∃o w',step P (lone fr cs w)=.ended o w')∨∃fr1 cs1 w1,step P (lone fr cs w)=.next (lone fr1 cs1 w1)∧Lost fr1 cs1:=by
   cases h with
   | back =>
    exact Or.inl ⟨_,_,step_lone_ended (w':=w) rfl⟩
   | hit ch =>
    refine Or.inl ⟨_, _, step_lone_ended (o := .unsupported (.noEntry "machine/Return: a deferred call of a nil function value, made while the frame is unwinding") (Frame.pos P { stopper with mode := .panicking ch, defers := [] })) (w' := w) ?_⟩
    rfl
   | pan f t k ch cs hcs =>
    by_cases hq:(Fm f t k (.panicking ch)).catches P=true
    ·refine Or.inl ⟨_, _, step_lone_ended (o := .unsupported (.noEntry "a panic or Goexit out of a method that fmt calls behind a cut's door") (Frame.pos P (Fm f t k (.panicking ch)))) (w' := w) ?_⟩
     cases cs<;>simp[stepG,unwind,hq]
    ·cases cs with
     | nil =>
      refine Or.inr ⟨_,_,w,step_lone_go (fr':={ stopper with mode:=.panicking ch }) (cs':=[]) (w':=w) ?_,.hit ch⟩
      simp[stepG,unwind,hq,Frame.raise,stopper]
     | cons c cs =>
      obtain⟨f2,t2,k2,rfl⟩:=hcs c (by simp)
      refine Or.inr ⟨_,_,w,step_lone_go (fr':=Fm f2 t2 k2 (.panicking ch)) (cs':=cs++[stopper]) (w':=w) ?_,.pan f2 t2 k2 ch cs fun c hc=>hcs c (by simp[hc])⟩
      simp[stepG,unwind,hq,Frame.raise]
  rcases key with⟨o,w',e⟩|⟨fr1,cs1,w1,e,hd⟩
  ·simp[runN,e] at hr
  ·simp only[runN,e] at hr
   exact ih hd w1 fr2 w2 hm hr
inductive CutC (L:Lx) (P:Program) (f:FuncId) (cf:Code):Code→Code→Prop
 | here:CutC L P f cf .skip cf
 | seq {a b b':Code} (ha:codeT L P f a=true) (h:CutC L P f cf b b'):CutC L P f cf (.seq a b) (.seq a b')
inductive CutS (L:Lx) (P:Program) (f:FuncId):Code→Code→Prop
 | here (cf:Code):CutS L P f (.loop .skip) cf
 | seq {a b b':Code} (ha:codeT L P f a=true) (h:CutS L P f b b'):CutS L P f (.seq a b) (.seq a b')
inductive Tl (L:Lx) (P:Program) (f:FuncId) (T:List Item):List Item→List Item→Prop
 | plain:Tl L P f T [] T
 | cut {cf c c':Code} {K:List Item} (hT:T=.code cf :: K) (h:CutC L P f cf c c'):Tl L P f T [.code c] (.code c' :: K)
 | stop {c c':Code} {K:List Item} (hT:T=[]) (h:CutS L P f c c'):Tl L P f T [.code c] (.code c' :: K)
theorem Tl.inert {f:FuncId}{T G K:List Item}(h:Tl L P f T G K):Inert G:=by
 cases h with
 | plain=>exact inert_nil
 | cut hT h=>exact inert_code _
 | stop hT h=>exact inert_code _
theorem CutC.size {f:FuncId}{cf c c':Code}(h:CutC L P f cf c c'):SizeOf.sizeOf cf≤SizeOf.sizeOf c':=by
 induction h with
 | here=>exact Nat.le_refl _
 | seq _ _ ih =>
  simp only[Code.seq.sizeOf_spec]
  omega
inductive Ks (L:Lx) (P:Program) (T:List Item) (base:List Frame):List Frame→List Frame→Prop
 | last {f:FuncId} {t:Array Value} {k G K:List Item} (hf:∃fn,P.funcs[f]?=some fn) (ht:SlT L f t) (hk:todoT L P f k) (hne:k≠[]) (hd:HeadFree L f k) (tl:Tl L P f T G K):Ks L P T base [Fm f t (k++G) .run,stopper] (Fm f t (k++K) .run :: base)
 | more {f:FuncId} {t:Array Value} {k:List Item} (hf:∃fn,P.funcs[f]?=some fn) (ht:SlT L f t) (hk:todoT L P f k) (hne:k≠[]) (hd:HeadFree L f k) {cs cs':List Frame} (h:Ks L P T base cs cs'):Ks L P T base (Fm f t k .run :: cs) (Fm f t k .run :: cs')
inductive UG (L:Lx) (P:Program) (T:List Item) (base:List Frame):Goroutine→Goroutine→Prop
 | bot {f:FuncId} {t:Array Value} {k G K:List Item} {m:FrameMode} (hf:∃fn,P.funcs[f]?=some fn) (ht:SlT L f t) (hk:todoT L P f k) (hm:m=.run∨m=.returning) (tl:Tl L P f T G K):UG L P T base (Gr (Fm f t (k++G) m) [stopper]) (Gr (Fm f t (k++K) m) base)
 | top {f:FuncId} {t:Array Value} {k:List Item} {m:FrameMode} (hf:∃fn,P.funcs[f]?=some fn) (ht:SlT L f t) (hk:todoT L P f k) (hm:m=.run∨m=.returning) {cs cs':List Frame} (h:Ks L P T base cs cs'):UG L P T base (Gr (Fm f t k m) cs) (Gr (Fm f t k m) cs')
variable {T:List Item} {base:List Frame}
theorem Ks.form {cs cs':List Frame}(h:Ks L P T base cs cs'):(∃cs0,cs=cs0++[stopper]∧cs0≠[]∧∀c∈cs0,∃f t k,c=Fm f t k .run)∧base.length<cs'.length:=by
 induction h with
 | @last f t k G K=>exact⟨⟨[Fm f t (k++G) .run],rfl,by simp,fun c hc=>⟨f,t,k++G,by simpa using hc⟩⟩,by simp⟩
 | @more f t k _ _ _ _ _ cs cs' _ ih =>
  obtain⟨⟨cs0,e,hne,h⟩,hl⟩:=ih
  refine⟨⟨Fm f t k .run :: cs0,by rw[e];rfl,by simp,fun c hc=>?_⟩,by simp;omega⟩
  rcases List.mem_cons.1 hc with rfl|hc
  ·exact⟨f,t,k,rfl⟩
  ·exact h c hc
theorem finish_at {f:FuncId}{t:Array Value}{k:List Item}(ht:SlT L f t)(hk:todoT L P f k)(hne:k≠[])(hd:HeadFree L f k)(u:Value):∃t1 k1,SlT L f t1∧todoT L P f k1∧∀K,(Fm f t (k++K) .run).finish u=Fm f t1 (k1++K) .run:=by
 cases k with
 | nil=>exact absurd rfl hne
 | cons x k =>
  cases x with
  | inRegion ops l =>
   cases l with
   | nil=>exact⟨t,_,ht,hk,fun K=>rfl⟩
   | cons i rest =>
    refine⟨putAt ops i t u,.inRegion ops rest :: k,?_,.cons (reg_tail hk.head) hk.tail,fun K=>rfl⟩
    cases ho:ops[i]? with
    | none =>
     unfold Par.putAt
     rw[ho]
     exact ht
    | some o=>exact slT_put ht ho fun s hs hm=>absurd hm (hd ops i rest k rfl o ho s hs)
  | code c=>exact⟨t,_,ht,hk,fun K=>rfl⟩
  | inBlock id=>exact⟨t,_,ht,hk,fun K=>rfl⟩
  | inLoop c=>exact⟨t,_,ht,hk,fun K=>rfl⟩
  | inScope c=>exact⟨t,_,ht,hk,fun K=>rfl⟩
  | _=>exact absurd hk.head (by simp[itemT])
end
end Go.Proofs.YtjeicikflkjacaaGreatDoor.Po
