/- The tape: a run looks at the answers that it draws, and at no others. -/
import GoSem.Dispatch
import Derived.Test.YtjeicikflkjacaaGreatDoorM19
namespace Go.Proofs.YtjeicikflkjacaaGreatDoor.Par
open Go
abbrev on (v:World) (τ:Nat→Question→Nat) (d:Nat):World:={ v with tape:=τ,drawn:=d }
def onT {α:Type}(r:Result α)(τ:Nat→Question→Nat)(d:Nat):Result α:=match r with
 | .ok a w=>.ok a (on w τ d)
 | .halt h w=>.halt h (on w τ d)
theorem on_farLoad (P:Program)(v:World)(τ:Nat→Question→Nat)(d:Nat)(a:Addr)(b:Bool):(on v τ d).farLoad P a b=v.farLoad P a b:=rfl
theorem on_viewStore (P:Program)(v:World)(τ:Nat→Question→Nat)(d:Nat)(at_:Addr)(u:TypeId)(a:Addr)(x:Value)(b:Bool):(on v τ d).viewStore P at_ u a x b=(v.viewStore P at_ u a x b).map fun p=>(on p.1 τ d,p.2):=by
 unfold World.viewStore
 cases tight P P.depth u with
 | false=>rfl
 | true =>
  have e:(on v τ d).seen P at_ u a b=v.seen P at_ u a b:=rfl
  rw[e]
  cases v.seen P at_ u a b with
  | error q=>rfl
  | ok z =>
   obtain⟨c,e,fz,first,like,cells⟩:=z
   cases x.bytes? with
   | none =>
    simp only[bind,Except.bind,Bool.not_true,Bool.false_eq_true,if_false]
    rfl
   | some bytes =>
    by_cases hl:some bytes.length≠like.bytes?.map (·.length)
    ·simp only[bind,Except.bind,if_pos hl,Bool.not_true,Bool.false_eq_true,if_false]
     rfl
    ·simp only[bind,Except.bind,hl,if_false,pure,Except.pure,Bool.not_true,Bool.false_eq_true]
     split
     ·rfl
     ·rfl
theorem on_farStore (P:Program)(v:World)(τ:Nat→Question→Nat)(d:Nat)(a:Addr)(x:Value)(b:Bool):(on v τ d).farStore P a x b=(v.farStore P a x b).map fun p=>(on p.1 τ d,p.2):=by
 have e:∀v:World,v.farStore P a x b=match v.heap[a.block]? with
   | some (.view at_ u)=>match v.viewStore P at_ u a x b with
    | .ok r=>.ok r
    | .error why=>.error (.unsupported (.unsafePointer why))
   | _ => .error (v.noCell a "store: no such cell") := fun v => rfl
 rw[e,e]
 show (match v.heap[a.block]? with
   | some (.view at_ u)=>match (on v τ d).viewStore P at_ u a x b with
    | .ok r=>(Except.ok r:Except Halt (World × List Addr))
    | .error why=>.error (.unsupported (.unsafePointer why))
   | _ => .error (v.noCell a "store: no such cell")) = _
 cases v.heap[a.block]? with
 | none=>rfl
 | some o =>
  cases o with
  | view at_ u =>
   dsimp only
   rw[on_viewStore]
   cases v.viewStore P at_ u a x b<;>rfl
  | _=>rfl
def storeT {α:Type}(P:Program)(m:Mode)(a:Addr)(u:Value)(k:Sem α)(v:World)(es:Array Event):Result α × Array Event:=match v.cell? a with
 | some _ => if v.frozen? a then (.halt (.unsupported (.unsafePointer "a write to bytes that a string shares")) v, es) else k.runT P (v.setCell a u) (es.push ⟨.cell a, true, m == .atomic⟩)
 | none=>match v.farStore P a u (m==.atomic) with
  | .ok (w,touched)=>k.runT P w (es++touched.toArray.map (⟨.cell ·,true,m==.atomic⟩))
  | .error h=>(.halt h v,es)
theorem runT_grow {α:Type}(P:Program)(s:Sem α):∀(v:World) (es:Array Event) (e:Event),e∈es→e∈(s.runT P v es).2:=by
 induction s with
 | pure a=>exact fun v es e h=>h
 | load m a k ih =>
  intro v es e h
  simp only[Sem.runT]
  split
  ·exact ih _ _ _ _ (Array.mem_push_of_mem _ h)
  ·split
   ·exact ih _ _ _ _ (Array.mem_append_left _ h)
   ·exact h
 | store m a u k ih =>
  intro v es e h
  have main:e∈(storeT P m a u k v es).2:=by
   unfold storeT
   split
   ·split
    ·exact h
    ·exact ih _ _ _ (Array.mem_push_of_mem _ h)
   ·split
    ·exact ih _ _ _ (Array.mem_append_left _ h)
    ·exact h
  cases u<;>first|exact main|exact h
 | new o k ih=>exact fun v es e h=>ih _ _ _ _ h
 | shape r k ih=>exact fun v es e h=>ih _ _ _ _ h
 | freeze a n k ih=>exact fun v es e h=>ih _ _ _ h
 | frozen a k ih=>exact fun v es e h=>ih _ _ _ _ h
 | getObj r k ih =>
  intro v es e h
  simp only[Sem.runT]
  split
  ·exact h
  ·exact ih _ _ _ _ (Array.mem_push_of_mem _ h)
  ·exact h
 | setObj r o k ih =>
  intro v es e h
  simp only[Sem.runT]
  split
  ·exact h
  ·exact ih _ _ _ (Array.mem_push_of_mem _ h)
  ·exact h
 | choose q k ih =>
  intro v es e h
  simp only[Sem.runT]
  split
  ·exact ih _ _ _ _ h
  ·exact ih _ _ _ _ h
 | sys c k ih=>exact fun v es e h=>ih _ _ _ _ (Array.mem_push_of_mem _ h)
 | program k ih=>exact fun v es e h=>ih _ _ _ _ h
 | mark m k ih=>exact fun v es e h=>ih _ _ _ (Array.mem_push_of_mem _ h)
 | halt q=>exact fun v es e h=>h
def Ag (m:Nat)(τ:Nat→Question→Nat)(d:Nat)(τ':Nat→Question→Nat)(d':Nat):Prop:=∀i,i<m→∀q,τ' (d'+i) q=τ (d+i) q
def Draws {α:Type}(f:World→Result α × Array Event)(v:World)(τ:Nat→Question→Nat)(d:Nat):Prop :=
 (∀e∈(f (on v τ d)).2,e.loc≠.output)→∃m r,(f (on v τ d)).1=onT r τ (d+m)∧∀τ' d',Ag m τ d τ' d'→f (on v τ' d')=(onT r τ' (d'+m),(f (on v τ d)).2)
theorem draws_halt {α:Type}(h:Halt)(es:Array Event)(v:World)(τ:Nat→Question→Nat)(d:Nat):Draws (fun w=>((Result.halt h w:Result α),es)) v τ d:=fun _=>⟨0,.halt h v,rfl,fun _ _ _=>rfl⟩
theorem runT_draws {α:Type}(P:Program)(s:Sem α):∀(v:World) (es:Array Event) (τ:Nat→Question→Nat) (d:Nat),Draws (fun w=>s.runT P w es) v τ d:=by
 induction s with
 | pure a=>exact fun v es τ d _=>⟨0,.ok a v,rfl,fun _ _ _=>rfl⟩
 | load m a k ih =>
  intro v es τ d
  have e:∀τ d,(Sem.load m a k).runT P (on v τ d) es=match v.cell? a with
    | some u=>(k u).runT P (on v τ d) (es.push ⟨.cell a,false,m==.atomic⟩)
    | none=>match v.farLoad P a (m==.atomic) with
     | .ok (u,touched)=>(k u).runT P (on v τ d) (es++touched.toArray.map (⟨.cell ·,false,m==.atomic⟩))
     | .error h=>(.halt h (on v τ d),es):=fun τ d=>by
   have c:(on v τ d).cell? a=v.cell? a:=rfl
   simp only[Sem.runT,on_farLoad,c]
   cases v.cell? a with
   | some u=>rfl
   | none =>
    dsimp only
    cases v.farLoad P a (m==.atomic)<;>rfl
  unfold Draws
  simp only[e]
  cases v.cell? a with
  | some u=>exact ih u v _ τ d
  | none =>
   dsimp only
   cases v.farLoad P a (m==.atomic) with
   | error h=>exact draws_halt h es v τ d
   | ok z=>exact ih z.1 v _ τ d
 | store m a u k ih =>
  intro v es τ d
  have main:Draws (fun w=>storeT P m a u k w es) v τ d:=by
   have e:∀τ d,storeT P m a u k (on v τ d) es=match v.cell? a with
     | some _ => if v.frozen? a then (.halt (.unsupported (.unsafePointer "a write to bytes that a string shares")) (on v τ d), es) else k.runT P (on (v.setCell a u) τ d) (es.push ⟨.cell a, true, m == .atomic⟩)
     | none=>match v.farStore P a u (m==.atomic) with
      | .ok (w,touched)=>k.runT P (on w τ d) (es++touched.toArray.map (⟨.cell ·,true,m==.atomic⟩))
      | .error h=>(.halt h (on v τ d),es):=fun τ d=>by
    unfold storeT
    rw[on_farStore]
    show (match v.cell? a with|some _=>_|none=>_)=_
    cases v.cell? a with
    | some z=>rfl
    | none =>
     dsimp only
     cases v.farStore P a u (m==.atomic)<;>rfl
   unfold Draws
   simp only[e]
   cases v.cell? a with
   | some z =>
    dsimp only
    cases v.frozen? a with
    | true=>exact draws_halt _ es v τ d
    | false=>exact ih (v.setCell a u) _ τ d
   | none =>
    dsimp only
    cases v.farStore P a u (m==.atomic) with
    | error h=>exact draws_halt h es v τ d
    | ok z=>exact ih z.1 _ τ d
  cases u<;>first|exact main|exact draws_halt _ es v τ d
 | new o k ih=>exact fun v es τ d=>ih v.heap.size { v with heap:=v.heap.push o } es τ d
 | shape r k ih=>exact fun v es τ d=>ih (v.shape? r) v es τ d
 | freeze a n k ih =>
  intro v es τ d
  have e:∀τ d,(on v τ d).freeze a n=on (v.freeze a n) τ d:=fun τ d=>by
   unfold World.freeze
   split<;>rfl
  have h:=ih (v.freeze a n) es τ d
  unfold Draws at h ⊢
  simp only[←e] at h
  exact h
 | frozen a k ih=>exact fun v es τ d=>ih (v.frozen? a) v es τ d
 | getObj r k ih =>
  intro v es τ d
  unfold Draws
  simp only[Sem.runT]
  cases v.heap[r]? with
  | none=>exact draws_halt _ es v τ d
  | some o=>cases o<;>first|exact ih _ v _ τ d|exact draws_halt _ es v τ d
 | setObj r o k ih =>
  intro v es τ d
  unfold Draws
  simp only[Sem.runT]
  cases v.heap[r]? with
  | none=>exact draws_halt _ es v τ d
  | some z=>cases z<;>first|exact ih { v with heap:=v.heap.setIfInBounds r o } _ τ d|exact draws_halt _ es v τ d
 | choose q k ih =>
  intro v es τ d
  unfold Draws
  simp only[Sem.runT]
  cases hq:q.forced with
  | true=>exact ih 0 v es τ d
  | false =>
   simp only[Bool.false_eq_true,if_false]
   intro he
   obtain⟨m,r,h1,h2⟩:=ih (q.cut (τ d q)) v es τ (d+1) he
   refine⟨m+1,r,by rw[show d+(m+1)=d+1+m by omega];exact h1,fun τ' d' ha=>?_⟩
   have h0:τ' d' q=τ d q:=by simpa using ha 0 (by omega) q
   rw[h0,show d'+(m+1)=d'+1+m by omega]
   exact h2 τ' (d'+1) fun i hi q=>by
    have:=ha (i+1) (by omega) q
    rw[show d'+1+i=d'+(i+1) by omega,show d+1+i=d+(i+1) by omega]
    exact this
 | sys c k ih =>
  intro v es τ d he
  exact absurd rfl (he ⟨.output,true,false⟩ (runT_grow P (k ((on v τ d).sys c).1) ((on v τ d).sys c).2 (es.push ⟨.output,true,false⟩) _ Array.mem_push_self))
 | program k ih=>exact fun v es τ d=>ih P v es τ d
 | mark m k ih=>exact fun v es τ d=>ih v _ τ d
 | halt q=>exact fun v es τ d=>draws_halt q es v τ d
end Go.Proofs.YtjeicikflkjacaaGreatDoor.Par

/- A run in a memory of one's own: a step looks at the answers that it draws, and at no others. -/
namespace Go.Proofs.YtjeicikflkjacaaGreatDoor.Par
open Go
variable {Ok:Cx} {P:Program} {β:Bij} {E:Nat}
theorem Sim.draws {α:Type}{R:Bij→α→α→Prop}{s s':Sem α}(hs:Sim Ok P R β s s'){v W:World}{τ:Nat→Question→Nat}{d:Nat}(hW:WR Ok E β (on v τ d) W){n:α}{v1:World}{es:Array Event}(hr:s.runT P (on v τ d) #[]=(.ok n v1,es)) :
  ∃m u,v1=on u τ (d+m)∧∀τ' d',Ag m τ d τ' d'→s.runT P (on v τ' d') #[]=(.ok n (on u τ' (d'+m)),es):=by
 obtain⟨δ,_,_,_,_,_,es2,he⟩:=hs.vd (Bij.le_refl β) hW (EsR.empty _) hr
 have hno:∀e∈(s.runT P (on v τ d) #[]).2,e.loc≠.output:=fun e hm=>by
  rw[hr] at hm
  obtain⟨i,hi⟩:=Array.getElem?_of_mem hm
  have hlt:i<es2.size:=by
   rw[←he.1]
   exact (Array.getElem?_eq_some_iff.1 hi).1
  have hl:=(he.2 i e es2[i] hi (by simp[hlt])).loc
  intro q
  rw[q] at hl
  cases hl
 obtain⟨m,r,h1,h2⟩:=runT_draws P s v #[] τ d hno
 dsimp only at h1 h2
 rw[hr] at h1 h2
 cases r with
 | halt q w=>cases h1
 | ok a u =>
  have h3:(Result.ok n v1)=.ok a (on u τ (d+m)):=h1
  injection h3 with h4 h5
  subst h4
  exact⟨m,u,h5,h2⟩
def SD (S:World→GStep)(v:World)(τ:Nat→Question→Nat)(d:Nat):Prop :=
 ∀g1 v1 es,S (on v τ d)=.go g1 v1 es→(∀ch,g1.frame.mode≠.panicking ch)→∃m u,v1=on u τ (d+m)∧∀τ' d',Ag m τ d τ' d'→S (on v τ' d')=.go g1 (on u τ' (d'+m)) es
theorem SD.same {S:World→GStep}{g:Goroutine}(h:∀w,S w=.go g w)(v:World)(τ:Nat→Question→Nat)(d:Nat):SD S v τ d:=fun g1 v1 es hs _=>by
 rw[h] at hs
 injection hs with h1 h2 h3
 subst h1
 subst h2
 subst h3
 exact⟨0,v,rfl,fun τ' d' _=>h _⟩
theorem SD.ended {S:World→GStep}(v:World)(τ:Nat→Question→Nat)(d:Nat)(h:∃o w es,S (on v τ d)=.ended o w es):SD S v τ d:=fun g1 v1 es hs _=>by
 obtain⟨o,w,es2,e⟩:=h
 rw[e] at hs
 cases hs
theorem apply_draws {s s':Sem Next}(hs:Sim Ok P (NR Ok) β s s'){v W:World}{τ:Nat→Question→Nat}{d:Nat}(hW:WR Ok E β (on v τ d) W)(f:FuncId)(t:Array Value)(ops:Array Oper)(i:Nat)(rest:List Nat)(k:List Item)(cs:List Frame):SD (stepG.apply P true (Fm f t (.inRegion ops (i :: rest) :: k) .run) cs none s) v τ d:=by
 intro g1 v1 es h hp
 cases hr:s.runT P (on v τ d) #[] with
 | mk r es2 =>
  cases r with
  | halt q w =>
   have hm:=(hs E β (Bij.le_refl β) _ W hW #[] #[] (EsR.empty _)).2 q w es2 hr
   unfold stepG.apply at h
   simp only[hr,if_true] at h
   cases hm with
   | panic u =>
    injection h with h1 _ _
    exact absurd (by rw[←h1];rfl) (hp _)
   | stuck w=>cases h
   | unsupported u hu=>cases u<;>first|cases h|exact absurd rfl (hu _)
  | ok n w =>
   obtain⟨_,n',hn,_⟩:=hs.vd (Bij.le_refl β) hW (EsR.empty _) hr
   obtain⟨m,u,rfl,h2⟩:=hs.draws hW hr
   unfold stepG.apply at h
   simp only[hr,if_true] at h
   refine⟨m,u,?_,fun τ' d' ha=>?_⟩
   ·cases hn<;>(injection h with _ h1 _;exact h1.symm)
   ·have hr':=h2 τ' d' ha
    unfold stepG.apply
    simp only[hr',if_true]
    cases hn<;>(injection h with h1 _ h3;subst h1;subst h3;rfl)
theorem step_draws (hG:Ok.G=P.globals.size)(hB:Bodies Ok P)(hgl:∀g,Ok.gl g→β.r g g){v W:World}{τ:Nat→Question→Nat}{d:Nat}(hW:WR Ok E β (on v τ d) W)(f:FuncId){t t':Array Value}(ht:AR Ok β.r t t')(k:List Item)(hk:KOk Ok P k)(main:Bool)(cs:List Frame) :
  SD (stepG P main (Gr (Fm f t k .run) cs)) v τ d:=by
 cases k with
 | nil=>exact SD.same (fun _=>rfl) v τ d
 | cons x k =>
  have hx:=hk.head
  cases hx with
  | inBlock id=>exact SD.same (fun _=>rfl) v τ d
  | inScope h=>exact SD.same (fun _=>rfl) v τ d
  | inLoop h=>exact SD.same (fun _=>rfl) v τ d
  | inRegion ops l ho =>
   cases l with
   | nil=>exact SD.same (fun _=>rfl) v τ d
   | cons i rest =>
    have e0:stepG P main (Gr (Fm f t (.inRegion ops (i :: rest) :: k) .run) cs)=fun v=>if ((ops[i]?).map (Region.wanted · (yielded ops t))).getD false then stepG.oper P true (Fm f t (.inRegion ops (i :: rest) :: k) .run) cs none v else .go (Gr (Fm f (putAt ops i t undef) (.inRegion ops rest :: k) .run) cs) v:=rfl
    rw[e0]
    split
    ·cases hi:ops[i]? with
     | none=>exact SD.ended v τ d ⟨_,_,_,by simp[stepG.oper,Frame.oper?,hi];exact⟨rfl,rfl,rfl⟩⟩
     | some o =>
      have e:stepG.oper P true (Fm f t (.inRegion ops (i :: rest) :: k) .run) cs none=stepG.apply P true (Fm f t (.inRegion ops (i :: rest) :: k) .run) cs none (execOp (Fm f t (.inRegion ops (i :: rest) :: k) .run).eval o):=by
       funext v
       simp[stepG.oper,Frame.oper?,hi]
      show SD (stepG.oper P true (Fm f t (.inRegion ops (i :: rest) :: k) .run) cs none) v τ d
      rw[e]
      exact apply_draws (sim_execOp hG hB (eval_like hgl f ht _ _) o (ho o (Array.mem_of_getElem? hi))) hW f t ops i rest k cs
    ·exact SD.same (fun _=>rfl) v τ d
  | code hc =>
   cases hc with
   | skip=>exact SD.same (fun _=>rfl) v τ d
   | label l=>exact SD.same (fun _=>rfl) v τ d
   | ret=>exact SD.same (fun _=>rfl) v τ d
   | seq h1 h2=>exact SD.same (fun _=>rfl) v τ d
   | block id h=>exact SD.same (fun _=>rfl) v τ d
   | loop h=>exact SD.same (fun _=>rfl) v τ d
   | scope h=>exact SD.same (fun _=>rfl) v τ d
   | @cond c a b h h1 h2 =>
    have e:stepG P main (Gr (Fm f t (.code (.cond c a b) :: k) .run) cs)=fun v=>match (Fm f t (.code (.cond c a b) :: k) .run).eval c with
      | .bool q=>.go (Gr (Fm f t (.code (if q then a else b) :: k) .run) cs) v
      | _ => .ended (.stuck "cond: bool expected" ((Fm f t (.code (.cond c a b) :: k) .run).pos P)) v := rfl
    rw[e]
    cases (Fm f t (.code (.cond c a b) :: k) .run).eval c<;>first|exact SD.same (fun _=>rfl) v τ d|exact SD.ended v τ d ⟨_,_,_,rfl⟩
   | exit id =>
    cases hq:exitTo id k with
    | none=>exact SD.ended v τ d ⟨_,_,_,by simp[stepG,stepG.exec,hq];exact⟨rfl,rfl,rfl⟩⟩
    | some k1=>exact SD.same (g:=Gr (Fm f t k1 .run) cs) (fun _=>by simp[stepG,stepG.exec,hq]) v τ d
   | goto l =>
    cases hq:gotoIn l k with
    | none=>exact SD.ended v τ d ⟨_,_,_,by simp[stepG,stepG.exec,hq];exact⟨rfl,rfl,rfl⟩⟩
    | some k1=>exact SD.same (g:=Gr (Fm f t k1 .run) cs) (fun _=>by simp[stepG,stepG.exec,hq]) v τ d
   | region id ops draw ho =>
    cases draw with
    | false=>exact SD.same (fun _=>rfl) v τ d
    | true =>
     have e:∀w:World,stepG P main (Gr (Fm f t (.code (.region id ops true) :: k) .run) cs) w=.go (Gr (Fm f t (.inRegion ops (Region.schedule (P.follows .mixedOrders) ops ((Question.order f id).cut (w.tape w.drawn (.order f id)))) :: k) .run) cs) { w with drawn:=w.drawn+1 }:=fun w=>by
      have hr2:(choose (.order f id)).run P w=.ok ((Question.order f id).cut (w.tape w.drawn (.order f id))) { w with drawn:=w.drawn+1 }:=by
       show (Sem.choose (.order f id) Sem.pure).run P w=_
       simp[Sem.run,Question.forced]
      simp[stepG,stepG.exec,hr2]
     intro g1 v1 es h _
     dsimp only at h
     rw[e] at h
     injection h with h1 h2 h3
     subst h1
     subst h2
     subst h3
     refine⟨1,v,rfl,fun τ' d' ha=>?_⟩
     have h0:=ha 0 (by omega) (.order f id)
     rw[Nat.add_zero,Nat.add_zero] at h0
     dsimp only
     rw[e]
     simp only[h0]
end Go.Proofs.YtjeicikflkjacaaGreatDoor.Par
