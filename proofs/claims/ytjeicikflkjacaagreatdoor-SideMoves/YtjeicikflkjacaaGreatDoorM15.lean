/- A run in a memory of one's own, and the same run elsewhere: what operations are made of. -/
import Derived.Test.YtjeicikflkjacaaGreatDoorPrM
import GoSem.Dispatch
namespace Go.Proofs.YtjeicikflkjacaaGreatDoor.Par
open Go
def ZeroAt (Ok:Cx)(P:Program)(t:TypeId):Prop:=∀i v,P.info? t=some i→i.zero=some v→∀β,VR Ok β v v
variable {Ok:Cx} {P:Program} {β:Bij}
def NoOk (P:Program){α:Type}(s:Sem α):Prop:=∀v es,∃q v1 es1,s.runT P v es=(.halt q v1,es1)∧Mild q
def Tame (P:Program){α:Type}(s:Sem α):Prop:=∀v es q v1 es1,s.runT P v es=(.halt q v1,es1)→Mild q
theorem Tame.bind {α δ:Type}{s:Sem α}{f:α→Sem δ}(hs:Tame P s)(h:∀a,Tame P (f a)):Tame P (s >>= f):=fun v es q v1 es1 hr=>by
 have hr':(s.bind f).runT P v es=(.halt q v1,es1):=hr
 rw[Sem.runT_bind'] at hr'
 cases e:s.runT P v es with
 | mk r e2 =>
  rw[e] at hr'
  cases r with
  | halt q2 w =>
   simp only at hr'
   injection hr' with h1 _
   injection h1 with h2 _
   exact h2 ▸ hs v es _ _ _ e
  | ok a v2=>exact h a v2 e2 _ _ _ hr'
theorem Tame.pure {α:Type}(a:α):Tame P (Pure.pure a):=fun v _ _ _ _ hs=>yields (a:=a) (v:=v) hs rfl
theorem Tame.program:Tame P Go.program:=fun v _ _ _ _ hs=>yields (a:=P) (v:=v) hs rfl
theorem Tame.new (o:Obj):Tame P (Go.newObj o):=fun v _ _ _ _ hs=>yields (a:=v.heap.size) (v:={ v with heap:=v.heap.push o }) hs rfl
theorem Tame.halt {α:Type}(h:Halt)(hm:Mild h:=by first|exact .panic _|exact .stuck _|exact .unsupported _ (fun g e=>by cases e)):Tame P (.halt h:Sem α):=fun v es q v1 es1 hs=>by
 have hs':((Result.halt h v:Result α),es)=(Result.halt q v1,es1):=hs
 injection hs' with h1 _
 injection h1 with h2 _
 exact h2 ▸ hm
theorem Tame.choose (q:Question):Tame P (Go.choose q):=fun v es h v1 es1 hs=>by
 have hs':(Sem.choose q Sem.pure).runT P v es=(.halt h v1,es1):=hs
 simp only[Sem.runT] at hs'
 by_cases hq:q.forced=true
 ·rw[if_pos hq] at hs'
  exact yields hs' rfl
 ·rw[if_neg hq] at hs'
  exact yields hs' rfl
theorem tame_underlying (t:TypeId):Tame P (underlying t):=by
 unfold underlying
 refine Tame.program.bind fun p=>?_
 cases p.underlying t with
 | none=>exact Tame.halt _
 | some i=>exact Tame.pure i
theorem tame_newVar (t:TypeId)(v:Value):Tame P (newVar t v):=(Tame.new _).bind fun _=>Tame.pure _
theorem tame_elemOf (t:TypeId):Tame P (elemOf t):=by
 unfold elemOf
 refine (tame_underlying t).bind fun d=>?_
 cases d<;>first|exact Tame.pure _|exact Tame.halt _
theorem NoOk.sim {α:Type}{R:Bij→α→α→Prop}{s:Sem α}(h:NoOk P s)(s':Sem α):Sim Ok P R β s s':=Sim.of (fun _ _ _ v _ _ es q v1 es1 hs=>by
  obtain⟨q2,v2,es2,hr,hm⟩:=h v es
  rw[hr] at hs
  injection hs with h1 _
  injection h1 with h2 _
  exact h2 ▸ hm) fun _ _ _ v _ _ es _ _ a v1 es1 hs=>by
 obtain⟨q2,v2,es2,hr,hm⟩:=h v es
 rw[hr] at hs
 injection hs with h1 _
 cases h1
theorem NoOk.halt {α:Type}(q:Halt)(hm:Mild q:=by first|exact .panic _|exact .stuck _|exact .unsupported _ (fun g e=>by cases e)):NoOk P (.halt q:Sem α):=fun v es=>⟨q,v,es,rfl,hm⟩
theorem NoOk.bind {α δ:Type}{s:Sem α}(ht:Tame P s){f:α→Sem δ}(h:∀a,NoOk P (f a)):NoOk P (s >>= f):=fun v es=>by
 show ∃q v1 es1,(s.bind f).runT P v es=(.halt q v1,es1)∧Mild q
 rw[Sem.runT_bind']
 cases hr:s.runT P v es with
 | mk r e2 =>
  cases r with
  | halt q w=>exact⟨q,w,e2,rfl,ht v es _ _ _ hr⟩
  | ok a v2=>exact h a v2 e2
theorem NoOk.first {α δ:Type}{s:Sem α}(h:NoOk P s)(f:α→Sem δ):NoOk P (s >>= f):=fun v es=>by
 show ∃q v1 es1,(s.bind f).runT P v es=(.halt q v1,es1)∧Mild q
 rw[Sem.runT_bind']
 obtain⟨q,v1,es1,hr,hm⟩:=h v es
 rw[hr]
 exact⟨q,v1,es1,rfl,hm⟩
theorem NoOk.panic {α:Type}(e:RuntimeError):NoOk P (runtimePanic e:Sem α):=by
 unfold runtimePanic
 refine NoOk.bind Tame.program fun p=>?_
 cases e with
 | bounds x y s c=>exact NoOk.halt _
 | error m=>exact NoOk.halt _
 | plain m=>exact NoOk.halt _
 | nilDeref=>exact NoOk.halt _
 | typeAssertion i c a m=>exact NoOk.bind (tame_elemOf _) fun _=>NoOk.bind (tame_newVar _ _) fun _=>NoOk.halt _
 | panicNil=>exact NoOk.bind (tame_elemOf _) fun _=>NoOk.bind (tame_newVar _ _) fun _=>NoOk.halt _
 | unhashable t=>exact NoOk.halt _
theorem NoOk.bounds {α:Type}(k:IntKind)(x y:Int)(c:BoundsCode):NoOk P (boundsPanic k x y c:Sem α):=by
 unfold boundsPanic
 dsimp only
 split
 ·exact NoOk.bind ((Tame.choose _).bind fun _=>Tame.pure _) fun _=>NoOk.panic _
 ·exact NoOk.bind (Tame.pure _) fun _=>NoOk.panic _
theorem Sim.panic {α:Type}{R:Bij→α→α→Prop}(e:RuntimeError)(s':Sem α):Sim Ok P R β (runtimePanic e) s':=(NoOk.panic e).sim s'
theorem Sim.bounds {α:Type}{R:Bij→α→α→Prop}(k:IntKind)(x y:Int)(c:BoundsCode)(s':Sem α):Sim Ok P R β (boundsPanic k x y c) s':=(NoOk.bounds k x y c).sim s'
abbrev VRr (Ok:Cx) (γ:Bij) (v v':Value):Prop:=VR Ok γ.r v v'
theorem sim_typeInfo (t:TypeId):Sim Ok P (fun _ i i'=>i=i'∧P.info? t=some i) β (typeInfo t) (typeInfo t):=by
 unfold typeInfo
 refine Sim.bind Sim.program fun γ p p' hl hp=>?_
 obtain⟨rfl,rfl⟩:=hp
 cases h:p'.info? t with
 | none=>exact Sim.stuck _ _
 | some i=>exact Sim.pure fun _ _=>⟨rfl,rfl⟩
theorem sim_underlying (t:TypeId):Sim Ok P (fun _ d d'=>d=d'∧P.underlying t=some d) β (underlying t) (underlying t):=by
 unfold underlying
 refine Sim.bind Sim.program fun γ p p' hl hp=>?_
 obtain⟨rfl,rfl⟩:=hp
 cases h:p'.underlying t with
 | none=>exact Sim.stuck _ _
 | some i=>exact Sim.pure fun _ _=>⟨rfl,rfl⟩
theorem sim_sizeOf (t:TypeId):Sim Ok P (fun _ n n'=>n=n') β (sizeOf t) (sizeOf t):=by
 unfold sizeOf
 refine Sim.bind (sim_typeInfo t) fun γ i i' hl hi=>?_
 obtain⟨rfl,_⟩:=hi
 exact Sim.pure fun _ _=>rfl
theorem sim_isAgg (t:TypeId):Sim Ok P (fun _ n n'=>n=n') β (isAgg t) (isAgg t):=by
 unfold isAgg
 refine Sim.bind (sim_underlying t) fun γ d d' hl hd=>?_
 obtain⟨rfl,_⟩:=hd
 cases d<;>exact Sim.pure fun _ _=>rfl
theorem sim_zero (t:TypeId)(hz:ZeroAt Ok P t):Sim Ok P (VRr Ok) β (zeroValue t) (zeroValue t):=by
 unfold zeroValue
 refine Sim.bind (sim_typeInfo t) fun γ i i' hl hi=>?_
 obtain⟨rfl,hi⟩:=hi
 cases h:i.zero with
 | none=>exact Sim.unsupported _ _
 | some v=>exact Sim.pure fun δ _=>hz i v hi h δ.r
theorem sim_askRoom (n:Nat):Sim Ok P (fun _ _ _=>True) β (askRoom n) (askRoom n):=by
 unfold askRoom
 split
 ·refine Sim.of (fun E γ hl v W hW es q v1 es1 hs=>yields (a:=()) (v:=v) (es:=es.push ⟨.mark .noRoom,false,true⟩) hs rfl) ?_
  intro E γ hl v W hW es es' he b v1 es1 hs
  have hs':(Result.ok () v,es.push ⟨.mark .noRoom,false,true⟩)=(Result.ok b v1,es1):=hs
  injection hs' with h1 h2
  injection h1 with h3 h4
  subst h4
  subst h2
  exact⟨γ,(),W,es'.push ⟨.mark .noRoom,false,true⟩,rfl,trivial,hW,Fr.refl γ v W,he.push ⟨.noRoom,rfl,rfl,fun h=>by cases h⟩⟩
 ·exact Sim.pure fun _ _=>trivial
theorem sim_asIntOf {x x':Value}(h:VR Ok β.r x x'):Sim Ok P (fun _ p p'=>p=p') β (asIntOf x) (asIntOf x'):=by
 cases h with
 | int k n=>exact Sim.pure fun _ _=>rfl
 | ptr o sp hb=>exact Sim.unsupported _ _
 | _=>exact Sim.stuck _ _
theorem sim_asInt {x x':Value}(h:VR Ok β.r x x'):Sim Ok P (fun _ p p'=>p=p') β (asInt x) (asInt x'):=by
 unfold asInt
 refine Sim.bind (sim_asIntOf h) fun γ p p' hl hp=>?_
 subst hp
 exact Sim.pure fun _ _=>rfl
theorem sim_asBool {x x':Value}(h:VR Ok β.r x x'):Sim Ok P (fun _ p p'=>p=p') β (asBool x) (asBool x'):=by
 cases h with
 | bool b=>exact Sim.pure fun _ _=>rfl
 | _=>exact Sim.stuck _ _
theorem sim_sure {x x':Value}(h:VR Ok β.r x x'):Sim Ok P AdR β (Instr.sureAddr x) (Instr.sureAddr x'):=by
 cases h with
 | ptr o sp hb=>exact Sim.pure fun γ hl=>⟨hl _ _ hb,rfl,rfl⟩
 | _=>exact Sim.stuck _ _
theorem sim_asAddr {x x':Value}(h:VR Ok β.r x x'):Sim Ok P AdR β (asAddr x) (asAddr x'):=by
 cases h with
 | ptr o sp hb=>exact Sim.pure fun γ hl=>⟨hl _ _ hb,rfl,rfl⟩
 | pnil =>
  show Sim Ok P AdR β (runtimePanic .nilDeref) _
  exact Sim.panic _ _
 | _=>exact Sim.stuck _ _
inductive LV (Ok:Cx) (β:Nat→Nat→Prop):List Value→List Value→Prop
 | nil:LV Ok β [] []
 | cons {u u':Value} {l l':List Value} (hu:VR Ok β u u') (hl:LV Ok β l l'):LV Ok β (u :: l) (u' :: l')
theorem LV.mono {β γ:Nat→Nat→Prop}(h:∀a b,β a b→γ a b){l l':List Value}(hl:LV Ok β l l'):LV Ok γ l l':=by
 induction hl with
 | nil=>exact .nil
 | cons hu _ ih=>exact .cons (hu.mono h) ih
theorem LV.of {γ:Nat→Nat→Prop}:∀ {l l':List Value},l.length=l'.length→(∀(i:Nat) (u u':Value),l[i]?=some u→l'[i]?=some u'→VR Ok γ u u')→LV Ok γ l l'
 | [],[],_,_=>.nil
 | [],_ :: _,h,_=>by simp at h
 | _ :: _,[],h,_=>by simp at h
 | u :: l,u' :: l',h,k=>.cons (k 0 u u' rfl rfl) (LV.of (by simpa using h) fun i z z' h1 h2=>k (i+1) z z' (by simpa using h1) (by simpa using h2))
theorem AR.list {γ:Nat→Nat→Prop}{x x':Array Value}(h:AR Ok γ x x'):LV Ok γ x.toList x'.toList:=LV.of (by simpa using h.1) fun i u u' h1 h2=>h.2 i u u' (by simpa using h1) (by simpa using h2)
theorem sim_loadCells {a a':Addr}:∀(n i:Nat) {β:Bij} {acc acc':Array Value},AdR β a a'→AR Ok β.r acc acc'→Sim Ok P (fun γ x x'=>AR Ok γ.r x x') β (loadCellsFrom a i n acc) (loadCellsFrom a' i n acc')
 | 0,_,_,_,_,_,hacc=>Sim.pure fun _ hl=>hacc.mono hl
 | n+1,i,β,acc,acc',ha,hacc=>by
  unfold loadCellsFrom
  refine Sim.bind (Sim.load (ha.add i) .plain) fun γ u u' hl hu=>?_
  exact sim_loadCells n (i+1) (ha.later hl) ((hacc.mono hl).push hu)
theorem sim_storeCells {a a':Addr}:∀ {l l':List Value} (i:Nat) {β:Bij},AdR β a a'→LV Ok β.r l l'→Sim Ok P (fun _ _ _=>True) β (storeCells a l i) (storeCells a' l' i)
 | [],[],_,_,_,_=>Sim.pure fun _ _=>trivial
 | u :: l,u' :: l',i,β,ha,.cons hu hl=>by
  unfold storeCells
  refine Sim.bind (Sim.store (ha.add i) hu .plain) fun γ _ _ hle _=>?_
  exact sim_storeCells (i+1) (ha.later hle) (hl.mono hle)
theorem sim_loadVar (t:TypeId){a a':Addr}(ha:AdR β a a'):Sim Ok P (VRr Ok) β (loadVar t a) (loadVar t a'):=by
 unfold loadVar
 refine Sim.bind (sim_isAgg t) fun γ b b' hl hb=>?_
 subst hb
 cases b with
 | false=>exact Sim.load (ha.later hl) .plain
 | true =>
  refine Sim.bind (sim_sizeOf t) fun γ1 n n' hl1 hn=>?_
  subst hn
  refine Sim.bind (sim_loadCells n 0 ((ha.later hl).later hl1) (AR.empty _)) fun γ2 x x' _ hx=>?_
  exact Sim.pure fun _ hl3=>(VR.agg hx.1 hx.2).mono hl3
theorem sim_storeVar (t:TypeId){a a':Addr}(ha:AdR β a a'){u u':Value}(hu:VR Ok β.r u u'):Sim Ok P (fun _ _ _=>True) β (storeVar t a u) (storeVar t a' u'):=by
 unfold storeVar
 refine Sim.bind (sim_sizeOf t) fun γ n n' hl hn=>?_
 subst hn
 have hc:=hu.cells
 rw[←hc.1]
 dsimp only
 split
 ·exact (NoOk.first (NoOk.halt _) _).sim _
 ·exact sim_storeCells 0 (ha.later hl) (hc.list.mono hl)
end Go.Proofs.YtjeicikflkjacaaGreatDoor.Par

/- A run in a memory of one's own, and the same run elsewhere: operations. -/
namespace Go.Proofs.YtjeicikflkjacaaGreatDoor.Par
open Go
variable {Ok:Cx} {P:Program} {β:Bij}
theorem sim_newRow (t:TypeId){x x':Array Value}(hx:AR Ok β.r x x'):Sim Ok P AdR β (newRow t x) (newRow t x'):=by
 unfold newRow
 refine Sim.bind (Sim.new (OR.cells t (0,0) (0,0) hx fun o h1 h2=>⟨h1,h2⟩) (fun _ _ _ _ _ _ h k=>by cases h;cases k;rfl)) fun γ r r' hl hr=>?_
 exact Sim.pure fun δ hd=>⟨hd _ _ hr,rfl,rfl⟩
theorem sim_newVar (t:TypeId){u u':Value}(hu:VR Ok β.r u u'):Sim Ok P AdR β (newVar t u) (newVar t u'):=sim_newRow t hu.cells
theorem sim_alloc (t:TypeId)(hz:ZeroAt Ok P t):Sim Ok P (VRr Ok) β (Instr.alloc t true (.tuple #[])) (Instr.alloc t true (.tuple #[])):=by
 unfold Instr.alloc
 refine Sim.bind (sim_zero t hz) fun γ u u' hl hu=>?_
 refine Sim.bind (sim_newVar t hu) fun γ1 a a' hl1 ha=>?_
 exact Sim.pure fun δ hd=>(ha.later hd).vr
theorem sim_box (t:TypeId){u u':Value}(hu:VR Ok β.r u u'):Sim Ok P (VRr Ok) β (Instr.box t u) (Instr.box t u'):=by
 unfold Instr.box
 refine Sim.bind (sim_newVar t hu) fun γ1 a a' hl1 ha=>?_
 exact Sim.pure fun δ hd=>(ha.later hd).vr
theorem sim_loadAt (t:TypeId){x x':Value}(h:VR Ok β.r x x'):Sim Ok P (VRr Ok) β (Instr.loadAt t x) (Instr.loadAt t x'):=by
 unfold Instr.loadAt
 refine Sim.bind (sim_sure h) fun γ a a' hl ha=>?_
 exact sim_loadVar t ha
theorem sim_storeAt (t:TypeId){x x' u u':Value}(h:VR Ok β.r x x')(hu:VR Ok β.r u u'):Sim Ok P (fun _ _ _=>True) β (Instr.storeAt t x u) (Instr.storeAt t x' u'):=by
 unfold Instr.storeAt
 refine Sim.bind (sim_sure h) fun γ a a' hl ha=>?_
 exact sim_storeVar t ha (hu.mono hl)
theorem sim_fieldAt (s:TypeId)(k:Nat)(hne:∀fs f i,P.underlying s=some (.struct fs)→fs[k]?=some f→P.info? f.type=some i→i.size≠0){x x':Value}(h:VR Ok β.r x x'):Sim Ok P (VRr Ok) β (Instr.fieldAt s x k) (Instr.fieldAt s x' k):=by
 unfold Instr.fieldAt
 refine Sim.bind (sim_underlying s) fun γ d d' hl hd=>?_
 obtain⟨rfl,hd⟩:=hd
 cases d with
 | struct fs =>
  dsimp only
  cases hf:fs[k]? with
  | none=>exact Sim.stuck _ _
  | some f =>
   dsimp only
   refine Sim.bind (sim_sure (h.mono hl)) fun γ1 a a' hl1 ha=>?_
   unfold fieldPlace sizeOf
   refine Sim.bind (R:=AdR) (Sim.bind (Sim.bind (sim_typeInfo f.type) fun γ2 i i' hl2 hi=>by
    exact Sim.pure (R:=fun _ n n'=>n=n'∧n≠0) fun _ _=>⟨by rw[hi.1],hne fs f i hd hf hi.2⟩) fun γ3 n n' hl3 hn=>?_) fun γ4 b b' hl4 hb=>Sim.pure fun δ hd=>(hb.later hd).vr
   obtain⟨rfl,hn0⟩:=hn
   rw[if_neg hn0,if_neg hn0]
   exact Sim.pure fun δ hd=>((ha.later hl3).later hd).add f.offset
 | _=>exact Sim.stuck _ _
theorem sim_indexAt (t : TypeId) {x x' y y' : Value} (h : VR Ok β.r x x') (hy : VR Ok β.r y y') : Sim Ok P (VRr Ok) β (Instr.indexAt t x y) (Instr.indexAt t x' y') := by
  unfold Instr.indexAt
  refine Sim.bind (sim_asIntOf hy) fun γ p p' hl hp => ?_
  subst hp
  obtain ⟨k, i⟩ := p
  dsimp only
  refine Sim.bind (sim_underlying t) fun γ1 d d' hl1 hd => ?_
  obtain ⟨rfl, hd⟩ := hd
  have h1 := (h.mono hl).mono hl1
  have fin : ∀ {γ2 : Bij} {base base' : Option Addr} {len : Nat} {elem : TypeId}, ((base = none ∧ base' = none) ∨ ∃ a a', base = some a ∧ base' = some a' ∧ AdR γ2 a a') → Sim Ok P (VRr Ok) γ2
      (do let tiny := len ≤ 1 && (match ← underlying t with | .array .. => true | _ => false)
          match base with
          | some a => if 0 ≤ i ∧ i < len then pure (.pointer (some (a.add (i.toNat * (← sizeOf elem))))) else if tiny then unsupported (.noEntry "op/indexAddr.an index out of range at an array of length 0 or 1 (ledger 616)") else boundsPanic k i len .index
          | none => boundsPanic k i 0 .index)
      (do let tiny := len ≤ 1 && (match ← underlying t with | .array .. => true | _ => false)
          match base' with
          | some a => if 0 ≤ i ∧ i < len then pure (.pointer (some (a.add (i.toNat * (← sizeOf elem))))) else if tiny then unsupported (.noEntry "op/indexAddr.an index out of range at an array of length 0 or 1 (ledger 616)") else boundsPanic k i len .index
          | none => boundsPanic k i 0 .index) := by
    intro γ2 base base' len elem hb
    refine Sim.bind (sim_underlying t) fun γ3 d3 d3' hl3 hd3 => ?_
    obtain ⟨rfl, _⟩ := hd3
    rcases hb with ⟨rfl, rfl⟩ | ⟨a, a', rfl, rfl, ha⟩
    · exact Sim.bounds _ _ _ _ _
    · dsimp only
      split
      · refine Sim.bind (sim_sizeOf elem) fun γ4 n n' hl4 hn => ?_
        subst hn
        exact Sim.pure fun δ hd => ((((ha.later hl3).later hl4).later hd).add _).vr
      · have nok : ∀ c : Bool, NoOk P (if c = true then (unsupported (.noEntry "op/indexAddr.an index out of range at an array of length 0 or 1 (ledger 616)") : Sem Value) else boundsPanic k i len .index) := fun c => by
          cases c
          · exact NoOk.bounds _ _ _ _
          · exact NoOk.halt _
        exact (nok _).sim _
  cases d with
  | array len elem =>
    exact Sim.bind (sim_sure h1) fun γ2 a a' hl2 ha => fin (Or.inr ⟨a, a', rfl, rfl, ha⟩)
  | slice elem =>
    cases h1 with
    | snil l c => exact fin (len := l) (elem := elem) (Or.inl ⟨rfl, rfl⟩)
    | slice o sp l c hb => exact fin (len := l) (elem := elem) (Or.inr ⟨⟨_, o, sp⟩, ⟨_, o, sp⟩, rfl, rfl, ⟨hb, rfl, rfl⟩⟩)
    | _ => exact (NoOk.first (NoOk.halt _) _).sim _
  | _ => cases h1 <;> exact (NoOk.first (NoOk.halt _) _).sim _
theorem sim_extract {x x':Value}(h:VR Ok β.r x x')(k:Nat):Sim Ok P (VRr Ok) β (Instr.extract x k) (Instr.extract x' k):=by
 cases h with
 | tuple hx hxx =>
  unfold Instr.extract
  dsimp only
  cases hk:(_:Array Value)[k]? with
  | none=>exact Sim.stuck _ _
  | some u =>
   obtain⟨u',hu',hv⟩:=(show AR Ok β.r _ _ from ⟨hx,hxx⟩).get hk
   rw[hu']
   exact Sim.pure fun δ hd=>hv.mono hd
 | _=>exact Sim.stuck _ _
theorem sim_makeInterface (t:TypeId){x x':Value}(h:VR Ok β.r x x'):Sim Ok P (VRr Ok) β (Instr.makeInterface t x) (Instr.makeInterface t x'):=by
 unfold Instr.makeInterface
 refine Sim.bind (sim_underlying t) fun γ d d' hl hd=>?_
 obtain⟨rfl,hd⟩:=hd
 cases d<;>first|exact Sim.stuck _ _|exact Sim.pure fun δ hd=>VR.iface t ((h.mono hl).mono hd)
theorem sim_makeMap (t:TypeId){x x':Option Value}(h:(x=none∧x'=none)∨∃u u',x=some u∧x'=some u'∧VR Ok β.r u u'):Sim Ok P (VRr Ok) β (Instr.makeMap t x) (Instr.makeMap t x'):=by
 have fin:∀ {γ:Bij},Sim Ok P (VRr Ok) γ (do pure (.map (some (← newObj (.map #[] 0))))) (do pure (.map (some (← newObj (.map #[] 0))))):=fun {γ} =>
  Sim.bind (Sim.new (OR.map 0 rfl fun i e e' h1=>by simp at h1)) fun γ1 r r' hl hr=>Sim.pure fun δ hd=>VR.map (hd _ _ hr)
 unfold Instr.makeMap
 rcases h with⟨rfl,rfl⟩|⟨u,u',rfl,rfl,hu⟩
 ·exact fin
 ·dsimp only
  refine Sim.bind (sim_underlying t) fun γ d d' hl hd=>?_
  obtain⟨rfl,hd⟩:=hd
  cases d with
  | map a b =>
   dsimp only
   refine Sim.bind (sim_asInt (hu.mono hl)) fun γ1 n n' hl1 hn=>?_
   exact fin
  | _=>exact (NoOk.first (NoOk.halt _) _).sim _
theorem AR.bang {γ:Nat→Nat→Prop}{x x':Array Value}(h:AR Ok γ x x')(k:Nat):VR Ok γ x[k]! x'[k]!:=by
 by_cases hk:k<x.size
 ·have hk':k<x'.size:=by rw[←h.1];exact hk
  rw[getElem!_pos x _ hk,getElem!_pos x' _ hk']
  exact h.2 k _ _ (Array.getElem?_eq_getElem hk) (Array.getElem?_eq_getElem hk')
 ·have hk':¬k<x'.size:=by rw[←h.1];exact hk
  rw[getElem!_neg x _ hk,getElem!_neg x' _ hk']
  exact .bool _
theorem AR.zeros {γ:Nat→Nat→Prop}{x x':Array Value}(h:AR Ok γ x x')(n:Nat):AR Ok γ ((Array.range n).map (x[· % x.size]!)) ((Array.range n).map (x'[· % x'.size]!)):=by
 refine⟨by simp,fun i u u' h1 h2=>?_⟩
 simp only[Array.getElem?_map,Option.map_eq_some_iff] at h1 h2
 obtain⟨j,hj,rfl⟩:=h1
 obtain⟨j',hj',rfl⟩:=h2
 rw[hj] at hj'
 obtain rfl:=Option.some.inj hj'
 rw[←h.1]
 exact h.bang _
theorem AR.getD {γ:Nat→Nat→Prop}{x x':Array Value}(h:AR Ok γ x x')(k:Nat){u u':Value}(hu:VR Ok γ u u'):VR Ok γ (x.getD k u) (x'.getD k u'):=by
 rw[Array.getD_eq_getD_getElem?,Array.getD_eq_getD_getElem?]
 cases hk:x[k]? with
 | none=>rw[h.get_none hk];exact hu
 | some z =>
  obtain⟨z',h1,h2⟩:=h.get hk
  rw[h1]
  exact h2
end Go.Proofs.YtjeicikflkjacaaGreatDoor.Par

/- A run in a memory of one's own, and the same run elsewhere: slices, maps, comparisons. -/
namespace Go.Proofs.YtjeicikflkjacaaGreatDoor.Par
open Go
variable {Ok:Cx} {P:Program} {β:Bij}
theorem sim_makeSlice (t:TypeId)(hz:∀e,P.underlying t=some (.slice e)→ZeroAt Ok P e){x x' y y':Value}(h:VR Ok β.r x x')(hy:VR Ok β.r y y'):Sim Ok P (VRr Ok) β (Instr.makeSlice t x y) (Instr.makeSlice t x' y'):=by
 unfold Instr.makeSlice
 refine Sim.bind (sim_underlying t) fun γ d d' hl hd=>?_
 obtain⟨rfl,hd⟩:=hd
 cases d with
 | slice elem =>
  dsimp only
  refine Sim.bind (sim_asInt (h.mono hl)) fun γ1 n n' hl1 hn=>?_
  subst hn
  refine Sim.bind (sim_asInt ((hy.mono hl).mono hl1)) fun γ2 c c' hl2 hc=>?_
  subst hc
  refine Sim.bind (sim_typeInfo elem) fun γ3 i i' hl3 hi=>?_
  obtain⟨rfl,hi⟩:=hi
  try dsimp only
  split
  ·refine NoOk.sim ?_ _
   split
   ·exact NoOk.first (NoOk.panic _) _
   ·split
    ·exact NoOk.first (NoOk.panic _) _
    ·exact NoOk.bind (Tame.choose _) fun _=>NoOk.first (NoOk.panic _) _
  ·refine Sim.bind (sim_askRoom _) fun γ4 _ _ hl4 _=>?_
   refine Sim.bind (sim_sizeOf elem) fun γ5 s s' hl5 hs=>?_
   subst hs
   have fin:∀ {γ6:Bij} {z z':Array Value},AR Ok γ6.r z z'→Sim Ok P (VRr Ok) γ6 (do
     let a ← newRow elem ((Array.range ((IntKind.i64.wrap c).toNat*s)).map (z[· % z.size]!))
     pure (.slice (some a) (IntKind.i64.wrap n).toNat (IntKind.i64.wrap c).toNat)) (do
     let a ← newRow elem ((Array.range ((IntKind.i64.wrap c).toNat*s)).map (z'[· % z'.size]!))
     pure (.slice (some a) (IntKind.i64.wrap n).toNat (IntKind.i64.wrap c).toNat)):=fun {γ6 z z'} hzz =>
    Sim.bind (sim_newRow elem (hzz.zeros _)) fun γ7 a a' _ ha=>Sim.pure fun δ hd=>(ha.later hd).sl _ _
   try dsimp only
   split
   ·exact fin (AR.empty _)
   ·refine Sim.bind (sim_zero elem (hz elem hd)) fun γ6 u u' hl6 hu=>?_
    exact fin (VR.cells hu)
 | _=>exact (NoOk.halt _).sim _
theorem sim_sliceBound {x x':Value}(h:VR Ok β.r x x')(y:Nat)(c:BoundsCode):Sim Ok P (fun _ n n'=>n=n') β (Instr.sliceBound x y c) (Instr.sliceBound x' y c):=by
 unfold Instr.sliceBound
 refine Sim.bind (sim_asIntOf h) fun γ p p' hl hp=>?_
 subst hp
 obtain⟨k,i⟩:=p
 dsimp only
 split
 ·exact Sim.pure fun _ _=>rfl
 ·exact Sim.bounds _ _ _ _ _
def OV (Ok:Cx)(β:Bij)(x x':Option Value):Prop:=(x=none∧x'=none)∨∃u u',x=some u∧x'=some u'∧VR Ok β.r u u'
theorem OV.later {γ:Bij}{x x':Option Value}(h:OV Ok β x x')(hl:β.le γ):OV Ok γ x x':=by
 rcases h with h|⟨u,u',h1,h2,h3⟩
 ·exact Or.inl h
 ·exact Or.inr ⟨u,u',h1,h2,h3.mono hl⟩
def lowS (lo:Option Value)(m h:Nat)(c:BoundsCode):Sem (Nat × Nat × Nat) :=
 match lo with
 | some v=>do let l ← Instr.sliceBound v h c;pure (l,h,m)
 | none=>do let l ← pure 0;pure (l,h,m)
theorem sim_low {lo lo':Option Value}(h1:OV Ok β lo lo')(m h:Nat)(c:BoundsCode):Sim Ok P (fun _ q q'=>q=q') β (lowS lo m h c) (lowS lo' m h c):=by
 rcases h1 with⟨rfl,rfl⟩|⟨u,u',rfl,rfl,hu⟩
 ·exact Sim.pure fun _ _=>rfl
 ·exact Sim.bind (sim_sliceBound hu h c) fun _ l l' _ e=>by subst e;exact Sim.pure fun _ _=>rfl
theorem sim_sliceBounds (b:Bool)(len cap:Nat){lo lo' hi hi' mx mx':Option Value}(h1:OV Ok β lo lo')(h2:OV Ok β hi hi')(h3:OV Ok β mx mx'):Sim Ok P (fun _ q q'=>q=q') β (Instr.sliceBounds b len cap lo hi mx) (Instr.sliceBounds b len cap lo' hi' mx'):=by
 unfold Instr.sliceBounds
 rcases h3 with⟨rfl,rfl⟩|⟨m,m',rfl,rfl,hm⟩
 ·rcases h2 with⟨rfl,rfl⟩|⟨u,u',rfl,rfl,hu⟩
  ·show Sim Ok P (fun _ q q'=>q=q') β (lowS lo cap len .sliceB) (lowS lo' cap len .sliceB)
   exact sim_low h1 _ _ _
  ·show Sim Ok P (fun _ q q'=>q=q') β (Instr.sliceBound u cap (if b then .sliceAcap else .sliceAlen) >>= fun h=>lowS lo cap h .sliceB) (Instr.sliceBound u' cap (if b then .sliceAcap else .sliceAlen) >>= fun h=>lowS lo' cap h .sliceB)
   exact Sim.bind (sim_sliceBound hu _ _) fun γ h h' hl e=>by subst e;exact sim_low (h1.later hl) _ _ _
 ·refine Sim.bind (sim_sliceBound hm _ _) fun γ q q' hl e=>?_
  subst e
  rcases h2.later hl with⟨rfl,rfl⟩|⟨u,u',rfl,rfl,hu⟩
  ·exact (NoOk.first (NoOk.halt _) _).sim _
  ·show Sim Ok P (fun _ q q'=>q=q') γ (Instr.sliceBound u q .slice3B >>= fun h=>lowS lo q h .slice3C) (Instr.sliceBound u' q .slice3B >>= fun h=>lowS lo' q h .slice3C)
   exact Sim.bind (sim_sliceBound hu _ _) fun γ1 h h' hl1 e=>by subst e;exact sim_low (h1.later (Bij.le_trans hl hl1)) _ _ _
theorem sim_slice (t:TypeId){x x':Value}(h:VR Ok β.r x x'){lo lo' hi hi' mx mx':Option Value}(h1:OV Ok β lo lo')(h2:OV Ok β hi hi')(h3:OV Ok β mx mx')(hna:∀n e,P.underlying t≠some (.array n e))(hnp:∀e,P.underlying t≠some (.pointer e)):Sim Ok P (VRr Ok) β (Instr.sliceAt t x lo hi mx) (Instr.sliceAt t x' lo' hi' mx'):=by
 unfold Instr.sliceAt
 refine Sim.bind (sim_underlying t) fun γ d d' hl hd=>?_
 obtain⟨rfl,hd⟩:=hd
 have main:Sim Ok P (VRr Ok) γ (Instr.slice t x lo hi mx) (Instr.slice t x' lo' hi' mx'):=by
  unfold Instr.slice
  refine Sim.bind (sim_underlying t) fun γ1 d1 d1' hl1 hd1=>?_
  obtain⟨rfl,hd1⟩:=hd1
  have hx:=(h.mono hl).mono hl1
  have b1:=(h1.later hl).later hl1
  have b2:=(h2.later hl).later hl1
  have b3:=(h3.later hl).later hl1
  cases d1 with
  | string =>
   cases hx with
   | string s =>
    dsimp only
    rcases b3 with⟨rfl,rfl⟩|⟨u,u',rfl,rfl,hu⟩
    ·exact Sim.bind (sim_sliceBounds false _ _ b1 b2 (Or.inl ⟨rfl,rfl⟩)) fun γ2 q q' hl2 e=>by subst e;exact Sim.pure fun _ _=>.string _
    ·exact (NoOk.first (NoOk.halt _) _).sim _
   | _=>exact Sim.stuck _ _
  | slice elem =>
   cases hx with
   | snil l c =>
    refine Sim.bind (sim_sliceBounds true _ _ b1 b2 b3) fun γ2 q q' hl2 e=>?_
    subst e
    refine Sim.bind (sim_sizeOf elem) fun γ3 s s' hl3 es=>?_
    subst es
    refine Sim.pure fun _ _=>?_
    simp only[Option.map_none,ite_self]
    exact .snil _ _
   | slice o sp l c hb =>
    refine Sim.bind (sim_sliceBounds true _ _ b1 b2 b3) fun γ2 q q' hl2 e=>?_
    subst e
    refine Sim.bind (sim_sizeOf elem) fun γ3 s s' hl3 es=>?_
    subst es
    refine Sim.pure fun δ hd=>?_
    have ha:AdR δ ⟨_,o,sp⟩ ⟨_,o,sp⟩:=⟨hd _ _ (hl3 _ _ (hl2 _ _ hb)),rfl,rfl⟩
    simp only[Option.map_some]
    split
    ·exact ha.sl _ _
    ·exact (ha.add _).sl _ _
   | _=>exact Sim.stuck _ _
  | pointer e=>exact absurd hd1 (hnp e)
  | _=>cases hx<;>exact Sim.stuck _ _
 cases d with
 | array n e=>exact absurd hd (hna n e)
 | _=>exact main
end Go.Proofs.YtjeicikflkjacaaGreatDoor.Par
