/- A run in a memory of one's own, and the same run elsewhere: structs that are put together. -/
import Derived.Test.YtjeicikflkjacaaGreatDoorM17
import Derived.Laws.Sem
import Derived.Test.YtjeicikflkjacaaGreatDoorM16
namespace Go.Proofs.YtjeicikflkjacaaGreatDoor.Par
open Go
variable {Ok:Cx} {P:Program} {β:Bij}
theorem sim_mapM {α δ:Type}{f:α→Sem δ}(h:∀a γ,Sim Ok P (fun _ x x'=>x=x') γ (f a) (f a)):∀(l:List α) (β:Bij),Sim Ok P (fun _ x x'=>x=x') β (l.mapM f) (l.mapM f)
 | [],_=>by rw[List.mapM_nil];exact Sim.pure fun _ _=>rfl
 | a :: l,β=>by
  rw[List.mapM_cons]
  refine Sim.bind (h a β) fun γ x x' hl hx=>?_
  subst hx
  refine Sim.bind (sim_mapM h l γ) fun γ1 y y' hl1 hy=>?_
  subst hy
  exact Sim.pure fun _ _=>rfl
theorem sim_mapMA {α δ:Type}{f:α→Sem δ}(h:∀a γ,Sim Ok P (fun _ x x'=>x=x') γ (f a) (f a))(l:Array α):Sim Ok P (fun _ x x'=>x=x') β (l.mapM f) (l.mapM f):=by
 rw[Array.mapM_eq_mapM_toList]
 have:=sim_mapM h l.toList β
 rw[←bind_pure_comp]
 refine Sim.bind this fun γ x x' hl hx=>?_
 subst hx
 exact Sim.pure fun _ _=>rfl
inductive LP (Ok:Cx) (β:Nat→Nat→Prop):List (Nat × Value)→List (Nat × Value)→Prop
 | nil:LP Ok β [] []
 | cons (i:Nat) {u u':Value} {l l':List (Nat × Value)} (hu:VR Ok β u u') (hl:LP Ok β l l'):LP Ok β ((i,u) :: l) ((i,u') :: l')
theorem LP.mono {β γ:Nat→Nat→Prop}(h:∀a b,β a b→γ a b){l l':List (Nat × Value)}(hl:LP Ok β l l'):LP Ok γ l l':=by
 induction hl with
 | nil=>exact .nil
 | cons i hu _ ih=>exact .cons i (hu.mono h) ih
theorem AR.laid {γ:Nat→Nat→Prop}(off:Nat):∀ {l l':List Value} (k:Nat) {x x':Array Value},LV Ok γ l l'→AR Ok γ x x'→AR Ok γ ((l.zipIdx k).foldl (fun cs (p:Value × Nat)=>cs.setIfInBounds (off+p.2) p.1) x) ((l'.zipIdx k).foldl (fun cs (p:Value × Nat)=>cs.setIfInBounds (off+p.2) p.1) x')
 | [],[],_,_,_,.nil,hx=>hx
 | u :: l,u' :: l',k,x,x',.cons hu hl,hx=>by
  rw[List.zipIdx_cons,List.zipIdx_cons,List.foldl_cons,List.foldl_cons]
  exact AR.laid off (k+1) hl (hx.set hu _)
theorem fill_rel {γ:Nat→Nat→Prop}(place:Nat→Option (Nat × Nat)):∀ {l l':List (Nat × Value)} {x x':Array Value},LP Ok γ l l'→AR Ok γ x x'→(Instr.fill place x l=none∧Instr.fill place x' l'=none)∨∃z z',Instr.fill place x l=some z∧Instr.fill place x' l'=some z'∧AR Ok γ z z'
 | [],[],x,x',.nil,hx=>Or.inr ⟨x,x',rfl,rfl,hx⟩
 | (i,u) :: l,(_,u') :: l',x,x',.cons _ hu hl,hx=>by
  unfold Instr.fill
  cases place i with
  | none=>exact Or.inl ⟨rfl,rfl⟩
  | some q =>
   obtain⟨off,size⟩:=q
   dsimp only
   have hc:=hu.cells
   rw[←hc.1,←hx.1]
   split
   ·exact Or.inl ⟨rfl,rfl⟩
   ·refine fill_rel place hl ?_
    have:=AR.laid (Ok:=Ok) (γ:=γ) off 0 hc.list hx
    rw[←Array.foldl_toList,←Array.foldl_toList,Array.toList_zipIdx,Array.toList_zipIdx]
    exact this
theorem sim_build (t:TypeId)(hz:ZeroAt Ok P t){l l':Array (Nat × Value)}(h:LP Ok β.r l.toList l'.toList):Sim Ok P (VRr Ok) β (Instr.build t l) (Instr.build t l'):=by
 unfold Instr.build
 refine Sim.bind (sim_zero t hz) fun γ u u' hl hu=>?_
 have hc:=VR.cells hu
 try dsimp only
 refine Sim.bind (sim_underlying t) fun γ1 d d' hl1 hd=>?_
 obtain⟨rfl,hd⟩:=hd
 cases d with
 | struct fs =>
  refine Sim.bind (sim_mapMA (fun f γ2=>Sim.bind (sim_sizeOf f.type) fun γ3 n n' hl3 hn=>by subst hn;exact Sim.pure fun _ _=>rfl) fs) fun γ2 p p' hl2 hp=>?_
  subst hp
  rcases fill_rel (fun x=>p[x]?) (((h.mono hl).mono hl1).mono hl2) ((hc.mono hl1).mono hl2) with⟨h1,h2⟩|⟨z,z',h1,h2,hz⟩
  ·rw[h1,h2]
   exact Sim.stuck _ _
  ·rw[h1,h2]
   exact Sim.pure fun δ hd=>(VR.agg hz.1 hz.2).mono hd
 | array n e =>
  refine Sim.bind (sim_sizeOf e) fun γ2 s s' hl2 hs=>?_
  subst hs
  rcases fill_rel (fun i=>some (i*s,s)) (((h.mono hl).mono hl1).mono hl2) ((hc.mono hl1).mono hl2) with⟨h1,h2⟩|⟨z,z',h1,h2,hz⟩
  ·rw[h1,h2]
   exact Sim.stuck _ _
  ·rw[h1,h2]
   exact Sim.pure fun δ hd=>(VR.agg hz.1 hz.2).mono hd
 | _=>exact Sim.stuck _ _
end Go.Proofs.YtjeicikflkjacaaGreatDoor.Par

/- A run in a memory of one's own, and the same run elsewhere: an operation of a program. -/
namespace Go.Proofs.YtjeicikflkjacaaGreatDoor.Par
open Go
variable {Ok:Cx} {P:Program} {β:Bij}
inductive NR (Ok:Cx) (β:Bij):Next→Next→Prop
 | value {v v':Value} (h:VR Ok β.r v v'):NR Ok β (.value v) (.value v')
 | skip:NR Ok β .skip .skip
 | enter (f:FuncId) {x x':Array Value} (hf:Ok f) (hx:AR Ok β.r x x'):NR Ok β (.enter f x) (.enter f x')
inductive XOk (Ok:Cx) (P:Program):Operand→Prop
 | tmp (t:Tmp):XOk Ok P (.tmp t)
 | const (v:Value) (h:∀γ,VR Ok γ v v):XOk Ok P (.const v)
 | global (g:Nat) (h:Ok.gl g):XOk Ok P (.global g)
 | func (f:FuncId) (h:Ok f):XOk Ok P (.func f)
def EvR' (Ok:Cx)(P:Program)(β:Bij)(ρ ρ':Operand→Value):Prop:=(∀x,XOk Ok P x→VR Ok β.r (ρ x) (ρ' x))∧∀v,ρ (.const v)=v∧ρ' (.const v)=v
def Plain (P:Program)(t:TypeId):Prop:=P.underlying t=some .string∨P.underlying t=some .bool∨∃k,P.underlying t=some (.int k)
inductive OpOk (Ok:Cx) (P:Program):Op→Prop
 | move (x:Operand) (h:XOk Ok P x):OpOk Ok P (.move x)
 | assign (x:Operand) (h:XOk Ok P x):OpOk Ok P (.assign x)
 | pick (c a b:Operand) (h1:XOk Ok P c) (h2:XOk Ok P a) (h3:XOk Ok P b):OpOk Ok P (.pick c a b)
 | alloc (t:TypeId) (h:ZeroAt Ok P t):OpOk Ok P (.alloc t)
 | box (t:TypeId) (x:Operand) (h:XOk Ok P x):OpOk Ok P (.box t x)
 | build (t:TypeId) (ps:Array (Nat × Operand)) (h:ZeroAt Ok P t) (hp:∀p∈ps,XOk Ok P p.2):OpOk Ok P (.build t ps)
 | load (t:TypeId) (x:Operand) (h:XOk Ok P x):OpOk Ok P (.load t x)
 | store (t:TypeId) (x y:Operand) (h1:XOk Ok P x) (h2:XOk Ok P y):OpOk Ok P (.store t x y)
 | nilCheck (x:Operand) (h:XOk Ok P x):OpOk Ok P (.nilCheck x)
 | arith (op:BinOp) (t:TypeId) (x y:Operand) (yt:TypeId) (h1:XOk Ok P x) (h2:XOk Ok P y) (h3:op≠.eql) (h4:op≠.neq):OpOk Ok P (.binOp op t x y yt)
 | same (op:BinOp) (t:TypeId) (x y:Operand) (yt:TypeId) (h1:XOk Ok P x) (h2:XOk Ok P y) (h3:Plain P t):OpOk Ok P (.binOp op t x y yt)
 | isNil (op:BinOp) (t:TypeId) (x:Operand) (v:Value) (yt:TypeId) (h1:XOk Ok P x) (h2:Nil v):OpOk Ok P (.binOp op t x (.const v) yt)
 | not (t:TypeId) (x:Operand) (h:XOk Ok P x):OpOk Ok P (.unOp .not t x)
 | conv (s t:TypeId) (k k':IntKind) (x:Operand) (h1:P.underlying s=some (.int k)) (h2:P.underlying t=some (.int k')) (h:XOk Ok P x):OpOk Ok P (.convert s t x)
 | iface (t:TypeId) (x:Operand) (h:XOk Ok P x):OpOk Ok P (.makeInterface t x)
 | func (f:FuncId) (a b:Array Operand) (hf:Ok f) (h1:∀x∈a,XOk Ok P x) (h2:∀x∈b,XOk Ok P x):OpOk Ok P (.makeFunc (.func f) a b)
 | mkMap (t:TypeId) (r:Option Operand) (h:∀x,r=some x→XOk Ok P x):OpOk Ok P (.makeMap t r)
 | mkSlice (t:TypeId) (x y:Operand) (h:∀e,P.underlying t=some (.slice e)→ZeroAt Ok P e) (h1:XOk Ok P x) (h2:XOk Ok P y):OpOk Ok P (.makeSlice t x y)
 | slice (t:TypeId) (x:Operand) (l h m:Option Operand) (hna:∀n e,P.underlying t≠some (.array n e)) (hnp:∀e,P.underlying t≠some (.pointer e)) (hx:XOk Ok P x) (h1:∀y,l=some y→XOk Ok P y) (h2:∀y,h=some y→XOk Ok P y) (h3:∀y,m=some y→XOk Ok P y):OpOk Ok P (.slice t x l h m)
 | field (s:TypeId) (x:Operand) (k:Nat) (hne:∀fs f i,P.underlying s=some (.struct fs)→fs[k]?=some f→P.info? f.type=some i→i.size≠0) (h:XOk Ok P x):OpOk Ok P (.fieldAddr s x k)
 | index (t:TypeId) (x y:Operand) (h1:XOk Ok P x) (h2:XOk Ok P y):OpOk Ok P (.indexAddr t x y)
 | at_ (t:TypeId) (x y:Operand) (ht:P.underlying t=some .string) (h1:XOk Ok P x) (h2:XOk Ok P y):OpOk Ok P (.index t x y)
 | lookup (t key elem:TypeId) (x y:Operand) (ok:Bool) (ht:P.underlying t=some (.map key elem)) (hk:P.underlying key=some .string) (hz:ZeroAt Ok P elem) (h1:XOk Ok P x) (h2:XOk Ok P y):OpOk Ok P (.lookup t x y ok)
 | update (t key elem:TypeId) (x y z:Operand) (ht:P.underlying t=some (.map key elem)) (hk:P.underlying key=some .string) (h1:XOk Ok P x) (h2:XOk Ok P y) (h3:XOk Ok P z):OpOk Ok P (.mapUpdate t x y z)
 | extract (x:Operand) (k:Nat) (h:XOk Ok P x):OpOk Ok P (.extract x k)
 | call (f:Operand) (a:Array Operand) (ts:Array TypeId) (hf:XOk Ok P f) (h:∀x∈a,XOk Ok P x):OpOk Ok P (.call { callee:=.value f,args:=a,argTypes:=ts })
 | len (a:Array Operand) (ts:Array TypeId) (h:∀x∈a,XOk Ok P x):OpOk Ok P (.call { callee:=.builtin .len,args:=a,argTypes:=ts })
 | copy (a:Array Operand) (ts:Array TypeId) (h:∀x∈a,XOk Ok P x):OpOk Ok P (.call { callee:=.builtin .copy,args:=a,argTypes:=ts })
 | append (a:Array Operand) (ts:Array TypeId) (hz:∀t e,ts[0]?=some t→P.underlying t=some (.slice e)→ZeroAt Ok P e) (hn:∀t k,ts[1]?=some t→P.underlying t≠some (.int k)) (h:∀x∈a,XOk Ok P x):OpOk Ok P (.call { callee:=.builtin .append,args:=a,argTypes:=ts })
 | assert (x:Operand) (xt t:TypeId) (ok:Bool) (hz:ZeroAt Ok P t) (h:XOk Ok P x):OpOk Ok P (.typeAssert x xt t ok)
 | buildS (t:TypeId) (n:Nat) (ps:Array (Nat × Operand)) (h:∀e,P.underlying t=some (.slice e)→ZeroAt Ok P e) (hp:∀p∈ps,XOk Ok P p.2):OpOk Ok P (.buildSlice t n ps)
def Bodies (Ok : Cx) (P : Program) : Prop := ∀ f, Ok f → ∃ fn, P.funcs[f]? = some fn ∧ fn.body.isNone = false ∧ (fn.name == "runtime.NumGoroutine") = false
theorem sim_asValue {s s':Sem Value}(h:Sim Ok P (VRr Ok) β s s'):Sim Ok P (NR Ok) β (do pure (.value (← s))) (do pure (.value (← s'))):=Sim.bind h fun _ _ _ _ hv=>Sim.pure fun _ hd=>.value (hv.mono hd)
theorem sim_asUnit {s s':Sem Unit}(h:Sim Ok P (fun _ _ _=>True) β s s'):Sim Ok P (NR Ok) β (do s;pure .skip) (do s';pure .skip):=Sim.bind h fun _ _ _ _ _=>Sim.pure fun _ _=>.skip
theorem EvR'.arr {ρ ρ':Operand→Value}(h:EvR' Ok P β ρ ρ'){a:Array Operand}(ha:∀x∈a,XOk Ok P x):AR Ok β.r (a.map ρ) (a.map ρ'):=by
 refine⟨by simp,fun i u u' h1 h2=>?_⟩
 rw[Array.getElem?_map] at h1 h2
 obtain⟨x,hx,rfl⟩:=Option.map_eq_some_iff.1 h1
 obtain⟨y,hy,rfl⟩:=Option.map_eq_some_iff.1 h2
 rw[hx] at hy
 obtain rfl:=Option.some.inj hy
 exact h.1 x (ha x (Array.mem_of_getElem? hx))
theorem EvR'.opt {ρ ρ':Operand→Value}(h:EvR' Ok P β ρ ρ'){r:Option Operand}(hr:∀x,r=some x→XOk Ok P x):OV Ok β (r.map ρ) (r.map ρ'):=by
 cases r with
 | none=>exact Or.inl ⟨rfl,rfl⟩
 | some x=>exact Or.inr ⟨_,_,rfl,rfl,h.1 x (hr x rfl)⟩
theorem EvR'.parts {ρ ρ':Operand→Value}(h:EvR' Ok P β ρ ρ'):∀ {l:List (Nat × Operand)},(∀p∈l,XOk Ok P p.2)→LP Ok β.r (l.map fun (i,x)=>(i,ρ x)) (l.map fun (i,x)=>(i,ρ' x))
 | [],_=>.nil
 | (i,x) :: l,hl=>.cons i (h.1 x (hl (i,x) (by simp))) (h.parts fun p hp=>hl p (by simp[hp]))
theorem sim_callFunc (hB:Bodies Ok P)(f:FuncId)(hf:Ok f){x x':Array Value}(hx:AR Ok β.r x x'):Sim Ok P (NR Ok) β (callFunc f x) (callFunc f x'):=by
 unfold callFunc
 refine Sim.bind Sim.program fun γ p p' hl hp=>?_
 obtain⟨rfl,rfl⟩:=hp
 obtain⟨fn,h1,h2,h3⟩:=hB f hf
 rw[h1]
 simp only[h2,h3,Bool.false_eq_true,if_false]
 exact Sim.pure fun _ hd=>.enter f hf ((hx.mono hl).mono hd)
theorem sim_nilCheck {x x':Value}(h:VR Ok β.r x x')(ρ ρ':Operand→Value)(o:Oper)(y:Operand)(ho:o.op=.nilCheck y)(h1:ρ y=x)(h2:ρ' y=x'):Sim Ok P (NR Ok) β (execOp ρ o) (execOp ρ' o):=by
 unfold execOp
 rw[ho]
 dsimp only
 rw[h1,h2]
 have h0:=h
 cases h with
 | pnil=>exact Sim.panic _ _
 | nilIface=>exact Sim.panic _ _
 | nilFunc=>exact Sim.panic _ _
 | _=>exact Sim.pure fun _ hd=>.value (h0.mono hd)
theorem sim_eqGuardNot (op:BinOp)(t:TypeId)(x y:Operand)(a a' b b':Value)(h1:op≠.eql)(h2:op≠.neq):Sim Ok P (fun _ _ _=>True) β (eqGuard op t x y a b) (eqGuard op t x y a' b'):=by
 unfold eqGuard
 cases op<;>first|exact absurd rfl h1|exact absurd rfl h2|exact Sim.pure fun _ _=>trivial
theorem sim_eqGuardNil (op:BinOp)(t:TypeId)(x:Operand)(v:Value)(hv:Nil v){a a':Value}(ha:VR Ok β.r a a'):Sim Ok P (fun _ _ _=>True) β (eqGuard op t x (.const v) a v) (eqGuard op t x (.const v) a' v):=by
 by_cases hop:op=.eql∨op=.neq
 ·have:∀o:BinOp,o=.eql∨o=.neq→Sim Ok P (fun _ _ _=>True) β (eqGuard o t x (.const v) a v) (eqGuard o t x (.const v) a' v):=fun o ho=>by
   unfold eqGuard
   rcases ho with rfl|rfl
   ·cases hv<;>cases ha<;>first|exact Sim.pure fun _ _=>trivial|(dsimp only;simp only[Bool.or_true,if_true];exact Sim.pure fun _ _=>trivial)
   ·cases hv<;>cases ha<;>first|exact Sim.pure fun _ _=>trivial|(dsimp only;simp only[Bool.or_true,if_true];exact Sim.pure fun _ _=>trivial)
  exact this op hop
 ·exact sim_eqGuardNot op t x _ a a' v v (fun e=>hop (Or.inl e)) (fun e=>hop (Or.inr e))
theorem sim_eqGuardIn (t:TypeId)(ht:Plain P t)(a a' b b':Value):Sim Ok P (fun _ x x'=>x=false∧x'=false) β (Op.eqGuardIn Op.maxDepth t a b) (Op.eqGuardIn Op.maxDepth t a' b'):=by
 unfold Op.maxDepth Op.eqGuardIn
 refine Sim.bind (sim_underlying t) fun γ d d' hl hd=>?_
 obtain⟨rfl,hd⟩:=hd
 rcases ht with ht|ht|⟨k,ht⟩
 all_goals
  rw[ht] at hd
  obtain rfl:=Option.some.inj hd
  exact Sim.pure fun _ _=>⟨rfl,rfl⟩
theorem hif (c:Bool){s s':Sem Unit}(h:Sim Ok P (fun _ _ _=>True) β s s'):Sim Ok P (fun _ _ _=>True) β (if c=true then pure () else s) (if c=true then pure () else s'):=by
 cases c with
 | true=>exact Sim.pure fun _ _=>trivial
 | false=>exact h
theorem sim_eqGuardPlain (op:BinOp)(t:TypeId)(ht:Plain P t)(x y:Operand){a a' b b':Value}(ha:VR Ok β.r a a')(hb:VR Ok β.r b b'):Sim Ok P (fun _ _ _=>True) β (eqGuard op t x y a b) (eqGuard op t x y a' b'):=by
 by_cases hop:op=.eql∨op=.neq
 ·have:∀o:BinOp,o=.eql∨o=.neq→Sim Ok P (fun _ _ _=>True) β (eqGuard o t x y a b) (eqGuard o t x y a' b'):=fun o ho=>by
   have hin:=sim_eqGuardIn (Ok:=Ok) (β:=β) t ht a a' b b'
   have tail : Sim Ok P (fun _ _ _ => True) β (do if ← Op.eqGuardIn Op.maxDepth t a b then unsupported (.noEntry "binop/eql: two nil values of an interface type with methods, neither of them the literal nil")) (do if ← Op.eqGuardIn Op.maxDepth t a' b' then unsupported (.noEntry "binop/eql: two nil values of an interface type with methods, neither of them the literal nil")) := Sim.bind hin fun γ q q' hl hq => by
    obtain⟨rfl,rfl⟩:=hq
    exact Sim.pure fun _ _=>trivial
   have tail2:Sim Ok P (fun _ _ _=>True) β (do
     if !(← program).eqGuardType (← program).depth t then return
     if ← Op.eqGuardIn Op.maxDepth t a b then unsupported (.noEntry "binop/eql: two nil values of an interface type with methods, in a part of a struct or an array")) (do
     if !(← program).eqGuardType (← program).depth t then return
     if ← Op.eqGuardIn Op.maxDepth t a' b' then unsupported (.noEntry "binop/eql: two nil values of an interface type with methods, in a part of a struct or an array")) := by
    refine Sim.bind Sim.program fun γ p p' hl hp=>?_
    obtain⟨rfl,rfl⟩:=hp
    refine Sim.bind Sim.program fun γ1 p p1 hl1 hp=>?_
    obtain⟨rfl,rfl⟩:=hp
    split
    ·exact Sim.pure fun _ _=>trivial
    ·exact Sim.bind ((hin.later hl).later hl1) fun γ q q' hl hq=>by
      obtain⟨rfl,rfl⟩:=hq
      exact Sim.pure fun _ _=>trivial
   unfold eqGuard
   rcases ho with rfl|rfl
   all_goals
    cases ha with
    | nilIface =>
     cases hb with
     | nilIface =>
      dsimp only
      exact hif _ (hif _ tail)
     | _=>exact Sim.pure fun _ _=>trivial
    | agg h1 h2 =>
     cases hb with
     | agg h3 h4=>exact tail2
     | _=>exact Sim.pure fun _ _=>trivial
    | _=>cases hb<;>exact Sim.pure fun _ _=>trivial
  exact this op hop
 ·exact sim_eqGuardNot op t x _ a a' b b' (fun e=>hop (Or.inl e)) (fun e=>hop (Or.inr e))
end Go.Proofs.YtjeicikflkjacaaGreatDoor.Par

/- A run in a memory of one's own, and the same run elsewhere: append; slices built of their parts. -/
namespace Go.Proofs.YtjeicikflkjacaaGreatDoor.Par
open Go
variable {Ok:Cx} {P:Program} {β:Bij}
theorem sim_buildSlice (t:TypeId)(len:Nat)(hz:∀e,P.underlying t=some (.slice e)→ZeroAt Ok P e){l l':Array (Nat × Value)}(h:LP Ok β.r l.toList l'.toList):Sim Ok P (VRr Ok) β (Instr.buildSlice t len l) (Instr.buildSlice t len l'):=by
 unfold Instr.buildSlice
 refine Sim.bind (sim_underlying t) fun γ d d' hl hd=>?_
 obtain⟨rfl,hd⟩:=hd
 cases d with
 | slice elem =>
  dsimp only
  refine Sim.bind (sim_sizeOf elem) fun γ1 s s' hl1 hs=>?_
  subst hs
  split
  ·exact (NoOk.first (NoOk.halt _) _).sim _
  ·have fin:∀ {γ6:Bij} {z z':Array Value},γ1.le γ6→AR Ok γ6.r z z'→Sim Ok P (VRr Ok) γ6 (match Instr.fill (fun i=>some (i*s,s)) ((Array.range (len*s)).map (z[· % z.size]!)) l.toList with
     | some cells=>do
      let a ← newRow elem cells
      pure (.slice (some a) len len)
     | _ => stuck "buildSlice: a part of the wrong size") (match Instr.fill (fun i => some (i * s, s)) ((Array.range (len * s)).map (z'[· % z'.size]!)) l'.toList with
     | some cells=>do
      let a ← newRow elem cells
      pure (.slice (some a) len len)
     | _ => stuck "buildSlice: a part of the wrong size") := fun {γ6 z z'} hl6 hzz => by
    rcases fill_rel (fun i=>some (i*s,s)) (((h.mono hl).mono hl1).mono hl6) (hzz.zeros (len*s)) with⟨h1,h2⟩|⟨q,q',h1,h2,hq⟩
    ·rw[h1,h2]
     exact Sim.stuck _ _
    ·rw[h1,h2]
     exact Sim.bind (sim_newRow elem hq) fun γ7 a a' _ ha=>Sim.pure fun δ hd=>(ha.later hd).sl _ _
   try dsimp only
   split
   ·exact fin (Bij.le_refl _) (AR.empty _)
   ·refine Sim.bind (sim_zero elem (hz elem hd)) fun γ6 u u' hl6 hu=>?_
    exact fin hl6 (VR.cells hu)
 | _=>exact (NoOk.halt _).sim _
theorem Tame.shape (r:Nat):Tame P (Go.shape r):=fun v es q v1 es1 hs=>by
 exact yields hs rfl
theorem Tame.frozen (a:Addr):Tame P (Go.frozen a):=fun v es q v1 es1 hs=>by
 exact yields hs rfl
theorem Tame.mark (m:Mark):Tame P (Go.mark m):=fun v es q v1 es1 hs=>by
 exact yields hs rfl
theorem tame_holds (a:Addr)(n:Nat):Tame P (Builtin.holdsCells a n):=by
 unfold Builtin.holdsCells
 refine (Tame.shape _).bind fun o=>?_
 cases o<;>exact Tame.pure _
theorem tame_mayShare (s l n:Nat)(b:Option Addr)(x:Value):Tame P (Builtin.mayShare s l n b x):=by
 unfold Builtin.mayShare
 have rest:∀there:Bool,Tame P (if (!there)=true then (pure true:Sem Bool) else match x with
   | .slice (some c) _ _=>do pure (!(← Builtin.holdsCells c (n*s)) || b.any (·.block==c.block))
   | _=>pure false):=fun there=>by
  split
  ·exact Tame.pure _
  ·split
   ·exact (tame_holds _ _).bind fun _=>Tame.pure _
   ·exact Tame.pure _
 cases b with
 | none=>exact (Tame.pure true).bind rest
 | some a=>exact (tame_holds _ _).bind fun _=>(Tame.frozen _).bind fun _=>(Tame.pure _).bind rest
theorem AR.zeroCells {γ:Nat→Nat→Prop}{x x':Array Value}(h:AR Ok γ x x')(n:Nat):AR Ok γ (Builtin.zeroCells x n) (Builtin.zeroCells x' n):=by
 unfold Builtin.zeroCells
 rw[←h.1]
 have:=h.zeros (n*x.size)
 rw[←h.1] at this
 exact this
theorem sim_grow (e:TypeId)(hze:ZeroAt Ok P e)(size l c n:Nat){s s' z z':Value}(hs:VR Ok β.r s s')(hw:VR Ok β.r z z'):Sim Ok P (VRr Ok) β (do
  let newCap ← choose (.appendCap (l+n) c e)
  let i ← typeInfo e
  askRoom (newCap*i.bytes)
  let old ← Builtin.firstCells size l s
  let new ← Builtin.firstCells size n z
  let zv ← zeroValue e
  let a ← newRow e (old++new++Builtin.zeroCells zv.cells (newCap - (l+n)))
  pure (.slice (some a) (l+n) newCap)) (do
  let newCap ← choose (.appendCap (l+n) c e)
  let i ← typeInfo e
  askRoom (newCap*i.bytes)
  let old ← Builtin.firstCells size l s'
  let new ← Builtin.firstCells size n z'
  let zv ← zeroValue e
  let a ← newRow e (old++new++Builtin.zeroCells zv.cells (newCap - (l+n)))
  pure (.slice (some a) (l+n) newCap)):=by
 refine Sim.bind (Sim.choose _) fun γ1 k k' hl1 hk=>?_
 subst hk
 refine Sim.bind (sim_typeInfo e) fun γ2 i i' hl2 hi=>?_
 obtain⟨rfl,hi⟩:=hi
 refine Sim.bind (sim_askRoom _) fun γ3 _ _ hl3 _=>?_
 have h3:β.le γ3:=Bij.le_trans (Bij.le_trans hl1 hl2) hl3
 refine Sim.bind (sim_firstCells size l (hs.mono h3)) fun γ4 q q' hl4 hq=>?_
 refine Sim.bind (sim_firstCells size n ((hw.mono h3).mono hl4)) fun γ5 r r' hl5 hr=>?_
 refine Sim.bind (sim_zero e hze) fun γ6 u u' hl6 hu=>?_
 refine Sim.bind (sim_newRow e ((((hq.mono hl5).mono hl6).append (hr.mono hl6)).append ((VR.cells hu).zeroCells _))) fun γ7 a a' _ ha=>?_
 exact Sim.pure fun δ hd=>(ha.later hd).sl _ _
theorem sim_append {ts:Array TypeId}(t0:TypeId)(hz:∀t e,ts[0]?=some t→P.underlying t=some (.slice e)→ZeroAt Ok P e)(hn:∀t k,ts[1]?=some t→P.underlying t≠some (.int k)){x x':Array Value}(h:AR Ok β.r x x'):Sim Ok P (VRr Ok) β (Builtin.append_ ts t0 x) (Builtin.append_ ts t0 x'):=by
 unfold Builtin.append_
 cases hx:x[0]? with
 | none =>
  rw[h.get_none hx]
  cases ts[0]?<;>exact Sim.stuck _ _
 | some u =>
  obtain⟨u',hu',hv⟩:=h.get hx
  rw[hu']
  cases hy:x[1]? with
  | none =>
   rw[h.get_none hy]
   cases ts[0]?<;>exact Sim.stuck _ _
  | some z =>
   obtain⟨z',hz',hw⟩:=h.get hy
   rw[hz']
   cases ht0:ts[0]? with
   | none=>exact Sim.stuck _ _
   | some t =>
    dsimp only
    refine Sim.bind (sim_underlying t) fun γ d d' hl hd=>?_
    obtain⟨rfl,hd⟩:=hd
    cases d with
    | slice e =>
     have hze:=hz t e ht0 hd
     dsimp only
     cases hv.mono hl with
     | snil l c =>
      dsimp only
      refine Sim.bind (sim_sizeOf e) fun γ1 size s' hl1 hs=>?_
      subst hs
      cases ht1:ts[1]? with
      | none =>
       dsimp only
       refine Sim.bind (R:=fun _ b b'=>b=false∧b'=false) (Sim.pure fun _ _=>⟨rfl,rfl⟩) fun γ3 b b' hl3 hb'=>?_
       obtain⟨rfl,rfl⟩:=hb'
       have hlz:β.le γ3:=Bij.le_trans (Bij.le_trans hl hl1) hl3
       have hvz:=hv.mono hlz
       simp only[Bool.false_eq_true,if_false,Bool.not_false,if_true,false_or]
       refine Sim.bind (sim_lenOf (hw.mono hlz)) fun γ4 n n' hl4 hn'=>?_
       subst hn'
       split
       ·refine Sim.bind (sim_firstCells size n ((hw.mono hlz).mono hl4)) fun γ5 q q' hl5 hq=>?_
        first
        | exact Sim.pure fun _ _=>.snil _ _
        | exact Sim.bind (sim_storeCells 0 (((hbz.later hl4).later hl5).add _) hq.list) fun γ6 _ _ hl6 _=>Sim.pure fun δ hd=>((((hbz.later hl4).later hl5).later hl6).later hd).sl _ _
       ·refine Sim.bind (sim_typeInfo e) fun γ5 i i' hl5 hi=>?_
        obtain⟨rfl,hi⟩:=hi
        split
        ·exact (NoOk.first (NoOk.panic _) _).sim _
        ·refine Sim.bind (sim_typeInfo e) fun γ6 i2 i2' hl6 hi2=>?_
         obtain⟨rfl,hi2⟩:=hi2
         split
         ·refine NoOk.sim ?_ _
          refine NoOk.first (NoOk.bind (tame_mayShare _ _ _ _ _) fun m=>?_) _
          split
          ·exact NoOk.bind (Tame.mark _) fun _=>NoOk.halt _
          ·exact NoOk.halt _
         ·exact sim_grow e hze size _ _ n (((hvz.mono hl4).mono hl5).mono hl6) ((((hw.mono hlz).mono hl4).mono hl5).mono hl6)
      | some xt =>
       dsimp only
       refine Sim.bind (sim_underlying xt) fun γ2 d d' hl2 hd2=>?_
       obtain⟨rfl,hd2⟩:=hd2
       have hni:∀k,d≠.int k:=fun k e=>hn xt k ht1 (by rw[hd2,e])
       refine Sim.bind (R:=fun _ b b'=>b=false∧b'=false) (Sim.pure fun _ _=>by cases d<;>first|exact⟨rfl,rfl⟩|exact absurd rfl (hni _)) fun γ3 b b' hl3 hb'=>?_
       obtain⟨rfl,rfl⟩:=hb'
       have hlz:β.le γ3:=Bij.le_trans (Bij.le_trans (Bij.le_trans hl hl1) hl2) hl3
       have hvz:=hv.mono hlz
       simp only[Bool.false_eq_true,if_false,Bool.not_false,if_true,false_or]
       refine Sim.bind (sim_lenOf (hw.mono hlz)) fun γ4 n n' hl4 hn'=>?_
       subst hn'
       split
       ·refine Sim.bind (sim_firstCells size n ((hw.mono hlz).mono hl4)) fun γ5 q q' hl5 hq=>?_
        first
        | exact Sim.pure fun _ _=>.snil _ _
        | exact Sim.bind (sim_storeCells 0 (((hbz.later hl4).later hl5).add _) hq.list) fun γ6 _ _ hl6 _=>Sim.pure fun δ hd=>((((hbz.later hl4).later hl5).later hl6).later hd).sl _ _
       ·refine Sim.bind (sim_typeInfo e) fun γ5 i i' hl5 hi=>?_
        obtain⟨rfl,hi⟩:=hi
        split
        ·exact (NoOk.first (NoOk.panic _) _).sim _
        ·refine Sim.bind (sim_typeInfo e) fun γ6 i2 i2' hl6 hi2=>?_
         obtain⟨rfl,hi2⟩:=hi2
         split
         ·refine NoOk.sim ?_ _
          refine NoOk.first (NoOk.bind (tame_mayShare _ _ _ _ _) fun m=>?_) _
          split
          ·exact NoOk.bind (Tame.mark _) fun _=>NoOk.halt _
          ·exact NoOk.halt _
         ·exact sim_grow e hze size _ _ n (((hvz.mono hl4).mono hl5).mono hl6) ((((hw.mono hlz).mono hl4).mono hl5).mono hl6)
     | @slice b0 b1 o sp l c hb =>
      dsimp only
      refine Sim.bind (sim_sizeOf e) fun γ1 size s' hl1 hs=>?_
      subst hs
      cases ht1:ts[1]? with
      | none =>
       dsimp only
       refine Sim.bind (R:=fun _ b b'=>b=false∧b'=false) (Sim.pure fun _ _=>⟨rfl,rfl⟩) fun γ3 b b' hl3 hb'=>?_
       obtain⟨rfl,rfl⟩:=hb'
       have hlz:β.le γ3:=Bij.le_trans (Bij.le_trans hl hl1) hl3
       have hvz:=hv.mono hlz
       have hbz:AdR γ3 (⟨b0,o,sp⟩:Addr) ⟨b1,o,sp⟩:=⟨hl3 _ _ (hl1 _ _ hb),rfl,rfl⟩
       simp only[Bool.false_eq_true,if_false,Bool.not_false,if_true,false_or]
       refine Sim.bind (sim_lenOf (hw.mono hlz)) fun γ4 n n' hl4 hn'=>?_
       subst hn'
       split
       ·refine Sim.bind (sim_firstCells size n ((hw.mono hlz).mono hl4)) fun γ5 q q' hl5 hq=>?_
        first
        | exact Sim.pure fun _ _=>.snil _ _
        | exact Sim.bind (sim_storeCells 0 (((hbz.later hl4).later hl5).add _) hq.list) fun γ6 _ _ hl6 _=>Sim.pure fun δ hd=>((((hbz.later hl4).later hl5).later hl6).later hd).sl _ _
       ·refine Sim.bind (sim_typeInfo e) fun γ5 i i' hl5 hi=>?_
        obtain⟨rfl,hi⟩:=hi
        split
        ·exact (NoOk.first (NoOk.panic _) _).sim _
        ·refine Sim.bind (sim_typeInfo e) fun γ6 i2 i2' hl6 hi2=>?_
         obtain⟨rfl,hi2⟩:=hi2
         split
         ·refine NoOk.sim ?_ _
          refine NoOk.first (NoOk.bind (tame_mayShare _ _ _ _ _) fun m=>?_) _
          split
          ·exact NoOk.bind (Tame.mark _) fun _=>NoOk.halt _
          ·exact NoOk.halt _
         ·exact sim_grow e hze size _ _ n (((hvz.mono hl4).mono hl5).mono hl6) ((((hw.mono hlz).mono hl4).mono hl5).mono hl6)
      | some xt =>
       dsimp only
       refine Sim.bind (sim_underlying xt) fun γ2 d d' hl2 hd2=>?_
       obtain⟨rfl,hd2⟩:=hd2
       have hni:∀k,d≠.int k:=fun k e=>hn xt k ht1 (by rw[hd2,e])
       refine Sim.bind (R:=fun _ b b'=>b=false∧b'=false) (Sim.pure fun _ _=>by cases d<;>first|exact⟨rfl,rfl⟩|exact absurd rfl (hni _)) fun γ3 b b' hl3 hb'=>?_
       obtain⟨rfl,rfl⟩:=hb'
       have hlz:β.le γ3:=Bij.le_trans (Bij.le_trans (Bij.le_trans hl hl1) hl2) hl3
       have hvz:=hv.mono hlz
       have hbz:AdR γ3 (⟨b0,o,sp⟩:Addr) ⟨b1,o,sp⟩:=⟨hl3 _ _ (hl2 _ _ (hl1 _ _ hb)),rfl,rfl⟩
       simp only[Bool.false_eq_true,if_false,Bool.not_false,if_true,false_or]
       refine Sim.bind (sim_lenOf (hw.mono hlz)) fun γ4 n n' hl4 hn'=>?_
       subst hn'
       split
       ·refine Sim.bind (sim_firstCells size n ((hw.mono hlz).mono hl4)) fun γ5 q q' hl5 hq=>?_
        first
        | exact Sim.pure fun _ _=>.snil _ _
        | exact Sim.bind (sim_storeCells 0 (((hbz.later hl4).later hl5).add _) hq.list) fun γ6 _ _ hl6 _=>Sim.pure fun δ hd=>((((hbz.later hl4).later hl5).later hl6).later hd).sl _ _
       ·refine Sim.bind (sim_typeInfo e) fun γ5 i i' hl5 hi=>?_
        obtain⟨rfl,hi⟩:=hi
        split
        ·exact (NoOk.first (NoOk.panic _) _).sim _
        ·refine Sim.bind (sim_typeInfo e) fun γ6 i2 i2' hl6 hi2=>?_
         obtain⟨rfl,hi2⟩:=hi2
         split
         ·refine NoOk.sim ?_ _
          refine NoOk.first (NoOk.bind (tame_mayShare _ _ _ _ _) fun m=>?_) _
          split
          ·exact NoOk.bind (Tame.mark _) fun _=>NoOk.halt _
          ·exact NoOk.halt _
         ·exact sim_grow e hze size _ _ n (((hvz.mono hl4).mono hl5).mono hl6) ((((hw.mono hlz).mono hl4).mono hl5).mono hl6)
     | _=>exact Sim.stuck _ _
    | _=>exact Sim.stuck _ _
end Go.Proofs.YtjeicikflkjacaaGreatDoor.Par
