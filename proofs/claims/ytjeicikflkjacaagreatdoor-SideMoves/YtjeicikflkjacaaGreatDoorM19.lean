/- A run in a memory of one's own, and the same run elsewhere: what an interface holds; a panic. -/
import Derived.Test.YtjeicikflkjacaaGreatDoorM18
import GoSem.Machine.Exec
namespace Go.Proofs.YtjeicikflkjacaaGreatDoor.Par
open Go
variable {Ok:Cx} {P:Program} {β:Bij}
theorem vr_two {γ:Nat→Nat→Prop}{u u':Value}(h:VR Ok γ u u')(b:Bool):VR Ok γ (.tuple #[u,.bool b]) (.tuple #[u',.bool b]):=by
 refine .tuple rfl fun i z z' h1 h2=>?_
 match i,h1,h2 with
 | 0,h1,h2=>simp at h1 h2;subst h1 h2;exact h
 | 1,h1,h2=>simp at h1 h2;subst h1 h2;exact .bool b
 | i+2,h1,_=>simp at h1
theorem sim_fails (as_:TypeId)(ok:Bool)(hz:ZeroAt Ok P as_)(s d:Option TypeId)(m:String):Sim Ok P (VRr Ok) β (if ok=true then do pure (.tuple #[←zeroValue as_,.bool false]) else runtimePanic (.typeAssertion s d as_ m)) (if ok=true then do pure (.tuple #[←zeroValue as_,.bool false]) else runtimePanic (.typeAssertion s d as_ m)):=by
 split
 ·exact Sim.bind (sim_zero as_ hz) fun γ u u' _ hu=>Sim.pure fun δ hd=>(vr_two hu false).mono hd
 ·exact Sim.panic _ _
theorem sim_holds (ok:Bool){u u':Value}(h:VR Ok β.r u u'):Sim Ok P (VRr Ok) β (pure (if ok=true then .tuple #[u,.bool true] else u)) (pure (if ok=true then .tuple #[u',.bool true] else u')):=by
 cases ok with
 | true=>exact Sim.pure fun δ hd=>(vr_two h true).mono hd
 | false=>exact Sim.pure fun δ hd=>h.mono hd
theorem sim_typeAssert (xt as_:TypeId)(ok:Bool)(hz:ZeroAt Ok P as_){x x':Value}(h:VR Ok β.r x x'):Sim Ok P (VRr Ok) β (Instr.typeAssert x xt as_ ok) (Instr.typeAssert x' xt as_ ok):=by
 unfold Instr.typeAssert
 dsimp only
 refine Sim.bind (sim_underlying as_) fun γ d d' hl hd=>?_
 obtain⟨rfl,hd⟩:=hd
 have h1:=h.mono hl
 cases h1 with
 | nilIface=>cases d<;>exact sim_fails as_ ok hz _ _ _
 | @iface t v v' hv =>
  cases d with
  | interface want =>
   dsimp only
   refine Sim.bind (sim_typeInfo t) fun γ2 i i' hl2 hi=>?_
   obtain⟨rfl,hi⟩:=hi
   cases Instr.missingMethod want i.methods with
   | none=>exact sim_holds ok ((VR.iface t hv).mono hl2)
   | some m=>exact sim_fails as_ ok hz _ _ _
  | _ =>
   dsimp only
   split
   ·exact sim_holds ok hv
   ·exact sim_fails as_ ok hz _ _ _
 | _=>cases d<;>exact Sim.stuck _ _
end Go.Proofs.YtjeicikflkjacaaGreatDoor.Par

/- A run in a memory of one's own, and the same run elsewhere: every operation of which the parts are known. -/
namespace Go.Proofs.YtjeicikflkjacaaGreatDoor.Par
open Go
variable {Ok:Cx} {P:Program} {β:Bij}
theorem sim_callValue (hB:Bodies Ok P){f f':Value}(hf:VR Ok β.r f f'){x x':Array Value}(hx:AR Ok β.r x x'):Sim Ok P (NR Ok) β (do let d ← Deferred.ofValue f x;invoke d.target d.args) (do let d ← Deferred.ofValue f' x';invoke d.target d.args):=by
 unfold Deferred.ofValue
 cases hf with
 | nilFunc =>
  show Sim Ok P (NR Ok) β (invoke .nil x) _
  unfold invoke
  exact Sim.panic _ _
 | func hf h1 h2 h3 h4=>exact sim_callFunc hB _ hf ((AR.append ⟨h1,h2⟩ hx).append ⟨h3,h4⟩)
 | _=>exact Sim.stuck _ _
theorem sim_execOp (hG:Ok.G=P.globals.size)(hB:Bodies Ok P){ρ ρ':Operand→Value}(h:EvR' Ok P β ρ ρ')(o:Oper)(ho:OpOk Ok P o.op):Sim Ok P (NR Ok) β (execOp ρ o) (execOp ρ' o):=by
 obtain⟨dst,op,ty,pos,eff⟩:=o
 dsimp only at ho
 cases ho with
 | move x hx=>exact Sim.pure fun _ hd=>.value ((h.1 x hx).mono hd)
 | assign x hx=>exact Sim.pure fun _ hd=>.value ((h.1 x hx).mono hd)
 | pick c a b h1 h2 h3 =>
  refine Sim.bind (sim_asBool (h.1 c h1)) fun γ p p' hl hp=>?_
  obtain rfl:=hp
  exact Sim.pure fun _ hd=>.value (by cases p with|true=>exact ((h.1 a h2).mono hl).mono hd|false=>exact ((h.1 b h3).mono hl).mono hd)
 | alloc t hz=>exact sim_asValue (sim_alloc t hz)
 | box t x hx=>exact sim_asValue (sim_box t (h.1 x hx))
 | build t ps hz hp=>exact sim_asValue (sim_build t hz (by simpa using h.parts (l:=ps.toList) fun p hq=>hp p (by simpa using hq)))
 | load t x hx=>exact sim_asValue (sim_loadAt t (h.1 x hx))
 | store t x y h1 h2=>exact sim_asUnit (sim_storeAt t (h.1 x h1) (h.1 y h2))
 | nilCheck x hx=>exact sim_nilCheck (h.1 x hx) ρ ρ' _ x rfl rfl rfl
 | arith op t x y yt h1 h2 h3 h4=>exact sim_asValue (Sim.bind (sim_eqGuardNot op t x y _ _ _ _ h3 h4) fun γ _ _ hl _=>sim_binOther hG op h3 h4 t ((h.1 x h1).mono hl) ((h.1 y h2).mono hl))
 | same op t x y yt h1 h2 h3=>exact sim_asValue (Sim.bind (sim_eqGuardPlain op t h3 x y (h.1 x h1) (h.1 y h2)) fun γ _ _ hl _=>sim_binOp hG op t ((h.1 x h1).mono hl) ((h.1 y h2).mono hl) (Or.inr (Or.inl h3)))
 | isNil op t x v yt h1 h2 =>
  refine sim_asValue ?_
  rw[(h.2 v).1,(h.2 v).2]
  exact Sim.bind (sim_eqGuardNil op t x v h2 (h.1 x h1)) fun γ _ _ hl _=>sim_binOp hG op t ((h.1 x h1).mono hl) (by cases h2<;>constructor) (Or.inr (Or.inr ⟨rfl,h2⟩))
 | not t x hx=>exact sim_asValue (sim_not (h.1 x hx))
 | conv s t k k' x h1 h2 hx=>exact sim_asValue (sim_convInt s t k k' h1 h2 (h.1 x hx))
 | iface t x hx=>exact sim_asValue (sim_makeInterface t (h.1 x hx))
 | func f a b hf h1 h2=>exact sim_asValue (Sim.pure fun _ hd=>(VR.func hf (h.arr h1).1 (h.arr h1).2 (h.arr h2).1 (h.arr h2).2).mono hd)
 | mkMap t r hr=>exact sim_asValue (sim_makeMap t (h.opt hr))
 | mkSlice t x y hz h1 h2=>exact sim_asValue (sim_makeSlice t hz (h.1 x h1) (h.1 y h2))
 | slice t x l hh m hna hnp hx h1 h2 h3=>exact sim_asValue (sim_slice t (h.1 x hx) (h.opt h1) (h.opt h2) (h.opt h3) hna hnp)
 | field s x k hne hx=>exact sim_asValue (sim_fieldAt s k hne (h.1 x hx))
 | index t x y h1 h2=>exact sim_asValue (sim_indexAt t (h.1 x h1) (h.1 y h2))
 | at_ t x y ht h1 h2=>exact sim_asValue (sim_index t ht (h.1 x h1) (h.1 y h2))
 | lookup t key elem x y ok ht hk hz h1 h2=>exact sim_asValue (sim_lookup hG t key elem ht hk hz ok (h.1 x h1) (h.1 y h2))
 | update t key elem x y z ht hk h1 h2 h3=>exact sim_asUnit (sim_mapUpdate hG t key elem ht hk (h.1 x h1) (h.1 y h2) (h.1 z h3))
 | extract x k hx=>exact sim_asValue (sim_extract (h.1 x hx) k)
 | call f a ts hf ha=>exact sim_callValue hB (h.1 f hf) (h.arr ha)
 | len a ts ha=>exact sim_asValue (sim_len ty (h.arr ha))
 | copy a ts ha=>exact sim_asValue (sim_copy ty (h.arr ha))
 | append a ts hz hn ha=>exact sim_asValue (sim_append ty hz hn (h.arr ha))
 | assert x xt t ok hz hx=>exact sim_asValue (sim_typeAssert xt t ok hz (h.1 x hx))
 | buildS t n ps hz hp=>exact sim_asValue (sim_buildSlice t n hz (by simpa using h.parts (l:=ps.toList) fun p hq=>hp p (by simpa using hq)))
end Go.Proofs.YtjeicikflkjacaaGreatDoor.Par

/- A run in a memory of one's own, and the same run elsewhere: frames that are alike, and an operation's step. -/
namespace Go.Proofs.YtjeicikflkjacaaGreatDoor.Par
open Go
variable {Ok:Cx} {P:Program} {β:Bij} {E:Nat}
inductive CodeOk (Ok:Cx) (P:Program):Code→Prop
 | skip:CodeOk Ok P .skip
 | region (id:Nat) (ops:Array Oper) (draw:Bool) (h:∀o∈ops,OpOk Ok P o.op):CodeOk Ok P (.region id ops draw)
 | seq {a b:Code} (h1:CodeOk Ok P a) (h2:CodeOk Ok P b):CodeOk Ok P (.seq a b)
 | cond (c:Operand) {a b:Code} (h:XOk Ok P c) (h1:CodeOk Ok P a) (h2:CodeOk Ok P b):CodeOk Ok P (.cond c a b)
 | block (id:Nat) {b:Code} (h:CodeOk Ok P b):CodeOk Ok P (.block id b)
 | loop {b:Code} (h:CodeOk Ok P b):CodeOk Ok P (.loop b)
 | exit (id:Nat):CodeOk Ok P (.exit id)
 | scope {b:Code} (h:CodeOk Ok P b):CodeOk Ok P (.scope b)
 | label (l:Nat):CodeOk Ok P (.label l)
 | goto (l:Nat):CodeOk Ok P (.goto l)
 | ret:CodeOk Ok P .ret
inductive ItemOk (Ok:Cx) (P:Program):Item→Prop
 | code {c:Code} (h:CodeOk Ok P c):ItemOk Ok P (.code c)
 | inBlock (id:Nat):ItemOk Ok P (.inBlock id)
 | inLoop {c:Code} (h:CodeOk Ok P c):ItemOk Ok P (.inLoop c)
 | inScope {c:Code} (h:CodeOk Ok P c):ItemOk Ok P (.inScope c)
 | inRegion (ops:Array Oper) (l:List Nat) (h:∀o∈ops,OpOk Ok P o.op):ItemOk Ok P (.inRegion ops l)
def KOk (Ok:Cx)(P:Program)(k:List Item):Prop:=∀x∈k,ItemOk Ok P x
theorem KOk.nil:KOk Ok P []:=fun _ h=>by cases h
theorem KOk.cons {x:Item}{k:List Item}(h:ItemOk Ok P x)(hk:KOk Ok P k):KOk Ok P (x :: k):=fun y hy=>by
 rcases List.mem_cons.1 hy with rfl|hy
 ·exact h
 ·exact hk y hy
theorem KOk.head {x:Item}{k:List Item}(h:KOk Ok P (x :: k)):ItemOk Ok P x:=h x (by simp)
theorem KOk.tail {x:Item}{k:List Item}(h:KOk Ok P (x :: k)):KOk Ok P k:=fun y hy=>h y (by simp[hy])
theorem KOk.exit (id:Nat):∀ {k k':List Item},KOk Ok P k→exitTo id k=some k'→KOk Ok P k'
 | [],k',_,h=>by simp[exitTo] at h
 | x :: k,k',hk,h=>by
  unfold exitTo at h
  split at h
  ·rename_i e
   injection e with _ e2
   subst e2
   split at h
   ·obtain rfl:=Option.some.inj h
    exact hk.tail
   ·exact hk.tail.exit id h
  ·rename_i e
   injection e with _ e2
   subst e2
   exact hk.tail.exit id h
  ·cases ‹_ :: _=[]›
theorem CodeOk.find (l:Nat):∀ {c r:Code},CodeOk Ok P c→findLabel c l=some r→CodeOk Ok P r
 | _,r,.seq h1 h2,h=>by
  unfold findLabel at h
  split at h
  ·rename_i e
   obtain rfl:=Option.some.inj h
   exact .seq (h1.find l e) h2
  ·exact h2.find l h
 | _,r,.label l',h=>by
  unfold findLabel at h
  split at h
  ·obtain rfl:=Option.some.inj h
   exact .skip
  ·cases h
 | _,_,.skip,h|_,_,.region ..,h|_,_,.cond ..,h|_,_,.block ..,h|_,_,.loop ..,h|_,_,.exit ..,h|_,_,.scope ..,h|_,_,.goto ..,h|_,_,.ret,h=>by simp[findLabel] at h
theorem KOk.goto (l:Nat):∀ {k k':List Item},KOk Ok P k→gotoIn l k=some k'→KOk Ok P k'
 | [],k',_,h=>by simp[gotoIn] at h
 | x :: k,k',hk,h=>by
  unfold gotoIn at h
  split at h
  ·rename_i e
   injection e with e1 e2
   subst e1
   subst e2
   split at h
   ·rename_i e3
    obtain rfl:=Option.some.inj h
    have hh:=hk.head
    cases hh with
    | inScope hc=>exact .cons (.code (hc.find l e3)) hk
   ·exact hk.tail.goto l h
  ·rename_i e
   injection e with _ e2
   subst e2
   exact hk.tail.goto l h
  ·cases ‹_ :: _=[]›
abbrev Fm (f:FuncId) (t:Array Value) (k:List Item) (m:FrameMode):Frame:={ fn:=f,tmps:=t,todo:=k,defers:=[],mode:=m,kind:=.normal }
abbrev Gr (fr:Frame) (cs:List Frame):Goroutine:={ frame:=fr,callers:=cs,status:=.running,dying:=none }
def Texts (Ok:Cx)(P:Program):Prop:=∀f,Ok f→∃fn c,P.funcs[f]?=some fn∧fn.body=some c∧CodeOk Ok P c
theorem vr_undef (γ:Nat→Nat→Prop):VR Ok γ undef undef:=.tuple rfl fun i u u' h=>by simp at h
theorem eval_like (hgl:∀g,Ok.gl g→β.r g g)(f:FuncId){t t':Array Value}(ht:AR Ok β.r t t')(k:List Item)(m:FrameMode):EvR' Ok P β (Fm f t k m).eval (Fm f t' k m).eval:=by
 refine⟨fun x hx=>?_,fun v=>⟨rfl,rfl⟩⟩
 cases hx with
 | tmp s=>exact ht.getD s (vr_undef _)
 | const v h=>exact h _
 | global g h=>exact .ptr 0 none (hgl g h)
 | func g h=>exact .func h rfl (fun i u u' h=>by simp at h) rfl (fun i u u' h=>by simp at h)
theorem fold_like {N:Nat→Prop}{γ:Nat→Nat→Prop}(F:Bool × Array Event→Event→Bool × Array Event)(hF:∀q x x' e e',EsR N γ x x'→EvR N γ e e'→(F (q,x) e).1=(F (q,x') e').1∧EsR N γ (F (q,x) e).2 (F (q,x') e').2):∀(l l':List Event),l.length=l'.length→(∀(i:Nat) (e e':Event),l[i]?=some e→l'[i]?=some e'→EvR N γ e e')→∀q x x',EsR N γ x x'→EsR N γ (l.foldl F (q,x)).2 (l'.foldl F (q,x')).2
 | [],[],_,_,_,_,_,h=>h
 | e :: l,e' :: l',hl,h,q,x,x',hx=>by
  obtain⟨h1,h2⟩:=hF q x x' e e' hx (h 0 e e' rfl rfl)
  have:=fold_like F hF l l' (by simpa using hl) (fun i a b ha hb=>h (i+1) a b (by simpa using ha) (by simpa using hb)) (F (q,x) e).1 _ _ h2
  have e2:((F (q,x) e).1,(F (q,x') e').2)=F (q,x') e':=by rw[h1]
  rw[e2] at this
  exact this
 | [],_ :: _,hl,_,_,_,_,_=>by simp at hl
 | _ :: _,[],hl,_,_,_,_,_=>by simp at hl
theorem seen_like {N:Nat→Prop}{γ:Nat→Nat→Prop}(f:FuncId){es es':Array Event}(h:EsR N γ es es'):EsR N γ (seen P f es) (seen P f es'):=by
 unfold seen
 dsimp only
 rw[←Array.foldl_toList,←Array.foldl_toList]
 refine fold_like _ (fun q x x' e e' hx he=>?_) _ _ (by simpa using h.1) (fun i e e' h1 h2=>h.2 i e e' (by simpa using h1) (by simpa using h2)) _ _ _ (EsR.empty _)
 obtain⟨loc,w,s⟩:=e
 obtain⟨loc',w',s'⟩:=e'
 have hs:s=s':=he.sync
 have hl:LR γ loc loc':=he.loc
 subst hs
 cases hl<;>(dsimp only;refine⟨rfl,?_⟩;split;exact hx;exact hx.push he)
inductive Stp (Ok:Cx) (P:Program) (E:Nat) (β:Bij) (v W:World) (f:FuncId) (t t':Array Value) (k:List Item) (cs cs':List Frame):GStep→GStep→Prop
 | go (γ:Bij) {t1 t1':Array Value} {k1:List Item} {m1:FrameMode} {v1 W1:World} {es es':Array Event} (hW:WR Ok E γ v1 W1) (hF:Fr β γ v W v1 W1) (he:EsR Ok.sh γ.r es es') (ht:AR Ok γ.r t1 t1') (hk:KOk Ok P k1) (hm:m1=.run∨m1=.returning):Stp Ok P E β v W f t t' k cs cs' (.go (Gr (Fm f t1 k1 m1) cs) v1 es) (.go (Gr (Fm f t1' k1 m1) cs') W1 es')
 | enter (γ:Bij) {f2:FuncId} {t2 t2':Array Value} {c:Code} {v1 W1:World} {es es':Array Event} (hf:Ok f2) (hW:WR Ok E γ v1 W1) (hF:Fr β γ v W v1 W1) (he:EsR Ok.sh γ.r es es') (ht:AR Ok γ.r t2 t2') (hc:CodeOk Ok P c):Stp Ok P E β v W f t t' k cs cs' (.go (Gr (Fm f2 t2 [.code c] .run) (Fm f t k .run :: cs)) v1 es) (.go (Gr (Fm f2 t2' [.code c] .run) (Fm f t' k .run :: cs')) W1 es')
 | panics (ch:List PanicEntry) (v1:World) (es:Array Event) (r':GStep):Stp Ok P E β v W f t t' k cs cs' (.go (Gr (Fm f t k (.panicking ch)) cs) v1 es) r'
 | far (g:Goroutine) (v1:World) (es:Array Event) (r':GStep) (h:E<v1.drawn):Stp Ok P E β v W f t t' k cs cs' (.go g v1 es) r'
 | ended (o:Outcome) (v1:World) (es:Array Event) (r':GStep):Stp Ok P E β v W f t t' k cs cs' (.ended o v1 es) r'
abbrev putAt (ops:Array Oper) (i:Nat) (t:Array Value) (u:Value):Array Value:=match (ops[i]?).bind (·.dst) with
 | some d=>t.setIfInBounds d u
 | none=>t
theorem AR.putAt {γ:Nat→Nat→Prop}(ops:Array Oper)(i:Nat){t t':Array Value}(h:AR Ok γ t t'){u u':Value}(hu:VR Ok γ u u'):AR Ok γ (Par.putAt ops i t u) (Par.putAt ops i t' u'):=by
 unfold Par.putAt
 split
 ·exact h.set hu _
 ·exact h
theorem AR.fill {γ:Nat→Nat→Prop}{x x':Array Value}(h:AR Ok γ x x')(n:Nat):AR Ok γ (x++Array.replicate (n - x.size) undef) (x'++Array.replicate (n - x'.size) undef):=by
 rw[←h.1]
 exact h.append (AR.same fun u hu=>by rw[Array.eq_of_mem_replicate hu];exact vr_undef _)
theorem apply_like (hT:Texts Ok P){s s':Sem Next}(hs:Sim Ok P (NR Ok) β s s'){v W:World}(hW:WR Ok E β v W)(f:FuncId){t t':Array Value}(ht:AR Ok β.r t t')(ops:Array Oper)(i:Nat)(rest:List Nat)(k:List Item)(hk:KOk Ok P (.inRegion ops (i :: rest) :: k))(cs cs':List Frame) :
  Stp Ok P E β v W f t t' (.inRegion ops (i :: rest) :: k) cs cs' (stepG.apply P true (Fm f t (.inRegion ops (i :: rest) :: k) .run) cs none s v) (stepG.apply P true (Fm f t' (.inRegion ops (i :: rest) :: k) .run) cs' none s' W):=by
 have h:=hs E β (Bij.le_refl β) v W hW #[] #[] (EsR.empty _)
 have hk':KOk Ok P (.inRegion ops rest :: k):=by
  have hh:=hk.head
  cases hh with
  | inRegion _ _ ho=>exact .cons (.inRegion ops rest ho) hk.tail
 cases hr:s.runT P v #[] with
 | mk r es =>
  cases r with
  | ok n v1 =>
   by_cases hE:E<v1.drawn
   ·obtain⟨_,n',hn,_⟩:=hs.vd (Bij.le_refl β) hW (EsR.empty _) hr
    unfold stepG.apply
    simp only[hr,if_true]
    cases hn<;>exact .far _ _ _ _ hE
   obtain⟨γ,n',W1,es',e,hn,hw,hF,he⟩:=h.1 n v1 es hr (by omega)
   have hse:=seen_like (P:=P) f he
   have hse':EsR Ok.sh γ.r (seen P f es++#[]) (seen P f es'++#[]):=by simpa using hse
   have ht':=ht.mono hF.le
   unfold stepG.apply
   simp only[hr,e,if_true]
   cases hn with
   | value hv=>exact .go γ hw hF hse' (ht'.putAt ops i hv) hk' (Or.inl rfl)
   | skip=>exact .go γ hw hF hse' (ht'.putAt ops i (vr_undef _)) hk' (Or.inl rfl)
   | enter f2 hf2 hx =>
    obtain⟨fn,c,h1,h2,h3⟩:=hT f2 hf2
    have en:∀x,Frame.enter P f2 x .normal=Fm f2 (x++Array.replicate (fn.ntmps - x.size) undef) [.code c] .run:=fun x=>by
     unfold Frame.enter
     simp[h1,h2]
    simp only[en]
    exact .enter γ hf2 hw hF hse' (hx.fill _) h3
  | halt q v1 =>
   have hm:=h.2 q v1 es hr
   unfold stepG.apply
   simp only[hr,if_true]
   cases hm with
   | panic u=>exact .panics _ _ _ _
   | stuck w=>exact .ended _ _ _ _
   | unsupported u hu=>cases u<;>first|exact .ended _ _ _ _|exact absurd rfl (hu _)
end Go.Proofs.YtjeicikflkjacaaGreatDoor.Par

/- A run in a memory of one's own, and the same run elsewhere: every step of a frame. -/
namespace Go.Proofs.YtjeicikflkjacaaGreatDoor.Par
open Go
variable {Ok:Cx} {P:Program} {β:Bij} {E:Nat}
theorem yielded_like {γ:Nat→Nat→Prop}(ops:Array Oper){t t':Array Value}(ht:AR Ok γ t t'):yielded ops t=yielded ops t':=by
 funext j
 unfold yielded
 cases hd:(ops[j]?).bind (·.dst) with
 | none=>rfl
 | some d =>
  dsimp only [Option.bind_some]
  cases h1:t[d]? with
  | none=>rw[ht.get_none h1]
  | some u =>
   obtain⟨u',h2,hu⟩:=ht.get h1
   rw[h2]
   cases hu<;>rfl
theorem Stp.same {v W:World}(hW:WR Ok E β v W){f:FuncId}{t t':Array Value}(ht:AR Ok β.r t t'){k k1:List Item}(hk:KOk Ok P k1){m:FrameMode}(hm:m=.run∨m=.returning)(cs cs':List Frame):Stp Ok P E β v W f t t' k cs cs' (.go (Gr (Fm f t k1 m) cs) v) (.go (Gr (Fm f t' k1 m) cs') W):=.go β hW (Fr.refl _ _ _) (EsR.empty _) ht hk hm
theorem step_run (hG:Ok.G=P.globals.size)(hB:Bodies Ok P)(hT:Texts Ok P)(hgl:∀g,Ok.gl g→β.r g g){v W:World}(hW:WR Ok E β v W)(f:FuncId){t t':Array Value}(ht:AR Ok β.r t t')(k:List Item)(hk:KOk Ok P k)(main main':Bool)(cs cs':List Frame) :
  Stp Ok P E β v W f t t' k cs cs' (stepG P main (Gr (Fm f t k .run) cs) v) (stepG P main' (Gr (Fm f t' k .run) cs') W):=by
 cases k with
 | nil=>exact Stp.same hW ht hk (Or.inr rfl) cs cs'
 | cons x k =>
  have hx:=hk.head
  have hk1:=hk.tail
  cases hx with
  | inBlock id=>exact Stp.same hW ht hk1 (Or.inl rfl) cs cs'
  | inScope h=>exact Stp.same hW ht hk1 (Or.inl rfl) cs cs'
  | inLoop h=>exact Stp.same hW ht (.cons (.code h) (.cons (.inLoop h) hk1)) (Or.inl rfl) cs cs'
  | inRegion ops l ho =>
   cases l with
   | nil=>exact Stp.same hW ht hk1 (Or.inl rfl) cs cs'
   | cons i rest =>
    have hy:=yielded_like ops ht
    show Stp Ok P E β v W f t t' _ cs cs' (if ((ops[i]?).map (Region.wanted · (yielded ops t))).getD false then stepG.oper P true (Fm f t (.inRegion ops (i :: rest) :: k) .run) cs none v else .go (Gr (Fm f (putAt ops i t undef) (.inRegion ops rest :: k) .run) cs) v) (if ((ops[i]?).map (Region.wanted · (yielded ops t'))).getD false then stepG.oper P true (Fm f t' (.inRegion ops (i :: rest) :: k) .run) cs' none W else .go (Gr (Fm f (putAt ops i t' undef) (.inRegion ops rest :: k) .run) cs') W)
    rw[←hy]
    split
    ·cases hi:ops[i]? with
     | none =>
      have e : ∀ (t : Array Value) (cs : List Frame) (v : World), stepG.oper P true (Fm f t (.inRegion ops (i :: rest) :: k) .run) cs none v = .ended (.stuck "no operation here" ((Fm f t (.inRegion ops (i :: rest) :: k) .run).pos P)) v := fun t cs v => by
       simp[stepG.oper,Frame.oper?,hi]
      rw[e]
      exact .ended _ _ _ _
     | some o =>
      have e:∀(t:Array Value) (cs:List Frame) (v:World),stepG.oper P true (Fm f t (.inRegion ops (i :: rest) :: k) .run) cs none v=stepG.apply P true (Fm f t (.inRegion ops (i :: rest) :: k) .run) cs none (execOp (Fm f t (.inRegion ops (i :: rest) :: k) .run).eval o) v:=fun t cs v=>by
       simp[stepG.oper,Frame.oper?,hi]
      rw[e,e]
      exact apply_like hT (sim_execOp hG hB (eval_like hgl f ht _ _) o (ho o (Array.mem_of_getElem? hi))) hW f ht ops i rest k hk cs cs'
    ·exact .go β hW (Fr.refl _ _ _) (EsR.empty _) (ht.putAt ops i (vr_undef _)) (.cons (.inRegion ops rest ho) hk1) (Or.inl rfl)
  | code hc =>
   cases hc with
   | skip=>exact Stp.same hW ht hk1 (Or.inl rfl) cs cs'
   | label l=>exact Stp.same hW ht hk1 (Or.inl rfl) cs cs'
   | ret=>exact Stp.same hW ht hk (Or.inr rfl) cs cs'
   | seq h1 h2=>exact Stp.same hW ht (.cons (.code h1) (.cons (.code h2) hk1)) (Or.inl rfl) cs cs'
   | block id h=>exact Stp.same hW ht (.cons (.code h) (.cons (.inBlock id) hk1)) (Or.inl rfl) cs cs'
   | loop h=>exact Stp.same hW ht (.cons (.code h) (.cons (.inLoop h) hk1)) (Or.inl rfl) cs cs'
   | scope h=>exact Stp.same hW ht (.cons (.code h) (.cons (.inScope h) hk1)) (Or.inl rfl) cs cs'
   | @cond c a b h h1 h2 =>
    have hv:=(eval_like (P:=P) hgl f ht (.code (.cond c a b) :: k) .run).1 c h
    have e:∀(main:Bool) (t:Array Value) (cs:List Frame) (v:World),stepG P main (Gr (Fm f t (.code (.cond c a b) :: k) .run) cs) v=match (Fm f t (.code (.cond c a b) :: k) .run).eval c with
      | .bool q=>.go (Gr (Fm f t (.code (if q then a else b) :: k) .run) cs) v
      | _ => .ended (.stuck "cond: bool expected" ((Fm f t (.code (.cond c a b) :: k) .run).pos P)) v := fun _ _ _ _ => rfl
    rw[e,e]
    generalize (Fm f t (.code (.cond c a b) :: k) .run).eval c=u at hv
    generalize (Fm f t' (.code (.cond c a b) :: k) .run).eval c=u' at hv
    cases hv with
    | bool q=>exact Stp.same hW ht (.cons (.code (by cases q with|true=>exact h1|false=>exact h2)) hk1) (Or.inl rfl) cs cs'
    | _=>exact .ended _ _ _ _
   | exit id =>
    cases hq:exitTo id k with
    | none =>
     have e : stepG P main (Gr (Fm f t (.code (.exit id) :: k) .run) cs) v = .ended (.stuck "exit, goto: no such block or label" ((Fm f t (.code (.exit id) :: k) .run).pos P)) v := by
      simp[stepG,stepG.exec,hq]
     rw[e]
     exact .ended _ _ _ _
    | some k1 =>
     have e:∀(main:Bool) (t:Array Value) (cs:List Frame) (v:World),stepG P main (Gr (Fm f t (.code (.exit id) :: k) .run) cs) v=.go (Gr (Fm f t k1 .run) cs) v:=fun _ _ _ _=>by
      simp[stepG,stepG.exec,hq]
     rw[e,e]
     exact Stp.same hW ht (hk1.exit id hq) (Or.inl rfl) cs cs'
   | goto l =>
    cases hq:gotoIn l k with
    | none =>
     have e : stepG P main (Gr (Fm f t (.code (.goto l) :: k) .run) cs) v = .ended (.stuck "exit, goto: no such block or label" ((Fm f t (.code (.goto l) :: k) .run).pos P)) v := by
      simp[stepG,stepG.exec,hq]
     rw[e]
     exact .ended _ _ _ _
    | some k1 =>
     have e:∀(main:Bool) (t:Array Value) (cs:List Frame) (v:World),stepG P main (Gr (Fm f t (.code (.goto l) :: k) .run) cs) v=.go (Gr (Fm f t k1 .run) cs) v:=fun _ _ _ _=>by
      simp[stepG,stepG.exec,hq]
     rw[e,e]
     exact Stp.same hW ht (hk1.goto l hq) (Or.inl rfl) cs cs'
   | region id ops draw ho =>
    cases draw with
    | false=>exact Stp.same hW ht (.cons (.inRegion ops _ ho) hk1) (Or.inl rfl) cs cs'
    | true =>
     have hc:=(Sim.choose (Ok:=Ok) (P:=P) (β:=β) (.order f id)) E β (Bij.le_refl β) v W hW #[] #[] (EsR.empty _)
     have e:∀(main:Bool) (t:Array Value) (cs:List Frame) (v v1:World) (n:Nat),(choose (.order f id)).runT P v #[]=(.ok n v1,#[])→stepG P main (Gr (Fm f t (.code (.region id ops true) :: k) .run) cs) v=.go (Gr (Fm f t (.inRegion ops (Region.schedule (P.follows .mixedOrders) ops n) :: k) .run) cs) v1:=fun _ _ _ v v1 n hr=>by
      have hr2:(choose (.order f id)).run P v=.ok n v1:=by
       rw[←Sem.runT_fst,hr]
      simp[stepG,stepG.exec,hr2]
     cases hr:(choose (.order f id)).runT P v #[] with
     | mk r es =>
      have hes:es=#[]∧∃n v1,r=.ok n v1:=by
       have hr':(Sem.choose (.order f id) Sem.pure).runT P v #[]=(r,es):=hr
       simp only[Sem.runT] at hr'
       split at hr'<;>(injection hr' with a b;exact⟨b.symm,_,_,a.symm⟩)
      obtain⟨rfl,n,v1,rfl⟩:=hes
      by_cases hE:E<v1.drawn
      ·rw[e _ _ _ _ _ _ hr]
       exact .far _ _ _ _ hE
      obtain⟨γ,n',W1,es',e',hn,hw,hF,he⟩:=hc.1 n v1 #[] hr (by omega)
      subst hn
      have:es'=#[]:=by
       have:=he.1
       simpa using this.symm
      subst this
      rw[e _ _ _ _ _ _ hr,e _ _ _ _ _ _ e']
      exact .go γ hw hF (EsR.empty _) (ht.mono hF.le) (.cons (.inRegion ops _ ho) hk1) (Or.inl rfl)
end Go.Proofs.YtjeicikflkjacaaGreatDoor.Par

/- A run in a memory of one's own, and the same run elsewhere: a frame's return; stacks of frames. -/
namespace Go.Proofs.YtjeicikflkjacaaGreatDoor.Par
open Go
variable {Ok:Cx} {P:Program} {β:Bij} {E:Nat}
theorem sim_mapL {α:Type}{g g':α→Sem Value}{l:List α}(h:∀a γ,β.le γ→Sim Ok P (VRr Ok) γ (g a) (g' a)):Sim Ok P (fun γ x x'=>LV Ok γ.r x x') β (l.mapM g) (l.mapM g'):=by
 induction l generalizing β with
 | nil =>
  rw[List.mapM_nil,List.mapM_nil]
  exact Sim.pure fun _ _=>.nil
 | cons a l ih =>
  rw[List.mapM_cons,List.mapM_cons]
  refine Sim.bind (h a β (Bij.le_refl β)) fun γ x x' hl hx=>?_
  refine Sim.bind (ih fun a δ hd=>h a δ (Bij.le_trans hl hd)) fun γ1 y y' hl1 hy=>?_
  exact Sim.pure fun _ hd=>.cons ((hx.mono hl1).mono hd) (hy.mono hd)
theorem LV.arr {γ:Nat→Nat→Prop}{l l':List Value}(h:LV Ok γ l l'):AR Ok γ l.toArray l'.toArray:=by
 induction h with
 | nil=>exact⟨rfl,fun i u u' h=>by simp at h⟩
 | cons hu hl ih =>
  refine⟨by have:=ih.1;simp at this;simp[this],fun i u u' h1 h2=>?_⟩
  cases i with
  | zero =>
   simp at h1 h2
   subst h1
   subst h2
   exact hu
  | succ i=>exact ih.2 i u u' (by simpa using h1) (by simpa using h2)
theorem sim_results (fn:Func){t t':Array Value}(ht:AR Ok β.r t t'):Sim Ok P (VRr Ok) β (results fn t) (results fn t'):=by
 unfold results
 rw[Array.mapM_eq_mapM_toList,Array.mapM_eq_mapM_toList,←bind_pure_comp,←bind_pure_comp,bind_assoc,bind_assoc]
 refine Sim.bind (sim_mapL fun a γ hl=>?_) fun γ x x' hl hx=>?_
 ·cases a with
  | tmp s=>exact Sim.pure fun _ hd=>((ht.getD s (vr_undef _)).mono hl).mono hd
  | cell a ty=>exact Sim.bind (sim_asAddr ((ht.getD a (vr_undef _)).mono hl)) fun _ _ _ _ ha=>sim_loadVar ty ha
 ·refine Sim.bind (Sim.pure (R:=fun γ x x'=>AR Ok γ.r x x') fun _ hd=>hx.arr.mono hd) fun γ1 y y' hl1 hy=>?_
  refine Sim.pure fun δ hd=>?_
  have hs:=hy.1
  by_cases h1:y.size=1
  ·have h2:y'.size=1:=by omega
   rw[dif_pos h1,dif_pos h2]
   exact (hy.2 0 _ _ (by simp[h1]) (by simp[h2])).mono hd
  ·have h2:¬y'.size=1:=by omega
   rw[dif_neg h1,dif_neg h2]
   exact .tuple hs fun i u u' q1 q2=>(hy.2 i u u' q1 q2).mono hd
inductive Rtn (Ok:Cx) (E:Nat) (β:Bij) (v W:World) (c c':Frame) (cs cs':List Frame):GStep→GStep→Prop
 | back (γ:Bij) {u u':Value} {v1 W1:World} {es es':Array Event} (hu:VR Ok γ.r u u') (hW:WR Ok E γ v1 W1) (hF:Fr β γ v W v1 W1) (he:EsR Ok.sh γ.r es es'):Rtn Ok E β v W c c' cs cs' (.go (Gr (c.finish u) cs) v1 es) (.go (Gr (c'.finish u') cs') W1 es')
 | far (g:Goroutine) (v1:World) (es:Array Event) (r':GStep) (h:E<v1.drawn):Rtn Ok E β v W c c' cs cs' (.go g v1 es) r'
 | ended (o:Outcome) (v1:World) (es:Array Event) (r':GStep):Rtn Ok E β v W c c' cs cs' (.ended o v1 es) r'
theorem step_ret {v W:World}(hW:WR Ok E β v W){f:FuncId}{fn:Func}(hf:P.funcs[f]?=some fn){t t':Array Value}(ht:AR Ok β.r t t')(k:List Item)(main main':Bool)(c c':Frame)(cs cs':List Frame) :
  Rtn Ok E β v W c c' cs cs' (stepG P main (Gr (Fm f t k .returning) (c :: cs)) v) (stepG P main' (Gr (Fm f t' k .returning) (c' :: cs')) W):=by
 have h:=sim_results (P:=P) fn ht E β (Bij.le_refl β) v W hW #[] #[] (EsR.empty _)
 cases hr:(results fn t).runT P v #[] with
 | mk r es =>
  cases r with
  | ok u v1 =>
   have e1:∀(main:Bool) (t:Array Value) (c:Frame) (cs:List Frame) (v v1:World) (u:Value) (es:Array Event),(results fn t).runT P v #[]=(.ok u v1,es)→stepG P main (Gr (Fm f t k .returning) (c :: cs)) v=.go (Gr (c.finish u) cs) v1 (seen P f es):=fun main t c cs v v1 u es hr=>by
    have h2:(results fn t).run P v=.ok u v1:=by rw[←Sem.runT_fst P _ v #[],hr]
    have h3:(results fn t).events P v #[]=es:=by unfold Sem.events;rw[hr]
    simp[stepG,unwind,doReturn,hf,h2,h3,GStep.after]
   by_cases hE:E<v1.drawn
   ·rw[e1 _ _ _ _ _ _ _ _ hr]
    exact .far _ _ _ _ hE
   obtain⟨γ,u',W1,es',e,hu,hw,hF,he⟩:=h.1 u v1 es hr (by omega)
   have hse:=seen_like (P:=P) f he
   rw[e1 _ _ _ _ _ _ _ _ hr,e1 _ _ _ _ _ _ _ _ e]
   exact .back γ hu hw hF hse
  | halt q v1 =>
   have h2:(results fn t).run P v=.halt q v1:=by rw[←Sem.runT_fst P _ v #[],hr]
   have:∃o es2,stepG P main (Gr (Fm f t k .returning) (c :: cs)) v=.ended o v1 es2:=by
    cases q<;>exact⟨_,_,by simp[stepG,unwind,hf,h2,GStep.after];first|done|exact⟨rfl,rfl⟩⟩
   obtain⟨o,es2,e⟩:=this
   rw[e]
   exact .ended _ _ _ _
theorem finish_like {γ:Nat→Nat→Prop}(f:FuncId){t t':Array Value}(ht:AR Ok γ t t')(k:List Item)(hk:KOk Ok P k)(m:FrameMode){u u':Value}(hu:VR Ok γ u u'):∃t1 t1' k1,(Fm f t k m).finish u=Fm f t1 k1 m∧(Fm f t' k m).finish u'=Fm f t1' k1 m∧AR Ok γ t1 t1'∧KOk Ok P k1:=by
 cases k with
 | nil=>exact⟨t,t',[],rfl,rfl,ht,hk⟩
 | cons x k =>
  have hx:=hk.head
  cases hx with
  | inRegion ops l ho =>
   cases l with
   | nil=>exact⟨t,t',_,rfl,rfl,ht,hk⟩
   | cons i rest=>exact⟨_,_,_,rfl,rfl,ht.putAt ops i hu,.cons (.inRegion ops rest ho) hk.tail⟩
  | _=>exact⟨t,t',_,rfl,rfl,ht,hk⟩
inductive StkR (Ok:Cx) (P:Program) (γ:Nat→Nat→Prop) (base base':List Frame):List Frame→List Frame→Prop
 | base:StkR Ok P γ base base' base base'
 | push (f:FuncId) (hf:Ok f) {t t':Array Value} (ht:AR Ok γ t t') {k:List Item} (hk:KOk Ok P k) {cs cs':List Frame} (h:StkR Ok P γ base base' cs cs'):StkR Ok P γ base base' (Fm f t k .run :: cs) (Fm f t' k .run :: cs')
theorem StkR.mono {γ δ:Nat→Nat→Prop}(h:∀a b,γ a b→δ a b){base base' cs cs':List Frame}(hs:StkR Ok P γ base base' cs cs'):StkR Ok P δ base base' cs cs':=by
 induction hs with
 | base=>exact .base
 | push f hf ht hk _ ih=>exact .push f hf (ht.mono h) hk ih
end Go.Proofs.YtjeicikflkjacaaGreatDoor.Par
