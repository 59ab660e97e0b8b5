/- A run in a memory of one's own, and the same run elsewhere: values and memories that are alike but for the numbers of blocks. -/
import Derived.Conc.Events
namespace Go.Proofs.YtjeicikflkjacaaGreatDoor.Par
open Go
structure Cx where
 ok:FuncId→Prop
 G:Nat
 gl:Nat→Prop
 sh:Nat→Prop
instance:CoeFun Cx (fun _=>FuncId→Prop):=⟨Cx.ok⟩
structure Bij where
 r:Nat→Nat→Prop
 fn:∀ {a b c:Nat},r a b→r a c→b=c
 inj:∀ {a b c:Nat},r a c→r b c→a=b
def Bij.le (β γ:Bij):Prop:=∀a b,β.r a b→γ.r a b
theorem Bij.le_refl (β:Bij):β.le β:=fun _ _ h=>h
theorem Bij.le_trans {α β γ:Bij}(h:α.le β)(k:β.le γ):α.le γ:=fun a b x=>k a b (h a b x)
def Bij.add (β:Bij)(a b:Nat)(ha:∀x,¬β.r a x)(hb:∀x,¬β.r x b):Bij where
 r x y:=β.r x y∨(x=a∧y=b)
 fn:=by
  rintro x y z (h|⟨rfl,rfl⟩) (k|⟨e,rfl⟩)
  ·exact β.fn h k
  ·subst e;exact absurd h (ha _)
  ·exact absurd k (ha _)
  ·rfl
 inj:=by
  rintro x y z (h|⟨rfl,rfl⟩) (k|⟨rfl,e⟩)
  ·exact β.inj h k
  ·subst e;exact absurd h (hb _)
  ·exact absurd k (hb _)
  ·rfl
theorem Bij.le_add (β:Bij)(a b:Nat)(ha:∀x,¬β.r a x)(hb:∀x,¬β.r x b):β.le (β.add a b ha hb):=fun _ _ h=>Or.inl h
theorem Bij.add_self (β:Bij)(a b:Nat)(ha:∀x,¬β.r a x)(hb:∀x,¬β.r x b):(β.add a b ha hb).r a b:=Or.inr ⟨rfl,rfl⟩
inductive VR (Ok:Cx) (β:Nat→Nat→Prop):Value→Value→Prop
 | bool (b:Bool):VR Ok β (.bool b) (.bool b)
 | int (k:IntKind) (n:Int):VR Ok β (.int k n) (.int k n)
 | string (s:ByteArray):VR Ok β (.string s) (.string s)
 | pnil:VR Ok β (.pointer none) (.pointer none)
 | ptr {b b':Nat} (o:Nat) (sp:Option Nat) (h:β b b'):VR Ok β (.pointer (some ⟨b,o,sp⟩)) (.pointer (some ⟨b',o,sp⟩))
 | snil (l c:Nat):VR Ok β (.slice none l c) (.slice none l c)
 | slice {b b':Nat} (o:Nat) (sp:Option Nat) (l c:Nat) (h:β b b'):VR Ok β (.slice (some ⟨b,o,sp⟩) l c) (.slice (some ⟨b',o,sp⟩) l c)
 | mnil:VR Ok β (.map none) (.map none)
 | map {r r':Nat} (h:β r r'):VR Ok β (.map (some r)) (.map (some r'))
 | func {f:FuncId} {x x' y y':Array Value} (hf:Ok f) (hx:x.size=x'.size) (hxx:∀(i:Nat) (u u':Value),x[i]?=some u→x'[i]?=some u'→VR Ok β u u') (hy:y.size=y'.size) (hyy:∀(i:Nat) (u u':Value),y[i]?=some u→y'[i]?=some u'→VR Ok β u u'):VR Ok β (.func (.func f) x y) (.func (.func f) x' y')
 | nilFunc:VR Ok β .nilFunc .nilFunc
 | iface (t:TypeId) {v v':Value} (h:VR Ok β v v'):VR Ok β (.iface t v) (.iface t v')
 | nilIface:VR Ok β .nilIface .nilIface
 | agg {x x':Array Value} (hx:x.size=x'.size) (hxx:∀(i:Nat) (u u':Value),x[i]?=some u→x'[i]?=some u'→VR Ok β u u'):VR Ok β (.agg x) (.agg x')
 | tuple {x x':Array Value} (hx:x.size=x'.size) (hxx:∀(i:Nat) (u u':Value),x[i]?=some u→x'[i]?=some u'→VR Ok β u u'):VR Ok β (.tuple x) (.tuple x')
variable {Ok:Cx}
theorem VR.mono {β γ:Nat→Nat→Prop}(h:∀a b,β a b→γ a b){v v':Value}(hv:VR Ok β v v'):VR Ok γ v v':=by
 induction hv with
 | bool b=>exact .bool b
 | int k n=>exact .int k n
 | string s=>exact .string s
 | pnil=>exact .pnil
 | ptr o sp hb=>exact .ptr o sp (h _ _ hb)
 | snil l c=>exact .snil l c
 | slice o sp l c hb=>exact .slice o sp l c (h _ _ hb)
 | mnil=>exact .mnil
 | map hb=>exact .map (h _ _ hb)
 | func hf hx _ hy _ ih1 ih2=>exact .func hf hx ih1 hy ih2
 | nilFunc=>exact .nilFunc
 | iface t _ ih=>exact .iface t ih
 | nilIface=>exact .nilIface
 | agg hx _ ih=>exact .agg hx ih
 | tuple hx _ ih=>exact .tuple hx ih
def AR (Ok:Cx)(β:Nat→Nat→Prop)(x x':Array Value):Prop:=x.size=x'.size∧∀(i:Nat) (u u':Value),x[i]?=some u→x'[i]?=some u'→VR Ok β u u'
theorem AR.mono {β γ:Nat→Nat→Prop}(h:∀a b,β a b→γ a b){x x':Array Value}(hx:AR Ok β x x'):AR Ok γ x x':=⟨hx.1,fun i u u' h1 h2=>(hx.2 i u u' h1 h2).mono h⟩
theorem AR.get {β:Nat→Nat→Prop}{x x':Array Value}(h:AR Ok β x x'){i:Nat}{u:Value}(hu:x[i]?=some u):∃u',x'[i]?=some u'∧VR Ok β u u':=by
 obtain⟨hi,_⟩:=Array.getElem?_eq_some_iff.1 hu
 have hi':i<x'.size:=by rw[←h.1];exact hi
 exact⟨x'[i],Array.getElem?_eq_getElem hi',h.2 i u _ hu (Array.getElem?_eq_getElem hi')⟩
theorem AR.get_none {β:Nat→Nat→Prop}{x x':Array Value}(h:AR Ok β x x'){i:Nat}(hu:x[i]?=none):x'[i]?=none:=by
 rw[Array.getElem?_eq_none_iff] at hu ⊢
 rw[←h.1]
 exact hu
theorem AR.empty (β:Nat→Nat→Prop):AR Ok β #[] #[]:=⟨rfl,fun i u u' h=>by simp at h⟩
theorem AR.push {β:Nat→Nat→Prop}{x x':Array Value}(h:AR Ok β x x'){u u':Value}(hu:VR Ok β u u'):AR Ok β (x.push u) (x'.push u'):=by
 refine⟨by simp[h.1],fun i z z' h1 h2=>?_⟩
 rw[Array.getElem?_push] at h1 h2
 split at h1
 ·rename_i e
  rw[←h.1,if_pos e] at h2
  obtain rfl:=Option.some.inj h1
  obtain rfl:=Option.some.inj h2
  exact hu
 ·rename_i e
  rw[←h.1,if_neg e] at h2
  exact h.2 i z z' h1 h2
theorem AR.set {β:Nat→Nat→Prop}{x x':Array Value}(h:AR Ok β x x'){u u':Value}(hu:VR Ok β u u')(k:Nat):AR Ok β (x.setIfInBounds k u) (x'.setIfInBounds k u'):=by
 refine⟨by simp[h.1],fun i z z' h1 h2=>?_⟩
 rw[Array.getElem?_setIfInBounds] at h1 h2
 by_cases e:k=i
 ·rw[if_pos e] at h1 h2
  split at h1
  ·split at h2
   ·obtain rfl:=Option.some.inj h1
    obtain rfl:=Option.some.inj h2
    exact hu
   ·cases h2
  ·cases h1
 ·rw[if_neg e] at h1 h2
  exact h.2 i z z' h1 h2
theorem AR.append {β:Nat→Nat→Prop}{x x' y y':Array Value}(h:AR Ok β x x')(k:AR Ok β y y'):AR Ok β (x++y) (x'++y'):=by
 refine⟨by simp[h.1,k.1],fun i z z' h1 h2=>?_⟩
 rw[Array.getElem?_append] at h1 h2
 rw[←h.1] at h2
 split at h1
 ·rename_i e
  rw[if_pos e] at h2
  exact h.2 i z z' h1 h2
 ·rename_i e
  rw[if_neg e] at h2
  exact k.2 _ z z' h1 h2
theorem VR.cells {β:Nat→Nat→Prop}{v v':Value}(h:VR Ok β v v'):AR Ok β v.cells v'.cells:=by
 cases h with
 | agg hx hxx=>exact⟨hx,hxx⟩
 | bool b=>exact AR.push (AR.empty β) (.bool b)
 | int k n=>exact AR.push (AR.empty β) (.int k n)
 | string s=>exact AR.push (AR.empty β) (.string s)
 | pnil=>exact AR.push (AR.empty β) .pnil
 | ptr o sp hb=>exact AR.push (AR.empty β) (.ptr o sp hb)
 | snil l c=>exact AR.push (AR.empty β) (.snil l c)
 | slice o sp l c hb=>exact AR.push (AR.empty β) (.slice o sp l c hb)
 | mnil=>exact AR.push (AR.empty β) .mnil
 | map hb=>exact AR.push (AR.empty β) (.map hb)
 | func hf hx hxx hy hyy=>exact AR.push (AR.empty β) (.func hf hx hxx hy hyy)
 | nilFunc=>exact AR.push (AR.empty β) .nilFunc
 | iface t hv=>exact AR.push (AR.empty β) (.iface t hv)
 | nilIface=>exact AR.push (AR.empty β) .nilIface
 | tuple hx hxx=>exact AR.push (AR.empty β) (.tuple hx hxx)
structure ER1 (Ok:Cx)(β:Nat→Nat→Prop)(e e':MapEntry):Prop where
 key:VR Ok β e.key e'.key
 val:VR Ok β e.val e'.val
 born:e.born=e'.born
inductive OR (Ok:Cx) (β:Nat→Nat→Prop):Obj→Obj→Prop
 | cells {x x':Array Value} (e:TypeId) (f f':Nat × Nat) (hx:AR Ok β x x') (hf:∀o,f'.1≤o→o<f'.2→f.1≤o∧o<f.2):OR Ok β (.cells x e f) (.cells x' e f')
 | pre {x x':Array Value} (e:TypeId) (f f':Nat × Nat) (hs:x.size≤x'.size) (hx:∀(i:Nat) (u u':Value),x[i]?=some u→x'[i]?=some u'→VR Ok β u u') (hf:∀o,f'.1≤o→o<f'.2→f.1≤o∧o<f.2):OR Ok β (.cells x e f) (.cells x' e f')
 | map {es es':Array MapEntry} (clock:Nat) (hs:es.size=es'.size) (he:∀(i:Nat) (e e':MapEntry),es[i]?=some e→es'[i]?=some e'→ER1 Ok β e e'):OR Ok β (.map es clock) (.map es' clock)
 | number {a a':Nat} (o:Nat) (sp:Option Nat) (lost:Bool) (h:β a a'):OR Ok β (.number ⟨a,o,sp⟩ lost) (.number ⟨a',o,sp⟩ lost)
theorem OR.mono {β γ:Nat→Nat→Prop}(h:∀a b,β a b→γ a b){o o':Obj}(ho:OR Ok β o o'):OR Ok γ o o':=by
 cases ho with
 | cells e f f' hx hf=>exact .cells e f f' (hx.mono h) hf
 | pre e f f' hs hx hf=>exact .pre e f f' hs (fun i u u' h1 h2=>(hx i u u' h1 h2).mono h) hf
 | map clock hs he=>exact .map clock hs fun i e e' h1 h2=>⟨(he i e e' h1 h2).key.mono h,(he i e e' h1 h2).val.mono h,(he i e e' h1 h2).born⟩
 | number o sp lost hb=>exact .number o sp lost (h _ _ hb)
def Shut (v:World)(a:Nat):Prop:=∃x e f,v.heap[a]?=some (.cells x e f)∧f.1=0∧x.size≤f.2
structure WR (Ok:Cx)(E:Nat)(β:Bij)(v W:World):Prop where
 obj:∀a b,β.r a b→∃o o',v.heap[a]?=some o∧W.heap[b]?=some o'∧OR Ok β.r o o'
 tape:∀i q,v.drawn+i<E→v.tape (v.drawn+i) q=W.tape (W.drawn+i) q
 gl:∀a b,β.r a b→(a<Ok.G↔b<Ok.G)
 vg:Ok.G≤v.heap.size
 wg:Ok.G≤W.heap.size
 sh:∀a,Ok.sh a→Shut v a
theorem WR.lt {E:Nat}{β:Bij}{v W:World}(h:WR Ok E β v W){a b:Nat}(hb:β.r a b):a<v.heap.size∧b<W.heap.size:=by
 obtain⟨o,o',h1,h2,_⟩:=h.obj a b hb
 exact⟨(Array.getElem?_eq_some_iff.1 h1).1,(Array.getElem?_eq_some_iff.1 h2).1⟩
theorem WR.retape {E:Nat}{β:Bij}{v W:World}(h:WR Ok E β v W)(E':Nat):WR Ok E' β v { W with tape:=fun p q=>v.tape (v.drawn+(p - W.drawn)) q }:=⟨h.obj,fun i q _=>by simp,h.gl,h.vg,h.wg,h.sh⟩
end Go.Proofs.YtjeicikflkjacaaGreatDoor.Par

/- A run in a memory of one's own, and the same run elsewhere: what an operation does. -/
namespace Go.Proofs.YtjeicikflkjacaaGreatDoor.Par
open Go
variable {Ok:Cx} {P:Program}
inductive LR (β:Nat→Nat→Prop):Loc→Loc→Prop
 | cell {b b':Nat} (o:Nat) (sp:Option Nat) (h:β b b'):LR β (.cell ⟨b,o,sp⟩) (.cell ⟨b',o,sp⟩)
 | obj {r r':Nat} (h:β r r'):LR β (.obj r) (.obj r')
 | noRoom:LR β (.mark .noRoom) (.mark .noRoom)
theorem LR.mono {β γ:Nat→Nat→Prop}(h:∀a b,β a b→γ a b){l l':Loc}(hl:LR β l l'):LR γ l l':=by
 cases hl with
 | cell o sp hb=>exact .cell o sp (h _ _ hb)
 | obj hb=>exact .obj (h _ _ hb)
 | noRoom=>exact .noRoom
def LocIn (a:Nat):Loc→Prop
 | .cell x=>x.block=a
 | .obj r=>r=a
 | _=>False
structure EvR (N:Nat→Prop)(β:Nat→Nat→Prop)(e e':Event):Prop where
 loc:LR β e.loc e'.loc
 write:e.write=e'.write
 sync:e.sync=e'.sync
 wr:e.write=true→∀a,LocIn a e.loc→¬N a
def EsR (N:Nat→Prop)(β:Nat→Nat→Prop)(es es':Array Event):Prop:=es.size=es'.size∧∀(i:Nat) (e e':Event),es[i]?=some e→es'[i]?=some e'→EvR N β e e'
section
variable {N:Nat→Prop}
theorem EsR.mono {β γ:Nat→Nat→Prop}(h:∀a b,β a b→γ a b){x x':Array Event}(hx:EsR N β x x'):EsR N γ x x':=⟨hx.1,fun i e e' h1 h2=>⟨(hx.2 i e e' h1 h2).loc.mono h,(hx.2 i e e' h1 h2).write,(hx.2 i e e' h1 h2).sync,(hx.2 i e e' h1 h2).wr⟩⟩
theorem EsR.empty (β:Nat→Nat→Prop):EsR N β #[] #[]:=⟨rfl,fun i u u' h=>by simp at h⟩
theorem EsR.push {β:Nat→Nat→Prop}{x x':Array Event}(h:EsR N β x x'){u u':Event}(hu:EvR N β u u'):EsR N β (x.push u) (x'.push u'):=by
 refine⟨by simp[h.1],fun i z z' h1 h2=>?_⟩
 rw[Array.getElem?_push] at h1 h2
 split at h1
 ·rename_i e
  rw[←h.1,if_pos e] at h2
  obtain rfl:=Option.some.inj h1
  obtain rfl:=Option.some.inj h2
  exact hu
 ·rename_i e
  rw[←h.1,if_neg e] at h2
  exact h.2 i z z' h1 h2
end
def EqF (v W:World)(a b:Nat):Prop:=∀x e f x' e' f',v.heap[a]?=some (.cells x e f)→W.heap[b]?=some (.cells x' e' f')→f=f'
structure FrX (β γ:Bij)(v W v1 W1:World):Prop where
 off:v1.heap.size+W.heap.size=v.heap.size+W1.heap.size
 new:∀a b,γ.r a b→β.r a b∨b+v.heap.size=a+W.heap.size
 vstay:∀a,a<v.heap.size→(∀b,¬β.r a b)→v1.heap[a]?=v.heap[a]?
 fl:(∀a b,β.r a b→EqF v W a b)→∀a b,γ.r a b→EqF v1 W1 a b
 full:∀b,W.heap.size≤b→b<W1.heap.size→∃a,γ.r a b
 vo:v1.os=v.os
 vp:v1.output=v.output
theorem FrX.same {β:Bij}{v W v1 W1:World}(h1:v1.heap=v.heap)(h2:W1.heap=W.heap)(h3:v1.os=v.os)(h4:v1.output=v.output):FrX β β v W v1 W1:=⟨by rw[h1,h2],fun _ _ h=>Or.inl h,fun _ _ _=>by rw[h1],fun h a b hab=>by unfold EqF;rw[h1,h2];exact h a b hab,fun b h5 h6=>by rw[h2] at h6;omega,h3,h4⟩
theorem FrX.trans {α β γ:Bij}{v W v1 W1 v2 W2:World}(h:FrX α β v W v1 W1)(k:FrX β γ v1 W1 v2 W2)(hnew:∀a b,β.r a b→α.r a b∨v.heap.size≤a)(hle:β.le γ)(hvs:v.heap.size≤v1.heap.size):FrX α γ v W v2 W2:=by
 have h1:=h.off;have h2:=k.off
 refine⟨by omega,fun a b hg=>?_,fun a ha hn=>?_,fun hf=>k.fl (h.fl hf),fun b hb1 hb2=>?_,k.vo.trans h.vo,k.vp.trans h.vp⟩
 ·rcases k.new a b hg with q|q
  ·exact h.new a b q
  ·exact Or.inr (by omega)
 ·refine (k.vstay a (by omega) fun b hb=>?_).trans (h.vstay a ha hn)
  rcases hnew a b hb with q|q
  ·exact hn b q
  ·omega
 ·rcases Nat.lt_or_ge b W1.heap.size with q|q
  ·obtain⟨a,ha⟩:=h.full b hb1 q
   exact⟨a,hle _ _ ha⟩
  ·exact k.full b q hb2
structure Fr (β γ:Bij)(v W v1 W1:World):Prop where
 le:β.le γ
 vs:v.heap.size≤v1.heap.size
 ws:W.heap.size≤W1.heap.size
 stay:∀b,b<W.heap.size→(∀a,¬β.r a b)→W1.heap[b]?=W.heap[b]?
 new:∀a b,γ.r a b→β.r a b∨(v.heap.size≤a∧W.heap.size≤b)
 vt:v1.tape=v.tape
 wt:W1.tape=W.tape
 wo:W1.os=W.os
 wp:W1.output=W.output
 vd:v.drawn≤v1.drawn
 keep:∀a b,β.r a b→Shut v a→v1.heap[a]?=v.heap[a]?∧W1.heap[b]?=W.heap[b]?
 wd:W1.drawn - W.drawn=v1.drawn - v.drawn∧W.drawn≤W1.drawn
 ex:FrX β γ v W v1 W1
theorem Fr.refl (β:Bij)(v W:World):Fr β β v W v W:=⟨Bij.le_refl β,Nat.le_refl _,Nat.le_refl _,fun _ _ _=>rfl,fun _ _ h=>Or.inl h,rfl,rfl,rfl,rfl,Nat.le_refl _,fun _ _ _ _=>⟨rfl,rfl⟩,⟨by omega,Nat.le_refl _⟩,.same rfl rfl rfl rfl⟩
theorem Fr.trans {α β γ:Bij}{v W v1 W1 v2 W2:World}(h:Fr α β v W v1 W1)(k:Fr β γ v1 W1 v2 W2):Fr α γ v W v2 W2:=by
 refine⟨Bij.le_trans h.le k.le,Nat.le_trans h.vs k.vs,Nat.le_trans h.ws k.ws,fun b hb hn=>?_,fun a b hg=>?_,k.vt.trans h.vt,k.wt.trans h.wt,k.wo.trans h.wo,k.wp.trans h.wp,Nat.le_trans h.vd k.vd,fun a b hr hs=>?_,⟨?_,?_⟩,?_⟩
 ·refine (k.stay b (Nat.lt_of_lt_of_le hb h.ws) fun a ha=>?_).trans (h.stay b hb hn)
  rcases h.new a b ha with q|q
  ·exact hn a q
  ·omega
 ·rcases k.new a b hg with q|q
  ·exact h.new a b q
  ·exact Or.inr ⟨Nat.le_trans h.vs q.1,Nat.le_trans h.ws q.2⟩
 ·obtain⟨e1,e2⟩:=h.keep a b hr hs
  have hs1:Shut v1 a:=by
   obtain⟨x,e,f,q1,q2,q3⟩:=hs
   exact⟨x,e,f,by rw[e1];exact q1,q2,q3⟩
  obtain⟨e3,e4⟩:=k.keep a b (h.le _ _ hr) hs1
  exact⟨e3.trans e1,e4.trans e2⟩
 ·have h1:=h.wd;have h2:=k.wd;have h3:=h.vd;have h4:=k.vd
  omega
 ·have h1:=h.wd;have h2:=k.wd
  omega
 ·exact h.ex.trans k.ex (fun a b hb=>(h.new a b hb).imp id (·.1)) k.le h.vs
def Out (Ok:Cx)(E:Nat){α:Type}(R:Bij→α→α→Prop)(β:Bij)(v W:World)(a:α)(v1:World)(es:Array Event)(r':Result α × Array Event):Prop :=
 ∃γ a' W1 es',r'=(.ok a' W1,es')∧R γ a a'∧WR Ok E γ v1 W1∧Fr β γ v W v1 W1∧EsR Ok.sh γ.r es es'
inductive Mild:Halt→Prop
 | panic (v:Value):Mild (.panic v)
 | stuck (s:String):Mild (.stuck s)
 | unsupported (u:Unsupported) (h:∀g,u≠.initOrder g):Mild (.unsupported u)
def Sim (Ok:Cx)(P:Program){α:Type}(R:Bij→α→α→Prop)(β:Bij)(s s':Sem α):Prop :=
 ∀(E:Nat) (γ:Bij),β.le γ→∀(v W:World),WR Ok E γ v W→∀(es es':Array Event),EsR Ok.sh γ.r es es'→(∀(a:α) (v1:World) (es1:Array Event),s.runT P v es=(.ok a v1,es1)→v1.drawn≤E→Out Ok E R γ v W a v1 es1 (s'.runT P W es'))∧∀(q:Halt) (v1:World) (es1:Array Event),s.runT P v es=(.halt q v1,es1)→Mild q
theorem Sim.of {α:Type}{R:Bij→α→α→Prop}{β:Bij}{s s':Sem α}(k:∀(E:Nat) (γ:Bij),β.le γ→∀(v W:World),WR Ok E γ v W→∀(es:Array Event) (q:Halt) (v1:World) (es1:Array Event),s.runT P v es=(.halt q v1,es1)→Mild q)
  (h:∀(E:Nat) (γ:Bij),β.le γ→∀(v W:World),WR Ok E γ v W→∀(es es':Array Event),EsR Ok.sh γ.r es es'→∀(a:α) (v1:World) (es1:Array Event),s.runT P v es=(.ok a v1,es1)→Out Ok E R γ v W a v1 es1 (s'.runT P W es')):Sim Ok P R β s s' :=
 fun E γ hl v W hW es es' he=>⟨fun a v1 es1 hs _=>h E γ hl v W hW es es' he a v1 es1 hs,k E γ hl v W hW es⟩
theorem Sim.vd {α:Type}{R:Bij→α→α→Prop}{β:Bij}{s s':Sem α}(h:Sim Ok P R β s s'){E:Nat}{γ:Bij}(hl:β.le γ){v W:World}(hW:WR Ok E γ v W){es es':Array Event}(he:EsR Ok.sh γ.r es es'){a:α}{v1:World}{es1:Array Event}(hs:s.runT P v es=(.ok a v1,es1)):∃δ a',R δ a a'∧γ.le δ∧v.drawn≤v1.drawn∧(∃W1,WR Ok v1.drawn δ v1 W1)∧∃es2,EsR Ok.sh δ.r es1 es2:=by
 obtain⟨δ,a',W1,es2,e,r,w,f,q⟩:=(h v1.drawn γ hl v _ (hW.retape _) es es' he).1 a v1 es1 hs (Nat.le_refl _)
 exact⟨δ,a',r,f.le,f.vd,⟨W1,w⟩,es2,q⟩
theorem yields {α:Type}{a:α}{v v1:World}{q:Halt}{es es1:Array Event}{r:Result α × Array Event}(h:r=(.halt q v1,es1))(hr:r=(.ok a v,es)):Mild q:=by
 rw[hr] at h
 injection h with h1 _
 cases h1
theorem Sim.mono {α:Type}{R R':Bij→α→α→Prop}{β:Bij}{s s':Sem α}(h:Sim Ok P R β s s')(hr:∀γ a a',β.le γ→R γ a a'→R' γ a a'):Sim Ok P R' β s s':=fun E γ hl v W hW es es' he=>⟨fun a v1 es1 hs hE=>by
 obtain⟨δ,a',W1,es2,e,r,w,f,q⟩:=(h E γ hl v W hW es es' he).1 a v1 es1 hs hE
 exact⟨δ,a',W1,es2,e,hr δ a a' (Bij.le_trans hl f.le) r,w,f,q⟩,(h E γ hl v W hW es es' he).2⟩
theorem Sim.later {α:Type}{R:Bij→α→α→Prop}{β γ:Bij}{s s':Sem α}(h:Sim Ok P R β s s')(hl:β.le γ):Sim Ok P R γ s s':=fun E δ hd=>h E δ (Bij.le_trans hl hd)
theorem Sim.pure {α:Type}{R:Bij→α→α→Prop}{β:Bij}{a a':α}(h:∀γ,β.le γ→R γ a a'):Sim Ok P R β (Pure.pure a) (Pure.pure a'):=by
 refine Sim.of (fun E γ hl v W hW es q v1 es1 hs=>yields hs rfl) ?_
 intro E γ hl v W hW es es' he b v1 es1 hs
 have hs':(Result.ok a v,es)=(Result.ok b v1,es1):=hs
 injection hs' with h1 h2
 injection h1 with h3 h4
 subst h3
 subst h4
 subst h2
 exact⟨γ,a',W,es',rfl,h γ hl,hW,Fr.refl γ v W,he⟩
theorem Sim.bind {α δ:Type}{R:Bij→α→α→Prop}{R':Bij→δ→δ→Prop}{β:Bij}{s s':Sem α}{f f':α→Sem δ}(h:Sim Ok P R β s s')(k:∀γ a a',β.le γ→R γ a a'→Sim Ok P R' γ (f a) (f' a')):Sim Ok P R' β (s >>= f) (s' >>= f'):=by
 refine fun E γ hl v W hW es es' he=>⟨fun b v1 es1 hs hE=>?_,fun q v1 es1 hs=>?_⟩
 rotate_left
 ·have hs':(s.bind f).runT P v es=(.halt q v1,es1):=hs
  rw[Sem.runT_bind'] at hs'
  cases hr:s.runT P v es with
  | mk r e2 =>
   rw[hr] at hs'
   cases r with
   | halt q2 w =>
    simp only at hs'
    injection hs' with h1 _
    injection h1 with h2 _
    subst h2
    exact (h E γ hl v W hW es es' he).2 _ _ _ hr
   | ok a v2 =>
    simp only at hs'
    obtain⟨γ1,a',r,fl,_,⟨W2,w⟩,e2',q'⟩:=h.vd hl hW he hr
    exact (k γ1 a a' (Bij.le_trans hl fl) r v2.drawn γ1 (Bij.le_refl _) v2 W2 w e2 e2' q').2 _ _ _ hs'
 have hs':(s.bind f).runT P v es=(.ok b v1,es1):=hs
 show Out Ok E R' γ v W b v1 es1 ((s'.bind f').runT P W es')
 rw[Sem.runT_bind'] at hs' ⊢
 cases hr:s.runT P v es with
 | mk r e2 =>
  rw[hr] at hs'
  cases r with
  | halt q w=>simp at hs'
  | ok a v2 =>
   simp only at hs'
   have h2:v2.drawn≤E:=by
    obtain⟨γ1,a',r,fl,_,⟨W2,w⟩,e2',q'⟩:=h.vd hl hW he hr
    obtain⟨_,_,_,_,hd,_⟩:=(k γ1 a a' (Bij.le_trans hl fl) r).vd (Bij.le_refl _) w q' hs'
    exact Nat.le_trans hd hE
   obtain⟨γ1,a',W2,e2',e,r,w,fr,q⟩:=(h E γ hl v W hW es es' he).1 a v2 e2 hr h2
   rw[e]
   simp only
   obtain⟨γ2,b',W3,e3,e',r',w',fr',q'⟩:=(k γ1 a a' (Bij.le_trans hl fr.le) r E γ1 (Bij.le_refl _) v2 W2 w e2 e2' q).1 b v1 es1 hs' hE
   exact⟨γ2,b',W3,e3,e',r',w',fr.trans fr',q'⟩
theorem Sim.halt {α:Type}{R:Bij→α→α→Prop}{β:Bij}(h:Halt)(s':Sem α)(hm:Mild h:=by first|exact .panic _|exact .stuck _|exact .unsupported _ (fun g e=>by cases e)):Sim Ok P R β (.halt h) s':=by
 refine Sim.of (fun E γ hl v W hW es q v1 es1 hs=>?_) ?_
 ·have hs':((Result.halt h v:Result α),es)=(Result.halt q v1,es1):=hs
  injection hs' with h1 _
  injection h1 with h2 _
  exact h2 ▸ hm
 intro E γ hl v W hW es es' he b v1 es1 hs
 have hs':((Result.halt h v:Result α),es)=(Result.ok b v1,es1):=hs
 injection hs' with h1 _
 cases h1
theorem Sim.stuck {α:Type}{R:Bij→α→α→Prop}{β:Bij}(why:String)(s':Sem α):Sim Ok P R β (Go.stuck why) s':=Sim.halt _ _
theorem Sim.unsupported {α:Type}{R:Bij→α→α→Prop}{β:Bij}(u:Unsupported)(s':Sem α)(hm:∀g,u≠.initOrder g:=by intro g e;cases e):Sim Ok P R β (Go.unsupported u) s':=Sim.halt _ _ (.unsupported u hm)
theorem Sim.program {β:Bij}:Sim Ok P (fun _ p p'=>p=P∧p'=P) β Go.program Go.program:=by
 refine Sim.of (fun E γ hl v W hW es q v1 es1 hs=>yields hs rfl) ?_
 intro E γ hl v W hW es es' he b v1 es1 hs
 have hs':(Result.ok P v,es)=(Result.ok b v1,es1):=hs
 injection hs' with h1 h2
 injection h1 with h3 h4
 subst h3
 subst h4
 subst h2
 exact⟨γ,P,W,es',rfl,⟨rfl,rfl⟩,hW,Fr.refl γ v W,he⟩
end Go.Proofs.YtjeicikflkjacaaGreatDoor.Par
