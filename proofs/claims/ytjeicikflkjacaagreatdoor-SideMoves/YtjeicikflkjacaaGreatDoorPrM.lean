/- A run in a memory of one's own, and the same run elsewhere: memory. -/
import Derived.Test.YtjeicikflkjacaaGreatDoorM13
namespace Go.Proofs.YtjeicikflkjacaaGreatDoor.Par
open Go
variable {Ok:Cx} {P:Program} {β:Bij}
structure AdR (β:Bij)(a a':Addr):Prop where
 b:β.r a.block a'.block
 o:a.off=a'.off
 s:a.spot=a'.spot
theorem AdR.add {a a':Addr}(h:AdR β a a')(n:Nat):AdR β (a.add n) (a'.add n):=by
 obtain⟨h1,h2,h3⟩:=h
 unfold Addr.add
 split
 ·exact⟨h1,h2,h3⟩
 ·exact⟨h1,by simp[h2],rfl⟩
theorem AdR.later {γ:Bij}{a a':Addr}(h:AdR β a a')(hl:β.le γ):AdR γ a a':=⟨hl _ _ h.b,h.o,h.s⟩
theorem AdR.vr {a a':Addr}(h:AdR β a a'):VR Ok β.r (.pointer (some a)) (.pointer (some a')):=by
 obtain⟨b,o,s⟩:=a
 obtain⟨b',o',s'⟩:=a'
 obtain⟨h1,h2,h3⟩:=h
 simp only at h1 h2 h3
 subst h2
 subst h3
 exact .ptr o s h1
theorem AdR.sl {a a':Addr}(h:AdR β a a')(l c:Nat):VR Ok β.r (.slice (some a) l c) (.slice (some a') l c):=by
 obtain⟨b,o,s⟩:=a
 obtain⟨b',o',s'⟩:=a'
 obtain⟨h1,h2,h3⟩:=h
 simp only at h1 h2 h3
 subst h2
 subst h3
 exact .slice o s l c h1
theorem AdR.loc {a a':Addr}(h:AdR β a a'):LR β.r (.cell a) (.cell a'):=by
 obtain⟨b,o,s⟩:=a
 obtain⟨b',o',s'⟩:=a'
 obtain⟨h1,h2,h3⟩:=h
 simp only at h1 h2 h3
 subst h2
 subst h3
 exact .cell o s h1
theorem WR.cell {E:Nat}{v W:World}(h:WR Ok E β v W){a a':Addr}(ha:AdR β a a'){u:Value}(hu:v.cell? a=some u):∃u',W.cell? a'=some u'∧VR Ok β.r u u':=by
 obtain⟨o,o',h1,h2,ho⟩:=h.obj _ _ ha.b
 unfold World.cell? at hu ⊢
 rw[h1] at hu
 rw[h2]
 cases ho with
 | cells e f f' hx hf =>
  simp only at hu ⊢
  rw[←ha.s,←ha.o]
  split at hu
  ·cases hu
  ·rename_i hs
   rw[if_neg hs]
   exact hx.get hu
 | @pre x x' e f f' hs hx hf =>
  simp only at hu ⊢
  rw[←ha.s,←ha.o]
  split at hu
  ·cases hu
  ·rename_i hsp
   rw[if_neg hsp]
   have hlt:=(Array.getElem?_eq_some_iff.1 hu).1
   have hlt':a.off<x'.size:=Nat.lt_of_lt_of_le hlt hs
   exact⟨_,Array.getElem?_eq_getElem hlt',hx _ _ _ hu (Array.getElem?_eq_getElem hlt')⟩
 | map clock hs he=>simp at hu
 | number o sp lost hb=>simp at hu
theorem WR.shut {E:Nat}{v W:World}(h:WR Ok E β v W){a a':Addr}(ha:AdR β a a')(hf:v.frozen? a=false):W.frozen? a'=false:=by
 obtain⟨o,o',h1,h2,ho⟩:=h.obj _ _ ha.b
 unfold World.frozen? at hf ⊢
 rw[h1] at hf
 rw[h2]
 cases ho with
 | cells e f f' hx hf' =>
  simp only at hf ⊢
  rw[←ha.o]
  rw[Bool.and_eq_false_iff] at hf
  rw[Bool.and_eq_false_iff]
  simp only[decide_eq_false_iff_not] at hf ⊢
  by_cases q1:f'.1≤a.off
  ·by_cases q2:a.off<f'.2
   ·have:=hf' a.off q1 q2
    exfalso
    rcases hf with q|q
    ·exact q this.1
    ·exact q this.2
   ·exact Or.inr q2
  ·exact Or.inl q1
 | pre e f f' hs hx hf' =>
  simp only at hf ⊢
  rw[←ha.o]
  rw[Bool.and_eq_false_iff] at hf
  rw[Bool.and_eq_false_iff]
  simp only[decide_eq_false_iff_not] at hf ⊢
  by_cases q1:f'.1≤a.off
  ·by_cases q2:a.off<f'.2
   ·have:=hf' a.off q1 q2
    exfalso
    rcases hf with q|q
    ·exact q this.1
    ·exact q this.2
   ·exact Or.inr q2
  ·exact Or.inl q1
 | map clock hs he=>rfl
 | number o sp lost hb=>rfl
theorem far_none {v:World}{a:Addr}(atomic:Bool){o o':Obj}{γ:Nat→Nat→Prop}(ho:OR Ok γ o o')(h:v.heap[a.block]?=some o):∃q,v.farLoad P a atomic=.error q∧Mild q:=by
 unfold World.farLoad World.noCell
 rw[h]
 cases ho<;>exact⟨_,rfl,by first|exact .panic _|exact .stuck _|exact .unsupported _ (fun g e=>by cases e)⟩
theorem far_none2 {v:World}{a:Addr}{u:Value}(atomic:Bool){o o':Obj}{γ:Nat→Nat→Prop}(ho:OR Ok γ o o')(h:v.heap[a.block]?=some o):∃q,v.farStore P a u atomic=.error q∧Mild q:=by
 unfold World.farStore World.noCell
 rw[h]
 cases ho<;>exact⟨_,rfl,by first|exact .panic _|exact .stuck _|exact .unsupported _ (fun g e=>by cases e)⟩
theorem Sim.load {a a':Addr}(ha:AdR β a a')(m:Mode):Sim Ok P (fun γ u u'=>VR Ok γ.r u u') β (Go.load a m) (Go.load a' m):=by
 refine Sim.of (fun E γ hl v W hW es q v1 es1 hs=>?_) ?_
 ·have hs':(Sem.load m a Sem.pure).runT P v es=(.halt q v1,es1):=hs
  simp only[Sem.runT] at hs'
  cases hc:v.cell? a with
  | none =>
   obtain⟨o,o',h1,h2,ho⟩:=hW.obj _ _ (ha.later hl).b
   obtain⟨q2,hq,hm⟩:=far_none (P:=P) (m==.atomic) ho h1
   rw[hc] at hs'
   simp only[hq] at hs'
   injection hs' with h3 _
   injection h3 with h4 _
   exact h4 ▸ hm
  | some z =>
   rw[hc] at hs'
   exact yields hs' rfl
 intro E γ hl v W hW es es' he u v1 es1 hs
 have ha':=ha.later hl
 have hs':(Sem.load m a Sem.pure).runT P v es=(.ok u v1,es1):=hs
 simp only[Sem.runT] at hs'
 cases hc:v.cell? a with
 | none =>
  obtain⟨o,o',h1,h2,ho⟩:=hW.obj _ _ ha'.b
  obtain⟨q,hq,_⟩:=far_none (P:=P) (m==.atomic) ho h1
  rw[hc] at hs'
  simp only[hq] at hs'
  injection hs' with h3 _
  cases h3
 | some z =>
  rw[hc] at hs'
  simp only at hs'
  injection hs' with h3 h4
  injection h3 with h5 h6
  subst h5
  subst h6
  subst h4
  obtain⟨u',hu',hv⟩:=hW.cell ha' hc
  refine⟨γ,u',W,es'.push ⟨.cell a',false,m==.atomic⟩,?_,hv,hW,Fr.refl _ _ _,he.push ⟨ha'.loc,rfl,rfl,fun h=>by cases h⟩⟩
  show (Sem.load m a' Sem.pure).runT P W es'=_
  simp only[Sem.runT,hu']
theorem setCell_heap (w:World)(a:Addr)(u:Value)(k:Nat):(w.setCell a u).heap[k]?=if k=a.block then (w.heap[k]?).map (fun|.cells c e f=>.cells (if a.spot.isSome then c else c.setIfInBounds a.off u) e f|o=>o) else w.heap[k]?:=by
 unfold World.setCell
 simp only[Array.getElem?_modify]
 by_cases e:k=a.block
 ·rw[if_pos e.symm,if_pos e]
  rfl
 ·rw[if_neg (fun q=>e q.symm),if_neg e]
theorem Shut.thaw {v:World}{x:Nat}(h:Shut v x){a:Addr}{z:Value}(hc:v.cell? a=some z)(hf:v.frozen? a=false)(hx:a.block=x):False:=by
 obtain⟨c,t,f,q1,q2,q3⟩:=h
 subst hx
 unfold World.cell? at hc
 unfold World.frozen? at hf
 rw[q1] at hc hf
 dsimp only at hc hf
 split at hc
 ·cases hc
 ·have:=(Array.getElem?_eq_some_iff.1 hc).1
  rw[Bool.and_eq_false_iff] at hf
  simp only[decide_eq_false_iff_not] at hf
  omega
theorem Shut.nocells {v:World}{x:Nat}(h:Shut v x){o:Obj}(ho:v.heap[x]?=some o)(hn:∀c t f,o≠.cells c t f):False:=by
 obtain⟨c,t,f,q1,_⟩:=h
 rw[ho] at q1
 exact hn _ _ _ (Option.some.inj q1)
theorem Shut.other {v:World}{x r:Nat}(h:Shut v x){o:Obj}(ho:v.heap[r]?=some o)(hn:∀c t f,o≠.cells c t f)(o2:Obj):Shut { v with heap:=v.heap.setIfInBounds r o2 } x:=by
 have hne:r≠x:=fun e=>h.nocells (e ▸ ho) hn
 obtain⟨c,t,f,q1,q2,q3⟩:=h
 exact⟨c,t,f,by simp only[Array.getElem?_setIfInBounds_ne hne];exact q1,q2,q3⟩
theorem Shut.push {v:World}{x:Nat}(h:Shut v x)(o:Obj):Shut { v with heap:=v.heap.push o } x:=by
 obtain⟨c,t,f,q1,q2,q3⟩:=h
 have hlt:=(Array.getElem?_eq_some_iff.1 q1).1
 refine⟨c,t,f,?_,q2,q3⟩
 simp only[Array.getElem?_push]
 rw[if_neg (by omega)]
 exact q1
theorem Shut.set {v:World}{x:Nat}(h:Shut v x)(a:Addr)(u:Value):Shut (v.setCell a u) x:=by
 obtain⟨c,t,f,q1,q2,q3⟩:=h
 by_cases e:x=a.block
 ·refine⟨if a.spot.isSome then c else c.setIfInBounds a.off u,t,f,?_,q2,?_⟩
  ·rw[setCell_heap,if_pos e,q1]
   rfl
  ·split<;>simpa using q3
 ·exact⟨c,t,f,by rw[setCell_heap,if_neg e];exact q1,q2,q3⟩
theorem WR.set {E:Nat}{v W:World}(h:WR Ok E β v W){a a':Addr}(ha:AdR β a a'){u u':Value}(hu:VR Ok β.r u u'):WR Ok E β (v.setCell a u) (W.setCell a' u'):=by
 refine⟨fun x y hxy=>?_,h.tape,h.gl,by simpa [World.setCell] using h.vg,by simpa [World.setCell] using h.wg,fun x hx=>(h.sh x hx).set a u⟩
 obtain⟨o,o',h1,h2,ho⟩:=h.obj x y hxy
 rw[setCell_heap,setCell_heap,h1,h2]
 have hiff:x=a.block↔y=a'.block:=⟨fun e=>β.fn (e ▸ hxy) ha.b,fun e=>β.inj (e ▸ hxy) ha.b⟩
 by_cases e:x=a.block
 ·rw[if_pos e,if_pos (hiff.1 e)]
  cases ho with
  | cells t f f' hx hf =>
   refine⟨_,_,rfl,rfl,.cells t f f' ?_ hf⟩
   rw[←ha.s,←ha.o]
   split
   ·exact hx
   ·exact hx.set hu _
  | @pre x x' t f f' hs hx hf =>
   refine⟨_,_,rfl,rfl,?_⟩
   dsimp only
   rw[←ha.s,←ha.o]
   split
   ·exact .pre t f f' hs hx hf
   ·refine .pre t f f' (by simpa using hs) (fun i z z' h1 h2=>?_) hf
    rw[Array.getElem?_setIfInBounds] at h1 h2
    by_cases e:a.off=i
    ·rw[if_pos e] at h1 h2
     split at h1
     ·split at h2
      ·obtain rfl:=Option.some.inj h1
       obtain rfl:=Option.some.inj h2
       exact hu
      ·cases h2
     ·cases h1
    ·rw[if_neg e] at h1 h2
     exact hx i z z' h1 h2
  | map clock hs he=>exact⟨_,_,rfl,rfl,.map clock hs he⟩
  | number o sp lost hb=>exact⟨_,_,rfl,rfl,.number o sp lost hb⟩
 ·rw[if_neg e,if_neg (fun q=>e (hiff.2 q))]
  exact⟨o,o',rfl,rfl,ho⟩
theorem Fr.set {v W:World}(a a':Addr)(ha:AdR β a a')(u u':Value){z:Value}(hc:v.cell? a=some z)(hf:v.frozen? a=false):Fr β β v W (v.setCell a u) (W.setCell a' u'):=by
 refine⟨Bij.le_refl β,by simp[World.setCell],by simp[World.setCell],fun b hb hn=>?_,fun _ _ h=>Or.inl h,rfl,rfl,rfl,rfl,Nat.le_refl _,fun x y hxy hs=>?_,⟨by simp[World.setCell],Nat.le_refl _⟩,⟨by simp[World.setCell],fun _ _ h=>Or.inl h,fun x hx hn=>?_,fun hf x y hxy=>?_,fun b h1 h2=>by simp[World.setCell] at h2;omega,rfl,rfl⟩⟩
 ·rw[setCell_heap,if_neg (fun (e:b=a'.block)=>hn a.block (by rw[e];exact ha.b))]
 ·have hx:x≠a.block:=fun e=>by
   obtain⟨c,t,f,q1,q2,q3⟩:=hs
   subst e
   unfold World.cell? at hc
   unfold World.frozen? at hf
   rw[q1] at hc hf
   dsimp only at hc hf
   split at hc
   ·cases hc
   ·have:=(Array.getElem?_eq_some_iff.1 hc).1
    rw[Bool.and_eq_false_iff] at hf
    simp only[decide_eq_false_iff_not] at hf
    omega
  have hy:y≠a'.block:=fun e=>hx (β.inj (e ▸ hxy) ha.b)
  rw[setCell_heap,setCell_heap,if_neg hx,if_neg hy]
  exact⟨rfl,rfl⟩
 ·rw[setCell_heap,if_neg (fun (e:x=a.block)=>hn a'.block (by rw[e];exact ha.b))]
 ·intro c e f c' e' f' h1 h2
  rw[setCell_heap] at h1 h2
  have key:∀ {w:World} {p:Addr} {k:Nat} {u:Value} {c:Array Value} {e:TypeId} {f:Nat × Nat},(if k=p.block then (w.heap[k]?).map (fun|.cells c e f=>.cells (if p.spot.isSome then c else c.setIfInBounds p.off u) e f|o=>o) else w.heap[k]?)=some (.cells c e f)→∃c2,w.heap[k]?=some (.cells c2 e f):=fun {w p k u c e f} h=>by
   split at h
   ·obtain⟨o,ho,e1⟩:=Option.map_eq_some_iff.1 h
    cases o with
    | cells c3 e3 f3 =>
     simp only[Obj.cells.injEq] at e1
     obtain⟨_,rfl,rfl⟩:=e1
     exact⟨c3,ho⟩
    | _=>cases e1
   ·exact⟨c,h⟩
  obtain⟨c2,q1⟩:=key h1
  obtain⟨c3,q2⟩:=key h2
  exact hf x y hxy _ _ _ _ _ _ q1 q2
theorem VR.one {γ:Nat→Nat→Prop}{u u':Value}(h:VR Ok γ u u'):(∃c,u=.agg c)∨(∃c,u=.tuple c)∨((∀c,u≠.agg c)∧(∀c,u≠.tuple c)∧(∀c,u'≠.agg c)∧∀c,u'≠.tuple c):=by
 cases h<;>first|exact Or.inl ⟨_,rfl⟩|exact Or.inr (Or.inl ⟨_,rfl⟩)|exact Or.inr (Or.inr ⟨(fun c e=>by cases e),(fun c e=>by cases e),(fun c e=>by cases e),(fun c e=>by cases e)⟩)
theorem runT_store {v:World}{a:Addr}{u:Value}{m:Mode}{es:Array Event}(h1:∀c,u≠.agg c)(h2:∀c,u≠.tuple c):(Sem.store m a u (.pure ())).runT P v es=match v.cell? a with
  | some _ => if v.frozen? a then (.halt (.unsupported (.unsafePointer "a write to bytes that a string shares")) v, es) else (.ok () (v.setCell a u), es.push ⟨.cell a, true, m == .atomic⟩)
  | none=>match v.farStore P a u (m==.atomic) with
   | .ok (w,touched)=>(.ok () w,es++touched.toArray.map (⟨.cell ·,true,m==.atomic⟩))
   | .error h=>(.halt h v,es):=by
 cases u<;>first|exact absurd rfl (h1 _)|exact absurd rfl (h2 _)|(simp only[Sem.runT];rfl)
theorem Sim.store {a a':Addr}(ha:AdR β a a'){u u':Value}(hu:VR Ok β.r u u')(m:Mode):Sim Ok P (fun _ _ _=>True) β (Go.store a u m) (Go.store a' u' m):=by
 refine Sim.of (fun E γ hl v W hW es q v1 es1 hs=>?_) ?_
 ·have hs':(Sem.store m a u (.pure ())).runT P v es=(.halt q v1,es1):=hs
  rcases hu.one with⟨c,rfl⟩|⟨c,rfl⟩|⟨q1,q2,q3,q4⟩
  ·simp only[Sem.runT] at hs'
   injection hs' with h3 _
   injection h3 with h4 _
   exact h4 ▸ (by first|exact .panic _|exact .stuck _|exact .unsupported _ (fun g e=>by cases e))
  ·simp only[Sem.runT] at hs'
   injection hs' with h3 _
   injection h3 with h4 _
   exact h4 ▸ (by first|exact .panic _|exact .stuck _|exact .unsupported _ (fun g e=>by cases e))
  ·rw[runT_store q1 q2] at hs'
   cases hc:v.cell? a with
   | none =>
    obtain⟨o,o',h1,h2,ho⟩:=hW.obj _ _ (ha.later hl).b
    obtain⟨q2,hq,hm⟩:=far_none2 (P:=P) (u:=u) (m==.atomic) ho h1
    rw[hc] at hs'
    simp only[hq] at hs'
    injection hs' with h3 _
    injection h3 with h4 _
    exact h4 ▸ hm
   | some y =>
    rw[hc] at hs'
    simp only at hs'
    cases hf:v.frozen? a with
    | true =>
     rw[hf] at hs'
     simp only[if_true] at hs'
     injection hs' with h3 _
     injection h3 with h4 _
     exact h4 ▸ (by first|exact .panic _|exact .stuck _|exact .unsupported _ (fun g e=>by cases e))
    | false =>
     rw[hf] at hs'
     simp only[Bool.false_eq_true,if_false] at hs'
     exact yields hs' rfl
 intro E γ hl v W hW es es' he z v1 es1 hs
 have ha':=ha.later hl
 have hu':=hu.mono hl
 have hs':(Sem.store m a u (.pure ())).runT P v es=(.ok z v1,es1):=hs
 rcases hu'.one with⟨c,rfl⟩|⟨c,rfl⟩|⟨q1,q2,q3,q4⟩
 ·simp only[Sem.runT] at hs'
  injection hs' with h3 _
  cases h3
 ·simp only[Sem.runT] at hs'
  injection hs' with h3 _
  cases h3
 ·rw[runT_store q1 q2] at hs'
  cases hc:v.cell? a with
  | none =>
   obtain⟨o,o',h1,h2,ho⟩:=hW.obj _ _ ha'.b
   obtain⟨q,hq,_⟩:=far_none2 (P:=P) (u:=u) (m==.atomic) ho h1
   rw[hc] at hs'
   simp only[hq] at hs'
   injection hs' with h3 _
   cases h3
  | some y =>
   rw[hc] at hs'
   simp only at hs'
   cases hf:v.frozen? a with
   | true =>
    rw[hf] at hs'
    simp only[if_true] at hs'
    injection hs' with h3 _
    cases h3
   | false =>
    rw[hf] at hs'
    simp only[Bool.false_eq_true,if_false] at hs'
    injection hs' with h3 h4
    injection h3 with h5 h6
    subst h6
    subst h4
    obtain⟨y',hy',_⟩:=hW.cell ha' hc
    refine⟨γ,(),W.setCell a' u',es'.push ⟨.cell a',true,m==.atomic⟩,?_,trivial,hW.set ha' hu',Fr.set a a' ha' u u' hc hf,he.push ⟨ha'.loc,rfl,rfl,fun _ x (hx:a.block=x) hn=>(hW.sh x hn).thaw hc hf hx⟩⟩
    show (Sem.store m a' u' (.pure ())).runT P W es'=_
    rw[runT_store q3 q4,hy']
    simp only[hW.shut ha' hf,Bool.false_eq_true,if_false]
theorem Sim.new {o o':Obj}(ho:OR Ok β.r o o')(hq:∀x e f x' e' f',o=.cells x e f→o'=.cells x' e' f'→f=f':=by intro _ _ _ _ _ _ h;cases h):Sim Ok P (fun γ r r'=>γ.r r r') β (Go.newObj o) (Go.newObj o'):=by
 refine Sim.of (fun E γ hl v W hW es q v1 es1 hs=>yields (a:=v.heap.size) (v:={ v with heap:=v.heap.push o }) hs rfl) ?_
 intro E γ hl v W hW es es' he r v1 es1 hs
 have hs':(Result.ok v.heap.size { v with heap:=v.heap.push o },es)=(Result.ok r v1,es1):=hs
 injection hs' with h1 h2
 injection h1 with h3 h4
 subst h3
 subst h4
 subst h2
 have ha:∀x,¬γ.r v.heap.size x:=fun x q=>by have:=(hW.lt q).1;omega
 have hb:∀x,¬γ.r x W.heap.size:=fun x q=>by have:=(hW.lt q).2;omega
 have hle:=Bij.le_add γ v.heap.size W.heap.size ha hb
 refine⟨γ.add v.heap.size W.heap.size ha hb,W.heap.size,{ W with heap:=W.heap.push o' },es',rfl,Bij.add_self _ _ _ _ _,⟨fun x y hxy=>?_,hW.tape,fun x y hxy=>?_,Nat.le_trans hW.vg (by simp),Nat.le_trans hW.wg (by simp),fun x hx=>(hW.sh x hx).push o⟩,⟨hle,by simp,by simp,fun b hb' _=>?_,fun x y hxy=>?_,rfl,rfl,rfl,rfl,Nat.le_refl _,fun x y hxy _=>?_,⟨by simp,Nat.le_refl _⟩,⟨by simp;omega,fun x y hxy=>?_,fun x hx _=>?_,fun hf x y hxy=>?_,fun b h1 h2=>⟨v.heap.size,Or.inr ⟨rfl,by simp at h2;omega⟩⟩,rfl,rfl⟩⟩,he.mono hle⟩
 ·rcases hxy with q|⟨rfl,rfl⟩
  ·obtain⟨z,z',h1,h2,hz⟩:=hW.obj x y q
   have l:=hW.lt q
   refine⟨z,z',?_,?_,hz.mono hle⟩
   ·simp only[Array.getElem?_push]
    rw[if_neg (by omega)]
    exact h1
   ·simp only[Array.getElem?_push]
    rw[if_neg (by omega)]
    exact h2
  ·exact⟨o,o',by simp,by simp,(ho.mono hl).mono hle⟩
 ·rcases hxy with q|⟨rfl,rfl⟩
  ·exact hW.gl x y q
  ·have:=hW.vg
   have:=hW.wg
   omega
 ·simp only[Array.getElem?_push]
  rw[if_neg (by omega)]
 ·rcases hxy with q|⟨rfl,rfl⟩
  ·exact Or.inl q
  ·exact Or.inr ⟨Nat.le_refl _,Nat.le_refl _⟩
 ·have l:=hW.lt hxy
  simp only[Array.getElem?_push]
  rw[if_neg (by omega),if_neg (by omega)]
  exact⟨rfl,rfl⟩
 ·rcases hxy with q|⟨rfl,rfl⟩
  ·exact Or.inl q
  ·exact Or.inr (by omega)
 ·simp only[Array.getElem?_push]
  rw[if_neg (by omega)]
 ·intro c e f c' e' f' h1 h2
  rcases hxy with q|⟨rfl,rfl⟩
  ·have l:=hW.lt q
   simp only[Array.getElem?_push] at h1 h2
   rw[if_neg (by omega)] at h1 h2
   exact hf x y q _ _ _ _ _ _ h1 h2
  ·simp only[Array.getElem?_push_size,Option.some.injEq] at h1 h2
   exact hq _ _ _ _ _ _ h1 h2
theorem Sim.getObj {r r':Nat}(hr:β.r r r'):Sim Ok P (fun γ o o'=>OR Ok γ.r o o'∧∀x e f,o≠.cells x e f) β (Go.getObj r) (Go.getObj r'):=by
 refine Sim.of (fun E γ hl v W hW es q v1 es1 hs=>?_) ?_
 ·obtain⟨z,z',h1,h2,hz⟩:=hW.obj r r' (hl _ _ hr)
  have hs':(Sem.getObj r Sem.pure).runT P v es=(.halt q v1,es1):=hs
  simp only[Sem.runT,h1] at hs'
  cases hz with
  | cells e f f' hx hf =>
   simp only at hs'
   injection hs' with h3 _
   injection h3 with h4 _
   exact h4 ▸ (by first|exact .panic _|exact .stuck _|exact .unsupported _ (fun g e=>by cases e))
  | pre e f f' hs hx hf =>
   simp only at hs'
   injection hs' with h3 _
   injection h3 with h4 _
   exact h4 ▸ (by first|exact .panic _|exact .stuck _|exact .unsupported _ (fun g e=>by cases e))
  | map clock hsz hme=>exact yields hs' rfl
  | number o sp lost hb=>exact yields hs' rfl
 intro E γ hl v W hW es es' he o v1 es1 hs
 obtain⟨z,z',h1,h2,hz⟩:=hW.obj r r' (hl _ _ hr)
 have hs':(Sem.getObj r Sem.pure).runT P v es=(.ok o v1,es1):=hs
 simp only[Sem.runT,h1] at hs'
 cases hz with
 | cells e f f' hx hf =>
  simp only at hs'
  injection hs' with h3 _
  cases h3
 | pre e f f' hs hx hf =>
  simp only at hs'
  injection hs' with h3 _
  cases h3
 | @map xs xs' clock hsz hme =>
  simp only[Obj.isChan] at hs'
  injection hs' with h3 h4
  injection h3 with h5 h6
  subst h5
  subst h6
  subst h4
  refine⟨γ,.map xs' clock,W,es'.push ⟨.obj r',false,false⟩,?_,⟨.map clock hsz hme,fun x e f q=>by cases q⟩,hW,Fr.refl _ _ _,he.push ⟨.obj (hl _ _ hr),rfl,rfl,fun h=>by cases h⟩⟩
  show (Sem.getObj r' Sem.pure).runT P W es'=_
  simp only[Sem.runT,h2,Obj.isChan]
 | @number a a' o sp lost hb =>
  simp only[Obj.isChan] at hs'
  injection hs' with h3 h4
  injection h3 with h5 h6
  subst h5
  subst h6
  subst h4
  refine⟨γ,.number ⟨a',o,sp⟩ lost,W,es'.push ⟨.obj r',false,false⟩,?_,⟨.number o sp lost hb,fun x e f q=>by cases q⟩,hW,Fr.refl _ _ _,he.push ⟨.obj (hl _ _ hr),rfl,rfl,fun h=>by cases h⟩⟩
  show (Sem.getObj r' Sem.pure).runT P W es'=_
  simp only[Sem.runT,h2,Obj.isChan]
theorem Sim.shape {r r':Nat}(hr:β.r r r'):Sim Ok P (fun _ s s'=>s=s'∨∃e n n',s=some (e,n)∧s'=some (e,n')∧n≤n') β (Go.shape r) (Go.shape r'):=by
 refine Sim.of (fun E γ hl v W hW es q v1 es1 hs=>yields (a:=v.shape? r) (v:=v) hs rfl) ?_
 intro E γ hl v W hW es es' he s v1 es1 hs
 obtain⟨z,z',h1,h2,hz⟩:=hW.obj r r' (hl _ _ hr)
 have hs':(Result.ok (v.shape? r) v,es)=(Result.ok s v1,es1):=hs
 injection hs' with h3 h4
 injection h3 with h5 h6
 subst h5
 subst h6
 subst h4
 refine⟨γ,W.shape? r',W,es',rfl,?_,hW,Fr.refl _ _ _,he⟩
 unfold World.shape?
 rw[h1,h2]
 cases hz with
 | cells e f f' hx hf=>exact .inl (by simp only[hx.1])
 | pre e f f' hs hx hf=>exact .inr ⟨e,_,_,rfl,rfl,hs⟩
 | map clock hsz hme=>exact .inl rfl
 | number o sp lost hb=>exact .inl rfl
theorem frx_put {γ:Bij}{v W:World}{r r':Nat}(hr:γ.r r r')(xs xs':Array MapEntry)(c c':Nat):FrX γ γ v W { v with heap:=v.heap.setIfInBounds r (.map xs c) } { W with heap:=W.heap.setIfInBounds r' (.map xs' c') }:=by
 refine⟨by simp,fun _ _ h=>Or.inl h,fun a _ hn=>?_,fun hf x y hxy=>?_,fun b h1 h2=>by simp at h2;omega,rfl,rfl⟩
 ·simp only[Array.getElem?_setIfInBounds]
  rw[if_neg (fun (e:r=a)=>hn r' (by rw[←e];exact hr))]
 ·intro q e f q' e' f' h1 h2
  simp only[Array.getElem?_setIfInBounds] at h1 h2
  by_cases e0:r=x
  ·rw[if_pos e0] at h1
   split at h1<;>cases h1
  ·have e1:r'≠y:=fun e=>e0 (γ.inj hr (e ▸ hxy))
   rw[if_neg e0] at h1
   rw[if_neg e1] at h2
   exact hf x y hxy _ _ _ _ _ _ h1 h2
theorem Sim.setMap {r r':Nat}(hr:β.r r r'){xs xs':Array MapEntry}{clock:Nat}(hsz:xs.size=xs'.size)(hme:∀(i:Nat) (e e':MapEntry),xs[i]?=some e→xs'[i]?=some e'→ER1 Ok β.r e e'):Sim Ok P (fun _ _ _=>True) β (Go.setObj r (.map xs clock)) (Go.setObj r' (.map xs' clock)):=by
 refine Sim.of (fun E γ hl v W hW es q v1 es1 hs=>?_) ?_
 ·obtain⟨z,z',h1,h2,hz⟩:=hW.obj r r' (hl _ _ hr)
  have hs':(Sem.setObj r (.map xs clock) (.pure ())).runT P v es=(.halt q v1,es1):=hs
  simp only[Sem.runT,h1] at hs'
  cases hz with
  | cells e f f' hx hf =>
   simp only at hs'
   injection hs' with h3 _
   injection h3 with h4 _
   exact h4 ▸ (by first|exact .panic _|exact .stuck _|exact .unsupported _ (fun g e=>by cases e))
  | pre e f f' hs hx hf =>
   simp only at hs'
   injection hs' with h3 _
   injection h3 with h4 _
   exact h4 ▸ (by first|exact .panic _|exact .stuck _|exact .unsupported _ (fun g e=>by cases e))
  | map clock hsz hme=>exact yields hs' rfl
  | number o sp lost hb=>exact yields hs' rfl
 intro E γ hl v W hW es es' he o v1 es1 hs
 obtain⟨z,z',h1,h2,hz⟩:=hW.obj r r' (hl _ _ hr)
 have hs':(Sem.setObj r (.map xs clock) (.pure ())).runT P v es=(.ok o v1,es1):=hs
 simp only[Sem.runT,h1] at hs'
 cases hz with
 | cells e f f' hx hf =>
  simp only at hs'
  injection hs' with h3 _
  cases h3
 | pre e f f' hs hx hf =>
  simp only at hs'
  injection hs' with h3 _
  cases h3
 | @number a0 a0' o0 sp0 lost0 hb0 =>
  simp only[Obj.isChan] at hs'
  injection hs' with h3 h4
  injection h3 with h5 h6
  subst h6
  subst h4
  have hlt:=hW.lt (hl _ _ hr)
  refine⟨γ,(),{ W with heap:=W.heap.setIfInBounds r' (.map xs' clock) },es'.push ⟨.obj r',true,false⟩,?_,trivial,⟨fun x y hxy=>?_,hW.tape,hW.gl,by simpa using hW.vg,by simpa using hW.wg,fun x hx=>(hW.sh x hx).other h1 (fun _ _ _ q=>by cases q) _⟩,⟨Bij.le_refl γ,by simp,by simp,fun b hb hn=>?_,fun _ _ h=>Or.inl h,rfl,rfl,rfl,rfl,Nat.le_refl _,fun x y hxy hs=>?_,⟨by simp,Nat.le_refl _⟩,frx_put (hl _ _ hr) _ _ _ _⟩,he.push ⟨.obj (hl _ _ hr),rfl,rfl,fun _ x (hx:r=x) hn=>(hW.sh x hn).nocells (hx ▸ h1) (fun _ _ _ q=>by cases q)⟩⟩
  ·show (Sem.setObj r' (.map xs' clock) (.pure ())).runT P W es'=_
   simp only[Sem.runT,h2,Obj.isChan]
  ·have hiff:x=r↔y=r':=⟨fun e=>γ.fn (e ▸ hxy) (hl _ _ hr),fun e=>γ.inj (e ▸ hxy) (hl _ _ hr)⟩
   simp only[Array.getElem?_setIfInBounds]
   by_cases e:x=r
   ·rw[if_pos e.symm,if_pos (hiff.1 e).symm,if_pos (e ▸ hlt.1),if_pos ((hiff.1 e) ▸ hlt.2)]
    exact⟨_,_,rfl,rfl,(OR.map clock hsz hme).mono hl⟩
   ·rw[if_neg (fun q=>e q.symm),if_neg (fun q=>e (hiff.2 q.symm))]
    exact hW.obj x y hxy
  ·simp only[Array.getElem?_setIfInBounds]
   rw[if_neg (fun (e:r'=b)=>hn r (by rw[←e];exact hl _ _ hr))]
  ·have hx:r≠x:=fun e=>by
    obtain⟨c,t,f,q1,_⟩:=hs
    rw[←e,h1] at q1
    cases q1
   have hy:r'≠y:=fun e=>hx (γ.inj (hl _ _ hr) (e ▸ hxy))
   simp only[Array.getElem?_setIfInBounds]
   rw[if_neg hx,if_neg hy]
   exact⟨rfl,rfl⟩
 | @map ys ys' ck hsz' hme' =>
  simp only[Obj.isChan] at hs'
  injection hs' with h3 h4
  injection h3 with h5 h6
  subst h6
  subst h4
  have hlt:=hW.lt (hl _ _ hr)
  refine⟨γ,(),{ W with heap:=W.heap.setIfInBounds r' (.map xs' clock) },es'.push ⟨.obj r',true,false⟩,?_,trivial,⟨fun x y hxy=>?_,hW.tape,hW.gl,by simpa using hW.vg,by simpa using hW.wg,fun x hx=>(hW.sh x hx).other h1 (fun _ _ _ q=>by cases q) _⟩,⟨Bij.le_refl γ,by simp,by simp,fun b hb hn=>?_,fun _ _ h=>Or.inl h,rfl,rfl,rfl,rfl,Nat.le_refl _,fun x y hxy hs=>?_,⟨by simp,Nat.le_refl _⟩,frx_put (hl _ _ hr) _ _ _ _⟩,he.push ⟨.obj (hl _ _ hr),rfl,rfl,fun _ x (hx:r=x) hn=>(hW.sh x hn).nocells (hx ▸ h1) (fun _ _ _ q=>by cases q)⟩⟩
  ·show (Sem.setObj r' (.map xs' clock) (.pure ())).runT P W es'=_
   simp only[Sem.runT,h2,Obj.isChan]
  ·have hiff:x=r↔y=r':=⟨fun e=>γ.fn (e ▸ hxy) (hl _ _ hr),fun e=>γ.inj (e ▸ hxy) (hl _ _ hr)⟩
   simp only[Array.getElem?_setIfInBounds]
   by_cases e:x=r
   ·rw[if_pos e.symm,if_pos (hiff.1 e).symm,if_pos (e ▸ hlt.1),if_pos ((hiff.1 e) ▸ hlt.2)]
    exact⟨_,_,rfl,rfl,(OR.map clock hsz hme).mono hl⟩
   ·rw[if_neg (fun q=>e q.symm),if_neg (fun q=>e (hiff.2 q.symm))]
    exact hW.obj x y hxy
  ·simp only[Array.getElem?_setIfInBounds]
   rw[if_neg (fun (e:r'=b)=>hn r (by rw[←e];exact hl _ _ hr))]
  ·have hx:r≠x:=fun e=>by
    obtain⟨c,t,f,q1,_⟩:=hs
    rw[←e,h1] at q1
    cases q1
   have hy:r'≠y:=fun e=>hx (γ.inj (hl _ _ hr) (e ▸ hxy))
   simp only[Array.getElem?_setIfInBounds]
   rw[if_neg hx,if_neg hy]
   exact⟨rfl,rfl⟩
theorem Sim.choose (q:Question):Sim Ok P (fun _ n n'=>n=n') β (Go.choose q) (Go.choose q):=by
 refine fun E γ hl v W hW es es' he=>⟨fun n v1 es1 hs hE=>?_,fun h v1 es1 hs=>?_⟩
 rotate_left
 ·have hs':(Sem.choose q Sem.pure).runT P v es=(.halt h v1,es1):=hs
  simp only[Sem.runT] at hs'
  by_cases hq:q.forced=true
  ·rw[if_pos hq] at hs'
   exact yields hs' rfl
  ·rw[if_neg hq] at hs'
   exact yields hs' rfl
 have hs':(Sem.choose q Sem.pure).runT P v es=(.ok n v1,es1):=hs
 simp only[Sem.runT] at hs'
 show Out Ok E _ γ v W n v1 es1 ((Sem.choose q Sem.pure).runT P W es')
 simp only[Sem.runT]
 by_cases hq:q.forced=true
 ·rw[if_pos hq] at hs' ⊢
  injection hs' with h1 h2
  injection h1 with h3 h4
  subst h3
  subst h4
  subst h2
  exact⟨γ,0,W,es',rfl,rfl,hW,Fr.refl _ _ _,he⟩
 ·rw[if_neg hq] at hs' ⊢
  injection hs' with h1 h2
  injection h1 with h3 h4
  subst h3
  subst h4
  subst h2
  have ht:=hW.tape 0 q (show v.drawn+0<E from hE)
  rw[Nat.add_zero,Nat.add_zero] at ht
  rw[ht]
  refine⟨γ,_,_,es',rfl,rfl,⟨hW.obj,fun i q'=>?_,hW.gl,hW.vg,hW.wg,hW.sh⟩,⟨Bij.le_refl γ,Nat.le_refl _,Nat.le_refl _,fun _ _ _=>rfl,fun _ _ h=>Or.inl h,rfl,rfl,rfl,rfl,Nat.le_succ _,fun _ _ _ _=>⟨rfl,rfl⟩,⟨by simp,Nat.le_succ _⟩,.same rfl rfl rfl rfl⟩,he⟩
  have:=hW.tape (i+1) q'
  simp only
  rw[show v.drawn+1+i=v.drawn+(i+1) by omega,show W.drawn+1+i=W.drawn+(i+1) by omega]
  exact this
end Go.Proofs.YtjeicikflkjacaaGreatDoor.Par
