/- Goroutine 0 beside leavers: what a run does that would stop at certain blocks if it met them, and does not stop. -/
import Derived.Test.YtjeicikflkjacaaGreatDoorM20
import Derived.Conc.Events
import GoSem.Dispatch
set_option linter.unusedSimpArgs false
set_option linter.unusedVariables false
namespace Go.Proofs.YtjeicikflkjacaaGreatDoor.Po
open Go
inductive Soft:Halt→Prop
 | panic (v:Value):Soft (.panic v)
 | stuck (s:String):Soft (.stuck s)
 | unsupported (u:Unsupported) (h:∀g,u≠.initOrder g):Soft (.unsupported u)
structure Zs where
 z:Nat→Prop
 g:Nat→Prop
 gz:∀b,g b→z b
instance:CoeFun Zs (fun _=>Nat→Prop):=⟨Zs.z⟩
def window:Obj:=.view ⟨0,0,some 0⟩ 0
def Nop (v:World):Prop:=∀(b:Nat) (c:Array Value) (e:TypeId),v.heap[b]?≠some (Obj.pending c e)
structure Wr (Z:Zs)(v w:World):Prop where
 size:v.heap.size=w.heap.size
 off:∀b,¬Z b→v.heap[b]?=w.heap[b]?
 here:∀b,Z b→v.heap[b]?=some window
 there:∀b,Z b→∃c e,w.heap[b]?=some (.cells c e (0,0))∨(¬Z.g b∧w.heap[b]?=some (.pending c e))
 nop:Nop v
 tape:v.tape=w.tape
 drawn:v.drawn=w.drawn
 os:v.os=w.os
 out:v.output=w.output
inductive EvO (Z:Zs) (B:Nat):Event→Prop
 | cell (a:Addr) (wr sy:Bool) (h:¬Z.g a.block) (hb:a.block<B):EvO Z B ⟨.cell a,wr,sy⟩
 | obj (r:Nat) (wr sy:Bool) (h:¬Z.g r) (hb:r<B):EvO Z B ⟨.obj r,wr,sy⟩
 | noRoom (wr sy:Bool):EvO Z B ⟨.mark .noRoom,wr,sy⟩
 | extern (f:FuncId) (wr sy:Bool):EvO Z B ⟨.mark (.extern f),wr,sy⟩
theorem EvO.mono {Z:Zs}{B B':Nat}(hB:B≤B'){e:Event}(h:EvO Z B e):EvO Z B' e:=by
 cases h with
 | cell a wr sy h hb=>exact .cell a wr sy h (Nat.lt_of_lt_of_le hb hB)
 | obj r wr sy h hb=>exact .obj r wr sy h (Nat.lt_of_lt_of_le hb hB)
 | noRoom wr sy=>exact .noRoom wr sy
 | extern f wr sy=>exact .extern f wr sy
structure Aft (Z:Zs)(w w1 v1:World)(new:Array Event):Prop where
 wr:Wr Z v1 w1
 ev:∀e∈new,EvO Z w1.heap.size e
 grow:w.heap.size≤w1.heap.size
 keep:∀b,Z b→w1.heap[b]?=w.heap[b]?
def Yes (Z:Zs)(P:Program){α:Type}(Q:α→Prop)(s:Sem α):Prop :=
 ∀v w,Wr Z v w→∀es,(∀a v1 es1,s.runT P v es=(.ok a v1,es1)→Q a∧∀es',∃w1 new,s.runT P w es'=(.ok a w1,es'++new)∧Aft Z w w1 v1 new)∧∀q v1 es1,s.runT P v es=(.halt q v1,es1)→Soft q
abbrev Ye (Z:Zs) (P:Program) {α:Type} (s:Sem α):Prop:=Yes Z P (fun _=>True) s
def Dead (P:Program){α:Type}(s:Sem α):Prop:=∀v,Nop v→∀es,(∀a v1 es1,s.runT P v es≠(.ok a v1,es1))∧∀q v1 es1,s.runT P v es=(.halt q v1,es1)→Soft q
def Mi (P:Program){α:Type}(s:Sem α):Prop:=∀v,Nop v→∀es,(∀a v1 es1,s.runT P v es=(.ok a v1,es1)→Nop v1)∧∀q v1 es1,s.runT P v es=(.halt q v1,es1)→Soft q
def noZ:Zs:=⟨fun _=>False,fun _=>False,fun _ h=>h⟩
theorem Wr.same {v:World}(h:Nop v):Wr noZ v v:=⟨rfl,fun _ _=>rfl,fun _ h=>h.elim,fun _ h=>h.elim,h,rfl,rfl,rfl,rfl⟩
theorem soft_ok {α:Type}{a:α}{v v1:World}{q:Halt}{es es1:Array Event}{r:Result α × Array Event}(h:r=(.halt q v1,es1))(hr:r=(.ok a v,es)):Soft q:=by
 rw[hr] at h
 injection h with h1 _
 cases h1
section
variable {Z:Zs} {P:Program} {α δ:Type} {Q:α→Prop} {R:δ→Prop}
theorem Aft.refl {v w:World}(h:Wr Z v w):Aft Z w w v #[]:=⟨h,fun e he=>by simp at he,Nat.le_refl _,fun _ _=>rfl⟩
theorem Aft.trans {w w1 w2 v1 v2:World}{n1 n2:Array Event}(h:Aft Z w w1 v1 n1)(k:Aft Z w1 w2 v2 n2):Aft Z w w2 v2 (n1++n2) :=
 ⟨k.wr,fun e he=>(Array.mem_append.1 he).elim (fun x=>(h.ev e x).mono k.grow) (k.ev e),Nat.le_trans h.grow k.grow,fun b hb=>(k.keep b hb).trans (h.keep b hb)⟩
theorem Yes.pure {a:α}(h:Q a):Yes Z P Q (Pure.pure a):=by
 refine fun v w hw es=>⟨fun b v1 es1 hr=>?_,fun q v1 es1 hr=>soft_ok hr rfl⟩
 have hr':(Result.ok a v,es)=(Result.ok b v1,es1):=hr
 injection hr' with h1 h2
 injection h1 with h3 h4
 subst h3 h4
 exact⟨h,fun es'=>⟨w,#[],by rw[Array.append_empty];rfl,.refl hw⟩⟩
theorem Yes.bind {s:Sem α}{f:α→Sem δ}(h:Yes Z P Q s)(k:∀a,Q a→Yes Z P R (f a)):Yes Z P R (s >>= f):=by
 refine fun v w hw es=>⟨fun b v1 es1 hr=>?_,fun q v1 es1 hr=>?_⟩
 ·have hr':(s.bind f).runT P v es=(.ok b v1,es1):=hr
  rw[Sem.runT_bind'] at hr'
  cases hs:s.runT P v es with
  | mk r e2 =>
   rw[hs] at hr'
   cases r with
   | halt q u=>simp at hr'
   | ok a v2 =>
    simp only at hr'
    obtain⟨hq,h1⟩:=(h v w hw es).1 a v2 e2 hs
    obtain⟨w2,n2,_,a2⟩:=h1 #[]
    obtain⟨hR,_⟩:=(k a hq v2 w2 a2.wr e2).1 b v1 es1 hr'
    refine⟨hR,fun es'=>?_⟩
    obtain⟨w2,n2,e,a2⟩:=h1 es'
    obtain⟨_,h2⟩:=(k a hq v2 w2 a2.wr e2).1 b v1 es1 hr'
    obtain⟨w3,n3,e',a3⟩:=h2 (es'++n2)
    refine⟨w3,n2++n3,?_,a2.trans a3⟩
    show (s.bind f).runT P w es'=_
    rw[Sem.runT_bind',e]
    simp only
    rw[e',Array.append_assoc]
 ·have hr':(s.bind f).runT P v es=(.halt q v1,es1):=hr
  rw[Sem.runT_bind'] at hr'
  cases hs:s.runT P v es with
  | mk r e2 =>
   rw[hs] at hr'
   cases r with
   | halt q2 u =>
    simp only at hr'
    injection hr' with h1 _
    injection h1 with h2 _
    subst h2
    exact (h v w hw es).2 _ _ _ hs
   | ok a v2 =>
    simp only at hr'
    obtain⟨hq,h1⟩:=(h v w hw es).1 a v2 e2 hs
    obtain⟨w2,n2,_,a2⟩:=h1 #[]
    exact (k a hq v2 w2 a2.wr e2).2 _ _ _ hr'
theorem Yes.mono {s:Sem α}{Q':α→Prop}(h:Yes Z P Q s)(hq:∀a,Q a→Q' a):Yes Z P Q' s:=fun v w hw es=>⟨fun a v1 es1 hr=>⟨hq a ((h v w hw es).1 a v1 es1 hr).1,((h v w hw es).1 a v1 es1 hr).2⟩,(h v w hw es).2⟩
theorem Ye.bind {s:Sem α}{f:α→Sem δ}(h:Ye Z P s)(k:∀a,Yes Z P R (f a)):Yes Z P R (s >>= f):=Yes.bind h fun a _=>k a
theorem Yes.dead {s:Sem α}(h:Dead P s):Yes Z P Q s:=fun v _ hw es=>⟨fun a v1 es1 hr=>absurd hr ((h v hw.nop es).1 a v1 es1),(h v hw.nop es).2⟩
theorem Mi.of {s:Sem α}(h:Ye noZ P s):Mi P s:=fun v hv es=>⟨fun a v1 es1 hr=>by
 obtain⟨_,h1⟩:=(h v v (.same hv) es).1 a v1 es1 hr
 obtain⟨w1,n1,_,a1⟩:=h1 #[]
 exact a1.wr.nop,(h v v (.same hv) es).2⟩
theorem Dead.halt (q:Halt)(hq:Soft q):Dead P (.halt q:Sem α):=fun v _ es=>by
 have e:(Sem.halt q:Sem α).runT P v es=(.halt q v,es):=rfl
 refine⟨fun a v1 es1 hr=>?_,fun q2 v1 es1 hr=>?_⟩
 ·rw[e] at hr
  injection hr with h1 _
  cases h1
 ·rw[e] at hr
  injection hr with h1 _
  injection h1 with h2 _
  exact h2 ▸ hq
theorem Dead.bindL {s:Sem α}{f:α→Sem δ}(h:Dead P s):Dead P (s >>= f):=fun v hv es=>by
 refine⟨fun b v1 es1 hr=>?_,fun q v1 es1 hr=>?_⟩
 ·have hr':(s.bind f).runT P v es=(.ok b v1,es1):=hr
  rw[Sem.runT_bind'] at hr'
  cases hs:s.runT P v es with
  | mk r e2 =>
   rw[hs] at hr'
   cases r with
   | halt q u=>simp at hr'
   | ok a v2=>exact (h v hv es).1 _ _ _ hs
 ·have hr':(s.bind f).runT P v es=(.halt q v1,es1):=hr
  rw[Sem.runT_bind'] at hr'
  cases hs:s.runT P v es with
  | mk r e2 =>
   rw[hs] at hr'
   cases r with
   | halt q2 u =>
    simp only at hr'
    injection hr' with h1 _
    injection h1 with h2 _
    subst h2
    exact (h v hv es).2 _ _ _ hs
   | ok a v2=>exact absurd hs ((h v hv es).1 _ _ _)
theorem Dead.bindM {s:Sem α}{f:α→Sem δ}(hs:Mi P s)(h:∀a,Dead P (f a)):Dead P (s >>= f):=fun v hv es=>by
 refine⟨fun b v1 es1 hr=>?_,fun q v1 es1 hr=>?_⟩
 ·have hr':(s.bind f).runT P v es=(.ok b v1,es1):=hr
  rw[Sem.runT_bind'] at hr'
  cases he:s.runT P v es with
  | mk r e2 =>
   rw[he] at hr'
   cases r with
   | halt q u=>simp at hr'
   | ok a v2=>exact (h a v2 ((hs v hv es).1 _ _ _ he) e2).1 _ _ _ hr'
 ·have hr':(s.bind f).runT P v es=(.halt q v1,es1):=hr
  rw[Sem.runT_bind'] at hr'
  cases he:s.runT P v es with
  | mk r e2 =>
   rw[he] at hr'
   cases r with
   | halt q2 u =>
    simp only at hr'
    injection hr' with h1 _
    injection h1 with h2 _
    subst h2
    exact (hs v hv es).2 _ _ _ he
   | ok a v2=>exact (h a v2 ((hs v hv es).1 _ _ _ he) e2).2 _ _ _ hr'
theorem Dead.bindR {s:Sem α}{f:α→Sem δ}(hs:Ye noZ P s)(h:∀a,Dead P (f a)):Dead P (s >>= f):=Dead.bindM (Mi.of hs) h
theorem Dead.stuck (why:String):Dead P (Go.stuck why:Sem α):=Dead.halt _ (.stuck why)
theorem Dead.unsupported (u:Unsupported)(h:∀g,u≠.initOrder g:=by intro g e;cases e):Dead P (Go.unsupported u:Sem α):=Dead.halt _ (.unsupported u h)
theorem Dead.goPanic (v:Value):Dead P (Go.goPanic v:Sem α):=Dead.halt _ (.panic v)
theorem Yes.stuck (why:String):Yes Z P Q (Go.stuck why:Sem α):=.dead (.stuck why)
theorem Yes.unsupported (u:Unsupported)(h:∀g,u≠.initOrder g:=by intro g e;cases e):Yes Z P Q (Go.unsupported u:Sem α):=.dead (.unsupported u h)
theorem Yes.uNoEntry (s:String):Yes Z P Q (Go.unsupported (.noEntry s):Sem α):=.unsupported _
theorem Yes.uLimit (s:String):Yes Z P Q (Go.unsupported (.resourceLimit s):Sem α):=.unsupported _
theorem Yes.uPointer (s:String):Yes Z P Q (Go.unsupported (.unsafePointer s):Sem α):=.unsupported _
theorem Yes.uAddress:Yes Z P Q (Go.unsupported .addressObserved:Sem α):=.unsupported _
theorem Dead.uLimit (s:String):Dead P (Go.unsupported (.resourceLimit s):Sem α):=.unsupported _
theorem Yes.program:Yes Z P (fun p=>p=P) Go.program:=by
 refine fun v w hw es=>⟨fun b v1 es1 hr=>?_,fun q v1 es1 hr=>soft_ok hr rfl⟩
 have hr':(Result.ok P v,es)=(Result.ok b v1,es1):=hr
 injection hr' with h1 h2
 injection h1 with h3 h4
 subst h3 h4
 exact⟨rfl,fun es'=>⟨w,#[],by rw[Array.append_empty];rfl,.refl hw⟩⟩
/-! memory -/
theorem Wr.ex {v w:World}(h:Wr Z v w){b:Nat}(hb:¬Z b){o:Obj}(ho:v.heap[b]?=some o):w.heap[b]?=some o∧b<w.heap.size:=by
 rw[h.off b hb] at ho
 exact⟨ho,(Array.getElem?_eq_some_iff.1 ho).1⟩
theorem Wr.off_cells {v w:World}(h:Wr Z v w){b:Nat}{c:Array Value}{e:TypeId}{f:Nat × Nat}(ho:v.heap[b]?=some (.cells c e f)):¬Z b:=fun hz=>by
 rw[h.here b hz] at ho
 cases ho
theorem Nop.set {v:World}(h:Nop v)(b:Nat){o:Obj}(ho:∀c e,o≠.pending c e):Nop { v with heap:=v.heap.setIfInBounds b o }:=fun x c e q=>by
 dsimp only at q
 rw[Array.getElem?_setIfInBounds] at q
 split at q
 ·split at q
  ·injection q with q
   exact ho c e q
  ·cases q
 ·exact h x c e q
theorem Nop.push {v:World}(h:Nop v){o:Obj}(ho:∀c e,o≠.pending c e):Nop { v with heap:=v.heap.push o }:=fun x c e q=>by
 dsimp only at q
 rw[Array.getElem?_push] at q
 split at q
 ·injection q with q
  exact ho c e q
 ·exact h x c e q
theorem Wr.set {v w:World}(h:Wr Z v w){b:Nat}(hb:¬Z b)(o:Obj)(ho:∀c e,o≠.pending c e):Wr Z { v with heap:=v.heap.setIfInBounds b o } { w with heap:=w.heap.setIfInBounds b o }:=by
 refine⟨by simp[h.size],fun x hx=>?_,fun x hx=>?_,fun x hx=>?_,h.nop.set b ho,h.tape,h.drawn,h.os,h.out⟩
 ·dsimp only
  by_cases e:b=x
  ·subst e
   rw[Array.getElem?_setIfInBounds,Array.getElem?_setIfInBounds,h.size,if_pos rfl,if_pos rfl]
  ·rw[Array.getElem?_setIfInBounds_ne e,Array.getElem?_setIfInBounds_ne e]
   exact h.off x hx
 ·have e:b≠x:=fun e=>hb (e ▸ hx)
  dsimp only
  rw[Array.getElem?_setIfInBounds_ne e]
  exact h.here x hx
 ·have e:b≠x:=fun e=>hb (e ▸ hx)
  dsimp only
  rw[Array.getElem?_setIfInBounds_ne e]
  exact h.there x hx
theorem modify_eq (h:Array Obj)(b:Nat)(f:Obj→Obj){o:Obj}(ho:h[b]?=some o):h.modify b f=h.setIfInBounds b (f o):=by
 apply Array.ext_getElem?
 intro i
 rw[Array.getElem?_modify,Array.getElem?_setIfInBounds]
 by_cases e:b=i
 ·subst e
  have hlt:=(Array.getElem?_eq_some_iff.1 ho).1
  have e2:h[b]=o:=by simpa [Array.getElem?_eq_getElem hlt] using ho
  simp[hlt,e2]
 ·simp[e]
theorem Wr.setCell {v w:World}(h:Wr Z v w){a:Addr}{o:Obj}(ho:v.heap[a.block]?=some o)(hb:¬Z a.block)(x:Value):Wr Z (v.setCell a x) (w.setCell a x):=by
 have hw:=(h.ex hb ho).1
 unfold World.setCell
 rw[modify_eq _ _ _ ho,modify_eq _ _ _ hw]
 refine h.set hb _ fun c e q=>?_
 cases o<;>first|(cases q;done)|exact h.nop _ _ _ ho
theorem setCell_keep (w:World)(a:Addr)(x:Value){b:Nat}(hb:b≠a.block):(w.setCell a x).heap[b]?=w.heap[b]?:=by
 unfold World.setCell
 dsimp only
 rw[Array.getElem?_modify,if_neg (Ne.symm hb)]
theorem cell_at {v:World}{a:Addr}{x:Value}(h:v.cell? a=some x):∃c e f,v.heap[a.block]?=some (.cells c e f):=by
 unfold World.cell? at h
 split at h
 ·exact⟨_,_,_,by assumption⟩
 ·cases h
theorem cell_off {v w:World}{a:Addr}(h:v.heap[a.block]?=w.heap[a.block]?):v.cell? a=w.cell? a:=by
 unfold World.cell?
 rw[h]
theorem seen_off {v w:World}{p:Program}{at_ k:Addr}{u:TypeId}{b:Bool}(h:v.heap[at_.block]?=w.heap[at_.block]?):v.seen p at_ u k b=w.seen p at_ u k b:=by
 unfold World.seen
 rw[h]
theorem seen_on {v:World}{p:Program}{at_ k:Addr}{u:TypeId}{b:Bool}(h:v.heap[at_.block]?=some window):∀r,v.seen p at_ u k b≠.ok r:=by
 intro r e
 unfold World.seen at e
 rw[h] at e
 simp only[window,bind,Except.bind,throw,throwThe,MonadExceptOf.throw,Pure.pure,Except.pure] at e
 repeat' split at e
 all_goals cases e
theorem seen_spot {v:World}{p:Program}{at_ k:Addr}{u:TypeId}{b:Bool}(h:at_.spot.isSome=true):∀r,v.seen p at_ u k b≠.ok r:=by
 intro r e
 unfold World.seen at e
 rw[h] at e
 simp only[Bool.or_true,if_true,bind,Except.bind,throw,throwThe,MonadExceptOf.throw,Pure.pure,Except.pure] at e
 cases e
theorem viewLoad_ok {v w:World}(h:Wr Z v w){at_ k:Addr}{u:TypeId}{b:Bool}{r:Value × List Addr}(e:v.viewLoad P at_ u k b=.ok r):¬Z at_.block∧at_.block<w.heap.size∧w.viewLoad P at_ u k b=.ok r∧∀a∈r.2,a.block=at_.block:=by
 have hs:∃x,v.seen P at_ u k b=.ok x:=by
  unfold World.viewLoad at e
  cases hs:v.seen P at_ u k b with
  | ok x=>exact⟨x,rfl⟩
  | error m=>rw[hs] at e;cases e
 obtain⟨x,hs⟩:=hs
 have hz:¬Z at_.block:=fun hz=>seen_on (h.here _ hz) _ hs
 have hlt:at_.block<w.heap.size:=by
  refine Nat.lt_of_not_le fun hle=>?_
  have hn:v.heap[at_.block]?=none:=Array.getElem?_eq_none (by rw[h.size];exact hle)
  unfold World.seen at hs
  rw[hn] at hs
  simp only[bind,Except.bind,throw,throwThe,MonadExceptOf.throw,Pure.pure,Except.pure] at hs
  repeat' split at hs
  all_goals cases hs
 have hw:w.viewLoad P at_ u k b=.ok r:=by
  rw[←e]
  unfold World.viewLoad
  rw[seen_off (h.off _ hz)]
 refine⟨hz,hlt,hw,fun a ha=>?_⟩
 unfold World.viewLoad at e
 rw[hs] at e
 obtain⟨x1,x2,x3,x4,x5,x6⟩:=x
 simp only[bind,Except.bind,throw,throwThe,MonadExceptOf.throw,Pure.pure,Except.pure] at e
 split at e
 ·injection e with e
  subst e
  obtain⟨y,_,rfl⟩:=List.mem_map.1 ha
  rfl
 ·cases e
theorem noCell_soft {v:World}(h:Nop v)(a:Addr)(what:String):Soft (v.noCell a what):=by
 unfold World.noCell
 split
 ·rename_i c e q
  exact absurd q (h _ _ _)
 ·exact .unsupported _ fun g e=>by cases e
 ·exact .stuck _
theorem farLoad_soft {v:World}(h:Nop v){a:Addr}{b:Bool}{q:Halt}(e:v.farLoad P a b=.error q):Soft q:=by
 unfold World.farLoad at e
 split at e
 ·split at e
  ·cases e
  ·injection e with e
   subst e
   exact .unsupported _ fun g e=>by cases e
 ·injection e with e
  subst e
  exact noCell_soft h _ _
theorem farStore_soft {v:World}(h:Nop v){a:Addr}{x:Value}{b:Bool}{q:Halt}(e:v.farStore P a x b=.error q):Soft q:=by
 unfold World.farStore at e
 split at e
 ·split at e
  ·cases e
  ·injection e with e
   subst e
   exact .unsupported _ fun g e=>by cases e
 ·injection e with e
  subst e
  exact noCell_soft h _ _
theorem Yes.load (a:Addr)(m:Mode):Ye Z P (Go.load a m):=by
 refine fun v w hw es=>⟨fun x v1 es1 hr=>?_,fun q v1 es1 hr=>?_⟩
 rotate_left
 ·have hr':(Sem.load m a Sem.pure).runT P v es=(.halt q v1,es1):=hr
  simp only[Sem.runT] at hr'
  cases hc:v.cell? a with
  | some y=>rw[hc] at hr';cases hr'
  | none =>
   rw[hc] at hr'
   simp only at hr'
   cases hf:v.farLoad P a (m==.atomic) with
   | ok r=>rw[hf] at hr';cases hr'
   | error q2 =>
    rw[hf] at hr'
    injection hr' with h1 _
    injection h1 with h2 _
    exact h2 ▸ farLoad_soft hw.nop hf
 refine⟨trivial,fun es'=>?_⟩
 have hr':(Sem.load m a Sem.pure).runT P v es=(.ok x v1,es1):=hr
 show ∃w1 new,(Sem.load m a Sem.pure).runT P w es'=_∧_
 simp only[Sem.runT] at hr' ⊢
 cases hc:v.cell? a with
 | some y =>
  rw[hc] at hr'
  simp only at hr'
  injection hr' with h1 h2
  injection h1 with h3 h4
  subst h3 h4
  obtain⟨c,e,f,ho⟩:=cell_at hc
  have hz:=hw.off_cells ho
  rw[←cell_off (hw.off _ hz),hc]
  exact⟨w,#[⟨.cell a,false,m==.atomic⟩],by simp,⟨hw,fun e he=>by simp at he;subst he;exact .cell a false (m==.atomic) (fun q=>hz (Z.gz _ q)) (hw.ex hz ho).2,Nat.le_refl _,fun _ _=>rfl⟩⟩
 | none =>
  rw[hc] at hr'
  simp only at hr'
  cases hf:v.farLoad P a (m==.atomic) with
  | error q=>rw[hf] at hr';simp at hr'
  | ok r =>
   rw[hf] at hr'
   simp only at hr'
   injection hr' with h1 h2
   injection h1 with h3 h4
   subst h3 h4
   unfold World.farLoad at hf
   cases hb:v.heap[a.block]? with
   | none=>rw[hb] at hf;cases hf
   | some o =>
    rw[hb] at hf
    cases o with
    | view at_ u =>
     simp only at hf
     cases hl:v.viewLoad P at_ u a (m==.atomic) with
     | error q=>rw[hl] at hf;cases hf
     | ok r2 =>
      rw[hl] at hf
      injection hf with hf
      subst hf
      obtain⟨hz,hlt,hl2,hin⟩:=viewLoad_ok hw hl
      have hza:¬Z a.block:=fun hza=>by
       rw[hw.here _ hza] at hb
       injection hb with hb
       injection hb with hb1 hb2
       subst hb1
       unfold World.viewLoad at hl
       cases hs:v.seen P ⟨0,0,some 0⟩ u a (m==.atomic) with
       | ok x=>exact seen_spot rfl _ hs
       | error q=>rw[hs] at hl;cases hl
      have hbw:w.heap[a.block]?=some (.view at_ u):=(hw.ex hza hb).1
      have hcw:w.cell? a=none:=by rw[←cell_off (hw.off _ hza),hc]
      rw[hcw]
      simp only[World.farLoad,hbw,hl2]
      exact⟨w,_,rfl,⟨hw,fun e he=>by
       obtain⟨y,hy,rfl⟩:=Array.mem_map.1 he
       have hy':=hin y (by simpa using hy)
       exact .cell y _ _ (by rw[hy'];exact fun q=>hz (Z.gz _ q)) (by rw[hy'];exact hlt),Nat.le_refl _,fun _ _=>rfl⟩⟩
    | _=>cases hf
theorem viewStore_ok {v w v1:World}(h:Wr Z v w){at_ k:Addr}{u:TypeId}{x:Value}{b:Bool}{l:List Addr}(e:v.viewStore P at_ u k x b=.ok (v1,l)):¬Z at_.block∧at_.block<w.heap.size∧(∃c,(∀x e,c≠.pending x e)∧v1={ v with heap:=v.heap.setIfInBounds at_.block c }∧w.viewStore P at_ u k x b=.ok ({ w with heap:=w.heap.setIfInBounds at_.block c },l))∧∀a∈l,a.block=at_.block:=by
 have hs:∃x,v.seen P at_ u k b=.ok x:=by
  unfold World.viewStore at e
  cases hs:v.seen P at_ u k b with
  | ok x=>exact⟨x,rfl⟩
  | error m =>
   rw[hs] at e
   simp only[bind,Except.bind,throw,throwThe,MonadExceptOf.throw,Pure.pure,Except.pure] at e
   split at e<;>cases e
 obtain⟨y,hs⟩:=hs
 have hz:¬Z at_.block:=fun hz=>seen_on (h.here _ hz) _ hs
 have hlt:at_.block<w.heap.size:=by
  refine Nat.lt_of_not_le fun hle=>?_
  have hn:v.heap[at_.block]?=none:=Array.getElem?_eq_none (by rw[h.size];exact hle)
  unfold World.seen at hs
  rw[hn] at hs
  simp only[bind,Except.bind,throw,throwThe,MonadExceptOf.throw,Pure.pure,Except.pure] at hs
  repeat' split at hs
  all_goals cases hs
 have hsw:w.seen P at_ u k b=.ok y:=by rw[←hs,seen_off (h.off _ hz)]
 refine⟨hz,hlt,?_⟩
 unfold World.viewStore at e ⊢
 rw[hs] at e
 rw[hsw]
 obtain⟨x1,x2,x3,x4,x5,x6⟩:=y
 cases ht:tight P P.depth u with
 | false=>rw[ht] at e;cases e
 | true =>
  rw[ht] at e
  cases hx:x.bytes? with
  | none =>
   rw[hx] at e
   simp only[bind,Except.bind,Bool.not_true,Bool.false_eq_true,if_false] at e
   cases e
  | some bytes =>
   rw[hx] at e
   by_cases hl:some bytes.length≠x5.bytes?.map (·.length)
   ·simp only[bind,Except.bind,if_pos hl,Bool.not_true,Bool.false_eq_true,if_false] at e
    cases e
   ·simp only[bind,Except.bind,hl,if_false,pure,Except.pure,Bool.not_true,Bool.false_eq_true] at e ⊢
    split at e
    ·cases e
    ·rename_i c hc
     injection e with e
     injection e with e1 e2
     subst e1 e2
     refine⟨⟨_,(fun _ _ q=>by cases q),rfl,rfl⟩,fun a ha=>?_⟩
     obtain⟨y,_,rfl⟩:=List.mem_map.1 ha
     rfl
theorem storeT (P:Program)(m:Mode)(a:Addr)(x:Value)(v:World)(es:Array Event)(hx:(∀y,x≠.agg y)∧∀y,x≠.tuple y):(Go.store a x m).runT P v es=match v.cell? a with
  | some _ => if v.frozen? a then (.halt (.unsupported (.unsafePointer "a write to bytes that a string shares")) v, es) else (.ok () (v.setCell a x), es.push ⟨.cell a, true, m == .atomic⟩)
  | none=>match v.farStore P a x (m==.atomic) with
   | .ok (v1,l)=>(.ok () v1,es++l.toArray.map (⟨.cell ·,true,m==.atomic⟩))
   | .error q=>(.halt q v,es):=by
 show (Sem.store m a x (.pure ())).runT P v es=_
 cases x<;>first|exact absurd rfl (hx.1 _)|exact absurd rfl (hx.2 _)|(simp only[Sem.runT];rfl)
theorem Yes.store (a:Addr)(x:Value)(m:Mode):Ye Z P (Go.store a x m):=by
 by_cases hx:(∀y,x≠.agg y)∧∀y,x≠.tuple y
 rotate_left
 ·have he : ∀ v es, (Go.store a x m).runT P v es = (.halt (.stuck "store: not the value of one cell") v, es) := fun v es => by
   show (Sem.store m a x (.pure ())).runT P v es=_
   cases x<;>first|(simp[Sem.runT];done)|exact absurd ⟨(fun _ h=>by cases h),(fun _ h=>by cases h)⟩ hx
  refine .dead fun v _ es=>⟨fun u v1 es1 hr=>?_,fun q v1 es1 hr=>?_⟩
  ·rw[he] at hr
   cases hr
  ·rw[he] at hr
   injection hr with h1 _
   injection h1 with h2 _
   exact h2 ▸ .stuck _
 refine fun v w hw es=>⟨fun u v1 es1 hr=>?_,fun q v1 es1 hr=>?_⟩
 rotate_left
 ·rw[storeT P m a x v es hx] at hr
  cases hc:v.cell? a with
  | some y =>
   rw[hc] at hr
   simp only at hr
   split at hr
   ·injection hr with h1 _
    injection h1 with h2 _
    exact h2 ▸ .unsupported _ fun g e=>by cases e
   ·cases hr
  | none =>
   rw[hc] at hr
   simp only at hr
   cases hf:v.farStore P a x (m==.atomic) with
   | ok r=>rw[hf] at hr;cases hr
   | error q2 =>
    rw[hf] at hr
    injection hr with h1 _
    injection h1 with h2 _
    exact h2 ▸ farStore_soft hw.nop hf
 refine⟨trivial,fun es'=>?_⟩
 rw[storeT P m a x v es hx] at hr
 rw[storeT P m a x w es' hx]
 cases hc:v.cell? a with
 | some y =>
  rw[hc] at hr
  simp only at hr
  split at hr
  ·cases hr
  ·rename_i hfr
   injection hr with h1 h2
   injection h1 with h3 h4
   subst h4
   obtain⟨c,e,f,ho⟩:=cell_at hc
   have hz:=hw.off_cells ho
   have hfw:w.frozen? a=v.frozen? a:=by unfold World.frozen?;rw[hw.off _ hz]
   rw[←cell_off (hw.off _ hz),hc,hfw]
   simp only[if_neg hfr]
   exact⟨w.setCell a x,#[⟨.cell a,true,m==.atomic⟩],by simp,⟨hw.setCell ho hz x,fun e he=>by simp at he;subst he;exact .cell a true (m==.atomic) (fun q=>hz (Z.gz _ q)) (by simpa [World.setCell] using (hw.ex hz ho).2),by simp[World.setCell],fun b hb=>setCell_keep w a x fun q=>hz (q ▸ hb)⟩⟩
 | none =>
  rw[hc] at hr
  simp only at hr
  cases hf:v.farStore P a x (m==.atomic) with
  | error q=>rw[hf] at hr;simp at hr
  | ok r =>
   obtain⟨v2,l⟩:=r
   rw[hf] at hr
   simp only at hr
   injection hr with h1 h2
   injection h1 with h3 h4
   subst h4
   unfold World.farStore at hf
   cases hb:v.heap[a.block]? with
   | none=>rw[hb] at hf;cases hf
   | some o =>
    rw[hb] at hf
    cases o with
    | view at_ u =>
     simp only at hf
     cases hl:v.viewStore P at_ u a x (m==.atomic) with
     | error q=>rw[hl] at hf;cases hf
     | ok r2 =>
      rw[hl] at hf
      injection hf with hf
      subst hf
      obtain⟨hz,hlt,⟨c,hcp,rfl,hl2⟩,hin⟩:=viewStore_ok hw hl
      have hza:¬Z a.block:=fun hza=>by
       rw[hw.here _ hza] at hb
       injection hb with hb
       injection hb with hb1 hb2
       subst hb1
       unfold World.viewStore at hl
       cases hs:v.seen P ⟨0,0,some 0⟩ u a (m==.atomic) with
       | ok x=>exact seen_spot rfl _ hs
       | error q =>
        rw[hs] at hl
        simp only[bind,Except.bind,throw,throwThe,MonadExceptOf.throw,Pure.pure,Except.pure] at hl
        split at hl<;>cases hl
      have hbw:w.heap[a.block]?=some (.view at_ u):=(hw.ex hza hb).1
      have hcw:w.cell? a=none:=by rw[←cell_off (hw.off _ hza),hc]
      rw[hcw]
      simp only[World.farStore,hbw,hl2]
      exact⟨_,_,rfl,⟨hw.set hz c hcp,fun e he=>by
       obtain⟨y,hy,rfl⟩:=Array.mem_map.1 he
       have hy':=hin y (by simpa using hy)
       exact .cell y _ _ (by rw[hy'];exact fun q=>hz (Z.gz _ q)) (by rw[hy'];simpa using hlt),by simp,fun b hb=>by
       have hne:at_.block≠b:=fun q=>hz (q ▸ hb)
       dsimp only
       rw[Array.getElem?_setIfInBounds_ne hne]⟩⟩
    | _=>cases hf
theorem Wr.lt {v w:World}(h:Wr Z v w){b:Nat}(hb:Z b):b<w.heap.size:=by
 rw[←h.size]
 exact (Array.getElem?_eq_some_iff.1 (h.here b hb)).1
theorem Wr.push {v w:World}(h:Wr Z v w)(o:Obj)(ho:∀c e,o≠.pending c e):Wr Z { v with heap:=v.heap.push o } { w with heap:=w.heap.push o }:=by
 have old:∀b,Z b→b<w.heap.size:=fun b hb=>h.lt hb
 refine⟨by simp[h.size],fun x hx=>?_,fun x hx=>?_,fun x hx=>?_,h.nop.push ho,h.tape,h.drawn,h.os,h.out⟩
 ·dsimp only
  rw[Array.getElem?_push,Array.getElem?_push,h.size,h.off x hx]
 ·have:=old x hx
  dsimp only
  rw[Array.getElem?_push,if_neg (by rw[h.size];omega)]
  exact h.here x hx
 ·have:=old x hx
  dsimp only
  rw[Array.getElem?_push,if_neg (by omega)]
  exact h.there x hx
theorem Yes.newObj (o:Obj)(ho:∀c e,o≠.pending c e):Ye Z P (Go.newObj o):=by
 refine fun v w hw es=>⟨fun u v1 es1 hr=>?_,fun q v1 es1 hr=>soft_ok hr rfl⟩
 refine⟨trivial,fun es'=>?_⟩
 have hr':(Result.ok v.heap.size { v with heap:=v.heap.push o },es)=(Result.ok u v1,es1):=hr
 injection hr' with h1 h2
 injection h1 with h3 h4
 subst h3 h4
 refine⟨{ w with heap:=w.heap.push o },#[],?_,⟨hw.push o ho,fun e he=>by simp at he,by simp,fun b hb=>?_⟩⟩
 ·rw[hw.size,Array.append_empty];rfl
 ·have:=hw.lt hb
  dsimp only
  rw[Array.getElem?_push,if_neg (by omega)]
theorem Yes.newCells (c:Array Value)(t:TypeId):Ye Z P (Go.newObj (.cells c t)):=Yes.newObj _ fun _ _ q=>by cases q
theorem Yes.newMap (c:Array MapEntry)(t:Nat):Ye Z P (Go.newObj (.map c t)):=Yes.newObj _ fun _ _ q=>by cases q
theorem Yes.newNumber (a:Addr)(b:Bool):Ye Z P (Go.newObj (.number a b)):=Yes.newObj _ fun _ _ q=>by cases q
theorem Yes.choose (q:Question):Ye Z P (Go.choose q):=by
 have hh:∀v es,∃n v1,(Go.choose q).runT P v es=(.ok n v1,es):=fun v es=>by
  have:(Go.choose q).runT P v es=(Sem.choose q Sem.pure).runT P v es:=rfl
  rw[this]
  simp only[Sem.runT]
  split<;>exact⟨_,_,rfl⟩
 refine fun v w hw es=>⟨fun u v1 es1 hr=>?_,fun q v1 es1 hr=>by obtain⟨n,v2,e⟩:=hh v es;exact soft_ok hr e⟩
 refine⟨trivial,fun es'=>?_⟩
 have hr':(Sem.choose q Sem.pure).runT P v es=(.ok u v1,es1):=hr
 show ∃w1 new,(Sem.choose q Sem.pure).runT P w es'=_∧_
 simp only[Sem.runT] at hr' ⊢
 split at hr'
 ·rename_i hq
  rw[if_pos hq]
  injection hr' with h1 h2
  injection h1 with h3 h4
  subst h3 h4
  exact⟨w,#[],by rw[Array.append_empty],.refl hw⟩
 ·rename_i hq
  rw[if_neg hq]
  injection hr' with h1 h2
  injection h1 with h3 h4
  subst h3 h4
  refine⟨{ w with drawn:=w.drawn+1 },#[],by rw[Array.append_empty,hw.tape,hw.drawn],⟨⟨hw.size,hw.off,hw.here,hw.there,hw.nop,hw.tape,by dsimp only;rw[hw.drawn],hw.os,hw.out⟩,fun e he=>by simp at he,Nat.le_refl _,fun _ _=>rfl⟩⟩
theorem Yes.noRoom:Ye Z P (Go.mark .noRoom):=by
 refine fun v w hw es=>⟨fun u v1 es1 hr=>?_,fun q v1 es1 hr=>soft_ok hr rfl⟩
 refine⟨trivial,fun es'=>?_⟩
 have hr':(Result.ok () v,es.push ⟨.mark .noRoom,false,true⟩)=(Result.ok u v1,es1):=hr
 injection hr' with h1 h2
 injection h1 with h3 h4
 subst h4
 exact⟨w,#[⟨.mark .noRoom,false,true⟩],by rw[Array.push_eq_append.symm];rfl,⟨hw,fun e he=>by simp at he;subst he;exact .noRoom false true,Nat.le_refl _,fun _ _=>rfl⟩⟩
theorem Yes.extern (f:FuncId):Ye Z P (Go.mark (.extern f)):=by
 refine fun v w hw es=>⟨fun u v1 es1 hr=>?_,fun q v1 es1 hr=>soft_ok hr rfl⟩
 refine⟨trivial,fun es'=>?_⟩
 have hr':(Result.ok () v,es.push ⟨.mark (.extern f),false,true⟩)=(Result.ok u v1,es1):=hr
 injection hr' with h1 h2
 injection h1 with h3 h4
 subst h4
 exact⟨w,#[⟨.mark (.extern f),false,true⟩],by rw[Array.push_eq_append.symm];rfl,⟨hw,fun e he=>by simp at he;subst he;exact .extern f false true,Nat.le_refl _,fun _ _=>rfl⟩⟩
theorem ye_new (t:TypeId)(v:Value):Ye Z P (Go.newVar t v):=Ye.bind (.newCells _ _) fun _=>.pure trivial
theorem ye_eof (t:TypeId):Ye Z P (Go.elemOf t):=by
 unfold Go.elemOf Go.underlying
 refine Ye.bind (Ye.bind (Yes.program.mono fun _ _=>trivial) fun p=>?_) fun d=>?_
 ·split
  ·exact .pure trivial
  ·exact .stuck _
 ·split
  ·exact .pure trivial
  ·exact .stuck _
theorem Dead.runtimePanic (e:RuntimeError):Dead P (Go.runtimePanic e:Sem α):=by
 unfold Go.runtimePanic
 refine Dead.bindR (Yes.program.mono fun _ _=>trivial) fun p=>?_
 cases e with
 | typeAssertion i c a m=>exact Dead.bindR (ye_eof _) fun _=>Dead.bindR (ye_new _ _) fun _=>Dead.goPanic _
 | panicNil=>exact Dead.bindR (ye_eof _) fun _=>Dead.bindR (ye_new _ _) fun _=>Dead.goPanic _
 | _=>exact Dead.goPanic _
theorem Dead.panicString (m:String):Dead P (Go.panicString m:Sem α):=by
 unfold Go.panicString
 exact Dead.bindR (Yes.program.mono fun _ _=>trivial) fun _=>Dead.goPanic _
theorem Dead.boundsPanic (k:IntKind)(x y:Int)(c:BoundsCode):Dead P (Go.boundsPanic k x y c:Sem α):=by
 unfold Go.boundsPanic
 dsimp only
 split
 ·refine Dead.bindR ?_ fun _=>Dead.runtimePanic _
  rw[←bind_pure_comp]
  exact Ye.bind (.choose _) fun _=>.pure trivial
 ·exact Dead.bindR (.pure trivial) fun _=>Dead.runtimePanic _
theorem Yes.runtimePanic (e:RuntimeError):Yes Z P Q (Go.runtimePanic e:Sem α):=.dead (.runtimePanic e)
theorem Yes.panicString (m:String):Yes Z P Q (Go.panicString m:Sem α):=.dead (.panicString m)
theorem Yes.boundsPanic (k:IntKind)(x y:Int)(c:BoundsCode):Yes Z P Q (Go.boundsPanic k x y c:Sem α):=.dead (.boundsPanic k x y c)
end
end Go.Proofs.YtjeicikflkjacaaGreatDoor.Po

/- Goroutine 0 beside leavers: what is asked of memory. -/
set_option linter.unusedSimpArgs false
set_option linter.unusedVariables false
namespace Go.Proofs.YtjeicikflkjacaaGreatDoor.Po
open Go
section
variable {Z:Zs} {P:Program} {α δ:Type} {Q:α→Prop} {R:δ→Prop}
theorem Wr.frozen {v w:World}(h:Wr Z v w)(a:Addr):v.frozen? a=w.frozen? a:=by
 by_cases hz:Z a.block
 ·obtain⟨c,e,hw|⟨_,hw⟩⟩:=h.there _ hz
  ·unfold World.frozen?
   rw[hw,h.here _ hz]
   simp[window]
  ·unfold World.frozen?
   rw[hw,h.here _ hz]
   rfl
 ·unfold World.frozen?
  rw[h.off _ hz]
theorem Yes.frozen (a:Addr):Ye Z P (Go.frozen a):=by
 refine fun v w hw es=>⟨fun u v1 es1 hr=>?_,fun q v1 es1 hr=>soft_ok hr rfl⟩
 refine⟨trivial,fun es'=>?_⟩
 have hr':(Result.ok (v.frozen? a) v,es)=(Result.ok u v1,es1):=hr
 injection hr' with h1 h2
 injection h1 with h3 h4
 subst h3 h4
 exact⟨w,#[],by rw[Array.append_empty,hw.frozen];rfl,.refl hw⟩
theorem Yes.shape_off {r:Nat}(hz:¬Z r):Ye Z P (Go.shape r):=by
 refine fun v w hw es=>⟨fun u v1 es1 hr=>?_,fun q v1 es1 hr=>soft_ok hr rfl⟩
 refine⟨trivial,fun es'=>?_⟩
 have hr':(Result.ok (v.shape? r) v,es)=(Result.ok u v1,es1):=hr
 injection hr' with h1 h2
 injection h1 with h3 h4
 subst h3 h4
 have e:v.shape? r=w.shape? r:=by unfold World.shape?;rw[hw.off _ hz]
 exact⟨w,#[],by rw[Array.append_empty,e];rfl,.refl hw⟩
theorem yes_at_dead {s t:Sem δ}(h0:Dead P t){v w:World}(hw:Wr Z v w){es es2:Array Event}(he:s.runT P v es=t.runT P v es2):(∀a v1 es1,s.runT P v es=(.ok a v1,es1)→R a∧∀es',∃w1 new,s.runT P w es'=(.ok a w1,es'++new)∧Aft Z w w1 v1 new)∧∀q v1 es1,s.runT P v es=(.halt q v1,es1)→Soft q :=
 ⟨fun a v1 es1 hr=>absurd (he ▸ hr) ((h0 v hw.nop es2).1 a v1 es1),fun q v1 es1 hr=>(h0 v hw.nop es2).2 q v1 es1 (he ▸ hr)⟩
theorem Yes.shape_some {r:Nat}{k:Option (TypeId × Nat)→Sem δ}(h0:Dead P (k none))(h:∀x,Yes Z P R (k x)):Yes Z P R (Go.shape r >>= k):=by
 by_cases hz:Z r
 ·intro v w hw es
  have e:v.shape? r=none:=by unfold World.shape?;rw[hw.here _ hz];rfl
  have he:(Go.shape r >>= k).runT P v es=(k none).runT P v es:=by
   show (k (v.shape? r)).runT P v es=_
   rw[e]
  exact yes_at_dead h0 hw he
 ·exact Ye.bind (.shape_off hz) h
theorem Yes.getObj_off {r:Nat}(hz:¬Z r):Ye Z P (Go.getObj r):=by
 refine fun v w hw es=>⟨fun u v1 es1 hr=>?_,fun q v1 es1 hr=>?_⟩
 ·refine⟨trivial,fun es'=>?_⟩
  have hr':(Sem.getObj r Sem.pure).runT P v es=(.ok u v1,es1):=hr
  show ∃w1 new,(Sem.getObj r Sem.pure).runT P w es'=_∧_
  simp only[Sem.runT] at hr' ⊢
  rw[hw.off _ hz] at hr'
  cases hb:w.heap[r]? with
  | none=>rw[hb] at hr';cases hr'
  | some o =>
   rw[hb] at hr'
   have hlt:=(Array.getElem?_eq_some_iff.1 hb).1
   cases o<;>first|(cases hr';done)|(simp only at hr' ⊢;injection hr' with h1 h2;injection h1 with h3 h4;subst h3 h4;exact⟨w,#[⟨.obj r,false,_⟩],Prod.ext rfl Array.push_eq_append,⟨hw,fun e he=>by simp at he;subst he;exact .obj r false _ (fun q=>hz (Z.gz _ q)) hlt,Nat.le_refl _,fun _ _=>rfl⟩⟩)
 ·have hr':(Sem.getObj r Sem.pure).runT P v es=(.halt q v1,es1):=hr
  simp only[Sem.runT] at hr'
  cases hb:v.heap[r]? with
  | none =>
   rw[hb] at hr'
   injection hr' with h1 _
   injection h1 with h2 _
   exact h2 ▸ .stuck _
  | some o =>
   rw[hb] at hr'
   cases o<;>first|(cases hr';done)|(injection hr' with h1 _;injection h1 with h2 _;exact h2 ▸ .stuck _)
theorem getObj_z {r:Nat}{k:Obj→Sem δ}(hz:Z r){v w:World}(hw:Wr Z v w)(es:Array Event):(Go.getObj r >>= k).runT P v es=(k window).runT P v (es.push ⟨.obj r,false,false⟩):=by
 show ((Sem.getObj r Sem.pure).bind k).runT P v es=_
 simp only[Sem.bind,Sem.runT]
 rw[hw.here _ hz]
 rfl
theorem Yes.getObj {r:Nat}{k:Obj→Sem δ}(h0:Dead P (k window))(h:¬Z r→∀x,Yes Z P R (k x)):Yes Z P R (Go.getObj r >>= k):=by
 by_cases hz:Z r
 ·intro v w hw es
  exact yes_at_dead h0 hw (getObj_z hz hw es)
 ·exact Ye.bind (.getObj_off hz) (h hz)
theorem Yes.setObj {r:Nat}(hz:¬Z r)(o:Obj)(ho:∀c e,o≠.pending c e):Ye Z P (Go.setObj r o):=by
 refine fun v w hw es=>⟨fun u v1 es1 hr=>?_,fun q v1 es1 hr=>?_⟩
 ·refine⟨trivial,fun es'=>?_⟩
  have hr':(Sem.setObj r o (Sem.pure ())).runT P v es=(.ok u v1,es1):=hr
  show ∃w1 new,(Sem.setObj r o (Sem.pure ())).runT P w es'=_∧_
  simp only[Sem.runT] at hr' ⊢
  rw[hw.off _ hz] at hr'
  cases hb:w.heap[r]? with
  | none=>rw[hb] at hr';cases hr'
  | some o2 =>
   rw[hb] at hr'
   have hlt:=(Array.getElem?_eq_some_iff.1 hb).1
   cases o2<;>first|(cases hr';done)|(simp only at hr' ⊢;injection hr' with h1 h2;injection h1 with h3 h4;subst h4;exact⟨_,#[⟨.obj r,true,o.isChan⟩],Prod.ext rfl Array.push_eq_append,⟨hw.set hz o ho,fun e he=>by simp at he;subst he;exact .obj r true _ (fun q=>hz (Z.gz _ q)) (by simpa using hlt),by simp,fun b hb=>by
    have hne:r≠b:=fun q=>hz (q ▸ hb)
    dsimp only
    rw[Array.getElem?_setIfInBounds_ne hne]⟩⟩)
 ·have hr':(Sem.setObj r o (Sem.pure ())).runT P v es=(.halt q v1,es1):=hr
  simp only[Sem.runT] at hr'
  cases hb:v.heap[r]? with
  | none =>
   rw[hb] at hr'
   injection hr' with h1 _
   injection h1 with h2 _
   exact h2 ▸ .stuck _
  | some o =>
   rw[hb] at hr'
   cases o<;>first|(cases hr';done)|(injection hr' with h1 _;injection h1 with h2 _;exact h2 ▸ .stuck _)
theorem Yes.setMap {r:Nat}(hz:¬Z r)(c:Array MapEntry)(n:Nat):Ye Z P (Go.setObj r (.map c n)):=Yes.setObj hz _ fun _ _ q=>by cases q
theorem Yes.viewAt {r:Nat}{k:Option (Addr × TypeId)→Sem δ}(h0:∀x,Dead P (k (some x)))(h:¬Z r→∀x,Yes Z P R (k x)):Yes Z P R (Go.viewAt r >>= k):=by
 by_cases hz:Z r
 ·intro v w hw es
  have e:v.shape? r=none:=by unfold World.shape?;rw[hw.here _ hz];rfl
  have he:(Go.viewAt r >>= k).runT P v es=(k (some (⟨0,0,some 0⟩,0))).runT P v (es.push ⟨.obj r,false,false⟩):=by
   show (((Sem.shape r Sem.pure).bind fun x=>if x.isSome then Sem.pure none else (Sem.getObj r Sem.pure).bind fun o=>match o with|.view a t=>Sem.pure (some (a,t))|_=>Sem.pure none).bind k).runT P v es=_
   simp only[Sem.bind,Sem.runT,e,hw.here _ hz,window,Option.isSome_none,Bool.false_eq_true,if_false]
   rfl
  exact yes_at_dead (h0 _) hw he
 ·refine Ye.bind ?_ (h hz)
  unfold Go.viewAt
  refine Ye.bind (.shape_off hz) fun x=>?_
  split
  ·exact .pure trivial
  ·exact Ye.bind (.getObj_off hz) fun o=>by split<;>exact .pure trivial
theorem Yes.noView (a:Addr):Yes Z P (fun _=>¬Z a.block) (Go.noView a):=by
 unfold Go.noView
 refine Yes.viewAt (fun x=>?_) fun hz x=>?_
 ·exact .unsupported _
 ·split
  ·exact .unsupported _
  ·exact .pure hz
theorem Yes.numberAt (r:Nat):Ye Z P (Go.numberAt r):=by
 by_cases hz:Z r
 ·intro v w hw es
  have e:v.shape? r=none:=by unfold World.shape?;rw[hw.here _ hz];rfl
  have ex:∀w es,(Go.numberAt r).runT P w es=((Sem.shape r Sem.pure).bind fun x=>if x.isSome then Sem.pure none else (Sem.getObj r Sem.pure).bind fun o=>match o with|.number a lost=>Sem.pure (some (a,lost))|_=>Sem.pure none).runT P w es:=fun _ _=>rfl
  have e1:(Go.numberAt r).runT P v es=(.ok none v,es.push ⟨.obj r,false,false⟩):=by
   rw[ex]
   simp only[Sem.bind,Sem.runT,e,hw.here _ hz,window,Option.isSome_none,Bool.false_eq_true,if_false]
   rfl
  refine⟨fun u v1 es1 hr=>⟨trivial,fun es'=>?_⟩,fun q v1 es1 hr=>soft_ok hr e1⟩
  rw[e1] at hr
  injection hr with h1 h2
  injection h1 with h3 h4
  subst h3 h4
  obtain⟨c,t,hc|⟨hg,hc⟩⟩:=hw.there _ hz
  ·have e2:w.shape? r=some (t,c.size):=by unfold World.shape?;rw[hc]
   refine⟨w,#[],?_,.refl hw⟩
   rw[ex]
   simp only[Sem.bind,Sem.runT,e2,Option.isSome_some,if_true,Array.append_empty]
  ·have e2:w.shape? r=none:=by unfold World.shape?;rw[hc]
   refine⟨w,#[⟨.obj r,false,false⟩],?_,⟨hw,fun e he=>by simp at he;subst he;exact .obj r false false hg (hw.lt hz),Nat.le_refl _,fun _ _=>rfl⟩⟩
   rw[ex]
   simp only[Sem.bind,Sem.runT,e2,hc,Option.isSome_none,Bool.false_eq_true,if_false]
   exact Prod.ext rfl Array.push_eq_append
 ·unfold Go.numberAt
  refine Ye.bind (.shape_off hz) fun x=>?_
  split
  ·exact .pure trivial
  ·exact Ye.bind (.getObj_off hz) fun o=>by split<;>exact .pure trivial
theorem Yes.behindNumber (n:Addr):Ye Z P (Go.behindNumber n):=by
 unfold Go.behindNumber
 exact Ye.bind (.numberAt _) fun _=>.pure trivial
theorem ye_stringish {a:Addr}(hz:¬Z a.block):Ye Z P (Go.stringish a):=by
 unfold Go.stringish
 refine Ye.bind (.frozen a) fun b=>?_
 split
 ·exact .pure trivial
 ·refine Ye.bind (.shape_off hz) fun x=>?_
  split
  ·exact .frozen _
  ·exact .pure trivial
theorem ye_mayBeOne {a b:Addr}(ha:¬Z a.block)(hb:¬Z b.block):Ye Z P (Go.mayBeOne a b):=by
 unfold Go.mayBeOne
 dsimp only
 refine Ye.bind (ye_stringish ha) fun sa=>Ye.bind (ye_stringish hb) fun sb=>?_
 have hn:∀ {x:Addr},¬Z x.block→Ye Z P (do Pure.pure ((← Go.shape x.block) matches some (_,0)):Sem Bool):=fun hx=>Ye.bind (.shape_off hx) fun _=>.pure trivial
 exact Ye.bind (hn ha) fun _=>Ye.bind (hn hb) fun _=>.pure trivial
theorem ye_sameAddr (a b:Addr):Ye Z P (Go.sameAddr a b):=by
 unfold Go.sameAddr
 split
 ·exact .pure trivial
 ·refine Ye.bind (.frozen a) fun x=>Ye.bind (.frozen b) fun y=>?_
  split
  ·exact .dead (Dead.bindL (.unsupported _))
  ·refine Yes.bind (.noView a) fun _ ha=>Yes.bind (.noView b) fun _ hb=>?_
   refine Ye.bind (ye_mayBeOne ha hb) fun z=>?_
   split
   ·exact Ye.bind (.choose _) fun _=>.pure trivial
   ·exact .pure trivial
theorem ye_samePointer (a b:Option Addr):Ye Z P (Go.samePointer a b):=by
 unfold Go.samePointer
 split
 ·exact ye_sameAddr _ _
 ·exact .pure trivial
end
end Go.Proofs.YtjeicikflkjacaaGreatDoor.Po
