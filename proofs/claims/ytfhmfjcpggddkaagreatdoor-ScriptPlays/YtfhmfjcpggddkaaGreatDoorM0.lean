/- errors.As at a target of type **api.Fault, by its contracts. -/
import Derived.Test.YtfhmfjcpggddkaaGreatDoorProg
import Derived.WalkKit
import Derived.WalkLawsBesides
import Derived.WalkSpells
import Derived.LaidEql
import Derived.Stop.Asserts
import Derived.RowKitTokens
import Derived.Test.YtfhmfjcpggddkaaGreatDoorRows
import Derived.ProofKit
import Derived.LaidMore
import Derived.OpenShut
import Derived.Stop.Joined
import Derived.Stop.LaidErr
import Derived.LaidLaws
import Derived.LaidHandle
namespace Go.Proofs.YtfhmfjcpggddkaaGreatDoor
open Go.RowKit Go.Extern.Stop Go.Stop Go.Extern
theorem lt_of_cell {w:World}{a:Addr}{v:Value}(h:w.cell? a=some v):a.block<w.heap.size:=by
 rcases Nat.lt_or_ge a.block w.heap.size with h'|h'
 ·exact h'
 ·simp[World.cell?,Array.getElem?_eq_none h'] at h
theorem below_cell {w w':World}(hb:Below w.heap.size w w'){p:Addr}{v:Value}(h:w.cell? p=some v):w'.cell? p=some v:=by
 rw[hb.cell (lt_of_cell h)];exact h
end Go.Proofs.YtfhmfjcpggddkaaGreatDoor
namespace Go.Proofs.YtfhmfjcpggddkaaGreatDoor
open Go.ChangeShapes Go.WideShapes Go.ChangeAt Go.RowKit
theorem own:ownKnob Tryz.prog.godebug=none:=by kernel_rfl
def sentList (l : List (String × List UInt8)) : List (String × DataW Unit) := l.map fun x => (x.1, .iface "*errors.errorString" (.ptr (.agg [.lit (.string x.2)])))
def placeOf (a:Addr):MemPlace:=.cell a.block a.off
theorem sents_of {P:Program}{W:World}{ti tp te ts:TypeId}{ms:Array (String × TypeId)}{f:Field}
  (hi : P.underlying ti = some (.interface ms)) (hrow : ∀ u, P.typeName? 3 u = some "*errors.errorString" → u = tp)
  (hp:P.underlying tp=some (.pointer te)) (he:P.underlying te=some (.struct #[f])) (hft:f.type=ts) (hfo:f.offset=0) (hs:P.underlying ts=some .string) (hc:P.cellsOf te=1) (hcs:P.cellsOf ts=1)
  (all:List MemPlace) (hrows:∀b off,MemPlace.cell b off∈all→(∃c t,W.heap[b]?=some (.cells c t (0,0)))∧∀u v,W.cell? ⟨b,off,none⟩=some (.iface u v)→Value.okWide P W .any 0 u v) :
  ∀(l:List (String × List UInt8)) (ps:List MemPlace),(∀x∈l,∃g,P.globalNamed x.1=some g∧(P.globals[g]?).map (·.type)=some ti)→(∀m∈ps,m∈all) →
   DataW.LaidVars P W (sentList l) ps →
   ∃ads:List Addr,ads.length=l.length∧(ads.map placeOf).Sublist ps∧∀i (h:i<l.length) (h':i<ads.length),W.var? P l[i].1=some #[.iface tp (.pointer (some ads[i]))]
 | [],ps,_,_,_=>⟨[],rfl,by simp,fun i h=>by simp at h⟩
 | x :: r,ps,hg,hin,hl=>by
  obtain⟨g,t,cs,fuel,p,q,h1,h2,h3,h4,h5,rfl⟩:=hl
  obtain⟨g',hg1,hg2⟩:=hg x (List.mem_cons_self ..)
  obtain rfl:=Option.some.inj (hg1.symm.trans h1)
  obtain rfl:=Option.some.inj (hg2.symm.trans h2)
  obtain⟨l0⟩:=cs
  have ok0:∀u v,l0=[.iface u v]→Value.okWide P W .any 0 u v:=fun u v e=>by
   subst e
   exact (hrows g' 0 (hin _ (by simp[MemPlace.row]))).2 u v (by simpa using World.var?_cell h1 h3 0)
  obtain⟨a,s,rfl,_,_,_,rfl⟩:=errorString_of_trod hi hrow hp he hft hfo hs hc hcs h4 ok0
  obtain⟨ads,e1,e2,e3⟩:=sents_of hi hrow hp he hft hfo hs hc hcs all hrows r q (fun y hy=>hg y (List.mem_cons_of_mem _ hy)) (fun m hm=>hin m (List.mem_append_right _ hm)) h5
  refine⟨a :: ads,by simp[e1],?_,?_⟩
  ·have:MemPlace.row a 1=[placeOf a]:=by simp[MemPlace.row,placeOf]
   rw[this,List.append_assoc]
   exact (List.Sublist.cons_cons _ e2).trans (List.sublist_append_right _ _)
  ·intro i h h'
   cases i with
   | zero=>exact h3
   | succ i=>exact e3 i (by simpa using h) (by simpa using h')
theorem star : "*errors.errorString" = "*" ++ "errors.errorString" := by decide
theorem rowE (u : TypeId) (h : Tryz.prog.typeName? 3 u = some "*errors.errorString") : u = 378 :=
 typeName_ptr_named (nm := "errors.errorString") (by rw [← star]; kernel_rfl) (by kernel_rfl) (by decide) u (by rw [← star]; exact h)
theorem cellsE:Tryz.prog.cellsOf 380=1:=by kernel_rfl
theorem cellsS:Tryz.prog.cellsOf 9=1:=by kernel_rfl
theorem laidOut:laidOutB Tryz.prog=true:=by kernel_rfl
end Go.Proofs.YtfhmfjcpggddkaaGreatDoor
namespace Go.Proofs.YtfhmfjcpggddkaaGreatDoor
open Go.RowKit
theorem laidVars_take {P:Program}{w:World}:∀(xs ys:List (String × DataW Unit)) (ps:List MemPlace),DataW.LaidVars P w (xs++ys) ps→∃p1 p2,ps=p1++p2∧DataW.LaidVars P w xs p1
 | [],ys,ps,h=>⟨[],ps,rfl,rfl⟩
 | (n,d) :: xs,ys,ps,h=>by
  obtain⟨g,t,cs,fuel,p,q,h1,h2,h3,h4,h5,rfl⟩:=h
  obtain⟨p1,p2,rfl,h6⟩:=laidVars_take xs ys q h5
  exact⟨MemPlace.row ⟨g,0,none⟩ cs.size++p++p1,p2,by simp,g,t,cs,fuel,p,p1,h1,h2,h3,h4,h6,rfl⟩
theorem laidMet_take {P:Program}{w:World}{xs ys:List (String × DataW Unit)}(h:laidMet P (xs++ys) w):laidMet P xs w:=by
 obtain⟨ps,h1,h2,h3⟩:=h
 obtain⟨p1,p2,rfl,h4⟩:=laidVars_take xs ys ps h1
 exact⟨p1,h4,(List.nodup_append.1 h2).1,fun b off hm=>h3 b off (List.mem_append_left _ hm)⟩
theorem laidMet_drop {P:Program}{w:World}:∀ {xs ys:List (String × DataW Unit)},laidMet P (xs++ys) w→laidMet P ys w
 | [],_,h=>h
 | _ :: xs,_,h=>laidMet_drop (xs:=xs) (laidMet.tail h)
theorem sentCells {l:List (String × List UInt8)}{W:World}(h:laidMet Tryz.prog (sentList l) W)(hg:∀x∈l,∃g,Tryz.prog.globalNamed x.1=some g∧(Tryz.prog.globals[g]?).map (·.type)=some 25) :
  ∃ads:List Addr,ads.length=l.length∧∀i (hi:i<l.length) (g:Nat),Tryz.prog.globalNamed (l[i]).1=some g→W.cell? ⟨g,0,none⟩=some (.iface 378 (.pointer (some (ads.getD i default)))):=by
 obtain⟨ps,hl,_,hrows⟩:=h
 obtain⟨ads,el,_,hv⟩:=sents_of Tryz.underlying25 rowE Tryz.underlying378 Tryz.underlying380 rfl rfl Tryz.underlying9 cellsE cellsS ps hrows l ps hg (fun _ hm=>hm) hl
 refine⟨ads,el,fun i hi g hgn=>?_⟩
 have:=hv i hi (by omega)
 have hd:ads.getD i default=ads[i]'(by omega):=by rw[List.getD_eq_getElem?_getD,List.getElem?_eq_getElem (by omega)];rfl
 rw[hd]
 simpa using World.var?_cell hgn this 0
end Go.Proofs.YtfhmfjcpggddkaaGreatDoor
