/- abreast, called beside leavers. -/
import Derived.Test.YtjeicikflkjacaaGreatDoorM45
import Derived.Test.YtjeicikflkjacaaGreatDoorM1
import Derived.Test.YtjeicikflkjacaaGreatDoorM3
import Derived.Test.YtjeicikflkjacaaGreatDoorM10
import Derived.Test.YtjeicikflkjacaaGreatDoorM5
import Derived.Test.YtjeicikflkjacaaGreatDoorM0
import Derived.Maps.AppendAt
import Derived.Test.YtjeicikflkjacaaGreatDoorM2
import Derived.Laws.AppendOwnNone
set_option linter.unusedSimpArgs false
set_option linter.unusedVariables false
namespace Go.Proofs.YtjeicikflkjacaaGreatDoor.Sh
open Go Go.Conc Go.Conc.Lib Go.RowKit Go.ConcN
open Ms Po
open Par (Fm Gr on stopper LocIn)
noncomputable def ops5:Array Oper:=match Tryz.f5.body.getD .skip with|.seq _ (.seq (.region _ o _) _)=>o|_=>#[]
noncomputable def rest5:Code:=match Tryz.f5.body.getD .skip with|.seq _ (.seq _ c)=>c|_=>.skip
noncomputable abbrev S5 (cs:List Frame) (t:Array Value) (k:List Item):Goroutine:=G ((base 5).at ⟨t,[]⟩ k) cs
theorem rep18:(#[]++Array.replicate 18 undef:Array Value)=#[undef,undef,undef,undef,undef,undef,undef,undef,undef,undef,undef,undef,undef,undef,undef,undef,undef,undef]:=by
 rw[←Array.toList_inj]
 simp[List.replicate]
theorem enter5:Frame.enter PP 5 #[] .normal=Fm 5 #[undef,undef,undef,undef,undef,undef,undef,undef,undef,undef,undef,undef,undef,undef,undef,undef,undef,undef] [.code (Tryz.f5.body.getD .skip)] .run:=by
 have h1:PP.funcs[5]?=some Tryz.f5:=Tryz.func5
 have h2:Tryz.f5.ntmps=18:=by kernel_rfl
 have h3:Tryz.f5.body=some (Tryz.f5.body.getD .skip):=by kernel_rfl
 rw[←rep18]
 generalize hb:Tryz.f5.body.getD .skip=bd at h3
 unfold Frame.enter
 rw[h1]
 simp only[Option.map_some,Option.getD_some,Option.bind_some,h2,h3]
 rfl
section
variable {B:World→Prop} {Ev:Event→Prop} {cs:List Frame}
set_option maxRecDepth 100000 in
theorem to_build5:To PP true B Ev (fun g=>g=S5 cs #[.bool false,undef,undef,undef,undef,undef,undef,undef,undef,undef,undef,undef,undef,undef,undef,undef,undef,undef] [.inRegion ops5 [0,1,2,3,4,5,6,7,8,9],.code rest5]) (Gr (Frame.enter PP 5 #[] .normal) cs):=by
 rw[enter5]
 show To PP true B Ev _ (S5 cs #[undef,undef,undef,undef,undef,undef,undef,undef,undef,undef,undef,undef,undef,undef,undef,undef,undef,undef] [.code (Tryz.f5.body.getD .skip)])
 simp only[S5,ops5,rest5,Tryz.f5,Option.getD_some]
 refine To.ctl rfl (fun _ _=>stepG_seq) ?_
 refine To.ctl rfl (fun _ _=>stepG_region) ?_;simp only[List.size_toArray,List.length_cons,List.length_nil,Nat.reduceAdd,Nat.zero_add,List.range,List.range.loop]
 refine To.value _ rfl rfl (by k_ne) (fun _ _=>by go_simp<;>rfl) (fun _ _=>by first|(simp[go_sem];done)) ?_;walk_nrm
 refine To.ctl rfl (fun _ _=>stepG_region_end) ?_
 refine To.ctl rfl (fun _ _=>stepG_seq) ?_
 refine To.ctl rfl (fun _ _=>stepG_region) ?_;simp only[List.size_toArray,List.length_cons,List.length_nil,Nat.reduceAdd,Nat.zero_add,List.range,List.range.loop]
 exact To.nil rfl
set_option maxRecDepth 100000 in
theorem build5_0  (w:World):stepG PP true (S5 cs #[.bool false,undef,undef,undef,undef,undef,undef,undef,undef,undef,undef,undef,undef,undef,undef,undef,undef,undef] [.inRegion ops5 [0,1,2,3,4,5,6,7,8,9],.code rest5]) w=.go (S5 cs #[.bool false,undef,undef,undef,.slice (some ⟨w.heap.size,0,none⟩) 1 1,undef,undef,undef,undef,undef,undef,undef,undef,undef,undef,undef,undef,undef] [.inRegion ops5 [1,2,3,4,5,6,7,8,9],.code rest5]) (w.alloc (.cells #[.string ⟨#[97]⟩] 9)) #[]:=by
 have hr:∃o,ops5[0]?=some o∧Region.wanted o (yielded ops5 #[.bool false,undef,undef,undef,undef,undef,undef,undef,undef,undef,undef,undef,undef,undef,undef,undef,undef,undef])=true∧o.dst=some 4∧(execOp (Act.eval ⟨#[.bool false,undef,undef,undef,undef,undef,undef,undef,undef,undef,undef,undef,undef,undef,undef,undef,undef,undef],[]⟩) o).run PP w=.ok (.value (.slice (some ⟨w.heap.size,0,none⟩) 1 1)) (w.alloc (.cells #[.string ⟨#[97]⟩] 9))∧(execOp (Act.eval ⟨#[.bool false,undef,undef,undef,undef,undef,undef,undef,undef,undef,undef,undef,undef,undef,undef,undef,undef,undef],[]⟩) o).events PP w #[]=#[]:=by
  simp only[ops5,Tryz.f5,Option.getD_some]
  refine⟨_,rfl,rfl,rfl,?_,?_⟩
  ·go_simp
   try rfl
  ·simp[go_sem,Instr.buildSlice,newVar,newRow]
 obtain⟨o,h1,h2,h3,h4,h5⟩:=hr
 have:=stepG_value (P:=PP) (main:=true) (b:=base 5) (a:=⟨#[.bool false,undef,undef,undef,undef,undef,undef,undef,undef,undef,undef,undef,undef,undef,undef,undef,undef,undef],[]⟩) (k:=[.code rest5]) (cs:=cs) (w:=w) (w':=w.alloc (.cells #[.string ⟨#[97]⟩] 9)) (ops:=ops5) (i:=0) (rest:=[1,2,3,4,5,6,7,8,9]) h1 h2 (by k_ne) h4
 rw[S5,this]
 have hs:=congrArg (seen PP (base 5).fn) h5
 rw[seen_none] at hs
 rw[h3]
 exact congrArg (fun x=>GStep.go _ _ x) hs
set_option maxRecDepth 100000 in
theorem build5_1 (x:Nat)(w:World):stepG PP true (S5 cs #[.bool false,undef,undef,undef,.slice (some ⟨x,0,none⟩) 1 1,undef,undef,undef,undef,undef,undef,undef,undef,undef,undef,undef,undef,undef] [.inRegion ops5 [1,2,3,4,5,6,7,8,9],.code rest5]) w=.go (S5 cs #[.bool false,undef,undef,undef,.slice (some ⟨x,0,none⟩) 1 1,.slice (some ⟨w.heap.size,0,none⟩) 1 1,undef,undef,undef,undef,undef,undef,undef,undef,undef,undef,undef,undef] [.inRegion ops5 [2,3,4,5,6,7,8,9],.code rest5]) (w.alloc (.cells #[.string ⟨#[97]⟩] 9)) #[]:=by
 have hr:∃o,ops5[1]?=some o∧Region.wanted o (yielded ops5 #[.bool false,undef,undef,undef,.slice (some ⟨x,0,none⟩) 1 1,undef,undef,undef,undef,undef,undef,undef,undef,undef,undef,undef,undef,undef])=true∧o.dst=some 5∧(execOp (Act.eval ⟨#[.bool false,undef,undef,undef,.slice (some ⟨x,0,none⟩) 1 1,undef,undef,undef,undef,undef,undef,undef,undef,undef,undef,undef,undef,undef],[]⟩) o).run PP w=.ok (.value (.slice (some ⟨w.heap.size,0,none⟩) 1 1)) (w.alloc (.cells #[.string ⟨#[97]⟩] 9))∧(execOp (Act.eval ⟨#[.bool false,undef,undef,undef,.slice (some ⟨x,0,none⟩) 1 1,undef,undef,undef,undef,undef,undef,undef,undef,undef,undef,undef,undef,undef],[]⟩) o).events PP w #[]=#[]:=by
  simp only[ops5,Tryz.f5,Option.getD_some]
  refine⟨_,rfl,rfl,rfl,?_,?_⟩
  ·go_simp
   try rfl
  ·simp[go_sem,Instr.buildSlice,newVar,newRow]
 obtain⟨o,h1,h2,h3,h4,h5⟩:=hr
 have:=stepG_value (P:=PP) (main:=true) (b:=base 5) (a:=⟨#[.bool false,undef,undef,undef,.slice (some ⟨x,0,none⟩) 1 1,undef,undef,undef,undef,undef,undef,undef,undef,undef,undef,undef,undef,undef],[]⟩) (k:=[.code rest5]) (cs:=cs) (w:=w) (w':=w.alloc (.cells #[.string ⟨#[97]⟩] 9)) (ops:=ops5) (i:=1) (rest:=[2,3,4,5,6,7,8,9]) h1 h2 (by k_ne) h4
 rw[S5,this]
 have hs:=congrArg (seen PP (base 5).fn) h5
 rw[seen_none] at hs
 rw[h3]
 exact congrArg (fun x=>GStep.go _ _ x) hs
set_option maxRecDepth 100000 in
theorem build5_2 (x y:Nat)(w:World):stepG PP true (S5 cs #[.bool false,undef,undef,undef,.slice (some ⟨x,0,none⟩) 1 1,.slice (some ⟨y,0,none⟩) 1 1,undef,undef,undef,undef,undef,undef,undef,undef,undef,undef,undef,undef] [.inRegion ops5 [2,3,4,5,6,7,8,9],.code rest5]) w=.go (S5 cs #[.bool false,undef,undef,undef,.slice (some ⟨x,0,none⟩) 1 1,.slice (some ⟨y,0,none⟩) 1 1,.slice (some ⟨w.heap.size,0,none⟩) 1 1,undef,undef,undef,undef,undef,undef,undef,undef,undef,undef,undef] [.inRegion ops5 [3,4,5,6,7,8,9],.code rest5]) (w.alloc (.cells #[.string ⟨#[98]⟩] 9)) #[]:=by
 have hr:∃o,ops5[2]?=some o∧Region.wanted o (yielded ops5 #[.bool false,undef,undef,undef,.slice (some ⟨x,0,none⟩) 1 1,.slice (some ⟨y,0,none⟩) 1 1,undef,undef,undef,undef,undef,undef,undef,undef,undef,undef,undef,undef])=true∧o.dst=some 6∧(execOp (Act.eval ⟨#[.bool false,undef,undef,undef,.slice (some ⟨x,0,none⟩) 1 1,.slice (some ⟨y,0,none⟩) 1 1,undef,undef,undef,undef,undef,undef,undef,undef,undef,undef,undef,undef],[]⟩) o).run PP w=.ok (.value (.slice (some ⟨w.heap.size,0,none⟩) 1 1)) (w.alloc (.cells #[.string ⟨#[98]⟩] 9))∧(execOp (Act.eval ⟨#[.bool false,undef,undef,undef,.slice (some ⟨x,0,none⟩) 1 1,.slice (some ⟨y,0,none⟩) 1 1,undef,undef,undef,undef,undef,undef,undef,undef,undef,undef,undef,undef],[]⟩) o).events PP w #[]=#[]:=by
  simp only[ops5,Tryz.f5,Option.getD_some]
  refine⟨_,rfl,rfl,rfl,?_,?_⟩
  ·go_simp
   try rfl
  ·simp[go_sem,Instr.buildSlice,newVar,newRow]
 obtain⟨o,h1,h2,h3,h4,h5⟩:=hr
 have:=stepG_value (P:=PP) (main:=true) (b:=base 5) (a:=⟨#[.bool false,undef,undef,undef,.slice (some ⟨x,0,none⟩) 1 1,.slice (some ⟨y,0,none⟩) 1 1,undef,undef,undef,undef,undef,undef,undef,undef,undef,undef,undef,undef],[]⟩) (k:=[.code rest5]) (cs:=cs) (w:=w) (w':=w.alloc (.cells #[.string ⟨#[98]⟩] 9)) (ops:=ops5) (i:=2) (rest:=[3,4,5,6,7,8,9]) h1 h2 (by k_ne) h4
 rw[S5,this]
 have hs:=congrArg (seen PP (base 5).fn) h5
 rw[seen_none] at hs
 rw[h3]
 exact congrArg (fun x=>GStep.go _ _ x) hs
set_option maxRecDepth 100000 in
theorem build5_3 (x y z:Nat)(w:World):stepG PP true (S5 cs #[.bool false,undef,undef,undef,.slice (some ⟨x,0,none⟩) 1 1,.slice (some ⟨y,0,none⟩) 1 1,.slice (some ⟨z,0,none⟩) 1 1,undef,undef,undef,undef,undef,undef,undef,undef,undef,undef,undef] [.inRegion ops5 [3,4,5,6,7,8,9],.code rest5]) w=.go (S5 cs #[.bool false,undef,undef,undef,.slice (some ⟨x,0,none⟩) 1 1,.slice (some ⟨y,0,none⟩) 1 1,.slice (some ⟨z,0,none⟩) 1 1,.slice (some ⟨w.heap.size,0,none⟩) 2 2,undef,undef,undef,undef,undef,undef,undef,undef,undef,undef] [.inRegion ops5 [4,5,6,7,8,9],.code rest5]) (w.alloc (.cells #[.slice (some ⟨y,0,none⟩) 1 1,.slice (some ⟨z,0,none⟩) 1 1] 22)) #[]:=by
 have hr:∃o,ops5[3]?=some o∧Region.wanted o (yielded ops5 #[.bool false,undef,undef,undef,.slice (some ⟨x,0,none⟩) 1 1,.slice (some ⟨y,0,none⟩) 1 1,.slice (some ⟨z,0,none⟩) 1 1,undef,undef,undef,undef,undef,undef,undef,undef,undef,undef,undef])=true∧o.dst=some 7∧(execOp (Act.eval ⟨#[.bool false,undef,undef,undef,.slice (some ⟨x,0,none⟩) 1 1,.slice (some ⟨y,0,none⟩) 1 1,.slice (some ⟨z,0,none⟩) 1 1,undef,undef,undef,undef,undef,undef,undef,undef,undef,undef,undef],[]⟩) o).run PP w=.ok (.value (.slice (some ⟨w.heap.size,0,none⟩) 2 2)) (w.alloc (.cells #[.slice (some ⟨y,0,none⟩) 1 1,.slice (some ⟨z,0,none⟩) 1 1] 22))∧(execOp (Act.eval ⟨#[.bool false,undef,undef,undef,.slice (some ⟨x,0,none⟩) 1 1,.slice (some ⟨y,0,none⟩) 1 1,.slice (some ⟨z,0,none⟩) 1 1,undef,undef,undef,undef,undef,undef,undef,undef,undef,undef,undef],[]⟩) o).events PP w #[]=#[]:=by
  simp only[ops5,Tryz.f5,Option.getD_some]
  refine⟨_,rfl,rfl,rfl,?_,?_⟩
  ·go_simp
   try rfl
  ·simp[go_sem,Instr.buildSlice,newVar,newRow]
 obtain⟨o,h1,h2,h3,h4,h5⟩:=hr
 have:=stepG_value (P:=PP) (main:=true) (b:=base 5) (a:=⟨#[.bool false,undef,undef,undef,.slice (some ⟨x,0,none⟩) 1 1,.slice (some ⟨y,0,none⟩) 1 1,.slice (some ⟨z,0,none⟩) 1 1,undef,undef,undef,undef,undef,undef,undef,undef,undef,undef,undef],[]⟩) (k:=[.code rest5]) (cs:=cs) (w:=w) (w':=w.alloc (.cells #[.slice (some ⟨y,0,none⟩) 1 1,.slice (some ⟨z,0,none⟩) 1 1] 22)) (ops:=ops5) (i:=3) (rest:=[4,5,6,7,8,9]) h1 h2 (by k_ne) h4
 rw[S5,this]
 have hs:=congrArg (seen PP (base 5).fn) h5
 rw[seen_none] at hs
 rw[h3]
 exact congrArg (fun x=>GStep.go _ _ x) hs
noncomputable def fr5 (x y z t:Nat):Frame:=Fm 5 #[.bool false,undef,undef,undef,.slice (some ⟨x,0,none⟩) 1 1,.slice (some ⟨y,0,none⟩) 1 1,.slice (some ⟨z,0,none⟩) 1 1,.slice (some ⟨t,0,none⟩) 2 2,undef,undef,undef,undef,undef,undef,undef,undef,undef,undef] [.inRegion ops5 [4,5,6,7,8,9],.code rest5] .run
theorem fr5_finish (x y z t:Nat)(u:Value):(fr5 x y z t).finish u=Fm 5 #[.bool false,undef,undef,undef,.slice (some ⟨x,0,none⟩) 1 1,.slice (some ⟨y,0,none⟩) 1 1,.slice (some ⟨z,0,none⟩) 1 1,.slice (some ⟨t,0,none⟩) 2 2,u,undef,undef,undef,undef,undef,undef,undef,undef,undef] (.inRegion ops5 [5,6,7,8,9] :: [rest5].map Item.code) .run:=by
 have:=Frame.finish_at (b:=base 5) (a:=⟨#[.bool false,undef,undef,undef,.slice (some ⟨x,0,none⟩) 1 1,.slice (some ⟨y,0,none⟩) 1 1,.slice (some ⟨z,0,none⟩) 1 1,.slice (some ⟨t,0,none⟩) 2 2,undef,undef,undef,undef,undef,undef,undef,undef,undef,undef],[]⟩) (ops:=ops5) (i:=4) (rest:=[5,6,7,8,9]) (k:=[.code rest5]) (v:=u)
 refine this.trans ?_
 rfl
set_option maxRecDepth 100000 in
theorem to_moves5 (x y z t:Nat):To PP true B Ev (fun g=>g=Gr (Frame.enter PP 8 #[.slice (some ⟨x,0,none⟩) 1 1,.slice (some ⟨t,0,none⟩) 2 2,.int .i64 3,.int .i64 2] .normal) (fr5 x y z t :: cs)) (S5 cs #[.bool false,undef,undef,undef,.slice (some ⟨x,0,none⟩) 1 1,.slice (some ⟨y,0,none⟩) 1 1,.slice (some ⟨z,0,none⟩) 1 1,.slice (some ⟨t,0,none⟩) 2 2,undef,undef,undef,undef,undef,undef,undef,undef,undef,undef] [.inRegion ops5 [4,5,6,7,8,9],.code rest5]):=by
 simp only[fr5,S5,ops5,rest5,Tryz.f5,Option.getD_some]
 refine To.call rfl rfl (by k_ne) rfl Tryz.func8 (by kernel_rfl) (show Tryz.f8.body=some (Tryz.f8.body.getD .skip) from by kernel_rfl) ?_
 refine To.nil ?_
 rw[enter8]
 have h2:Tryz.f8.ntmps=25:=by kernel_rfl
 generalize Tryz.f8.body.getD .skip=bd
 rw[h2]
 simp only[List.map_toArray,List.map_cons,List.map_nil,List.size_toArray,List.length_cons,List.length_nil,Nat.reduceAdd,Nat.reduceSub]
 rw[rep21]
 rfl
end
theorem rest5_t:todoT lx PP 5 (.inRegion ops5 [5,6,7,8,9] :: [rest5].map Item.code):=by
 intro x hx
 simp only[List.map_cons,List.map_nil,List.mem_cons,List.not_mem_nil,or_false] at hx
 rcases hx with rfl|rfl<;>decide +kernel
set_option maxRecDepth 100000 in
set_option maxHeartbeats 4000000 in
theorem end5 (x y z t:Nat)(p:Option Addr)(c:Nat)(w:World)(hI:Ints w (.slice p 2 c) [0,3]) :
  wpOps Tryz.prog ops5 (Exit.then (Po.wpC Tryz.prog (bodyPost Tryz.prog Tryz.f5 (fun e w'=>∃u,e=.returned u∧u=.bool true∧Below w.heap.size w w')) [rest5]) (bodyPost Tryz.prog Tryz.f5 (fun e w'=>∃u,e=.returned u∧u=.bool true∧Below w.heap.size w w'))) [5,6,7,8,9] ⟨#[.bool false,undef,undef,undef,.slice (some ⟨x,0,none⟩) 1 1,.slice (some ⟨y,0,none⟩) 1 1,.slice (some ⟨z,0,none⟩) 1 1,.slice (some ⟨t,0,none⟩) 2 2,.tuple #[.slice p 2 c,.nilIface],undef,undef,undef,undef,undef,undef,undef,undef,undef],[]⟩ w:=by
 have HI:Hid (Ints w (.slice p 2 c) [0,3]):=hI
 clear hI
 have hw:∀(l:List Oper) (Q:Exit→Act→World→Prop) (A:Act),(∀j,l[j]?=ops5[5+j]?)→l.length=5→wpList Tryz.prog ops5 Q l A w→wpOps Tryz.prog ops5 Q [5,6,7,8,9] A w:=fun l Q A h1 h2 h=>by
  have:=wpOps_eq_wpList (P:=Tryz.prog) (Q:=Q) (ops:=ops5) l 5 h1
  rw[h2] at this
  have e:List.range' 5 5=[5,6,7,8,9]:=rfl
  rw[e] at this
  rw[this]
  exact h
 refine hw (ops5.toList.drop 5) _ _ (fun j=>by simp) (by simp[ops5,Tryz.f5]) ?_
 simp only[ops5,rest5,Tryz.f5,Option.getD_some,List.drop,Po.wpC]
 clear hw
 have HS:Hid (Calls Tryz.prog 13 #[.slice p 2 c,.slice (some ⟨w.heap.size,0,none⟩) 2 2] (w.alloc (.cells #[.int .i64 0,.int .i64 3] 3)) fun e w'=>e=.returned (.bool true)∧Below w.heap.size w w'):=by
  have hb:Below w.heap.size w (w.alloc (.cells #[.int .i64 0,.int .i64 3] 3)):=(Below.refl _ _).alloc (Nat.le_refl _) _
  refine (sameInts_any _ _ [0,3] [0,3] _ (HI.out.later hb) (.inr ⟨w.heap.size,0,2,rfl,fun k hk=>?_⟩) (by simp) (by simp)).mono fun e w' ⟨h1,h2⟩=>⟨by rw[h1];simp,below_then hb h2⟩
  have:k=0∨k=1:=by simp at hk;omega
  rcases this with rfl|rfl<;>simp
 go_wp2_with fail
 refine HS.out.mono ?_
 rintro e w1 ⟨rfl,hb1⟩
 clear HS HI
 go_wp2
 go_ret
 exact⟨_,rfl,rfl,hb1⟩
end Go.Proofs.YtjeicikflkjacaaGreatDoor.Sh

/- abreast, called beside leavers: it says true. -/
set_option linter.unusedSimpArgs false
set_option linter.unusedVariables false
namespace Go.Proofs.YtjeicikflkjacaaGreatDoor.Sh
open Go Go.Conc Go.Conc.Lib Go.RowKit Go.ConcN
open Ms Po
open Par (Fm Gr on stopper LocIn)
theorem nm_a:Lh.isNm ⟨#[97]⟩=true:=by decide
theorem nm_b:Lh.isNm ⟨#[98]⟩=true:=by decide
theorem mov_one {s t:ByteArray}(hs:Lh.isNm s=true)(ht:Lh.isNm t=true){c:Nat}{pl:Int}(h:MovFault [s] [t] 3 c pl):c=0:=by
 rcases h with⟨h,_⟩|⟨_,h⟩
 ·exact tabFault_one h (one_fault hs)
 ·exact tabFault_one h (one_fault ht)
noncomputable def laid5 (v:World):World:=((((v.alloc (.cells #[.string ⟨#[97]⟩] 9)).alloc (.cells #[.string ⟨#[97]⟩] 9)).alloc (.cells #[.string ⟨#[98]⟩] 9)).alloc (.cells #[.slice (some ⟨(v.heap.size+1),0,none⟩) 1 1,.slice (some ⟨(v.heap.size+2),0,none⟩) 1 1] 22))
theorem laid5_size (v:World):(laid5 v).heap.size=v.heap.size+4:=by simp[laid5]
theorem laid5_bel (v:World):Bel v.heap.size v (laid5 v):=.of (((((Below.refl _ _).alloc (Nat.le_refl _) _).alloc (by simp) _).alloc (by simp;omega) _).alloc (by simp;omega) _)
theorem laid5_get (v:World):(laid5 v).heap[v.heap.size]?=some (.cells #[.string ⟨#[97]⟩] 9)∧(laid5 v).heap[v.heap.size+1]?=some (.cells #[.string ⟨#[97]⟩] 9)∧(laid5 v).heap[v.heap.size+2]?=some (.cells #[.string ⟨#[98]⟩] 9)∧(laid5 v).heap[v.heap.size+3]?=some (.cells #[.slice (some ⟨(v.heap.size+1),0,none⟩) 1 1,.slice (some ⟨(v.heap.size+2),0,none⟩) 1 1] 22):=by
 have h:(laid5 v).heap=(((v.heap.push (.cells #[.string ⟨#[97]⟩] 9)).push (.cells #[.string ⟨#[97]⟩] 9)).push (.cells #[.string ⟨#[98]⟩] 9)).push (.cells #[.slice (some ⟨(v.heap.size+1),0,none⟩) 1 1,.slice (some ⟨(v.heap.size+2),0,none⟩) 1 1] 22):=rfl
 rw[h]
 refine⟨?_,?_,?_,?_⟩
 all_goals
  simp only[Array.getElem?_push,Array.size_push]
  repeat (first|rw[if_neg (by omega)])
  rw[if_pos trivial]
def ys5 (i:Nat):List ByteArray:=if i=0 then [⟨#[97]⟩] else [⟨#[98]⟩]
noncomputable def vb5 (b i:Nat):Value:=if i=0 then .slice (some ⟨b+1,0,none⟩) 1 1 else .slice (some ⟨b+2,0,none⟩) 1 1
theorem row_one {v:World}{b:Nat}{s:ByteArray}{ty:TypeId}{f:Nat × Nat}(h:v.heap[b]?=some (.cells #[.string s] ty f)):Row0 v (.slice (some ⟨b,0,none⟩) 1 1) [s]:=.inr ⟨b,1,_,_,_,rfl,by simp,h,fun k hk=>by
 have:k=0:=by simpa using hk
 subst this
 rfl⟩
theorem two {i:Nat}(h:i<2):i=0∨i=1:=by omega
set_option maxHeartbeats 4000000 in
theorem abreast_rch (a:Nat→Addr){v:World}(he:Errs a v)(hG:PP.globals.size≤v.heap.size)(c:Frame)(cs:List Frame):Rch (Gr (Frame.enter PP 5 #[] .normal) (c :: cs)) v (fun g' v'=>g'=Gr (c.finish (.bool true)) cs∧Bel v.heap.size v v'):=by
 refine (Rch.to to_build5).bind ?_
 rintro g1 v1 ⟨rfl,rfl⟩
 refine (Rch.alloc (fun b=>S5 (c :: cs) #[.bool false,undef,undef,undef,.slice (some ⟨b,0,none⟩) 1 1,undef,undef,undef,undef,undef,undef,undef,undef,undef,undef,undef,undef,undef] [.inRegion ops5 [1,2,3,4,5,6,7,8,9],.code rest5]) rfl (fun w=>build5_0 w)).bind ?_
 rintro g2 v2 ⟨rfl,rfl⟩
 refine (Rch.alloc (fun b=>S5 (c :: cs) #[.bool false,undef,undef,undef,.slice (some ⟨v1.heap.size,0,none⟩) 1 1,.slice (some ⟨b,0,none⟩) 1 1,undef,undef,undef,undef,undef,undef,undef,undef,undef,undef,undef,undef] [.inRegion ops5 [2,3,4,5,6,7,8,9],.code rest5]) rfl (fun w=>build5_1 v1.heap.size w)).bind ?_
 rintro g3 v3 ⟨e3,rfl⟩
 have z3:(v1.alloc (.cells #[.string ⟨#[97]⟩] 9)).heap.size=v1.heap.size+1:=by simp
 rw[z3] at e3
 subst e3
 refine (Rch.alloc (fun b=>S5 (c :: cs) #[.bool false,undef,undef,undef,.slice (some ⟨v1.heap.size,0,none⟩) 1 1,.slice (some ⟨(v1.heap.size+1),0,none⟩) 1 1,.slice (some ⟨b,0,none⟩) 1 1,undef,undef,undef,undef,undef,undef,undef,undef,undef,undef,undef] [.inRegion ops5 [3,4,5,6,7,8,9],.code rest5]) rfl (fun w=>build5_2 v1.heap.size (v1.heap.size+1) w)).bind ?_
 rintro g4 v4 ⟨e4,rfl⟩
 have z4:((v1.alloc (.cells #[.string ⟨#[97]⟩] 9)).alloc (.cells #[.string ⟨#[97]⟩] 9)).heap.size=v1.heap.size+2:=by simp
 rw[z4] at e4
 subst e4
 refine (Rch.alloc (fun b=>S5 (c :: cs) #[.bool false,undef,undef,undef,.slice (some ⟨v1.heap.size,0,none⟩) 1 1,.slice (some ⟨(v1.heap.size+1),0,none⟩) 1 1,.slice (some ⟨(v1.heap.size+2),0,none⟩) 1 1,.slice (some ⟨b,0,none⟩) 2 2,undef,undef,undef,undef,undef,undef,undef,undef,undef,undef] [.inRegion ops5 [4,5,6,7,8,9],.code rest5]) rfl (fun w=>build5_3 v1.heap.size (v1.heap.size+1) (v1.heap.size+2) w)).bind ?_
 rintro g5 v5 ⟨e5,e5'⟩
 have z5:(((v1.alloc (.cells #[.string ⟨#[97]⟩] 9)).alloc (.cells #[.string ⟨#[97]⟩] 9)).alloc (.cells #[.string ⟨#[98]⟩] 9)).heap.size=v1.heap.size+3:=by simp
 rw[z5] at e5
 subst e5
 obtain rfl:v5=laid5 v1:=e5'
 refine (Rch.to (to_moves5 v1.heap.size (v1.heap.size+1) (v1.heap.size+2) (v1.heap.size+3))).bind ?_
 rintro g6 v6 ⟨rfl,rfl⟩
 have hb4:=laid5_bel v1
 obtain⟨q0,q1,q2,q3⟩:=laid5_get v1
 have hz:=laid5_size v1
 refine (moves_rch a (.slice (some ⟨v1.heap.size,0,none⟩) 1 1) (.slice (some ⟨(v1.heap.size+3),0,none⟩) 2 2) 2 (vb5 v1.heap.size) [⟨#[97]⟩] ys5 3 2 (errs_bel he hb4) (row_one q0) (.inr ⟨_,_,_,_,_,rfl,q3,fun i hi=>?_⟩) (fun i hi=>?_) ⟨by omega,fun k hk=>?_,fun i hi k hk=>?_,by simp,fun i hi=>?_⟩ (by omega) (by omega) (fr5 v1.heap.size (v1.heap.size+1) (v1.heap.size+2) (v1.heap.size+3)) (c :: cs)).bind ?_
 ·rcases two hi with rfl|rfl<;>rfl
 ·rcases two hi with rfl|rfl
  ·exact row_one q1
  ·exact row_one q2
 ·have:k=0:=by simpa using hk
  subst this
  show ByteArray.size ⟨#[97]⟩≤300
  decide
 ·rcases two hi with rfl|rfl
  ·have:k=0:=by simpa [ys5] using hk
   subst this
   show ByteArray.size ⟨#[97]⟩≤300
   decide
  ·have:k=0:=by simpa [ys5] using hk
   subst this
   show ByteArray.size ⟨#[98]⟩≤300
   decide
 ·rcases two hi with rfl|rfl<;>simp[ys5]
 rintro g7 v7 ⟨u,rfl,hb7,hS⟩
 have hc0:chkN ((2:Nat):Int) 100 2=0:=by decide
 rcases hS with⟨h,_⟩|⟨_,ks,cs_,pl,hg,hA⟩
 ·exact absurd hc0 h
 have h0:=hg 0 (by omega)
 have h1:=hg 1 (by omega)
 have c0:cs_ 0=0:=mov_one nm_a nm_a h0.1
 have c1:cs_ 1=0:=mov_one nm_a nm_b h1.1
 have k0:ks 0=0:=by
  obtain⟨m,e,hk⟩:=h0.2 c0
  obtain rfl:m=3:=by omega
  rw[hk]
  show ((mv [⟨#[97]⟩] [⟨#[97]⟩] 3 3:Nat):Int)=0
  rw[mv_one_same]
  rfl
 have k1:ks 1=3:=by
  obtain⟨m,e,hk⟩:=h1.2 c1
  obtain rfl:m=3:=by omega
  rw[hk]
  show ((mv [⟨#[97]⟩] [⟨#[98]⟩] 3 3:Nat):Int)=3
  rw[mv_one_other (by decide)]
  rfl
 rcases hA with⟨_,x,rfl,hown⟩|⟨j,hj,_,hne,_⟩
 rotate_left
 ·rcases two hj with rfl|rfl
  ·exact absurd c0 hne
  ·exact absurd c1 hne
 have hI:Ints v7 x [0,3]:=by
  have:=ints_of_owns hown
  rw[show (List.range 2).map ks=[0,3] by simp[List.range,List.range.loop,k0,k1]] at this
  exact this
 obtain⟨p,cc,rfl⟩:=hI.slice
 rw[fr5_finish]
 refine (Rch.tail0 (R:=fun u v'=>u=.bool true∧Bel v7.heap.size v7 v') ⟨_,Tryz.func5⟩ (fun s hs=>by cases hs) rest5_t (fun τ d=>by
  obtain⟨fr,v',u',_,h1,h2,h3,h4⟩:=region_leaves (R:=fun u w'=>u=.bool true∧Below v7.heap.size (on v7 τ d) w') Tryz.func5 (end5 v1.heap.size (v1.heap.size+1) (v1.heap.size+2) (v1.heap.size+3) p cc (on v7 τ d) hI)
  exact⟨fr,v',u',h1,h2,h3,.ofOn h4⟩)).mono ?_
 rintro g8 v8 ⟨u,rfl,rfl,hb8⟩
 exact⟨rfl,hb4.trans (hb7.trans hb8 hb7.size) hb4.size⟩
end Go.Proofs.YtjeicikflkjacaaGreatDoor.Sh

/- Keys, faults and workers: small contracts for the laws of stage 12. -/
namespace Go.Proofs.YtjeicikflkjacaaGreatDoor.Sh
open Go.RowKit
open Ms
set_option maxHeartbeats 1000000 in
theorem faulted3_is {a:Nat→Addr}{W:World}{c:Nat}{pl:Int}{v:Value}(he:Errs a W)(h:ErrIs a W c pl v) :
  Calls Tryz.prog 12 #[v,.agg #[.int .i64 c,.int .i64 pl]] W fun e w'=>e=.returned (.bool true)∧Below W.heap.size W w':=by
 have hba:Below W.heap.size W (W.alloc (.cells #[.int .i64 c,.int .i64 pl] 33)):=(Below.refl _ _).alloc (Nat.le_refl _) _
 have hc:=code_is (he.later hba) (h.later hba)
 go_enter Tryz.func12,Tryz.ntmps12
 go_wp2_with fail
 refine hc.mono ?_
 rintro e w1 ⟨rfl,hb1⟩
 have c0:w1.cell? ⟨W.heap.size,0,none⟩=some (.int .i64 c):=below_cell hb1 (by simp)
 have c1:w1.cell? ⟨W.heap.size,1,none⟩=some (.int .i64 pl):=below_cell hb1 (by simp)
 have hbz:Below W.heap.size W w1:=hba.trans (hb1.mono (by simp))
 clear hb1 hba hc
 cases hz:((c:Int)==0) with
 | true =>
  go_wp2
  go_ret
  exact⟨rfl,hbz⟩
 | false =>
  go_wp2
  go_ret
  exact⟨by simp,hbz⟩
theorem cells_both {W:World}{b:Nat}{x y x0 y0:Value}(c0:W.cell? ⟨b,0,none⟩=some x0)(c1:W.cell? ⟨b,1,none⟩=some y0):((W.setCell ⟨b,0,none⟩ x).setCell ⟨b,1,none⟩ y).cell? ⟨b,0,none⟩=some x∧((W.setCell ⟨b,0,none⟩ x).setCell ⟨b,1,none⟩ y).cell? ⟨b,1,none⟩=some y:=by
 exact⟨by simp[go_sem,c0],by simp[go_sem,c1]⟩
set_option maxHeartbeats 1000000 in
theorem workersFault_any (wk N most:Int)(w:World):Calls Tryz.prog 9 #[.int .i64 wk,.int .i64 N,.int .i64 most] w fun e w'=>e=.returned (.agg #[.int .i64 (chkN N most wk:Nat),.int .i64 (-1)])∧Below w.heap.size w w':=by
 have hba:Below w.heap.size w (w.alloc (.cells #[.int .i64 0,.int .i64 0] 33)):=(Below.refl _ _).alloc (Nat.le_refl _) _
 have B3:Hid (Calls Tryz.prog 21 #[.int .i64 3] (w.alloc (.cells #[.int .i64 0,.int .i64 0] 33)) fun e w'=>e=.returned (.agg #[.int .i64 3,.int .i64 (-1)])∧Below (w.alloc (.cells #[.int .i64 0,.int .i64 0] 33)).heap.size (w.alloc (.cells #[.int .i64 0,.int .i64 0] 33)) w'):=bare_any 3 _
 have B2:Hid (Calls Tryz.prog 21 #[.int .i64 2] (w.alloc (.cells #[.int .i64 0,.int .i64 0] 33)) fun e w'=>e=.returned (.agg #[.int .i64 2,.int .i64 (-1)])∧Below (w.alloc (.cells #[.int .i64 0,.int .i64 0] 33)).heap.size (w.alloc (.cells #[.int .i64 0,.int .i64 0] 33)) w'):=bare_any 2 _
 have B0:Hid (Calls Tryz.prog 22 #[] (w.alloc (.cells #[.int .i64 0,.int .i64 0] 33)) fun e w'=>e=.returned (.agg #[.int .i64 0,.int .i64 (-1)])∧Below (w.alloc (.cells #[.int .i64 0,.int .i64 0] 33)).heap.size (w.alloc (.cells #[.int .i64 0,.int .i64 0] 33)) w'):=fine_any _
 have fin:∀ {w1:World} {x y:Value},Below (w.alloc (.cells #[.int .i64 0,.int .i64 0] 33)).heap.size (w.alloc (.cells #[.int .i64 0,.int .i64 0] 33)) w1→w1.cell? ⟨w.heap.size,0,none⟩=some (.int .i64 0)∧w1.cell? ⟨w.heap.size,1,none⟩=some (.int .i64 0)∧w1.frozen? ⟨w.heap.size,0,none⟩=false∧w1.frozen? ⟨w.heap.size,1,none⟩=false∧Below w.heap.size w w1:=fun hb=>⟨below_cell hb (by simp),below_cell hb (by simp),by rw[hb.frozen (by simp)];simp,by rw[hb.frozen (by simp)];simp,hba.trans (hb.mono (by simp))⟩
 by_cases hw1:wk<1
 ·rw[show chkN N most wk=3 by simp[chkN,hw1]]
  go_enter Tryz.func9,Tryz.ntmps9
  go_wp2_with fail
  refine B3.out.mono ?_
  rintro e w1 ⟨rfl,hb1⟩
  obtain⟨c0,c1,f0,f1,hb⟩:=fin (x:=undef) (y:=undef) hb1
  clear hb1
  go_wp2
  have hh:=cells_both (x:=.int .i64 3) (y:=.int .i64 (-1)) c0 c1
  exact bodyPost_ret (v:=.agg #[.int .i64 3,.int .i64 (-1)]) (by simp[results,Tryz.results9,go_sem,hh.1,hh.2]) rfl ⟨rfl,(hb.setCell (Nat.le_refl _) _).setCell (Nat.le_refl _) _⟩
 ·by_cases hw2:16<wk
  ·rw[show chkN N most wk=3 by simp[chkN,hw2]]
   go_enter Tryz.func9,Tryz.ntmps9
   go_wp2_with fail
   refine B3.out.mono ?_
   rintro e w1 ⟨rfl,hb1⟩
   obtain⟨c0,c1,f0,f1,hb⟩:=fin (x:=undef) (y:=undef) hb1
   clear hb1
   go_wp2
   have hh:=cells_both (x:=.int .i64 3) (y:=.int .i64 (-1)) c0 c1
   exact bodyPost_ret (v:=.agg #[.int .i64 3,.int .i64 (-1)]) (by simp[results,Tryz.results9,go_sem,hh.1,hh.2]) rfl ⟨rfl,(hb.setCell (Nat.le_refl _) _).setCell (Nat.le_refl _) _⟩
  ·by_cases hm:most<N
   ·rw[show chkN N most wk=2 by simp[chkN,hw1,hw2,hm]]
    go_enter Tryz.func9,Tryz.ntmps9
    go_wp2_with fail
    refine B2.out.mono ?_
    rintro e w1 ⟨rfl,hb1⟩
    obtain⟨c0,c1,f0,f1,hb⟩:=fin (x:=undef) (y:=undef) hb1
    clear hb1
    go_wp2
    have hh:=cells_both (x:=.int .i64 2) (y:=.int .i64 (-1)) c0 c1
    exact bodyPost_ret (v:=.agg #[.int .i64 2,.int .i64 (-1)]) (by simp[results,Tryz.results9,go_sem,hh.1,hh.2]) rfl ⟨rfl,(hb.setCell (Nat.le_refl _) _).setCell (Nat.le_refl _) _⟩
   ·rw[show chkN N most wk=0 by unfold chkN;rw[if_neg (by omega),if_neg (by omega)]]
    go_enter Tryz.func9,Tryz.ntmps9
    go_wp2_with fail
    refine B0.out.mono ?_
    rintro e w1 ⟨rfl,hb1⟩
    obtain⟨c0,c1,f0,f1,hb⟩:=fin (x:=undef) (y:=undef) hb1
    clear hb1
    go_wp2
    have hh:=cells_both (x:=.int .i64 0) (y:=.int .i64 (-1)) c0 c1
    exact bodyPost_ret (v:=.agg #[.int .i64 0,.int .i64 (-1)]) (by simp[results,Tryz.results9,go_sem,hh.1,hh.2]) rfl ⟨rfl,(hb.setCell (Nat.le_refl _) _).setCell (Nat.le_refl _) _⟩
end Go.Proofs.YtjeicikflkjacaaGreatDoor.Sh

/- SideBuckets: behind side.Buckets' return. -/
set_option linter.unusedSimpArgs false
set_option linter.unusedVariables false
namespace Go.Proofs.YtjeicikflkjacaaGreatDoor.Sh
open Go Go.Conc Go.Conc.Lib Go.RowKit Go.ConcN
open Ms Po
open Par (Fm Gr on stopper LocIn)
def Says (w:World)(e:Ending)(w':World):Prop:=∃u,e=.returned u∧u=.bool true∧Below w.heap.size w w'
end Go.Proofs.YtjeicikflkjacaaGreatDoor.Sh

/- SideBuckets: the law says true, whatever the tape, and all that was there stands. -/
set_option linter.unusedSimpArgs false
set_option linter.unusedVariables false
namespace Go.Proofs.YtjeicikflkjacaaGreatDoor.Sh
open Go Go.Conc Go.Conc.Lib Go.RowKit Go.ConcN
open Ms Po
open Par (Fm Gr on stopper LocIn)
theorem Ends.rest0 {v:World}{R:Value→World→Prop}{f:FuncId}(hf:∃fn,PP.funcs[f]?=some fn)(hi:PP.inits.idxOf? f=none){t:Array Value}(ht:SlT lx f t){k:List Item}(hk:todoT lx PP f k)(hsz:∀u v',R u v'→v.heap.size≤v'.heap.size)
  (hC:∀τ d,∃fr v' u,fr.fn=f∧Steps PP (lone (Fm f t k .run) [stopper] (on v τ d)) (lone fr [stopper] v')∧fr.leaving PP v' (.returned u)∧R u v'):Ends (Gr (Fm f t k .run) []) v R:=by
 have:=Ends.rest (v:=v) (R:=R) hf hi ht hk (G:=[]) (K:=[]) .plain hsz (by rw[List.append_nil];exact hC)
 rw[List.append_nil] at this
 exact this
def Yea (v:World)(u:Value)(v':World):Prop:=u=.bool true∧Bel v.heap.size v v'
theorem Ends.mono {g:Goroutine}{v:World}{R R':Value→World→Prop}(h:Ends g v R)(k:∀u v',R u v'→R' u v'):Ends g v R':=fun Zg gs w sl t q τ d M h0 hv=>by
 obtain⟨N,last,o,w',t',e2,e3,e4,u,ho,⟨Z2,v2,τ2,d2,k2,hv2,hr⟩,rest⟩:=h Zg gs w sl t q τ d M h0 hv
 exact⟨N,last,o,w',t',e2,e3,e4,u,ho,⟨Z2,v2,τ2,d2,k2,hv2,k _ _ hr⟩,rest⟩
theorem Yea.from {v v6:World}(hb:Bel v.heap.size v v6){u:Value}{v':World}(h:Yea v6 u v'):Yea v u v':=⟨h.1,hb.trans h.2 hb.size⟩
end Go.Proofs.YtjeicikflkjacaaGreatDoor.Sh

/- LongHosts of a short list; of any list. -/
namespace Go.Proofs.YtjeicikflkjacaaGreatDoor
open Go.RowKit
def Short (xs:List ByteArray):Prop:=xs.length≤30∧∀k (h:k<xs.length),(xs[k]).size≤60
set_option maxHeartbeats 1000000 in
theorem long_short0 (b o cap:Nat)(xs:List ByteArray)(w:World)(hx:∀k (h:k<xs.length),w.cell? ⟨b,o+k,none⟩=some (.string xs[k]))(hs:Short xs) :
  Calls Tryz.prog 6 #[.slice (some ⟨b,o,none⟩) xs.length cap] w fun e w'=>e=.returned (.int .i64 0)∧w'=w:=by
 obtain⟨h30,hs⟩:=hs
 have HX:Hid (∀k (h:k<xs.length),w.cell? ⟨b,o+k,none⟩=some (.string xs[k])):=hx
 have HS:Hid (∀k (h:k<xs.length),(xs[k]).size≤60):=hs
 have e30:decide (30<(xs.length:Int))=false:=by simp;omega
 clear hx hs
 go_enter Tryz.func6,Tryz.ntmps6
 go_wp2
 go_loop [3] (fun t=>∃k:Nat,k≤xs.length∧t=.int .i64 k) (fun t=>xs.length - (intOf t).toNat)
 case atStart=>exact⟨0,Nat.zero_le _,rfl⟩
 case round =>
  obtain⟨k,hk,rfl⟩:=hrel
  by_cases hlt:k<xs.length
  ·have cx:=HX.out k hlt
   have hsz:=HS.out k hlt
   have e60:decide (60<((xs[k]).size:Int))=false:=by simp;omega
   go_wp2
   go_round
   case rel=>exact⟨k+1,by omega,by go_num⟩
   case measure=>simp[intOf];omega
  ·go_wp2
   go_ret
   exact⟨rfl,rfl⟩
theorem long_short (v:Value)(xs:List ByteArray)(w:World)(hv:Strs w v xs)(hs:Short xs) :
  Calls Tryz.prog 6 #[v] w fun e w'=>e=.returned (.int .i64 0)∧w'=w:=by
 rcases hv with⟨rfl,p,cap,rfl⟩|⟨b,o,cap,rfl,hcap,hx⟩
 ·exact long_zero p cap w
 ·exact long_short0 b o cap xs w hx hs
theorem long_not (v:Value)(xs:List ByteArray)(w:World)(hv:Strs w v xs)(hsz:∀k (h:k<xs.length),(xs[k]).size≤maxLen)(hm:xs.length≤maxLen)(hs:¬Short xs) :
  Calls Tryz.prog 6 #[v] w fun e w'=>e=.returned (.int .i64 1)∧w'=w :=
 (long_any v xs w hv hsz hm).mono fun _ _ ⟨h1,h2⟩=>⟨by
  rcases h1 with h1|⟨_,h3,h4⟩
  ·exact h1
  ·exact absurd ⟨h3,h4⟩ hs,h2⟩
end Go.Proofs.YtjeicikflkjacaaGreatDoor

/- The ring of points, pure: rotated it is sorted from a place on; different hosts in order; what goes, what comes. -/
namespace Go.Proofs.YtjeicikflkjacaaGreatDoor
namespace Lh
abbrev Pt:=Nat × ByteArray
def bl (s:ByteArray):List UInt8:=s.data.toList
/- the points of hosts -/
/- rotated -/
def cut (f:Nat)(P:List Pt):Nat:=P.countP fun p=>!decide (f≤p.1)
def start (f:Nat)(P:List Pt):Nat:=if cut f P=P.length then 0 else cut f P
/- different hosts in order -/
instance memD (s:ByteArray) (out:List ByteArray):Decidable (s∈out) :=
 if h:mem s out=true then .isTrue (by
  unfold mem at h
  rw[List.any_eq_true] at h
  obtain⟨x,hx,e⟩:=h
  have:=of_decide_eq_true e
  exact this ▸ hx) else .isFalse (fun k=>h (mem_true k))
def dd (out:List ByteArray):List Pt→List ByteArray
 | []=>out
 | r :: R=>if r.2∈out then dd out R else dd (out++[r.2]) R
end Lh
/- the order of the sort -/
end Go.Proofs.YtjeicikflkjacaaGreatDoor

/- Small things that rings and rivals share: a list without a fault, errors, texts and keys in memory. -/
namespace Go.Proofs.YtjeicikflkjacaaGreatDoor
open Go.RowKit
set_option maxHeartbeats 1000000 in
theorem ownTexts_own (v:Value)(xs:List ByteArray)(w:World)(hv:Strs1 w v xs)(hm:xs.length<1000000) :
  Calls Tryz.prog 7 #[v] w fun e w'=>∃v',e=.returned v'∧w'.ownsRow w.heap.size 9 1 v' xs.length (xs.map Value.string)∧Below w.heap.size w w':=by
 obtain⟨i,hi,hz0,hz1,hz2⟩:=info_parts infoS
 have hmax:0+xs.length≤maxLen:=by unfold maxLen;omega
 rcases hv with⟨rfl,rfl|⟨ad,c,rfl⟩⟩|⟨b,o,c,rfl,hcap,hx⟩
 ·go_enter Tryz.func7,Tryz.ntmps7
  go_wp2_with (at_builtin;refine wpList_append_own_none rfl _ _ 22 rfl w.heap.size 9 i 1 Tryz.underlying22 hi (.slice none 0 0) 0 _ rfl (owns_nil w _ _) rfl ?_)
  go_ret
  exact⟨_,rfl,owns_nil w _ _,Below.refl _ _⟩
 ·have hn:([]:List ByteArray).map Value.string=[]:=rfl
  have hnews:∀j u,(([]:List ByteArray).map Value.string)[j]?=some u→w.cell? (ad.add j)=some u:=fun j u h=>by simp at h
  go_enter Tryz.func7,Tryz.ntmps7
  go_wp2_with fail
  go_ret
  exact⟨_,rfl,owns_nil w _ _,Below.refl _ _⟩
 ·have hnews:=cells_strs hx
  go_enter Tryz.func7,Tryz.ntmps7
  go_wp2_with (at_builtin;refine wpList_append_own w rfl _ _ 22 rfl w.heap.size 9 i _ 1 16 Tryz.underlying22 hi hz0 hz1 hz2 rfl (by decide) (.slice none 0 0) 0 _ rfl (owns_nil w _ _) ⟨b,o,none⟩ xs.length c (xs.map Value.string) rfl (by simp) hnews (strs_oneCell xs) hmax (by omega) (Nat.le_refl _) ?_)
  intro v' w' hown hg _
  go_wp2
  go_ret
  refine⟨_,rfl,by simpa using hown,below_grown hg (fun k h=>by cases h)⟩
end Go.Proofs.YtjeicikflkjacaaGreatDoor
