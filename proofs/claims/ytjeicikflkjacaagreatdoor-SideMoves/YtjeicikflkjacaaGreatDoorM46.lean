/- Hosts and a size have one fault alone; a list of one host. -/
import Derived.Test.YtjeicikflkjacaaGreatDoorM4
import Derived.Test.YtjeicikflkjacaaGreatDoorM3
import Derived.Test.YtjeicikflkjacaaGreatDoorM45
namespace Go.Proofs.YtjeicikflkjacaaGreatDoor.Sh
open Go.RowKit Lh
theorem isFault_one {xs:List ByteArray}{c c':Nat}{pl pl':Int}(h:IsFault xs c pl)(h':IsFault xs c' pl'):c=c'∧pl=pl':=by
 rcases h with⟨h1,rfl,rfl⟩|⟨h1,i,hi,hg,rfl,hb⟩|⟨h1,hg,rfl,rfl⟩<;>rcases h' with⟨k1,rfl,rfl⟩|⟨k1,j,hj,kg,rfl,kb⟩|⟨k1,kg,rfl,rfl⟩
 ·exact⟨rfl,rfl⟩
 ·exact absurd h1 k1
 ·exact absurd h1 k1
 ·exact absurd k1 h1
 ·have nb:∀ {i:Nat} (hi:i<xs.length) {c:Nat},((Lh.isNm xs[i]=false∧c=4)∨(Lh.isNm xs[i]=true∧Lh.mem xs[i] (xs.take i)=true∧c=6))→¬Good xs i hi:=fun hi c hb hgood=>by
   obtain⟨g1,g2⟩:=hgood
   rcases hb with⟨q,_⟩|⟨_,q,_⟩
   ·rw[g1] at q;cases q
   ·rw[g2] at q;cases q
  rcases Nat.lt_trichotomy i j with h|rfl|h
  ·exact absurd (kg i h hi) (nb hi hb)
  ·refine⟨?_,rfl⟩
   rcases hb with⟨a1,rfl⟩|⟨a1,a2,rfl⟩<;>rcases kb with⟨b1,rfl⟩|⟨b1,b2,rfl⟩
   ·rfl
   ·rw[a1] at b1;cases b1
   ·rw[a1] at b1;cases b1
   ·rfl
  ·exact absurd (hg j h hj) (nb hj kb)
 ·exfalso
  obtain⟨g1,g2⟩:=kg i hi
  rcases hb with⟨q,_⟩|⟨_,q,_⟩
  ·rw[g1] at q;cases q
  ·rw[g2] at q;cases q
 ·exact absurd k1 h1
 ·exfalso
  obtain⟨g1,g2⟩:=hg j hj
  rcases kb with⟨q,_⟩|⟨_,q,_⟩
  ·rw[g1] at q;cases q
  ·rw[g2] at q;cases q
 ·exact⟨rfl,rfl⟩
theorem sizeIs_one {n:Int}{e e':Nat}(h:SizeIs n e)(h':SizeIs n e'):e=e':=by
 rcases h with⟨h1,rfl⟩|⟨m,rfl,h2,h5,⟨hp,rfl⟩|⟨hp,rfl⟩⟩<;>rcases h' with⟨k1,rfl⟩|⟨m',hm,k2,k5,⟨kp,rfl⟩|⟨kp,rfl⟩⟩
 all_goals first|rfl|omega|skip
 all_goals
  obtain rfl:m=m':=by omega
  first|exact absurd kp hp|exact absurd hp kp
theorem tabFault_one {xs:List ByteArray}{n:Int}{c c':Nat}{pl pl':Int}(h:TabFault xs n c pl)(h':TabFault xs n c' pl'):c=c':=by
 rcases h with⟨rfl,rfl,_⟩|⟨h0,hf,hc⟩|⟨h0,hf,hs,_⟩<;>rcases h' with⟨k,rfl,_⟩|⟨k0,kf,kc⟩|⟨k0,kf,ks,_⟩
 ·rfl
 ·simp at k0
 ·simp at k0
 ·subst k;simp at h0
 ·exact (isFault_one hf kf).1
 ·exact absurd (isFault_one hf kf).1 hc
 ·subst k;simp at h0
 ·exact absurd (isFault_one kf hf).1 kc
 ·exact sizeIs_one hs ks
theorem prmThree:Lh.Prm 3:=by
 refine⟨by omega,fun k h1 h2=>?_⟩
 have:k=2:=by omega
 subst this
 decide
theorem one_fault {s:ByteArray}(h:Lh.isNm s=true):TabFault [s] 3 0 (-1):=by
 refine .inr (.inr ⟨by simp,.inr (.inr ⟨by simp,fun j hj=>?_,rfl,rfl⟩),.inr ⟨3,rfl,by omega,by omega,.inr ⟨prmThree,rfl⟩⟩,rfl⟩)
 have:j=0:=by simpa using hj
 subst this
 exact⟨h,rfl⟩
theorem owner_one (s:ByteArray){i:Nat}(hi:i<3):owner [s] 3 i=s:=by
 obtain⟨k,hk,e⟩:=Lh.tab_full (xs:=[s]) prmThree (by simp) hi
 have:k=0:=by simpa using hk
 subst this
 unfold owner
 rw[e]
 rfl
theorem mv_one_same (s:ByteArray):mv [s] [s] 3 3=0:=by
 rw[mv_same rfl,mv_same rfl,mv_same rfl,mv_zero]
theorem mv_one_other {s t:ByteArray}(h:s≠t):mv [s] [t] 3 3=3:=by
 have ho:∀i,i<3→owner [s] 3 i≠owner [t] 3 i:=fun i hi=>by rw[owner_one s hi,owner_one t hi];exact h
 rw[mv_other (ho 2 (by omega)),mv_other (ho 1 (by omega)),mv_other (ho 0 (by omega)),mv_zero]
end Go.Proofs.YtjeicikflkjacaaGreatDoor.Sh

/- abreast, called beside leavers. -/
set_option linter.unusedSimpArgs false
set_option linter.unusedVariables false
namespace Go.Proofs.YtjeicikflkjacaaGreatDoor.Sh
open Go Go.Conc Go.Conc.Lib Go.RowKit Go.ConcN
open Ms Po
open Par (Fm Gr on stopper LocIn)
noncomputable def ops5:Array Oper:=match Tryz.f5.body.getD .skip with|.seq _ (.seq (.region _ o _) _)=>o|_=>#[]
noncomputable def rest5:Code:=match Tryz.f5.body.getD .skip with|.seq _ (.seq _ c)=>c|_=>.skip
noncomputable abbrev S5 (cs:List Frame) (t:Array Value) (k:List Item):Goroutine:=G ((base 5).at ⟨t,[]⟩ k) cs
theorem rep18:(#[]++Array.replicate 18 undef:Array Value)=#[undef,undef,undef,undef,undef,undef,undef,undef,undef,undef,undef,undef,undef,undef,undef,undef,undef,undef]:=by
 rw[←Array.toList_inj]
 simp[List.replicate]
theorem enter5:Frame.enter PP 5 #[] .normal=Fm 5 #[undef,undef,undef,undef,undef,undef,undef,undef,undef,undef,undef,undef,undef,undef,undef,undef,undef,undef] [.code (Tryz.f5.body.getD .skip)] .run:=by
 have h1:PP.funcs[5]?=some Tryz.f5:=Tryz.func5
 have h2:Tryz.f5.ntmps=18:=by kernel_rfl
 have h3:Tryz.f5.body=some (Tryz.f5.body.getD .skip):=by kernel_rfl
 rw[←rep18]
 generalize hb:Tryz.f5.body.getD .skip=bd at h3
 unfold Frame.enter
 rw[h1]
 simp only[Option.map_some,Option.getD_some,Option.bind_some,h2,h3]
 rfl
section
variable {B:World→Prop} {Ev:Event→Prop} {cs:List Frame}
set_option maxRecDepth 100000 in
theorem to_build5:To PP true B Ev (fun g=>g=S5 cs #[.bool false,undef,undef,undef,undef,undef,undef,undef,undef,undef,undef,undef,undef,undef,undef,undef,undef,undef] [.inRegion ops5 [0,1,2,3,4,5,6,7,8,9],.code rest5]) (Gr (Frame.enter PP 5 #[] .normal) cs):=by
 rw[enter5]
 show To PP true B Ev _ (S5 cs #[undef,undef,undef,undef,undef,undef,undef,undef,undef,undef,undef,undef,undef,undef,undef,undef,undef,undef] [.code (Tryz.f5.body.getD .skip)])
 simp only[S5,ops5,rest5,Tryz.f5,Option.getD_some]
 refine To.ctl rfl (fun _ _=>stepG_seq) ?_
 refine To.ctl rfl (fun _ _=>stepG_region) ?_;simp only[List.size_toArray,List.length_cons,List.length_nil,Nat.reduceAdd,Nat.zero_add,List.range,List.range.loop]
 refine To.value _ rfl rfl (by k_ne) (fun _ _=>by go_simp<;>rfl) (fun _ _=>by first|(simp[go_sem];done)) ?_;walk_nrm
 refine To.ctl rfl (fun _ _=>stepG_region_end) ?_
 refine To.ctl rfl (fun _ _=>stepG_seq) ?_
 refine To.ctl rfl (fun _ _=>stepG_region) ?_;simp only[List.size_toArray,List.length_cons,List.length_nil,Nat.reduceAdd,Nat.zero_add,List.range,List.range.loop]
 exact To.nil rfl
set_option maxRecDepth 100000 in
theorem build5_0  (w:World):stepG PP true (S5 cs #[.bool false,undef,undef,undef,undef,undef,undef,undef,undef,undef,undef,undef,undef,undef,undef,undef,undef,undef] [.inRegion ops5 [0,1,2,3,4,5,6,7,8,9],.code rest5]) w=.go (S5 cs #[.bool false,undef,undef,undef,.slice (some ⟨w.heap.size,0,none⟩) 1 1,undef,undef,undef,undef,undef,undef,undef,undef,undef,undef,undef,undef,undef] [.inRegion ops5 [1,2,3,4,5,6,7,8,9],.code rest5]) (w.alloc (.cells #[.string ⟨#[97]⟩] 9)) #[]:=by
 have hr:∃o,ops5[0]?=some o∧Region.wanted o (yielded ops5 #[.bool false,undef,undef,undef,undef,undef,undef,undef,undef,undef,undef,undef,undef,undef,undef,undef,undef,undef])=true∧o.dst=some 4∧(execOp (Act.eval ⟨#[.bool false,undef,undef,undef,undef,undef,undef,undef,undef,undef,undef,undef,undef,undef,undef,undef,undef,undef],[]⟩) o).run PP w=.ok (.value (.slice (some ⟨w.heap.size,0,none⟩) 1 1)) (w.alloc (.cells #[.string ⟨#[97]⟩] 9))∧(execOp (Act.eval ⟨#[.bool false,undef,undef,undef,undef,undef,undef,undef,undef,undef,undef,undef,undef,undef,undef,undef,undef,undef],[]⟩) o).events PP w #[]=#[]:=by
  simp only[ops5,Tryz.f5,Option.getD_some]
  refine⟨_,rfl,rfl,rfl,?_,?_⟩
  ·go_simp
   try rfl
  ·simp[go_sem,Instr.buildSlice,newVar,newRow]
 obtain⟨o,h1,h2,h3,h4,h5⟩:=hr
 have:=stepG_value (P:=PP) (main:=true) (b:=base 5) (a:=⟨#[.bool false,undef,undef,undef,undef,undef,undef,undef,undef,undef,undef,undef,undef,undef,undef,undef,undef,undef],[]⟩) (k:=[.code rest5]) (cs:=cs) (w:=w) (w':=w.alloc (.cells #[.string ⟨#[97]⟩] 9)) (ops:=ops5) (i:=0) (rest:=[1,2,3,4,5,6,7,8,9]) h1 h2 (by k_ne) h4
 rw[S5,this]
 have hs:=congrArg (seen PP (base 5).fn) h5
 rw[seen_none] at hs
 rw[h3]
 exact congrArg (fun x=>GStep.go _ _ x) hs
set_option maxRecDepth 100000 in
theorem build5_1 (x:Nat)(w:World):stepG PP true (S5 cs #[.bool false,undef,undef,undef,.slice (some ⟨x,0,none⟩) 1 1,undef,undef,undef,undef,undef,undef,undef,undef,undef,undef,undef,undef,undef] [.inRegion ops5 [1,2,3,4,5,6,7,8,9],.code rest5]) w=.go (S5 cs #[.bool false,undef,undef,undef,.slice (some ⟨x,0,none⟩) 1 1,.slice (some ⟨w.heap.size,0,none⟩) 1 1,undef,undef,undef,undef,undef,undef,undef,undef,undef,undef,undef,undef] [.inRegion ops5 [2,3,4,5,6,7,8,9],.code rest5]) (w.alloc (.cells #[.string ⟨#[97]⟩] 9)) #[]:=by
 have hr:∃o,ops5[1]?=some o∧Region.wanted o (yielded ops5 #[.bool false,undef,undef,undef,.slice (some ⟨x,0,none⟩) 1 1,undef,undef,undef,undef,undef,undef,undef,undef,undef,undef,undef,undef,undef])=true∧o.dst=some 5∧(execOp (Act.eval ⟨#[.bool false,undef,undef,undef,.slice (some ⟨x,0,none⟩) 1 1,undef,undef,undef,undef,undef,undef,undef,undef,undef,undef,undef,undef,undef],[]⟩) o).run PP w=.ok (.value (.slice (some ⟨w.heap.size,0,none⟩) 1 1)) (w.alloc (.cells #[.string ⟨#[97]⟩] 9))∧(execOp (Act.eval ⟨#[.bool false,undef,undef,undef,.slice (some ⟨x,0,none⟩) 1 1,undef,undef,undef,undef,undef,undef,undef,undef,undef,undef,undef,undef,undef],[]⟩) o).events PP w #[]=#[]:=by
  simp only[ops5,Tryz.f5,Option.getD_some]
  refine⟨_,rfl,rfl,rfl,?_,?_⟩
  ·go_simp
   try rfl
  ·simp[go_sem,Instr.buildSlice,newVar,newRow]
 obtain⟨o,h1,h2,h3,h4,h5⟩:=hr
 have:=stepG_value (P:=PP) (main:=true) (b:=base 5) (a:=⟨#[.bool false,undef,undef,undef,.slice (some ⟨x,0,none⟩) 1 1,undef,undef,undef,undef,undef,undef,undef,undef,undef,undef,undef,undef,undef],[]⟩) (k:=[.code rest5]) (cs:=cs) (w:=w) (w':=w.alloc (.cells #[.string ⟨#[97]⟩] 9)) (ops:=ops5) (i:=1) (rest:=[2,3,4,5,6,7,8,9]) h1 h2 (by k_ne) h4
 rw[S5,this]
 have hs:=congrArg (seen PP (base 5).fn) h5
 rw[seen_none] at hs
 rw[h3]
 exact congrArg (fun x=>GStep.go _ _ x) hs
set_option maxRecDepth 100000 in
theorem build5_2 (x y:Nat)(w:World):stepG PP true (S5 cs #[.bool false,undef,undef,undef,.slice (some ⟨x,0,none⟩) 1 1,.slice (some ⟨y,0,none⟩) 1 1,undef,undef,undef,undef,undef,undef,undef,undef,undef,undef,undef,undef] [.inRegion ops5 [2,3,4,5,6,7,8,9],.code rest5]) w=.go (S5 cs #[.bool false,undef,undef,undef,.slice (some ⟨x,0,none⟩) 1 1,.slice (some ⟨y,0,none⟩) 1 1,.slice (some ⟨w.heap.size,0,none⟩) 1 1,undef,undef,undef,undef,undef,undef,undef,undef,undef,undef,undef] [.inRegion ops5 [3,4,5,6,7,8,9],.code rest5]) (w.alloc (.cells #[.string ⟨#[98]⟩] 9)) #[]:=by
 have hr:∃o,ops5[2]?=some o∧Region.wanted o (yielded ops5 #[.bool false,undef,undef,undef,.slice (some ⟨x,0,none⟩) 1 1,.slice (some ⟨y,0,none⟩) 1 1,undef,undef,undef,undef,undef,undef,undef,undef,undef,undef,undef,undef])=true∧o.dst=some 6∧(execOp (Act.eval ⟨#[.bool false,undef,undef,undef,.slice (some ⟨x,0,none⟩) 1 1,.slice (some ⟨y,0,none⟩) 1 1,undef,undef,undef,undef,undef,undef,undef,undef,undef,undef,undef,undef],[]⟩) o).run PP w=.ok (.value (.slice (some ⟨w.heap.size,0,none⟩) 1 1)) (w.alloc (.cells #[.string ⟨#[98]⟩] 9))∧(execOp (Act.eval ⟨#[.bool false,undef,undef,undef,.slice (some ⟨x,0,none⟩) 1 1,.slice (some ⟨y,0,none⟩) 1 1,undef,undef,undef,undef,undef,undef,undef,undef,undef,undef,undef,undef],[]⟩) o).events PP w #[]=#[]:=by
  simp only[ops5,Tryz.f5,Option.getD_some]
  refine⟨_,rfl,rfl,rfl,?_,?_⟩
  ·go_simp
   try rfl
  ·simp[go_sem,Instr.buildSlice,newVar,newRow]
 obtain⟨o,h1,h2,h3,h4,h5⟩:=hr
 have:=stepG_value (P:=PP) (main:=true) (b:=base 5) (a:=⟨#[.bool false,undef,undef,undef,.slice (some ⟨x,0,none⟩) 1 1,.slice (some ⟨y,0,none⟩) 1 1,undef,undef,undef,undef,undef,undef,undef,undef,undef,undef,undef,undef],[]⟩) (k:=[.code rest5]) (cs:=cs) (w:=w) (w':=w.alloc (.cells #[.string ⟨#[98]⟩] 9)) (ops:=ops5) (i:=2) (rest:=[3,4,5,6,7,8,9]) h1 h2 (by k_ne) h4
 rw[S5,this]
 have hs:=congrArg (seen PP (base 5).fn) h5
 rw[seen_none] at hs
 rw[h3]
 exact congrArg (fun x=>GStep.go _ _ x) hs
set_option maxRecDepth 100000 in
theorem build5_3 (x y z:Nat)(w:World):stepG PP true (S5 cs #[.bool false,undef,undef,undef,.slice (some ⟨x,0,none⟩) 1 1,.slice (some ⟨y,0,none⟩) 1 1,.slice (some ⟨z,0,none⟩) 1 1,undef,undef,undef,undef,undef,undef,undef,undef,undef,undef,undef] [.inRegion ops5 [3,4,5,6,7,8,9],.code rest5]) w=.go (S5 cs #[.bool false,undef,undef,undef,.slice (some ⟨x,0,none⟩) 1 1,.slice (some ⟨y,0,none⟩) 1 1,.slice (some ⟨z,0,none⟩) 1 1,.slice (some ⟨w.heap.size,0,none⟩) 2 2,undef,undef,undef,undef,undef,undef,undef,undef,undef,undef] [.inRegion ops5 [4,5,6,7,8,9],.code rest5]) (w.alloc (.cells #[.slice (some ⟨y,0,none⟩) 1 1,.slice (some ⟨z,0,none⟩) 1 1] 22)) #[]:=by
 have hr:∃o,ops5[3]?=some o∧Region.wanted o (yielded ops5 #[.bool false,undef,undef,undef,.slice (some ⟨x,0,none⟩) 1 1,.slice (some ⟨y,0,none⟩) 1 1,.slice (some ⟨z,0,none⟩) 1 1,undef,undef,undef,undef,undef,undef,undef,undef,undef,undef,undef])=true∧o.dst=some 7∧(execOp (Act.eval ⟨#[.bool false,undef,undef,undef,.slice (some ⟨x,0,none⟩) 1 1,.slice (some ⟨y,0,none⟩) 1 1,.slice (some ⟨z,0,none⟩) 1 1,undef,undef,undef,undef,undef,undef,undef,undef,undef,undef,undef],[]⟩) o).run PP w=.ok (.value (.slice (some ⟨w.heap.size,0,none⟩) 2 2)) (w.alloc (.cells #[.slice (some ⟨y,0,none⟩) 1 1,.slice (some ⟨z,0,none⟩) 1 1] 22))∧(execOp (Act.eval ⟨#[.bool false,undef,undef,undef,.slice (some ⟨x,0,none⟩) 1 1,.slice (some ⟨y,0,none⟩) 1 1,.slice (some ⟨z,0,none⟩) 1 1,undef,undef,undef,undef,undef,undef,undef,undef,undef,undef,undef],[]⟩) o).events PP w #[]=#[]:=by
  simp only[ops5,Tryz.f5,Option.getD_some]
  refine⟨_,rfl,rfl,rfl,?_,?_⟩
  ·go_simp
   try rfl
  ·simp[go_sem,Instr.buildSlice,newVar,newRow]
 obtain⟨o,h1,h2,h3,h4,h5⟩:=hr
 have:=stepG_value (P:=PP) (main:=true) (b:=base 5) (a:=⟨#[.bool false,undef,undef,undef,.slice (some ⟨x,0,none⟩) 1 1,.slice (some ⟨y,0,none⟩) 1 1,.slice (some ⟨z,0,none⟩) 1 1,undef,undef,undef,undef,undef,undef,undef,undef,undef,undef,undef],[]⟩) (k:=[.code rest5]) (cs:=cs) (w:=w) (w':=w.alloc (.cells #[.slice (some ⟨y,0,none⟩) 1 1,.slice (some ⟨z,0,none⟩) 1 1] 22)) (ops:=ops5) (i:=3) (rest:=[4,5,6,7,8,9]) h1 h2 (by k_ne) h4
 rw[S5,this]
 have hs:=congrArg (seen PP (base 5).fn) h5
 rw[seen_none] at hs
 rw[h3]
 exact congrArg (fun x=>GStep.go _ _ x) hs
noncomputable def fr5 (x y z t:Nat):Frame:=Fm 5 #[.bool false,undef,undef,undef,.slice (some ⟨x,0,none⟩) 1 1,.slice (some ⟨y,0,none⟩) 1 1,.slice (some ⟨z,0,none⟩) 1 1,.slice (some ⟨t,0,none⟩) 2 2,undef,undef,undef,undef,undef,undef,undef,undef,undef,undef] [.inRegion ops5 [4,5,6,7,8,9],.code rest5] .run
theorem fr5_finish (x y z t:Nat)(u:Value):(fr5 x y z t).finish u=Fm 5 #[.bool false,undef,undef,undef,.slice (some ⟨x,0,none⟩) 1 1,.slice (some ⟨y,0,none⟩) 1 1,.slice (some ⟨z,0,none⟩) 1 1,.slice (some ⟨t,0,none⟩) 2 2,u,undef,undef,undef,undef,undef,undef,undef,undef,undef] (.inRegion ops5 [5,6,7,8,9] :: [rest5].map Item.code) .run:=by
 have:=Frame.finish_at (b:=base 5) (a:=⟨#[.bool false,undef,undef,undef,.slice (some ⟨x,0,none⟩) 1 1,.slice (some ⟨y,0,none⟩) 1 1,.slice (some ⟨z,0,none⟩) 1 1,.slice (some ⟨t,0,none⟩) 2 2,undef,undef,undef,undef,undef,undef,undef,undef,undef,undef],[]⟩) (ops:=ops5) (i:=4) (rest:=[5,6,7,8,9]) (k:=[.code rest5]) (v:=u)
 refine this.trans ?_
 rfl
set_option maxRecDepth 100000 in
theorem to_moves5 (x y z t:Nat):To PP true B Ev (fun g=>g=Gr (Frame.enter PP 8 #[.slice (some ⟨x,0,none⟩) 1 1,.slice (some ⟨t,0,none⟩) 2 2,.int .i64 3,.int .i64 2] .normal) (fr5 x y z t :: cs)) (S5 cs #[.bool false,undef,undef,undef,.slice (some ⟨x,0,none⟩) 1 1,.slice (some ⟨y,0,none⟩) 1 1,.slice (some ⟨z,0,none⟩) 1 1,.slice (some ⟨t,0,none⟩) 2 2,undef,undef,undef,undef,undef,undef,undef,undef,undef,undef] [.inRegion ops5 [4,5,6,7,8,9],.code rest5]):=by
 simp only[fr5,S5,ops5,rest5,Tryz.f5,Option.getD_some]
 refine To.call rfl rfl (by k_ne) rfl Tryz.func8 (by kernel_rfl) (show Tryz.f8.body=some (Tryz.f8.body.getD .skip) from by kernel_rfl) ?_
 refine To.nil ?_
 rw[enter8]
 have h2:Tryz.f8.ntmps=25:=by kernel_rfl
 generalize Tryz.f8.body.getD .skip=bd
 rw[h2]
 simp only[List.map_toArray,List.map_cons,List.map_nil,List.size_toArray,List.length_cons,List.length_nil,Nat.reduceAdd,Nat.reduceSub]
 rw[rep21]
 rfl
end
theorem rest5_t:todoT lx PP 5 (.inRegion ops5 [5,6,7,8,9] :: [rest5].map Item.code):=by
 intro x hx
 simp only[List.map_cons,List.map_nil,List.mem_cons,List.not_mem_nil,or_false] at hx
 rcases hx with rfl|rfl<;>decide +kernel
set_option maxRecDepth 100000 in
set_option maxHeartbeats 4000000 in
theorem end5 (x y z t:Nat)(p:Option Addr)(c:Nat)(w:World)(hI:Ints w (.slice p 2 c) [0,3]) :
  wpOps Tryz.prog ops5 (Exit.then (Po.wpC Tryz.prog (bodyPost Tryz.prog Tryz.f5 (fun e w'=>∃u,e=.returned u∧u=.bool true∧Below w.heap.size w w')) [rest5]) (bodyPost Tryz.prog Tryz.f5 (fun e w'=>∃u,e=.returned u∧u=.bool true∧Below w.heap.size w w'))) [5,6,7,8,9] ⟨#[.bool false,undef,undef,undef,.slice (some ⟨x,0,none⟩) 1 1,.slice (some ⟨y,0,none⟩) 1 1,.slice (some ⟨z,0,none⟩) 1 1,.slice (some ⟨t,0,none⟩) 2 2,.tuple #[.slice p 2 c,.nilIface],undef,undef,undef,undef,undef,undef,undef,undef,undef],[]⟩ w:=by
 have HI:Hid (Ints w (.slice p 2 c) [0,3]):=hI
 clear hI
 have hw:∀(l:List Oper) (Q:Exit→Act→World→Prop) (A:Act),(∀j,l[j]?=ops5[5+j]?)→l.length=5→wpList Tryz.prog ops5 Q l A w→wpOps Tryz.prog ops5 Q [5,6,7,8,9] A w:=fun l Q A h1 h2 h=>by
  have:=wpOps_eq_wpList (P:=Tryz.prog) (Q:=Q) (ops:=ops5) l 5 h1
  rw[h2] at this
  have e:List.range' 5 5=[5,6,7,8,9]:=rfl
  rw[e] at this
  rw[this]
  exact h
 refine hw (ops5.toList.drop 5) _ _ (fun j=>by simp) (by simp[ops5,Tryz.f5]) ?_
 simp only[ops5,rest5,Tryz.f5,Option.getD_some,List.drop,Po.wpC]
 clear hw
 have HS:Hid (Calls Tryz.prog 13 #[.slice p 2 c,.slice (some ⟨w.heap.size,0,none⟩) 2 2] (w.alloc (.cells #[.int .i64 0,.int .i64 3] 3)) fun e w'=>e=.returned (.bool true)∧Below w.heap.size w w'):=by
  have hb:Below w.heap.size w (w.alloc (.cells #[.int .i64 0,.int .i64 3] 3)):=(Below.refl _ _).alloc (Nat.le_refl _) _
  refine (sameInts_any _ _ [0,3] [0,3] _ (HI.out.later hb) (.inr ⟨w.heap.size,0,2,rfl,fun k hk=>?_⟩) (by simp) (by simp)).mono fun e w' ⟨h1,h2⟩=>⟨by rw[h1];simp,below_then hb h2⟩
  have:k=0∨k=1:=by simp at hk;omega
  rcases this with rfl|rfl<;>simp
 go_wp2_with fail
 refine HS.out.mono ?_
 rintro e w1 ⟨rfl,hb1⟩
 clear HS HI
 go_wp2
 go_ret
 exact⟨_,rfl,rfl,hb1⟩
end Go.Proofs.YtjeicikflkjacaaGreatDoor.Sh
