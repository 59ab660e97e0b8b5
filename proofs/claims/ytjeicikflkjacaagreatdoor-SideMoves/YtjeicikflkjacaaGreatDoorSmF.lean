/- abreast, called beside leavers: it says true. -/
import Derived.Test.YtjeicikflkjacaaGreatDoorM46
set_option linter.unusedSimpArgs false
set_option linter.unusedVariables false
namespace Go.Proofs.YtjeicikflkjacaaGreatDoor.Sh
open Go Go.Conc Go.Conc.Lib Go.RowKit Go.ConcN
open Ms Po
open Par (Fm Gr on stopper LocIn)
theorem nm_a:Lh.isNm ⟨#[97]⟩=true:=by decide
theorem nm_b:Lh.isNm ⟨#[98]⟩=true:=by decide
theorem mov_one {s t:ByteArray}(hs:Lh.isNm s=true)(ht:Lh.isNm t=true){c:Nat}{pl:Int}(h:MovFault [s] [t] 3 c pl):c=0:=by
 rcases h with⟨h,_⟩|⟨_,h⟩
 ·exact tabFault_one h (one_fault hs)
 ·exact tabFault_one h (one_fault ht)
noncomputable def laid5 (v:World):World:=((((v.alloc (.cells #[.string ⟨#[97]⟩] 9)).alloc (.cells #[.string ⟨#[97]⟩] 9)).alloc (.cells #[.string ⟨#[98]⟩] 9)).alloc (.cells #[.slice (some ⟨(v.heap.size+1),0,none⟩) 1 1,.slice (some ⟨(v.heap.size+2),0,none⟩) 1 1] 22))
theorem laid5_size (v:World):(laid5 v).heap.size=v.heap.size+4:=by simp[laid5]
theorem laid5_bel (v:World):Bel v.heap.size v (laid5 v):=.of (((((Below.refl _ _).alloc (Nat.le_refl _) _).alloc (by simp) _).alloc (by simp;omega) _).alloc (by simp;omega) _)
theorem laid5_get (v:World):(laid5 v).heap[v.heap.size]?=some (.cells #[.string ⟨#[97]⟩] 9)∧(laid5 v).heap[v.heap.size+1]?=some (.cells #[.string ⟨#[97]⟩] 9)∧(laid5 v).heap[v.heap.size+2]?=some (.cells #[.string ⟨#[98]⟩] 9)∧(laid5 v).heap[v.heap.size+3]?=some (.cells #[.slice (some ⟨(v.heap.size+1),0,none⟩) 1 1,.slice (some ⟨(v.heap.size+2),0,none⟩) 1 1] 22):=by
 have h:(laid5 v).heap=(((v.heap.push (.cells #[.string ⟨#[97]⟩] 9)).push (.cells #[.string ⟨#[97]⟩] 9)).push (.cells #[.string ⟨#[98]⟩] 9)).push (.cells #[.slice (some ⟨(v.heap.size+1),0,none⟩) 1 1,.slice (some ⟨(v.heap.size+2),0,none⟩) 1 1] 22):=rfl
 rw[h]
 refine⟨?_,?_,?_,?_⟩
 all_goals
  simp only[Array.getElem?_push,Array.size_push]
  repeat (first|rw[if_neg (by omega)])
  rw[if_pos trivial]
def ys5 (i:Nat):List ByteArray:=if i=0 then [⟨#[97]⟩] else [⟨#[98]⟩]
noncomputable def vb5 (b i:Nat):Value:=if i=0 then .slice (some ⟨b+1,0,none⟩) 1 1 else .slice (some ⟨b+2,0,none⟩) 1 1
theorem row_one {v:World}{b:Nat}{s:ByteArray}{ty:TypeId}{f:Nat × Nat}(h:v.heap[b]?=some (.cells #[.string s] ty f)):Row0 v (.slice (some ⟨b,0,none⟩) 1 1) [s]:=.inr ⟨b,1,_,_,_,rfl,by simp,h,fun k hk=>by
 have:k=0:=by simpa using hk
 subst this
 rfl⟩
theorem two {i:Nat}(h:i<2):i=0∨i=1:=by omega
set_option maxHeartbeats 4000000 in
theorem abreast_rch (a:Nat→Addr){v:World}(he:Errs a v)(hG:PP.globals.size≤v.heap.size)(c:Frame)(cs:List Frame):Rch (Gr (Frame.enter PP 5 #[] .normal) (c :: cs)) v (fun g' v'=>g'=Gr (c.finish (.bool true)) cs∧Bel v.heap.size v v'):=by
 refine (Rch.to to_build5).bind ?_
 rintro g1 v1 ⟨rfl,rfl⟩
 refine (Rch.alloc (fun b=>S5 (c :: cs) #[.bool false,undef,undef,undef,.slice (some ⟨b,0,none⟩) 1 1,undef,undef,undef,undef,undef,undef,undef,undef,undef,undef,undef,undef,undef] [.inRegion ops5 [1,2,3,4,5,6,7,8,9],.code rest5]) rfl (fun w=>build5_0 w)).bind ?_
 rintro g2 v2 ⟨rfl,rfl⟩
 refine (Rch.alloc (fun b=>S5 (c :: cs) #[.bool false,undef,undef,undef,.slice (some ⟨v1.heap.size,0,none⟩) 1 1,.slice (some ⟨b,0,none⟩) 1 1,undef,undef,undef,undef,undef,undef,undef,undef,undef,undef,undef,undef] [.inRegion ops5 [2,3,4,5,6,7,8,9],.code rest5]) rfl (fun w=>build5_1 v1.heap.size w)).bind ?_
 rintro g3 v3 ⟨e3,rfl⟩
 have z3:(v1.alloc (.cells #[.string ⟨#[97]⟩] 9)).heap.size=v1.heap.size+1:=by simp
 rw[z3] at e3
 subst e3
 refine (Rch.alloc (fun b=>S5 (c :: cs) #[.bool false,undef,undef,undef,.slice (some ⟨v1.heap.size,0,none⟩) 1 1,.slice (some ⟨(v1.heap.size+1),0,none⟩) 1 1,.slice (some ⟨b,0,none⟩) 1 1,undef,undef,undef,undef,undef,undef,undef,undef,undef,undef,undef] [.inRegion ops5 [3,4,5,6,7,8,9],.code rest5]) rfl (fun w=>build5_2 v1.heap.size (v1.heap.size+1) w)).bind ?_
 rintro g4 v4 ⟨e4,rfl⟩
 have z4:((v1.alloc (.cells #[.string ⟨#[97]⟩] 9)).alloc (.cells #[.string ⟨#[97]⟩] 9)).heap.size=v1.heap.size+2:=by simp
 rw[z4] at e4
 subst e4
 refine (Rch.alloc (fun b=>S5 (c :: cs) #[.bool false,undef,undef,undef,.slice (some ⟨v1.heap.size,0,none⟩) 1 1,.slice (some ⟨(v1.heap.size+1),0,none⟩) 1 1,.slice (some ⟨(v1.heap.size+2),0,none⟩) 1 1,.slice (some ⟨b,0,none⟩) 2 2,undef,undef,undef,undef,undef,undef,undef,undef,undef,undef] [.inRegion ops5 [4,5,6,7,8,9],.code rest5]) rfl (fun w=>build5_3 v1.heap.size (v1.heap.size+1) (v1.heap.size+2) w)).bind ?_
 rintro g5 v5 ⟨e5,e5'⟩
 have z5:(((v1.alloc (.cells #[.string ⟨#[97]⟩] 9)).alloc (.cells #[.string ⟨#[97]⟩] 9)).alloc (.cells #[.string ⟨#[98]⟩] 9)).heap.size=v1.heap.size+3:=by simp
 rw[z5] at e5
 subst e5
 obtain rfl:v5=laid5 v1:=e5'
 refine (Rch.to (to_moves5 v1.heap.size (v1.heap.size+1) (v1.heap.size+2) (v1.heap.size+3))).bind ?_
 rintro g6 v6 ⟨rfl,rfl⟩
 have hb4:=laid5_bel v1
 obtain⟨q0,q1,q2,q3⟩:=laid5_get v1
 have hz:=laid5_size v1
 refine (moves_rch a (.slice (some ⟨v1.heap.size,0,none⟩) 1 1) (.slice (some ⟨(v1.heap.size+3),0,none⟩) 2 2) 2 (vb5 v1.heap.size) [⟨#[97]⟩] ys5 3 2 (errs_bel he hb4) (row_one q0) (.inr ⟨_,_,_,_,_,rfl,q3,fun i hi=>?_⟩) (fun i hi=>?_) ⟨by omega,fun k hk=>?_,fun i hi k hk=>?_,by simp,fun i hi=>?_⟩ (by omega) (by omega) (fr5 v1.heap.size (v1.heap.size+1) (v1.heap.size+2) (v1.heap.size+3)) (c :: cs)).bind ?_
 ·rcases two hi with rfl|rfl<;>rfl
 ·rcases two hi with rfl|rfl
  ·exact row_one q1
  ·exact row_one q2
 ·have:k=0:=by simpa using hk
  subst this
  show ByteArray.size ⟨#[97]⟩≤300
  decide
 ·rcases two hi with rfl|rfl
  ·have:k=0:=by simpa [ys5] using hk
   subst this
   show ByteArray.size ⟨#[97]⟩≤300
   decide
  ·have:k=0:=by simpa [ys5] using hk
   subst this
   show ByteArray.size ⟨#[98]⟩≤300
   decide
 ·rcases two hi with rfl|rfl<;>simp[ys5]
 rintro g7 v7 ⟨u,rfl,hb7,hS⟩
 have hc0:chkN ((2:Nat):Int) 100 2=0:=by decide
 rcases hS with⟨h,_⟩|⟨_,ks,cs_,pl,hg,hA⟩
 ·exact absurd hc0 h
 have h0:=hg 0 (by omega)
 have h1:=hg 1 (by omega)
 have c0:cs_ 0=0:=mov_one nm_a nm_a h0.1
 have c1:cs_ 1=0:=mov_one nm_a nm_b h1.1
 have k0:ks 0=0:=by
  obtain⟨m,e,hk⟩:=h0.2 c0
  obtain rfl:m=3:=by omega
  rw[hk]
  show ((mv [⟨#[97]⟩] [⟨#[97]⟩] 3 3:Nat):Int)=0
  rw[mv_one_same]
  rfl
 have k1:ks 1=3:=by
  obtain⟨m,e,hk⟩:=h1.2 c1
  obtain rfl:m=3:=by omega
  rw[hk]
  show ((mv [⟨#[97]⟩] [⟨#[98]⟩] 3 3:Nat):Int)=3
  rw[mv_one_other (by decide)]
  rfl
 rcases hA with⟨_,x,rfl,hown⟩|⟨j,hj,_,hne,_⟩
 rotate_left
 ·rcases two hj with rfl|rfl
  ·exact absurd c0 hne
  ·exact absurd c1 hne
 have hI:Ints v7 x [0,3]:=by
  have:=ints_of_owns hown
  rw[show (List.range 2).map ks=[0,3] by simp[List.range,List.range.loop,k0,k1]] at this
  exact this
 obtain⟨p,cc,rfl⟩:=hI.slice
 rw[fr5_finish]
 refine (Rch.tail0 (R:=fun u v'=>u=.bool true∧Bel v7.heap.size v7 v') ⟨_,Tryz.func5⟩ (fun s hs=>by cases hs) rest5_t (fun τ d=>by
  obtain⟨fr,v',u',_,h1,h2,h3,h4⟩:=region_leaves (R:=fun u w'=>u=.bool true∧Below v7.heap.size (on v7 τ d) w') Tryz.func5 (end5 v1.heap.size (v1.heap.size+1) (v1.heap.size+2) (v1.heap.size+3) p cc (on v7 τ d) hI)
  exact⟨fr,v',u',h1,h2,h3,.ofOn h4⟩)).mono ?_
 rintro g8 v8 ⟨u,rfl,rfl,hb8⟩
 exact⟨rfl,hb4.trans (hb7.trans hb8 hb7.size) hb4.size⟩
end Go.Proofs.YtjeicikflkjacaaGreatDoor.Sh
