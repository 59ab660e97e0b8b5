/- The landed script: a line that wants hosts. -/
import Derived.Test.YtfhmfjcpggddkaaGreatDoorM46
import Derived.Shelf.Abstract
import Derived.Test.YtfhmfjcpggddkaaGreatDoorM27
import Derived.Test.YtfhmfjcpggddkaaGreatDoorM9
import Derived.Test.YtfhmfjcpggddkaaGreatDoorM0
import Derived.HandedShaped
set_option maxHeartbeats 20000000
set_option maxRecDepth 100000
namespace Go.Proofs.YtfhmfjcpggddkaaGreatDoor
open Go.RowKit Lh
theorem obey_none (w0 W:World)(a:Nat→Addr)(p q m:Nat)(F:Nat→Prop)(st:Option Sc)(s wd:List UInt8)(r:List (List UInt8))(hs:s.length≤5000)(hcut:cutL 32 s=wd :: r)(hP:PlC w0 a p q m F W)(hI:PlIs st F p W)(hn:∀S,st=some S→S.hosts≠[])(form:List UInt8)(more:Bool)(f:Nat)(caps:Array Value)(hv:(bt wd,cmA form more false (.func (.func f) #[] caps))∈cmTab q)(hE:EntR q wd form more false f caps)(N:List Nat)(H:List ByteArray)(hr:readW form more r=some (N,H))(hst:st=none) :
  Calls Tryz.prog 60 #[.pointer (some ⟨p,0,none⟩),.map (some m),.string (bt s)] W (LineE w0 a p q m F st s W):=by
 have hsp:=split_any s 32 (by omega) W hP.ea.c
 have hwl:=cut_lens s hs
 rw[hcut] at hsp hwl
 have hcm:cmOf s=some ⟨wd,H,N⟩:=by rw[lineS_cm hcut hE.form_,hr];rfl
 have HMAP:Hid (MapIs W m (cmTab q)):=hP.map
 have HS0:Hid (EA a W):=hP.ea
 have HRD:Hid (∀w' sp sc,EA a w'→WordsAt w' sp r→Calls Tryz.prog 109 #[cmA form more false (.func (.func f) #[] caps),.slice sp r.length sc] w' fun e w''=>RdR N H e w' w''∧Below w'.heap.size w' w''):=fun w' sp sc he hw=>(readC_any a form more false _ sp sc r w' he.c he.e4 hE.pos hE.kind (by have:=hwl.1;simp only[List.length_cons] at this;omega) (fun x hx=>hwl.2 x (List.mem_cons_of_mem _ hx)) hw).mono fun _ _ ⟨q1,q2⟩=>by
  rcases q2 with⟨N',H',vn,vh,h1,h2,h3,h4⟩|⟨h1,_⟩
  ·rw[hr] at h1
   obtain⟨rfl,rfl⟩:N'=N∧H'=H:=by
    injection h1 with h1
    injection h1 with h5 h6
    exact⟨h5.symm,h6.symm⟩
   obtain⟨pn,cn,rfl⟩:=own_shape h3
   obtain⟨ph,ch,rfl⟩:=own_shape h4
   exact⟨⟨pn,cn,ph,ch,h2,h3,h4⟩,q1⟩
  ·rw[hr] at h1
   cases h1
 have hx0:W.cell? ⟨p,0,none⟩=some (.pointer none):=by
  rcases hI with⟨_,h⟩|⟨S,_,_,_,h,_⟩
  ·exact h.c0
  ·rw[hst] at h
   cases h
 have hea:=hE.early_.1 rfl
 have HEND:Hid (∀tv w',Below W.heap.size W w'→LineE w0 a p q m F st s W (.returned (.tuple #[.string tv,.iface 378 (.pointer (some (a 4)))])) w'):=fun tv w' hb=>lineE_err (c:=5) hP hI hn hb (Or.inr ⟨_,hcm,by rw[hst];exact Or.inr (Or.inr (Or.inl ⟨hea.1,hea.2,rfl,rfl,rfl⟩))⟩) (Or.inr ⟨4,by decide,rfl,Or.inl ⟨rfl,rfl⟩⟩) (by decide) (by unfold Told;omega)
 have HX:Hid (W.cell? ⟨p,0,none⟩=some (.pointer none)):=hx0
 clear hP hI hcut hcm hE hr hx0 hst hea
 go_enter Tryz.func60,Tryz.ntmps60
 go_wp2_with fail
 refine hsp.mono ?_
 rintro e w1 ⟨rfl,hb1,hl1,hcell⟩
 have c0:=hcell 0 (by simp)
 rw[List.getElem_cons_zero] at c0
 have hlk:=obey_look HMAP.out hb1 hv
 unfold cmA at hlk
 have HB1:Hid (Below W.heap.size W w1):=hb1
 have HWA:Hid (∀w' sp,Below w1.heap.size w1 w'→(r=[]∨sp=some ⟨W.heap.size,1,none⟩)→WordsAt w' sp r):=fun w' sp hb hsp=>obey_words hcell hb hsp
 clear hsp hcell hv
 obtain⟨w2,hw2⟩:∃w2,w2=w1.alloc (.cells #[.string (bt form),.bool more,.bool false,.func (.func f) #[] caps] 87):=⟨_,rfl⟩
 have hb2:Below w1.heap.size w1 w2:=by rw[hw2];exact (Below.refl _ _).alloc (Nat.le_refl _) _
 have HB2:Hid (Below w1.heap.size w1 w2):=hb2
 have HK:Hid (CmAt w2 w1.heap.size form more false f caps):=by rw[hw2];exact⟨by simp,by simp,by simp,by simp⟩
 obtain⟨k0,k1,k2,k3⟩:=HK.out
 have hb0:Below w2.heap.size w2 w2.drew:=below_drewN (Below.refl _ _) 1
 clear hb1 hb2
 have hcal:∀w' sp sc,Below w2.heap.size w2 w'→(r=[]∨sp=some ⟨W.heap.size,1,none⟩)→Calls Tryz.prog 109 #[.agg #[.string (bt form),.bool more,.bool false,.func (.func f) #[] caps],.slice sp r.length sc] w' fun e w''=>∃pn cn ph ch,e=.returned (.tuple #[.agg #[.slice pn N.length cn,.slice ph H.length ch],.bool true])∧(w''.ownsRow w'.heap.size 3 1 (.slice pn N.length cn) N.length (N.map fun n=>.int .i64 (n:Nat))∧w''.ownsRow w'.heap.size 9 1 (.slice ph H.length ch) H.length (H.map Value.string)∧w2.heap.size≤w'.heap.size)∧Below w'.heap.size w' w''∧Below w2.heap.size w2 w'':=fun w' sp sc hb hsp=>(HRD.out w' sp sc (HS0.out.later (below_then (below_then HB1.out HB2.out) hb)) (HWA.out w' sp (below_then HB2.out hb) hsp)).mono fun _ _ ⟨⟨pn,cn,ph,ch,q1,q3,q4⟩,q2⟩=>⟨pn,cn,ph,ch,q1,⟨q3,q4,hb.size⟩,q2,below_then hb q2⟩
 have HX0:Hid (∀w',Below w2.heap.size w2 w'→w'.cell? ⟨p,0,none⟩=some (.pointer none)):=fun w' hb=>below_cell (below_then (below_then HB1.out HB2.out) hb) HX.out
 have s2:=below_cell HB2.out (HS0.out.later HB1.out).b.e5.s4
 have HST:Hid (∀w',Below w2.heap.size w2 w'→w'.cell? ⟨4,0,none⟩=some (.iface 378 (.pointer (some (a 4))))):=fun w' hb=>below_cell hb s2
 clear HRD HWA hwl s2 HX
 by_cases hre:r=[]
 case' pos=>subst hre
 case' neg =>
  have hl0:¬r.length=0:=fun h=>hre (List.length_eq_zero_iff.1 h)
  have hi1:(1:Int)≤(r.length:Int)+1:=by omega
 all_goals
  go_wp2_with fail
  rw[←hw2]
  clear hw2
  go_region_held3 (fun w'=>w'.cell? ⟨w1.heap.size,0,none⟩=some (.string (bt form))∧w'.cell? ⟨w1.heap.size,1,none⟩=some (.bool more)∧w'.cell? ⟨w1.heap.size,2,none⟩=some (.bool false)∧w'.cell? ⟨w1.heap.size,3,none⟩=some (.func (.func f) #[] caps))
   (first|exact HK.out.later (by first|assumption|exact below_al (by assumption) _|exact below_ald _|exact ((by assumption:Below w2.heap.size w2 w3).setCell (Nat.le_refl _) _).setCell (Nat.le_refl _) _))
   (first
    | (go_at_call 109;refine (hcal _ _ _ (by first|assumption|exact below_ald _) (by first|exact Or.inr rfl|simp)).mono ?_;rintro e w3 ⟨pn,cn,ph,ch,rfl,hrow,hb3,hb3'⟩;try (have hcf:=al_cells hb3;obtain⟨c0',c1',f0',f1'⟩:=hcf)))
  ·obtain⟨ron,roh,rle⟩:=hrow
   have hbf:Below w2.heap.size w2 (w3.alloc (.cells #[.slice pn N.length cn,.slice ph H.length ch] 83)):=below_al hb3' _
   obtain⟨wb,hwb⟩:∃wb,wb=w3.heap.size:=⟨_,rfl⟩
   have HW:Hid (WfIs w2 (w3.alloc (.cells #[.slice pn N.length cn,.slice ph H.length ch] 83)) wb (.slice pn N.length cn) (.slice ph H.length ch) N H):=by rw[hwb];exact⟨hbf,by simp,by simp,owns_base (ron.alloc _) rle,owns_base (roh.alloc _) rle⟩
   clear ron roh rle hb3 hb3' hbf hcal
   generalize (w3.alloc (.cells #[.slice pn N.length cn,.slice ph H.length ch] 83))=wf at *
   rw[←hwb]
   clear hwb
   obtain⟨hbf,g0,g1,_,_⟩:=HW.out
   obtain⟨k0',k1',k2',k3'⟩:=HK.out.later hbf
   have x0:=HX0.out wf hbf
   have s3:=HST.out wf hbf
   have HBG:Hid (Below w2.heap.size w2 wf.drew):=below_then hbf (below_drewN (Below.refl _ _) 1)
   clear HST HX0 HW k0 k1 k2 k3 hb0 c0 hlk hbf
   go_wp2_with fail
   go_region
   go_wp2
   go_ret2
   exact HEND.out _ _ (below_then (below_then HB1.out HB2.out) HBG.out)
  ·obtain⟨ron,roh,rle⟩:=hrow
   have hbf:Below w2.heap.size w2 ((w3.setCell ⟨w2.heap.size,0,none⟩ (.slice pn N.length cn)).setCell ⟨w2.heap.size,1,none⟩ (.slice ph H.length ch)):=(hb3'.setCell (p:=⟨w2.heap.size,0,none⟩) (Nat.le_refl _) _).setCell (p:=⟨w2.heap.size,1,none⟩) (Nat.le_refl _) _
   have rlt:w2.heap.size<((w2.alloc (.cells #[.slice none 0 0,.slice none 0 0] 83)).drew).heap.size:=by simp
   obtain⟨wb,hwb⟩:∃wb,wb=w2.heap.size:=⟨_,rfl⟩
   have HW:Hid (WfIs w2 ((w3.setCell ⟨w2.heap.size,0,none⟩ (.slice pn N.length cn)).setCell ⟨w2.heap.size,1,none⟩ (.slice ph H.length ch)) wb (.slice pn N.length cn) (.slice ph H.length ch) N H):=by rw[hwb];exact⟨hbf,(by rw[World.cell?_setCell_other _ _ _ _ (by simp)];exact World.cell?_setCell_same' _ _ _ (by rw[c0'];rfl)),World.cell?_setCell_same' _ _ _ (by rw[World.cell?_setCell_other _ _ _ _ (by simp),c1'];rfl),owns_base (howns_setCell (howns_setCell ron rlt _) rlt _) rle,owns_base (howns_setCell (howns_setCell roh rlt _) rlt _) rle⟩
   clear ron roh rle hb3 hb3' hbf hcal rlt c0' c1' f0' f1'
   generalize ((w3.setCell ⟨w2.heap.size,0,none⟩ (.slice pn N.length cn)).setCell ⟨w2.heap.size,1,none⟩ (.slice ph H.length ch))=wf at *
   rw[←hwb]
   clear hwb
   obtain⟨hbf,g0,g1,_,_⟩:=HW.out
   obtain⟨k0',k1',k2',k3'⟩:=HK.out.later hbf
   have x0:=HX0.out wf hbf
   have s3:=HST.out wf hbf
   have HBG:Hid (Below w2.heap.size w2 wf.drew):=below_then hbf (below_drewN (Below.refl _ _) 1)
   clear HST HX0 HW k0 k1 k2 k3 hb0 c0 hlk hbf
   go_wp2_with fail
   go_region
   go_wp2
   go_ret2
   exact HEND.out _ _ (below_then (below_then HB1.out HB2.out) HBG.out)
theorem obey_some (w0 W:World)(a:Nat→Addr)(p q m:Nat)(F:Nat→Prop)(st:Option Sc)(s wd:List UInt8)(r:List (List UInt8))(hs:s.length≤5000)(hcut:cutL 32 s=wd :: r)(hP:PlC w0 a p q m F W)(hI:PlIs st F p W)(hn:∀S,st=some S→S.hosts≠[])(form:List UInt8)(more early:Bool)(f:Nat)(caps:Array Value)(hv:(bt wd,cmA form more early (.func (.func f) #[] caps))∈cmTab q)(hE:EntR q wd form more early f caps)(N:List Nat)(H:List ByteArray)(hr:readW form more r=some (N,H))(j:Nat)(hB:StB st j)(hj:j≤100)(hFl:∀b,F b→b<W.heap.size)(r0:Nat)(hx0:W.cell? ⟨p,0,none⟩=some (.pointer (some ⟨r0,0,none⟩)))(hne:early=false→st≠none) :
  Calls Tryz.prog 60 #[.pointer (some ⟨p,0,none⟩),.map (some m),.string (bt s)] W (LineE w0 a p q m F st s W):=by
 have hsp:=split_any s 32 (by omega) W hP.ea.c
 have hwl:=cut_lens s hs
 rw[hcut] at hsp hwl
 have hcm:cmOf s=some ⟨wd,H,N⟩:=by rw[lineS_cm hcut hE.form_,hr];rfl
 have HMAP:Hid (MapIs W m (cmTab q)):=hP.map
 have HS0:Hid (EA a W):=hP.ea
 have HRD:Hid (∀w' sp sc,EA a w'→WordsAt w' sp r→Calls Tryz.prog 109 #[cmA form more early (.func (.func f) #[] caps),.slice sp r.length sc] w' fun e w''=>RdR N H e w' w''∧Below w'.heap.size w' w''):=fun w' sp sc he hw=>(readC_any a form more early _ sp sc r w' he.c he.e4 hE.pos hE.kind (by have:=hwl.1;simp only[List.length_cons] at this;omega) (fun x hx=>hwl.2 x (List.mem_cons_of_mem _ hx)) hw).mono fun _ _ ⟨q1,q2⟩=>by
  rcases q2 with⟨N',H',vn,vh,h1,h2,h3,h4⟩|⟨h1,_⟩
  ·rw[hr] at h1
   obtain⟨rfl,rfl⟩:N'=N∧H'=H:=by
    injection h1 with h1
    injection h1 with h5 h6
    exact⟨h5.symm,h6.symm⟩
   obtain⟨pn,cn,rfl⟩:=own_shape h3
   obtain⟨ph,ch,rfl⟩:=own_shape h4
   exact⟨⟨pn,cn,ph,ch,h2,h3,h4⟩,q1⟩
  ·rw[hr] at h1
   cases h1
 obtain⟨hh,nn,hok⟩:=cmOf_ok hcm
 have hHl:H.length<1000000:=by
  have h1:=readW_len hr
  have h2:=hwl.1
  rw[List.length_cons] at h2
  omega
 have HCLO:Hid (∀wf vn vh,Below W.heap.size W wf→∀B,W.heap.size≤B→wf.ownsRow B 3 1 vn N.length (N.map fun n=>.int .i64 (n:Nat))→wf.ownsRow B 9 1 vh H.length (H.map Value.string)→Calls Tryz.prog f (#[.agg #[vn,vh]]++caps) wf fun e w'=>∃tv ev,e=.returned (.tuple #[.string tv,ev])∧LineE w0 a p q m F st s W (.returned (.tuple #[.string tv,ev])) w'):=fun wf vn vh hb B hBW h1 h2=>(hE.clo_ w0 wf a p m F st j B N H vn vh hh nn (hP.later hb) (hI.later (fun h=>(hP.F0 p h).2.1 rfl) hn hb) hB hj hne hok hHl h1 h2 (fun b hf=>Nat.lt_of_lt_of_le (hFl b hf) hBW) (Nat.lt_of_lt_of_le hP.pl3 hBW)).mono fun e w' ⟨st',F',ans,q1,q2,q3,q4,q5,q6⟩=>by
  obtain⟨tv,ev,c,pl,rfl,q7⟩:=q2
  exact⟨tv,ev,rfl,st',F',ans,Or.inr ⟨_,hcm,q1⟩,⟨tv,ev,c,pl,rfl,q7⟩,q3,q4,fun b hb'=>(q5 b hb').elim Or.inl fun h=>Or.inr (Nat.le_trans hb.size h),(Tur.of_below hb).trans q6 fun b hb'=>Or.inl hb'⟩
 have eg:=hE.ent
 have HX:Hid (W.cell? ⟨p,0,none⟩=some (.pointer (some ⟨r0,0,none⟩))):=hx0
 clear hP hI hcut hcm hE hr hx0 hok hHl hne hB hFl
 go_enter Tryz.func60,Tryz.ntmps60
 go_wp2_with fail
 refine hsp.mono ?_
 rintro e w1 ⟨rfl,hb1,hl1,hcell⟩
 have c0:=hcell 0 (by simp)
 rw[List.getElem_cons_zero] at c0
 have hlk:=obey_look HMAP.out hb1 hv
 unfold cmA at hlk
 have HB1:Hid (Below W.heap.size W w1):=hb1
 have HWA:Hid (∀w' sp,Below w1.heap.size w1 w'→(r=[]∨sp=some ⟨W.heap.size,1,none⟩)→WordsAt w' sp r):=fun w' sp hb hsp=>obey_words hcell hb hsp
 clear hsp hcell hv
 obtain⟨w2,hw2⟩:∃w2,w2=w1.alloc (.cells #[.string (bt form),.bool more,.bool early,.func (.func f) #[] caps] 87):=⟨_,rfl⟩
 have hb2:Below w1.heap.size w1 w2:=by rw[hw2];exact (Below.refl _ _).alloc (Nat.le_refl _) _
 have HB2:Hid (Below w1.heap.size w1 w2):=hb2
 have HK:Hid (CmAt w2 w1.heap.size form more early f caps):=by rw[hw2];exact⟨by simp,by simp,by simp,by simp⟩
 obtain⟨k0,k1,k2,k3⟩:=HK.out
 have hb0:Below w2.heap.size w2 w2.drew:=below_drewN (Below.refl _ _) 1
 clear hb1 hb2
 have hcal:∀w' sp sc,Below w2.heap.size w2 w'→(r=[]∨sp=some ⟨W.heap.size,1,none⟩)→Calls Tryz.prog 109 #[.agg #[.string (bt form),.bool more,.bool early,.func (.func f) #[] caps],.slice sp r.length sc] w' fun e w''=>∃pn cn ph ch,e=.returned (.tuple #[.agg #[.slice pn N.length cn,.slice ph H.length ch],.bool true])∧(w''.ownsRow w'.heap.size 3 1 (.slice pn N.length cn) N.length (N.map fun n=>.int .i64 (n:Nat))∧w''.ownsRow w'.heap.size 9 1 (.slice ph H.length ch) H.length (H.map Value.string)∧w2.heap.size≤w'.heap.size)∧Below w'.heap.size w' w''∧Below w2.heap.size w2 w'':=fun w' sp sc hb hsp=>(HRD.out w' sp sc (HS0.out.later (below_then (below_then HB1.out HB2.out) hb)) (HWA.out w' sp (below_then HB2.out hb) hsp)).mono fun _ _ ⟨⟨pn,cn,ph,ch,q1,q3,q4⟩,q2⟩=>⟨pn,cn,ph,ch,q1,⟨q3,q4,hb.size⟩,q2,below_then hb q2⟩
 have HX0:Hid (∀w',Below w2.heap.size w2 w'→w'.cell? ⟨p,0,none⟩=some (.pointer (some ⟨r0,0,none⟩))):=fun w' hb=>below_cell (below_then (below_then HB1.out HB2.out) hb) HX.out
 clear HRD HWA hwl HX
 by_cases hre:r=[]
 case' pos=>subst hre
 case' neg =>
  have hl0:¬r.length=0:=fun h=>hre (List.length_eq_zero_iff.1 h)
  have hi1:(1:Int)≤(r.length:Int)+1:=by omega
 all_goals
  go_wp2_with fail
  rw[←hw2]
  clear hw2
  go_region_held3 (fun w'=>w'.cell? ⟨w1.heap.size,0,none⟩=some (.string (bt form))∧w'.cell? ⟨w1.heap.size,1,none⟩=some (.bool more)∧w'.cell? ⟨w1.heap.size,2,none⟩=some (.bool early)∧w'.cell? ⟨w1.heap.size,3,none⟩=some (.func (.func f) #[] caps))
   (first|exact HK.out.later (by first|assumption|exact below_al (by assumption) _|exact below_ald _|exact ((by assumption:Below w2.heap.size w2 w3).setCell (Nat.le_refl _) _).setCell (Nat.le_refl _) _))
   (first
    | (go_at_call 109;refine (hcal _ _ _ (by first|assumption|exact below_ald _) (by first|exact Or.inr rfl|simp)).mono ?_;rintro e w3 ⟨pn,cn,ph,ch,rfl,hrow,hb3,hb3'⟩;try (have hcf:=al_cells hb3;obtain⟨c0',c1',f0',f1'⟩:=hcf)))
  ·obtain⟨ron,roh,rle⟩:=hrow
   have hbf:Below w2.heap.size w2 (w3.alloc (.cells #[.slice pn N.length cn,.slice ph H.length ch] 83)):=below_al hb3' _
   obtain⟨wb,hwb⟩:∃wb,wb=w3.heap.size:=⟨_,rfl⟩
   have HW:Hid (WfIs w2 (w3.alloc (.cells #[.slice pn N.length cn,.slice ph H.length ch] 83)) wb (.slice pn N.length cn) (.slice ph H.length ch) N H):=by rw[hwb];exact⟨hbf,by simp,by simp,owns_base (ron.alloc _) rle,owns_base (roh.alloc _) rle⟩
   clear ron roh rle hb3 hb3' hbf hcal
   generalize (w3.alloc (.cells #[.slice pn N.length cn,.slice ph H.length ch] 83))=wf at *
   rw[←hwb]
   clear hwb
   obtain⟨hbf,g0,g1,on,oh⟩:=HW.out
   obtain⟨k0',k1',k2',k3'⟩:=HK.out.later hbf
   have x0:=HX0.out wf hbf
   have hclo:=HCLO.out wf _ _ (below_then (below_then HB1.out HB2.out) hbf) _ (Nat.le_trans HB1.out.size HB2.out.size) on oh
   clear HX0 HW k0 k1 k2 k3 hb0 c0 hlk HCLO hbf on oh
   go_wp2_with (go_at_fn f;refine hclo.mono ?_;rintro e w5 ⟨tv,ev,rfl,hE5⟩)
   have HE5:Hid (LineE w0 a p q m F st s W (.returned (.tuple #[.string tv,ev])) w5):=hE5
   clear hclo hE5
   go_ret2
   exact HE5.out
  ·obtain⟨ron,roh,rle⟩:=hrow
   have hbf:Below w2.heap.size w2 ((w3.setCell ⟨w2.heap.size,0,none⟩ (.slice pn N.length cn)).setCell ⟨w2.heap.size,1,none⟩ (.slice ph H.length ch)):=(hb3'.setCell (p:=⟨w2.heap.size,0,none⟩) (Nat.le_refl _) _).setCell (p:=⟨w2.heap.size,1,none⟩) (Nat.le_refl _) _
   have rlt:w2.heap.size<((w2.alloc (.cells #[.slice none 0 0,.slice none 0 0] 83)).drew).heap.size:=by simp
   obtain⟨wb,hwb⟩:∃wb,wb=w2.heap.size:=⟨_,rfl⟩
   have HW:Hid (WfIs w2 ((w3.setCell ⟨w2.heap.size,0,none⟩ (.slice pn N.length cn)).setCell ⟨w2.heap.size,1,none⟩ (.slice ph H.length ch)) wb (.slice pn N.length cn) (.slice ph H.length ch) N H):=by rw[hwb];exact⟨hbf,(by rw[World.cell?_setCell_other _ _ _ _ (by simp)];exact World.cell?_setCell_same' _ _ _ (by rw[c0'];rfl)),World.cell?_setCell_same' _ _ _ (by rw[World.cell?_setCell_other _ _ _ _ (by simp),c1'];rfl),owns_base (howns_setCell (howns_setCell ron rlt _) rlt _) rle,owns_base (howns_setCell (howns_setCell roh rlt _) rlt _) rle⟩
   clear ron roh rle hb3 hb3' hbf hcal rlt c0' c1' f0' f1'
   generalize ((w3.setCell ⟨w2.heap.size,0,none⟩ (.slice pn N.length cn)).setCell ⟨w2.heap.size,1,none⟩ (.slice ph H.length ch))=wf at *
   rw[←hwb]
   clear hwb
   obtain⟨hbf,g0,g1,on,oh⟩:=HW.out
   obtain⟨k0',k1',k2',k3'⟩:=HK.out.later hbf
   have x0:=HX0.out wf hbf
   have hclo:=HCLO.out wf _ _ (below_then (below_then HB1.out HB2.out) hbf) _ (Nat.le_trans HB1.out.size HB2.out.size) on oh
   clear HX0 HW k0 k1 k2 k3 hb0 c0 hlk HCLO hbf on oh
   go_wp2_with (go_at_fn f;refine hclo.mono ?_;rintro e w5 ⟨tv,ev,rfl,hE5⟩)
   have HE5:Hid (LineE w0 a p q m F st s W (.returned (.tuple #[.string tv,ev])) w5):=hE5
   clear hclo hE5
   go_ret2
   exact HE5.out
theorem obey_early (w0 W:World)(a:Nat→Addr)(p q m:Nat)(F:Nat→Prop)(st:Option Sc)(s wd:List UInt8)(r:List (List UInt8))(hs:s.length≤5000)(hcut:cutL 32 s=wd :: r)(hP:PlC w0 a p q m F W)(hI:PlIs st F p W)(hn:∀S,st=some S→S.hosts≠[])(form:List UInt8)(more:Bool)(f:Nat)(caps:Array Value)(hv:(bt wd,cmA form more true (.func (.func f) #[] caps))∈cmTab q)(hE:EntR q wd form more true f caps)(N:List Nat)(H:List ByteArray)(hr:readW form more r=some (N,H))(j:Nat)(hB:StB st j)(hj:j≤100)(hFl:∀b,F b→b<W.heap.size)(hx0:W.cell? ⟨p,0,none⟩=some (.pointer none))(hne:true=false→st≠none) :
  Calls Tryz.prog 60 #[.pointer (some ⟨p,0,none⟩),.map (some m),.string (bt s)] W (LineE w0 a p q m F st s W):=by
 have hsp:=split_any s 32 (by omega) W hP.ea.c
 have hwl:=cut_lens s hs
 rw[hcut] at hsp hwl
 have hcm:cmOf s=some ⟨wd,H,N⟩:=by rw[lineS_cm hcut hE.form_,hr];rfl
 have HMAP:Hid (MapIs W m (cmTab q)):=hP.map
 have HS0:Hid (EA a W):=hP.ea
 have HRD:Hid (∀w' sp sc,EA a w'→WordsAt w' sp r→Calls Tryz.prog 109 #[cmA form more true (.func (.func f) #[] caps),.slice sp r.length sc] w' fun e w''=>RdR N H e w' w''∧Below w'.heap.size w' w''):=fun w' sp sc he hw=>(readC_any a form more true _ sp sc r w' he.c he.e4 hE.pos hE.kind (by have:=hwl.1;simp only[List.length_cons] at this;omega) (fun x hx=>hwl.2 x (List.mem_cons_of_mem _ hx)) hw).mono fun _ _ ⟨q1,q2⟩=>by
  rcases q2 with⟨N',H',vn,vh,h1,h2,h3,h4⟩|⟨h1,_⟩
  ·rw[hr] at h1
   obtain⟨rfl,rfl⟩:N'=N∧H'=H:=by
    injection h1 with h1
    injection h1 with h5 h6
    exact⟨h5.symm,h6.symm⟩
   obtain⟨pn,cn,rfl⟩:=own_shape h3
   obtain⟨ph,ch,rfl⟩:=own_shape h4
   exact⟨⟨pn,cn,ph,ch,h2,h3,h4⟩,q1⟩
  ·rw[hr] at h1
   cases h1
 obtain⟨hh,nn,hok⟩:=cmOf_ok hcm
 have hHl:H.length<1000000:=by
  have h1:=readW_len hr
  have h2:=hwl.1
  rw[List.length_cons] at h2
  omega
 have HCLO:Hid (∀wf vn vh,Below W.heap.size W wf→∀B,W.heap.size≤B→wf.ownsRow B 3 1 vn N.length (N.map fun n=>.int .i64 (n:Nat))→wf.ownsRow B 9 1 vh H.length (H.map Value.string)→Calls Tryz.prog f (#[.agg #[vn,vh]]++caps) wf fun e w'=>∃tv ev,e=.returned (.tuple #[.string tv,ev])∧LineE w0 a p q m F st s W (.returned (.tuple #[.string tv,ev])) w'):=fun wf vn vh hb B hBW h1 h2=>(hE.clo_ w0 wf a p m F st j B N H vn vh hh nn (hP.later hb) (hI.later (fun h=>(hP.F0 p h).2.1 rfl) hn hb) hB hj hne hok hHl h1 h2 (fun b hf=>Nat.lt_of_lt_of_le (hFl b hf) hBW) (Nat.lt_of_lt_of_le hP.pl3 hBW)).mono fun e w' ⟨st',F',ans,q1,q2,q3,q4,q5,q6⟩=>by
  obtain⟨tv,ev,c,pl,rfl,q7⟩:=q2
  exact⟨tv,ev,rfl,st',F',ans,Or.inr ⟨_,hcm,q1⟩,⟨tv,ev,c,pl,rfl,q7⟩,q3,q4,fun b hb'=>(q5 b hb').elim Or.inl fun h=>Or.inr (Nat.le_trans hb.size h),(Tur.of_below hb).trans q6 fun b hb'=>Or.inl hb'⟩
 have eg:=hE.ent
 have HX:Hid (W.cell? ⟨p,0,none⟩=some (.pointer none)):=hx0
 clear hP hI hcut hcm hE hr hx0 hok hHl hne hB hFl
 go_enter Tryz.func60,Tryz.ntmps60
 go_wp2_with fail
 refine hsp.mono ?_
 rintro e w1 ⟨rfl,hb1,hl1,hcell⟩
 have c0:=hcell 0 (by simp)
 rw[List.getElem_cons_zero] at c0
 have hlk:=obey_look HMAP.out hb1 hv
 unfold cmA at hlk
 have HB1:Hid (Below W.heap.size W w1):=hb1
 have HWA:Hid (∀w' sp,Below w1.heap.size w1 w'→(r=[]∨sp=some ⟨W.heap.size,1,none⟩)→WordsAt w' sp r):=fun w' sp hb hsp=>obey_words hcell hb hsp
 clear hsp hcell hv
 obtain⟨w2,hw2⟩:∃w2,w2=w1.alloc (.cells #[.string (bt form),.bool more,.bool true,.func (.func f) #[] caps] 87):=⟨_,rfl⟩
 have hb2:Below w1.heap.size w1 w2:=by rw[hw2];exact (Below.refl _ _).alloc (Nat.le_refl _) _
 have HB2:Hid (Below w1.heap.size w1 w2):=hb2
 have HK:Hid (CmAt w2 w1.heap.size form more true f caps):=by rw[hw2];exact⟨by simp,by simp,by simp,by simp⟩
 obtain⟨k0,k1,k2,k3⟩:=HK.out
 have hb0:Below w2.heap.size w2 w2.drew:=below_drewN (Below.refl _ _) 1
 clear hb1 hb2
 have hcal:∀w' sp sc,Below w2.heap.size w2 w'→(r=[]∨sp=some ⟨W.heap.size,1,none⟩)→Calls Tryz.prog 109 #[.agg #[.string (bt form),.bool more,.bool true,.func (.func f) #[] caps],.slice sp r.length sc] w' fun e w''=>∃pn cn ph ch,e=.returned (.tuple #[.agg #[.slice pn N.length cn,.slice ph H.length ch],.bool true])∧(w''.ownsRow w'.heap.size 3 1 (.slice pn N.length cn) N.length (N.map fun n=>.int .i64 (n:Nat))∧w''.ownsRow w'.heap.size 9 1 (.slice ph H.length ch) H.length (H.map Value.string)∧w2.heap.size≤w'.heap.size)∧Below w'.heap.size w' w''∧Below w2.heap.size w2 w'':=fun w' sp sc hb hsp=>(HRD.out w' sp sc (HS0.out.later (below_then (below_then HB1.out HB2.out) hb)) (HWA.out w' sp (below_then HB2.out hb) hsp)).mono fun _ _ ⟨⟨pn,cn,ph,ch,q1,q3,q4⟩,q2⟩=>⟨pn,cn,ph,ch,q1,⟨q3,q4,hb.size⟩,q2,below_then hb q2⟩
 have HX0:Hid (∀w',Below w2.heap.size w2 w'→w'.cell? ⟨p,0,none⟩=some (.pointer none)):=fun w' hb=>below_cell (below_then (below_then HB1.out HB2.out) hb) HX.out
 clear HRD HWA hwl HX
 by_cases hre:r=[]
 case' pos=>subst hre
 case' neg =>
  have hl0:¬r.length=0:=fun h=>hre (List.length_eq_zero_iff.1 h)
  have hi1:(1:Int)≤(r.length:Int)+1:=by omega
 all_goals
  go_wp2_with fail
  rw[←hw2]
  clear hw2
  go_region_held3 (fun w'=>w'.cell? ⟨w1.heap.size,0,none⟩=some (.string (bt form))∧w'.cell? ⟨w1.heap.size,1,none⟩=some (.bool more)∧w'.cell? ⟨w1.heap.size,2,none⟩=some (.bool true)∧w'.cell? ⟨w1.heap.size,3,none⟩=some (.func (.func f) #[] caps))
   (first|exact HK.out.later (by first|assumption|exact below_al (by assumption) _|exact below_ald _|exact ((by assumption:Below w2.heap.size w2 w3).setCell (Nat.le_refl _) _).setCell (Nat.le_refl _) _))
   (first
    | (go_at_call 109;refine (hcal _ _ _ (by first|assumption|exact below_ald _) (by first|exact Or.inr rfl|simp)).mono ?_;rintro e w3 ⟨pn,cn,ph,ch,rfl,hrow,hb3,hb3'⟩;try (have hcf:=al_cells hb3;obtain⟨c0',c1',f0',f1'⟩:=hcf)))
  ·obtain⟨ron,roh,rle⟩:=hrow
   have hbf:Below w2.heap.size w2 (w3.alloc (.cells #[.slice pn N.length cn,.slice ph H.length ch] 83)):=below_al hb3' _
   obtain⟨wb,hwb⟩:∃wb,wb=w3.heap.size:=⟨_,rfl⟩
   have HW:Hid (WfIs w2 (w3.alloc (.cells #[.slice pn N.length cn,.slice ph H.length ch] 83)) wb (.slice pn N.length cn) (.slice ph H.length ch) N H):=by rw[hwb];exact⟨hbf,by simp,by simp,owns_base (ron.alloc _) rle,owns_base (roh.alloc _) rle⟩
   clear ron roh rle hb3 hb3' hbf hcal
   generalize (w3.alloc (.cells #[.slice pn N.length cn,.slice ph H.length ch] 83))=wf at *
   rw[←hwb]
   clear hwb
   obtain⟨hbf,g0,g1,on,oh⟩:=HW.out
   obtain⟨k0',k1',k2',k3'⟩:=HK.out.later hbf
   have x0:=HX0.out wf hbf
   have hclo:=HCLO.out wf _ _ (below_then (below_then HB1.out HB2.out) hbf) _ (Nat.le_trans HB1.out.size HB2.out.size) on oh
   clear HX0 HW k0 k1 k2 k3 hb0 c0 hlk HCLO hbf on oh
   go_wp2_with (go_at_fn f;refine hclo.mono ?_;rintro e w5 ⟨tv,ev,rfl,hE5⟩)
   have HE5:Hid (LineE w0 a p q m F st s W (.returned (.tuple #[.string tv,ev])) w5):=hE5
   clear hclo hE5
   go_ret2
   exact HE5.out
  ·obtain⟨ron,roh,rle⟩:=hrow
   have hbf:Below w2.heap.size w2 ((w3.setCell ⟨w2.heap.size,0,none⟩ (.slice pn N.length cn)).setCell ⟨w2.heap.size,1,none⟩ (.slice ph H.length ch)):=(hb3'.setCell (p:=⟨w2.heap.size,0,none⟩) (Nat.le_refl _) _).setCell (p:=⟨w2.heap.size,1,none⟩) (Nat.le_refl _) _
   have rlt:w2.heap.size<((w2.alloc (.cells #[.slice none 0 0,.slice none 0 0] 83)).drew).heap.size:=by simp
   obtain⟨wb,hwb⟩:∃wb,wb=w2.heap.size:=⟨_,rfl⟩
   have HW:Hid (WfIs w2 ((w3.setCell ⟨w2.heap.size,0,none⟩ (.slice pn N.length cn)).setCell ⟨w2.heap.size,1,none⟩ (.slice ph H.length ch)) wb (.slice pn N.length cn) (.slice ph H.length ch) N H):=by rw[hwb];exact⟨hbf,(by rw[World.cell?_setCell_other _ _ _ _ (by simp)];exact World.cell?_setCell_same' _ _ _ (by rw[c0'];rfl)),World.cell?_setCell_same' _ _ _ (by rw[World.cell?_setCell_other _ _ _ _ (by simp),c1'];rfl),owns_base (howns_setCell (howns_setCell ron rlt _) rlt _) rle,owns_base (howns_setCell (howns_setCell roh rlt _) rlt _) rle⟩
   clear ron roh rle hb3 hb3' hbf hcal rlt c0' c1' f0' f1'
   generalize ((w3.setCell ⟨w2.heap.size,0,none⟩ (.slice pn N.length cn)).setCell ⟨w2.heap.size,1,none⟩ (.slice ph H.length ch))=wf at *
   rw[←hwb]
   clear hwb
   obtain⟨hbf,g0,g1,on,oh⟩:=HW.out
   obtain⟨k0',k1',k2',k3'⟩:=HK.out.later hbf
   have x0:=HX0.out wf hbf
   have hclo:=HCLO.out wf _ _ (below_then (below_then HB1.out HB2.out) hbf) _ (Nat.le_trans HB1.out.size HB2.out.size) on oh
   clear HX0 HW k0 k1 k2 k3 hb0 c0 hlk HCLO hbf on oh
   go_wp2_with (go_at_fn f;refine hclo.mono ?_;rintro e w5 ⟨tv,ev,rfl,hE5⟩)
   have HE5:Hid (LineE w0 a p q m F st s W (.returned (.tuple #[.string tv,ev])) w5):=hE5
   clear hclo hE5
   go_ret2
   exact HE5.out
theorem PlC.bare {w0 W:World}{a:Nat→Addr}{p q m:Nat}{F:Nat→Prop}(h:PlC w0 a p q m F W):PlC w0 a p q m (fun _=>False) W:=⟨h.e,h.b,h.map,h.q0,h.pK,h.qp,h.mp,h.pl,h.pl3,h.fz,fun _ h=>h.elim⟩
theorem lineE_wide {w0 W:World}{a:Nat→Addr}{p q m:Nat}{F:Nat→Prop}{st:Option Sc}{s:List UInt8}{e:Ending}{W':World}(h:LineE w0 a p q m (fun _=>False) st s W e W'):LineE w0 a p q m F st s W e W':=by
 obtain⟨st',F',ans,h1,h2,h3,h4,h5,h6⟩:=h
 exact⟨st',F',ans,h1,h2,h3,h4,fun b hb=>(h5 b hb).elim False.elim Or.inr,h6.wideP fun b hb=>hb.elim False.elim Or.inr⟩
theorem obey_any (w0 W:World)(a:Nat→Addr)(p q m:Nat)(F:Nat→Prop)(st:Option Sc)(s:List UInt8)(hs:s.length≤5000)(hP:PlC w0 a p q m F W)(hI:PlIs st F p W)(j:Nat)(hB:StB st j)(hj:j≤100) :
  Calls Tryz.prog 60 #[.pointer (some ⟨p,0,none⟩),.map (some m),.string (bt s)] W (LineE w0 a p q m F st s W):=by
 have hn:∀S,st=some S→S.hosts≠[]:=fun S hS=>(hB S hS).ok.ne
 obtain⟨wd,r,hcut⟩:=cut_some s
 by_cases hf:∃v,(bt wd,v)∈cmTab q
 ·obtain⟨v,hv⟩:=hf
  obtain⟨form,more,early,f,caps,rfl,hE⟩:=tab_found hv
  cases hr:readW form more r with
  | none=>exact obey_bad w0 W a p q m F st s wd r hs hcut hP hI hn form more early f caps hv hE hr
  | some NH =>
   obtain⟨N,H⟩:=NH
   rcases hI with⟨rfl,hN⟩|⟨S,r0,g,cap,rfl,hY⟩
   ·cases early with
    | false=>exact obey_none w0 W a p q m F none s wd r hs hcut hP (Or.inl ⟨rfl,hN⟩) hn form more f caps hv hE N H hr rfl
    | true =>
     refine Calls.mono ?_ fun e W' h=>lineE_wide (F:=F) h
     exact obey_early w0 W a p q m _ none s wd r hs hcut hP.bare (Or.inl ⟨rfl,hN⟩) hn form more f caps hv hE N H hr j hB hj (fun _ h=>h.elim) hN.c0 (fun h=>by cases h)
   ·have hI:PlIs (some S) F p W:=Or.inr ⟨S,r0,g,cap,rfl,hY⟩
    exact obey_some w0 W a p q m F _ s wd r hs hcut hP hI hn form more early f caps hv hE N H hr j hB hj hY.rep.lt r0 hY.c0 (fun _=>by simp)
 ·exact obey_miss w0 W a p q m F st s wd r hs hcut hP hI hn fun v hv=>hf ⟨v,hv⟩
theorem answerS_any (w0 W:World)(a:Nat→Addr)(p q m:Nat)(F:Nat→Prop)(st:Option Sc)(s:List UInt8)(hs:s.length≤5000)(hP:PlC w0 a p q m F W)(hI:PlIs st F p W)(j:Nat)(hB:StB st j)(hj:j≤100) :
  Calls Tryz.prog 16 #[.pointer (some ⟨p,0,none⟩),.map (some m),.string (bt s)] W fun e W'=>∃st' F' ans,e=.returned (.string (bt ans))∧LineR nwB st s st' ans∧PlC w0 a p q m F' W'∧PlIs st' F' p W'∧(∀b,F' b→F b∨W.heap.size≤b)∧Tur (fun b=>F b∨b=p) W W':=by
 have ho:=obey_any w0 W a p q m F st s hs hP hI j hB hj
 have me:=methodE
 have mf:=methodF
 clear hP hI hB
 go_enter Tryz.func16,Tryz.ntmps16
 go_wp2_with fail
 refine ho.mono ?_
 rintro e w1 ⟨st',F',ans,h1,⟨tv,ev,c,pl,rfl,hev,hc⟩,h3,h4,h5,h6⟩
 have HT:Hid (ErrT a w1):=h3.ea.t
 have HP:Hid (LineR nwB st s st' ans∧PlC w0 a p q m F' w1∧PlIs st' F' p w1∧(∀b,F' b→F b∨W.heap.size≤b)∧Tur (fun b=>F b∨b=p) W w1):=⟨h1,h3,h4,h5,h6⟩
 clear ho h1 h3 h4 h5 h6
 rcases hc with⟨rfl,rfl⟩|⟨hc,ha,ht⟩
 ·obtain rfl:ev=.nilIface:=by
   rcases hev with⟨_,_,h⟩|⟨i,_,h,_⟩
   ·exact h
   ·omega
  clear hev
  go_wp2
  go_ret
  obtain⟨q1,q2⟩:=HP.out
  exact⟨st',F',ans,rfl,q1,q2⟩
 ·rcases hev with⟨h,_⟩|⟨i,hi,rfl,⟨_,rfl⟩|⟨b,rfl,_,hb1⟩⟩
  ·exact absurd h hc
  ·have hct:=HT.out i ht
   have hse:=sent_error (a i) _ w1 hct
   rw[Nat.add_sub_cancel] at ht
   have HA:Hid (ans=errT (i+1)):=ha
   clear hct ha ht hc
   go_wp2_with fail
   refine hse.mono ?_
   rintro e w2 ⟨rfl,rfl⟩
   clear hse
   go_wp2
   go_ret
   obtain⟨q1,q2⟩:=HP.out
   exact⟨st',F',ans,by rw[HA.out];rfl,q1,q2⟩
  ·have hct:=HT.out i ht
   have hse:=fault_error b (a i) _ w1 hb1 hct
   have HA:Hid (ans=errT (i+1)):=ha
   clear hct ha ht hc hb1
   go_wp2_with fail
   refine hse.mono ?_
   rintro e w2 ⟨rfl,rfl⟩
   clear hse
   go_wp2
   go_ret
   obtain⟨q1,q2⟩:=HP.out
   exact⟨st',F',ans,by rw[HA.out];rfl,q1,q2⟩
theorem lineR_bndS {st st':Option Sc}{s ans:List UInt8}{j:Nat}(h:StB st j)(hL:LineR nwB st s st' ans):StB st' (j+1):=by
 rcases hL with⟨_,rfl,_⟩|⟨c,hc,hr⟩
 ·exact fun S hS=>(h S hS).more
 ·obtain⟨hh,n,hok⟩:=cmOf_ok hc
  exact cmR_bnd (fun k hx _=>nwB_in k hx) h hok hr
structure RunI (w0:World)(a:Nat→Addr)(p q m ab n:Nat)(ls:List ByteArray)(k:Nat)(W:World)(st:Option Sc)(F:Nat→Prop)(rs:List (List UInt8)):Prop where
 c:PlC w0 a p q m F W
 i:PlIs st F p W
 b:StB st k
 l:LinesR nwB none ((ls.take k).map tx) rs st
 len:rs.length=k
 row:TxtRow W ab (rs.map bt++List.replicate (n - k) ByteArray.empty)
 abF:¬F ab
 abp:ab≠p
 abK:w0.heap.size≤ab
 abq:ab≠q
 abm:ab≠m
 ab3:ab=p+3
theorem RunI.step {w0:World}{a:Nat→Addr}{p q m ab n:Nat}{ls:List ByteArray}{k:Nat}{W W':World}{st st':Option Sc}{F F':Nat→Prop}{rs:List (List UInt8)}{ans:List UInt8}(h:RunI w0 a p q m ab n ls k W st F rs)(hk:k<ls.length)(hn:ls.length=n)(hL:LineR nwB st (tx (ls[k]'hk)) st' ans)(hc:PlC w0 a p q m F' W')(hi:PlIs st' F' p W')(hF:∀b,F' b→F b∨W.heap.size≤b)(hT:Tur (fun b=>F b∨b=p) W W') :
  (∃y,W'.cell? ⟨ab,k,none⟩=some (.string y))∧W'.frozen? ⟨ab,k,none⟩=false∧RunI w0 a p q m ab n ls (k+1) (W'.setCell ⟨ab,k,none⟩ (.string (bt ans))) st' F' (rs++[ans]):=by
 have hal:=h.row.lt
 have hno:¬(F ab∨ab=p):=fun q=>q.elim h.abF h.abp
 have hrow:TxtRow W' ab (rs.map bt++List.replicate (n - k) ByteArray.empty):=h.row.same (hT.block ab hal hno)
 have hlr:k<(rs.map bt++List.replicate (n - k) ByteArray.empty).length:=by
  rw[List.length_append,List.length_map,List.length_replicate,h.len]
  omega
 have habF':¬F' ab:=fun q=>by
  rcases hF ab q with q|q
  ·exact h.abF q
  ·omega
 have hTs:Tur (fun b=>b=ab) W' (W'.setCell ⟨ab,k,none⟩ (.string (bt ans))):=tur_setP _ ab k _
 refine⟨⟨_,hrow.cell hlr⟩,hrow.frozen k,⟨?_,?_,lineR_bndS h.b hL,?_,by simp[h.len],?_,habF',h.abp,h.abK,h.abq,h.abm,h.ab3⟩⟩
 ·have hpl:=hc.pl
  refine⟨hc.e,hTs.below (fun b hb=>by have e:b=ab:=hb;rw[e];exact h.abK) hc.b (Nat.le_refl _),hc.map.same (hTs.block m hc.map.lt fun e=>h.abm e.symm),?_,hc.pK,hc.qp,hc.mp,Nat.lt_of_lt_of_le hpl hTs.size,Nat.lt_of_lt_of_le hc.pl3 hTs.size,fun i=>by rw[World.frozen?_setCell];exact hc.fz i,hc.F0⟩
  exact foot_cellS hTs (fun e=>h.abq e.symm) hc.q0
 ·have hpa:¬p=ab:=fun e=>h.abp e.symm
  rcases hi with⟨q1,q2⟩|⟨S,r,g,cap,q1,q2⟩
  ·exact Or.inl ⟨q1,foot_cellS hTs hpa q2.c0,foot_cellS hTs hpa q2.c1,foot_cellS hTs hpa q2.c2⟩
  ·have hga:¬g=ab:=by have e1:=q2.gl;have e2:=h.ab3;omega
   exact Or.inr ⟨S,r,g,cap,q1,foot_cellS hTs hpa q2.c0,foot_cellS hTs hpa q2.c1,foot_cellS hTs hpa q2.c2,q2.rep.stay fun b hf=>hTs.block b (q2.rep.lt b hf) fun e=>habF' (by have e:b=ab:=e;rw[←e];exact hf),fun i hi=>foot_cellS hTs hga (q2.hst i hi),q2.cp,q2.gF,q2.gp,q2.gl⟩
 ·rw[List.take_succ_eq_append_getElem hk,List.map_append]
  exact linesR_snoc h.l hL
 ·have h1:=hrow.set k (bt ans)
  have h2:n - k=(n - (k+1))+1:=by omega
  rw[h2,List.replicate_succ,List.set_append_right _ _ (by rw[List.length_map,h.len];exact Nat.le_refl _),List.length_map,h.len,Nat.sub_self,List.set_cons_zero] at h1
  rw[List.map_append,List.append_assoc]
  exact h1
theorem run_many (a:Nat→Addr)(v:Value)(ls:List ByteArray)(W:World)(he:Errs1 a W)(hv:Strs1 W v ls)(hl:100<ls.length) :
  Calls Tryz.prog 7 #[v] W fun e W'=>∃p c,e=.returned (.tuple #[.slice p 0 c,.iface 378 (.pointer (some (a 1)))])∧Below W.heap.size W W':=by
 obtain⟨qp,qc,rfl,_⟩:=strs1_sl hv
 have s1:=he.s1
 have hi:(100:Int)<(ls.length:Int):=by omega
 have hb:Below W.heap.size W W.drew:=below_drewN (Below.refl _ _) 1
 clear hv he
 go_enter Tryz.func7,Tryz.ntmps7
 go_wp2_with fail
 go_region
 go_wp2
 go_ret2
 exact⟨_,_,rfl,hb⟩
theorem run_lines (a:Nat→Addr)(v:Value)(ls:List ByteArray)(W:World)(he:EA a W)(hv:Strs1 W v ls)(hl:ls.length≤100)(hsz:∀s∈ls,s.size≤5000) :
  Calls Tryz.prog 7 #[v] W fun e W'=>∃(rs:List (List UInt8)) (st:Option Sc) (v':Value),e=.returned (.tuple #[v',.nilIface])∧Strs1 W' v' (rs.map bt)∧LinesR nwB none (ls.map tx) rs st∧Below W.heap.size W W':=by
 obtain⟨qp,qc,rfl,hcl⟩:=strs1_sl hv
 obtain⟨n,hn⟩:∃n,ls.length=n:=⟨_,rfl⟩
 have HN:Hid (ls.length=n):=hn
 have HCL:Hid (∀j (h:j<ls.length),∃b o,qp=some ⟨b,o,none⟩∧W.cell? ⟨b,o+j,none⟩=some (.string ls[j])):=hcl
 have HSZ:Hid (∀s∈ls,s.size≤5000):=hsz
 have hl0:¬(100:Int)<(n:Int):=by omega
 have hl1:n≤100:=by omega
 obtain⟨i0,hi0,hz0,hz1,hz2⟩:=info_parts infoS
 have hbyt:i0.bytes*n≤281474976710656:=by rw[hz2];omega
 have hmax:n≤maxLen:=by unfold maxLen;omega
 obtain⟨w1,hw1⟩:∃w1,w1=W.alloc (.cells #[.pointer none,.slice none 0 0,.int .i64 0] 51):=⟨_,rfl⟩
 have hb1:Below W.heap.size W w1:=by rw[hw1];exact (Below.refl _ _).alloc (Nat.le_refl _) _
 have hs1:w1.heap.size=W.heap.size+1:=by rw[hw1];simp
 have p0:w1.cell? ⟨W.heap.size,0,none⟩=some (.pointer none):=by rw[hw1];simp
 have p1:w1.cell? ⟨W.heap.size,1,none⟩=some (.slice none 0 0):=by rw[hw1];simp
 have p2:w1.cell? ⟨W.heap.size,2,none⟩=some (.int .i64 0):=by rw[hw1];simp
 have pf:∀k,w1.frozen? ⟨W.heap.size,k,none⟩=false:=fun k=>by rw[hw1];simp
 have hcm:=commands_any W.heap.size w1
 rw[hs1] at hcm
 have HP:Hid (Below W.heap.size W w1∧w1.heap.size=W.heap.size+1∧w1.cell? ⟨W.heap.size,0,none⟩=some (.pointer none)∧w1.cell? ⟨W.heap.size,1,none⟩=some (.slice none 0 0)∧w1.cell? ⟨W.heap.size,2,none⟩=some (.int .i64 0)∧∀k,w1.frozen? ⟨W.heap.size,k,none⟩=false):=⟨hb1,hs1,p0,p1,p2,pf⟩
 have HE:Hid (EA a W):=he
 rw[hn]
 clear hb1 hs1 p0 p1 p2 pf he hv hcl hsz hn hl
 go_enter Tryz.func7,Tryz.ntmps7
 go_wp2_with fail
 rw[←hw1]
 clear hw1
 refine hcm.mono ?_
 rintro e w2 ⟨rfl,hM,hq0,hb2,hz2s⟩
 have HM:Hid (MapIs w2 (W.heap.size+1+1) (cmTab (W.heap.size+1))∧w2.cell? ⟨W.heap.size+1,0,none⟩=some (.pointer (some ⟨W.heap.size,0,none⟩))∧Below (W.heap.size+1) w1 w2∧w2.heap.size=W.heap.size+1+2):=⟨hM,hq0,hb2,hz2s⟩
 clear hcm hM hq0 hb2 hz2s
 go_wp2_with (at_make;refine wpList_make_full _ rfl _ _ 22 rfl w2.heap.size 9 i0 _ 1 Tryz.underlying22 hi0 hz0 hz1 _ _ _ _ n rfl rfl rfl rfl hbyt hmax (Nat.le_refl _) ?_)
 intro w3 hown hgrow
 rw[made_texts] at hown
 have hb3:Below w2.heap.size w2 w3:=below_grown hgrow (fun k h=>by cases h)
 have hrow0:=TxtRow.of_owns hown
 obtain⟨hb1,hs1,p0,p1,p2,pf⟩:=HP.out
 obtain⟨hM,hq0,hb2,hs2⟩:=HM.out
 obtain⟨ab,hab⟩:∃ab,ab=w2.heap.size:=⟨_,rfl⟩
 obtain⟨p,hp⟩:∃p,p=W.heap.size:=⟨_,rfl⟩
 have hb23:Below w1.heap.size w1 w3:=by
  rw[hs1]
  exact hb2.trans (hb3.mono (by omega))
 have hs3:=hb3.size
 have hr3:=hrow0.lt
 have hplt:p<w1.heap.size:=by omega
 have HRI:Hid (RunI W a p (p+1) (p+1+1) ab n ls 0 w3 none (fun _=>False) []):=by
  show RunI _ _ _ _ _ _ _ _ _ _ _ _ _
  refine⟨⟨HE.out,below_then hb1 hb23,?_,?_,by omega,by omega,by omega,by omega,by omega,fun k=>?_,fun _ h=>h.elim⟩,Or.inl ⟨rfl,?_,?_,?_⟩,(fun S h=>by cases h),⟨rfl,rfl⟩,rfl,?_,id,by omega,by omega,by omega,by omega,by omega⟩
  ·rw[hp]
   exact hM.same (hb3.block _ hM.lt)
  ·rw[hp]
   exact below_cell hb3 hq0
  ·rw[hp]
   rw[hp] at hplt
   exact (World.frozen?_of_block (w:=w1) (w':=w3) (a:=⟨W.heap.size,k,none⟩) (hb23.block _ hplt)).trans (pf k)
  ·rw[hp]
   exact below_cell hb23 p0
  ·rw[hp]
   exact below_cell hb23 p1
  ·rw[hp]
   exact below_cell hb23 p2
  ·rw[hab]
   exact hrow0
 rw[←hab,←hp]
 clear hown hgrow hrow0 hb3 hb1 hs1 p0 p1 p2 pf hM hq0 hb2 hs2 hb23 hs3 hr3 hplt hp hab HP HM
 go_wp2_with fail
 go_loopw [7,8,22] (fun _ _ u22 Wj=>∃(j:Nat) (st:Option Sc) (F:Nat→Prop) (rs:List (List UInt8)),j≤n∧u22=.int .i64 (j:Nat)∧RunI W a p (p+1) (p+1+1) ab n ls j Wj st F rs) (fun _ _ u22 _=>n - (intOf u22).toNat)
 case atStart=>exact⟨0,none,_,[],Nat.zero_le _,rfl,HRI.out⟩
 case round =>
  obtain⟨j,st,F,rs,hjn,rfl,hR⟩:=hrel
  obtain⟨wo,hwo⟩:∃wo,wo=wr:=⟨_,rfl⟩
  subst hwo
  have HR:Hid (RunI W a p (p+1) (p+1+1) ab n ls j wo st F rs):=hR
  clear HRI
  by_cases hlt:j<n
  ·have hls:j<ls.length:=by rw[HN.out];exact hlt
   have hji:(j:Int)<(n:Int):=by omega
   obtain⟨b,o,hq,ck⟩:=HCL.out j hls
   subst hq
   have ckj:=below_cell hR.c.b ck
   have hans:=answerS_any W wo a p (p+1) (p+1+1) F st (tx (ls[j]'hls)) (by have h5:=HSZ.out _ (List.getElem_mem hls);rw[Lib.size_eq] at h5;exact h5) hR.c hR.i j hR.b (by omega)
   have e0:bt (tx (ls[j]'hls))=ls[j]'hls:=bt_back _
   rw[e0] at hans
   have HSTEP:Hid (∀w' st' F' ans,LineR nwB st (tx (ls[j]'hls)) st' ans→PlC W a p (p+1) (p+1+1) F' w'→PlIs st' F' p w'→(∀b,F' b→F b∨wo.heap.size≤b)→Tur (fun b=>F b∨b=p) wo w'→(∃y,w'.cell? ⟨ab,j,none⟩=some (.string y))∧w'.frozen? ⟨ab,j,none⟩=false∧RunI W a p (p+1) (p+1+1) ab n ls (j+1) (w'.setCell ⟨ab,j,none⟩ (.string (bt ans))) st' F' (rs++[ans])):=fun w' st' F' ans q1 q2 q3 q4 q5=>HR.out.step hls HN.out q1 q2 q3 q4 q5
   generalize tx (ls[j]'hls)=tl at *
   generalize ls[j]'hls=sl at *
   clear hR ck e0
   go_wp2_with fail
   refine hans.mono ?_
   rintro e w4 ⟨st',F',ans,rfl,q1,q2,q3,q4,q5⟩
   obtain⟨⟨y,cy⟩,fy,hR'⟩:=HSTEP.out w4 st' F' ans q1 q2 q3 q4 q5
   have HR':Hid (RunI W a p (p+1) (p+1+1) ab n ls (j+1) (w4.setCell ⟨ab,j,none⟩ (.string (bt ans))) st' F' (rs++[ans])):=hR'
   clear hans q1 q2 q3 q4 q5 hR' HSTEP ckj
   go_wp2_with fail
   exact⟨⟨j+1,st',F',rs++[ans],by omega,by go_num,HR'.out⟩,by simp[intOf];omega⟩
  ·obtain rfl:j=n:=by omega
   clear hR
   go_wp2_with fail
   go_ret2
   have hR:=HR.out
   have hrow:=hR.row
   rw[Nat.sub_self,List.replicate_zero,List.append_nil] at hrow
   have hst:=hrow.strs
   rw[List.length_map,hR.len] at hst
   have hli:=hR.l
   rw[List.take_of_length_le (by rw[HN.out];exact Nat.le_refl _)] at hli
   exact⟨rs,st,_,rfl,hst,hli,hR.c.b⟩
def scriptC:ScriptC where
 E:=EA
 eLater:=fun h hb=>h.later hb
 nw:=nwB
 nwIn:=fun k h _=>nwB_in k h
 run:=fun a v ls W he hv hl hs=>run_lines a v ls W he hv hl hs
 many:=fun a v ls W he hv h1 _=>run_many a v ls W ⟨he.b.e5.s1⟩ hv h1
theorem sent_text {P:Program}{W:World}{ti tp te ts:TypeId}{ms:Array (String × TypeId)}{f:Field}
  (hi : P.underlying ti = some (.interface ms)) (hrow : ∀ u, P.typeName? 3 u = some "*errors.errorString" → u = tp)
  (hp:P.underlying tp=some (.pointer te)) (he:P.underlying te=some (.struct #[f])) (hft:f.type=ts) (hfo:f.offset=0) (hs:P.underlying ts=some .string) (hc:P.cellsOf te=1) (hcs:P.cellsOf ts=1)
  (all:List MemPlace) (hrows:∀b off,MemPlace.cell b off∈all→(∃c t,W.heap[b]?=some (.cells c t (0,0)))∧∀u v,W.cell? ⟨b,off,none⟩=some (.iface u v)→Value.okWide P W .any 0 u v) :
  ∀(l:List (String × List UInt8)) (ps:List MemPlace),(∀x∈l,∃g,P.globalNamed x.1=some g∧(P.globals[g]?).map (·.type)=some ti)→(∀m∈ps,m∈all) →
   DataW.LaidVars P W (sentList l) ps →
   ∀i (h:i<l.length) (g:Nat) (ad:Addr),P.globalNamed l[i].1=some g→W.cell? ⟨g,0,none⟩=some (.iface tp (.pointer (some ad)))→W.cell? ad=some (.string (bt l[i].2))
 | [],ps,_,_,_=>fun i h=>absurd h (Nat.not_lt_zero i)
 | x :: r,ps,hg,hin,hl=>by
  obtain⟨g,t,cs,fuel,p,q,h1,h2,h3,h4,h5,rfl⟩:=hl
  obtain⟨g',hg1,hg2⟩:=hg x (List.mem_cons_self ..)
  obtain rfl:=Option.some.inj (hg1.symm.trans h1)
  obtain rfl:=Option.some.inj (hg2.symm.trans h2)
  obtain⟨l0⟩:=cs
  have ok0:∀u v,l0=[.iface u v]→Value.okWide P W .any 0 u v:=fun u v e=>by
   subst e
   exact (hrows g' 0 (hin _ (by simp[MemPlace.row]))).2 u v (by simpa using World.var?_cell h1 h3 0)
  obtain⟨a,s,rfl,hcell,htx,_,rfl⟩:=errorString_of_trod hi hrow hp he hft hfo hs hc hcs h4 ok0
  have ih:=sent_text hi hrow hp he hft hfo hs hc hcs all hrows r q (fun y hy=>hg y (List.mem_cons_of_mem _ hy)) (fun m hm=>hin m (List.mem_append_right _ hm)) h5
  intro i h gi ad hgi hci
  cases i with
  | zero =>
   have hgi':P.globalNamed x.1=some gi:=hgi
   obtain rfl:=Option.some.inj (hgi'.symm.trans h1)
   have h6:W.cell? ⟨gi,0,none⟩=some (.iface tp (.pointer (some a))):=by simpa using World.var?_cell h1 h3 0
   rw[h6] at hci
   simp only[Option.some.injEq,Value.iface.injEq,Value.pointer.injEq,true_and] at hci
   subst hci
   rw[hcell]
   show some (Value.string s)=some (Value.string (bt x.2))
   rw[←htx]
   exact congrArg (fun z=>some (Value.string z)) (bt_back s).symm
  | succ i=>exact ih i (by simpa using h) gi ad hgi hci
theorem text_at {l:List (String × List UInt8)}{W:World}(h:laidMet Tryz.prog (sentList l) W)(hg:∀x∈l,∃g,Tryz.prog.globalNamed x.1=some g∧(Tryz.prog.globals[g]?).map (·.type)=some 25) :
  ∀i (h:i<l.length) (g:Nat) (ad:Addr),Tryz.prog.globalNamed l[i].1=some g→W.cell? ⟨g,0,none⟩=some (.iface 378 (.pointer (some ad)))→W.cell? ad=some (.string (bt l[i].2)):=by
 obtain⟨ps,hl,_,hrows⟩:=h
 exact sent_text Tryz.underlying25 rowE Tryz.underlying378 Tryz.underlying380 rfl rfl Tryz.underlying9 cellsE cellsS ps hrows l ps hg (fun _ hm=>hm) hl
def api7:List (String × List UInt8):=[
 ("levelhand/api.ErrText", [108, 101, 118, 101, 108, 104, 97, 110, 100, 58, 32, 116, 101, 120, 116]),
 ("levelhand/api.ErrBound", [108, 101, 118, 101, 108, 104, 97, 110, 100, 58, 32, 98, 111, 117, 110, 100]),
 ("levelhand/api.ErrShape", [108, 101, 118, 101, 108, 104, 97, 110, 100, 58, 32, 115, 104, 97, 112, 101]),
 ("levelhand/api.ErrName", [108, 101, 118, 101, 108, 104, 97, 110, 100, 58, 32, 110, 97, 109, 101]),
 ("levelhand/api.ErrNone", [108, 101, 118, 101, 108, 104, 97, 110, 100, 58, 32, 110, 111, 110, 101]),
 ("levelhand/api.ErrExist", [108, 101, 118, 101, 108, 104, 97, 110, 100, 58, 32, 101, 120, 105, 115, 116]),
 ("levelhand/api.ErrOld", [108, 101, 118, 101, 108, 104, 97, 110, 100, 58, 32, 111, 108, 100])]
theorem gApi7:∀x∈api7,∃g,Tryz.prog.globalNamed x.1=some g∧(Tryz.prog.globals[g]?).map (·.type)=some 25:=by
 intro x hx
 simp only[api7,List.mem_cons,List.not_mem_nil,or_false] at hx
 rcases hx with rfl|rfl|rfl|rfl|rfl|rfl|rfl
 ·exact⟨1,by kernel_rfl,by kernel_rfl⟩
 ·exact⟨0,by kernel_rfl,by kernel_rfl⟩
 ·exact⟨2,by kernel_rfl,by kernel_rfl⟩
 ·exact⟨3,by kernel_rfl,by kernel_rfl⟩
 ·exact⟨4,by kernel_rfl,by kernel_rfl⟩
 ·exact⟨5,by kernel_rfl,by kernel_rfl⟩
 ·exact⟨7,by kernel_rfl,by kernel_rfl⟩
theorem ea_of7 {W:World}(x y z:String × DataW Unit)(h:laidMet Tryz.prog ([x]++(tabs2++([y]++(sentList api7++(sentList conv2++[z]))))) W)(hs:W.ShapedOpen Tryz.prog):∃a,EA a W:=by
 have h1:=laidMet_drop h
 obtain⟨hb,ht⟩:=tabs_of h1
 have h2:=laidMet_drop (laidMet_drop h1)
 obtain⟨ads,_,hc⟩:=sentCells (laidMet_take h2) gApi7
 have htx:=text_at (laidMet_take h2) gApi7
 obtain⟨hy,hr⟩:=conv_of (laidMet_take (laidMet_drop h2))
 have e0:=hc 0 (by decide) 1 (by kernel_rfl)
 have e1:=hc 1 (by decide) 0 (by kernel_rfl)
 have e2:=hc 2 (by decide) 2 (by kernel_rfl)
 have e3:=hc 3 (by decide) 3 (by kernel_rfl)
 have e4:=hc 4 (by decide) 4 (by kernel_rfl)
 have e5:=hc 5 (by decide) 5 (by kernel_rfl)
 have e7:=hc 6 (by decide) 7 (by kernel_rfl)
 have t0:=htx 0 (by decide) _ _ (by kernel_rfl) e0
 have t1:=htx 1 (by decide) _ _ (by kernel_rfl) e1
 have t2:=htx 2 (by decide) _ _ (by kernel_rfl) e2
 have t3:=htx 3 (by decide) _ _ (by kernel_rfl) e3
 have t4:=htx 4 (by decide) _ _ (by kernel_rfl) e4
 have t5:=htx 5 (by decide) _ _ (by kernel_rfl) e5
 have t7:=htx 6 (by decide) _ _ (by kernel_rfl) e7
 refine⟨fun i=>ads.getD (if i=7 then 6 else i) default,⟨⟨e1,e2,e3,e4,e5⟩,e7⟩,⟨e0,e1,e3,e5,hy,hr,ht,hb,mln_of hs⟩,fun j hj=>?_⟩
 rcases hj with rfl|rfl|rfl|rfl|rfl|rfl|rfl
 ·exact t0
 ·exact t1
 ·exact t2
 ·exact t3
 ·exact t4
 ·exact t5
 ·exact t7
end Go.Proofs.YtfhmfjcpggddkaaGreatDoor
namespace Go.Proofs.YtfhmfjcpggddkaaGreatDoor
open Go.ChangeShapes Go.WideShapes Go.ChangeAt Go.RowKit
theorem returnsShaped {H:Type}{enc:TypeId × Value→H}{a:Assume}{C:Checked}{os:Os}{f:FuncId}{fn:Func}{s:ChangeSpec}{conds:List PathCond}{apart fresh handsOn again:Bool}{X:World→Array Value→Prop}
  (hX:∀(w w':World) (args:Array Value),w.heap=w'.heap→X w args→X w' args)
  (own:ownKnob C.prog.godebug=none) (started:os.Started) (noInit:C.prog.inits.idxOf? f=none) (hfn:C.prog.funcs[f]?=some fn)
  (witness:∃(w:World) (tape:Tape) (i:Input),w.os=os∧(w.forCall tape i).Shaped C.prog∧i.vars=[]∧Input.okWide C.prog (w.forCall tape i) .any w.heap.size f i ∧
   ((s.pre enc C.prog fn conds apart (w.forCall tape i).memory i.args∧X (w.forCall tape i).memory i.args)∧sizedMet enc C.prog fn (OpenSpec.ofChange s) apart (w.forCall tape i).memory i.args)∧a.holds C.prog (lone (Frame.enter C.prog f i.args .normal) [] (w.forCall tape i)))
  (contract:∀(W:World) (base:Nat) (args:Array Value) (ds gs:List (DataW H)) (before:List MemPlace),
   (∀(j:Nat) t v,fn.params[j]?=some t→args[j]?=some v→Value.okWide C.prog W .any base t v) →
   DataW.Whole enc C.prog fn.params.toList s.vars apart W args.toList ds gs before →
   X W args→W.ShapedOpen C.prog →
   Calls C.prog f args W fun e W'=>∃v,e=.returned v∧s.post enc C.prog fn apart fresh handsOn again W args v W') :
  ReturnsInHanded a C os f .any (fun w args=>(s.pre enc C.prog fn conds apart w args∧X w args)∧sizedMet enc C.prog fn (OpenSpec.ofChange s) apart w args) (s.post enc C.prog fn apart fresh handsOn again):=by
 refine returnsInHanded_of_calls own started noInit witness ?_
 intro w tape i _ hsh _ hok hpre hholds
 obtain⟨_,_,_,fn',hfn',_,_,_,_,hval⟩:=hok
 have e:fn'=fn:=Option.some.inj (hfn'.symm.trans hfn)
 subst e
 obtain⟨⟨⟨ds,gs,before,hw,hc⟩,hx⟩,hz⟩:=hpre
 have hw':=DataW.Whole.of_heap (w':=w.forCall tape i) (by rfl) hw
 refine (contract (w.forCall tape i) w.heap.size i.args ds gs before hval hw' (hX _ _ _ (by rfl) hx) hsh).mono fun e W' ⟨v,he,hp⟩=>?_
 subst he
 exact ChangeSpec.post_blind hp
end Go.Proofs.YtfhmfjcpggddkaaGreatDoor
