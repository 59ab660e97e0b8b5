/- The law's model of a script: how many slots move. -/
import Derived.Test.YtfhmfjcpggddkaaGreatDoorM33
set_option maxHeartbeats 20000000
set_option maxRecDepth 100000
namespace Go.Proofs.YtfhmfjcpggddkaaGreatDoor
open Go.RowKit Lh
theorem asked_moves1 (m b o c:Nat)(xs ys:List ByteArray)(w:ByteArray)(hp:Option Addr)(hc nb no nc:Nat)(n:Nat)(W:World)(hH:Hst W m b o c xs)(hw:tx w=wMoves)(hY:Strs1 W (.slice hp ys.length hc) ys)(hyl:ys.length≤30)(hk:W.cell? ⟨nb,no,none⟩=some (.int .i64 (n:Nat)))(hn7:n≤9999999)
  (e1:Nat) (p1:Int) (hf1:TabFault xs (n:Nat) e1 p1) (h1:e1≠0) (h19:e1≤9)
  (hM:∀w',Below W.heap.size W w'→∀va vb,Strs1 w' va xs→Strs1 w' vb ys→Calls Tryz.prog 37 #[va,vb,.int .i64 (n:Nat)] w' fun e w''=>∃t x,e=.returned (.tuple #[.int .i64 0,.iface t x])∧Below w'.heap.size w' w'') :
  Calls Tryz.prog 30 #[.pointer (some ⟨m,0,none⟩),.agg #[.string w,.slice hp ys.length hc,.slice (some ⟨nb,no,none⟩) 1 nc]] W fun e w'=>e=.returned (.string (bt (errT e1)))∧Below W.heap.size W w':=by
 have q1:=word_not (s:=w) (w:=wTable) (by rw[hw];decide)
 have q2:=word_is (s:=w) (w:=wMoves) hw
 unfold wTable at q1
 unfold wMoves at q2
 clear hw
 obtain⟨wa,hwa⟩:∃wa,wa=W.alloc (.cells #[.string w,.slice hp ys.length hc,.slice (some ⟨nb,no,none⟩) 1 nc] 36):=⟨_,rfl⟩
 have hba:Below W.heap.size W wa:=by rw[hwa];exact (Below.refl _ _).alloc (Nat.le_refl _) _
 have k0:wa.cell? ⟨W.heap.size,0,none⟩=some (.string w):=by rw[hwa];simp
 have k1:wa.cell? ⟨W.heap.size,1,none⟩=some (.slice hp ys.length hc):=by rw[hwa];simp
 have k2:wa.cell? ⟨W.heap.size,2,none⟩=some (.slice (some ⟨nb,no,none⟩) 1 nc):=by rw[hwa];simp
 have hka:=below_cell hba hk
 have hH':=hH.later hba
 have hm1:=hH'.cell
 have HBA:Hid (Below W.heap.size W wa):=hba
 have HC:Hid (∀w',Below wa.heap.size wa w'→w'.cell? ⟨m,1,none⟩=some (.slice (some ⟨b,o,none⟩) xs.length c)∧w'.cell? ⟨W.heap.size,1,none⟩=some (.slice hp ys.length hc)∧w'.cell? ⟨W.heap.size,2,none⟩=some (.slice (some ⟨nb,no,none⟩) 1 nc)∧w'.cell? ⟨nb,no,none⟩=some (.int .i64 (n:Nat))):=fun w' hb=>⟨below_cell hb hm1,below_cell hb k1,below_cell hb k2,below_cell hb hka⟩
 have hb0:Below wa.heap.size wa wa.drew:=below_drewN (Below.refl _ _) 1
 have HH:Hid (Hst wa m b o c xs):=hH'
 have HY:Hid (Strs1 wa (.slice hp ys.length hc) ys):=hY.later hba
 have HO1:Hid (∀w',Below wa.heap.size wa w'→Calls Tryz.prog 80 #[.slice (some ⟨b,o,none⟩) xs.length c] w' fun e w''=>∃v',e=.returned v'∧(∀w2,Below w''.heap.size w'' w2→Strs1 w2 v' xs)∧Below wa.heap.size wa w''):=fun w' hb=>(ownTexts_any _ xs w' ((HH.out.later hb).strs) (by have:=HH.out.le;omega)).mono fun _ _ ⟨v',r1,r2,r3⟩=>⟨v',r1,fun w2 hb2=>r2.later hb2,below_then hb r3⟩
 have HO2:Hid (∀w',Below wa.heap.size wa w'→Calls Tryz.prog 80 #[.slice hp ys.length hc] w' fun e w''=>∃v',e=.returned v'∧Strs1 w'' v' ys∧Below w'.heap.size w' w''∧Below wa.heap.size wa w''):=fun w' hb=>(ownTexts_any _ ys w' (HY.out.later hb) (by omega)).mono fun _ _ ⟨v',r1,r2,r3⟩=>⟨v',r1,r2,r3,below_then hb r3⟩
 have HM:Hid (∀w',Below wa.heap.size wa w'→∀va vb,Strs1 w' va xs→Strs1 w' vb ys→Calls Tryz.prog 37 #[va,vb,.int .i64 (n:Nat)] w' fun e w''=>∃t x,e=.returned (.tuple #[.int .i64 0,.iface t x])∧Below wa.heap.size wa w''):=fun w' hb va vb ha hb'=>(hM w' (below_then hba hb) va vb ha hb').mono fun _ _ ⟨t,x,r1,r2⟩=>⟨t,x,r1,below_then hb r2⟩
 have HTF:Hid (∀w',Below wa.heap.size wa w'→Calls Tryz.prog 66 #[.slice (some ⟨b,o,none⟩) xs.length c,.int .i64 (n:Nat)] w' fun r w''=>r=.returned (.agg #[.int .i64 (e1:Nat),.int .i64 p1])∧Below w'.heap.size w' w''∧Below wa.heap.size wa w''):=fun w' hb=>(tableFault_any _ xs (n:Nat) w' e1 p1 ((HH.out.later hb).strs) hf1 (by omega) HH.out.sBig (by have:=HH.out.le;omega)).mono fun _ _ ⟨r1,r2⟩=>⟨r1,r2,below_then hb r2⟩
 have HET:Hid (∀w0 w' s,Below w0.heap.size w0 w'→Calls Tryz.prog 23 #[.int .i64 (e1:Nat),.string s] w' fun r w''=>r=.returned (.string (bt (errT e1)))∧Below w0.heap.size w0 w''):=fun w0 w' s hb=>(orElse_any e1 h19 s w').mono fun _ _ ⟨r1,r2⟩=>⟨by rw[r1,if_neg h1],below_then hb r2⟩
 have HDE:Hid (∀w0 w':World,Below w0.heap.size w0 w'→Calls Tryz.prog 19 #[.int .i64 0] w' fun r w''=>∃s,r=.returned (.string s)∧Below w0.heap.size w0 w''):=fun w0 w' hb=>(decimalM_any 0 (by decide) w').mono fun _ _ ⟨r1,r2⟩=>⟨_,r1,below_then hb r2⟩
 have d1:((e1:Int)==0)=false:=by rw[beq_eq_false_iff_ne];omega
 generalize bt (errT e1)=et at *
 clear hH hH' hba hk hY hM hf1 h1 h19
 go_enter Tryz.func30,Tryz.ntmps30
 go_wp2_with fail
 rw[←hwa]
 clear hwa
 go_region_held3 (fun w'=>w'.cell? ⟨m,1,none⟩=some (.slice (some ⟨b,o,none⟩) xs.length c)∧w'.cell? ⟨W.heap.size,1,none⟩=some (.slice hp ys.length hc)∧w'.cell? ⟨W.heap.size,2,none⟩=some (.slice (some ⟨nb,no,none⟩) 1 nc)∧w'.cell? ⟨nb,no,none⟩=some (.int .i64 (n:Nat)))
  (first|exact HC.out _ (by assumption))
  (first
   | (go_at_call 80;refine (HO1.out _ (by assumption)).mono ?_;rintro e w1 ⟨v1,rfl,hv1,hb1⟩)
   | (go_at_call 80;refine (HO2.out _ (by assumption)).mono ?_;rintro e w2 ⟨v2,rfl,hv2,hb2,hb2'⟩)
   | (go_at_call 37;refine (HM.out _ (by assumption) _ _ (hv1 _ (by assumption)) (by assumption)).mono ?_;rintro e w3 ⟨t3,x3,rfl,hb3⟩))
 have HB3:Hid (Below wa.heap.size wa w3):=hb3
 obtain⟨j1,j2,j3,j4⟩:=HC.out w3 hb3
 have hb3d:Below wa.heap.size wa w3.drew:=below_drewN hb3 1
 have HAD:Hid (∀ob,Below wa.heap.size wa (w3.alloc ob).drew):=fun ob=>below_drewN (below_al hb3 ob) 1
 clear hb1 hb2 hb2' hv1 hv2 hb0 k0 k1 k2 hka hm1 HO1 HO2 HM
 go_wp2_with fail
 go_region_held3 (fun w'=>w'.cell? ⟨m,1,none⟩=some (.slice (some ⟨b,o,none⟩) xs.length c)∧w'.cell? ⟨W.heap.size,1,none⟩=some (.slice hp ys.length hc)∧w'.cell? ⟨W.heap.size,2,none⟩=some (.slice (some ⟨nb,no,none⟩) 1 nc)∧w'.cell? ⟨nb,no,none⟩=some (.int .i64 (n:Nat)))
  (first|exact HC.out _ (by first|assumption|exact below_al (by assumption) _|exact HAD.out _|exact ((by assumption:Below wa.heap.size wa w4).setCell HB3.out.size _).setCell HB3.out.size _))
  (first
   | (go_at_call 66;refine (HTF.out _ (by first|assumption|exact HAD.out _)).mono ?_;rintro e w4 ⟨rfl,hb4,hb4'⟩;try (have hcf:=al_cells hb4;obtain⟨c0,c1,f0,f1⟩:=hcf)))
 ·have kf:(w4.alloc (.cells #[.int .i64 (e1:Nat),.int .i64 p1] 59)).cell? ⟨w4.heap.size,0,none⟩=some (.int .i64 (e1:Nat)):=by simp
  have hb5:=below_al hb4' (.cells #[.int .i64 (e1:Nat),.int .i64 p1] 59)
  generalize (w4.alloc (.cells #[.int .i64 (e1:Nat),.int .i64 p1] 59))=w5 at *
  generalize w4.heap.size=fb at *
  have HB5:Hid (∀w',Below w5.heap.size w5 w'→Below wa.heap.size wa w'):=fun w' hb=>below_then hb5 hb
  have HF5:Hid (∀w',Below w5.heap.size w5 w'→w'.cell? ⟨fb,0,none⟩=some (.int .i64 (e1:Nat))):=fun w' hb=>below_cell hb kf
  have hd5:Below w5.heap.size w5 w5.drew:=below_drewN (Below.refl _ _) 1
  clear hb4 hb4' hb5 hb3d HAD HC HTF HB3 j1 j2 j3 j4 hb3
  go_wp2_with fail
  go_region_held3 (fun w'=>w'.cell? ⟨fb,0,none⟩=some (.int .i64 (e1:Nat)))
   (first|exact HF5.out _ (by assumption))
   (first
    | (go_at_call 19;refine (HDE.out w5 _ (by assumption)).mono ?_;rintro e w6 ⟨s6,rfl,hb6⟩)
    | (go_at_call 23;refine (HET.out w5 _ _ (by assumption)).mono ?_;rintro e w7 ⟨rfl,hb7⟩))
  all_goals
   go_wp2
   go_ret
   exact⟨rfl,below_then HBA.out (HB5.out _ (by assumption))⟩
 ·have kf:((w4.setCell ⟨w3.heap.size,0,none⟩ (.int .i64 (e1:Nat))).setCell ⟨w3.heap.size,1,none⟩ (.int .i64 p1)).cell? ⟨w3.heap.size,0,none⟩=some (.int .i64 (e1:Nat)):=by simp[go_sem,c0]
  have hb5:Below wa.heap.size wa ((w4.setCell ⟨w3.heap.size,0,none⟩ (.int .i64 (e1:Nat))).setCell ⟨w3.heap.size,1,none⟩ (.int .i64 p1)):=(hb4'.setCell HB3.out.size _).setCell HB3.out.size _
  generalize ((w4.setCell ⟨w3.heap.size,0,none⟩ (.int .i64 (e1:Nat))).setCell ⟨w3.heap.size,1,none⟩ (.int .i64 p1))=w5 at *
  generalize w3.heap.size=fb at *
  have HB5:Hid (∀w',Below w5.heap.size w5 w'→Below wa.heap.size wa w'):=fun w' hb=>below_then hb5 hb
  have HF5:Hid (∀w',Below w5.heap.size w5 w'→w'.cell? ⟨fb,0,none⟩=some (.int .i64 (e1:Nat))):=fun w' hb=>below_cell hb kf
  have hd5:Below w5.heap.size w5 w5.drew:=below_drewN (Below.refl _ _) 1
  clear hb4 hb4' hb5 hb3d HAD HC HTF HB3 j1 j2 j3 j4 hb3
  go_wp2_with fail
  go_region_held3 (fun w'=>w'.cell? ⟨fb,0,none⟩=some (.int .i64 (e1:Nat)))
   (first|exact HF5.out _ (by assumption))
   (first
    | (go_at_call 19;refine (HDE.out w5 _ (by assumption)).mono ?_;rintro e w6 ⟨s6,rfl,hb6⟩)
    | (go_at_call 23;refine (HET.out w5 _ _ (by assumption)).mono ?_;rintro e w7 ⟨rfl,hb7⟩))
  all_goals
   go_wp2
   go_ret
   exact⟨rfl,below_then HBA.out (HB5.out _ (by assumption))⟩
theorem asked_moves2 (m b o c:Nat)(xs ys:List ByteArray)(w:ByteArray)(hp:Option Addr)(hc nb no nc:Nat)(n:Nat)(W:World)(hH:Hst W m b o c xs)(hw:tx w=wMoves)(hY:Strs1 W (.slice hp ys.length hc) ys)(hyl:ys.length≤30)(hk:W.cell? ⟨nb,no,none⟩=some (.int .i64 (n:Nat)))(hn7:n≤9999999)
  (hys:∀k (h:k<ys.length),(ys[k]).size≤1000000) (hf1:TabFault xs (n:Nat) 0 (-1)) (e2:Nat) (p2:Int) (hf2:TabFault ys (n:Nat) e2 p2) (h2:e2≠0) (h29:e2≤9)
  (hM:∀w',Below W.heap.size W w'→∀va vb,Strs1 w' va xs→Strs1 w' vb ys→Calls Tryz.prog 37 #[va,vb,.int .i64 (n:Nat)] w' fun e w''=>∃t x,e=.returned (.tuple #[.int .i64 0,.iface t x])∧Below w'.heap.size w' w'') :
  Calls Tryz.prog 30 #[.pointer (some ⟨m,0,none⟩),.agg #[.string w,.slice hp ys.length hc,.slice (some ⟨nb,no,none⟩) 1 nc]] W fun e w'=>e=.returned (.string (bt (errT e2)))∧Below W.heap.size W w':=by
 have q1:=word_not (s:=w) (w:=wTable) (by rw[hw];decide)
 have q2:=word_is (s:=w) (w:=wMoves) hw
 unfold wTable at q1
 unfold wMoves at q2
 clear hw
 obtain⟨wa,hwa⟩:∃wa,wa=W.alloc (.cells #[.string w,.slice hp ys.length hc,.slice (some ⟨nb,no,none⟩) 1 nc] 36):=⟨_,rfl⟩
 have hba:Below W.heap.size W wa:=by rw[hwa];exact (Below.refl _ _).alloc (Nat.le_refl _) _
 have k0:wa.cell? ⟨W.heap.size,0,none⟩=some (.string w):=by rw[hwa];simp
 have k1:wa.cell? ⟨W.heap.size,1,none⟩=some (.slice hp ys.length hc):=by rw[hwa];simp
 have k2:wa.cell? ⟨W.heap.size,2,none⟩=some (.slice (some ⟨nb,no,none⟩) 1 nc):=by rw[hwa];simp
 have hka:=below_cell hba hk
 have hH':=hH.later hba
 have hm1:=hH'.cell
 have HBA:Hid (Below W.heap.size W wa):=hba
 have HC:Hid (∀w',Below wa.heap.size wa w'→w'.cell? ⟨m,1,none⟩=some (.slice (some ⟨b,o,none⟩) xs.length c)∧w'.cell? ⟨W.heap.size,1,none⟩=some (.slice hp ys.length hc)∧w'.cell? ⟨W.heap.size,2,none⟩=some (.slice (some ⟨nb,no,none⟩) 1 nc)∧w'.cell? ⟨nb,no,none⟩=some (.int .i64 (n:Nat))):=fun w' hb=>⟨below_cell hb hm1,below_cell hb k1,below_cell hb k2,below_cell hb hka⟩
 have hb0:Below wa.heap.size wa wa.drew:=below_drewN (Below.refl _ _) 1
 have HH:Hid (Hst wa m b o c xs):=hH'
 have HY:Hid (Strs1 wa (.slice hp ys.length hc) ys):=hY.later hba
 have HO1:Hid (∀w',Below wa.heap.size wa w'→Calls Tryz.prog 80 #[.slice (some ⟨b,o,none⟩) xs.length c] w' fun e w''=>∃v',e=.returned v'∧(∀w2,Below w''.heap.size w'' w2→Strs1 w2 v' xs)∧Below wa.heap.size wa w''):=fun w' hb=>(ownTexts_any _ xs w' ((HH.out.later hb).strs) (by have:=HH.out.le;omega)).mono fun _ _ ⟨v',r1,r2,r3⟩=>⟨v',r1,fun w2 hb2=>r2.later hb2,below_then hb r3⟩
 have HO2:Hid (∀w',Below wa.heap.size wa w'→Calls Tryz.prog 80 #[.slice hp ys.length hc] w' fun e w''=>∃v',e=.returned v'∧Strs1 w'' v' ys∧Below w'.heap.size w' w''∧Below wa.heap.size wa w''):=fun w' hb=>(ownTexts_any _ ys w' (HY.out.later hb) (by omega)).mono fun _ _ ⟨v',r1,r2,r3⟩=>⟨v',r1,r2,r3,below_then hb r3⟩
 have HM:Hid (∀w',Below wa.heap.size wa w'→∀va vb,Strs1 w' va xs→Strs1 w' vb ys→Calls Tryz.prog 37 #[va,vb,.int .i64 (n:Nat)] w' fun e w''=>∃t x,e=.returned (.tuple #[.int .i64 0,.iface t x])∧Below wa.heap.size wa w''):=fun w' hb va vb ha hb'=>(hM w' (below_then hba hb) va vb ha hb').mono fun _ _ ⟨t,x,r1,r2⟩=>⟨t,x,r1,below_then hb r2⟩
 have HTF:Hid (∀w',Below wa.heap.size wa w'→Calls Tryz.prog 66 #[.slice (some ⟨b,o,none⟩) xs.length c,.int .i64 (n:Nat)] w' fun r w''=>r=.returned (.agg #[.int .i64 0,.int .i64 (-1)])∧Below w'.heap.size w' w''∧Below wa.heap.size wa w''):=fun w' hb=>(tableFault_any _ xs (n:Nat) w' 0 (-1) ((HH.out.later hb).strs) hf1 (by omega) HH.out.sBig (by have:=HH.out.le;omega)).mono fun _ _ ⟨r1,r2⟩=>⟨r1,r2,below_then hb r2⟩
 have HET:Hid (∀w0 w' s,Below w0.heap.size w0 w'→Calls Tryz.prog 23 #[.int .i64 (e2:Nat),.string s] w' fun r w''=>r=.returned (.string (bt (errT e2)))∧Below w0.heap.size w0 w''):=fun w0 w' s hb=>(orElse_any e2 h29 s w').mono fun _ _ ⟨r1,r2⟩=>⟨by rw[r1,if_neg h2],below_then hb r2⟩
 have HDE:Hid (∀w0 w':World,Below w0.heap.size w0 w'→Calls Tryz.prog 19 #[.int .i64 0] w' fun r w''=>∃s,r=.returned (.string s)∧Below w0.heap.size w0 w''):=fun w0 w' hb=>(decimalM_any 0 (by decide) w').mono fun _ _ ⟨r1,r2⟩=>⟨_,r1,below_then hb r2⟩
 have d1:((e2:Int)==0)=false:=by rw[beq_eq_false_iff_ne];omega
 have HTG:Hid (∀w',Below wa.heap.size wa w'→Calls Tryz.prog 66 #[.slice hp ys.length hc,.int .i64 (n:Nat)] w' fun r w''=>r=.returned (.agg #[.int .i64 (e2:Nat),.int .i64 p2])∧Below w'.heap.size w' w''∧Below wa.heap.size wa w''):=fun w' hb=>(tableFault_any _ ys (n:Nat) w' e2 p2 (HY.out.later hb) hf2 (by omega) hys (by omega)).mono fun _ _ ⟨r1,r2⟩=>⟨r1,r2,below_then hb r2⟩
 generalize bt (errT e2)=et at *
 clear hH hH' hba hk hY hM hf1 hf2 h2 h29
 go_enter Tryz.func30,Tryz.ntmps30
 go_wp2_with fail
 rw[←hwa]
 clear hwa
 go_region_held3 (fun w'=>w'.cell? ⟨m,1,none⟩=some (.slice (some ⟨b,o,none⟩) xs.length c)∧w'.cell? ⟨W.heap.size,1,none⟩=some (.slice hp ys.length hc)∧w'.cell? ⟨W.heap.size,2,none⟩=some (.slice (some ⟨nb,no,none⟩) 1 nc)∧w'.cell? ⟨nb,no,none⟩=some (.int .i64 (n:Nat)))
  (first|exact HC.out _ (by assumption))
  (first
   | (go_at_call 80;refine (HO1.out _ (by assumption)).mono ?_;rintro e w1 ⟨v1,rfl,hv1,hb1⟩)
   | (go_at_call 80;refine (HO2.out _ (by assumption)).mono ?_;rintro e w2 ⟨v2,rfl,hv2,hb2,hb2'⟩)
   | (go_at_call 37;refine (HM.out _ (by assumption) _ _ (hv1 _ (by assumption)) (by assumption)).mono ?_;rintro e w3 ⟨t3,x3,rfl,hb3⟩))
 have HB3:Hid (Below wa.heap.size wa w3):=hb3
 obtain⟨j1,j2,j3,j4⟩:=HC.out w3 hb3
 have hb3d:Below wa.heap.size wa w3.drew:=below_drewN hb3 1
 have HAD:Hid (∀ob,Below wa.heap.size wa (w3.alloc ob).drew):=fun ob=>below_drewN (below_al hb3 ob) 1
 clear hb1 hb2 hb2' hv1 hv2 hb0 k0 k1 k2 hka hm1 HO1 HO2 HM
 go_wp2_with fail
 go_region_held3 (fun w'=>w'.cell? ⟨m,1,none⟩=some (.slice (some ⟨b,o,none⟩) xs.length c)∧w'.cell? ⟨W.heap.size,1,none⟩=some (.slice hp ys.length hc)∧w'.cell? ⟨W.heap.size,2,none⟩=some (.slice (some ⟨nb,no,none⟩) 1 nc)∧w'.cell? ⟨nb,no,none⟩=some (.int .i64 (n:Nat)))
  (first|exact HC.out _ (by first|assumption|exact below_al (by assumption) _|exact HAD.out _|exact ((by assumption:Below wa.heap.size wa w4).setCell HB3.out.size _).setCell HB3.out.size _))
  (first
   | (go_at_call 66;refine (HTF.out _ (by first|assumption|exact HAD.out _)).mono ?_;rintro e w4 ⟨rfl,hb4,hb4'⟩;try (have hcf:=al_cells hb4;obtain⟨c0,c1,f0,f1⟩:=hcf)))
 ·have kf:(w4.alloc (.cells #[.int .i64 0,.int .i64 (-1)] 59)).cell? ⟨w4.heap.size,0,none⟩=some (.int .i64 0):=by simp
  have hb5:=below_al hb4' (.cells #[.int .i64 0,.int .i64 (-1)] 59)
  have kg:(w4.alloc (.cells #[.int .i64 0,.int .i64 (-1)] 59)).cell? ⟨w4.heap.size,1,none⟩=some (.int .i64 (-1)):=by simp
  have fz0:(w4.alloc (.cells #[.int .i64 0,.int .i64 (-1)] 59)).frozen? ⟨w4.heap.size,0,none⟩=false:=by simp
  have fz1:(w4.alloc (.cells #[.int .i64 0,.int .i64 (-1)] 59)).frozen? ⟨w4.heap.size,1,none⟩=false:=by simp
  have hfl:w4.heap.size<(w4.alloc (.cells #[.int .i64 0,.int .i64 (-1)] 59)).heap.size:=by simp
  have hfb:=hb4'.size
  generalize (w4.alloc (.cells #[.int .i64 0,.int .i64 (-1)] 59))=w5 at *
  generalize w4.heap.size=fb at *
  have HB5:Hid (Below wa.heap.size wa w5):=hb5
  have HFB:Hid (wa.heap.size≤fb):=hfb
  have HCE:Hid (∀w',Below wa.heap.size wa w'→w'.cell? ⟨W.heap.size,1,none⟩=some (.slice hp ys.length hc)∧w'.cell? ⟨W.heap.size,2,none⟩=some (.slice (some ⟨nb,no,none⟩) 1 nc)∧w'.cell? ⟨nb,no,none⟩=some (.int .i64 (n:Nat))):=fun w' hb=>(HC.out w' hb).2
  have HF5:Hid (∀w',Below w5.drew.heap.size w5.drew w'→w'.cell? ⟨fb,0,none⟩=some (.int .i64 0)∧w'.cell? ⟨fb,1,none⟩=some (.int .i64 (-1))∧w'.frozen? ⟨fb,0,none⟩=false∧w'.frozen? ⟨fb,1,none⟩=false):=fun w' hb=>⟨below_cell (below_of_drew hb) kf,below_cell (below_of_drew hb) kg,by rw[(below_of_drew hb).frozen hfl];exact fz0,by rw[(below_of_drew hb).frozen hfl];exact fz1⟩
  have hd5:Below wa.heap.size wa w5.drew:=below_drewN hb5 1
  obtain⟨i1,i2,i3⟩:=HCE.out w5 hb5
  clear hb4 hb4' hb5 hb3d HAD HC HTF HB3 j1 j2 j3 j4 hb3 kg hfl fz0 fz1 hfb
  go_wp2_with fail
  go_region_held3 (fun w'=>w'.cell? ⟨W.heap.size,1,none⟩=some (.slice hp ys.length hc)∧w'.cell? ⟨W.heap.size,2,none⟩=some (.slice (some ⟨nb,no,none⟩) 1 nc)∧w'.cell? ⟨nb,no,none⟩=some (.int .i64 (n:Nat)))
   (first|exact HCE.out _ (by first|assumption|exact ((by assumption:Below wa.heap.size wa w6).setCell HFB.out _).setCell HFB.out _))
   (first
    | (go_at_call 66;refine (HTG.out _ (by assumption)).mono ?_;rintro e w6 ⟨rfl,hb6,hb6'⟩;obtain⟨c0,c1,f0,f1⟩:=HF5.out _ hb6))
  have kh:((w6.setCell ⟨fb,0,none⟩ (.int .i64 (e2:Nat))).setCell ⟨fb,1,none⟩ (.int .i64 p2)).cell? ⟨fb,0,none⟩=some (.int .i64 (e2:Nat)):=by simp[go_sem,c0]
  have hb7:Below wa.heap.size wa ((w6.setCell ⟨fb,0,none⟩ (.int .i64 (e2:Nat))).setCell ⟨fb,1,none⟩ (.int .i64 p2)):=(hb6'.setCell HFB.out _).setCell HFB.out _
  generalize ((w6.setCell ⟨fb,0,none⟩ (.int .i64 (e2:Nat))).setCell ⟨fb,1,none⟩ (.int .i64 p2))=w7 at *
  have HB7:Hid (∀w',Below w7.heap.size w7 w'→Below wa.heap.size wa w'):=fun w' hb=>below_then hb7 hb
  have HF7:Hid (∀w',Below w7.heap.size w7 w'→w'.cell? ⟨fb,0,none⟩=some (.int .i64 (e2:Nat))):=fun w' hb=>below_cell hb kh
  have hd7:Below w7.heap.size w7 w7.drew:=below_drewN (Below.refl _ _) 1
  clear hb6 hb6' c0 c1 f0 f1 hb7 HB5 hd5 i1 i2 i3 kf HCE HTG HF5
  go_wp2_with fail
  go_region_held3 (fun w'=>w'.cell? ⟨fb,0,none⟩=some (.int .i64 (e2:Nat)))
   (first|exact HF7.out _ (by assumption))
   (first
    | (go_at_call 19;refine (HDE.out w7 _ (by assumption)).mono ?_;rintro e w8 ⟨s8,rfl,hb8⟩)
    | (go_at_call 23;refine (HET.out w7 _ _ (by assumption)).mono ?_;rintro e w9 ⟨rfl,hb9⟩))
  all_goals
   go_wp2
   go_ret
   exact⟨rfl,below_then HBA.out (HB7.out _ (by assumption))⟩
 ·have kf:((w4.setCell ⟨w3.heap.size,0,none⟩ (.int .i64 0)).setCell ⟨w3.heap.size,1,none⟩ (.int .i64 (-1))).cell? ⟨w3.heap.size,0,none⟩=some (.int .i64 0):=by simp[go_sem,c0]
  have hb5:Below wa.heap.size wa ((w4.setCell ⟨w3.heap.size,0,none⟩ (.int .i64 0)).setCell ⟨w3.heap.size,1,none⟩ (.int .i64 (-1))):=(hb4'.setCell HB3.out.size _).setCell HB3.out.size _
  have kg:((w4.setCell ⟨w3.heap.size,0,none⟩ (.int .i64 0)).setCell ⟨w3.heap.size,1,none⟩ (.int .i64 (-1))).cell? ⟨w3.heap.size,1,none⟩=some (.int .i64 (-1)):=by simp[go_sem,c1]
  have fz0:((w4.setCell ⟨w3.heap.size,0,none⟩ (.int .i64 0)).setCell ⟨w3.heap.size,1,none⟩ (.int .i64 (-1))).frozen? ⟨w3.heap.size,0,none⟩=false:=by simp[World.frozen?_setCell,f0]
  have fz1:((w4.setCell ⟨w3.heap.size,0,none⟩ (.int .i64 0)).setCell ⟨w3.heap.size,1,none⟩ (.int .i64 (-1))).frozen? ⟨w3.heap.size,1,none⟩=false:=by simp[World.frozen?_setCell,f1]
  have hfl:w3.heap.size<((w4.setCell ⟨w3.heap.size,0,none⟩ (.int .i64 0)).setCell ⟨w3.heap.size,1,none⟩ (.int .i64 (-1))).heap.size:=by simpa using World.block_lt_of_cell? w4 ⟨w3.heap.size,0,none⟩ c0
  have hfb:=HB3.out.size
  generalize ((w4.setCell ⟨w3.heap.size,0,none⟩ (.int .i64 0)).setCell ⟨w3.heap.size,1,none⟩ (.int .i64 (-1)))=w5 at *
  generalize w3.heap.size=fb at *
  have HB5:Hid (Below wa.heap.size wa w5):=hb5
  have HFB:Hid (wa.heap.size≤fb):=hfb
  have HCE:Hid (∀w',Below wa.heap.size wa w'→w'.cell? ⟨W.heap.size,1,none⟩=some (.slice hp ys.length hc)∧w'.cell? ⟨W.heap.size,2,none⟩=some (.slice (some ⟨nb,no,none⟩) 1 nc)∧w'.cell? ⟨nb,no,none⟩=some (.int .i64 (n:Nat))):=fun w' hb=>(HC.out w' hb).2
  have HF5:Hid (∀w',Below w5.drew.heap.size w5.drew w'→w'.cell? ⟨fb,0,none⟩=some (.int .i64 0)∧w'.cell? ⟨fb,1,none⟩=some (.int .i64 (-1))∧w'.frozen? ⟨fb,0,none⟩=false∧w'.frozen? ⟨fb,1,none⟩=false):=fun w' hb=>⟨below_cell (below_of_drew hb) kf,below_cell (below_of_drew hb) kg,by rw[(below_of_drew hb).frozen hfl];exact fz0,by rw[(below_of_drew hb).frozen hfl];exact fz1⟩
  have hd5:Below wa.heap.size wa w5.drew:=below_drewN hb5 1
  obtain⟨i1,i2,i3⟩:=HCE.out w5 hb5
  clear hb4 hb4' hb5 hb3d HAD HC HTF HB3 j1 j2 j3 j4 hb3 kg hfl fz0 fz1 hfb
  go_wp2_with fail
  go_region_held3 (fun w'=>w'.cell? ⟨W.heap.size,1,none⟩=some (.slice hp ys.length hc)∧w'.cell? ⟨W.heap.size,2,none⟩=some (.slice (some ⟨nb,no,none⟩) 1 nc)∧w'.cell? ⟨nb,no,none⟩=some (.int .i64 (n:Nat)))
   (first|exact HCE.out _ (by first|assumption|exact ((by assumption:Below wa.heap.size wa w6).setCell HFB.out _).setCell HFB.out _))
   (first
    | (go_at_call 66;refine (HTG.out _ (by assumption)).mono ?_;rintro e w6 ⟨rfl,hb6,hb6'⟩;obtain⟨c0,c1,f0,f1⟩:=HF5.out _ hb6))
  have kh:((w6.setCell ⟨fb,0,none⟩ (.int .i64 (e2:Nat))).setCell ⟨fb,1,none⟩ (.int .i64 p2)).cell? ⟨fb,0,none⟩=some (.int .i64 (e2:Nat)):=by simp[go_sem,c0]
  have hb7:Below wa.heap.size wa ((w6.setCell ⟨fb,0,none⟩ (.int .i64 (e2:Nat))).setCell ⟨fb,1,none⟩ (.int .i64 p2)):=(hb6'.setCell HFB.out _).setCell HFB.out _
  generalize ((w6.setCell ⟨fb,0,none⟩ (.int .i64 (e2:Nat))).setCell ⟨fb,1,none⟩ (.int .i64 p2))=w7 at *
  have HB7:Hid (∀w',Below w7.heap.size w7 w'→Below wa.heap.size wa w'):=fun w' hb=>below_then hb7 hb
  have HF7:Hid (∀w',Below w7.heap.size w7 w'→w'.cell? ⟨fb,0,none⟩=some (.int .i64 (e2:Nat))):=fun w' hb=>below_cell hb kh
  have hd7:Below w7.heap.size w7 w7.drew:=below_drewN (Below.refl _ _) 1
  clear hb6 hb6' c0 c1 f0 f1 hb7 HB5 hd5 i1 i2 i3 kf HCE HTG HF5
  go_wp2_with fail
  go_region_held3 (fun w'=>w'.cell? ⟨fb,0,none⟩=some (.int .i64 (e2:Nat)))
   (first|exact HF7.out _ (by assumption))
   (first
    | (go_at_call 19;refine (HDE.out w7 _ (by assumption)).mono ?_;rintro e w8 ⟨s8,rfl,hb8⟩)
    | (go_at_call 23;refine (HET.out w7 _ _ (by assumption)).mono ?_;rintro e w9 ⟨rfl,hb9⟩))
  all_goals
   go_wp2
   go_ret
   exact⟨rfl,below_then HBA.out (HB7.out _ (by assumption))⟩
theorem asked_moves3 (m b o c:Nat)(xs ys:List ByteArray)(w:ByteArray)(hp:Option Addr)(hc nb no nc:Nat)(n:Nat)(W:World)(hH:Hst W m b o c xs)(hw:tx w=wMoves)(hY:Strs1 W (.slice hp ys.length hc) ys)(hyl:ys.length≤30)(hk:W.cell? ⟨nb,no,none⟩=some (.int .i64 (n:Nat)))(hn7:n≤9999999)
  (hys:∀k (h:k<ys.length),(ys[k]).size≤1000000) (hf1:TabFault xs (n:Nat) 0 (-1)) (hf2:TabFault ys (n:Nat) 0 (-1)) (r:Nat) (hr:r≤9999999)
  (hM:∀w',Below W.heap.size W w'→∀va vb,Strs1 w' va xs→Strs1 w' vb ys→Calls Tryz.prog 37 #[va,vb,.int .i64 (n:Nat)] w' fun e w''=>e=.returned (.tuple #[.int .i64 (r:Nat),.nilIface])∧Below w'.heap.size w' w'') :
  Calls Tryz.prog 30 #[.pointer (some ⟨m,0,none⟩),.agg #[.string w,.slice hp ys.length hc,.slice (some ⟨nb,no,none⟩) 1 nc]] W fun e w'=>e=.returned (.string (bt (decL r)))∧Below W.heap.size W w':=by
 have q1:=word_not (s:=w) (w:=wTable) (by rw[hw];decide)
 have q2:=word_is (s:=w) (w:=wMoves) hw
 unfold wTable at q1
 unfold wMoves at q2
 clear hw
 obtain⟨wa,hwa⟩:∃wa,wa=W.alloc (.cells #[.string w,.slice hp ys.length hc,.slice (some ⟨nb,no,none⟩) 1 nc] 36):=⟨_,rfl⟩
 have hba:Below W.heap.size W wa:=by rw[hwa];exact (Below.refl _ _).alloc (Nat.le_refl _) _
 have k0:wa.cell? ⟨W.heap.size,0,none⟩=some (.string w):=by rw[hwa];simp
 have k1:wa.cell? ⟨W.heap.size,1,none⟩=some (.slice hp ys.length hc):=by rw[hwa];simp
 have k2:wa.cell? ⟨W.heap.size,2,none⟩=some (.slice (some ⟨nb,no,none⟩) 1 nc):=by rw[hwa];simp
 have hka:=below_cell hba hk
 have hH':=hH.later hba
 have hm1:=hH'.cell
 have HBA:Hid (Below W.heap.size W wa):=hba
 have HC:Hid (∀w',Below wa.heap.size wa w'→w'.cell? ⟨m,1,none⟩=some (.slice (some ⟨b,o,none⟩) xs.length c)∧w'.cell? ⟨W.heap.size,1,none⟩=some (.slice hp ys.length hc)∧w'.cell? ⟨W.heap.size,2,none⟩=some (.slice (some ⟨nb,no,none⟩) 1 nc)∧w'.cell? ⟨nb,no,none⟩=some (.int .i64 (n:Nat))):=fun w' hb=>⟨below_cell hb hm1,below_cell hb k1,below_cell hb k2,below_cell hb hka⟩
 have hb0:Below wa.heap.size wa wa.drew:=below_drewN (Below.refl _ _) 1
 have HH:Hid (Hst wa m b o c xs):=hH'
 have HY:Hid (Strs1 wa (.slice hp ys.length hc) ys):=hY.later hba
 have HO1:Hid (∀w',Below wa.heap.size wa w'→Calls Tryz.prog 80 #[.slice (some ⟨b,o,none⟩) xs.length c] w' fun e w''=>∃v',e=.returned v'∧(∀w2,Below w''.heap.size w'' w2→Strs1 w2 v' xs)∧Below wa.heap.size wa w''):=fun w' hb=>(ownTexts_any _ xs w' ((HH.out.later hb).strs) (by have:=HH.out.le;omega)).mono fun _ _ ⟨v',r1,r2,r3⟩=>⟨v',r1,fun w2 hb2=>r2.later hb2,below_then hb r3⟩
 have HO2:Hid (∀w',Below wa.heap.size wa w'→Calls Tryz.prog 80 #[.slice hp ys.length hc] w' fun e w''=>∃v',e=.returned v'∧Strs1 w'' v' ys∧Below w'.heap.size w' w''∧Below wa.heap.size wa w''):=fun w' hb=>(ownTexts_any _ ys w' (HY.out.later hb) (by omega)).mono fun _ _ ⟨v',r1,r2,r3⟩=>⟨v',r1,r2,r3,below_then hb r3⟩
 have HM:Hid (∀w',Below wa.heap.size wa w'→∀va vb,Strs1 w' va xs→Strs1 w' vb ys→Calls Tryz.prog 37 #[va,vb,.int .i64 (n:Nat)] w' fun e w''=>e=.returned (.tuple #[.int .i64 (r:Nat),.nilIface])∧Below wa.heap.size wa w''):=fun w' hb va vb ha hb'=>(hM w' (below_then hba hb) va vb ha hb').mono fun _ _ ⟨r1,r2⟩=>⟨r1,below_then hb r2⟩
 have HTF:Hid (∀w',Below wa.heap.size wa w'→Calls Tryz.prog 66 #[.slice (some ⟨b,o,none⟩) xs.length c,.int .i64 (n:Nat)] w' fun r w''=>r=.returned (.agg #[.int .i64 0,.int .i64 (-1)])∧Below w'.heap.size w' w''∧Below wa.heap.size wa w''):=fun w' hb=>(tableFault_any _ xs (n:Nat) w' 0 (-1) ((HH.out.later hb).strs) hf1 (by omega) HH.out.sBig (by have:=HH.out.le;omega)).mono fun _ _ ⟨r1,r2⟩=>⟨r1,r2,below_then hb r2⟩
 have HET:Hid (∀w0 w' s,Below w0.heap.size w0 w'→Calls Tryz.prog 23 #[.int .i64 0,.string s] w' fun r w''=>r=.returned (.string s)∧Below w0.heap.size w0 w''):=fun w0 w' s hb=>(orElse_any 0 (by decide) s w').mono fun _ _ ⟨r1,r2⟩=>⟨by rw[r1,if_pos rfl],below_then hb r2⟩
 have HDE:Hid (∀w0 w':World,Below w0.heap.size w0 w'→Calls Tryz.prog 19 #[.int .i64 (r:Nat)] w' fun q w''=>q=.returned (.string (bt (decL r)))∧Below w0.heap.size w0 w''):=fun w0 w' hb=>(decimalM_any r (by omega) w').mono fun _ _ ⟨r1,r2⟩=>⟨r1,below_then hb r2⟩
 have HTG:Hid (∀w',Below wa.heap.size wa w'→Calls Tryz.prog 66 #[.slice hp ys.length hc,.int .i64 (n:Nat)] w' fun r w''=>r=.returned (.agg #[.int .i64 0,.int .i64 (-1)])∧Below w'.heap.size w' w''∧Below wa.heap.size wa w''):=fun w' hb=>(tableFault_any _ ys (n:Nat) w' 0 (-1) (HY.out.later hb) hf2 (by omega) hys (by omega)).mono fun _ _ ⟨r1,r2⟩=>⟨r1,r2,below_then hb r2⟩
 generalize bt (decL r)=et at *
 clear hH hH' hba hk hY hM hf1 hf2
 go_enter Tryz.func30,Tryz.ntmps30
 go_wp2_with fail
 rw[←hwa]
 clear hwa
 go_region_held3 (fun w'=>w'.cell? ⟨m,1,none⟩=some (.slice (some ⟨b,o,none⟩) xs.length c)∧w'.cell? ⟨W.heap.size,1,none⟩=some (.slice hp ys.length hc)∧w'.cell? ⟨W.heap.size,2,none⟩=some (.slice (some ⟨nb,no,none⟩) 1 nc)∧w'.cell? ⟨nb,no,none⟩=some (.int .i64 (n:Nat)))
  (first|exact HC.out _ (by assumption))
  (first
   | (go_at_call 80;refine (HO1.out _ (by assumption)).mono ?_;rintro e w1 ⟨v1,rfl,hv1,hb1⟩)
   | (go_at_call 80;refine (HO2.out _ (by assumption)).mono ?_;rintro e w2 ⟨v2,rfl,hv2,hb2,hb2'⟩)
   | (go_at_call 37;refine (HM.out _ (by assumption) _ _ (hv1 _ (by assumption)) (by assumption)).mono ?_;rintro e w3 ⟨rfl,hb3⟩))
 have HB3:Hid (Below wa.heap.size wa w3):=hb3
 obtain⟨j1,j2,j3,j4⟩:=HC.out w3 hb3
 have hb3d:Below wa.heap.size wa w3.drew:=below_drewN hb3 1
 have HAD:Hid (∀ob,Below wa.heap.size wa (w3.alloc ob).drew):=fun ob=>below_drewN (below_al hb3 ob) 1
 clear hb1 hb2 hb2' hv1 hv2 hb0 k0 k1 k2 hka hm1 HO1 HO2 HM
 go_wp2_with fail
 go_region_held3 (fun w'=>w'.cell? ⟨m,1,none⟩=some (.slice (some ⟨b,o,none⟩) xs.length c)∧w'.cell? ⟨W.heap.size,1,none⟩=some (.slice hp ys.length hc)∧w'.cell? ⟨W.heap.size,2,none⟩=some (.slice (some ⟨nb,no,none⟩) 1 nc)∧w'.cell? ⟨nb,no,none⟩=some (.int .i64 (n:Nat)))
  (first|exact HC.out _ (by first|assumption|exact below_al (by assumption) _|exact HAD.out _|exact ((by assumption:Below wa.heap.size wa w4).setCell HB3.out.size _).setCell HB3.out.size _))
  (first
   | (go_at_call 66;refine (HTF.out _ (by first|assumption|exact HAD.out _)).mono ?_;rintro e w4 ⟨rfl,hb4,hb4'⟩;try (have hcf:=al_cells hb4;obtain⟨c0,c1,f0,f1⟩:=hcf)))
 ·have kf:(w4.alloc (.cells #[.int .i64 0,.int .i64 (-1)] 59)).cell? ⟨w4.heap.size,0,none⟩=some (.int .i64 0):=by simp
  have hb5:=below_al hb4' (.cells #[.int .i64 0,.int .i64 (-1)] 59)
  have kg:(w4.alloc (.cells #[.int .i64 0,.int .i64 (-1)] 59)).cell? ⟨w4.heap.size,1,none⟩=some (.int .i64 (-1)):=by simp
  have fz0:(w4.alloc (.cells #[.int .i64 0,.int .i64 (-1)] 59)).frozen? ⟨w4.heap.size,0,none⟩=false:=by simp
  have fz1:(w4.alloc (.cells #[.int .i64 0,.int .i64 (-1)] 59)).frozen? ⟨w4.heap.size,1,none⟩=false:=by simp
  have hfl:w4.heap.size<(w4.alloc (.cells #[.int .i64 0,.int .i64 (-1)] 59)).heap.size:=by simp
  have hfb:=hb4'.size
  generalize (w4.alloc (.cells #[.int .i64 0,.int .i64 (-1)] 59))=w5 at *
  generalize w4.heap.size=fb at *
  have HB5:Hid (Below wa.heap.size wa w5):=hb5
  have HFB:Hid (wa.heap.size≤fb):=hfb
  have HCE:Hid (∀w',Below wa.heap.size wa w'→w'.cell? ⟨W.heap.size,1,none⟩=some (.slice hp ys.length hc)∧w'.cell? ⟨W.heap.size,2,none⟩=some (.slice (some ⟨nb,no,none⟩) 1 nc)∧w'.cell? ⟨nb,no,none⟩=some (.int .i64 (n:Nat))):=fun w' hb=>(HC.out w' hb).2
  have HF5:Hid (∀w',Below w5.drew.heap.size w5.drew w'→w'.cell? ⟨fb,0,none⟩=some (.int .i64 0)∧w'.cell? ⟨fb,1,none⟩=some (.int .i64 (-1))∧w'.frozen? ⟨fb,0,none⟩=false∧w'.frozen? ⟨fb,1,none⟩=false):=fun w' hb=>⟨below_cell (below_of_drew hb) kf,below_cell (below_of_drew hb) kg,by rw[(below_of_drew hb).frozen hfl];exact fz0,by rw[(below_of_drew hb).frozen hfl];exact fz1⟩
  have hd5:Below wa.heap.size wa w5.drew:=below_drewN hb5 1
  obtain⟨i1,i2,i3⟩:=HCE.out w5 hb5
  clear hb4 hb4' hb5 hb3d HAD HC HTF HB3 j1 j2 j3 j4 hb3 kg hfl fz0 fz1 hfb
  go_wp2_with fail
  go_region_held3 (fun w'=>w'.cell? ⟨W.heap.size,1,none⟩=some (.slice hp ys.length hc)∧w'.cell? ⟨W.heap.size,2,none⟩=some (.slice (some ⟨nb,no,none⟩) 1 nc)∧w'.cell? ⟨nb,no,none⟩=some (.int .i64 (n:Nat)))
   (first|exact HCE.out _ (by first|assumption|exact ((by assumption:Below wa.heap.size wa w6).setCell HFB.out _).setCell HFB.out _))
   (first
    | (go_at_call 66;refine (HTG.out _ (by assumption)).mono ?_;rintro e w6 ⟨rfl,hb6,hb6'⟩;obtain⟨c0,c1,f0,f1⟩:=HF5.out _ hb6))
  have kh:((w6.setCell ⟨fb,0,none⟩ (.int .i64 0)).setCell ⟨fb,1,none⟩ (.int .i64 (-1))).cell? ⟨fb,0,none⟩=some (.int .i64 0):=by simp[go_sem,c0]
  have hb7:Below wa.heap.size wa ((w6.setCell ⟨fb,0,none⟩ (.int .i64 0)).setCell ⟨fb,1,none⟩ (.int .i64 (-1))):=(hb6'.setCell HFB.out _).setCell HFB.out _
  generalize ((w6.setCell ⟨fb,0,none⟩ (.int .i64 0)).setCell ⟨fb,1,none⟩ (.int .i64 (-1)))=w7 at *
  have HB7:Hid (∀w',Below w7.heap.size w7 w'→Below wa.heap.size wa w'):=fun w' hb=>below_then hb7 hb
  have HF7:Hid (∀w',Below w7.heap.size w7 w'→w'.cell? ⟨fb,0,none⟩=some (.int .i64 0)):=fun w' hb=>below_cell hb kh
  have hd7:Below w7.heap.size w7 w7.drew:=below_drewN (Below.refl _ _) 1
  clear hb6 hb6' c0 c1 f0 f1 hb7 HB5 hd5 i1 i2 i3 kf HCE HTG HF5
  go_wp2_with fail
  go_region_held3 (fun w'=>w'.cell? ⟨fb,0,none⟩=some (.int .i64 0))
   (first|exact HF7.out _ (by assumption))
   (first
    | (go_at_call 19;refine (HDE.out w7 _ (by assumption)).mono ?_;rintro e w8 ⟨rfl,hb8⟩)
    | (go_at_call 23;refine (HET.out w7 _ _ (by assumption)).mono ?_;rintro e w9 ⟨rfl,hb9⟩))
  all_goals
   go_wp2
   go_ret
   exact⟨rfl,below_then HBA.out (HB7.out _ (by assumption))⟩
 ·have kf:((w4.setCell ⟨w3.heap.size,0,none⟩ (.int .i64 0)).setCell ⟨w3.heap.size,1,none⟩ (.int .i64 (-1))).cell? ⟨w3.heap.size,0,none⟩=some (.int .i64 0):=by simp[go_sem,c0]
  have hb5:Below wa.heap.size wa ((w4.setCell ⟨w3.heap.size,0,none⟩ (.int .i64 0)).setCell ⟨w3.heap.size,1,none⟩ (.int .i64 (-1))):=(hb4'.setCell HB3.out.size _).setCell HB3.out.size _
  have kg:((w4.setCell ⟨w3.heap.size,0,none⟩ (.int .i64 0)).setCell ⟨w3.heap.size,1,none⟩ (.int .i64 (-1))).cell? ⟨w3.heap.size,1,none⟩=some (.int .i64 (-1)):=by simp[go_sem,c1]
  have fz0:((w4.setCell ⟨w3.heap.size,0,none⟩ (.int .i64 0)).setCell ⟨w3.heap.size,1,none⟩ (.int .i64 (-1))).frozen? ⟨w3.heap.size,0,none⟩=false:=by simp[World.frozen?_setCell,f0]
  have fz1:((w4.setCell ⟨w3.heap.size,0,none⟩ (.int .i64 0)).setCell ⟨w3.heap.size,1,none⟩ (.int .i64 (-1))).frozen? ⟨w3.heap.size,1,none⟩=false:=by simp[World.frozen?_setCell,f1]
  have hfl:w3.heap.size<((w4.setCell ⟨w3.heap.size,0,none⟩ (.int .i64 0)).setCell ⟨w3.heap.size,1,none⟩ (.int .i64 (-1))).heap.size:=by simpa using World.block_lt_of_cell? w4 ⟨w3.heap.size,0,none⟩ c0
  have hfb:=HB3.out.size
  generalize ((w4.setCell ⟨w3.heap.size,0,none⟩ (.int .i64 0)).setCell ⟨w3.heap.size,1,none⟩ (.int .i64 (-1)))=w5 at *
  generalize w3.heap.size=fb at *
  have HB5:Hid (Below wa.heap.size wa w5):=hb5
  have HFB:Hid (wa.heap.size≤fb):=hfb
  have HCE:Hid (∀w',Below wa.heap.size wa w'→w'.cell? ⟨W.heap.size,1,none⟩=some (.slice hp ys.length hc)∧w'.cell? ⟨W.heap.size,2,none⟩=some (.slice (some ⟨nb,no,none⟩) 1 nc)∧w'.cell? ⟨nb,no,none⟩=some (.int .i64 (n:Nat))):=fun w' hb=>(HC.out w' hb).2
  have HF5:Hid (∀w',Below w5.drew.heap.size w5.drew w'→w'.cell? ⟨fb,0,none⟩=some (.int .i64 0)∧w'.cell? ⟨fb,1,none⟩=some (.int .i64 (-1))∧w'.frozen? ⟨fb,0,none⟩=false∧w'.frozen? ⟨fb,1,none⟩=false):=fun w' hb=>⟨below_cell (below_of_drew hb) kf,below_cell (below_of_drew hb) kg,by rw[(below_of_drew hb).frozen hfl];exact fz0,by rw[(below_of_drew hb).frozen hfl];exact fz1⟩
  have hd5:Below wa.heap.size wa w5.drew:=below_drewN hb5 1
  obtain⟨i1,i2,i3⟩:=HCE.out w5 hb5
  clear hb4 hb4' hb5 hb3d HAD HC HTF HB3 j1 j2 j3 j4 hb3 kg hfl fz0 fz1 hfb
  go_wp2_with fail
  go_region_held3 (fun w'=>w'.cell? ⟨W.heap.size,1,none⟩=some (.slice hp ys.length hc)∧w'.cell? ⟨W.heap.size,2,none⟩=some (.slice (some ⟨nb,no,none⟩) 1 nc)∧w'.cell? ⟨nb,no,none⟩=some (.int .i64 (n:Nat)))
   (first|exact HCE.out _ (by first|assumption|exact ((by assumption:Below wa.heap.size wa w6).setCell HFB.out _).setCell HFB.out _))
   (first
    | (go_at_call 66;refine (HTG.out _ (by assumption)).mono ?_;rintro e w6 ⟨rfl,hb6,hb6'⟩;obtain⟨c0,c1,f0,f1⟩:=HF5.out _ hb6))
  have kh:((w6.setCell ⟨fb,0,none⟩ (.int .i64 0)).setCell ⟨fb,1,none⟩ (.int .i64 (-1))).cell? ⟨fb,0,none⟩=some (.int .i64 0):=by simp[go_sem,c0]
  have hb7:Below wa.heap.size wa ((w6.setCell ⟨fb,0,none⟩ (.int .i64 0)).setCell ⟨fb,1,none⟩ (.int .i64 (-1))):=(hb6'.setCell HFB.out _).setCell HFB.out _
  generalize ((w6.setCell ⟨fb,0,none⟩ (.int .i64 0)).setCell ⟨fb,1,none⟩ (.int .i64 (-1)))=w7 at *
  have HB7:Hid (∀w',Below w7.heap.size w7 w'→Below wa.heap.size wa w'):=fun w' hb=>below_then hb7 hb
  have HF7:Hid (∀w',Below w7.heap.size w7 w'→w'.cell? ⟨fb,0,none⟩=some (.int .i64 0)):=fun w' hb=>below_cell hb kh
  have hd7:Below w7.heap.size w7 w7.drew:=below_drewN (Below.refl _ _) 1
  clear hb6 hb6' c0 c1 f0 f1 hb7 HB5 hd5 i1 i2 i3 kf HCE HTG HF5
  go_wp2_with fail
  go_region_held3 (fun w'=>w'.cell? ⟨fb,0,none⟩=some (.int .i64 0))
   (first|exact HF7.out _ (by assumption))
   (first
    | (go_at_call 19;refine (HDE.out w7 _ (by assumption)).mono ?_;rintro e w8 ⟨rfl,hb8⟩)
    | (go_at_call 23;refine (HET.out w7 _ _ (by assumption)).mono ?_;rintro e w9 ⟨rfl,hb9⟩))
  all_goals
   go_wp2
   go_ret
   exact⟨rfl,below_then HBA.out (HB7.out _ (by assumption))⟩
end Go.Proofs.YtfhmfjcpggddkaaGreatDoor
