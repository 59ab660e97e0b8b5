/- JumpBuckets, where the number of buckets is out of its bounds. -/
import Derived.Test.YteehhglhlapcbabDoorJB0
namespace Go.Proofs.YteehhglhlapcbabDoor
open Go.RowKit

set_option maxRecDepth 100000 in
set_option maxHeartbeats 4000000 in
theorem jb_none (a : Nat → Addr) (p : Option Addr) (c : Nat) (ks : List Nat) (x : Int) (w : World) (he : Errs a w) (hv : Keys1 w (.slice p ks.length c) ks) (hp : KeysAt w p ks) (hl : ks.length ≤ 60) (hx1 : x < 1) :
    Calls Tryd.prog 3 #[.slice p ks.length c, .int .i64 x] w fun e w' => e = .returned (.bool true) ∧ Below w.heap.size w w' := by
  obtain ⟨i, hi, hz0, hz1, hz2⟩ := info_parts infoI
  have HE : Hid (Errs a w) := he
  have HV : Hid (Keys1 w (.slice p ks.length c) ks) := hv
  have HP : Hid (KeysAt w p ks) := hp
  clear he hv hp
  obtain ⟨m, hm⟩ : ∃ m, ks.length = m := ⟨_, rfl⟩
  have HM : Hid (ks.length = m) := hm
  rw [hm]
  rw [hm] at hl HV
  clear hm
  have e1 : decide (60 < (m : Int)) = false := by simp; omega
  have e2 : decide (600 < (m : Int)) = false := by simp; omega
  have e3 : decide (500 < (m : Int)) = false := by simp; omega
  have hx : x < 1 ∨ 1048576 < x := Or.inl hx1
  have e4 : decide (x < 1) = true := by simpa using hx1
  have hbyt : i.bytes * 500 ≤ 281474976710656 := by rw [hz2]; decide
  have hmax : 500 ≤ maxLen := by unfold maxLen; decide
  go_enter Tryd.func3, Tryd.ntmps3
  go_wp2_with fail
  refine (jumped_any _).mono ?_
  rintro e w1 ⟨rfl, hb1⟩
  go_wp2_with fail
  refine (ownKeys_any _ ks w1 (HV.out.later hb1) (by rw [HM.out]; omega)).mono ?_
  rintro e w2 ⟨v2, rfl, hv2, hb2⟩
  obtain ⟨p2, c2, rfl, -⟩ := hv2.at
  go_wp2_with fail
  refine (shares_bad a p2 _ c2 x w2 (HE.out.later (below_then hb1 hb2)).one (by rw [HM.out]; omega) (by rw [HM.out]; omega)).mono ?_
  rintro e w3 ⟨rfl, hb3⟩
  have hbw3 : Below w.heap.size w w3 := below_then hb1 (below_then hb2 hb3)
  clear hv2 hb1 hb2 hb3
  go_wp2_with (at_make; refine wpList_make_full _ rfl _ _ 24 rfl w3.heap.size 3 i _ 1 Tryd.underlying24 hi hz0 hz1 _ _ _ _ 500 rfl rfl rfl rfl hbyt hmax (Nat.le_refl _) ?_)
  intro w4 hown hgrow
  have hbw4 : Below w.heap.size w w4 := below_then hbw3 (below_grown hgrow (fun k h => by cases h))
  clear hown hgrow hbw3
  go_wp2_with fail
  go_loopw [10] (fun t W => Below w.heap.size w W ∧ ∃ j : Nat, j ≤ m ∧ j ≤ 60 ∧ t = .int .i64 j) (fun t _ => 60 - (intOf t).toNat)
  case atStart => exact ⟨hbw4, 0, Nat.zero_le _, by omega, rfl⟩
  case round =>
    obtain ⟨hbw, j, hj, hj6, rfl⟩ := hrel
    by_cases hlt : j < m ∧ j < 60
    · have hlt' : j < ks.length := by rw [HM.out]; exact hlt.1
      have hlm := hlt.1
      have hl6 := hlt.2
      obtain ⟨b, o, hpp, hc⟩ := HP.out j hlt'
      subst hpp
      have HC : Hid (∀ W, Below wr.heap.size wr W → W.cell? ⟨b, o + j, none⟩ = some (.int .u64 (ks[j] : Nat))) := fun W hW => below_cell hW (below_cell hbw hc)
      have hj60 : (j : Int) < 60 := by omega
      have hji : (j : Int) < (m : Int) := by omega
      have hbk := fun W h => bucket_bad a ks[j] x W h hx
      have hpa := fun W h => path_bad a ks[j] x W h hx
      have hpo := fun W => pathOf_bad ks[j] x W hx
      generalize ks[j] = kk at *
      clear hc hlt
      have HEW : Hid (Errs a wr) := HE.out.later hbw
      have c1 := HC.out wr (Below.refl _ _)
      go_wp2_with fail
      refine (hbk _ HEW.out.one).mono ?_
      rintro e w5 ⟨rfl, hb5⟩
      clear c1 hbk
      have c2 := HC.out w5 hb5
      go_wp2_with fail
      refine (hpa _ (HEW.out.later hb5).one).mono ?_
      rintro e w6 ⟨rfl, hb6⟩
      have hb6' := below_then hb5 hb6
      clear c2 hpa hb5 hb6
      have c3 := HC.out w6 hb6'
      go_wp2_with fail
      refine (hpo _).mono ?_
      rintro e w7 ⟨rfl, rfl⟩
      clear c3 hpo
      go_wp2_with fail
      refine (coded_bound a _ (HEW.out.later hb6')).mono ?_
      rintro e w8 ⟨rfl, hb8⟩
      have hb8' := below_then hb6' hb8
      go_wp2_with fail
      refine (coded_bound a _ (HEW.out.later hb8')).mono ?_
      rintro e w9 ⟨rfl, hb9⟩
      have hb9' := below_then hb8' hb9
      go_wp2_with fail
      refine (sameInts_zero none none 0 0 _).mono ?_
      rintro e w10 ⟨rfl, rfl⟩
      clear hb8 hb9 hb8' hb6'
      go_wp2_with fail
      go_roundw
      case rel => exact ⟨below_then hbw hb9', j + 1, by omega, by omega, by go_num⟩
      case measure => simp [intOf]; omega
    · have hd : decide ((j : Int) < (m : Int)) = false := by simp; omega
      have hcd := coded_bound a wr (HE.out.later hbw)
      go_wp2_with fail
      refine hcd.mono ?_
      rintro e w5 ⟨rfl, hb5⟩
      clear hcd
      go_wp2
      go_ret
      exact ⟨rfl, below_then hbw hb5⟩
set_option maxRecDepth 100000 in
set_option maxHeartbeats 4000000 in
theorem jb_huge (a : Nat → Addr) (p : Option Addr) (c : Nat) (ks : List Nat) (x : Int) (w : World) (he : Errs a w) (hv : Keys1 w (.slice p ks.length c) ks) (hp : KeysAt w p ks) (hl : ks.length ≤ 60) (hx1 : 1048576 < x) :
    Calls Tryd.prog 3 #[.slice p ks.length c, .int .i64 x] w fun e w' => e = .returned (.bool true) ∧ Below w.heap.size w w' := by
  obtain ⟨i, hi, hz0, hz1, hz2⟩ := info_parts infoI
  have HE : Hid (Errs a w) := he
  have HV : Hid (Keys1 w (.slice p ks.length c) ks) := hv
  have HP : Hid (KeysAt w p ks) := hp
  clear he hv hp
  obtain ⟨m, hm⟩ : ∃ m, ks.length = m := ⟨_, rfl⟩
  have HM : Hid (ks.length = m) := hm
  rw [hm]
  rw [hm] at hl HV
  clear hm
  have e1 : decide (60 < (m : Int)) = false := by simp; omega
  have e2 : decide (600 < (m : Int)) = false := by simp; omega
  have e3 : decide (500 < (m : Int)) = false := by simp; omega
  have hx : x < 1 ∨ 1048576 < x := Or.inr hx1
  have e4 : decide (x < 1) = false := by simp; omega
  have e5 : decide (500 < x) = true := by simp; omega
  have hbyt : i.bytes * 500 ≤ 281474976710656 := by rw [hz2]; decide
  have hmax : 500 ≤ maxLen := by unfold maxLen; decide
  go_enter Tryd.func3, Tryd.ntmps3
  go_wp2_with fail
  refine (jumped_any _).mono ?_
  rintro e w1 ⟨rfl, hb1⟩
  go_wp2_with fail
  refine (ownKeys_any _ ks w1 (HV.out.later hb1) (by rw [HM.out]; omega)).mono ?_
  rintro e w2 ⟨v2, rfl, hv2, hb2⟩
  obtain ⟨p2, c2, rfl, -⟩ := hv2.at
  go_wp2_with fail
  refine (shares_bad a p2 _ c2 x w2 (HE.out.later (below_then hb1 hb2)).one (by rw [HM.out]; omega) (by rw [HM.out]; omega)).mono ?_
  rintro e w3 ⟨rfl, hb3⟩
  have hbw3 : Below w.heap.size w w3 := below_then hb1 (below_then hb2 hb3)
  clear hv2 hb1 hb2 hb3
  go_wp2_with (at_make; refine wpList_make_full _ rfl _ _ 24 rfl w3.heap.size 3 i _ 1 Tryd.underlying24 hi hz0 hz1 _ _ _ _ 500 rfl rfl rfl rfl hbyt hmax (Nat.le_refl _) ?_)
  intro w4 hown hgrow
  have hbw4 : Below w.heap.size w w4 := below_then hbw3 (below_grown hgrow (fun k h => by cases h))
  clear hown hgrow hbw3
  go_wp2_with fail
  go_loopw [10] (fun t W => Below w.heap.size w W ∧ ∃ j : Nat, j ≤ m ∧ j ≤ 60 ∧ t = .int .i64 j) (fun t _ => 60 - (intOf t).toNat)
  case atStart => exact ⟨hbw4, 0, Nat.zero_le _, by omega, rfl⟩
  case round =>
    obtain ⟨hbw, j, hj, hj6, rfl⟩ := hrel
    by_cases hlt : j < m ∧ j < 60
    · have hlt' : j < ks.length := by rw [HM.out]; exact hlt.1
      have hlm := hlt.1
      have hl6 := hlt.2
      obtain ⟨b, o, hpp, hc⟩ := HP.out j hlt'
      subst hpp
      have HC : Hid (∀ W, Below wr.heap.size wr W → W.cell? ⟨b, o + j, none⟩ = some (.int .u64 (ks[j] : Nat))) := fun W hW => below_cell hW (below_cell hbw hc)
      have hj60 : (j : Int) < 60 := by omega
      have hji : (j : Int) < (m : Int) := by omega
      have hbk := fun W h => bucket_bad a ks[j] x W h hx
      have hpa := fun W h => path_bad a ks[j] x W h hx
      have hpo := fun W => pathOf_bad ks[j] x W hx
      generalize ks[j] = kk at *
      clear hc hlt
      have HEW : Hid (Errs a wr) := HE.out.later hbw
      have c1 := HC.out wr (Below.refl _ _)
      go_wp2_with fail
      refine (hbk _ HEW.out.one).mono ?_
      rintro e w5 ⟨rfl, hb5⟩
      clear c1 hbk
      have c2 := HC.out w5 hb5
      go_wp2_with fail
      refine (hpa _ (HEW.out.later hb5).one).mono ?_
      rintro e w6 ⟨rfl, hb6⟩
      have hb6' := below_then hb5 hb6
      clear c2 hpa hb5 hb6
      have c3 := HC.out w6 hb6'
      go_wp2_with fail
      refine (hpo _).mono ?_
      rintro e w7 ⟨rfl, rfl⟩
      clear c3 hpo
      go_wp2_with fail
      refine (coded_bound a _ (HEW.out.later hb6')).mono ?_
      rintro e w8 ⟨rfl, hb8⟩
      have hb8' := below_then hb6' hb8
      go_wp2_with fail
      refine (coded_bound a _ (HEW.out.later hb8')).mono ?_
      rintro e w9 ⟨rfl, hb9⟩
      have hb9' := below_then hb8' hb9
      go_wp2_with fail
      refine (sameInts_zero none none 0 0 _).mono ?_
      rintro e w10 ⟨rfl, rfl⟩
      clear hb8 hb9 hb8' hb6'
      go_wp2_with fail
      go_roundw
      case rel => exact ⟨below_then hbw hb9', j + 1, by omega, by omega, by go_num⟩
      case measure => simp [intOf]; omega
    · have hd : decide ((j : Int) < (m : Int)) = false := by simp; omega
      have hcd := coded_bound a wr (HE.out.later hbw)
      go_wp2_with fail
      refine hcd.mono ?_
      rintro e w5 ⟨rfl, hb5⟩
      clear hcd
      go_wp2
      go_ret
      exact ⟨rfl, below_then hbw hb5⟩
set_option maxRecDepth 100000 in
set_option maxHeartbeats 4000000 in
theorem jb_longbad (a : Nat → Addr) (p : Option Addr) (c : Nat) (ks : List Nat) (x : Int) (w : World) (he : Errs a w) (hv : Keys1 w (.slice p ks.length c) ks) (hp : KeysAt w p ks) (hl1 : 500 < ks.length) (hl : ks.length ≤ 600) (hx : x < 1 ∨ 1048576 < x) :
    Calls Tryd.prog 3 #[.slice p ks.length c, .int .i64 x] w fun e w' => e = .returned (.bool true) ∧ Below w.heap.size w w' := by
  obtain ⟨i, hi, hz0, hz1, hz2⟩ := info_parts infoI
  have HE : Hid (Errs a w) := he
  have HV : Hid (Keys1 w (.slice p ks.length c) ks) := hv
  have HP : Hid (KeysAt w p ks) := hp
  clear he hv hp
  obtain ⟨m, hm⟩ : ∃ m, ks.length = m := ⟨_, rfl⟩
  have HM : Hid (ks.length = m) := hm
  rw [hm]
  rw [hm] at hl1 hl HV
  clear hm
  have e1 : decide (60 < (m : Int)) = true := by simp; omega
  have e1' : decide ((m : Int) ≤ 500) = false := by simp; omega
  have e2 : decide (600 < (m : Int)) = false := by simp; omega
  have e3 : decide (500 < (m : Int)) = true := by simp; omega
  have hbyt : i.bytes * 500 ≤ 281474976710656 := by rw [hz2]; decide
  have hmax : 500 ≤ maxLen := by unfold maxLen; decide
  go_enter Tryd.func3, Tryd.ntmps3
  go_wp2_with fail
  refine (jumped_any _).mono ?_
  rintro e w1 ⟨rfl, hb1⟩
  go_wp2_with fail
  refine (ownKeys_any _ ks w1 (HV.out.later hb1) (by rw [HM.out]; omega)).mono ?_
  rintro e w2 ⟨v2, rfl, hv2, hb2⟩
  obtain ⟨p2, c2, rfl, -⟩ := hv2.at
  go_wp2_with fail
  refine (shares_bad a p2 _ c2 x w2 (HE.out.later (below_then hb1 hb2)).one (by rw [HM.out]; omega) (by rw [HM.out]; omega)).mono ?_
  rintro e w3 ⟨rfl, hb3⟩
  have hbw3 : Below w.heap.size w w3 := below_then hb1 (below_then hb2 hb3)
  clear hv2 hb1 hb2 hb3
  go_wp2_with (at_make; refine wpList_make_full _ rfl _ _ 24 rfl w3.heap.size 3 i _ 1 Tryd.underlying24 hi hz0 hz1 _ _ _ _ 500 rfl rfl rfl rfl hbyt hmax (Nat.le_refl _) ?_)
  intro w4 hown hgrow
  have hbw4 : Below w.heap.size w w4 := below_then hbw3 (below_grown hgrow (fun k h => by cases h))
  clear hown hgrow hbw3
  go_wp2_with fail
  go_loopw [10] (fun t W => Below w.heap.size w W ∧ ∃ j : Nat, j ≤ m ∧ j ≤ 60 ∧ t = .int .i64 j) (fun t _ => 60 - (intOf t).toNat)
  case atStart => exact ⟨hbw4, 0, Nat.zero_le _, by omega, rfl⟩
  case round =>
    obtain ⟨hbw, j, hj, hj6, rfl⟩ := hrel
    by_cases hlt : j < m ∧ j < 60
    · have hlt' : j < ks.length := by rw [HM.out]; exact hlt.1
      have hlm := hlt.1
      have hl6 := hlt.2
      obtain ⟨b, o, hpp, hc⟩ := HP.out j hlt'
      subst hpp
      have HC : Hid (∀ W, Below wr.heap.size wr W → W.cell? ⟨b, o + j, none⟩ = some (.int .u64 (ks[j] : Nat))) := fun W hW => below_cell hW (below_cell hbw hc)
      have hj60 : (j : Int) < 60 := by omega
      have hji : (j : Int) < (m : Int) := by omega
      have hbk := fun W h => bucket_bad a ks[j] x W h hx
      have hpa := fun W h => path_bad a ks[j] x W h hx
      have hpo := fun W => pathOf_bad ks[j] x W hx
      generalize ks[j] = kk at *
      clear hc hlt
      have HEW : Hid (Errs a wr) := HE.out.later hbw
      have c1 := HC.out wr (Below.refl _ _)
      go_wp2_with fail
      refine (hbk _ HEW.out.one).mono ?_
      rintro e w5 ⟨rfl, hb5⟩
      clear c1 hbk
      have c2 := HC.out w5 hb5
      go_wp2_with fail
      refine (hpa _ (HEW.out.later hb5).one).mono ?_
      rintro e w6 ⟨rfl, hb6⟩
      have hb6' := below_then hb5 hb6
      clear c2 hpa hb5 hb6
      have c3 := HC.out w6 hb6'
      go_wp2_with fail
      refine (hpo _).mono ?_
      rintro e w7 ⟨rfl, rfl⟩
      clear c3 hpo
      go_wp2_with fail
      refine (coded_bound a _ (HEW.out.later hb6')).mono ?_
      rintro e w8 ⟨rfl, hb8⟩
      have hb8' := below_then hb6' hb8
      go_wp2_with fail
      refine (coded_bound a _ (HEW.out.later hb8')).mono ?_
      rintro e w9 ⟨rfl, hb9⟩
      have hb9' := below_then hb8' hb9
      go_wp2_with fail
      refine (sameInts_zero none none 0 0 _).mono ?_
      rintro e w10 ⟨rfl, rfl⟩
      clear hb8 hb9 hb8' hb6'
      go_wp2_with fail
      go_roundw
      case rel => exact ⟨below_then hbw hb9', j + 1, by omega, by omega, by go_num⟩
      case measure => simp [intOf]; omega
    · have hd : decide ((j : Int) < 60) = false := by simp; omega
      have hd' : (j : Int) < (m : Int) := by omega
      have hcd := coded_bound a wr (HE.out.later hbw)
      go_wp2_with fail
      refine hcd.mono ?_
      rintro e w5 ⟨rfl, hb5⟩
      clear hcd
      go_wp2
      go_ret
      exact ⟨rfl, below_then hbw hb5⟩
end Go.Proofs.YteehhglhlapcbabDoor
