/- The law PlaySpread, over the landed package's contracts: a number that is too great. -/
import Derived.Test.YtmdckddenelneaaGreatDoorM46
import Derived.Deep.RegionHeld3
namespace Go.Proofs.YtmdckddenelneaaGreatDoor
open Go.RowKit

section
variable {hC : BalanceC} {hP : PlayC hC} {a : Nat → Addr} {lv kv : Value} {xs : List ByteArray} {ks : List Nat} {size n : Int} {w : World}
set_option maxRecDepth 100000 in
set_option maxHeartbeats 8000000 in
theorem ps_bad1a_c (he : hP.E a w) (hI : PsIn a lv kv xs ks size n w) (hn5 : 500 < n) (h6 : ks.length ≤ 60) (c : Nat) (pl : Int) (hf : TabFault xs size c pl) (hc : c ≠ 0) :
    Calls Tryz.prog 3 #[lv, .int .i64 size, kv, .int .i64 n] w fun e w' => e = .returned (.bool true) ∧ Below w.heap.size w w' := by
  have hpl := played_any hC hP a w he
  have HE : Hid (hP.E a w) := he
  obtain ⟨hl, hk, hku, hkl, hsz, hlen, hs, hn⟩ := hI
  have HSL : Hid (Strs1 w lv xs) := hl
  have HKL : Hid (Keys1 w kv ks) := hk
  obtain ⟨p, cp, rfl, hkc⟩ := keys1_slice hk
  have HKC : Hid (∀ k (h : k < ks.length), ∃ b o, p = some ⟨b, o, none⟩ ∧ w.cell? ⟨b, o + k, none⟩ = some (.int .u64 (ks[k] : Nat))) := hkc
  have HL : Hid (∀ w', Below w.heap.size w w' → Calls Tryz.prog 7 #[lv] w' fun e w'' => (e = .returned (.int .i64 1) ∨ (e = .returned (.int .i64 0) ∧ xs.length ≤ 30 ∧ ∀ k (h : k < xs.length), (xs[k]).size ≤ 60)) ∧ w'' = w') := fun w' hb => long_any lv xs w' (hl.later hb).strs hsz hlen
  unfold maxLen at hkl
  obtain ⟨m, hm⟩ : ∃ m, ks.length = m := ⟨_, rfl⟩
  have HM : Hid (ks.length = m) := hm
  rw [hm] at hkl h6
  rw [hm]
  have d6 : decide (60 < (m : Int)) = false := by simp; omega
  have d7 : decide (600 < (m : Int)) = false := by simp; omega
  have e1 : decide (n < 0) = false := by simp; omega
  have e2 : decide (500 < n) = true := by simp; omega
  have HF : Hid (TabFault xs size c pl) := hf
  clear hf
  clear he hl hk hsz hlen hku hkc hm
  go_enter Tryz.func3, Tryz.ntmps3
  go_wp2_with fail
  refine hpl.mono ?_
  rintro e w1 ⟨rfl, hb1⟩
  have HB1 : Hid (Below w.heap.size w w1) := hb1
  clear hpl
  go_wp2_with fail
  refine (HL.out w1 hb1).mono ?_
  rintro e w2 ⟨hlo, rfl⟩
  clear HL
  rcases hlo with rfl | ⟨rfl, h30, h60⟩
  · go_wp2
    go_ret
    exact ⟨rfl, HB1.out⟩
  have HS3 : Hid (∀ k (h : k < xs.length), (xs[k]).size ≤ 300) := fun k h => Nat.le_trans (h60 k h) (by decide)
  have HS6 : Hid (∀ k (h : k < xs.length), (xs[k]).size ≤ 1000000) := fun k h => Nat.le_trans (h60 k h) (by decide)
  have hkeys := hP.keys n w2
  clear h60
  go_wp2_with fail
  refine hkeys.mono ?_
  rintro e w3 ⟨v3, rfl, ⟨p3, c3, rfl, hk3⟩, hb3⟩
  have HK3 : Hid (∀ k, k < 500 → ∃ b o, p3 = some ⟨b, o, none⟩ ∧ w3.cell? ⟨b, o + k, none⟩ = some (.int .u64 (Lh.turn k : Nat))) := fun k hk => by
    obtain ⟨b, o, q1, q2⟩ := hk3 k (by simp; omega)
    exact ⟨b, o, q1, by rw [q2]; simp⟩
  have eN : ((List.range (min (n).toNat 500)).map Lh.turn).length = 500 := by simp; omega
  rw [eN]
  have hbw3 := below_then HB1.out hb3
  have HB3 : Hid (Below w.heap.size w w3) := hbw3
  clear hkeys hk3 hb3 hbw3 eN hb1
  go_wp2_with fail
  go_loopw [12] (fun u12 W => Below w3.heap.size w3 W ∧ ∃ k : Nat, k ≤ 500 ∧ u12 = .int .i64 (k : Nat)) (fun u12 _ => 500 - (intOf u12).toNat)
  case atStart => exact ⟨Below.refl _ _, 0, Nat.zero_le _, rfl⟩
  case round =>
    obtain ⟨hbr, k, hk, rfl⟩ := hrel
    obtain ⟨wo, hwo⟩ : ∃ wo, wo = wr := ⟨_, rfl⟩
    subst hwo
    by_cases hlt : k < 500
    · obtain ⟨b, o, rfl, ck⟩ := HK3.out k hlt
      have hki : (k : Int) < 500 := by omega
      have ckr := below_cell hbr ck
      have hku : IntKind.u64.wrap (k : Int) = (k : Int) := by simp [IntKind.wrap, IntKind.signed, IntKind.bits]; omega
      have HTO : Hid (∀ w', Below w3.heap.size w3 w' → Calls Tryz.prog 9 #[.int .u64 (k : Nat)] w' fun e w'' => e = .returned (.int .u64 (Lh.turn k : Nat)) ∧ Below w3.heap.size w3 w'') := fun w' hb => (turnOf_any k w').mono fun _ _ ⟨q1, q2⟩ => ⟨q1, by rw [q2]; exact hb⟩
      have HCK : Hid (∀ w', Below w3.heap.size w3 w' → w'.cell? ⟨b, o + k, none⟩ = some (.int .u64 (Lh.turn k : Nat))) := fun w' hb => below_cell hb ck
      generalize Lh.turn k = z at *
      clear ck
      have hb3d : Below w3.heap.size w3 wo.drew := below_drewN hbr 1
      go_wp2_with fail
      go_region_held3 (fun w' => Below w3.heap.size w3 w' ∧ w'.cell? ⟨b, o + k, none⟩ = some (.int .u64 (z : Nat)))
        (first | exact ⟨by assumption, HCK.out _ (by assumption)⟩)
        (first
          | (go_at_call 9; refine (HTO.out _ (by assumption)).mono ?_; rintro e w8 ⟨rfl, hb8⟩))
      all_goals
        go_wp2_with fail
        go_roundw
        case rel => exact ⟨by assumption, k + 1, by omega, by go_num⟩
        case measure => simp [intOf]; omega
    · have hd : decide ((k : Int) < 500) = false := by simp; omega
      obtain rfl : k = 500 := by omega
      clear hd
      go_wp2_with fail
      have hbw := below_then HB3.out hbr
      have hot := ownTexts_any lv xs _ (HSL.out.later hbw) (by omega)
      have HBW : Hid (Below w.heap.size w wo) := hbw
      clear hbr hbw
      refine hot.mono ?_
      rintro e w4 ⟨v1, rfl, hv1, hb4⟩
      have hbw4 := below_then HBW.out hb4
      have hok5 := ownKeys_any (.slice p ks.length cp) ks w4 (HKL.out.later hbw4) (by have := HM.out; omega)
      rw [HM.out] at hok5
      have HV1 : Hid (Strs1 w4 v1 xs) := hv1
      have HBW4 : Hid (Below w.heap.size w w4) := hbw4
      clear hot hv1 hb4 hbw4 HBW
      go_wp2_with fail
      refine hok5.mono ?_
      rintro e w5 ⟨v2, rfl, hv2, hb5⟩
      have hbw5 := below_then HBW4.out hb5
      have hsp := spread_bad1 a v1 v2 xs size w5 c pl (hP.errs (hP.eLater HE.out hbw5)) (HV1.out.later hb5) HF.out hc hs HS6.out (by omega)
      have HBW5 : Hid (Below w.heap.size w w5) := hbw5
      clear hok5 hv2 hb5 hbw5 HV1 HBW4
      go_wp2_with fail
      refine hsp.mono ?_
      rintro e w6 ⟨ev, rfl, hev, hb6⟩
      have hbw6 := below_then HBW5.out hb6
      have HEV : Hid (ErrIs a w6 c pl ev) := hev
      obtain ⟨t1, x1, rfl⟩ := errIs_pos hev hc
      have htf := tableFault_any lv xs size w6 c pl (HSL.out.later hbw6) HF.out hs HS6.out (by omega)
      have HBW6 : Hid (Below w.heap.size w w6) := hbw6
      have c0 : ((c : Int) == 0) = false := by simp; omega
      have c1 : decide (0 < (c : Int)) = true := by simp; omega
      clear hsp hev hb6 hbw6 HBW5
      go_wp2_with fail
      refine htf.mono ?_
      rintro e w7 ⟨rfl, hb7⟩
      clear htf
      go_wp2_with fail
      have hba : Below w7.heap.size w7 (w7.alloc (.cells #[.int .i64 (c : Nat), .int .i64 pl] 37)) := (Below.refl _ _).alloc (Nat.le_refl _) _
      have hb67 := below_then hb7 hba
      have hbz := below_then HBW6.out hb67
      refine (faulted3_is (hP.errs (hP.eLater HE.out hbz)) (HEV.out.later hb67)).mono ?_
      rintro e w8 ⟨rfl, hb8⟩
      have hbz8 := below_then hbz hb8
      clear hba hb67 hbz hb8 hb7
      go_wp2
      go_ret
      exact ⟨rfl, hbz8⟩
set_option maxRecDepth 100000 in
set_option maxHeartbeats 8000000 in
theorem ps_bad1b_c (he : hP.E a w) (hI : PsIn a lv kv xs ks size n w) (hn5 : 500 < n) (h6 : 500 < ks.length ∧ ks.length ≤ 600) (c : Nat) (pl : Int) (hf : TabFault xs size c pl) (hc : c ≠ 0) :
    Calls Tryz.prog 3 #[lv, .int .i64 size, kv, .int .i64 n] w fun e w' => e = .returned (.bool true) ∧ Below w.heap.size w w' := by
  have hpl := played_any hC hP a w he
  have HE : Hid (hP.E a w) := he
  obtain ⟨hl, hk, hku, hkl, hsz, hlen, hs, hn⟩ := hI
  have HSL : Hid (Strs1 w lv xs) := hl
  have HKL : Hid (Keys1 w kv ks) := hk
  obtain ⟨p, cp, rfl, hkc⟩ := keys1_slice hk
  have HKC : Hid (∀ k (h : k < ks.length), ∃ b o, p = some ⟨b, o, none⟩ ∧ w.cell? ⟨b, o + k, none⟩ = some (.int .u64 (ks[k] : Nat))) := hkc
  have HL : Hid (∀ w', Below w.heap.size w w' → Calls Tryz.prog 7 #[lv] w' fun e w'' => (e = .returned (.int .i64 1) ∨ (e = .returned (.int .i64 0) ∧ xs.length ≤ 30 ∧ ∀ k (h : k < xs.length), (xs[k]).size ≤ 60)) ∧ w'' = w') := fun w' hb => long_any lv xs w' (hl.later hb).strs hsz hlen
  unfold maxLen at hkl
  obtain ⟨m, hm⟩ : ∃ m, ks.length = m := ⟨_, rfl⟩
  have HM : Hid (ks.length = m) := hm
  rw [hm] at hkl h6
  rw [hm]
  have d6 : decide (60 < (m : Int)) = true := by simp; omega
  have d5 : decide ((m : Int) ≤ 500) = false := by simp; omega
  have d7 : decide (600 < (m : Int)) = false := by simp; omega
  have e1 : decide (n < 0) = false := by simp; omega
  have e2 : decide (500 < n) = true := by simp; omega
  have HF : Hid (TabFault xs size c pl) := hf
  clear hf
  clear he hl hk hsz hlen hku hkc hm
  go_enter Tryz.func3, Tryz.ntmps3
  go_wp2_with fail
  refine hpl.mono ?_
  rintro e w1 ⟨rfl, hb1⟩
  have HB1 : Hid (Below w.heap.size w w1) := hb1
  clear hpl
  go_wp2_with fail
  refine (HL.out w1 hb1).mono ?_
  rintro e w2 ⟨hlo, rfl⟩
  clear HL
  rcases hlo with rfl | ⟨rfl, h30, h60⟩
  · go_wp2
    go_ret
    exact ⟨rfl, HB1.out⟩
  have HS3 : Hid (∀ k (h : k < xs.length), (xs[k]).size ≤ 300) := fun k h => Nat.le_trans (h60 k h) (by decide)
  have HS6 : Hid (∀ k (h : k < xs.length), (xs[k]).size ≤ 1000000) := fun k h => Nat.le_trans (h60 k h) (by decide)
  have hkeys := hP.keys n w2
  clear h60
  go_wp2_with fail
  refine hkeys.mono ?_
  rintro e w3 ⟨v3, rfl, ⟨p3, c3, rfl, hk3⟩, hb3⟩
  have HK3 : Hid (∀ k, k < 500 → ∃ b o, p3 = some ⟨b, o, none⟩ ∧ w3.cell? ⟨b, o + k, none⟩ = some (.int .u64 (Lh.turn k : Nat))) := fun k hk => by
    obtain ⟨b, o, q1, q2⟩ := hk3 k (by simp; omega)
    exact ⟨b, o, q1, by rw [q2]; simp⟩
  have eN : ((List.range (min (n).toNat 500)).map Lh.turn).length = 500 := by simp; omega
  rw [eN]
  have hbw3 := below_then HB1.out hb3
  have HB3 : Hid (Below w.heap.size w w3) := hbw3
  clear hkeys hk3 hb3 hbw3 eN hb1
  go_wp2_with fail
  go_loopw [12] (fun u12 W => Below w3.heap.size w3 W ∧ ∃ k : Nat, k ≤ 500 ∧ u12 = .int .i64 (k : Nat)) (fun u12 _ => 500 - (intOf u12).toNat)
  case atStart => exact ⟨Below.refl _ _, 0, Nat.zero_le _, rfl⟩
  case round =>
    obtain ⟨hbr, k, hk, rfl⟩ := hrel
    obtain ⟨wo, hwo⟩ : ∃ wo, wo = wr := ⟨_, rfl⟩
    subst hwo
    by_cases hlt : k < 500
    · obtain ⟨b, o, rfl, ck⟩ := HK3.out k hlt
      have hki : (k : Int) < 500 := by omega
      have ckr := below_cell hbr ck
      have hku : IntKind.u64.wrap (k : Int) = (k : Int) := by simp [IntKind.wrap, IntKind.signed, IntKind.bits]; omega
      have HTO : Hid (∀ w', Below w3.heap.size w3 w' → Calls Tryz.prog 9 #[.int .u64 (k : Nat)] w' fun e w'' => e = .returned (.int .u64 (Lh.turn k : Nat)) ∧ Below w3.heap.size w3 w'') := fun w' hb => (turnOf_any k w').mono fun _ _ ⟨q1, q2⟩ => ⟨q1, by rw [q2]; exact hb⟩
      have HCK : Hid (∀ w', Below w3.heap.size w3 w' → w'.cell? ⟨b, o + k, none⟩ = some (.int .u64 (Lh.turn k : Nat))) := fun w' hb => below_cell hb ck
      generalize Lh.turn k = z at *
      clear ck
      have hb3d : Below w3.heap.size w3 wo.drew := below_drewN hbr 1
      go_wp2_with fail
      go_region_held3 (fun w' => Below w3.heap.size w3 w' ∧ w'.cell? ⟨b, o + k, none⟩ = some (.int .u64 (z : Nat)))
        (first | exact ⟨by assumption, HCK.out _ (by assumption)⟩)
        (first
          | (go_at_call 9; refine (HTO.out _ (by assumption)).mono ?_; rintro e w8 ⟨rfl, hb8⟩))
      all_goals
        go_wp2_with fail
        go_roundw
        case rel => exact ⟨by assumption, k + 1, by omega, by go_num⟩
        case measure => simp [intOf]; omega
    · have hd : decide ((k : Int) < 500) = false := by simp; omega
      obtain rfl : k = 500 := by omega
      clear hd
      go_wp2_with fail
      have hbw := below_then HB3.out hbr
      have hot := ownTexts_any lv xs _ (HSL.out.later hbw) (by omega)
      have HBW : Hid (Below w.heap.size w wo) := hbw
      clear hbr hbw
      refine hot.mono ?_
      rintro e w4 ⟨v1, rfl, hv1, hb4⟩
      have hbw4 := below_then HBW.out hb4
      have hok5 := ownKeys_any (.slice p ks.length cp) ks w4 (HKL.out.later hbw4) (by have := HM.out; omega)
      rw [HM.out] at hok5
      have HV1 : Hid (Strs1 w4 v1 xs) := hv1
      have HBW4 : Hid (Below w.heap.size w w4) := hbw4
      clear hot hv1 hb4 hbw4 HBW
      go_wp2_with fail
      refine hok5.mono ?_
      rintro e w5 ⟨v2, rfl, hv2, hb5⟩
      have hbw5 := below_then HBW4.out hb5
      have hsp := spread_bad1 a v1 v2 xs size w5 c pl (hP.errs (hP.eLater HE.out hbw5)) (HV1.out.later hb5) HF.out hc hs HS6.out (by omega)
      have HBW5 : Hid (Below w.heap.size w w5) := hbw5
      clear hok5 hv2 hb5 hbw5 HV1 HBW4
      go_wp2_with fail
      refine hsp.mono ?_
      rintro e w6 ⟨ev, rfl, hev, hb6⟩
      have hbw6 := below_then HBW5.out hb6
      have HEV : Hid (ErrIs a w6 c pl ev) := hev
      obtain ⟨t1, x1, rfl⟩ := errIs_pos hev hc
      have htf := tableFault_any lv xs size w6 c pl (HSL.out.later hbw6) HF.out hs HS6.out (by omega)
      have HBW6 : Hid (Below w.heap.size w w6) := hbw6
      have c0 : ((c : Int) == 0) = false := by simp; omega
      have c1 : decide (0 < (c : Int)) = true := by simp; omega
      clear hsp hev hb6 hbw6 HBW5
      go_wp2_with fail
      refine htf.mono ?_
      rintro e w7 ⟨rfl, hb7⟩
      clear htf
      go_wp2_with fail
      have hba : Below w7.heap.size w7 (w7.alloc (.cells #[.int .i64 (c : Nat), .int .i64 pl] 37)) := (Below.refl _ _).alloc (Nat.le_refl _) _
      have hb67 := below_then hb7 hba
      have hbz := below_then HBW6.out hb67
      refine (faulted3_is (hP.errs (hP.eLater HE.out hbz)) (HEV.out.later hb67)).mono ?_
      rintro e w8 ⟨rfl, hb8⟩
      have hbz8 := below_then hbz hb8
      clear hba hb67 hbz hb8 hb7
      go_wp2
      go_ret
      exact ⟨rfl, hbz8⟩
set_option maxRecDepth 100000 in
set_option maxHeartbeats 8000000 in
theorem ps_bad2_c (he : hP.E a w) (hI : PsIn a lv kv xs ks size n w) (hn5 : 500 < n) (h6 : 500 < ks.length ∧ ks.length ≤ 600) (hf : TabFault xs size 0 (-1)) :
    Calls Tryz.prog 3 #[lv, .int .i64 size, kv, .int .i64 n] w fun e w' => e = .returned (.bool true) ∧ Below w.heap.size w w' := by
  have hpl := played_any hC hP a w he
  have HE : Hid (hP.E a w) := he
  obtain ⟨hl, hk, hku, hkl, hsz, hlen, hs, hn⟩ := hI
  have HSL : Hid (Strs1 w lv xs) := hl
  have HKL : Hid (Keys1 w kv ks) := hk
  obtain ⟨p, cp, rfl, hkc⟩ := keys1_slice hk
  have HKC : Hid (∀ k (h : k < ks.length), ∃ b o, p = some ⟨b, o, none⟩ ∧ w.cell? ⟨b, o + k, none⟩ = some (.int .u64 (ks[k] : Nat))) := hkc
  have HL : Hid (∀ w', Below w.heap.size w w' → Calls Tryz.prog 7 #[lv] w' fun e w'' => (e = .returned (.int .i64 1) ∨ (e = .returned (.int .i64 0) ∧ xs.length ≤ 30 ∧ ∀ k (h : k < xs.length), (xs[k]).size ≤ 60)) ∧ w'' = w') := fun w' hb => long_any lv xs w' (hl.later hb).strs hsz hlen
  unfold maxLen at hkl
  obtain ⟨m, hm⟩ : ∃ m, ks.length = m := ⟨_, rfl⟩
  have HM : Hid (ks.length = m) := hm
  rw [hm] at hkl h6
  rw [hm]
  have d6 : decide (60 < (m : Int)) = true := by simp; omega
  have d5 : decide ((m : Int) ≤ 500) = false := by simp; omega
  have d7 : decide (600 < (m : Int)) = false := by simp; omega
  have e1 : decide (n < 0) = false := by simp; omega
  have e2 : decide (500 < n) = true := by simp; omega
  have HF : Hid (TabFault xs size 0 (-1)) := hf
  clear hf
  clear he hl hk hsz hlen hku hkc hm
  go_enter Tryz.func3, Tryz.ntmps3
  go_wp2_with fail
  refine hpl.mono ?_
  rintro e w1 ⟨rfl, hb1⟩
  have HB1 : Hid (Below w.heap.size w w1) := hb1
  clear hpl
  go_wp2_with fail
  refine (HL.out w1 hb1).mono ?_
  rintro e w2 ⟨hlo, rfl⟩
  clear HL
  rcases hlo with rfl | ⟨rfl, h30, h60⟩
  · go_wp2
    go_ret
    exact ⟨rfl, HB1.out⟩
  have HS3 : Hid (∀ k (h : k < xs.length), (xs[k]).size ≤ 300) := fun k h => Nat.le_trans (h60 k h) (by decide)
  have HS6 : Hid (∀ k (h : k < xs.length), (xs[k]).size ≤ 1000000) := fun k h => Nat.le_trans (h60 k h) (by decide)
  have hkeys := hP.keys n w2
  clear h60
  go_wp2_with fail
  refine hkeys.mono ?_
  rintro e w3 ⟨v3, rfl, ⟨p3, c3, rfl, hk3⟩, hb3⟩
  have HK3 : Hid (∀ k, k < 500 → ∃ b o, p3 = some ⟨b, o, none⟩ ∧ w3.cell? ⟨b, o + k, none⟩ = some (.int .u64 (Lh.turn k : Nat))) := fun k hk => by
    obtain ⟨b, o, q1, q2⟩ := hk3 k (by simp; omega)
    exact ⟨b, o, q1, by rw [q2]; simp⟩
  have eN : ((List.range (min (n).toNat 500)).map Lh.turn).length = 500 := by simp; omega
  rw [eN]
  have hbw3 := below_then HB1.out hb3
  have HB3 : Hid (Below w.heap.size w w3) := hbw3
  clear hkeys hk3 hb3 hbw3 eN hb1
  go_wp2_with fail
  go_loopw [12] (fun u12 W => Below w3.heap.size w3 W ∧ ∃ k : Nat, k ≤ 500 ∧ u12 = .int .i64 (k : Nat)) (fun u12 _ => 500 - (intOf u12).toNat)
  case atStart => exact ⟨Below.refl _ _, 0, Nat.zero_le _, rfl⟩
  case round =>
    obtain ⟨hbr, k, hk, rfl⟩ := hrel
    obtain ⟨wo, hwo⟩ : ∃ wo, wo = wr := ⟨_, rfl⟩
    subst hwo
    by_cases hlt : k < 500
    · obtain ⟨b, o, rfl, ck⟩ := HK3.out k hlt
      have hki : (k : Int) < 500 := by omega
      have ckr := below_cell hbr ck
      have hku : IntKind.u64.wrap (k : Int) = (k : Int) := by simp [IntKind.wrap, IntKind.signed, IntKind.bits]; omega
      have HTO : Hid (∀ w', Below w3.heap.size w3 w' → Calls Tryz.prog 9 #[.int .u64 (k : Nat)] w' fun e w'' => e = .returned (.int .u64 (Lh.turn k : Nat)) ∧ Below w3.heap.size w3 w'') := fun w' hb => (turnOf_any k w').mono fun _ _ ⟨q1, q2⟩ => ⟨q1, by rw [q2]; exact hb⟩
      have HCK : Hid (∀ w', Below w3.heap.size w3 w' → w'.cell? ⟨b, o + k, none⟩ = some (.int .u64 (Lh.turn k : Nat))) := fun w' hb => below_cell hb ck
      generalize Lh.turn k = z at *
      clear ck
      have hb3d : Below w3.heap.size w3 wo.drew := below_drewN hbr 1
      go_wp2_with fail
      go_region_held3 (fun w' => Below w3.heap.size w3 w' ∧ w'.cell? ⟨b, o + k, none⟩ = some (.int .u64 (z : Nat)))
        (first | exact ⟨by assumption, HCK.out _ (by assumption)⟩)
        (first
          | (go_at_call 9; refine (HTO.out _ (by assumption)).mono ?_; rintro e w8 ⟨rfl, hb8⟩))
      all_goals
        go_wp2_with fail
        go_roundw
        case rel => exact ⟨by assumption, k + 1, by omega, by go_num⟩
        case measure => simp [intOf]; omega
    · have hd : decide ((k : Int) < 500) = false := by simp; omega
      obtain rfl : k = 500 := by omega
      clear hd
      go_wp2_with fail
      have hbw := below_then HB3.out hbr
      have hot := ownTexts_any lv xs _ (HSL.out.later hbw) (by omega)
      have HBW : Hid (Below w.heap.size w wo) := hbw
      clear hbr hbw
      refine hot.mono ?_
      rintro e w4 ⟨v1, rfl, hv1, hb4⟩
      have hbw4 := below_then HBW.out hb4
      have hok5 := ownKeys_any (.slice p ks.length cp) ks w4 (HKL.out.later hbw4) (by have := HM.out; omega)
      rw [HM.out] at hok5
      have HV1 : Hid (Strs1 w4 v1 xs) := hv1
      have HBW4 : Hid (Below w.heap.size w w4) := hbw4
      clear hot hv1 hb4 hbw4 HBW
      go_wp2_with fail
      refine hok5.mono ?_
      rintro e w5 ⟨v2, rfl, hv2, hb5⟩
      have hbw5 := below_then HBW4.out hb5
      have hsp := spread_bad2 a v1 v2 xs ks size w5 (hP.errs (hP.eLater HE.out hbw5)) (HV1.out.later hb5) hv2 HF.out (by have := HM.out; omega) (by have := HM.out; omega) HS3.out
      have HBW5 : Hid (Below w.heap.size w w5) := hbw5
      clear hok5 hv2 hb5 hbw5 HV1 HBW4
      go_wp2_with fail
      refine hsp.mono ?_
      rintro e w6 ⟨ev, rfl, hev, hb6⟩
      have hbw6 := below_then HBW5.out hb6
      have HEV : Hid (ErrIs a w6 2 (-1) ev) := hev
      obtain ⟨t1, x1, rfl⟩ := errIs_pos hev (by decide)
      have htf := tableFault_any lv xs size w6 0 (-1) (HSL.out.later hbw6) HF.out hs HS6.out (by omega)
      have HBW6 : Hid (Below w.heap.size w w6) := hbw6
      have e500 : decide (500 < (m : Int)) = true := by simp; omega
      clear hsp hev hb6 hbw6 HBW5
      go_wp2_with fail
      refine htf.mono ?_
      rintro e w7 ⟨rfl, hb7⟩
      clear htf
      go_wp2_with fail
      have hba : Below w7.heap.size w7 (w7.alloc (.cells #[.int .i64 0, .int .i64 (-1)] 37)) := (Below.refl _ _).alloc (Nat.le_refl _) _
      refine (bare_any 2 _).mono ?_
      rintro e w8 ⟨rfl, hb8⟩
      have k0 : w8.cell? ⟨w7.heap.size, 0, none⟩ = some (.int .i64 0) := below_cell hb8 (by simp)
      have k1 : w8.cell? ⟨w7.heap.size, 1, none⟩ = some (.int .i64 (-1)) := below_cell hb8 (by simp)
      have kz : ∀ i, w8.frozen? ⟨w7.heap.size, i, none⟩ = false := fun i => (World.frozen?_of_block (w' := w8) (a := ⟨w7.heap.size, i, none⟩) (hb8.block _ (by simp))).trans (by simp)
      have kz0 := kz 0
      have kz1 := kz 1
      have hb68 : Below w6.heap.size w6 w8 := below_then (below_then hb7 hba) hb8
      have hle : w6.heap.size ≤ w7.heap.size := hb7.size
      generalize w7.heap.size = fb at *
      clear hba hb8 kz hb7
      go_wp2_with fail
      have hb6z : Below w6.heap.size w6 ((w8.setCell ⟨fb, 0, none⟩ (.int .i64 2)).setCell ⟨fb, 1, none⟩ (.int .i64 (-1))) := (hb68.setCell hle _).setCell hle _
      have hbz := below_then HBW6.out hb6z
      refine (faulted3_is (c := 2) (pl := -1) (hP.errs (hP.eLater HE.out hbz)) (HEV.out.later hb6z)).mono ?_
      rintro e w9 ⟨rfl, hb9⟩
      have hbz9 := below_then hbz hb9
      clear hb6z hbz hb9 hb68 k0 k1 kz0 kz1
      go_wp2
      go_ret
      exact ⟨rfl, hbz9⟩
set_option maxRecDepth 100000 in
set_option maxHeartbeats 8000000 in
theorem ps_good_c (he : hP.E a w) (hI : PsIn a lv kv xs ks size n w) (hn5 : 500 < n) (h6 : ks.length ≤ 60) (hf : TabFault xs size 0 (-1)) :
    Calls Tryz.prog 3 #[lv, .int .i64 size, kv, .int .i64 n] w fun e w' => e = .returned (.bool true) ∧ Below w.heap.size w w' := by
  have hpl := played_any hC hP a w he
  have HE : Hid (hP.E a w) := he
  obtain ⟨hl, hk, hku, hkl, hsz, hlen, hs, hn⟩ := hI
  obtain ⟨ti, hti, hz0, hz1, hz2⟩ := info_parts infoI
  obtain ⟨_, h0, hif, sz, rfl, hprm, h22, h53⟩ := tabFault_zero hf
  obtain ⟨_, h12, _⟩ := fault_zero hif
  have HIF : Hid (IsFault xs 0 (-1)) := hif
  have HPR : Hid (Lh.Prm sz) := hprm
  have HF : Hid (TabFault xs (sz : Nat) 0 (-1)) := hf
  obtain ⟨bq, oq, cq, rfl, hxq⟩ := strs1_pos hl h0
  have hcap : xs.length ≤ cq := by
    rcases hl with ⟨h1, _⟩ | ⟨b', o', c', h1, h2, _⟩
    · rw [h1] at h0; cases h0
    · simp only [Value.slice.injEq] at h1
      omega
  have HXQ : Hid (∀ k (h : k < xs.length), w.cell? ⟨bq, oq + k, none⟩ = some (.string xs[k])) := hxq
  clear hif hprm hf hxq
  have HSL : Hid (Strs1 w (.slice (some ⟨bq, oq, none⟩) xs.length cq) xs) := hl
  have HKL : Hid (Keys1 w kv ks) := hk
  obtain ⟨p, cp, rfl, hkc⟩ := keys1_slice hk
  have HKC : Hid (∀ k (h : k < ks.length), ∃ b o, p = some ⟨b, o, none⟩ ∧ w.cell? ⟨b, o + k, none⟩ = some (.int .u64 (ks[k] : Nat))) := hkc
  have HL : Hid (∀ w', Below w.heap.size w w' → Calls Tryz.prog 7 #[.slice (some ⟨bq, oq, none⟩) xs.length cq] w' fun e w'' => (e = .returned (.int .i64 1) ∨ (e = .returned (.int .i64 0) ∧ xs.length ≤ 30 ∧ ∀ k (h : k < xs.length), (xs[k]).size ≤ 60)) ∧ w'' = w') := fun w' hb => long_any _ xs w' (hl.later hb).strs hsz hlen
  unfold maxLen at hkl
  obtain ⟨m, hm⟩ : ∃ m, ks.length = m := ⟨_, rfl⟩
  have HM : Hid (ks.length = m) := hm
  rw [hm] at hkl h6
  rw [hm]
  have d6 : decide (60 < (m : Int)) = false := by simp; omega
  have d7 : decide (600 < (m : Int)) = false := by simp; omega
  have e1 : decide (n < 0) = false := by simp; omega
  have e2 : decide (500 < n) = true := by simp; omega
  clear he hl hk hsz hlen hku hkc hm
  go_enter Tryz.func3, Tryz.ntmps3
  go_wp2_with fail
  refine hpl.mono ?_
  rintro e w1 ⟨rfl, hb1⟩
  have HB1 : Hid (Below w.heap.size w w1) := hb1
  clear hpl
  go_wp2_with fail
  refine (HL.out w1 hb1).mono ?_
  rintro e w2 ⟨hlo, rfl⟩
  clear HL
  rcases hlo with rfl | ⟨rfl, h30, h60⟩
  · go_wp2
    go_ret
    exact ⟨rfl, HB1.out⟩
  have HS3 : Hid (∀ k (h : k < xs.length), (xs[k]).size ≤ 300) := fun k h => Nat.le_trans (h60 k h) (by decide)
  have HS6 : Hid (∀ k (h : k < xs.length), (xs[k]).size ≤ 1000000) := fun k h => Nat.le_trans (h60 k h) (by decide)
  have hkeys := hP.keys n w2
  clear h60
  go_wp2_with fail
  refine hkeys.mono ?_
  rintro e w3 ⟨v3, rfl, ⟨p3, c3, rfl, hk3⟩, hb3⟩
  have HK3 : Hid (∀ k, k < 500 → ∃ b o, p3 = some ⟨b, o, none⟩ ∧ w3.cell? ⟨b, o + k, none⟩ = some (.int .u64 (Lh.turn k : Nat))) := fun k hk => by
    obtain ⟨b, o, q1, q2⟩ := hk3 k (by simp; omega)
    exact ⟨b, o, q1, by rw [q2]; simp⟩
  have eN : ((List.range (min (n).toNat 500)).map Lh.turn).length = 500 := by simp; omega
  rw [eN]
  have hbw3 := below_then HB1.out hb3
  have HB3 : Hid (Below w.heap.size w w3) := hbw3
  clear hkeys hk3 hb3 hbw3 eN hb1
  go_wp2_with fail
  go_loopw [12] (fun u12 W => Below w3.heap.size w3 W ∧ ∃ k : Nat, k ≤ 500 ∧ u12 = .int .i64 (k : Nat)) (fun u12 _ => 500 - (intOf u12).toNat)
  case atStart => exact ⟨Below.refl _ _, 0, Nat.zero_le _, rfl⟩
  case round =>
    obtain ⟨hbr, k, hk, rfl⟩ := hrel
    obtain ⟨wo, hwo⟩ : ∃ wo, wo = wr := ⟨_, rfl⟩
    subst hwo
    by_cases hlt : k < 500
    · obtain ⟨b, o, rfl, ck⟩ := HK3.out k hlt
      have hki : (k : Int) < 500 := by omega
      have ckr := below_cell hbr ck
      have hku : IntKind.u64.wrap (k : Int) = (k : Int) := by simp [IntKind.wrap, IntKind.signed, IntKind.bits]; omega
      have HTO : Hid (∀ w', Below w3.heap.size w3 w' → Calls Tryz.prog 9 #[.int .u64 (k : Nat)] w' fun e w'' => e = .returned (.int .u64 (Lh.turn k : Nat)) ∧ Below w3.heap.size w3 w'') := fun w' hb => (turnOf_any k w').mono fun _ _ ⟨q1, q2⟩ => ⟨q1, by rw [q2]; exact hb⟩
      have HCK : Hid (∀ w', Below w3.heap.size w3 w' → w'.cell? ⟨b, o + k, none⟩ = some (.int .u64 (Lh.turn k : Nat))) := fun w' hb => below_cell hb ck
      generalize Lh.turn k = z at *
      clear ck
      have hb3d : Below w3.heap.size w3 wo.drew := below_drewN hbr 1
      go_wp2_with fail
      go_region_held3 (fun w' => Below w3.heap.size w3 w' ∧ w'.cell? ⟨b, o + k, none⟩ = some (.int .u64 (z : Nat)))
        (first | exact ⟨by assumption, HCK.out _ (by assumption)⟩)
        (first
          | (go_at_call 9; refine (HTO.out _ (by assumption)).mono ?_; rintro e w8 ⟨rfl, hb8⟩))
      all_goals
        go_wp2_with fail
        go_roundw
        case rel => exact ⟨by assumption, k + 1, by omega, by go_num⟩
        case measure => simp [intOf]; omega
    · have hd : decide ((k : Int) < 500) = false := by simp; omega
      obtain rfl : k = 500 := by omega
      clear hd
      go_wp2_with fail
      have hbw := below_then HB3.out hbr
      have hot := ownTexts_any _ xs _ (HSL.out.later hbw) (by omega)
      have HBW : Hid (Below w.heap.size w wo) := hbw
      clear hbr hbw
      refine hot.mono ?_
      rintro e w4 ⟨v1, rfl, hv1, hb4⟩
      have hbw4 := below_then HBW.out hb4
      have hok5 := ownKeys_any (.slice p ks.length cp) ks w4 (HKL.out.later hbw4) (by have := HM.out; omega)
      rw [HM.out] at hok5
      have HV1 : Hid (Strs1 w4 v1 xs) := hv1
      have HBW4 : Hid (Below w.heap.size w w4) := hbw4
      clear hot hv1 hb4 hbw4 HBW
      go_wp2_with fail
      refine hok5.mono ?_
      rintro e w5 ⟨v2, rfl, hv2, hb5⟩
      have hbw5 := below_then HBW4.out hb5
      have hsp := spread_good a v1 v2 xs ks sz w5 (hP.errs (hP.eLater HE.out hbw5)) (HV1.out.later hb5) hv2 h0 HIF.out HPR.out h53 (by have := HM.out; omega) HS3.out
      have HBW5 : Hid (Below w.heap.size w w5) := hbw5
      clear hok5 hv2 hb5 hbw5 HV1 HBW4
      go_wp2_with fail
      refine hsp.mono ?_
      rintro e w6 ⟨g6, rfl, _, hrow6, hb6⟩
      have hbw6 := below_then HBW5.out hb6
      have HR6 : Hid (IntRow w6 g6 (cnt (slotL (Lh.tab xs sz sz) sz ks) xs.length)) := hrow6
      have htf := tableFault_any _ xs sz w6 0 (-1) (HSL.out.later hbw6) HF.out hs HS6.out (by omega)
      have HBW6 : Hid (Below w.heap.size w w6) := hbw6
      have e500 : decide (500 < (m : Int)) = false := by simp; omega
      clear hsp hrow6 hb6 hbw6 HBW5
      go_wp2_with fail
      refine htf.mono ?_
      rintro e w7 ⟨rfl, hb7⟩
      clear htf
      have hba : Below w7.heap.size w7 (w7.alloc (.cells #[.int .i64 0, .int .i64 (-1)] 37)) := (Below.refl _ _).alloc (Nat.le_refl _) _
      have hb67 := below_then hb7 hba
      have hbz := below_then HBW6.out hb67
      have htab := tableOf_any bq oq cq xs sz _ (fun k h => below_cell hbz (HXQ.out k h)) h0 h12 HS3.out hcap HPR.out h53
      have HB67 : Hid (Below w6.heap.size w6 (w7.alloc (.cells #[.int .i64 0, .int .i64 (-1)] 37))) := hb67
      clear hba hb67 hbz hb7
      go_wp2_with fail
      refine htab.mono ?_
      rintro e w8 ⟨g8, rfl, hg8, hrow8, hb8⟩
      have HR8 : Hid (IntRow w8 g8 (Lh.tab xs sz sz)) := hrow8
      have hb68 := below_then HB67.out hb8
      have HB68 : Hid (Below w6.heap.size w6 w8) := hb68
      have HTF : Hid (∀ x, x < sz → ∃ i, i < xs.length ∧ (Lh.tab xs sz sz).getD x 0 = ((i : Nat) : Int)) := fun x hx => by
        obtain ⟨i, hi, e⟩ := Lh.tab_full HPR.out h0 hx
        exact ⟨i, hi, e⟩
      have HTL : Hid ((Lh.tab xs sz sz).length = sz) := Lh.tab_length _ _ _
      have hbyt : ti.bytes * xs.length ≤ 281474976710656 := by rw [hz2]; omega
      have hmax : xs.length ≤ maxLen := by unfold maxLen; omega
      clear htab hrow8 hb8 hb68 HB67 HS3 HS6 HXQ
      generalize Lh.tab xs sz sz = tb at *
      go_wp2_with (at_make; refine wpList_make_full _ rfl _ _ 29 rfl w8.heap.size 3 ti _ 1 Tryz.underlying29 hti hz0 hz1 _ _ _ _ xs.length rfl rfl rfl rfl hbyt hmax (Nat.le_refl _) ?_)
      intro w9 hown hgrow
      have hb9 : Below w8.heap.size w8 w9 := below_grown hgrow (fun k h => by cases h)
      rw [made_ints2, ← cnt_nil] at hown
      have hrow0 := IntRow.of_owns hown
      clear hown hgrow
      obtain ⟨q, hqq⟩ : ∃ q, w8.heap.size = q := ⟨_, rfl⟩
      rw [hqq] at hrow0
      rw [hqq]
      have hql : w8.heap.size ≤ q := by omega
      clear hqq
      go_wp2_with fail
      go_loopw [18] (fun u18 W => Below w8.heap.size w8 W ∧ ∃ k : Nat, k ≤ m ∧ u18 = .int .i64 (k : Nat) ∧ IntRow W q (cnt (slotL tb sz (ks.take k)) xs.length)) (fun u18 _ => m - (intOf u18).toNat)
      case atStart => exact ⟨hb9, 0, Nat.zero_le _, rfl, hrow0⟩
      case round =>
        obtain ⟨hbr, k, hk, rfl, hrow⟩ := hrel
        obtain ⟨wo, hwo⟩ : ∃ wo, wo = wr := ⟨_, rfl⟩
        subst hwo
        clear hb9 hrow0
        by_cases hlt : k < m
        · have hls : k < ks.length := by rw [HM.out]; exact hlt
          obtain ⟨b, o, rfl, ck⟩ := HKC.out k hls
          have hki : (k : Int) < (m : Int) := by omega
          have ckr := below_cell (below_then (below_then HBW6.out HB68.out) hbr) ck
          obtain ⟨y, hy, hty⟩ := HTF.out (Lh.turn ks[k] % sz) (Nat.mod_lt _ (by omega))
          have HS : Hid (cnt (slotL tb sz (ks.take (k + 1))) xs.length = (cnt (slotL tb sz (ks.take k)) xs.length).set y ((((slotL tb sz (ks.take k)).count ((y : Nat) : Int) : Nat) : Int) + 1)) := by
            show _ = _
            rw [slotL_snoc tb sz ks hls, hty]
            exact cnt_snoc _ _ y
          have hrl : y < (cnt (slotL tb sz (ks.take k)) xs.length).length := by rw [cnt_length]; exact hy
          have cy := hrow.cell hrl
          rw [cnt_get] at cy
          have fy := hrow.frozen y
          have hcl : (slotL tb sz (ks.take k)).count ((y : Nat) : Int) ≤ k := Nat.le_trans List.count_le_length (by rw [slotL_len]; simp; omega)
          obtain ⟨z, hz⟩ : ∃ z, Lh.turn ks[k] = z := ⟨_, rfl⟩
          have htl := Lh.turn_lt ks[k]
          rw [hz] at htl hty
          have hrem : ((z : Nat) : Int).tmod (sz : Int) = ((z % sz : Nat) : Int) := rfl
          have hmod : z % sz < sz := Nat.mod_lt _ (by omega)
          obtain ⟨r, hr⟩ : ∃ r, z % sz = r := ⟨_, rfl⟩
          rw [hr] at hty hrem hmod
          have cs : wo.cell? ⟨g8, r, none⟩ = some (.int .i64 (y : Nat)) := by
            have h1 := (HR8.out.later hbr).cell (k := r) (by rw [HTL.out]; exact hmod)
            rw [h1]
            have h2 := hty
            rw [List.getD_eq_getElem?_getD, List.getElem?_eq_getElem (by rw [HTL.out]; exact hmod)] at h2
            simp at h2
            rw [h2]
          have hn0 : ¬ sz = 0 := by omega
          have hml : (r : Int) < (sz : Int) := by omega
          have hym : (y : Int) < (xs.length : Int) := by omega
          have hw1 : IntKind.u64.wrap (sz : Int) = (sz : Int) := by simp [IntKind.wrap, IntKind.signed, IntKind.bits]; omega
          have hw2 : IntKind.i64.wrap (r : Int) = (r : Int) := by simp [IntKind.wrap, IntKind.signed, IntKind.bits]; omega
          have hcw : IntKind.i64.wrap ((((slotL tb sz (ks.take k)).count ((y : Nat) : Int) : Nat) : Int) + 1) = (((slotL tb sz (ks.take k)).count ((y : Nat) : Int) : Nat) : Int) + 1 := by simp [IntKind.wrap, IntKind.signed, IntKind.bits]; omega
          have hst : ∀ W', Below wo.heap.size wo W' → Calls Tryz.prog 9 #[.int .u64 (ks[k] : Nat)] W' fun e w' => e = .returned (.int .u64 (z : Nat)) ∧ Below wo.heap.size wo w' := fun W' hb => (turnOf_any ks[k] W').mono fun e w' ⟨h1, h2⟩ => ⟨by rw [h1, hz], by rw [h2]; exact hb⟩
          have hCC : ∀ w', Below wo.heap.size wo w' → w'.cell? ⟨g8, r, none⟩ = some (.int .i64 (y : Nat)) ∧ w'.cell? ⟨q, y, none⟩ = some (.int .i64 (((slotL tb sz (ks.take k)).count ((y : Nat) : Int) : Nat) : Int)) ∧ w'.frozen? ⟨q, y, none⟩ = false ∧ w'.cell? ⟨b, o + k, none⟩ = some (.int .u64 (ks[k] : Nat)) := fun w' hb => ⟨below_cell hb cs, below_cell hb cy, (hrow.later hb).frozen y, below_cell hb ckr⟩
          have HRW : Hid (∀ w', Below wo.heap.size wo w' → IntRow w' q (cnt (slotL tb sz (ks.take k)) xs.length)) := fun w' hb => hrow.later hb
          clear hz hr hrow hrl hty ck
          generalize ks[k] = key at *
          generalize (slotL tb sz (ks.take k)).count ((y : Nat) : Int) = cq2 at *
          go_wp2_with fail
          refine (hst wo (Below.refl _ _)).mono ?_
          rintro e w10 ⟨rfl, hb10⟩
          obtain ⟨cs4, cy4, fy4, ck4⟩ := hCC w10 hb10
          have HR10 : Hid (IntRow w10 q (cnt (slotL tb sz (ks.take k)) xs.length)) := HRW.out w10 hb10
          have hb810 : Below w8.heap.size w8 w10 := below_then hbr hb10
          clear hst hCC cs cy hbr hb10 ckr fy HRW
          go_wp2_with fail
          go_roundw
          case rel =>
            refine ⟨hb810.setCell hql _, k + 1, by omega, by go_num, ?_⟩
            rw [HS.out]
            exact HR10.out.set y _
          case measure => simp [intOf]; omega
        · have hd : decide ((k : Int) < (m : Int)) = false := by simp; omega
          have HFI : Hid (IntRow wo q (cnt (slotL tb sz ks) xs.length)) := by
            have h1 := hrow
            rw [List.take_of_length_le (by rw [HM.out]; omega)] at h1
            exact h1
          have hb6o := below_then HB68.out hbr
          have hbwo := below_then HBW6.out hb6o
          have hsi := sameInts_any (.slice (some ⟨g6, 0, none⟩) xs.length xs.length) (.slice (some ⟨q, 0, none⟩) xs.length xs.length) (cnt (slotL tb sz ks) xs.length) (cnt (slotL tb sz ks) xs.length) wo (by
            have h1 := (HR6.out.later hb6o).ints xs.length
            rw [cnt_length] at h1
            exact h1) (by
            have h1 := HFI.out.ints xs.length
            rw [cnt_length] at h1
            exact h1) (by rw [cnt_length]; omega) (by rw [cnt_length]; omega)
          rw [decide_eq_true rfl] at hsi
          clear hrow hbr hb6o
          go_wp2_with fail
          refine hsi.mono ?_
          rintro e w10 ⟨rfl, hb10⟩
          have hbz := below_then hbwo hb10
          clear hsi hbwo hb10
          go_wp2
          go_ret
          exact ⟨rfl, hbz⟩
end
end Go.Proofs.YtmdckddenelneaaGreatDoor
