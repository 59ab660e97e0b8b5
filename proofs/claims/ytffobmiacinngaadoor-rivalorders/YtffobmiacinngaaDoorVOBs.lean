/- RivalOrders where hosts are wrong, few keys. -/
import Derived.Test.YtffobmiacinngaaDoorVO0
namespace Go.Proofs.YtffobmiacinngaaDoor
open Go.RowKit
set_option maxRecDepth 100000 in
set_option maxHeartbeats 4000000 in
theorem vorders_bad_s (a : Nat → Addr) (lp : Option Addr) (lc : Nat) (kp : Option Addr) (kc : Nat) (xs : List ByteArray) (ks : List Nat) (w : World) (he : Errs a w) (hl : Strs1 w (.slice lp xs.length lc) xs) (hs : Short xs) (hk : Keys1 w (.slice kp ks.length kc) ks) (hku : ∀ z ∈ ks, z < 18446744073709551616) (h60 : ks.length ≤ 60) (cc : Nat) (pl : Int) (hf : SFault xs cc pl) (hcc : cc ≠ 0) :
    Calls Tryd.prog 12 #[.slice lp xs.length lc, .slice kp ks.length kc] w fun e w' => e = .returned (.bool true) ∧ Below w.heap.size w w' := by
  have hrg := rivals_any a w he.four
  have h30 := hs.1
  have hkl : ks.length ≤ 600 := by omega
  have e1 : decide (60 < (ks.length : Int)) = false := by simp; omega
  have e3 : decide (600 < (ks.length : Int)) = false := by simp; omega
  have hc0 : decide (0 < (cc : Int)) = true := by simp; omega
  have hc1 : ((cc : Int) == 0) = false := by rw [beq_eq_false_iff_ne]; omega
  have hlong : ∀ W, Below w.heap.size w W → Calls Tryd.prog 20 #[.slice lp xs.length lc] W fun e w' => e = .returned (.int .i64 0) ∧ w' = W := fun W hW => long_short _ xs W (hl.later hW).strs hs
  have HL : Hid (Strs1 w (.slice lp xs.length lc) xs) := hl
  have HK : Hid (Keys1 w (.slice kp ks.length kc) ks) := hk
  have HKU : Hid (∀ z ∈ ks, z < 18446744073709551616) := hku
  have HE : Hid (Errs a w) := he
  have HF : Hid (SFault xs cc pl) := hf
  have HS : Hid (∀ k (h : k < xs.length), (xs[k]).size ≤ 60) := hs.2
  clear hl he hf hs hk hku
  go_enter Tryd.func12, Tryd.ntmps12
  go_wp2_with fail
  refine hrg.mono ?_
  rintro e w1 ⟨rfl, hb1⟩
  clear hrg
  go_wp2_with fail
  refine (hlong _ hb1).mono ?_
  rintro e w1' ⟨rfl, rfl⟩
  clear hlong
  go_wp2_with fail
  refine (ownTexts_any _ xs w1' (HL.out.later hb1) (by omega)).mono ?_
  rintro e w2 ⟨v2, rfl, hv2, hb2⟩
  have hbw2 : Below w.heap.size w w2 := below_then hb1 hb2
  go_wp2_with fail
  refine (ownKeys_any _ ks w2 (HK.out.later hbw2) (by omega)).mono ?_
  rintro e w3 ⟨v3, rfl, hv3, hb3⟩
  have hbw3 : Below w.heap.size w w3 := below_then hbw2 hb3
  have hv23 := hv2.later hb3
  clear hb1 hb2 hb3 hbw2 hv2
  go_wp2_with fail
  refine (groups_bad a v2 v3 xs w3 cc pl (HE.out.later hbw3).four hv23 HF.out hcc (small_of HS.out (by decide)) (by omega)).mono ?_
  rintro e w4 ⟨ev, rfl, hev, hb4⟩
  have hbw4 : Below w.heap.size w w4 := below_then hbw3 hb4
  have HEV : Hid (ErrIs a w4 cc pl ev) := hev
  clear hv23 hv3 hb4 hbw3 hev
  go_wp2_with fail
  refine (someF_any _ xs w4 cc pl (HL.out.later hbw4) HF.out (small_of HS.out (by decide)) (by omega)).mono ?_
  rintro e w5 ⟨rfl, hb5⟩
  have hbw5 : Below w.heap.size w w5 := below_then hbw4 hb5
  clear hbw4
  go_wp2_with fail
  have hbA1 := (Below.refl w5.heap.size w5).alloc (Nat.le_refl _) (.cells #[.int .i64 (cc : Nat), .int .i64 pl] 42)
  have hbA : Below w5.heap.size w5 ((w5.alloc (.cells #[.int .i64 (cc : Nat), .int .i64 pl] 42)).alloc (.cells #[.int .i64 (cc : Nat), .int .i64 pl] 42)) := hbA1.alloc hbA1.size _
  have hbw6 : Below w.heap.size w ((w5.alloc (.cells #[.int .i64 (cc : Nat), .int .i64 pl] 42)).alloc (.cells #[.int .i64 (cc : Nat), .int .i64 pl] 42)) := below_then hbw5 hbA
  have hfl := faulted_is (HE.out.later hbw6) ((HEV.out.later hb5).later hbA)
  have k0 : ((w5.alloc (.cells #[.int .i64 (cc : Nat), .int .i64 pl] 42)).alloc (.cells #[.int .i64 (cc : Nat), .int .i64 pl] 42)).cell? ⟨w5.heap.size, 0, none⟩ = some (.int .i64 (cc : Nat)) := by simp
  have k1 : ((w5.alloc (.cells #[.int .i64 (cc : Nat), .int .i64 pl] 42)).alloc (.cells #[.int .i64 (cc : Nat), .int .i64 pl] 42)).cell? ⟨w5.heap.size, 1, none⟩ = some (.int .i64 pl) := by simp
  have k2 : ((w5.alloc (.cells #[.int .i64 (cc : Nat), .int .i64 pl] 42)).alloc (.cells #[.int .i64 (cc : Nat), .int .i64 pl] 42)).cell? ⟨w5.heap.size + 1, 0, none⟩ = some (.int .i64 (cc : Nat)) := by simp
  clear hbA hbA1 hb5 hbw5
  generalize ((w5.alloc (.cells #[.int .i64 (cc : Nat), .int .i64 pl] 42)).alloc (.cells #[.int .i64 (cc : Nat), .int .i64 pl] 42)) = w6 at *
  generalize w5.heap.size = fb at *
  refine hfl.mono ?_
  rintro e w7 ⟨rfl, hb7⟩
  have hbw7 : Below w.heap.size w w7 := below_then hbw6 hb7
  have m0 := below_cell hb7 k0
  have m1 := below_cell hb7 k1
  have m2 := below_cell hb7 k2
  clear hfl k0 k1 k2 hb7 hbw6
  obtain ⟨iI, hiI, hi0, hi1, hi2⟩ := info_parts infoN
  have hmaxI : xs.length ≤ maxLen := by unfold maxLen; omega
  have hbytI : iI.bytes * xs.length ≤ 281474976710656 := by rw [hi2]; omega
  go_wp2_with (at_make; refine wpList_make_full w7 rfl _ _ 22 rfl w7.heap.size 3 iI _ 1 Tryd.underlying22 hiI hi0 hi1 _ _ _ _ xs.length rfl rfl rfl rfl hbytI hmaxI (Nat.le_refl _) ?_)
  intro w8 hown8 hgr8
  have hb8 : Below w7.heap.size w7 w8 := below_grown hgr8 (fun k h => by cases h)
  have hbw8 : Below w.heap.size w w8 := below_then hbw7 hb8
  have HFB : Hid (∀ W, Below w8.heap.size w8 W → W.cell? ⟨fb, 0, none⟩ = some (.int .i64 (cc : Nat)) ∧ W.cell? ⟨fb, 1, none⟩ = some (.int .i64 pl) ∧ W.cell? ⟨fb + 1, 0, none⟩ = some (.int .i64 (cc : Nat))) := fun W hW =>
    ⟨below_cell hW (below_cell hb8 m0), below_cell hW (below_cell hb8 m1), below_cell hW (below_cell hb8 m2)⟩
  have HOT : Hid (∀ B, Below w8.heap.size w8 B → ∀ W, Below B.heap.size B W → Calls Tryd.prog 28 #[.slice lp xs.length lc] W fun e w' => ∃ v, e = .returned v ∧ Strs1 w' v xs ∧ Below B.heap.size B w') := fun B hB W hW =>
    (ownTexts_any _ xs W (HL.out.later (below_then hbw8 (below_then hB hW))) (by omega)).mono fun _ _ ⟨v, h1, h2, h3⟩ => ⟨v, h1, h2, below_then hW h3⟩
  have HORD : Hid (∀ B, Below w8.heap.size w8 B → ∀ z W v, Below B.heap.size B W → Strs1 W v xs → Calls Tryd.prog 56 #[v, .int .u64 (z : Nat)] W fun e w' => ∃ ev, e = .returned (.tuple #[.slice none 0 0, ev]) ∧ ErrIs a w' cc pl ev ∧ Below B.heap.size B w') := fun B hB z W v hW hv =>
    (order_bad a v xs _ W cc pl (HE.out.later (below_then hbw8 (below_then hB hW))).four hv HF.out hcc (small_of HS.out (by decide)) (by omega)).mono fun _ _ ⟨ev, h1, h2, h3⟩ => ⟨ev, h1, h2, below_then hW h3⟩
  have HHST : Hid (∀ B, Below w8.heap.size w8 B → ∀ z W v, Below B.heap.size B W → Strs1 W v xs → Calls Tryd.prog 57 #[v, .int .u64 (z : Nat)] W fun e w' => ∃ ev, e = .returned (.tuple #[.string ByteArray.empty, ev]) ∧ ErrIs a w' cc pl ev ∧ Below B.heap.size B w') := fun B hB z W v hW hv =>
    (vhost_bad a v xs _ W cc pl (HE.out.later (below_then hbw8 (below_then hB hW))).four hv HF.out hcc (small_of HS.out (by decide)) (by omega)).mono fun _ _ ⟨ev, h1, h2, h3⟩ => ⟨ev, h1, h2, below_then hW h3⟩
  have HKC : Hid (∀ k (h : k < ks.length), ∃ kb ko, kp = some ⟨kb, ko, none⟩ ∧ ∀ W, Below w8.heap.size w8 W → W.cell? ⟨kb, ko + k, none⟩ = some (.int .u64 (ks[k] : Nat))) := fun k h => by
    obtain ⟨p, c, e, hc⟩ := HK.out.u64s
    obtain ⟨kb, ko, e2, hck⟩ := hc k h
    obtain ⟨rfl, _⟩ : kp = p ∧ kc = c := by
      simp only [Value.slice.injEq] at e
      exact ⟨e.1, e.2.2⟩
    exact ⟨kb, ko, e2, fun W hW => below_cell (below_then hbw8 hW) hck⟩
  have HFL : Hid (∀ W ev, Below w8.heap.size w8 W → ErrIs a W cc pl ev → Calls Tryd.prog 29 #[ev, .agg #[.int .i64 (cc : Nat), .int .i64 pl]] W fun e w' => e = .returned (.bool true) ∧ Below W.heap.size W w') := fun W ev hW hev => faulted_is (HE.out.later (below_then hbw8 hW)) hev
  clear hown8 hgr8 hb8 m0 m1 m2 hmaxI hbytI hbw7
  go_wp2_with fail
  go_loopw [11] (fun t W => Below w8.heap.size w8 W ∧ ∃ k : Nat, k ≤ ks.length ∧ t = .int .i64 k) (fun t _ => ks.length - (intOf t).toNat)
  case atStart => exact ⟨Below.refl _ _, 0, Nat.zero_le _, rfl⟩
  case round =>
    obtain ⟨hb, k, hkk, rfl⟩ := hrel
    by_cases hlt : k < ks.length ∧ k < 60
    · obtain ⟨hlt, hl6⟩ := hlt
      obtain ⟨kb, ko, rfl, hck⟩ := HKC.out k hlt
      have hki : (k : Int) < (ks.length : Int) := by omega
      have d1 : decide ((k : Int) < (ks.length : Int)) = true := by simp; omega
      have d2 : decide ((k : Int) < 60) = true := by simp; omega
      have HCK : Hid (∀ B, Below w8.heap.size w8 B → ∀ W, Below B.heap.size B W → Below B.heap.size B W ∧ W.cell? ⟨kb, ko + k, none⟩ = some (.int .u64 (ks[k] : Nat))) := fun B hB W hW => ⟨hW, hck W (below_then hB hW)⟩
      generalize ks[k] = z at *
      have c1 := hck wr hb
      have HCK1 : Hid (∀ W, Below wr.heap.size wr W → Below wr.heap.size wr W ∧ W.cell? ⟨kb, ko + k, none⟩ = some (.int .u64 (z : Nat))) := HCK.out wr hb
      have HOT1 : Hid (∀ W, Below wr.heap.size wr W → Calls Tryd.prog 28 #[.slice lp xs.length lc] W fun e w' => ∃ v, e = .returned v ∧ Strs1 w' v xs ∧ Below wr.heap.size wr w') := HOT.out wr hb
      have HORD1 : Hid (∀ W v, Below wr.heap.size wr W → Strs1 W v xs → Calls Tryd.prog 56 #[v, .int .u64 (z : Nat)] W fun e w' => ∃ ev, e = .returned (.tuple #[.slice none 0 0, ev]) ∧ ErrIs a w' cc pl ev ∧ Below wr.heap.size wr w') := HORD.out wr hb z
      clear hck
      go_wp2_with fail
      go_region_held3 (fun w' => Below wr.heap.size wr w' ∧ w'.cell? ⟨kb, ko + k, none⟩ = some (.int .u64 (z : Nat)))
        (first | exact HCK1.out _ (by assumption) | exact HCK1.out _ (below_drewN (Below.refl _ _) 1))
        (first
          | (go_at_call 28; refine (HOT1.out _ (by first | assumption | exact below_drewN (Below.refl _ _) 1)).mono ?_; rintro e w9 ⟨v9, rfl, hv9, hb9⟩)
          | (go_at_call 56; refine (HORD1.out _ _ (by assumption) (by assumption)).mono ?_; rintro e w10 ⟨ev1, rfl, hev1, hb10⟩))
      have hbw10 : Below w8.heap.size w8 w10 := below_then hb hb10
      have c2 := (HCK1.out w10 hb10).2
      have HEV1 : Hid (ErrIs a w10 cc pl ev1) := hev1
      have HCK2 : Hid (∀ W, Below w10.heap.size w10 W → Below w10.heap.size w10 W ∧ W.cell? ⟨kb, ko + k, none⟩ = some (.int .u64 (z : Nat))) := HCK.out w10 hbw10
      have HOT2 : Hid (∀ W, Below w10.heap.size w10 W → Calls Tryd.prog 28 #[.slice lp xs.length lc] W fun e w' => ∃ v, e = .returned v ∧ Strs1 w' v xs ∧ Below w10.heap.size w10 w') := HOT.out w10 hbw10
      have HHST2 : Hid (∀ W v, Below w10.heap.size w10 W → Strs1 W v xs → Calls Tryd.prog 57 #[v, .int .u64 (z : Nat)] W fun e w' => ∃ ev, e = .returned (.tuple #[.string ByteArray.empty, ev]) ∧ ErrIs a w' cc pl ev ∧ Below w10.heap.size w10 w') := HHST.out w10 hbw10 z
      clear hb9 hv9 hb10 hev1 HCK1 HOT1 HORD1 c1
      go_wp2_with fail
      go_region_held3 (fun w' => Below w10.heap.size w10 w' ∧ w'.cell? ⟨kb, ko + k, none⟩ = some (.int .u64 (z : Nat)))
        (first | exact HCK2.out _ (by assumption) | exact HCK2.out _ (below_drewN (Below.refl _ _) 1))
        (first
          | (go_at_call 28; refine (HOT2.out _ (by first | assumption | exact below_drewN (Below.refl _ _) 1)).mono ?_; rintro e w11 ⟨v11, rfl, hv11, hb11⟩)
          | (go_at_call 57; refine (HHST2.out _ _ (by assumption) (by assumption)).mono ?_; rintro e w12 ⟨ev2, rfl, hev2, hb12⟩))
      have hbw12 : Below w8.heap.size w8 w12 := below_then hbw10 hb12
      obtain ⟨f0, f1, _⟩ := HFB.out w12 hbw12
      have HF1 : Hid (∀ W, Below w12.heap.size w12 W → W.cell? ⟨fb, 0, none⟩ = some (.int .i64 (cc : Nat)) ∧ W.cell? ⟨fb, 1, none⟩ = some (.int .i64 pl)) := fun W hW => ⟨below_cell hW f0, below_cell hW f1⟩
      have HEV2 : Hid (ErrIs a w12 cc pl ev2) := hev2
      have HB12 : Hid (Below w10.heap.size w10 w12) := hb12
      clear hb11 hv11 hb12 hev2 HCK2 HOT2 HHST2 c2
      go_wp2_with fail
      refine (HFL.out w12 ev1 hbw12 (HEV1.out.later HB12.out)).mono ?_
      rintro e w13 ⟨rfl, hb13⟩
      obtain ⟨g0, g1⟩ := HF1.out w13 hb13
      have hbw13 : Below w8.heap.size w8 w13 := below_then hbw12 hb13
      clear f0 f1
      go_wp2_with fail
      refine (HFL.out w13 ev2 hbw13 (HEV2.out.later hb13)).mono ?_
      rintro e w14 ⟨rfl, hb14⟩
      have hbw14 : Below w8.heap.size w8 w14 := below_then hbw13 hb14
      clear g0 g1 hb13 hb14
      go_wp2_with fail
      exact ⟨⟨hbw14, k + 1, by omega, by go_num⟩, by simp [intOf]; omega⟩
    · obtain ⟨_, _, f2⟩ := HFB.out wr hb
      by_cases hx0 : 0 < xs.length
      · have d3 : decide ((0 : Int) < (xs.length : Int)) = true := by simp; omega
        have d3n : decide (0 < xs.length) = true := by simp; omega
        by_cases hlt1 : k < ks.length
        · have d1 : decide ((k : Int) < (ks.length : Int)) = true := by simp; omega
          have d2 : decide ((k : Int) < 60) = false := by simp; omega
          have d2n : decide (k < 60) = false := by simp; omega
          have d1n : decide (k < ks.length) = true := by simp; omega
          clear hlt
          go_wp2_with fail
          refine wp_loop_rounds 1 ?_
          rw [rounds_succ]
          go_wp2
          go_ret
          exact ⟨rfl, below_then hbw8 hb⟩
        · have d1 : decide ((k : Int) < (ks.length : Int)) = false := by simp; omega
          have d1n : decide (k < ks.length) = false := by simp; omega
          clear hlt
          go_wp2_with fail
          refine wp_loop_rounds 1 ?_
          rw [rounds_succ]
          go_wp2
          go_ret
          exact ⟨rfl, below_then hbw8 hb⟩
      · have hx00 : xs.length = 0 := by omega
        have d3 : decide ((0 : Int) < (xs.length : Int)) = false := by rw [hx00]; decide
        have d3n : decide (0 < xs.length) = false := by rw [hx00]; decide
        clear hx00
        by_cases hlt1 : k < ks.length
        · have d1 : decide ((k : Int) < (ks.length : Int)) = true := by simp; omega
          have d2 : decide ((k : Int) < 60) = false := by simp; omega
          have d2n : decide (k < 60) = false := by simp; omega
          have d1n : decide (k < ks.length) = true := by simp; omega
          clear hlt
          go_wp2_with fail
          refine wp_loop_rounds 1 ?_
          rw [rounds_succ]
          go_wp2
          go_ret
          exact ⟨rfl, below_then hbw8 hb⟩
        · have d1 : decide ((k : Int) < (ks.length : Int)) = false := by simp; omega
          have d1n : decide (k < ks.length) = false := by simp; omega
          clear hlt
          go_wp2_with fail
          refine wp_loop_rounds 1 ?_
          rw [rounds_succ]
          go_wp2
          go_ret
          exact ⟨rfl, below_then hbw8 hb⟩
end Go.Proofs.YtffobmiacinngaaDoor
