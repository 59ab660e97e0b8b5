/- RivalOrders where hosts are right, and there are too many keys. -/
import Derived.Test.YtffobmiacinngaaDoorVO0
import Derived.Deep.RegionHeld3
namespace Go.Proofs.YtffobmiacinngaaDoor
open Go.RowKit

set_option maxRecDepth 100000 in
set_option maxHeartbeats 8000000 in
theorem vorders_many (a : Nat → Addr) (b o lc : Nat) (kp : Option Addr) (kc : Nat) (xs : List ByteArray) (ks : List Nat) (w : World) (he : Errs a w) (hl : Strs1 w (.slice (some ⟨b, o, none⟩) xs.length lc) xs) (hx : ∀ k (h : k < xs.length), w.cell? ⟨b, o + k, none⟩ = some (.string xs[k])) (hs : Short xs) (hk : Keys1 w (.slice kp ks.length kc) ks) (hku : ∀ z ∈ ks, z < 18446744073709551616) (h60 : 500 < ks.length ∧ ks.length ≤ 600) (h0 : 0 < xs.length) (hf : IsFault xs 0 (-1)) :
    Calls Tryd.prog 12 #[.slice (some ⟨b, o, none⟩) xs.length lc, .slice kp ks.length kc] w fun e w' => e = .returned (.bool true) ∧ Below w.heap.size w w' := by
  have hrg := rivals_any a w he.four
  have h30 := hs.1
  have hkl : ks.length ≤ 600 := by omega
  have e1 : decide (60 < (ks.length : Int)) = true := by simp; omega
  have e2 : decide ((ks.length : Int) ≤ 500) = false := by simp; omega
  have e3 : decide (600 < (ks.length : Int)) = false := by simp; omega
  have e5 : decide (500 < (ks.length : Int)) = true := by simp; omega
  have hlong : ∀ W, Below w.heap.size w W → Calls Tryd.prog 20 #[.slice (some ⟨b, o, none⟩) xs.length lc] W fun e w' => e = .returned (.int .i64 0) ∧ w' = W := fun W hW => long_short _ xs W (hl.later hW).strs hs
  have HL : Hid (Strs1 w (.slice (some ⟨b, o, none⟩) xs.length lc) xs) := hl
  have HX : Hid (∀ k (h : k < xs.length), w.cell? ⟨b, o + k, none⟩ = some (.string xs[k])) := hx
  have HK : Hid (Keys1 w (.slice kp ks.length kc) ks) := hk
  have HKU : Hid (∀ z ∈ ks, z < 18446744073709551616) := hku
  have HE : Hid (Errs a w) := he
  have HF : Hid (IsFault xs 0 (-1)) := hf
  have HS : Hid (∀ k (h : k < xs.length), (xs[k]).size ≤ 60) := hs.2
  clear hl he hf hs hk hku hx
  go_enter Tryd.func12, Tryd.ntmps12
  go_wp2_with fail
  refine hrg.mono ?_
  rintro e w1 ⟨rfl, hb1⟩
  clear hrg
  go_wp2_with fail
  refine (hlong _ hb1).mono ?_
  rintro e w1' ⟨rfl, rfl⟩
  clear hlong
  go_wp2_with fail
  refine (ownTexts_any _ xs w1' (HL.out.later hb1) (by omega)).mono ?_
  rintro e w2 ⟨v2, rfl, hv2, hb2⟩
  have hbw2 : Below w.heap.size w w2 := below_then hb1 hb2
  go_wp2_with fail
  refine (ownKeys_any _ ks w2 (HK.out.later hbw2) (by omega)).mono ?_
  rintro e w3 ⟨v3, rfl, hv3, hb3⟩
  have hbw3 : Below w.heap.size w w3 := below_then hbw2 hb3
  have hv23 := hv2.later hb3
  obtain ⟨p3, c3, rfl, hc3⟩ := hv3.u64s
  clear hb1 hb2 hb3 hbw2 hv2 hc3
  go_wp2_with fail
  refine (groups_many a v2 p3 ks.length c3 xs w3 (HE.out.later hbw3).four hv23 h0 HF.out (small_of HS.out (by decide)) (by omega) h60.1 (by unfold maxLen; omega)).mono ?_
  rintro e w4 ⟨ev, rfl, hev, hb4⟩
  have hbw4 : Below w.heap.size w w4 := below_then hbw3 hb4
  have HEV : Hid (ErrIs a w4 2 (-1) ev) := hev
  clear hv23 hv3 hb4 hbw3 hev
  go_wp2_with fail
  refine (someF_any _ xs w4 0 (-1) (HL.out.later hbw4) (Or.inr ⟨h0, HF.out⟩) (small_of HS.out (by decide)) (by omega)).mono ?_
  rintro e w5 ⟨rfl, hb5⟩
  have hbw5 : Below w.heap.size w w5 := below_then hbw4 hb5
  clear hbw4
  go_wp2_with fail
  have hbA1 := (Below.refl w5.heap.size w5).alloc (Nat.le_refl _) (.cells #[.int .i64 0, .int .i64 (-1)] 42)
  have hbA : Below w5.heap.size w5 ((w5.alloc (.cells #[.int .i64 0, .int .i64 (-1)] 42)).alloc (.cells #[.int .i64 0, .int .i64 (-1)] 42)) := hbA1.alloc hbA1.size _
  have hba4 : Below w4.heap.size w4 ((w5.alloc (.cells #[.int .i64 0, .int .i64 (-1)] 42)).alloc (.cells #[.int .i64 0, .int .i64 (-1)] 42)) := below_then hb5 hbA
  have hbw6 : Below w.heap.size w ((w5.alloc (.cells #[.int .i64 0, .int .i64 (-1)] 42)).alloc (.cells #[.int .i64 0, .int .i64 (-1)] 42)) := below_then hbw5 hbA
  have k0 : ((w5.alloc (.cells #[.int .i64 0, .int .i64 (-1)] 42)).alloc (.cells #[.int .i64 0, .int .i64 (-1)] 42)).cell? ⟨w5.heap.size, 0, none⟩ = some (.int .i64 0) := by simp
  have k1 : ((w5.alloc (.cells #[.int .i64 0, .int .i64 (-1)] 42)).alloc (.cells #[.int .i64 0, .int .i64 (-1)] 42)).cell? ⟨w5.heap.size, 1, none⟩ = some (.int .i64 (-1)) := by simp
  have k2 : ((w5.alloc (.cells #[.int .i64 0, .int .i64 (-1)] 42)).alloc (.cells #[.int .i64 0, .int .i64 (-1)] 42)).cell? ⟨w5.heap.size + 1, 0, none⟩ = some (.int .i64 0) := by simp
  have k3 : ((w5.alloc (.cells #[.int .i64 0, .int .i64 (-1)] 42)).alloc (.cells #[.int .i64 0, .int .i64 (-1)] 42)).cell? ⟨w5.heap.size + 1, 1, none⟩ = some (.int .i64 (-1)) := by simp
  have k4 : ((w5.alloc (.cells #[.int .i64 0, .int .i64 (-1)] 42)).alloc (.cells #[.int .i64 0, .int .i64 (-1)] 42)).frozen? ⟨w5.heap.size + 1, 0, none⟩ = false := by simp
  have k5 : ((w5.alloc (.cells #[.int .i64 0, .int .i64 (-1)] 42)).alloc (.cells #[.int .i64 0, .int .i64 (-1)] 42)).frozen? ⟨w5.heap.size + 1, 1, none⟩ = false := by simp
  have k6 : w5.heap.size + 1 < ((w5.alloc (.cells #[.int .i64 0, .int .i64 (-1)] 42)).alloc (.cells #[.int .i64 0, .int .i64 (-1)] 42)).heap.size := by simp
  have hf4 : w4.heap.size ≤ w5.heap.size := hb5.size
  have hfw : w.heap.size ≤ w5.heap.size := hbw5.size
  clear hbA hbA1 hb5 hbw5
  generalize ((w5.alloc (.cells #[.int .i64 0, .int .i64 (-1)] 42)).alloc (.cells #[.int .i64 0, .int .i64 (-1)] 42)) = w6 at *
  generalize w5.heap.size = fb at *
  refine (bare_any _ _).mono ?_
  rintro e w6' ⟨rfl, hb6'⟩
  have q0 := below_cell hb6' k0
  have q1 := below_cell hb6' k1
  have q2 := below_cell hb6' k2
  have q3 := below_cell hb6' k3
  have q4 : w6'.frozen? ⟨fb + 1, 0, none⟩ = false := by rw [hb6'.frozen k6]; exact k4
  have q5 : w6'.frozen? ⟨fb + 1, 1, none⟩ = false := by rw [hb6'.frozen k6]; exact k5
  have hbS : Below w.heap.size w ((w6'.setCell ⟨fb + 1, 0, none⟩ (.int .i64 2)).setCell ⟨fb + 1, 1, none⟩ (.int .i64 (-1))) := ((below_then hbw6 hb6').setCell (by show w.heap.size ≤ fb + 1; omega) _).setCell (by show w.heap.size ≤ fb + 1; omega) _
  have hbS4 : Below w4.heap.size w4 ((w6'.setCell ⟨fb + 1, 0, none⟩ (.int .i64 2)).setCell ⟨fb + 1, 1, none⟩ (.int .i64 (-1))) := ((below_then hba4 hb6').setCell (by show w4.heap.size ≤ fb + 1; omega) _).setCell (by show w4.heap.size ≤ fb + 1; omega) _
  have r0 : ((w6'.setCell ⟨fb + 1, 0, none⟩ (.int .i64 2)).setCell ⟨fb + 1, 1, none⟩ (.int .i64 (-1))).cell? ⟨fb, 0, none⟩ = some (.int .i64 0) := by
    rw [World.cell?_setCell_other _ _ _ _ (by intro e'; simp only [Addr.mk.injEq] at e'; omega), World.cell?_setCell_other _ _ _ _ (by intro e'; simp only [Addr.mk.injEq] at e'; omega)]
    exact q0
  have r2 : ((w6'.setCell ⟨fb + 1, 0, none⟩ (.int .i64 2)).setCell ⟨fb + 1, 1, none⟩ (.int .i64 (-1))).cell? ⟨fb + 1, 0, none⟩ = some (.int .i64 2) := by simp [go_sem, q2]
  have r3 : ((w6'.setCell ⟨fb + 1, 0, none⟩ (.int .i64 2)).setCell ⟨fb + 1, 1, none⟩ (.int .i64 (-1))).cell? ⟨fb + 1, 1, none⟩ = some (.int .i64 (-1)) := by simp [go_sem, q3]
  have hfl := faulted_is (HE.out.later hbS) (HEV.out.later hbS4)
  clear k0 k1 k2 k3 k4 k5 k6 q0 q1 hbw6 hba4 hb6' hf4
  go_wp2_with fail
  refine hfl.mono ?_
  clear hfl q2 q3 q4 q5 hbS4 r3
  generalize ((w6'.setCell ⟨fb + 1, 0, none⟩ (.int .i64 2)).setCell ⟨fb + 1, 1, none⟩ (.int .i64 (-1))) = w6s at *
  rintro e w7 ⟨rfl, hb7⟩
  have hbw7 : Below w.heap.size w w7 := below_then hbS hb7
  have m0 := below_cell hb7 r0
  have m2 := below_cell hb7 r2
  clear r0 r2 hb7 hbS hfw
  obtain ⟨iI, hiI, hi0, hi1, hi2⟩ := info_parts infoN
  have hmaxI : xs.length ≤ maxLen := by unfold maxLen; omega
  have hbytI : iI.bytes * xs.length ≤ 281474976710656 := by rw [hi2]; omega
  go_wp2_with (at_make; refine wpList_make_full w7 rfl _ _ 22 rfl w7.heap.size 3 iI _ 1 Tryd.underlying22 hiI hi0 hi1 _ _ _ _ xs.length rfl rfl rfl rfl hbytI hmaxI (Nat.le_refl _) ?_)
  intro w8 hown8 hgr8
  have hb8 : Below w7.heap.size w7 w8 := below_grown hgr8 (fun k h => by cases h)
  have hbw8 : Below w.heap.size w w8 := below_then hbw7 hb8
  have HFB : Hid (∀ W, Below w8.heap.size w8 W → W.cell? ⟨fb, 0, none⟩ = some (.int .i64 0) ∧ W.cell? ⟨fb + 1, 0, none⟩ = some (.int .i64 2)) := fun W hW =>
    ⟨below_cell hW (below_cell hb8 m0), below_cell hW (below_cell hb8 m2)⟩
  have HOT : Hid (∀ B, Below w8.heap.size w8 B → ∀ W, Below B.heap.size B W → Calls Tryd.prog 28 #[.slice (some ⟨b, o, none⟩) xs.length lc] W fun e w' => ∃ v, e = .returned v ∧ Strs1 w' v xs ∧ Below B.heap.size B w') := fun B hB W hW =>
    (ownTexts_any _ xs W (HL.out.later (below_then hbw8 (below_then hB hW))) (by omega)).mono fun _ _ ⟨v, h1, h2, h3⟩ => ⟨v, h1, h2, below_then hW h3⟩
  have HORD : Hid (∀ B, Below w8.heap.size w8 B → ∀ z ∈ ks, ∀ W v, Below B.heap.size B W → Strs1 W v xs → Calls Tryd.prog 56 #[v, .int .u64 (z : Nat)] W fun e w' => ∃ v', e = .returned (.tuple #[v', .nilIface]) ∧ Strs1 w' v' (Lh.order (Lh.score z) xs) ∧ Below B.heap.size B w') := fun B hB z hz W v hW hv =>
    (order_good a v xs z (HKU.out z hz) W (HE.out.later (below_then hbw8 (below_then hB hW))).four hv h0 HF.out (small_of HS.out (by decide)) (by omega)).mono fun _ _ ⟨v', h1, h2, h3⟩ => ⟨v', h1, h2, below_then hW h3⟩
  have HHST : Hid (∀ B, Below w8.heap.size w8 B → ∀ z ∈ ks, ∀ W v, Below B.heap.size B W → Strs1 W v xs → Calls Tryd.prog 57 #[v, .int .u64 (z : Nat)] W fun e w' => ∃ s T, e = .returned (.tuple #[.string s, .nilIface]) ∧ Lh.order (Lh.score z) xs = s :: T ∧ Below B.heap.size B w') := fun B hB z hz W v hW hv =>
    (vhost_good a v xs z (HKU.out z hz) W (HE.out.later (below_then hbw8 (below_then hB hW))).four hv h0 HF.out (small_of HS.out (by decide)) (by omega)).mono fun _ _ ⟨s, T, h1, h2, h3⟩ => ⟨s, T, h1, h2, below_then hW h3⟩
  have HREF : Hid (∀ z ∈ ks, ∀ W, Below w8.heap.size w8 W → Calls Tryd.prog 58 #[.slice (some ⟨b, o, none⟩) xs.length lc, .int .u64 (z : Nat)] W fun e w' => ∃ v', e = .returned v' ∧ Strs1 w' v' (Lh.order (Lh.score z) xs) ∧ Below W.heap.size W w') := fun z hz W hW =>
    orderOf_core (Lh.score z) b o lc xs z W (fun k h => below_cell (below_then hbw8 hW) (HX.out k h)) (by omega) (fun s hs W' => scoreOf_any s z (HKU.out z hz) W' (Nat.le_trans (small_mem HS.out s hs) (by decide)))
  have HSC : Hid (∀ z ∈ ks, ∀ y ∈ xs, ∀ W, Calls Tryd.prog 59 #[.string y, .int .u64 (z : Nat)] W fun e w' => e = .returned (.int .u64 (Lh.score z y : Nat)) ∧ Below W.heap.size W w') := fun z hz y hy W =>
    (score_gr y z (HKU.out z hz) W (Nat.le_trans (small_mem HS.out y hy) (by decide))).mono fun _ _ ⟨h1, h2⟩ => ⟨h1, h2.below⟩
  have HSR : Hid (∀ z ∈ ks, ∀ y ∈ xs, ∀ W, Calls Tryd.prog 60 #[.string y, .int .u64 (z : Nat)] W fun e w' => e = .returned (.int .u64 (Lh.score z y : Nat)) ∧ w' = W) := fun z hz y hy W =>
    scoreOf_any y z (HKU.out z hz) W (Nat.le_trans (small_mem HS.out y hy) (by decide))
  have HONE : Hid (∀ z, ∃ y T, Lh.order (Lh.score z) xs = y :: T ∧ y ∈ xs ∧ (y :: T).length = xs.length) := fun z => by
    obtain ⟨y, T, h1, h2⟩ := Lh.order_head (f := Lh.score z) h0
    exact ⟨y, T, h1, h2, by rw [← h1]; exact Lh.order_length _ _⟩
  have HKC : Hid (∀ k (h : k < ks.length), ∃ kb ko, kp = some ⟨kb, ko, none⟩ ∧ ∀ W, Below w8.heap.size w8 W → W.cell? ⟨kb, ko + k, none⟩ = some (.int .u64 (ks[k] : Nat))) := fun k h => by
    obtain ⟨p, c, e, hc⟩ := HK.out.u64s
    obtain ⟨kb, ko, e2, hck⟩ := hc k h
    obtain ⟨rfl, _⟩ : kp = p ∧ kc = c := by
      simp only [Value.slice.injEq] at e
      exact ⟨e.1, e.2.2⟩
    exact ⟨kb, ko, e2, fun W hW => below_cell (below_then hbw8 hW) hck⟩
  clear hown8 hgr8 hb8 m0 m2 hmaxI hbytI hbw7
  go_wp2_with fail
  go_loopw [11] (fun t W => Below w8.heap.size w8 W ∧ ∃ k : Nat, k ≤ ks.length ∧ t = .int .i64 k) (fun t _ => ks.length - (intOf t).toNat)
  case atStart => exact ⟨Below.refl _ _, 0, Nat.zero_le _, rfl⟩
  case round =>
    obtain ⟨hb, k, hkk, rfl⟩ := hrel
    by_cases hlt : k < ks.length ∧ k < 60
    · obtain ⟨hlt, hl6⟩ := hlt
      obtain ⟨kb, ko, rfl, hck⟩ := HKC.out k hlt
      have hki : (k : Int) < (ks.length : Int) := by omega
      have d1 : decide ((k : Int) < (ks.length : Int)) = true := by simp; omega
      have d2 : decide ((k : Int) < 60) = true := by simp; omega
      have hzk : ks[k] ∈ ks := List.getElem_mem hlt
      have HCK : Hid (∀ B, Below w8.heap.size w8 B → ∀ W, Below B.heap.size B W → Below B.heap.size B W ∧ W.cell? ⟨kb, ko + k, none⟩ = some (.int .u64 (ks[k] : Nat))) := fun B hB W hW => ⟨hW, hck W (below_then hB hW)⟩
      generalize ks[k] = z at *
      obtain ⟨y, T, hyT, hyx, hyl⟩ := HONE.out z
      have hord := fun B hB => HORD.out B hB z hzk
      have hhst := fun B hB => HHST.out B hB z hzk
      have hrf := HREF.out z hzk
      rw [hyT] at hord hhst hrf
      have hsc := HSC.out z hzk y hyx
      have hsr := HSR.out z hzk y hyx
      generalize Lh.score z y = sc at *
      have c1 := hck wr hb
      have HCK1 : Hid (∀ W, Below wr.heap.size wr W → Below wr.heap.size wr W ∧ W.cell? ⟨kb, ko + k, none⟩ = some (.int .u64 (z : Nat))) := HCK.out wr hb
      have HOT1 : Hid (∀ W, Below wr.heap.size wr W → Calls Tryd.prog 28 #[.slice (some ⟨b, o, none⟩) xs.length lc] W fun e w' => ∃ v, e = .returned v ∧ Strs1 w' v xs ∧ Below wr.heap.size wr w') := HOT.out wr hb
      have HORD1 : Hid (∀ W v, Below wr.heap.size wr W → Strs1 W v xs → Calls Tryd.prog 56 #[v, .int .u64 (z : Nat)] W fun e w' => ∃ v', e = .returned (.tuple #[v', .nilIface]) ∧ Strs1 w' v' (y :: T) ∧ Below wr.heap.size wr w') := hord wr hb
      have HHSTB : Hid (∀ B, Below w8.heap.size w8 B → ∀ W v, Below B.heap.size B W → Strs1 W v xs → Calls Tryd.prog 57 #[v, .int .u64 (z : Nat)] W fun e w' => e = .returned (.tuple #[.string y, .nilIface]) ∧ Below B.heap.size B w') := fun B hB W v hW hv =>
        (hhst B hB W v hW hv).mono fun _ _ ⟨s, T', h1, h2, h3⟩ => ⟨by rw [h1, (List.cons.inj h2).1], h3⟩
      have HRF : Hid (∀ W, Below w8.heap.size w8 W → Calls Tryd.prog 58 #[.slice (some ⟨b, o, none⟩) xs.length lc, .int .u64 (z : Nat)] W fun e w' => ∃ v', e = .returned v' ∧ Strs1 w' v' (y :: T) ∧ Below W.heap.size W w') := hrf
      have HSC1 : Hid (∀ W, Calls Tryd.prog 59 #[.string y, .int .u64 (z : Nat)] W fun e w' => e = .returned (.int .u64 (sc : Nat)) ∧ Below W.heap.size W w') := hsc
      have HSR1 : Hid (∀ W, Calls Tryd.prog 60 #[.string y, .int .u64 (z : Nat)] W fun e w' => e = .returned (.int .u64 (sc : Nat)) ∧ w' = W) := hsr
      clear hck hord hhst hrf hsc hsr
      have hTl : (y :: T).length < 1000000 := by omega
      clear hyl hyT hyx hzk
      generalize hYT : y :: T = YT at *
      have HYT : Hid (y :: T = YT) := hYT
      clear hYT
      go_wp2_with fail
      go_region_held3 (fun w' => Below wr.heap.size wr w' ∧ w'.cell? ⟨kb, ko + k, none⟩ = some (.int .u64 (z : Nat)))
        (first | exact HCK1.out _ (by assumption) | exact HCK1.out _ (below_drewN (Below.refl _ _) 1))
        (first
          | (go_at_call 28; refine (HOT1.out _ (by first | assumption | exact below_drewN (Below.refl _ _) 1)).mono ?_; rintro e w9 ⟨v9, rfl, hv9, hb9⟩)
          | (go_at_call 56; refine (HORD1.out _ _ (by assumption) (by assumption)).mono ?_; rintro e w10 ⟨v10, rfl, hv10, hb10⟩))
      have hbw10 : Below w8.heap.size w8 w10 := below_then hb hb10
      have c2 := (HCK1.out w10 hb10).2
      have HV10 : Hid (Strs1 w10 v10 YT) := hv10
      have HB10 : Hid (Below wr.heap.size wr w10) := hb10
      have HCK2 : Hid (∀ W, Below w10.heap.size w10 W → Below w10.heap.size w10 W ∧ W.cell? ⟨kb, ko + k, none⟩ = some (.int .u64 (z : Nat))) := HCK.out w10 hbw10
      have HOT2 : Hid (∀ W, Below w10.heap.size w10 W → Calls Tryd.prog 28 #[.slice (some ⟨b, o, none⟩) xs.length lc] W fun e w' => ∃ v, e = .returned v ∧ Strs1 w' v xs ∧ Below w10.heap.size w10 w') := HOT.out w10 hbw10
      have HHST2 : Hid (∀ W v, Below w10.heap.size w10 W → Strs1 W v xs → Calls Tryd.prog 57 #[v, .int .u64 (z : Nat)] W fun e w' => e = .returned (.tuple #[.string y, .nilIface]) ∧ Below w10.heap.size w10 w') := HHSTB.out w10 hbw10
      clear hb9 hv9 hb10 hv10 HCK1 HOT1 HORD1 c1
      go_wp2_with fail
      go_region_held3 (fun w' => Below w10.heap.size w10 w' ∧ w'.cell? ⟨kb, ko + k, none⟩ = some (.int .u64 (z : Nat)))
        (first | exact HCK2.out _ (by assumption) | exact HCK2.out _ (below_drewN (Below.refl _ _) 1))
        (first
          | (go_at_call 28; refine (HOT2.out _ (by first | assumption | exact below_drewN (Below.refl _ _) 1)).mono ?_; rintro e w11 ⟨v11, rfl, hv11, hb11⟩)
          | (go_at_call 57; refine (HHST2.out _ _ (by assumption) (by assumption)).mono ?_; rintro e w12 ⟨rfl, hb12⟩))
      have hbw12 : Below w8.heap.size w8 w12 := below_then hbw10 hb12
      obtain ⟨f0, _⟩ := HFB.out w12 hbw12
      have c3 := (HCK2.out w12 hb12).2
      have HB12 : Hid (Below w10.heap.size w10 w12) := hb12
      clear hb11 hv11 hb12 HCK2 HOT2 HHST2 c2
      go_wp2_with fail
      refine (HRF.out w12 hbw12).mono ?_
      rintro e w13 ⟨v13, rfl, hv13, hb13⟩
      have hbw13 : Below w8.heap.size w8 w13 := below_then hbw12 hb13
      have hv10' := (HV10.out.later HB12.out).later hb13
      have hpos : 0 < YT.length := by rw [← HYT.out]; simp
      obtain ⟨b13, o13, c13, rfl, hc13⟩ := strsPos hv13 hpos
      have d13 : w13.cell? ⟨b13, o13, none⟩ = some (.string y) := by
        have h1 := hc13 0 hpos
        rw [Nat.add_zero] at h1
        rw [h1]
        congr 2
        have h2 : YT[0]? = some y := by rw [← HYT.out]; rfl
        exact Option.some.inj ((List.getElem?_eq_getElem hpos).symm.trans h2)
      have HS3 : Hid (∀ W, Below w13.heap.size w13 W → Below w13.heap.size w13 W ∧ W.cell? ⟨kb, ko + k, none⟩ = some (.int .u64 (z : Nat)) ∧ W.cell? ⟨b13, o13, none⟩ = some (.string y)) := fun W hW => ⟨hW, (HCK.out w13 hbw13 W hW).2, below_cell hW d13⟩
      have HSM : Hid (∀ W, Below w13.heap.size w13 W → Calls Tryd.prog 31 #[v10, .slice (some ⟨b13, o13, none⟩) YT.length c13] W fun e w' => e = .returned (.bool true) ∧ Below w13.heap.size w13 w') := fun W hW =>
        (sameTexts_any v10 _ YT YT W (hv10'.later hW).strs (hv13.later hW).strs hTl hTl).mono fun _ _ ⟨h1, h2⟩ => ⟨by rw [h1, decide_eq_true rfl], below_then hW h2⟩
      have HSC2 : Hid (∀ W, Below w13.heap.size w13 W → Calls Tryd.prog 59 #[.string y, .int .u64 (z : Nat)] W fun e w' => e = .returned (.int .u64 (sc : Nat)) ∧ Below w13.heap.size w13 w') := fun W hW => (HSC1.out W).mono fun _ _ ⟨h1, h2⟩ => ⟨h1, below_then hW h2⟩
      have hyy : (y.toList == y.toList) = true := bytes_same rfl
      have c4 := (HS3.out w13 (Below.refl _ _)).2.1
      have hpi : (0 : Int) < (YT.length : Int) := by omega
      clear hv13 hc13 hv10' c3 f0 HSC1
      generalize YT.length = n13 at *
      go_wp2_with fail
      go_region_held3 (fun w' => Below w13.heap.size w13 w' ∧ w'.cell? ⟨kb, ko + k, none⟩ = some (.int .u64 (z : Nat)) ∧ w'.cell? ⟨b13, o13, none⟩ = some (.string y))
        (first | exact HS3.out _ (by assumption) | exact HS3.out _ (below_drewN (Below.refl _ _) 1))
        (first
          | (go_at_call 31; refine (HSM.out _ (by first | assumption | exact below_drewN (Below.refl _ _) 1)).mono ?_; rintro e w14 ⟨rfl, hb14⟩)
          | (go_at_call 59; refine (HSC2.out _ (by first | assumption | exact below_drewN (Below.refl _ _) 1)).mono ?_; rintro e w15 ⟨rfl, hb15⟩)
          | (go_at_call 60; refine (HSR1.out _).mono ?_; rintro e w16 ⟨rfl, rfl⟩))
      all_goals
        have hbw16 : Below w8.heap.size w8 w16 := below_then hbw13 (by assumption)
        obtain ⟨_, f2⟩ := HFB.out w16 hbw16
        clear c4
        go_wp2_with fail
        exact ⟨⟨hbw16, k + 1, by omega, by go_num⟩, by simp [intOf]; omega⟩
    · obtain ⟨_, f2⟩ := HFB.out wr hb
      have d3 : decide ((0 : Int) < (xs.length : Int)) = true := by simp; omega
      have d3n : decide (0 < xs.length) = true := by simp; omega
      by_cases hlt1 : k < ks.length
      · have d1 : decide ((k : Int) < (ks.length : Int)) = true := by simp; omega
        have d2 : decide ((k : Int) < 60) = false := by simp; omega
        have d2n : decide (k < 60) = false := by simp; omega
        have d1n : decide (k < ks.length) = true := by simp; omega
        clear hlt
        go_wp2_with fail
        refine wp_loop_rounds 1 ?_
        rw [rounds_succ]
        go_wp2
        go_ret
        exact ⟨rfl, below_then hbw8 hb⟩
      · have d1 : decide ((k : Int) < (ks.length : Int)) = false := by simp; omega
        have d1n : decide (k < ks.length) = false := by simp; omega
        clear hlt
        go_wp2_with fail
        refine wp_loop_rounds 1 ?_
        rw [rounds_succ]
        go_wp2
        go_ret
        exact ⟨rfl, below_then hbw8 hb⟩
end Go.Proofs.YtffobmiacinngaaDoor
