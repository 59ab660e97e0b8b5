/- RivalOrders where hosts are right, and keys are few. -/
import Derived.Test.YtffobmiacinngaaDoorVOM0
namespace Go.Proofs.YtffobmiacinngaaDoor
open Go.RowKit

set_option maxRecDepth 100000 in
set_option maxHeartbeats 8000000 in
theorem vorders_main (a : Nat → Addr) (b o lc : Nat) (kp : Option Addr) (kc : Nat) (xs : List ByteArray) (ks : List Nat) (w : World) (he : Errs a w) (hl : Strs1 w (.slice (some ⟨b, o, none⟩) xs.length lc) xs) (hx : ∀ k (h : k < xs.length), w.cell? ⟨b, o + k, none⟩ = some (.string xs[k])) (hs : Short xs) (hk : Keys1 w (.slice kp ks.length kc) ks) (hku : ∀ z ∈ ks, z < 18446744073709551616) (h60 : ks.length ≤ 60) (h0 : 0 < xs.length) (hf : IsFault xs 0 (-1)) :
    Calls Tryd.prog 12 #[.slice (some ⟨b, o, none⟩) xs.length lc, .slice kp ks.length kc] w fun e w' => e = .returned (.bool true) ∧ Below w.heap.size w w' := by
  have hrg := rivals_any a w he.four
  have h30 := hs.1
  obtain ⟨ow, how⟩ := own_ex xs h0
  have hnd := (fault0 hf).2.2
  have h12 := (fault0 hf).2.1
  have e1 : decide (60 < (ks.length : Int)) = false := by simp; omega
  have e3 : decide (600 < (ks.length : Int)) = false := by simp; omega
  have e5 : decide (500 < (ks.length : Int)) = false := by simp; omega
  have hlong : ∀ W, Below w.heap.size w W → Calls Tryd.prog 20 #[.slice (some ⟨b, o, none⟩) xs.length lc] W fun e w' => e = .returned (.int .i64 0) ∧ w' = W := fun W hW => long_short _ xs W (hl.later hW).strs hs
  have HL : Hid (Strs1 w (.slice (some ⟨b, o, none⟩) xs.length lc) xs) := hl
  have HX : Hid (∀ k (h : k < xs.length), w.cell? ⟨b, o + k, none⟩ = some (.string xs[k])) := hx
  have HOW : Hid (∀ z, ∃ y T, Lh.order (Lh.score z) xs = y :: T ∧ ∃ h : ow z < xs.length, xs[ow z] = y) := how
  have HND : Hid xs.Nodup := hnd
  have HK : Hid (Keys1 w (.slice kp ks.length kc) ks) := hk
  have HKU : Hid (∀ z ∈ ks, z < 18446744073709551616) := hku
  have HE : Hid (Errs a w) := he
  have HF : Hid (IsFault xs 0 (-1)) := hf
  have HS : Hid (∀ k (h : k < xs.length), (xs[k]).size ≤ 60) := hs.2
  clear hl he hf hs hk hku hx how hnd
  go_enter Tryd.func12, Tryd.ntmps12
  go_wp2_with fail
  refine hrg.mono ?_
  rintro e w1 ⟨rfl, hb1⟩
  clear hrg
  go_wp2_with fail
  refine (hlong _ hb1).mono ?_
  rintro e w1' ⟨rfl, rfl⟩
  clear hlong
  go_wp2_with fail
  refine (ownTexts_any _ xs w1' (HL.out.later hb1) (by omega)).mono ?_
  rintro e w2 ⟨v2, rfl, hv2, hb2⟩
  have hbw2 : Below w.heap.size w w2 := below_then hb1 hb2
  go_wp2_with fail
  refine (ownKeys_any _ ks w2 (HK.out.later hbw2) (by omega)).mono ?_
  rintro e w3 ⟨v3, rfl, hv3, hb3⟩
  have hbw3 : Below w.heap.size w w3 := below_then hbw2 hb3
  have hv23 := hv2.later hb3
  obtain ⟨p3, c3, rfl, hc3⟩ := hv3.u64s
  obtain ⟨b2, o2, cc2, rfl, hx2⟩ := strsPos hv23 h0
  have hgr := groups_core a b2 o2 cc2 p3 c3 xs ks ow w3 (HE.out.later hbw3).four (strs_cap hv23 h0) hx2 hc3 h0 HF.out (small_of HS.out (by decide)) (by omega) HKU.out (fun z _ => HOW.out z)
  clear hb1 hb2 hb3 hbw2 hv2 hc3 hx2
  go_wp2_with fail
  refine hgr.mono ?_
  rintro e w4 ⟨gb, gcap, V, rfl, hG, hb4⟩
  have hbw4 : Below w.heap.size w w4 := below_then hbw3 hb4
  have HG : Hid (Grp w4 gb xs.length (fun j => ks.filter fun z => decide (ow z = j)) V) := hG
  clear hv23 hv3 hb4 hbw3 hG hgr
  go_wp2_with fail
  refine (someF_any _ xs w4 0 (-1) (HL.out.later hbw4) (Or.inr ⟨h0, HF.out⟩) (small_of HS.out (by decide)) (by omega)).mono ?_
  rintro e w5 ⟨rfl, hb5⟩
  have hbw5 : Below w.heap.size w w5 := below_then hbw4 hb5
  clear hbw4
  obtain ⟨iI, hiI, hi0, hi1, hi2⟩ := info_parts infoN
  have hmaxI : xs.length ≤ maxLen := by unfold maxLen; omega
  have hbytI : iI.bytes * xs.length ≤ 281474976710656 := by rw [hi2]; omega
  go_wp2_with (at_make; refine wpList_make_full _ rfl _ _ 22 rfl _ 3 iI _ 1 Tryd.underlying22 hiI hi0 hi1 _ _ _ _ xs.length rfl rfl rfl rfl hbytI hmaxI (Nat.le_refl _) ?_)
  intro w8 hown8 hgr8
  have hbA1 := (Below.refl w5.heap.size w5).alloc (Nat.le_refl _) (.cells #[.int .i64 0, .int .i64 (-1)] 42)
  have hbA : Below w5.heap.size w5 ((w5.alloc (.cells #[.int .i64 0, .int .i64 (-1)] 42)).alloc (.cells #[.int .i64 0, .int .i64 (-1)] 42)) := hbA1.alloc hbA1.size _
  have hba4 : Below w4.heap.size w4 ((w5.alloc (.cells #[.int .i64 0, .int .i64 (-1)] 42)).alloc (.cells #[.int .i64 0, .int .i64 (-1)] 42)) := below_then hb5 hbA
  have hbw7 : Below w.heap.size w ((w5.alloc (.cells #[.int .i64 0, .int .i64 (-1)] 42)).alloc (.cells #[.int .i64 0, .int .i64 (-1)] 42)) := below_then hbw5 hbA
  have m0 : ((w5.alloc (.cells #[.int .i64 0, .int .i64 (-1)] 42)).alloc (.cells #[.int .i64 0, .int .i64 (-1)] 42)).cell? ⟨w5.heap.size, 0, none⟩ = some (.int .i64 0) := by simp
  have m2 : ((w5.alloc (.cells #[.int .i64 0, .int .i64 (-1)] 42)).alloc (.cells #[.int .i64 0, .int .i64 (-1)] 42)).cell? ⟨w5.heap.size + 1, 0, none⟩ = some (.int .i64 0) := by simp
  have HAB : Hid (((w5.alloc (.cells #[.int .i64 0, .int .i64 (-1)] 42)).alloc (.cells #[.int .i64 0, .int .i64 (-1)] 42)).heap.size = w5.heap.size + 1 + 1) := by
    have h1 : ((w5.alloc (.cells #[.int .i64 0, .int .i64 (-1)] 42)).alloc (.cells #[.int .i64 0, .int .i64 (-1)] 42)).heap.size = w5.heap.size + 1 + 1 := by simp
    exact h1
  clear hbA hbA1 hb5 hbw5 hmaxI hbytI
  generalize ((w5.alloc (.cells #[.int .i64 0, .int .i64 (-1)] 42)).alloc (.cells #[.int .i64 0, .int .i64 (-1)] 42)) = w7 at *
  generalize w5.heap.size = fb at *
  have hb8 : Below w7.heap.size w7 w8 := below_grown hgr8 (fun k h => by cases h)
  rw [toList_madeCells_one] at hown8
  have hrow8 := row_of_owns hown8
  have HGR : Hid (∀ W, Below w7.heap.size w7 W → Grp W gb xs.length (fun j => ks.filter fun z => decide (ow z = j)) V) := fun W hW => (HG.out.below hba4).below hW
  have HIX : Hid (∀ q (h : q < xs.length) W, Below w7.heap.size w7 W → Calls Tryd.prog 61 #[.slice (some ⟨b, o, none⟩) xs.length lc, .string xs[q]] W fun e w' => e = .returned (.int .i64 (q : Nat)) ∧ w' = W) := fun q hq W hb =>
    rIndex_at b o lc xs _ q W (fun k h => below_cell (below_then hbw7 hb) (HX.out k h)) (by omega) hq rfl (fun j hj hjq e => absurd (List.pairwise_iff_getElem.1 HND.out j q hj hq hjq) (fun h => h e))
  have HFB : Hid (∀ W, Below w7.heap.size w7 W → W.cell? ⟨fb, 0, none⟩ = some (.int .i64 0) ∧ W.cell? ⟨fb + 1, 0, none⟩ = some (.int .i64 0)) := fun W hW =>
    ⟨below_cell hW m0, below_cell hW m2⟩
  have HOT : Hid (∀ B, Below w7.heap.size w7 B → ∀ W, Below B.heap.size B W → Calls Tryd.prog 28 #[.slice (some ⟨b, o, none⟩) xs.length lc] W fun e w' => ∃ v, e = .returned v ∧ Strs1 w' v xs ∧ Below B.heap.size B w') := fun B hB W hW =>
    (ownTexts_any _ xs W (HL.out.later (below_then hbw7 (below_then hB hW))) (by omega)).mono fun _ _ ⟨v, h1, h2, h3⟩ => ⟨v, h1, h2, below_then hW h3⟩
  have HORD : Hid (∀ B, Below w7.heap.size w7 B → ∀ z ∈ ks, ∀ W v, Below B.heap.size B W → Strs1 W v xs → Calls Tryd.prog 56 #[v, .int .u64 (z : Nat)] W fun e w' => ∃ v', e = .returned (.tuple #[v', .nilIface]) ∧ Strs1 w' v' (Lh.order (Lh.score z) xs) ∧ Below B.heap.size B w') := fun B hB z hz W v hW hv =>
    (order_good a v xs z (HKU.out z hz) W (HE.out.later (below_then hbw7 (below_then hB hW))).four hv h0 HF.out (small_of HS.out (by decide)) (by omega)).mono fun _ _ ⟨v', h1, h2, h3⟩ => ⟨v', h1, h2, below_then hW h3⟩
  have HHST : Hid (∀ B, Below w7.heap.size w7 B → ∀ z ∈ ks, ∀ W v, Below B.heap.size B W → Strs1 W v xs → Calls Tryd.prog 57 #[v, .int .u64 (z : Nat)] W fun e w' => ∃ s T, e = .returned (.tuple #[.string s, .nilIface]) ∧ Lh.order (Lh.score z) xs = s :: T ∧ Below B.heap.size B w') := fun B hB z hz W v hW hv =>
    (vhost_good a v xs z (HKU.out z hz) W (HE.out.later (below_then hbw7 (below_then hB hW))).four hv h0 HF.out (small_of HS.out (by decide)) (by omega)).mono fun _ _ ⟨s, T, h1, h2, h3⟩ => ⟨s, T, h1, h2, below_then hW h3⟩
  have HREF : Hid (∀ z ∈ ks, ∀ W, Below w7.heap.size w7 W → Calls Tryd.prog 58 #[.slice (some ⟨b, o, none⟩) xs.length lc, .int .u64 (z : Nat)] W fun e w' => ∃ v', e = .returned v' ∧ Strs1 w' v' (Lh.order (Lh.score z) xs) ∧ Below W.heap.size W w') := fun z hz W hW =>
    orderOf_core (Lh.score z) b o lc xs z W (fun k h => below_cell (below_then hbw7 hW) (HX.out k h)) (by omega) (fun s hs W' => scoreOf_any s z (HKU.out z hz) W' (Nat.le_trans (small_mem HS.out s hs) (by decide)))
  have HSC : Hid (∀ z ∈ ks, ∀ y ∈ xs, ∀ W, Calls Tryd.prog 59 #[.string y, .int .u64 (z : Nat)] W fun e w' => e = .returned (.int .u64 (Lh.score z y : Nat)) ∧ Below W.heap.size W w') := fun z hz y hy W =>
    (score_gr y z (HKU.out z hz) W (Nat.le_trans (small_mem HS.out y hy) (by decide))).mono fun _ _ ⟨h1, h2⟩ => ⟨h1, h2.below⟩
  have HSR : Hid (∀ z ∈ ks, ∀ y ∈ xs, ∀ W, Calls Tryd.prog 60 #[.string y, .int .u64 (z : Nat)] W fun e w' => e = .returned (.int .u64 (Lh.score z y : Nat)) ∧ w' = W) := fun z hz y hy W =>
    scoreOf_any y z (HKU.out z hz) W (Nat.le_trans (small_mem HS.out y hy) (by decide))
  have HONE : Hid (∀ z, ∃ y T, Lh.order (Lh.score z) xs = y :: T ∧ y ∈ xs ∧ (y :: T).length = xs.length) := fun z => by
    obtain ⟨y, T, h1, h2⟩ := Lh.order_head (f := Lh.score z) h0
    exact ⟨y, T, h1, h2, by rw [← h1]; exact Lh.order_length _ _⟩
  have HKC : Hid (∀ k (h : k < ks.length), ∃ kb ko, kp = some ⟨kb, ko, none⟩ ∧ ∀ W, Below w7.heap.size w7 W → W.cell? ⟨kb, ko + k, none⟩ = some (.int .u64 (ks[k] : Nat))) := fun k h => by
    obtain ⟨p, c, e, hc⟩ := HK.out.u64s
    obtain ⟨kb, ko, e2, hck⟩ := hc k h
    obtain ⟨rfl, _⟩ : kp = p ∧ kc = c := by
      simp only [Value.slice.injEq] at e
      exact ⟨e.1, e.2.2⟩
    exact ⟨kb, ko, e2, fun W hW => below_cell (below_then hbw7 hW) hck⟩
  clear hown8 hgr8 m0 m2
  have HROW8 : Hid (w8.rowIs (fb + 1 + 1) 3 xs.length (fun _ => .int .i64 0)) := hrow8
  clear hrow8
  go_wp2_with fail
  go_loopw [11] (fun t W => Below w7.heap.size w7 W ∧ ∃ k : Nat, k ≤ ks.length ∧ t = .int .i64 k ∧ W.rowIs (fb + 1 + 1) 3 xs.length (fun j => .int .i64 (((ks.take k).filter fun z => decide (ow z = j)).length : Nat))) (fun t _ => ks.length - (intOf t).toNat)
  case atStart => exact ⟨hb8, 0, Nat.zero_le _, rfl, HROW8.out.congr (fun j _ => rfl)⟩
  case round =>
    clear hb8
    obtain ⟨hb, k, hkk, rfl, hrow⟩ := hrel
    have HROW : Hid (wr.rowIs (fb + 1 + 1) 3 xs.length (fun j => .int .i64 (((ks.take k).filter fun z => decide (ow z = j)).length : Nat))) := hrow
    clear hrow
    by_cases hlt : k < ks.length
    · have hl6 : k < 60 := by omega
      obtain ⟨kb, ko, rfl, hck⟩ := HKC.out k hlt
      have hki : (k : Int) < (ks.length : Int) := by omega
      have d1 : decide ((k : Int) < (ks.length : Int)) = true := by simp; omega
      have d2 : decide ((k : Int) < 60) = true := by simp; omega
      have hzk : ks[k] ∈ ks := List.getElem_mem hlt
      have HCK : Hid (∀ B, Below w7.heap.size w7 B → ∀ W, Below B.heap.size B W → Below B.heap.size B W ∧ W.cell? ⟨kb, ko + k, none⟩ = some (.int .u64 (ks[k] : Nat))) := fun B hB W hW => ⟨hW, hck W (below_then hB hW)⟩
      have HSPL : Hid (ks = ks.take k ++ ks[k] :: ks.drop (k + 1)) := by
        have h1 := List.take_append_drop k ks
        rw [List.drop_eq_getElem_cons hlt] at h1
        exact h1.symm
      have HTK : Hid (ks.take (k + 1) = ks.take k ++ [ks[k]]) := List.take_succ_eq_append_getElem hlt
      generalize ks[k] = z at *
      obtain ⟨y, T, hyT, hyx, hyl⟩ := HONE.out z
      obtain ⟨y', T', hyT', hq, hyq⟩ := HOW.out z
      obtain rfl : y = y' := (List.cons.inj (hyT.symm.trans hyT')).1
      have hixq := HIX.out (ow z) hq
      rw [hyq] at hixq
      have HIXQ : Hid (∀ W, Below w7.heap.size w7 W → Calls Tryd.prog 61 #[.slice (some ⟨b, o, none⟩) xs.length lc, .string y] W fun e w' => e = .returned (.int .i64 (ow z : Nat)) ∧ w' = W) := hixq
      clear hyT' hyq hixq
      have hord := fun B hB => HORD.out B hB z hzk
      have hhst := fun B hB => HHST.out B hB z hzk
      have hrf := HREF.out z hzk
      rw [hyT] at hord hhst hrf
      have hsc := HSC.out z hzk y hyx
      have hsr := HSR.out z hzk y hyx
      generalize Lh.score z y = sc at *
      have c1 := hck wr hb
      have HCK1 : Hid (∀ W, Below wr.heap.size wr W → Below wr.heap.size wr W ∧ W.cell? ⟨kb, ko + k, none⟩ = some (.int .u64 (z : Nat))) := HCK.out wr hb
      have HOT1 : Hid (∀ W, Below wr.heap.size wr W → Calls Tryd.prog 28 #[.slice (some ⟨b, o, none⟩) xs.length lc] W fun e w' => ∃ v, e = .returned v ∧ Strs1 w' v xs ∧ Below wr.heap.size wr w') := HOT.out wr hb
      have HORD1 : Hid (∀ W v, Below wr.heap.size wr W → Strs1 W v xs → Calls Tryd.prog 56 #[v, .int .u64 (z : Nat)] W fun e w' => ∃ v', e = .returned (.tuple #[v', .nilIface]) ∧ Strs1 w' v' (y :: T) ∧ Below wr.heap.size wr w') := hord wr hb
      have HHSTB : Hid (∀ B, Below w7.heap.size w7 B → ∀ W v, Below B.heap.size B W → Strs1 W v xs → Calls Tryd.prog 57 #[v, .int .u64 (z : Nat)] W fun e w' => e = .returned (.tuple #[.string y, .nilIface]) ∧ Below B.heap.size B w') := fun B hB W v hW hv =>
        (hhst B hB W v hW hv).mono fun _ _ ⟨s, T', h1, h2, h3⟩ => ⟨by rw [h1, (List.cons.inj h2).1], h3⟩
      have HRF : Hid (∀ W, Below w7.heap.size w7 W → Calls Tryd.prog 58 #[.slice (some ⟨b, o, none⟩) xs.length lc, .int .u64 (z : Nat)] W fun e w' => ∃ v', e = .returned v' ∧ Strs1 w' v' (y :: T) ∧ Below W.heap.size W w') := hrf
      have HSC1 : Hid (∀ W, Calls Tryd.prog 59 #[.string y, .int .u64 (z : Nat)] W fun e w' => e = .returned (.int .u64 (sc : Nat)) ∧ Below W.heap.size W w') := hsc
      have HSR1 : Hid (∀ W, Calls Tryd.prog 60 #[.string y, .int .u64 (z : Nat)] W fun e w' => e = .returned (.int .u64 (sc : Nat)) ∧ w' = W) := hsr
      clear hck hord hhst hrf hsc hsr
      have hTl : (y :: T).length < 1000000 := by omega
      clear hyl hyT hyx hzk
      generalize hYT : y :: T = YT at *
      have HYT : Hid (y :: T = YT) := hYT
      clear hYT
      go_wp2_with fail
      go_region_held3 (fun w' => Below wr.heap.size wr w' ∧ w'.cell? ⟨kb, ko + k, none⟩ = some (.int .u64 (z : Nat)))
        (first | exact HCK1.out _ (by assumption) | exact HCK1.out _ (below_drewN (Below.refl _ _) 1))
        (first
          | (go_at_call 28; refine (HOT1.out _ (by first | assumption | exact below_drewN (Below.refl _ _) 1)).mono ?_; rintro e w9 ⟨v9, rfl, hv9, hb9⟩)
          | (go_at_call 56; refine (HORD1.out _ _ (by assumption) (by assumption)).mono ?_; rintro e w10 ⟨v10, rfl, hv10, hb10⟩))
      have hbw10 : Below w7.heap.size w7 w10 := below_then hb hb10
      have c2 := (HCK1.out w10 hb10).2
      have HV10 : Hid (Strs1 w10 v10 YT) := hv10
      have HB10 : Hid (Below wr.heap.size wr w10) := hb10
      have HCK2 : Hid (∀ W, Below w10.heap.size w10 W → Below w10.heap.size w10 W ∧ W.cell? ⟨kb, ko + k, none⟩ = some (.int .u64 (z : Nat))) := HCK.out w10 hbw10
      have HOT2 : Hid (∀ W, Below w10.heap.size w10 W → Calls Tryd.prog 28 #[.slice (some ⟨b, o, none⟩) xs.length lc] W fun e w' => ∃ v, e = .returned v ∧ Strs1 w' v xs ∧ Below w10.heap.size w10 w') := HOT.out w10 hbw10
      have HHST2 : Hid (∀ W v, Below w10.heap.size w10 W → Strs1 W v xs → Calls Tryd.prog 57 #[v, .int .u64 (z : Nat)] W fun e w' => e = .returned (.tuple #[.string y, .nilIface]) ∧ Below w10.heap.size w10 w') := HHSTB.out w10 hbw10
      clear hb9 hv9 hb10 hv10 HCK1 HOT1 HORD1 c1
      go_wp2_with fail
      go_region_held3 (fun w' => Below w10.heap.size w10 w' ∧ w'.cell? ⟨kb, ko + k, none⟩ = some (.int .u64 (z : Nat)))
        (first | exact HCK2.out _ (by assumption) | exact HCK2.out _ (below_drewN (Below.refl _ _) 1))
        (first
          | (go_at_call 28; refine (HOT2.out _ (by first | assumption | exact below_drewN (Below.refl _ _) 1)).mono ?_; rintro e w11 ⟨v11, rfl, hv11, hb11⟩)
          | (go_at_call 57; refine (HHST2.out _ _ (by assumption) (by assumption)).mono ?_; rintro e w12 ⟨rfl, hb12⟩))
      have hbw12 : Below w7.heap.size w7 w12 := below_then hbw10 hb12
      obtain ⟨f0, _⟩ := HFB.out w12 hbw12
      have c3 := (HCK2.out w12 hb12).2
      have HB12 : Hid (Below w10.heap.size w10 w12) := hb12
      clear hb11 hv11 hb12 HCK2 HOT2 HHST2 c2
      go_wp2_with fail
      refine (HRF.out w12 hbw12).mono ?_
      rintro e w13 ⟨v13, rfl, hv13, hb13⟩
      have hbw13 : Below w7.heap.size w7 w13 := below_then hbw12 hb13
      have hv10' := (HV10.out.later HB12.out).later hb13
      have hpos : 0 < YT.length := by rw [← HYT.out]; simp
      obtain ⟨b13, o13, c13, rfl, hc13⟩ := strsPos hv13 hpos
      have d13 : w13.cell? ⟨b13, o13, none⟩ = some (.string y) := by
        have h1 := hc13 0 hpos
        rw [Nat.add_zero] at h1
        rw [h1]
        congr 2
        have h2 : YT[0]? = some y := by rw [← HYT.out]; rfl
        exact Option.some.inj ((List.getElem?_eq_getElem hpos).symm.trans h2)
      have HS3 : Hid (∀ W, Below w13.heap.size w13 W → Below w13.heap.size w13 W ∧ W.cell? ⟨kb, ko + k, none⟩ = some (.int .u64 (z : Nat)) ∧ W.cell? ⟨b13, o13, none⟩ = some (.string y)) := fun W hW => ⟨hW, (HCK.out w13 hbw13 W hW).2, below_cell hW d13⟩
      have HSM : Hid (∀ W, Below w13.heap.size w13 W → Calls Tryd.prog 31 #[v10, .slice (some ⟨b13, o13, none⟩) YT.length c13] W fun e w' => e = .returned (.bool true) ∧ Below w13.heap.size w13 w') := fun W hW =>
        (sameTexts_any v10 _ YT YT W (hv10'.later hW).strs (hv13.later hW).strs hTl hTl).mono fun _ _ ⟨h1, h2⟩ => ⟨by rw [h1, decide_eq_true rfl], below_then hW h2⟩
      have HSC2 : Hid (∀ W, Below w13.heap.size w13 W → Calls Tryd.prog 59 #[.string y, .int .u64 (z : Nat)] W fun e w' => e = .returned (.int .u64 (sc : Nat)) ∧ Below w13.heap.size w13 w') := fun W hW => (HSC1.out W).mono fun _ _ ⟨h1, h2⟩ => ⟨h1, below_then hW h2⟩
      have hyy : (y.toList == y.toList) = true := bytes_same rfl
      have c4 := (HS3.out w13 (Below.refl _ _)).2.1
      have hpi : (0 : Int) < (YT.length : Int) := by omega
      clear hv13 hc13 hv10' c3 f0 HSC1
      generalize YT.length = n13 at *
      go_wp2_with fail
      go_region_held3 (fun w' => Below w13.heap.size w13 w' ∧ w'.cell? ⟨kb, ko + k, none⟩ = some (.int .u64 (z : Nat)) ∧ w'.cell? ⟨b13, o13, none⟩ = some (.string y))
        (first | exact HS3.out _ (by assumption) | exact HS3.out _ (below_drewN (Below.refl _ _) 1))
        (first
          | (go_at_call 31; refine (HSM.out _ (by first | assumption | exact below_drewN (Below.refl _ _) 1)).mono ?_; rintro e w14 ⟨rfl, hb14⟩)
          | (go_at_call 59; refine (HSC2.out _ (by first | assumption | exact below_drewN (Below.refl _ _) 1)).mono ?_; rintro e w15 ⟨rfl, hb15⟩)
          | (go_at_call 60; refine (HSR1.out _).mono ?_; rintro e w16 ⟨rfl, rfl⟩))
      all_goals
        have hb1316 : Below w13.heap.size w13 w16 := by assumption
        have hbw16 : Below w7.heap.size w7 w16 := below_then hbw13 hb1316
        obtain ⟨_, f2⟩ := HFB.out w16 hbw16
        have hG16 := HGR.out w16 hbw16
        have hrow16 := row_below (row_below (row_below (row_below HROW.out HB10.out) HB12.out) hb13) hb1316
        have ck := (HS3.out w16 hb1316).2.1
        go_wp2_with fail
        refine (HIXQ.out w16 hbw16).mono ?_
        rintro e w17 ⟨rfl, rfl⟩
        generalize hqq : ow z = q at *
        have HQ : Hid (ow z = q) := hqq
        clear hqq
        have hLq : ks.filter (fun x => decide (ow x = q)) = (ks.take k).filter (fun x => decide (ow x = q)) ++ z :: (ks.drop (k + 1)).filter (fun x => decide (ow x = q)) := by
          conv => lhs; rw [HSPL.out]
          rw [List.filter_append, List.filter_cons, if_pos (by simp [HQ.out])]
        have hownq := hG16.own q hq
        have cg := hG16.cell q hq
        have cat := hrow16.cell hq
        have fat := hrow16.frozen q
        generalize hLL : ks.filter (fun x => decide (ow x = q)) = LL at *
        clear hLL
        have hLl : LL.length ≤ 60 := by
          rw [hLq, List.length_append, List.length_cons]
          have h1 := List.length_filter_le (fun x => decide (ow x = q)) (ks.take k)
          have h2 := List.length_filter_le (fun x => decide (ow x = q)) (ks.drop (k + 1))
          rw [List.length_take] at h1
          rw [List.length_drop] at h2
          omega
        have hLLq : ∃ c0 : Nat, ((ks.take k).filter (fun x => decide (ow x = q))).length = c0 ∧ c0 < LL.length ∧ LL[c0]? = some z := by
          refine ⟨_, rfl, ?_, ?_⟩
          · rw [hLq]; simp
          · rw [hLq]; simp
        obtain ⟨c0, hc0, hc1, hc2⟩ := hLLq
        rw [hc0] at cat
        obtain ⟨g, gc, hVq, _, _⟩ := hownq.form (by omega)
        have cz : w17.cell? ⟨g, c0, none⟩ = some (.int .u64 (z : Nat)) := by
          rw [hVq] at hownq
          rw [hownq.cellAt c0 (by omega)]
          rw [List.getElem?_map, hc2]
          rfl
        rw [hVq] at cg
        have HROW16 : Hid (w17.rowIs (fb + 1 + 1) 3 xs.length (fun j => .int .i64 (((ks.take k).filter fun z => decide (ow z = j)).length : Nat))) := hrow16
        have HC0 : Hid (((ks.take k).filter (fun x => decide (ow x = q))).length = c0) := hc0
        clear hownq hVq hrow16 hG16 hLq hc2 f2 c4 HG hc0
        generalize LL.length = m at *
        have x1 : decide ((m : Int) ≤ (c0 : Int)) = false := by simp; omega
        have x1n : decide (m ≤ c0) = false := by simp; omega
        have x2 : (c0 : Int) < (m : Int) := by omega
        have x3 : (q : Int) < (xs.length : Int) := by omega
        have x4 : ((z : Int) != (z : Int)) = false := by simp
        go_wp2_with fail
        go_quiet (fail)
        have HROWQ : Hid ((w17.drewN nq).rowIs (fb + 1 + 1) 3 xs.length (fun j => .int .i64 (((ks.take k).filter fun z => decide (ow z = j)).length : Nat))) := HROW16.out
        have hbq : Below w7.heap.size w7 (w17.drewN nq) := below_drewN hbw16 nq
        have catq : (w17.drewN nq).cell? ⟨fb + 1 + 1, q, none⟩ = some (.int .i64 (c0 : Nat)) := cat
        have fatq : (w17.drewN nq).frozen? ⟨fb + 1 + 1, q, none⟩ = false := fat
        clear cat fat cg cz ck HROW16 hbw16 hb1316
        generalize w17.drewN nq = wq at *
        go_wp2_with fail
        refine ⟨⟨hbq.setCell (by show w7.heap.size ≤ fb + 1 + 1; have := HAB.out; omega) _, k + 1, by omega, by go_num, ?_⟩, by simp [intOf]; omega⟩
        refine (HROWQ.out.set q _).congr (fun j hj => ?_)
        rw [HTK.out, List.filter_append]
        by_cases e : j = q
        · subst e
          have h1 := HC0.out
          simp [HQ.out, h1]
        · have e' : ¬ ow z = j := fun h => e (by rw [← h, HQ.out])
          simp [e, e']
    · have hkl : ks.take k = ks := List.take_of_length_le (by omega)
      have hrow9 := HROW.out
      rw [hkl] at hrow9
      have HROW9 : Hid (wr.rowIs (fb + 1 + 1) 3 xs.length (fun j => .int .i64 ((ks.filter fun z => decide (ow z = j)).length : Nat))) := hrow9
      have d1 : decide ((k : Int) < (ks.length : Int)) = false := by simp; omega
      have d1n : decide (k < ks.length) = false := by simp; omega
      have HV : Hid (∀ j, j < xs.length → ∃ p c, V j = .slice p (ks.filter fun z => decide (ow z = j)).length c) := fun j hj => by
        have := (HGR.out wr hb).own j hj
        rcases this with ⟨hl, ⟨hv, hn⟩ | ⟨g, cap, cur, hv, _⟩⟩
        · exact ⟨none, 0, by rw [hv, hn]⟩
        · exact ⟨_, _, hv⟩
      clear hrow9 hkl HROW HKC HSC HSR HORD HHST HREF HOT HONE HIX
      generalize wr = W9 at *
      go_wp2_with fail
      go_loopw [18] (fun t W => Below W9.heap.size W9 W ∧ ∃ j : Nat, j ≤ xs.length ∧ t = .int .i64 j) (fun t _ => xs.length - (intOf t).toNat)
      case atStart => exact ⟨Below.refl _ _, 0, Nat.zero_le _, rfl⟩
      case round =>
        obtain ⟨hb9, j, hj, rfl⟩ := hrel
        have hbw9 : Below w7.heap.size w7 wr := below_then hb hb9
        obtain ⟨_, f2⟩ := HFB.out wr hbw9
        by_cases hjl : j < xs.length
        · have x1 : decide ((j : Int) < (xs.length : Int)) = true := by simp; omega
          have x2 : (j : Int) < (xs.length : Int) := by omega
          have x3 : decide (j < xs.length) = true := by simp; omega
          have cg := (HGR.out wr hbw9).cell j hjl
          have cat := (row_below HROW9.out hb9).cell hjl
          obtain ⟨p, c, hp⟩ := HV.out j hjl
          rw [hp] at cg
          clear hp
          generalize (ks.filter fun z => decide (ow z = j)).length = m at *
          have x4 : ((m : Int) != (m : Int)) = false := by simp
          go_wp2_with fail
          go_quiet (fail)
          go_wp2_with fail
          exact ⟨⟨below_drewN hb9 _, j + 1, by omega, by go_num⟩, by simp [intOf]; omega⟩
        · have x1 : decide ((j : Int) < (xs.length : Int)) = false := by simp; omega
          have x3 : decide (j < xs.length) = false := by simp; omega
          go_wp2
          go_ret
          exact ⟨rfl, below_then hbw7 hbw9⟩
end Go.Proofs.YtffobmiacinngaaDoor
