/- TableCounts: the walk, some of its ways. -/
import Derived.Test.YtedbhahkldfmiaaDoorTCBase
namespace Go.Proofs.YtedbhahkldfmiaaDoor
open Go.RowKit
set_option maxRecDepth 100000 in
set_option maxHeartbeats 8000000 in
theorem tc_op0b1 (a : Nat → Addr) (lv va vb : Value) (l : List Int) (xs ys : List ByteArray) (many size : Int) (w : World) (he : Errs a w) (hl : Ints1 w lv l) (hA : Strs1 w va xs) (hB : Strs1 w vb ys)
    (hsA : ∀ k (h : k < xs.length), (xs[k]).size ≤ maxLen) (hlA : xs.length ≤ maxLen) (hsB : ∀ k (h : k < ys.length), (ys[k]).size ≤ maxLen) (hlB : ys.length ≤ maxLen) (hll : l.length ≤ maxLen) (hl64 : ∀ k (h : k < l.length), -9223372036854775808 ≤ l[k] ∧ l[k] ≤ 9223372036854775807)
    (hmany : -9223372036854775808 ≤ many ∧ many ≤ 9223372036854775807) (hn : -9223372036854775808 ≤ size ∧ size ≤ 9223372036854775807) (c : Nat) (pl : Int) (hf : CntFault l many c pl)
    (cA : Nat) (plA : Int) (hfA : TabFault xs size cA plA) (cB : Nat) (plB : Int) (hfB : TabFault ys size cB plB) (hc : c = 2) (hout : 12 < many) (hne : ¬ 0 < l.length) (hcA : cA ≠ 0) :
    Calls Tryd.prog 7 #[lv, .int .i64 many, va, vb, .int .i64 size] w fun e w' => e = .returned (.bool true) ∧ Below w.heap.size w w' := by
  have HL : Hid (Ints1 w lv l) := hl
  obtain ⟨p, cp, rfl, hsrc⟩ := hl.src
  have HSRC : Hid (0 < l.length → ∃ b o, p = some ⟨b, o, none⟩ ∧ ∀ k (h : k < l.length), w.cell? ⟨b, o + k, none⟩ = some (.int .i64 l[k])) := hsrc
  have HE : Hid (Errs a w) := he
  have HF : Hid (CntFault l many c pl) := hf
  have HFA : Hid (TabFault xs size cA plA) := hfA
  have HFB : Hid (TabFault ys size cB plB) := hfB
  have HA : Hid (Strs1 w va xs) := hA
  have HB : Hid (Strs1 w vb ys) := hB
  have HL64 : Hid (∀ k (h : k < l.length), -9223372036854775808 ≤ l[k] ∧ l[k] ≤ 9223372036854775807) := hl64
  unfold maxLen at hll
  clear hl hsrc he hf hfA hfB hA hB hl64
  go_enter Tryd.func7, Tryd.ntmps7
  go_wp2_with fail
  refine (tabled_any a _ HE.out).mono ?_
  rintro e w1 ⟨rfl, hb1⟩
  by_cases h600 : 600 < l.length
  · have e600 : decide (600 < (l.length : Int)) = true := by simp; omega
    go_wp2
    go_ret
    exact ⟨rfl, hb1⟩
  have e600 : decide (600 < (l.length : Int)) = false := by simp; omega
  go_wp2_with fail
  refine (long_any va xs _ (HA.out.later hb1).strs hsA hlA).mono ?_
  rintro e w2 ⟨hloA, rfl⟩
  rcases hloA with rfl | ⟨rfl, h30A, h60A⟩
  · go_wp2_with fail
    refine (long_any vb ys _ (HB.out.later hb1).strs hsB hlB).mono ?_
    rintro e w2' ⟨hloB, rfl⟩
    rcases hloB with rfl | ⟨rfl, _, _⟩
    · go_wp2
      go_ret
      exact ⟨rfl, hb1⟩
    · go_wp2
      go_ret
      exact ⟨rfl, hb1⟩
  go_wp2_with fail
  refine (long_any vb ys _ (HB.out.later hb1).strs hsB hlB).mono ?_
  rintro e w2' ⟨hloB, rfl⟩
  rcases hloB with rfl | ⟨rfl, h30B, h60B⟩
  · go_wp2
    go_ret
    exact ⟨rfl, hb1⟩
  have hmA : xs.length < 1000000 := by omega
  have hmB : ys.length < 1000000 := by omega
  have HA6 : Hid (∀ k (h : k < xs.length), (xs[k]).size ≤ 1000000) := fun k h => Nat.le_trans (h60A k h) (by decide)
  have HA3 : Hid (∀ k (h : k < xs.length), (xs[k]).size ≤ 300) := fun k h => Nat.le_trans (h60A k h) (by decide)
  have HB6 : Hid (∀ k (h : k < ys.length), (ys[k]).size ≤ 1000000) := fun k h => Nat.le_trans (h60B k h) (by decide)
  have HB3 : Hid (∀ k (h : k < ys.length), (ys[k]).size ≤ 300) := fun k h => Nat.le_trans (h60B k h) (by decide)
  clear hsA hlA hsB hlB h60A h60B
  have hl1 : Ints1 w2' (.slice p l.length cp) l := HL.out.later hb1
  go_wp2_with (at_builtin; refine wpList_append_ints _ rfl _ _ rfl rfl _ l rfl hl1 (by omega) ?_)
  intro v1 w3 hown hg3
  have hb3 : Below w.heap.size w w3 := below_then hb1 (below_grown hg3 (fun k h => by cases h))
  have hcnt := counts_any a v1 l many w3 (HE.out.later hb3) (ints_of_owns hown) (by omega) c pl HF.out
  clear hown hg3 hl1 hb1
  go_wp2_with fail
  refine hcnt.mono ?_
  rintro e w4 ⟨hres, hb4⟩
  rcases hres with ⟨h, -⟩ | ⟨-, ev, rfl, hev⟩
  · omega
  have HEV : Hid (ErrIs a w4 c pl ev) := hev
  obtain ⟨t1, x1, rfl⟩ := errIs_pos hev (by omega)
  have hbC := below_then hb3 hb4
  clear hev hb3 hb4 hcnt
  go_wp2_with fail
  refine (fine_any _).mono ?_
  rintro e w5 ⟨rfl, hb5⟩
  have hba : Below w5.heap.size w5 (w5.alloc (.cells #[.int .i64 0, .int .i64 (-1)] 42)) := (Below.refl _ _).alloc (Nat.le_refl _) _
  have hbD := below_then (below_then hbC hb5) hba
  have hb45 := below_then hb5 hba
  have HEV5 : Hid (ErrIs a (w5.alloc (.cells #[.int .i64 0, .int .i64 (-1)] 42)) c pl (.iface t1 x1)) := HEV.out.later hb45
  have hfb : FBlk (w5.alloc (.cells #[.int .i64 0, .int .i64 (-1)] 42)) w5.heap.size 0 (-1) := FBlk.made _ _ _
  have hfw : w.heap.size ≤ w5.heap.size := (below_then hbC hb5).size
  clear hba hb45 hb5 hbC HEV
  obtain ⟨rfl, rfl⟩ := cnt_fault_out HF.out (by omega)
  have HFB0 : Hid (FBlk (w5.alloc (.cells #[.int .i64 0, .int .i64 (-1)] 42)) w5.heap.size 0 (-1)) := hfb
  clear hfb
  have d1 : decide (many < 0) = false := by simp; omega
  have d2 : decide (12 < many) = true := by simp; omega
  have el : decide ((0 : Int) < (l.length : Int)) = false := decide_eq_false (by omega)
  go_wp2_with fail
  refine (bare_any _ _).mono ?_
  rintro e w6 ⟨rfl, hb6⟩
  have hf6 := HFB0.out.later hb6
  have k0 := hf6.c0
  have k1 := hf6.c1
  have kf0 := hf6.frozen 0
  have kf1 := hf6.frozen 1
  have hb6' := below_then hbD hb6
  have hbL : Below w.heap.size w ((w6.setCell ⟨w5.heap.size, 0, none⟩ (.int .i64 2)).setCell ⟨w5.heap.size, 1, none⟩ (.int .i64 (-1))) := (hb6'.setCell hfw _).setCell hfw _
  have HEVL : Hid (ErrIs a ((w6.setCell ⟨w5.heap.size, 0, none⟩ (.int .i64 2)).setCell ⟨w5.heap.size, 1, none⟩ (.int .i64 (-1))) 2 (-1) (.iface t1 x1)) := (HEV5.out.later hb6).kept2 hf6 _ _
  clear hb6 hbD hf6
  go_wp2_with fail
  refine wp_loop_rounds 1 ?_
  rw [rounds_succ]
  go_wp2_with fail
  refine (faulted_is (HE.out.later hbL) HEVL.out).mono ?_
  rintro e wf ⟨rfl, hbf⟩
  have hbP := below_then hbL hbf
  go_wp2_with fail
  refine (ownTexts_any va xs _ (HA.out.later hbP) hmA).mono ?_
  rintro e wq1 ⟨va', rfl, hva', hbq1⟩
  have hbP1 := below_then hbP hbq1
  go_wp2_with fail
  refine (ownTexts_any vb ys _ (HB.out.later hbP1) hmB).mono ?_
  rintro e wq2 ⟨vb', rfl, hvb', hbq2⟩
  have hbQ := below_then hbP1 hbq2
  have hva2 := hva'.later hbq2
  clear hbq1 hbq2 hva'
  go_wp2_with fail
  refine (moves_bad1 a va' vb' xs size _ cA plA (HE.out.later hbQ) hva2 HFA.out hcA hn HA6.out hmA).mono ?_
  rintro e wm ⟨evm, rfl, hevm, hbm⟩
  have HEVM : Hid (ErrIs a wm cA plA evm) := hevm
  obtain ⟨tm, xm, rfl⟩ := errIs_pos hevm hcA
  have hbM := below_then hbQ hbm
  clear hevm hbm hva2 hvb'
  go_wp2_with fail
  refine (tableFault_any va xs size _ cA plA (HA.out.later hbM) HFA.out hn HA6.out hmA).mono ?_
  rintro e wg ⟨rfl, hbg⟩
  have hbga : Below wg.heap.size wg (wg.alloc (.cells #[.int .i64 cA, .int .i64 plA] 42)) := (Below.refl _ _).alloc (Nat.le_refl _) _
  have hbG := below_then (below_then hbM hbg) hbga
  have HEVG : Hid (ErrIs a (wg.alloc (.cells #[.int .i64 cA, .int .i64 plA] 42)) cA plA (.iface tm xm)) := (HEVM.out.later hbg).later hbga
  have hcA0 : ((cA : Int) == 0) = false := by rw [beq_eq_false_iff_ne]; omega
  have hcAp : decide (0 < (cA : Int)) = true := by simp; omega
  clear hbg hbga
  go_wp2_with fail
  refine (faulted_is (HE.out.later hbG) HEVG.out).mono ?_
  rintro e wz ⟨rfl, hbz⟩
  go_wp2
  go_ret
  exact ⟨rfl, below_then hbG hbz⟩

set_option maxRecDepth 100000 in
set_option maxHeartbeats 8000000 in
theorem tc_op0b2 (a : Nat → Addr) (lv va vb : Value) (l : List Int) (xs ys : List ByteArray) (many size : Int) (w : World) (he : Errs a w) (hl : Ints1 w lv l) (hA : Strs1 w va xs) (hB : Strs1 w vb ys)
    (hsA : ∀ k (h : k < xs.length), (xs[k]).size ≤ maxLen) (hlA : xs.length ≤ maxLen) (hsB : ∀ k (h : k < ys.length), (ys[k]).size ≤ maxLen) (hlB : ys.length ≤ maxLen) (hll : l.length ≤ maxLen) (hl64 : ∀ k (h : k < l.length), -9223372036854775808 ≤ l[k] ∧ l[k] ≤ 9223372036854775807)
    (hmany : -9223372036854775808 ≤ many ∧ many ≤ 9223372036854775807) (hn : -9223372036854775808 ≤ size ∧ size ≤ 9223372036854775807) (c : Nat) (pl : Int) (hf : CntFault l many c pl)
    (cA : Nat) (plA : Int) (hfA : TabFault xs size cA plA) (cB : Nat) (plB : Int) (hfB : TabFault ys size cB plB) (hc : c = 2) (hout : 12 < many) (hne : ¬ 0 < l.length) (hcA : cA = 0) (hcB : cB ≠ 0) :
    Calls Tryd.prog 7 #[lv, .int .i64 many, va, vb, .int .i64 size] w fun e w' => e = .returned (.bool true) ∧ Below w.heap.size w w' := by
  have HL : Hid (Ints1 w lv l) := hl
  obtain ⟨p, cp, rfl, hsrc⟩ := hl.src
  have HSRC : Hid (0 < l.length → ∃ b o, p = some ⟨b, o, none⟩ ∧ ∀ k (h : k < l.length), w.cell? ⟨b, o + k, none⟩ = some (.int .i64 l[k])) := hsrc
  have HE : Hid (Errs a w) := he
  have HF : Hid (CntFault l many c pl) := hf
  have HFA : Hid (TabFault xs size cA plA) := hfA
  have HFB : Hid (TabFault ys size cB plB) := hfB
  have HA : Hid (Strs1 w va xs) := hA
  have HB : Hid (Strs1 w vb ys) := hB
  have HL64 : Hid (∀ k (h : k < l.length), -9223372036854775808 ≤ l[k] ∧ l[k] ≤ 9223372036854775807) := hl64
  unfold maxLen at hll
  clear hl hsrc he hf hfA hfB hA hB hl64
  go_enter Tryd.func7, Tryd.ntmps7
  go_wp2_with fail
  refine (tabled_any a _ HE.out).mono ?_
  rintro e w1 ⟨rfl, hb1⟩
  by_cases h600 : 600 < l.length
  · have e600 : decide (600 < (l.length : Int)) = true := by simp; omega
    go_wp2
    go_ret
    exact ⟨rfl, hb1⟩
  have e600 : decide (600 < (l.length : Int)) = false := by simp; omega
  go_wp2_with fail
  refine (long_any va xs _ (HA.out.later hb1).strs hsA hlA).mono ?_
  rintro e w2 ⟨hloA, rfl⟩
  rcases hloA with rfl | ⟨rfl, h30A, h60A⟩
  · go_wp2_with fail
    refine (long_any vb ys _ (HB.out.later hb1).strs hsB hlB).mono ?_
    rintro e w2' ⟨hloB, rfl⟩
    rcases hloB with rfl | ⟨rfl, _, _⟩
    · go_wp2
      go_ret
      exact ⟨rfl, hb1⟩
    · go_wp2
      go_ret
      exact ⟨rfl, hb1⟩
  go_wp2_with fail
  refine (long_any vb ys _ (HB.out.later hb1).strs hsB hlB).mono ?_
  rintro e w2' ⟨hloB, rfl⟩
  rcases hloB with rfl | ⟨rfl, h30B, h60B⟩
  · go_wp2
    go_ret
    exact ⟨rfl, hb1⟩
  have hmA : xs.length < 1000000 := by omega
  have hmB : ys.length < 1000000 := by omega
  have HA6 : Hid (∀ k (h : k < xs.length), (xs[k]).size ≤ 1000000) := fun k h => Nat.le_trans (h60A k h) (by decide)
  have HA3 : Hid (∀ k (h : k < xs.length), (xs[k]).size ≤ 300) := fun k h => Nat.le_trans (h60A k h) (by decide)
  have HB6 : Hid (∀ k (h : k < ys.length), (ys[k]).size ≤ 1000000) := fun k h => Nat.le_trans (h60B k h) (by decide)
  have HB3 : Hid (∀ k (h : k < ys.length), (ys[k]).size ≤ 300) := fun k h => Nat.le_trans (h60B k h) (by decide)
  clear hsA hlA hsB hlB h60A h60B
  have hl1 : Ints1 w2' (.slice p l.length cp) l := HL.out.later hb1
  go_wp2_with (at_builtin; refine wpList_append_ints _ rfl _ _ rfl rfl _ l rfl hl1 (by omega) ?_)
  intro v1 w3 hown hg3
  have hb3 : Below w.heap.size w w3 := below_then hb1 (below_grown hg3 (fun k h => by cases h))
  have hcnt := counts_any a v1 l many w3 (HE.out.later hb3) (ints_of_owns hown) (by omega) c pl HF.out
  clear hown hg3 hl1 hb1
  go_wp2_with fail
  refine hcnt.mono ?_
  rintro e w4 ⟨hres, hb4⟩
  subst hcA
  obtain ⟨rfl, h0A, hifA, mA, rfl, hpA, h22A, h5A⟩ := tabFault_zero HFA.out
  rcases hres with ⟨h, -⟩ | ⟨-, ev, rfl, hev⟩
  · omega
  have HEV : Hid (ErrIs a w4 c pl ev) := hev
  obtain ⟨t1, x1, rfl⟩ := errIs_pos hev (by omega)
  have hbC := below_then hb3 hb4
  clear hev hb3 hb4 hcnt
  go_wp2_with fail
  refine (fine_any _).mono ?_
  rintro e w5 ⟨rfl, hb5⟩
  have hba : Below w5.heap.size w5 (w5.alloc (.cells #[.int .i64 0, .int .i64 (-1)] 42)) := (Below.refl _ _).alloc (Nat.le_refl _) _
  have hbD := below_then (below_then hbC hb5) hba
  have hb45 := below_then hb5 hba
  have HEV5 : Hid (ErrIs a (w5.alloc (.cells #[.int .i64 0, .int .i64 (-1)] 42)) c pl (.iface t1 x1)) := HEV.out.later hb45
  have hfb : FBlk (w5.alloc (.cells #[.int .i64 0, .int .i64 (-1)] 42)) w5.heap.size 0 (-1) := FBlk.made _ _ _
  have hfw : w.heap.size ≤ w5.heap.size := (below_then hbC hb5).size
  clear hba hb45 hb5 hbC HEV
  obtain ⟨rfl, rfl⟩ := cnt_fault_out HF.out (by omega)
  have HFB0 : Hid (FBlk (w5.alloc (.cells #[.int .i64 0, .int .i64 (-1)] 42)) w5.heap.size 0 (-1)) := hfb
  clear hfb
  have d1 : decide (many < 0) = false := by simp; omega
  have d2 : decide (12 < many) = true := by simp; omega
  have el : decide ((0 : Int) < (l.length : Int)) = false := decide_eq_false (by omega)
  go_wp2_with fail
  refine (bare_any _ _).mono ?_
  rintro e w6 ⟨rfl, hb6⟩
  have hf6 := HFB0.out.later hb6
  have k0 := hf6.c0
  have k1 := hf6.c1
  have kf0 := hf6.frozen 0
  have kf1 := hf6.frozen 1
  have hb6' := below_then hbD hb6
  have hbL : Below w.heap.size w ((w6.setCell ⟨w5.heap.size, 0, none⟩ (.int .i64 2)).setCell ⟨w5.heap.size, 1, none⟩ (.int .i64 (-1))) := (hb6'.setCell hfw _).setCell hfw _
  have HEVL : Hid (ErrIs a ((w6.setCell ⟨w5.heap.size, 0, none⟩ (.int .i64 2)).setCell ⟨w5.heap.size, 1, none⟩ (.int .i64 (-1))) 2 (-1) (.iface t1 x1)) := (HEV5.out.later hb6).kept2 hf6 _ _
  clear hb6 hbD hf6
  go_wp2_with fail
  refine wp_loop_rounds 1 ?_
  rw [rounds_succ]
  go_wp2_with fail
  refine (faulted_is (HE.out.later hbL) HEVL.out).mono ?_
  rintro e wf ⟨rfl, hbf⟩
  have hbP := below_then hbL hbf
  go_wp2_with fail
  refine (ownTexts_any va xs _ (HA.out.later hbP) hmA).mono ?_
  rintro e wq1 ⟨va', rfl, hva', hbq1⟩
  have hbP1 := below_then hbP hbq1
  go_wp2_with fail
  refine (ownTexts_any vb ys _ (HB.out.later hbP1) hmB).mono ?_
  rintro e wq2 ⟨vb', rfl, hvb', hbq2⟩
  have hbQ := below_then hbP1 hbq2
  have hva2 := hva'.later hbq2
  clear hbq1 hbq2 hva'
  go_wp2_with fail
  refine (moves_bad2 a va' vb' xs ys mA _ cB plB (HE.out.later hbQ) hva2 hvb' h0A hifA hpA h5A HA3.out HFB.out hcB HB6.out hmB).mono ?_
  rintro e wm ⟨evm, rfl, hevm, hbm⟩
  have HEVM : Hid (ErrIs a wm cB plB evm) := hevm
  obtain ⟨tm, xm, rfl⟩ := errIs_pos hevm hcB
  have hbM := below_then hbQ hbm
  clear hevm hbm hva2 hvb'
  go_wp2_with fail
  refine (tableFault_any va xs (mA : Int) _ 0 (-1) (HA.out.later hbM) HFA.out hn HA6.out hmA).mono ?_
  rintro e wg ⟨rfl, hbg⟩
  have hbga : Below wg.heap.size wg (wg.alloc (.cells #[.int .i64 0, .int .i64 (-1)] 42)) := (Below.refl _ _).alloc (Nat.le_refl _) _
  have hbG := below_then (below_then hbM hbg) hbga
  have hfg : FBlk (wg.alloc (.cells #[.int .i64 0, .int .i64 (-1)] 42)) wg.heap.size 0 (-1) := FBlk.made _ _ _
  have hgw : w.heap.size ≤ wg.heap.size := (below_then hbM hbg).size
  have HEVG : Hid (ErrIs a (wg.alloc (.cells #[.int .i64 0, .int .i64 (-1)] 42)) cB plB (.iface tm xm)) := (HEVM.out.later hbg).later hbga
  clear hbg hbga
  go_wp2_with fail
  refine (tableFault_any vb ys (mA : Int) _ cB plB (HB.out.later hbG) HFB.out hn HB6.out hmB).mono ?_
  rintro e wh ⟨rfl, hbh⟩
  have hfh := hfg.later hbh
  have k0 := hfh.c0
  have k1 := hfh.c1
  have kf0 := hfh.frozen 0
  have kf1 := hfh.frozen 1
  have hbH := below_then hbG hbh
  have HFH : Hid (FBlk wh wg.heap.size 0 (-1)) := hfh
  clear hfg hfh
  have hcBp : decide (0 < (cB : Int)) = true := by simp; omega
  have HEVH : Hid (ErrIs a ((wh.setCell ⟨wg.heap.size, 0, none⟩ (.int .i64 cB)).setCell ⟨wg.heap.size, 1, none⟩ (.int .i64 plB)) cB plB (.iface tm xm)) := (HEVG.out.later hbh).kept2 HFH.out _ _
  have hbI : Below w.heap.size w ((wh.setCell ⟨wg.heap.size, 0, none⟩ (.int .i64 cB)).setCell ⟨wg.heap.size, 1, none⟩ (.int .i64 plB)) := (hbH.setCell hgw _).setCell hgw _
  go_wp2_with fail
  refine (faulted_is (HE.out.later hbI) HEVH.out).mono ?_
  rintro e wz ⟨rfl, hbz⟩
  go_wp2
  go_ret
  exact ⟨rfl, below_then hbI hbz⟩

set_option maxRecDepth 100000 in
set_option maxHeartbeats 8000000 in
theorem tc_op0g (a : Nat → Addr) (lv va vb : Value) (l : List Int) (xs ys : List ByteArray) (many size : Int) (w : World) (he : Errs a w) (hl : Ints1 w lv l) (hA : Strs1 w va xs) (hB : Strs1 w vb ys)
    (hsA : ∀ k (h : k < xs.length), (xs[k]).size ≤ maxLen) (hlA : xs.length ≤ maxLen) (hsB : ∀ k (h : k < ys.length), (ys[k]).size ≤ maxLen) (hlB : ys.length ≤ maxLen) (hll : l.length ≤ maxLen) (hl64 : ∀ k (h : k < l.length), -9223372036854775808 ≤ l[k] ∧ l[k] ≤ 9223372036854775807)
    (hmany : -9223372036854775808 ≤ many ∧ many ≤ 9223372036854775807) (hn : -9223372036854775808 ≤ size ∧ size ≤ 9223372036854775807) (c : Nat) (pl : Int) (hf : CntFault l many c pl)
    (cA : Nat) (plA : Int) (hfA : TabFault xs size cA plA) (cB : Nat) (plB : Int) (hfB : TabFault ys size cB plB) (hc : c = 2) (hout : 12 < many) (hne : ¬ 0 < l.length) (hcA : cA = 0) (hcB : cB = 0) :
    Calls Tryd.prog 7 #[lv, .int .i64 many, va, vb, .int .i64 size] w fun e w' => e = .returned (.bool true) ∧ Below w.heap.size w w' := by
  have HL : Hid (Ints1 w lv l) := hl
  obtain ⟨p, cp, rfl, hsrc⟩ := hl.src
  have HSRC : Hid (0 < l.length → ∃ b o, p = some ⟨b, o, none⟩ ∧ ∀ k (h : k < l.length), w.cell? ⟨b, o + k, none⟩ = some (.int .i64 l[k])) := hsrc
  have HE : Hid (Errs a w) := he
  have HF : Hid (CntFault l many c pl) := hf
  have HFA : Hid (TabFault xs size cA plA) := hfA
  have HFB : Hid (TabFault ys size cB plB) := hfB
  have HA : Hid (Strs1 w va xs) := hA
  have HB : Hid (Strs1 w vb ys) := hB
  have HL64 : Hid (∀ k (h : k < l.length), -9223372036854775808 ≤ l[k] ∧ l[k] ≤ 9223372036854775807) := hl64
  unfold maxLen at hll
  clear hl hsrc he hf hfA hfB hA hB hl64
  go_enter Tryd.func7, Tryd.ntmps7
  go_wp2_with fail
  refine (tabled_any a _ HE.out).mono ?_
  rintro e w1 ⟨rfl, hb1⟩
  by_cases h600 : 600 < l.length
  · have e600 : decide (600 < (l.length : Int)) = true := by simp; omega
    go_wp2
    go_ret
    exact ⟨rfl, hb1⟩
  have e600 : decide (600 < (l.length : Int)) = false := by simp; omega
  go_wp2_with fail
  refine (long_any va xs _ (HA.out.later hb1).strs hsA hlA).mono ?_
  rintro e w2 ⟨hloA, rfl⟩
  rcases hloA with rfl | ⟨rfl, h30A, h60A⟩
  · go_wp2_with fail
    refine (long_any vb ys _ (HB.out.later hb1).strs hsB hlB).mono ?_
    rintro e w2' ⟨hloB, rfl⟩
    rcases hloB with rfl | ⟨rfl, _, _⟩
    · go_wp2
      go_ret
      exact ⟨rfl, hb1⟩
    · go_wp2
      go_ret
      exact ⟨rfl, hb1⟩
  go_wp2_with fail
  refine (long_any vb ys _ (HB.out.later hb1).strs hsB hlB).mono ?_
  rintro e w2' ⟨hloB, rfl⟩
  rcases hloB with rfl | ⟨rfl, h30B, h60B⟩
  · go_wp2
    go_ret
    exact ⟨rfl, hb1⟩
  have hmA : xs.length < 1000000 := by omega
  have hmB : ys.length < 1000000 := by omega
  have HA6 : Hid (∀ k (h : k < xs.length), (xs[k]).size ≤ 1000000) := fun k h => Nat.le_trans (h60A k h) (by decide)
  have HA3 : Hid (∀ k (h : k < xs.length), (xs[k]).size ≤ 300) := fun k h => Nat.le_trans (h60A k h) (by decide)
  have HB6 : Hid (∀ k (h : k < ys.length), (ys[k]).size ≤ 1000000) := fun k h => Nat.le_trans (h60B k h) (by decide)
  have HB3 : Hid (∀ k (h : k < ys.length), (ys[k]).size ≤ 300) := fun k h => Nat.le_trans (h60B k h) (by decide)
  clear hsA hlA hsB hlB h60A h60B
  have hl1 : Ints1 w2' (.slice p l.length cp) l := HL.out.later hb1
  go_wp2_with (at_builtin; refine wpList_append_ints _ rfl _ _ rfl rfl _ l rfl hl1 (by omega) ?_)
  intro v1 w3 hown hg3
  have hb3 : Below w.heap.size w w3 := below_then hb1 (below_grown hg3 (fun k h => by cases h))
  have hcnt := counts_any a v1 l many w3 (HE.out.later hb3) (ints_of_owns hown) (by omega) c pl HF.out
  clear hown hg3 hl1 hb1
  go_wp2_with fail
  refine hcnt.mono ?_
  rintro e w4 ⟨hres, hb4⟩
  subst hcA
  subst hcB
  obtain ⟨rfl, h0A, hifA, mA, rfl, hpA, h22A, h5A⟩ := tabFault_zero HFA.out
  obtain ⟨rfl, h0B, hifB, -⟩ := tabFault_zero HFB.out
  obtain ⟨_, h12A, _⟩ := fault_zero hifA
  obtain ⟨_, h12B, _⟩ := fault_zero hifB
  rcases hres with ⟨h, -⟩ | ⟨-, ev, rfl, hev⟩
  · omega
  have HEV : Hid (ErrIs a w4 c pl ev) := hev
  obtain ⟨t1, x1, rfl⟩ := errIs_pos hev (by omega)
  have hbC := below_then hb3 hb4
  clear hev hb3 hb4 hcnt
  go_wp2_with fail
  refine (fine_any _).mono ?_
  rintro e w5 ⟨rfl, hb5⟩
  have hba : Below w5.heap.size w5 (w5.alloc (.cells #[.int .i64 0, .int .i64 (-1)] 42)) := (Below.refl _ _).alloc (Nat.le_refl _) _
  have hbD := below_then (below_then hbC hb5) hba
  have hb45 := below_then hb5 hba
  have HEV5 : Hid (ErrIs a (w5.alloc (.cells #[.int .i64 0, .int .i64 (-1)] 42)) c pl (.iface t1 x1)) := HEV.out.later hb45
  have hfb : FBlk (w5.alloc (.cells #[.int .i64 0, .int .i64 (-1)] 42)) w5.heap.size 0 (-1) := FBlk.made _ _ _
  have hfw : w.heap.size ≤ w5.heap.size := (below_then hbC hb5).size
  clear hba hb45 hb5 hbC HEV
  obtain ⟨rfl, rfl⟩ := cnt_fault_out HF.out (by omega)
  have HFB0 : Hid (FBlk (w5.alloc (.cells #[.int .i64 0, .int .i64 (-1)] 42)) w5.heap.size 0 (-1)) := hfb
  clear hfb
  have d1 : decide (many < 0) = false := by simp; omega
  have d2 : decide (12 < many) = true := by simp; omega
  have el : decide ((0 : Int) < (l.length : Int)) = false := decide_eq_false (by omega)
  go_wp2_with fail
  refine (bare_any _ _).mono ?_
  rintro e w6 ⟨rfl, hb6⟩
  have hf6 := HFB0.out.later hb6
  have k0 := hf6.c0
  have k1 := hf6.c1
  have kf0 := hf6.frozen 0
  have kf1 := hf6.frozen 1
  have hb6' := below_then hbD hb6
  have hbL : Below w.heap.size w ((w6.setCell ⟨w5.heap.size, 0, none⟩ (.int .i64 2)).setCell ⟨w5.heap.size, 1, none⟩ (.int .i64 (-1))) := (hb6'.setCell hfw _).setCell hfw _
  have HEVL : Hid (ErrIs a ((w6.setCell ⟨w5.heap.size, 0, none⟩ (.int .i64 2)).setCell ⟨w5.heap.size, 1, none⟩ (.int .i64 (-1))) 2 (-1) (.iface t1 x1)) := (HEV5.out.later hb6).kept2 hf6 _ _
  clear hb6 hbD hf6
  go_wp2_with fail
  refine wp_loop_rounds 1 ?_
  rw [rounds_succ]
  go_wp2_with fail
  refine (faulted_is (HE.out.later hbL) HEVL.out).mono ?_
  rintro e wf ⟨rfl, hbf⟩
  have hbP := below_then hbL hbf
  go_wp2_with fail
  refine (ownTexts_any va xs _ (HA.out.later hbP) hmA).mono ?_
  rintro e wq1 ⟨va', rfl, hva', hbq1⟩
  have hbP1 := below_then hbP hbq1
  go_wp2_with fail
  refine (ownTexts_any vb ys _ (HB.out.later hbP1) hmB).mono ?_
  rintro e wq2 ⟨vb', rfl, hvb', hbq2⟩
  have hbQ := below_then hbP1 hbq2
  have hva2 := hva'.later hbq2
  clear hbq1 hbq2 hva'
  go_wp2_with fail
  refine (moves_good a va' vb' xs ys mA _ (HE.out.later hbQ) hva2 hvb' h0A h0B hifA hifB hpA h5A HA3.out HB3.out).mono ?_
  rintro e wm ⟨rfl, hbm⟩
  have hbM := below_then hbQ hbm
  clear hbm hva2 hvb'
  go_wp2_with fail
  refine (tableFault_any va xs (mA : Int) _ 0 (-1) (HA.out.later hbM) HFA.out hn HA6.out hmA).mono ?_
  rintro e wg ⟨rfl, hbg⟩
  have hbga : Below wg.heap.size wg (wg.alloc (.cells #[.int .i64 0, .int .i64 (-1)] 42)) := (Below.refl _ _).alloc (Nat.le_refl _) _
  have hbG := below_then (below_then hbM hbg) hbga
  have hfg : FBlk (wg.alloc (.cells #[.int .i64 0, .int .i64 (-1)] 42)) wg.heap.size 0 (-1) := FBlk.made _ _ _
  have hgw : w.heap.size ≤ wg.heap.size := (below_then hbM hbg).size
  clear hbg hbga
  go_wp2_with fail
  refine (tableFault_any vb ys (mA : Int) _ 0 (-1) (HB.out.later hbG) HFB.out hn HB6.out hmB).mono ?_
  rintro e wh ⟨rfl, hbh⟩
  have hfh := hfg.later hbh
  have k0 := hfh.c0
  have k1 := hfh.c1
  have kf0 := hfh.frozen 0
  have kf1 := hfh.frozen 1
  have hbH := below_then hbG hbh
  have HFH : Hid (FBlk wh wg.heap.size 0 (-1)) := hfh
  clear hfg hfh
  have hbI : Below w.heap.size w ((wh.setCell ⟨wg.heap.size, 0, none⟩ (.int .i64 0)).setCell ⟨wg.heap.size, 1, none⟩ (.int .i64 (-1))) := (hbH.setCell hgw _).setCell hgw _
  go_wp2_with fail
  refine (tableOf_val va xs mA _ (HA.out.later hbI) h0A h12A HA3.out hpA h5A).mono ?_
  rintro e wt ⟨g1, rfl, hg1, hr1, hbt⟩
  have hbJ := below_then hbI hbt
  go_wp2_with fail
  refine (tableOf_val vb ys mA _ (HB.out.later hbJ) h0B h12B HB3.out hpA h5A).mono ?_
  rintro e wu ⟨g2, rfl, hg2, hr2, hbu⟩
  have HS1 : Hid (∀ W, Below wu.heap.size wu W → ∀ i, i < mA → ∃ j, ∃ hj : j < xs.length, W.cell? ⟨g1, i, none⟩ = some (.int .i64 (j : Nat)) ∧ xs[j] = owner xs mA i) := fun W hW i hi => slot_of hpA h0A ((hr1.later hbu).later hW) hi
  have HS2 : Hid (∀ W, Below wu.heap.size wu W → ∀ i, i < mA → ∃ j, ∃ hj : j < ys.length, W.cell? ⟨g2, i, none⟩ = some (.int .i64 (j : Nat)) ∧ ys[j] = owner ys mA i) := fun W hW i hi => slot_of hpA h0B (hr2.later hW) hi
  have hbU := below_then hbJ hbu
  have HBU : Hid (Below w.heap.size w wu) := hbU
  obtain ⟨b1, o1, c1, rfl, hx⟩ := strs1_pos HA.out h0A
  obtain ⟨b2, o2, c2, rfl, hy⟩ := strs1_pos HB.out h0B
  have HX : Hid (∀ k (h : k < xs.length), w.cell? ⟨b1, o1 + k, none⟩ = some (.string xs[k])) := hx
  have HY : Hid (∀ k (h : k < ys.length), w.cell? ⟨b2, o2 + k, none⟩ = some (.string ys[k])) := hy
  clear hr1 hr2 hbt hbu hbU hx hy hbI hbJ k0 k1 kf0 kf1
  go_wp2_with fail
  go_loopw [1, 23] (fun vm t W => Below wu.heap.size wu W ∧ ∃ i : Nat, i ≤ mA ∧ t = .int .i64 i ∧ vm = .int .i64 (mv xs ys mA i : Nat)) (fun _ t _ => mA - (intOf t).toNat)
  case atStart => exact ⟨Below.refl _ _, 0, Nat.zero_le _, rfl, rfl⟩
  case round =>
    obtain ⟨hb, i, hi, rfl, rfl⟩ := hrel
    by_cases hlt : i < mA
    · obtain ⟨j1, hj1, c1', e1⟩ := HS1.out wr hb i hlt
      obtain ⟨j2, hj2, c2', e2⟩ := HS2.out wr hb i hlt
      have d1 := below_cell (below_then HBU.out hb) (HX.out j1 hj1)
      have d2 := below_cell (below_then HBU.out hb) (HY.out j2 hj2)
      have hii : (i : Int) < (mA : Int) := by omega
      have hj1i : (j1 : Int) < (xs.length : Int) := by omega
      have hj2i : (j2 : Int) < (ys.length : Int) := by omega
      have hmle := mv_le xs ys mA i
      have hd : decide ((i : Int) < (mA : Int)) = true := by simp; omega
      rw [e1] at d1
      rw [e2] at d2
      by_cases heq : owner xs mA i = owner ys mA i
      · have HM : Hid (mv xs ys mA (i + 1) = mv xs ys mA i) := mv_same heq
        have hne : ((owner xs mA i).toList != (owner ys mA i).toList) = false := by rw [heq]; simp
        have hne2 : ((owner xs mA i).toList == (owner ys mA i).toList) = true := bytes_same heq
        clear heq e1 e2
        generalize owner xs mA i = s1 at *
        generalize owner ys mA i = s2 at *
        generalize mv xs ys mA i = q at *
        go_wp2_with fail
        go_quiet (fail)
        go_wp2_with fail
        go_roundw
        case rel => exact ⟨below_drewN hb nq, i + 1, by omega, by go_num, by rw [HM.out]⟩
        case measure => simp [intOf]; omega
      · have HM : Hid (mv xs ys mA (i + 1) = mv xs ys mA i + 1) := mv_other heq
        have hne2 : ((owner xs mA i).toList == (owner ys mA i).toList) = false := bytes_parts heq
        have hne : ((owner xs mA i).toList != (owner ys mA i).toList) = true := by unfold bne; rw [hne2]; rfl
        clear heq e1 e2
        generalize owner xs mA i = s1 at *
        generalize owner ys mA i = s2 at *
        generalize mv xs ys mA i = q at *
        go_wp2_with fail
        go_quiet (fail)
        go_wp2_with fail
        go_roundw
        case rel => exact ⟨below_drewN hb nq, i + 1, by omega, by go_num, by rw [HM.out]; rfl⟩
        case measure => simp [intOf]; omega
    · have hd : decide ((i : Int) < (mA : Int)) = false := by simp; omega
      have hie : i = mA := by omega
      subst hie
      go_wp2
      go_ret
      exact ⟨by simp, below_then HBU.out hb⟩

set_option maxRecDepth 100000 in
set_option maxHeartbeats 8000000 in
theorem tc_op1b1 (a : Nat → Addr) (lv va vb : Value) (l : List Int) (xs ys : List ByteArray) (many size : Int) (w : World) (he : Errs a w) (hl : Ints1 w lv l) (hA : Strs1 w va xs) (hB : Strs1 w vb ys)
    (hsA : ∀ k (h : k < xs.length), (xs[k]).size ≤ maxLen) (hlA : xs.length ≤ maxLen) (hsB : ∀ k (h : k < ys.length), (ys[k]).size ≤ maxLen) (hlB : ys.length ≤ maxLen) (hll : l.length ≤ maxLen) (hl64 : ∀ k (h : k < l.length), -9223372036854775808 ≤ l[k] ∧ l[k] ≤ 9223372036854775807)
    (hmany : -9223372036854775808 ≤ many ∧ many ≤ 9223372036854775807) (hn : -9223372036854775808 ≤ size ∧ size ≤ 9223372036854775807) (c : Nat) (pl : Int) (hf : CntFault l many c pl)
    (cA : Nat) (plA : Int) (hfA : TabFault xs size cA plA) (cB : Nat) (plB : Int) (hfB : TabFault ys size cB plB) (hc : c = 2) (hout : 12 < many) (hne : 0 < l.length) (hcA : cA ≠ 0) :
    Calls Tryd.prog 7 #[lv, .int .i64 many, va, vb, .int .i64 size] w fun e w' => e = .returned (.bool true) ∧ Below w.heap.size w w' := by
  have HL : Hid (Ints1 w lv l) := hl
  obtain ⟨p, cp, rfl, hsrc⟩ := hl.src
  have HSRC : Hid (0 < l.length → ∃ b o, p = some ⟨b, o, none⟩ ∧ ∀ k (h : k < l.length), w.cell? ⟨b, o + k, none⟩ = some (.int .i64 l[k])) := hsrc
  have HE : Hid (Errs a w) := he
  have HF : Hid (CntFault l many c pl) := hf
  have HFA : Hid (TabFault xs size cA plA) := hfA
  have HFB : Hid (TabFault ys size cB plB) := hfB
  have HA : Hid (Strs1 w va xs) := hA
  have HB : Hid (Strs1 w vb ys) := hB
  have HL64 : Hid (∀ k (h : k < l.length), -9223372036854775808 ≤ l[k] ∧ l[k] ≤ 9223372036854775807) := hl64
  unfold maxLen at hll
  clear hl hsrc he hf hfA hfB hA hB hl64
  go_enter Tryd.func7, Tryd.ntmps7
  go_wp2_with fail
  refine (tabled_any a _ HE.out).mono ?_
  rintro e w1 ⟨rfl, hb1⟩
  by_cases h600 : 600 < l.length
  · have e600 : decide (600 < (l.length : Int)) = true := by simp; omega
    go_wp2
    go_ret
    exact ⟨rfl, hb1⟩
  have e600 : decide (600 < (l.length : Int)) = false := by simp; omega
  go_wp2_with fail
  refine (long_any va xs _ (HA.out.later hb1).strs hsA hlA).mono ?_
  rintro e w2 ⟨hloA, rfl⟩
  rcases hloA with rfl | ⟨rfl, h30A, h60A⟩
  · go_wp2_with fail
    refine (long_any vb ys _ (HB.out.later hb1).strs hsB hlB).mono ?_
    rintro e w2' ⟨hloB, rfl⟩
    rcases hloB with rfl | ⟨rfl, _, _⟩
    · go_wp2
      go_ret
      exact ⟨rfl, hb1⟩
    · go_wp2
      go_ret
      exact ⟨rfl, hb1⟩
  go_wp2_with fail
  refine (long_any vb ys _ (HB.out.later hb1).strs hsB hlB).mono ?_
  rintro e w2' ⟨hloB, rfl⟩
  rcases hloB with rfl | ⟨rfl, h30B, h60B⟩
  · go_wp2
    go_ret
    exact ⟨rfl, hb1⟩
  have hmA : xs.length < 1000000 := by omega
  have hmB : ys.length < 1000000 := by omega
  have HA6 : Hid (∀ k (h : k < xs.length), (xs[k]).size ≤ 1000000) := fun k h => Nat.le_trans (h60A k h) (by decide)
  have HA3 : Hid (∀ k (h : k < xs.length), (xs[k]).size ≤ 300) := fun k h => Nat.le_trans (h60A k h) (by decide)
  have HB6 : Hid (∀ k (h : k < ys.length), (ys[k]).size ≤ 1000000) := fun k h => Nat.le_trans (h60B k h) (by decide)
  have HB3 : Hid (∀ k (h : k < ys.length), (ys[k]).size ≤ 300) := fun k h => Nat.le_trans (h60B k h) (by decide)
  clear hsA hlA hsB hlB h60A h60B
  have hl1 : Ints1 w2' (.slice p l.length cp) l := HL.out.later hb1
  go_wp2_with (at_builtin; refine wpList_append_ints _ rfl _ _ rfl rfl _ l rfl hl1 (by omega) ?_)
  intro v1 w3 hown hg3
  have hb3 : Below w.heap.size w w3 := below_then hb1 (below_grown hg3 (fun k h => by cases h))
  have hcnt := counts_any a v1 l many w3 (HE.out.later hb3) (ints_of_owns hown) (by omega) c pl HF.out
  clear hown hg3 hl1 hb1
  go_wp2_with fail
  refine hcnt.mono ?_
  rintro e w4 ⟨hres, hb4⟩
  rcases hres with ⟨h, -⟩ | ⟨-, ev, rfl, hev⟩
  · omega
  have HEV : Hid (ErrIs a w4 c pl ev) := hev
  obtain ⟨t1, x1, rfl⟩ := errIs_pos hev (by omega)
  have hbC := below_then hb3 hb4
  clear hev hb3 hb4 hcnt
  go_wp2_with fail
  refine (fine_any _).mono ?_
  rintro e w5 ⟨rfl, hb5⟩
  have hba : Below w5.heap.size w5 (w5.alloc (.cells #[.int .i64 0, .int .i64 (-1)] 42)) := (Below.refl _ _).alloc (Nat.le_refl _) _
  have hbD := below_then (below_then hbC hb5) hba
  have hb45 := below_then hb5 hba
  have HEV5 : Hid (ErrIs a (w5.alloc (.cells #[.int .i64 0, .int .i64 (-1)] 42)) c pl (.iface t1 x1)) := HEV.out.later hb45
  have hfb : FBlk (w5.alloc (.cells #[.int .i64 0, .int .i64 (-1)] 42)) w5.heap.size 0 (-1) := FBlk.made _ _ _
  have hfw : w.heap.size ≤ w5.heap.size := (below_then hbC hb5).size
  clear hba hb45 hb5 hbC HEV
  obtain ⟨rfl, rfl⟩ := cnt_fault_out HF.out (by omega)
  have HFB0 : Hid (FBlk (w5.alloc (.cells #[.int .i64 0, .int .i64 (-1)] 42)) w5.heap.size 0 (-1)) := hfb
  clear hfb
  have d1 : decide (many < 0) = false := by simp; omega
  have d2 : decide (12 < many) = true := by simp; omega
  have el : decide ((0 : Int) < (l.length : Int)) = true := decide_eq_true (by omega)
  go_wp2_with fail
  refine (bare_any _ _).mono ?_
  rintro e w6 ⟨rfl, hb6⟩
  have hf6 := HFB0.out.later hb6
  have k0 := hf6.c0
  have k1 := hf6.c1
  have kf0 := hf6.frozen 0
  have kf1 := hf6.frozen 1
  have hb6' := below_then hbD hb6
  have hbL : Below w.heap.size w ((w6.setCell ⟨w5.heap.size, 0, none⟩ (.int .i64 2)).setCell ⟨w5.heap.size, 1, none⟩ (.int .i64 (-1))) := (hb6'.setCell hfw _).setCell hfw _
  have HEVL : Hid (ErrIs a ((w6.setCell ⟨w5.heap.size, 0, none⟩ (.int .i64 2)).setCell ⟨w5.heap.size, 1, none⟩ (.int .i64 (-1))) 2 (-1) (.iface t1 x1)) := (HEV5.out.later hb6).kept2 hf6 _ _
  clear hb6 hbD hf6
  go_wp2_with fail
  refine wp_loop_rounds 1 ?_
  rw [rounds_succ]
  go_wp2_with fail
  refine (faulted_is (HE.out.later hbL) HEVL.out).mono ?_
  rintro e wf ⟨rfl, hbf⟩
  have hbP := below_then hbL hbf
  go_wp2_with fail
  refine (ownTexts_any va xs _ (HA.out.later hbP) hmA).mono ?_
  rintro e wq1 ⟨va', rfl, hva', hbq1⟩
  have hbP1 := below_then hbP hbq1
  go_wp2_with fail
  refine (ownTexts_any vb ys _ (HB.out.later hbP1) hmB).mono ?_
  rintro e wq2 ⟨vb', rfl, hvb', hbq2⟩
  have hbQ := below_then hbP1 hbq2
  have hva2 := hva'.later hbq2
  clear hbq1 hbq2 hva'
  go_wp2_with fail
  refine (moves_bad1 a va' vb' xs size _ cA plA (HE.out.later hbQ) hva2 HFA.out hcA hn HA6.out hmA).mono ?_
  rintro e wm ⟨evm, rfl, hevm, hbm⟩
  have HEVM : Hid (ErrIs a wm cA plA evm) := hevm
  obtain ⟨tm, xm, rfl⟩ := errIs_pos hevm hcA
  have hbM := below_then hbQ hbm
  clear hevm hbm hva2 hvb'
  go_wp2_with fail
  refine (tableFault_any va xs size _ cA plA (HA.out.later hbM) HFA.out hn HA6.out hmA).mono ?_
  rintro e wg ⟨rfl, hbg⟩
  have hbga : Below wg.heap.size wg (wg.alloc (.cells #[.int .i64 cA, .int .i64 plA] 42)) := (Below.refl _ _).alloc (Nat.le_refl _) _
  have hbG := below_then (below_then hbM hbg) hbga
  have HEVG : Hid (ErrIs a (wg.alloc (.cells #[.int .i64 cA, .int .i64 plA] 42)) cA plA (.iface tm xm)) := (HEVM.out.later hbg).later hbga
  have hcA0 : ((cA : Int) == 0) = false := by rw [beq_eq_false_iff_ne]; omega
  have hcAp : decide (0 < (cA : Int)) = true := by simp; omega
  clear hbg hbga
  go_wp2_with fail
  refine (faulted_is (HE.out.later hbG) HEVG.out).mono ?_
  rintro e wz ⟨rfl, hbz⟩
  go_wp2
  go_ret
  exact ⟨rfl, below_then hbG hbz⟩

set_option maxRecDepth 100000 in
set_option maxHeartbeats 8000000 in
theorem tc_op1b2 (a : Nat → Addr) (lv va vb : Value) (l : List Int) (xs ys : List ByteArray) (many size : Int) (w : World) (he : Errs a w) (hl : Ints1 w lv l) (hA : Strs1 w va xs) (hB : Strs1 w vb ys)
    (hsA : ∀ k (h : k < xs.length), (xs[k]).size ≤ maxLen) (hlA : xs.length ≤ maxLen) (hsB : ∀ k (h : k < ys.length), (ys[k]).size ≤ maxLen) (hlB : ys.length ≤ maxLen) (hll : l.length ≤ maxLen) (hl64 : ∀ k (h : k < l.length), -9223372036854775808 ≤ l[k] ∧ l[k] ≤ 9223372036854775807)
    (hmany : -9223372036854775808 ≤ many ∧ many ≤ 9223372036854775807) (hn : -9223372036854775808 ≤ size ∧ size ≤ 9223372036854775807) (c : Nat) (pl : Int) (hf : CntFault l many c pl)
    (cA : Nat) (plA : Int) (hfA : TabFault xs size cA plA) (cB : Nat) (plB : Int) (hfB : TabFault ys size cB plB) (hc : c = 2) (hout : 12 < many) (hne : 0 < l.length) (hcA : cA = 0) (hcB : cB ≠ 0) :
    Calls Tryd.prog 7 #[lv, .int .i64 many, va, vb, .int .i64 size] w fun e w' => e = .returned (.bool true) ∧ Below w.heap.size w w' := by
  have HL : Hid (Ints1 w lv l) := hl
  obtain ⟨p, cp, rfl, hsrc⟩ := hl.src
  have HSRC : Hid (0 < l.length → ∃ b o, p = some ⟨b, o, none⟩ ∧ ∀ k (h : k < l.length), w.cell? ⟨b, o + k, none⟩ = some (.int .i64 l[k])) := hsrc
  have HE : Hid (Errs a w) := he
  have HF : Hid (CntFault l many c pl) := hf
  have HFA : Hid (TabFault xs size cA plA) := hfA
  have HFB : Hid (TabFault ys size cB plB) := hfB
  have HA : Hid (Strs1 w va xs) := hA
  have HB : Hid (Strs1 w vb ys) := hB
  have HL64 : Hid (∀ k (h : k < l.length), -9223372036854775808 ≤ l[k] ∧ l[k] ≤ 9223372036854775807) := hl64
  unfold maxLen at hll
  clear hl hsrc he hf hfA hfB hA hB hl64
  go_enter Tryd.func7, Tryd.ntmps7
  go_wp2_with fail
  refine (tabled_any a _ HE.out).mono ?_
  rintro e w1 ⟨rfl, hb1⟩
  by_cases h600 : 600 < l.length
  · have e600 : decide (600 < (l.length : Int)) = true := by simp; omega
    go_wp2
    go_ret
    exact ⟨rfl, hb1⟩
  have e600 : decide (600 < (l.length : Int)) = false := by simp; omega
  go_wp2_with fail
  refine (long_any va xs _ (HA.out.later hb1).strs hsA hlA).mono ?_
  rintro e w2 ⟨hloA, rfl⟩
  rcases hloA with rfl | ⟨rfl, h30A, h60A⟩
  · go_wp2_with fail
    refine (long_any vb ys _ (HB.out.later hb1).strs hsB hlB).mono ?_
    rintro e w2' ⟨hloB, rfl⟩
    rcases hloB with rfl | ⟨rfl, _, _⟩
    · go_wp2
      go_ret
      exact ⟨rfl, hb1⟩
    · go_wp2
      go_ret
      exact ⟨rfl, hb1⟩
  go_wp2_with fail
  refine (long_any vb ys _ (HB.out.later hb1).strs hsB hlB).mono ?_
  rintro e w2' ⟨hloB, rfl⟩
  rcases hloB with rfl | ⟨rfl, h30B, h60B⟩
  · go_wp2
    go_ret
    exact ⟨rfl, hb1⟩
  have hmA : xs.length < 1000000 := by omega
  have hmB : ys.length < 1000000 := by omega
  have HA6 : Hid (∀ k (h : k < xs.length), (xs[k]).size ≤ 1000000) := fun k h => Nat.le_trans (h60A k h) (by decide)
  have HA3 : Hid (∀ k (h : k < xs.length), (xs[k]).size ≤ 300) := fun k h => Nat.le_trans (h60A k h) (by decide)
  have HB6 : Hid (∀ k (h : k < ys.length), (ys[k]).size ≤ 1000000) := fun k h => Nat.le_trans (h60B k h) (by decide)
  have HB3 : Hid (∀ k (h : k < ys.length), (ys[k]).size ≤ 300) := fun k h => Nat.le_trans (h60B k h) (by decide)
  clear hsA hlA hsB hlB h60A h60B
  have hl1 : Ints1 w2' (.slice p l.length cp) l := HL.out.later hb1
  go_wp2_with (at_builtin; refine wpList_append_ints _ rfl _ _ rfl rfl _ l rfl hl1 (by omega) ?_)
  intro v1 w3 hown hg3
  have hb3 : Below w.heap.size w w3 := below_then hb1 (below_grown hg3 (fun k h => by cases h))
  have hcnt := counts_any a v1 l many w3 (HE.out.later hb3) (ints_of_owns hown) (by omega) c pl HF.out
  clear hown hg3 hl1 hb1
  go_wp2_with fail
  refine hcnt.mono ?_
  rintro e w4 ⟨hres, hb4⟩
  subst hcA
  obtain ⟨rfl, h0A, hifA, mA, rfl, hpA, h22A, h5A⟩ := tabFault_zero HFA.out
  rcases hres with ⟨h, -⟩ | ⟨-, ev, rfl, hev⟩
  · omega
  have HEV : Hid (ErrIs a w4 c pl ev) := hev
  obtain ⟨t1, x1, rfl⟩ := errIs_pos hev (by omega)
  have hbC := below_then hb3 hb4
  clear hev hb3 hb4 hcnt
  go_wp2_with fail
  refine (fine_any _).mono ?_
  rintro e w5 ⟨rfl, hb5⟩
  have hba : Below w5.heap.size w5 (w5.alloc (.cells #[.int .i64 0, .int .i64 (-1)] 42)) := (Below.refl _ _).alloc (Nat.le_refl _) _
  have hbD := below_then (below_then hbC hb5) hba
  have hb45 := below_then hb5 hba
  have HEV5 : Hid (ErrIs a (w5.alloc (.cells #[.int .i64 0, .int .i64 (-1)] 42)) c pl (.iface t1 x1)) := HEV.out.later hb45
  have hfb : FBlk (w5.alloc (.cells #[.int .i64 0, .int .i64 (-1)] 42)) w5.heap.size 0 (-1) := FBlk.made _ _ _
  have hfw : w.heap.size ≤ w5.heap.size := (below_then hbC hb5).size
  clear hba hb45 hb5 hbC HEV
  obtain ⟨rfl, rfl⟩ := cnt_fault_out HF.out (by omega)
  have HFB0 : Hid (FBlk (w5.alloc (.cells #[.int .i64 0, .int .i64 (-1)] 42)) w5.heap.size 0 (-1)) := hfb
  clear hfb
  have d1 : decide (many < 0) = false := by simp; omega
  have d2 : decide (12 < many) = true := by simp; omega
  have el : decide ((0 : Int) < (l.length : Int)) = true := decide_eq_true (by omega)
  go_wp2_with fail
  refine (bare_any _ _).mono ?_
  rintro e w6 ⟨rfl, hb6⟩
  have hf6 := HFB0.out.later hb6
  have k0 := hf6.c0
  have k1 := hf6.c1
  have kf0 := hf6.frozen 0
  have kf1 := hf6.frozen 1
  have hb6' := below_then hbD hb6
  have hbL : Below w.heap.size w ((w6.setCell ⟨w5.heap.size, 0, none⟩ (.int .i64 2)).setCell ⟨w5.heap.size, 1, none⟩ (.int .i64 (-1))) := (hb6'.setCell hfw _).setCell hfw _
  have HEVL : Hid (ErrIs a ((w6.setCell ⟨w5.heap.size, 0, none⟩ (.int .i64 2)).setCell ⟨w5.heap.size, 1, none⟩ (.int .i64 (-1))) 2 (-1) (.iface t1 x1)) := (HEV5.out.later hb6).kept2 hf6 _ _
  clear hb6 hbD hf6
  go_wp2_with fail
  refine wp_loop_rounds 1 ?_
  rw [rounds_succ]
  go_wp2_with fail
  refine (faulted_is (HE.out.later hbL) HEVL.out).mono ?_
  rintro e wf ⟨rfl, hbf⟩
  have hbP := below_then hbL hbf
  go_wp2_with fail
  refine (ownTexts_any va xs _ (HA.out.later hbP) hmA).mono ?_
  rintro e wq1 ⟨va', rfl, hva', hbq1⟩
  have hbP1 := below_then hbP hbq1
  go_wp2_with fail
  refine (ownTexts_any vb ys _ (HB.out.later hbP1) hmB).mono ?_
  rintro e wq2 ⟨vb', rfl, hvb', hbq2⟩
  have hbQ := below_then hbP1 hbq2
  have hva2 := hva'.later hbq2
  clear hbq1 hbq2 hva'
  go_wp2_with fail
  refine (moves_bad2 a va' vb' xs ys mA _ cB plB (HE.out.later hbQ) hva2 hvb' h0A hifA hpA h5A HA3.out HFB.out hcB HB6.out hmB).mono ?_
  rintro e wm ⟨evm, rfl, hevm, hbm⟩
  have HEVM : Hid (ErrIs a wm cB plB evm) := hevm
  obtain ⟨tm, xm, rfl⟩ := errIs_pos hevm hcB
  have hbM := below_then hbQ hbm
  clear hevm hbm hva2 hvb'
  go_wp2_with fail
  refine (tableFault_any va xs (mA : Int) _ 0 (-1) (HA.out.later hbM) HFA.out hn HA6.out hmA).mono ?_
  rintro e wg ⟨rfl, hbg⟩
  have hbga : Below wg.heap.size wg (wg.alloc (.cells #[.int .i64 0, .int .i64 (-1)] 42)) := (Below.refl _ _).alloc (Nat.le_refl _) _
  have hbG := below_then (below_then hbM hbg) hbga
  have hfg : FBlk (wg.alloc (.cells #[.int .i64 0, .int .i64 (-1)] 42)) wg.heap.size 0 (-1) := FBlk.made _ _ _
  have hgw : w.heap.size ≤ wg.heap.size := (below_then hbM hbg).size
  have HEVG : Hid (ErrIs a (wg.alloc (.cells #[.int .i64 0, .int .i64 (-1)] 42)) cB plB (.iface tm xm)) := (HEVM.out.later hbg).later hbga
  clear hbg hbga
  go_wp2_with fail
  refine (tableFault_any vb ys (mA : Int) _ cB plB (HB.out.later hbG) HFB.out hn HB6.out hmB).mono ?_
  rintro e wh ⟨rfl, hbh⟩
  have hfh := hfg.later hbh
  have k0 := hfh.c0
  have k1 := hfh.c1
  have kf0 := hfh.frozen 0
  have kf1 := hfh.frozen 1
  have hbH := below_then hbG hbh
  have HFH : Hid (FBlk wh wg.heap.size 0 (-1)) := hfh
  clear hfg hfh
  have hcBp : decide (0 < (cB : Int)) = true := by simp; omega
  have HEVH : Hid (ErrIs a ((wh.setCell ⟨wg.heap.size, 0, none⟩ (.int .i64 cB)).setCell ⟨wg.heap.size, 1, none⟩ (.int .i64 plB)) cB plB (.iface tm xm)) := (HEVG.out.later hbh).kept2 HFH.out _ _
  have hbI : Below w.heap.size w ((wh.setCell ⟨wg.heap.size, 0, none⟩ (.int .i64 cB)).setCell ⟨wg.heap.size, 1, none⟩ (.int .i64 plB)) := (hbH.setCell hgw _).setCell hgw _
  go_wp2_with fail
  refine (faulted_is (HE.out.later hbI) HEVH.out).mono ?_
  rintro e wz ⟨rfl, hbz⟩
  go_wp2
  go_ret
  exact ⟨rfl, below_then hbI hbz⟩

set_option maxRecDepth 100000 in
set_option maxHeartbeats 8000000 in
theorem tc_op1g (a : Nat → Addr) (lv va vb : Value) (l : List Int) (xs ys : List ByteArray) (many size : Int) (w : World) (he : Errs a w) (hl : Ints1 w lv l) (hA : Strs1 w va xs) (hB : Strs1 w vb ys)
    (hsA : ∀ k (h : k < xs.length), (xs[k]).size ≤ maxLen) (hlA : xs.length ≤ maxLen) (hsB : ∀ k (h : k < ys.length), (ys[k]).size ≤ maxLen) (hlB : ys.length ≤ maxLen) (hll : l.length ≤ maxLen) (hl64 : ∀ k (h : k < l.length), -9223372036854775808 ≤ l[k] ∧ l[k] ≤ 9223372036854775807)
    (hmany : -9223372036854775808 ≤ many ∧ many ≤ 9223372036854775807) (hn : -9223372036854775808 ≤ size ∧ size ≤ 9223372036854775807) (c : Nat) (pl : Int) (hf : CntFault l many c pl)
    (cA : Nat) (plA : Int) (hfA : TabFault xs size cA plA) (cB : Nat) (plB : Int) (hfB : TabFault ys size cB plB) (hc : c = 2) (hout : 12 < many) (hne : 0 < l.length) (hcA : cA = 0) (hcB : cB = 0) :
    Calls Tryd.prog 7 #[lv, .int .i64 many, va, vb, .int .i64 size] w fun e w' => e = .returned (.bool true) ∧ Below w.heap.size w w' := by
  have HL : Hid (Ints1 w lv l) := hl
  obtain ⟨p, cp, rfl, hsrc⟩ := hl.src
  have HSRC : Hid (0 < l.length → ∃ b o, p = some ⟨b, o, none⟩ ∧ ∀ k (h : k < l.length), w.cell? ⟨b, o + k, none⟩ = some (.int .i64 l[k])) := hsrc
  have HE : Hid (Errs a w) := he
  have HF : Hid (CntFault l many c pl) := hf
  have HFA : Hid (TabFault xs size cA plA) := hfA
  have HFB : Hid (TabFault ys size cB plB) := hfB
  have HA : Hid (Strs1 w va xs) := hA
  have HB : Hid (Strs1 w vb ys) := hB
  have HL64 : Hid (∀ k (h : k < l.length), -9223372036854775808 ≤ l[k] ∧ l[k] ≤ 9223372036854775807) := hl64
  unfold maxLen at hll
  clear hl hsrc he hf hfA hfB hA hB hl64
  go_enter Tryd.func7, Tryd.ntmps7
  go_wp2_with fail
  refine (tabled_any a _ HE.out).mono ?_
  rintro e w1 ⟨rfl, hb1⟩
  by_cases h600 : 600 < l.length
  · have e600 : decide (600 < (l.length : Int)) = true := by simp; omega
    go_wp2
    go_ret
    exact ⟨rfl, hb1⟩
  have e600 : decide (600 < (l.length : Int)) = false := by simp; omega
  go_wp2_with fail
  refine (long_any va xs _ (HA.out.later hb1).strs hsA hlA).mono ?_
  rintro e w2 ⟨hloA, rfl⟩
  rcases hloA with rfl | ⟨rfl, h30A, h60A⟩
  · go_wp2_with fail
    refine (long_any vb ys _ (HB.out.later hb1).strs hsB hlB).mono ?_
    rintro e w2' ⟨hloB, rfl⟩
    rcases hloB with rfl | ⟨rfl, _, _⟩
    · go_wp2
      go_ret
      exact ⟨rfl, hb1⟩
    · go_wp2
      go_ret
      exact ⟨rfl, hb1⟩
  go_wp2_with fail
  refine (long_any vb ys _ (HB.out.later hb1).strs hsB hlB).mono ?_
  rintro e w2' ⟨hloB, rfl⟩
  rcases hloB with rfl | ⟨rfl, h30B, h60B⟩
  · go_wp2
    go_ret
    exact ⟨rfl, hb1⟩
  have hmA : xs.length < 1000000 := by omega
  have hmB : ys.length < 1000000 := by omega
  have HA6 : Hid (∀ k (h : k < xs.length), (xs[k]).size ≤ 1000000) := fun k h => Nat.le_trans (h60A k h) (by decide)
  have HA3 : Hid (∀ k (h : k < xs.length), (xs[k]).size ≤ 300) := fun k h => Nat.le_trans (h60A k h) (by decide)
  have HB6 : Hid (∀ k (h : k < ys.length), (ys[k]).size ≤ 1000000) := fun k h => Nat.le_trans (h60B k h) (by decide)
  have HB3 : Hid (∀ k (h : k < ys.length), (ys[k]).size ≤ 300) := fun k h => Nat.le_trans (h60B k h) (by decide)
  clear hsA hlA hsB hlB h60A h60B
  have hl1 : Ints1 w2' (.slice p l.length cp) l := HL.out.later hb1
  go_wp2_with (at_builtin; refine wpList_append_ints _ rfl _ _ rfl rfl _ l rfl hl1 (by omega) ?_)
  intro v1 w3 hown hg3
  have hb3 : Below w.heap.size w w3 := below_then hb1 (below_grown hg3 (fun k h => by cases h))
  have hcnt := counts_any a v1 l many w3 (HE.out.later hb3) (ints_of_owns hown) (by omega) c pl HF.out
  clear hown hg3 hl1 hb1
  go_wp2_with fail
  refine hcnt.mono ?_
  rintro e w4 ⟨hres, hb4⟩
  subst hcA
  subst hcB
  obtain ⟨rfl, h0A, hifA, mA, rfl, hpA, h22A, h5A⟩ := tabFault_zero HFA.out
  obtain ⟨rfl, h0B, hifB, -⟩ := tabFault_zero HFB.out
  obtain ⟨_, h12A, _⟩ := fault_zero hifA
  obtain ⟨_, h12B, _⟩ := fault_zero hifB
  rcases hres with ⟨h, -⟩ | ⟨-, ev, rfl, hev⟩
  · omega
  have HEV : Hid (ErrIs a w4 c pl ev) := hev
  obtain ⟨t1, x1, rfl⟩ := errIs_pos hev (by omega)
  have hbC := below_then hb3 hb4
  clear hev hb3 hb4 hcnt
  go_wp2_with fail
  refine (fine_any _).mono ?_
  rintro e w5 ⟨rfl, hb5⟩
  have hba : Below w5.heap.size w5 (w5.alloc (.cells #[.int .i64 0, .int .i64 (-1)] 42)) := (Below.refl _ _).alloc (Nat.le_refl _) _
  have hbD := below_then (below_then hbC hb5) hba
  have hb45 := below_then hb5 hba
  have HEV5 : Hid (ErrIs a (w5.alloc (.cells #[.int .i64 0, .int .i64 (-1)] 42)) c pl (.iface t1 x1)) := HEV.out.later hb45
  have hfb : FBlk (w5.alloc (.cells #[.int .i64 0, .int .i64 (-1)] 42)) w5.heap.size 0 (-1) := FBlk.made _ _ _
  have hfw : w.heap.size ≤ w5.heap.size := (below_then hbC hb5).size
  clear hba hb45 hb5 hbC HEV
  obtain ⟨rfl, rfl⟩ := cnt_fault_out HF.out (by omega)
  have HFB0 : Hid (FBlk (w5.alloc (.cells #[.int .i64 0, .int .i64 (-1)] 42)) w5.heap.size 0 (-1)) := hfb
  clear hfb
  have d1 : decide (many < 0) = false := by simp; omega
  have d2 : decide (12 < many) = true := by simp; omega
  have el : decide ((0 : Int) < (l.length : Int)) = true := decide_eq_true (by omega)
  go_wp2_with fail
  refine (bare_any _ _).mono ?_
  rintro e w6 ⟨rfl, hb6⟩
  have hf6 := HFB0.out.later hb6
  have k0 := hf6.c0
  have k1 := hf6.c1
  have kf0 := hf6.frozen 0
  have kf1 := hf6.frozen 1
  have hb6' := below_then hbD hb6
  have hbL : Below w.heap.size w ((w6.setCell ⟨w5.heap.size, 0, none⟩ (.int .i64 2)).setCell ⟨w5.heap.size, 1, none⟩ (.int .i64 (-1))) := (hb6'.setCell hfw _).setCell hfw _
  have HEVL : Hid (ErrIs a ((w6.setCell ⟨w5.heap.size, 0, none⟩ (.int .i64 2)).setCell ⟨w5.heap.size, 1, none⟩ (.int .i64 (-1))) 2 (-1) (.iface t1 x1)) := (HEV5.out.later hb6).kept2 hf6 _ _
  clear hb6 hbD hf6
  go_wp2_with fail
  refine wp_loop_rounds 1 ?_
  rw [rounds_succ]
  go_wp2_with fail
  refine (faulted_is (HE.out.later hbL) HEVL.out).mono ?_
  rintro e wf ⟨rfl, hbf⟩
  have hbP := below_then hbL hbf
  go_wp2_with fail
  refine (ownTexts_any va xs _ (HA.out.later hbP) hmA).mono ?_
  rintro e wq1 ⟨va', rfl, hva', hbq1⟩
  have hbP1 := below_then hbP hbq1
  go_wp2_with fail
  refine (ownTexts_any vb ys _ (HB.out.later hbP1) hmB).mono ?_
  rintro e wq2 ⟨vb', rfl, hvb', hbq2⟩
  have hbQ := below_then hbP1 hbq2
  have hva2 := hva'.later hbq2
  clear hbq1 hbq2 hva'
  go_wp2_with fail
  refine (moves_good a va' vb' xs ys mA _ (HE.out.later hbQ) hva2 hvb' h0A h0B hifA hifB hpA h5A HA3.out HB3.out).mono ?_
  rintro e wm ⟨rfl, hbm⟩
  have hbM := below_then hbQ hbm
  clear hbm hva2 hvb'
  go_wp2_with fail
  refine (tableFault_any va xs (mA : Int) _ 0 (-1) (HA.out.later hbM) HFA.out hn HA6.out hmA).mono ?_
  rintro e wg ⟨rfl, hbg⟩
  have hbga : Below wg.heap.size wg (wg.alloc (.cells #[.int .i64 0, .int .i64 (-1)] 42)) := (Below.refl _ _).alloc (Nat.le_refl _) _
  have hbG := below_then (below_then hbM hbg) hbga
  have hfg : FBlk (wg.alloc (.cells #[.int .i64 0, .int .i64 (-1)] 42)) wg.heap.size 0 (-1) := FBlk.made _ _ _
  have hgw : w.heap.size ≤ wg.heap.size := (below_then hbM hbg).size
  clear hbg hbga
  go_wp2_with fail
  refine (tableFault_any vb ys (mA : Int) _ 0 (-1) (HB.out.later hbG) HFB.out hn HB6.out hmB).mono ?_
  rintro e wh ⟨rfl, hbh⟩
  have hfh := hfg.later hbh
  have k0 := hfh.c0
  have k1 := hfh.c1
  have kf0 := hfh.frozen 0
  have kf1 := hfh.frozen 1
  have hbH := below_then hbG hbh
  have HFH : Hid (FBlk wh wg.heap.size 0 (-1)) := hfh
  clear hfg hfh
  have hbI : Below w.heap.size w ((wh.setCell ⟨wg.heap.size, 0, none⟩ (.int .i64 0)).setCell ⟨wg.heap.size, 1, none⟩ (.int .i64 (-1))) := (hbH.setCell hgw _).setCell hgw _
  go_wp2_with fail
  refine (tableOf_val va xs mA _ (HA.out.later hbI) h0A h12A HA3.out hpA h5A).mono ?_
  rintro e wt ⟨g1, rfl, hg1, hr1, hbt⟩
  have hbJ := below_then hbI hbt
  go_wp2_with fail
  refine (tableOf_val vb ys mA _ (HB.out.later hbJ) h0B h12B HB3.out hpA h5A).mono ?_
  rintro e wu ⟨g2, rfl, hg2, hr2, hbu⟩
  have HS1 : Hid (∀ W, Below wu.heap.size wu W → ∀ i, i < mA → ∃ j, ∃ hj : j < xs.length, W.cell? ⟨g1, i, none⟩ = some (.int .i64 (j : Nat)) ∧ xs[j] = owner xs mA i) := fun W hW i hi => slot_of hpA h0A ((hr1.later hbu).later hW) hi
  have HS2 : Hid (∀ W, Below wu.heap.size wu W → ∀ i, i < mA → ∃ j, ∃ hj : j < ys.length, W.cell? ⟨g2, i, none⟩ = some (.int .i64 (j : Nat)) ∧ ys[j] = owner ys mA i) := fun W hW i hi => slot_of hpA h0B (hr2.later hW) hi
  have hbU := below_then hbJ hbu
  have HBU : Hid (Below w.heap.size w wu) := hbU
  obtain ⟨b1, o1, c1, rfl, hx⟩ := strs1_pos HA.out h0A
  obtain ⟨b2, o2, c2, rfl, hy⟩ := strs1_pos HB.out h0B
  have HX : Hid (∀ k (h : k < xs.length), w.cell? ⟨b1, o1 + k, none⟩ = some (.string xs[k])) := hx
  have HY : Hid (∀ k (h : k < ys.length), w.cell? ⟨b2, o2 + k, none⟩ = some (.string ys[k])) := hy
  clear hr1 hr2 hbt hbu hbU hx hy hbI hbJ k0 k1 kf0 kf1
  go_wp2_with fail
  go_loopw [1, 23] (fun vm t W => Below wu.heap.size wu W ∧ ∃ i : Nat, i ≤ mA ∧ t = .int .i64 i ∧ vm = .int .i64 (mv xs ys mA i : Nat)) (fun _ t _ => mA - (intOf t).toNat)
  case atStart => exact ⟨Below.refl _ _, 0, Nat.zero_le _, rfl, rfl⟩
  case round =>
    obtain ⟨hb, i, hi, rfl, rfl⟩ := hrel
    by_cases hlt : i < mA
    · obtain ⟨j1, hj1, c1', e1⟩ := HS1.out wr hb i hlt
      obtain ⟨j2, hj2, c2', e2⟩ := HS2.out wr hb i hlt
      have d1 := below_cell (below_then HBU.out hb) (HX.out j1 hj1)
      have d2 := below_cell (below_then HBU.out hb) (HY.out j2 hj2)
      have hii : (i : Int) < (mA : Int) := by omega
      have hj1i : (j1 : Int) < (xs.length : Int) := by omega
      have hj2i : (j2 : Int) < (ys.length : Int) := by omega
      have hmle := mv_le xs ys mA i
      have hd : decide ((i : Int) < (mA : Int)) = true := by simp; omega
      rw [e1] at d1
      rw [e2] at d2
      by_cases heq : owner xs mA i = owner ys mA i
      · have HM : Hid (mv xs ys mA (i + 1) = mv xs ys mA i) := mv_same heq
        have hne : ((owner xs mA i).toList != (owner ys mA i).toList) = false := by rw [heq]; simp
        have hne2 : ((owner xs mA i).toList == (owner ys mA i).toList) = true := bytes_same heq
        clear heq e1 e2
        generalize owner xs mA i = s1 at *
        generalize owner ys mA i = s2 at *
        generalize mv xs ys mA i = q at *
        go_wp2_with fail
        go_quiet (fail)
        go_wp2_with fail
        go_roundw
        case rel => exact ⟨below_drewN hb nq, i + 1, by omega, by go_num, by rw [HM.out]⟩
        case measure => simp [intOf]; omega
      · have HM : Hid (mv xs ys mA (i + 1) = mv xs ys mA i + 1) := mv_other heq
        have hne2 : ((owner xs mA i).toList == (owner ys mA i).toList) = false := bytes_parts heq
        have hne : ((owner xs mA i).toList != (owner ys mA i).toList) = true := by unfold bne; rw [hne2]; rfl
        clear heq e1 e2
        generalize owner xs mA i = s1 at *
        generalize owner ys mA i = s2 at *
        generalize mv xs ys mA i = q at *
        go_wp2_with fail
        go_quiet (fail)
        go_wp2_with fail
        go_roundw
        case rel => exact ⟨below_drewN hb nq, i + 1, by omega, by go_num, by rw [HM.out]; rfl⟩
        case measure => simp [intOf]; omega
    · have hd : decide ((i : Int) < (mA : Int)) = false := by simp; omega
      have hie : i = mA := by omega
      subst hie
      go_wp2
      go_ret
      exact ⟨by simp, below_then HBU.out hb⟩

end Go.Proofs.YtedbhahkldfmiaaDoor
