/- TableMakes: the walk, one of four ways. -/
import Derived.Test.YtedbhahkldfmiaaDoorTMBase
namespace Go.Proofs.YtedbhahkldfmiaaDoor
open Go.RowKit

set_option maxRecDepth 100000 in
set_option maxHeartbeats 4000000 in
theorem tm_gg (a : Nat → Addr) (lv : Value) (xs : List ByteArray) (size : Int) (s : ByteArray) (w : World) (he : Errs a w) (hl : Strs1 w lv xs) (hsz : ∀ k (h : k < xs.length), (xs[k]).size ≤ maxLen) (hlen : xs.length ≤ maxLen) (hs : s.size ≤ maxLen) (hn : -9223372036854775808 ≤ size ∧ size ≤ 9223372036854775807) (c : Nat) (pl : Int) (e0 er : Nat) (hf : TabFault xs size c pl) (hse : Lh.SizeIs size e0) (hre : RowIs s e0 er) (hc : c = 0) (her : er = 0) :
    Calls Tryd.prog 6 #[lv, .int .i64 size, .string s] w fun e w' => e = .returned (.bool true) ∧ Below w.heap.size w w' := by
  unfold maxLen at hs
  go_enter Tryd.func6, Tryd.ntmps6
  go_wp2_with fail
  refine (tabled_any a _ he).mono ?_
  rintro e w1 ⟨rfl, hb1⟩
  go_wp2_with fail
  refine (long_any lv xs _ (hl.later hb1).strs hsz hlen).mono ?_
  rintro e w2 ⟨hlo, rfl⟩
  rcases hlo with rfl | ⟨rfl, h30, h60⟩
  · go_wp2
    go_ret
    exact ⟨rfl, hb1⟩
  by_cases h300 : 60 < s.size
  · have e300 : decide (60 < (s.size : Int)) = true := by simp; omega
    go_wp2
    go_ret
    exact ⟨rfl, hb1⟩
  have e300 : decide (60 < (s.size : Int)) = false := by simp; omega
  have hm : xs.length < 1000000 := by omega
  have HS6 : Hid (∀ k (h : k < xs.length), (xs[k]).size ≤ 1000000) := fun k h => Nat.le_trans (h60 k h) (by decide)
  have HS3 : Hid (∀ k (h : k < xs.length), (xs[k]).size ≤ 300) := fun k h => Nat.le_trans (h60 k h) (by decide)
  have hs3 : s.size ≤ 300 := by omega
  have hs6 : s.size ≤ 1000000 := by omega
  clear hsz hlen h60
  have HF : Hid (TabFault xs size c pl) := hf
  have HSE : Hid (Lh.SizeIs size e0) := hse
  have HRE : Hid (RowIs s e0 er) := hre
  have HE : Hid (Errs a w) := he
  have HL : Hid (Strs1 w lv xs) := hl
  clear hf hse hre he hl
  go_wp2_with fail
  refine (ownTexts_any lv xs _ (HL.out.later hb1) hm).mono ?_
  rintro e w3 ⟨v1, rfl, hv1, hb3⟩
  have hbA := below_then hb1 hb3
  clear hb1 hb3
  go_wp2_with fail
  subst hc
  obtain ⟨rfl, h0, hif, m, rfl, hp, h22', h5⟩ := tabFault_zero HF.out
  obtain ⟨_, h12, _⟩ := fault_zero hif
  subst her
  obtain ⟨hnm, rfl⟩ := rowIs_zero HRE.out
  obtain ⟨m2, hm2, hp2, h22, h52⟩ := size_zero HSE.out
  obtain rfl : m = m2 := by omega
  refine (make_good a v1 xs m _ (HE.out.later hbA) hv1 h0 hif HS3.out hp h5).mono ?_
  rintro e w4 ⟨g1, rfl, hg1, hr1, hb4⟩
  have HR1 : Hid (IntRow w4 g1 (Lh.tab xs m m)) := hr1
  have hbB := below_then hbA hb4
  clear hr1 hv1 hbA hb4
  go_wp2_with fail
  refine (row_good a s m _ (HE.out.later hbB) hs3 hnm hp2 h52).mono ?_
  rintro e w5 ⟨g2, rfl, hg2, hr2, hb5⟩
  have HR2 : Hid (IntRow w5 g2 (Lh.rowL s m)) := hr2
  clear hr2
  have hbC := below_then hbB hb5
  go_wp2_with fail
  refine (tableFault_any lv xs (m : Int) _ 0 (-1) (HL.out.later hbC) HF.out hn HS6.out hm).mono ?_
  rintro e w6 ⟨rfl, hb6⟩
  have hba : Below w6.heap.size w6 (w6.alloc (.cells #[.int .i64 0, .int .i64 (-1)] 42)) := (Below.refl _ _).alloc (Nat.le_refl _) _
  have hbD := below_then (below_then hbC hb6) hba
  have hb56 := below_then hb6 hba
  obtain ⟨bq, oq, cq, hlv, hxq⟩ := strs1_pos (HL.out.later hbD) h0
  have hcap : xs.length ≤ cq := by
    rcases HL.out with ⟨h1, _⟩ | ⟨b', o', c', h1, h2, _⟩
    · rw [h1] at h0; cases h0
    · rw [hlv] at h1
      simp only [Value.slice.injEq] at h1
      omega
  subst hlv
  have htab := tableOf_any bq oq cq xs m _ hxq h0 h12 HS3.out hcap hp h5
  clear hxq
  go_wp2_with fail
  refine htab.mono ?_
  rintro e w7 ⟨g3, rfl, hg3, hr3, hb7⟩
  go_wp2_with fail
  refine (sameInts_any _ _ (Lh.tab xs m m) (Lh.tab xs m m) _ ?_ ?_ (by rw [Lh.tab_length]; omega) (by rw [Lh.tab_length]; omega)).mono ?_
  · have h1 := (((HR1.out.later hb5).later hb56).later hb7).ints m
    rw [Lh.tab_length] at h1
    exact h1
  · have h1 := hr3.ints m
    rw [Lh.tab_length] at h1
    exact h1
  rintro e w8 ⟨rfl, hb8⟩
  rw [decide_eq_true rfl]
  have hbZ := below_then (below_then hbD hb7) hb8
  have HRZ : Hid (IntRow w8 g2 (Lh.rowL s m)) := ((HR2.out.later hb56).later hb7).later hb8
  clear htab hr3 hbB hbC hbD hb5 hb6 hb7 hb8 hb56 hba
  go_wp2_with fail
  refine (sizeError_any (m : Int) 0 _ hn HSE.out).mono ?_
  rintro e wS ⟨rfl, rfl⟩
  go_wp2_with fail
  refine (refName_any s _ hs6).mono ?_
  rintro e wN ⟨rfl, rfl⟩
  rw [hnm]
  go_wp2_with fail
  refine (rowOf_any s m _ hs3 h22 h52).mono ?_
  rintro e wR ⟨vr, rfl, hvr, hbR⟩
  go_wp2_with fail
  refine (sameInts_any _ vr (Lh.rowL s m) (Lh.rowL s m) _ ?_ hvr (by rw [Lh.rowL_length]; omega) (by rw [Lh.rowL_length]; omega)).mono ?_
  · have h1 := (HRZ.out.later hbR).ints m
    rw [Lh.rowL_length] at h1
    exact h1
  rintro e wC ⟨rfl, hbC⟩
  rw [decide_eq_true rfl]
  go_wp2
  go_ret
  exact ⟨rfl, below_then (below_then hbZ hbR) hbC⟩
end Go.Proofs.YtedbhahkldfmiaaDoor
