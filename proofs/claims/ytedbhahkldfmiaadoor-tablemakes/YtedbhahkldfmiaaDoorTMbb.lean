/- TableMakes: the walk, one of four ways. -/
import Derived.Test.YtedbhahkldfmiaaDoorTMBase
namespace Go.Proofs.YtedbhahkldfmiaaDoor
open Go.RowKit

set_option maxRecDepth 100000 in
set_option maxHeartbeats 4000000 in
theorem tm_bb (a : Nat → Addr) (lv : Value) (xs : List ByteArray) (size : Int) (s : ByteArray) (w : World) (he : Errs a w) (hl : Strs1 w lv xs) (hsz : ∀ k (h : k < xs.length), (xs[k]).size ≤ maxLen) (hlen : xs.length ≤ maxLen) (hs : s.size ≤ maxLen) (hn : -9223372036854775808 ≤ size ∧ size ≤ 9223372036854775807) (c : Nat) (pl : Int) (e0 er : Nat) (hf : TabFault xs size c pl) (hse : Lh.SizeIs size e0) (hre : RowIs s e0 er) (hc : c ≠ 0) (her : er ≠ 0) :
    Calls Tryd.prog 6 #[lv, .int .i64 size, .string s] w fun e w' => e = .returned (.bool true) ∧ Below w.heap.size w w' := by
  unfold maxLen at hs
  go_enter Tryd.func6, Tryd.ntmps6
  go_wp2_with fail
  refine (tabled_any a _ he).mono ?_
  rintro e w1 ⟨rfl, hb1⟩
  go_wp2_with fail
  refine (long_any lv xs _ (hl.later hb1).strs hsz hlen).mono ?_
  rintro e w2 ⟨hlo, rfl⟩
  rcases hlo with rfl | ⟨rfl, h30, h60⟩
  · go_wp2
    go_ret
    exact ⟨rfl, hb1⟩
  by_cases h300 : 60 < s.size
  · have e300 : decide (60 < (s.size : Int)) = true := by simp; omega
    go_wp2
    go_ret
    exact ⟨rfl, hb1⟩
  have e300 : decide (60 < (s.size : Int)) = false := by simp; omega
  have hm : xs.length < 1000000 := by omega
  have HS6 : Hid (∀ k (h : k < xs.length), (xs[k]).size ≤ 1000000) := fun k h => Nat.le_trans (h60 k h) (by decide)
  have HS3 : Hid (∀ k (h : k < xs.length), (xs[k]).size ≤ 300) := fun k h => Nat.le_trans (h60 k h) (by decide)
  have hs3 : s.size ≤ 300 := by omega
  have hs6 : s.size ≤ 1000000 := by omega
  clear hsz hlen h60
  have HF : Hid (TabFault xs size c pl) := hf
  have HSE : Hid (Lh.SizeIs size e0) := hse
  have HRE : Hid (RowIs s e0 er) := hre
  have HE : Hid (Errs a w) := he
  have HL : Hid (Strs1 w lv xs) := hl
  clear hf hse hre he hl
  go_wp2_with fail
  refine (ownTexts_any lv xs _ (HL.out.later hb1) hm).mono ?_
  rintro e w3 ⟨v1, rfl, hv1, hb3⟩
  have hbA := below_then hb1 hb3
  clear hb1 hb3
  go_wp2_with fail
  refine (make_bad a v1 xs size _ c pl (HE.out.later hbA) hv1 HF.out hc hn HS6.out hm).mono ?_
  rintro e w4 ⟨ev1, rfl, hev1, hb4⟩
  have HEV1 : Hid (ErrIs a w4 c pl ev1) := hev1
  obtain ⟨t1, x1, rfl⟩ := errIs_pos hev1 hc
  have hbB := below_then hbA hb4
  clear hev1 hv1 hbA hb4
  go_wp2_with fail
  refine (row_bad a s size _ e0 er (HE.out.later hbB) hs3 hn HSE.out HRE.out her).mono ?_
  rintro e w5 ⟨ev2, rfl, hev2, hb5⟩
  have HEV2 : Hid (ErrIs a w5 er (-1) ev2) := hev2
  obtain ⟨t2, x2, rfl⟩ := errIs_pos hev2 her
  clear hev2
  have hbC := below_then hbB hb5
  go_wp2_with fail
  refine (tableFault_any lv xs size _ c pl (HL.out.later hbC) HF.out hn HS6.out hm).mono ?_
  rintro e w6 ⟨rfl, hb6⟩
  have hba : Below w6.heap.size w6 (w6.alloc (.cells #[.int .i64 c, .int .i64 pl] 42)) := (Below.refl _ _).alloc (Nat.le_refl _) _
  have hbD := below_then (below_then hbC hb6) hba
  have hb56 := below_then hb6 hba
  have hcp : decide (0 < (c : Int)) = true := by simp; omega
  have HEV1D : Hid (ErrIs a (w6.alloc (.cells #[.int .i64 c, .int .i64 pl] 42)) c pl (.iface t1 x1)) := (HEV1.out.later hb5).later hb56
  go_wp2_with fail
  refine (faulted_is (HE.out.later hbD) HEV1D.out).mono ?_
  rintro e w7 ⟨rfl, hb7⟩
  have hbZ := below_then hbD hb7
  have HEVZ : Hid (ErrIs a w7 er (-1) (.iface t2 x2)) := (HEV2.out.later hb56).later hb7
  clear hbB hbC hbD hb5 hb6 hb7 hb56 hba
  go_wp2_with fail
  refine (sizeError_any size e0 _ hn HSE.out).mono ?_
  rintro e wS ⟨rfl, rfl⟩
  go_wp2_with fail
  refine (refName_any s _ hs6).mono ?_
  rintro e wN ⟨rfl, rfl⟩
  have hcode := code_is (HE.out.later hbZ) HEVZ.out
  rcases HRE.out with ⟨hnm, her4⟩ | ⟨hnm, her0⟩
  · rw [hnm]
    subst her4
    have hcd := coded_of _ _ 4 _ hcode rfl
    clear hcode hnm
    go_wp2_with fail
    refine hcd.mono ?_
    rintro e wC ⟨rfl, hbC⟩
    go_wp2
    go_ret
    exact ⟨rfl, below_then hbZ hbC⟩
  · rw [hnm]
    subst her0
    have hcd := coded_of _ _ (er : Int) _ hcode (by simp)
    have hgt : decide (0 < (er : Int)) = true := by simp; omega
    clear hcode hnm
    go_wp2_with fail
    refine hcd.mono ?_
    rintro e wC ⟨rfl, hbC⟩
    go_wp2
    go_ret
    exact ⟨rfl, below_then hbZ hbC⟩
end Go.Proofs.YtedbhahkldfmiaaDoor
