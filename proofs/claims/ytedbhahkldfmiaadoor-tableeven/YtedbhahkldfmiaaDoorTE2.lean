/- TableEven: where there is nothing to look at. -/
import Derived.Test.YtedbhahkldfmiaaDoorTEBase
namespace Go.Proofs.YtedbhahkldfmiaaDoor
open Go.RowKit

set_option maxRecDepth 100000 in
set_option maxHeartbeats 4000000 in
theorem te_out (a : Nat → Addr) (lv : Value) (xs : List ByteArray) (size bq : Int) (w : World) (he : Errs5 a w) (hl : Strs1 w lv xs) (hsz : ∀ k (h : k < xs.length), (xs[k]).size ≤ maxLen) (hlen : xs.length ≤ maxLen) (hout : bq < 0 ∨ (xs.length : Int) < bq) :
    Calls Tryd.prog 8 #[lv, .int .i64 size, .int .i64 bq] w fun e w' => e = .returned (.bool true) ∧ Below w.heap.size w w' := by
  have HL : Hid (Strs1 w lv xs) := hl
  have HE : Hid (Errs5 a w) := he
  obtain ⟨p, cp, rfl, _⟩ := hl.src
  clear hl he
  go_enter Tryd.func8, Tryd.ntmps8
  go_wp2_with fail
  refine (tabled_any5 a _ HE.out).mono ?_
  rintro e w1 ⟨rfl, hb1⟩
  go_wp2_with fail
  refine (long_any _ xs _ (HL.out.later hb1).strs hsz hlen).mono ?_
  rintro e w2 ⟨hlo, rfl⟩
  rcases hlo with rfl | ⟨rfl, h30, h60⟩
  · go_wp2
    go_ret
    exact ⟨rfl, hb1⟩
  by_cases h1 : bq < 0
  · have d1 : decide (bq < 0) = true := by simp; omega
    go_wp2
    go_ret
    exact ⟨rfl, hb1⟩
  · have d1 : decide (bq < 0) = false := by simp; omega
    have d2 : decide ((xs.length : Int) < bq) = true := by simp; omega
    go_wp2
    go_ret
    exact ⟨rfl, hb1⟩

set_option maxRecDepth 100000 in
set_option maxHeartbeats 4000000 in
theorem te_bad (a : Nat → Addr) (lv : Value) (xs : List ByteArray) (size : Int) (q : Nat) (w : World) (he : Errs5 a w) (hl : Strs1 w lv xs) (hsz : ∀ k (h : k < xs.length), (xs[k]).size ≤ maxLen) (hlen : xs.length ≤ maxLen) (hq : q ≤ xs.length) (hn : -9223372036854775808 ≤ size ∧ size ≤ 9223372036854775807) (c : Nat) (pl : Int) (hf : TabFault xs size c pl) (hc : c ≠ 0) :
    Calls Tryd.prog 8 #[lv, .int .i64 size, .int .i64 q] w fun e w' => e = .returned (.bool true) ∧ Below w.heap.size w w' := by
  have HL : Hid (Strs1 w lv xs) := hl
  have HE : Hid (Errs5 a w) := he
  have HF : Hid (TabFault xs size c pl) := hf
  obtain ⟨p, cp, rfl, _⟩ := hl.src
  clear hl he hf
  go_enter Tryd.func8, Tryd.ntmps8
  go_wp2_with fail
  refine (tabled_any5 a _ HE.out).mono ?_
  rintro e w1 ⟨rfl, hb1⟩
  go_wp2_with fail
  refine (long_any _ xs _ (HL.out.later hb1).strs hsz hlen).mono ?_
  rintro e w2 ⟨hlo, rfl⟩
  rcases hlo with rfl | ⟨rfl, h30, h60⟩
  · go_wp2
    go_ret
    exact ⟨rfl, hb1⟩
  have hq0 : decide ((q : Int) < 0) = false := by simp
  have hq1 : decide ((xs.length : Int) < (q : Int)) = false := by simp; omega
  have HS6 : Hid (∀ k (h : k < xs.length), (xs[k]).size ≤ 1000000) := fun k h => Nat.le_trans (h60 k h) (by decide)
  clear hsz hlen h60
  go_wp2_with fail
  refine (ownTexts_any _ xs _ (HL.out.later hb1) (by omega)).mono ?_
  rintro e w3 ⟨v1, rfl, hv1, hb3⟩
  have hbA := below_then hb1 hb3
  clear hb1 hb3
  go_wp2_with fail
  refine (make_bad5 a v1 xs size _ c pl (HE.out.later hbA) hv1 HF.out hc hn HS6.out (by omega)).mono ?_
  rintro e w4 ⟨ev, rfl, hev, hb4⟩
  obtain ⟨t, x, rfl⟩ := errIs_pos hev hc
  clear hev hv1
  go_wp2
  go_ret
  exact ⟨rfl, below_then hbA hb4⟩
end Go.Proofs.YtedbhahkldfmiaaDoor
