/- The landed readDecimal. -/
import Derived.Test.YtboigdpcahdidabGreatDoorCbLib
import Derived.Test.YtboigdpcahdidabGreatDoorMbM
namespace Go.Proofs.YtboigdpcahdidabGreatDoor
open Go.RowKit
set_option maxHeartbeats 2000000 in
set_option maxRecDepth 100000 in
/-- readDecimal: a number as the document has it, or none. -/
theorem readDec_any {a : Nat → Addr} (s : List UInt8) (hs : s.length ≤ 100000) (w : World) (he : EC a w) :
    Calls Tryz.prog 125 #[.string (Lh.bt s)] w fun e w' => Below w.heap.size w w' ∧
      ((∃ m : Nat, Lh.numL s = some m ∧ e = .returned (.tuple #[.int .i64 (m : Nat), .bool true])) ∨ (Lh.numL s = none ∧ ∃ x, e = .returned (.tuple #[.int .i64 x, .bool false]))) := by
  have ha := atoi_any s hs w he
  have HE : Hid (EC a w) := he
  have hsz : (Lh.bt s).size = s.length := by simp [Lh.bt, ByteArray.size]
  clear he
  go_enter Tryz.func125, Tryz.ntmps125
  go_wp2_with fail
  refine ha.mono ?_
  rintro e w1 ⟨hb1, ⟨v, hv, rfl⟩ | ⟨hn, x, t, p, rfl⟩⟩
  case inr =>
    have hnone : Lh.numL s = none := by
      cases h : Lh.numL s with
      | none => rfl
      | some m => exact absurd (Lh.atoi_num h).1 (hn _)
    clear ha hn
    go_wp2
    go_ret2
    exact ⟨hb1, Or.inr ⟨hnone, _, rfl⟩⟩
  clear ha
  cases hn : Lh.numL s with
  | some m =>
    have HNS : Hid (Lh.numL s = some m) := hn
    obtain ⟨q1, q2, q3, q4⟩ := Lh.atoi_num hn
    obtain rfl : v = (m : Int) := by
      rw [q1] at hv
      cases hv
      rfl
    have hq : Lh.decL m = s := by rw [← Lh.itoa_dec]; exact q3
    have hi := itoa_any m (by omega) w1 (HE.out.later hb1)
    rw [hq] at hi
    have hsl : (s.length : Int) ≤ 14 := by omega
    have heq : ((Lh.bt s).toList == (Lh.bt s).toList) = true := by simp
    clear hv q1 q2 q3 q4 hn hq
    go_wp2_with (first | (go_at_call 56; refine hi.mono ?_; rintro e w2 ⟨rfl, hb2⟩))
    go_ret2
    exact ⟨below_then hb1 hb2, Or.inl ⟨m, HNS.out, rfl⟩⟩
  | none =>
    have HNN : Hid (Lh.numL s = none) := hn
    by_cases hv0 : 0 ≤ v
    · by_cases h14 : s.length ≤ 14
      · have hne := Lh.atoi_none hn hv0 h14
        obtain ⟨n, rfl⟩ := Int.eq_ofNat_of_zero_le hv0
        have hnb : n ≤ 9223372036854775807 := by
          have := Lib.atoiAll_bounds hv
          omega
        rw [Lh.itoa_dec] at hne
        have hi := itoa_any n hnb w1 (HE.out.later hb1)
        have hsl : (s.length : Int) ≤ 14 := by omega
        have heq : ((Lh.bt (Lh.decL n)).toList == (Lh.bt s).toList) = false := by
          rw [Lh.bt_list, Lh.bt_list, beq_eq_false_iff_ne]
          exact hne
        clear hv hn hne
        go_wp2_with (first | (go_at_call 56; refine hi.mono ?_; rintro e w2 ⟨rfl, hb2⟩))
        go_ret2
        exact ⟨below_then hb1 hb2, Or.inr ⟨HNN.out, _, rfl⟩⟩
      · have hsl : decide ((s.length : Int) ≤ 14) = false := by simp; omega
        clear hv hn
        go_wp2_with fail
        go_ret2
        exact ⟨hb1, Or.inr ⟨HNN.out, _, rfl⟩⟩
    · have hd : decide (0 ≤ v) = false := by simp; omega
      clear hv hn
      go_wp2_with fail
      go_ret2
      exact ⟨hb1, Or.inr ⟨HNN.out, _, rfl⟩⟩
end Go.Proofs.YtboigdpcahdidabGreatDoor
