/- The reference's CapOf. -/
import Derived.Test.YtepclafmkhphbabDoorFMath
import Derived.Test.YtepclafmkhphbabDoorLists
namespace Go.Proofs.YtepclafmkhphbabDoor
open Go.RowKit

/-- keys, hosts and percent are within their bounds -/
def CapIn (k h p : Int) : Prop := 0 ≤ k ∧ k ≤ 500 ∧ 1 ≤ h ∧ h ≤ 12 ∧ 0 ≤ p ∧ p ≤ 100

set_option maxHeartbeats 2000000 in
theorem capOf_good (K H p : Nat) (w : World) (hK : K ≤ 500) (hH1 : 1 ≤ H) (hH : H ≤ 12) (hp : p ≤ 100) :
    Calls Tryd.prog 23 #[.int .i64 (K : Nat), .int .i64 (H : Nat), .int .i64 (p : Nat)] w fun e w' => e = .returned (.tuple #[.int .i64 (Lh.capN K H p : Nat), .int .i64 0]) ∧ w' = w := by
  have d1 : decide ((K : Int) < 0) = false := by simp
  have d2 : decide (500 < (K : Int)) = false := by simp; omega
  have d3 : decide ((H : Int) < 1) = false := by simp; omega
  have d4 : decide (12 < (H : Int)) = false := by simp; omega
  have d5 : decide ((p : Int) < 0) = false := by simp
  have d6 : decide (100 < (p : Int)) = false := by simp; omega
  have hX : K * (100 + p) ≤ 100000 := Nat.le_trans (Nat.mul_le_mul hK (show 100 + p ≤ 200 by omega)) (by decide)
  have hXi : (K : Int) * (100 + (p : Int)) = ((K * (100 + p) : Nat) : Int) := by simp
  have eX : IntKind.i64.wrap ((K : Int) * (100 + (p : Int))) = ((K * (100 + p) : Nat) : Int) := by rw [hXi, IntKind.wrap_i64]; omega
  have HL : Hid (∀ n, n < Lh.capN K H p ↔ n * 100 * H < K * (100 + p)) := fun n => Lh.capN_lt hH1
  have hC := Lh.capN_le (K := K) (p := p) hH1 hK hp
  obtain ⟨C, hCe⟩ : ∃ C, Lh.capN K H p = C := ⟨_, rfl⟩
  rw [hCe] at hC
  have HC : Hid (Lh.capN K H p = C) := hCe
  obtain ⟨X, hXe⟩ : ∃ X, K * (100 + p) = X := ⟨_, rfl⟩
  rw [hXe] at eX hX HL
  rw [hCe] at HL
  clear hCe hXi hXe
  go_enter Tryd.func23, Tryd.ntmps23
  go_wp2_with fail
  go_loop [8] (fun t => ∃ n : Nat, n ≤ C ∧ t = .int .i64 (n : Nat)) (fun t => C - (intOf t).toNat)
  case atStart => exact ⟨0, Nat.zero_le _, rfl⟩
  case round =>
    obtain ⟨n, hn, rfl⟩ := hrel
    have hl := HL.out n
    have hYb : n * 100 * H ≤ 1000 * 100 * 12 := Nat.mul_le_mul (Nat.mul_le_mul_right _ (by omega)) hH
    have hYi : (n : Int) * 100 * (H : Int) = ((n * 100 * H : Nat) : Int) := by simp
    have eY : IntKind.i64.wrap ((n : Int) * 100 * (H : Int)) = ((n * 100 * H : Nat) : Int) := by rw [hYi, IntKind.wrap_i64]; omega
    clear hYi
    generalize n * 100 * H = Y at *
    by_cases hlt : n < C
    · have hd : decide (Y < X) = true := by simpa using hl.1 hlt
      clear hl
      go_wp2
      go_round
      case rel => exact ⟨n + 1, by omega, by go_num⟩
      case measure => simp [intOf]; omega
    · have hd : decide (Y < X) = false := by
        have : ¬ Y < X := fun h => hlt (hl.2 h)
        simpa using this
      obtain rfl : n = C := by omega
      clear hl
      go_wp2
      go_ret2
      exact ⟨by rw [HC.out]; rfl, rfl⟩

set_option maxHeartbeats 2000000 in
theorem capOf_bad (k h p : Int) (w : World) (hb : ¬ CapIn k h p) :
    Calls Tryd.prog 23 #[.int .i64 k, .int .i64 h, .int .i64 p] w fun e w' => e = .returned (.tuple #[.int .i64 0, .int .i64 2]) ∧ w' = w := by
  unfold CapIn at hb
  by_cases c0 : k < 0
  · have d0 : decide (k < 0) = true := by simpa using c0
    clear hb
    go_enter Tryd.func23, Tryd.ntmps23
    go_wp2
    go_ret2
    exact ⟨rfl, rfl⟩
  · have d0 : decide (k < 0) = false := by simp; omega
    by_cases c1 : 500 < k
    · have d1 : decide (500 < k) = true := by simpa using c1
      clear hb
      go_enter Tryd.func23, Tryd.ntmps23
      go_wp2
      go_ret2
      exact ⟨rfl, rfl⟩
    · have d1 : decide (500 < k) = false := by simp; omega
      by_cases c2 : h < 1
      · have d2 : decide (h < 1) = true := by simpa using c2
        clear hb
        go_enter Tryd.func23, Tryd.ntmps23
        go_wp2
        go_ret2
        exact ⟨rfl, rfl⟩
      · have d2 : decide (h < 1) = false := by simp; omega
        by_cases c3 : 12 < h
        · have d3 : decide (12 < h) = true := by simpa using c3
          clear hb
          go_enter Tryd.func23, Tryd.ntmps23
          go_wp2
          go_ret2
          exact ⟨rfl, rfl⟩
        · have d3 : decide (12 < h) = false := by simp; omega
          by_cases c4 : p < 0
          · have d4 : decide (p < 0) = true := by simpa using c4
            clear hb
            go_enter Tryd.func23, Tryd.ntmps23
            go_wp2
            go_ret2
            exact ⟨rfl, rfl⟩
          · have d4 : decide (p < 0) = false := by simp; omega
            have d5 : decide (100 < p) = true := by simp; omega
            clear hb
            go_enter Tryd.func23, Tryd.ntmps23
            go_wp2
            go_ret2
            exact ⟨rfl, rfl⟩
end Go.Proofs.YtepclafmkhphbabDoor
