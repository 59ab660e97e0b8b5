/- LongHosts of a short list; of any list. -/
import Derived.Test.YtijdaaghomclmabDoorOwn
namespace Go.Proofs.YtijdaaghomclmabDoor
open Go.RowKit

def Short (xs : List ByteArray) : Prop := xs.length ≤ 30 ∧ ∀ k (h : k < xs.length), (xs[k]).size ≤ 60
set_option maxHeartbeats 1000000 in
theorem long_short0 (b o cap : Nat) (xs : List ByteArray) (w : World) (hx : ∀ k (h : k < xs.length), w.cell? ⟨b, o + k, none⟩ = some (.string xs[k])) (hs : Short xs) :
    Calls Tryd.prog 20 #[.slice (some ⟨b, o, none⟩) xs.length cap] w fun e w' => e = .returned (.int .i64 0) ∧ w' = w := by
  obtain ⟨h30, hs⟩ := hs
  have HX : Hid (∀ k (h : k < xs.length), w.cell? ⟨b, o + k, none⟩ = some (.string xs[k])) := hx
  have HS : Hid (∀ k (h : k < xs.length), (xs[k]).size ≤ 60) := hs
  have e30 : decide (30 < (xs.length : Int)) = false := by simp; omega
  clear hx hs
  go_enter Tryd.func20, Tryd.ntmps20
  go_wp2
  go_loop [3] (fun t => ∃ k : Nat, k ≤ xs.length ∧ t = .int .i64 k) (fun t => xs.length - (intOf t).toNat)
  case atStart => exact ⟨0, Nat.zero_le _, rfl⟩
  case round =>
    obtain ⟨k, hk, rfl⟩ := hrel
    by_cases hlt : k < xs.length
    · have cx := HX.out k hlt
      have hsz := HS.out k hlt
      have e60 : decide (60 < ((xs[k]).size : Int)) = false := by simp; omega
      go_wp2
      go_round
      case rel => exact ⟨k + 1, by omega, by go_num⟩
      case measure => simp [intOf]; omega
    · go_wp2
      go_ret
      exact ⟨rfl, rfl⟩
theorem long_short (v : Value) (xs : List ByteArray) (w : World) (hv : Strs w v xs) (hs : Short xs) :
    Calls Tryd.prog 20 #[v] w fun e w' => e = .returned (.int .i64 0) ∧ w' = w := by
  rcases hv with ⟨rfl, p, cap, rfl⟩ | ⟨b, o, cap, rfl, hcap, hx⟩
  · exact long_zero p cap w
  · exact long_short0 b o cap xs w hx hs
theorem long_not (v : Value) (xs : List ByteArray) (w : World) (hv : Strs w v xs) (hsz : ∀ k (h : k < xs.length), (xs[k]).size ≤ maxLen) (hm : xs.length ≤ maxLen) (hs : ¬ Short xs) :
    Calls Tryd.prog 20 #[v] w fun e w' => e = .returned (.int .i64 1) ∧ w' = w :=
  (long_any v xs w hv hsz hm).mono fun _ _ ⟨h1, h2⟩ => ⟨by
    rcases h1 with h1 | ⟨_, h3, h4⟩
    · exact h1
    · exact absurd ⟨h3, h4⟩ hs, h2⟩
end Go.Proofs.YtijdaaghomclmabDoor
