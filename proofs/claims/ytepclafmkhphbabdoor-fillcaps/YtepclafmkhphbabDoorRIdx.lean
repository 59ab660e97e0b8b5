/- The reference's Index. -/
import Derived.Test.YtepclafmkhphbabDoorHosts
namespace Go.Proofs.YtepclafmkhphbabDoor
open Go.RowKit

set_option maxHeartbeats 1000000 in
theorem rIndex_at (b o c : Nat) (xs : List ByteArray) (s : ByteArray) (q : Nat) (w : World) (hx : ∀ k (h : k < xs.length), w.cell? ⟨b, o + k, none⟩ = some (.string xs[k])) (hm : xs.length < 1000000) (hq : q < xs.length) (hqs : xs[q] = s) (hne : ∀ j (h : j < xs.length), j < q → xs[j] ≠ s) :
    Calls Tryd.prog 38 #[.slice (some ⟨b, o, none⟩) xs.length c, .string s] w fun e w' => e = .returned (.int .i64 (q : Nat)) ∧ w' = w := by
  have HX : Hid (∀ k (h : k < xs.length), w.cell? ⟨b, o + k, none⟩ = some (.string xs[k])) := hx
  have HQ : Hid (xs[q] = s) := hqs
  have HNE : Hid (∀ j (h : j < xs.length), j < q → xs[j] ≠ s) := hne
  clear hx hqs hne
  go_enter Tryd.func38, Tryd.ntmps38
  go_wp2
  go_loop [5] (fun t => ∃ k : Nat, k ≤ q ∧ t = .int .i64 k) (fun t => xs.length - (intOf t).toNat)
  case atStart => exact ⟨0, Nat.zero_le _, rfl⟩
  case round =>
    obtain ⟨k, hk, rfl⟩ := hrel
    have hlt : k < xs.length := by omega
    have cx := HX.out k hlt
    by_cases hkq : k = q
    · subst hkq
      rw [HQ.out] at cx
      have he : (s.toList == s.toList) = true := bytes_same rfl
      go_wp2
      go_ret
      exact ⟨rfl, rfl⟩
    · have hn := HNE.out k hlt (by omega)
      generalize xs[k] = xk at *
      have he : (xk.toList == s.toList) = false := bytes_parts (fun e => hn e)
      clear hn
      go_wp2
      go_round
      case rel => exact ⟨k + 1, by omega, by go_num⟩
      case measure => simp [intOf]; omega
end Go.Proofs.YtepclafmkhphbabDoor
