/- Sizes: what is a prime, by trial up to the root and up to the number. -/
import Derived.Test.YtedbhahkldfmiaaDoorTMath
namespace Go.Proofs.YtedbhahkldfmiaaDoor
namespace Lh
theorem prm_of_roots {n : Nat} (h2 : 2 ≤ n) (h : ∀ d, 2 ≤ d → d * d ≤ n → n % d ≠ 0) : Prm n := by
  refine ⟨h2, fun k hk hkn hz => ?_⟩
  obtain ⟨q, hq⟩ := Nat.dvd_of_mod_eq_zero hz
  have hq2 : 2 ≤ q := by
    rcases Nat.lt_or_ge q 2 with hlt | hge
    · have : q = 0 ∨ q = 1 := by omega
      rcases this with rfl | rfl
      · omega
      · omega
    · exact hge
  rcases Nat.le_total k q with hle | hle
  · exact h k hk (by rw [hq]; exact Nat.mul_le_mul_left _ hle) hz
  · exact h q hq2 (by rw [hq]; exact Nat.mul_le_mul_right _ hle) (by rw [hq, Nat.mul_mod_left])
theorem not_prm {n d : Nat} (h2 : 2 ≤ d) (hd : d < n) (h : n % d = 0) : ¬ Prm n := fun hp => hp.2 d h2 hd h
theorem root_lt {n d : Nat} (h2 : 2 ≤ d) (hd : d * d ≤ n) : d < n := by
  have : d * 2 ≤ d * d := Nat.mul_le_mul_left _ h2
  omega
theorem root_small {n d : Nat} (hn : n ≤ 503) (hd : d * d ≤ n) : d ≤ 22 := by
  rcases Nat.lt_or_ge 22 d with h | h
  · have : 23 * 23 ≤ d * d := Nat.mul_le_mul (by omega) (by omega)
    omega
  · exact h
theorem sq_le {d : Nat} (h : d ≤ 23) : d * d ≤ 529 := Nat.mul_le_mul h h
/-- what is wrong with a size: the error's number (0: nothing) -/
def SizeIs (n : Int) (e : Nat) : Prop := ((n < 2 ∨ 503 < n) ∧ e = 2) ∨ ∃ m : Nat, n = m ∧ 2 ≤ m ∧ m ≤ 503 ∧ ((¬ Prm m ∧ e = 3) ∨ (Prm m ∧ e = 0))
open Classical in
theorem sizeIs_ex (n : Int) : ∃ e, SizeIs n e := by
  by_cases h : n < 2 ∨ 503 < n
  · exact ⟨2, Or.inl ⟨h, rfl⟩⟩
  · obtain ⟨m, hm⟩ := Int.eq_ofNat_of_zero_le (show 0 ≤ n by omega)
    by_cases hp : Prm m
    · exact ⟨0, Or.inr ⟨m, hm, by omega, by omega, Or.inr ⟨hp, rfl⟩⟩⟩
    · exact ⟨3, Or.inr ⟨m, hm, by omega, by omega, Or.inl ⟨hp, rfl⟩⟩⟩
end Lh
end Go.Proofs.YtedbhahkldfmiaaDoor
