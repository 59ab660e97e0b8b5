/- Numbers in decimal digits: the library's own reading and writing, against the document's. -/
import Derived.Test.YtboigdpcahdidabDoorCaMath
import Derived.Lib.AtoiAll
import Derived.Lib.ItoaNum
namespace Go.Proofs.YtboigdpcahdidabDoor
namespace Lh
theorem decL_lib (n : Nat) : Lib.decDigits n = decL n := by
  induction n using Nat.strongRecOn with
  | ind n ih =>
    rw [Lib.decDigits]
    by_cases h : n < 10
    · rw [dif_pos h, decL_small h]
      rfl
    · rw [dif_neg h, decL_big h, ih (n / 10) (by omega)]
      rfl
theorem itoa_dec (n : Nat) : Lib.itoa (n : Int) = decL n := by
  unfold Lib.itoa
  rw [if_neg (by omega), decL_lib]
  rfl
theorem valL_fold (l : List UInt8) (z : Nat) : l.foldl (fun n c => 10 * n + (c.toNat - 48)) z = z * 10 ^ l.length + valL l := by
  induction l generalizing z with
  | nil => simp [valL]
  | cons c l ih =>
    show l.foldl _ (10 * z + (c.toNat - 48)) = z * 10 ^ (l.length + 1) + l.foldl _ (10 * 0 + (c.toNat - 48))
    rw [ih, ih (10 * 0 + (c.toNat - 48)), Nat.pow_succ]
    simp only [Nat.mul_zero, Nat.zero_add, Nat.add_mul]
    have : 10 * z * 10 ^ l.length = z * (10 ^ l.length * 10) := by
      rw [Nat.mul_comm 10 z, Nat.mul_assoc, Nat.mul_comm 10]
    omega
theorem valL_lt10 {l : List UInt8} (h : l.all isDg = true) : valL l < 10 ^ l.length := by
  induction l with
  | nil => simp [valL]
  | cons c l ih =>
    simp only [List.all_cons, Bool.and_eq_true] at h
    have h1 := ih h.2
    have h2 : c.toNat ≤ 57 := by have := h.1; simp only [isDg, Bool.and_eq_true, decide_eq_true_eq] at this; omega
    show l.foldl (fun n c => 10 * n + (c.toNat - 48)) (10 * 0 + (c.toNat - 48)) < 10 ^ (l.length + 1)
    rw [valL_fold, Nat.pow_succ]
    have h3 : (10 * 0 + (c.toNat - 48)) * 10 ^ l.length ≤ 9 * 10 ^ l.length := Nat.mul_le_mul_right _ (by omega)
    omega
theorem parse_digits : ∀ (l : List UInt8) (z : Nat), l.all isDg = true → (z + 1) * 10 ^ l.length ≤ 10 ^ 18 → Lib.parseUint10 z l = .ok (l.foldl (fun n c => 10 * n + (c.toNat - 48)) z)
  | [], z, _, _ => rfl
  | c :: l, z, h, hz => by
    simp only [List.all_cons, Bool.and_eq_true] at h
    have hc := h.1
    simp only [isDg, Bool.and_eq_true, decide_eq_true_eq] at hc
    have hp : 0 < 10 ^ l.length := Nat.pow_pos (by decide)
    have e1 : (z + 1) * 10 ^ (l.length + 1) = ((z + 1) * 10) * 10 ^ l.length := by rw [Nat.pow_succ, Nat.mul_assoc, Nat.mul_comm 10]
    rw [List.length_cons, e1] at hz
    have h2 : (z * 10 + (c.toNat - 48) + 1) * 10 ^ l.length ≤ 10 ^ 18 := Nat.le_trans (Nat.mul_le_mul_right _ (by omega)) hz
    have h3 : (z + 1) * 10 ≤ 10 ^ 18 := Nat.le_trans (Nat.le_mul_of_pos_right _ hp) hz
    rw [Lib.parseUint10, if_pos hc, if_neg (by omega), if_neg (by omega), parse_digits l _ h.2 h2]
    show _ = Lib.NumEnd.ok (l.foldl _ (10 * z + (c.toNat - 48)))
    rw [Nat.mul_comm z 10]
theorem dig_head {c : UInt8} (h : isDg c = true) : c.toNat ≠ 43 ∧ c.toNat ≠ 45 := by
  simp only [isDg, Bool.and_eq_true, decide_eq_true_eq] at h
  omega
/-- What the document calls a number is read as that. -/
theorem atoi_num {l : List UInt8} {n : Nat} (h : numL l = some n) : Lib.atoiAll l = .ok (n : Int) ∧ l.length ≤ 14 ∧ Lib.itoa (n : Int) = l ∧ n < 10 ^ 14 := by
  have hi := numL_inv h
  unfold numL at h
  split at h
  · cases h
  · rename_i hn
    simp only [not_or, Nat.not_lt, Bool.not_eq_false] at hn
    obtain ⟨h1, h2, _, h4⟩ := hn
    cases h
    have hlt := valL_lt10 h4
    have h14 : valL l < 10 ^ 14 := Nat.lt_of_lt_of_le hlt (Nat.pow_le_pow_right (by decide) h2)
    refine ⟨?_, h2, by rw [itoa_dec]; exact hi, h14⟩
    match l, h1, h4 with
    | c :: r, _, h4 =>
      have hc : isDg c = true := by simp only [List.all_cons, Bool.and_eq_true] at h4; exact h4.1
      obtain ⟨d1, d2⟩ := dig_head hc
      have hp := parse_digits (c :: r) 0 h4 (by
        have : 10 ^ (c :: r).length ≤ 10 ^ 14 := Nat.pow_le_pow_right (by decide) h2
        omega)
      have hv : (c :: r).foldl (fun n c => 10 * n + (c.toNat - 48)) 0 = valL (c :: r) := rfl
      rw [hv] at hp
      generalize valL (c :: r) = v at *
      unfold Lib.atoiAll
      simp only [d1, d2, or_self, if_false, Lib.parseMag, List.cons_ne_nil, hp, not_false_eq_true, true_and, false_and]
      rw [if_neg (by omega)]
/-- And no other text is. -/
theorem atoi_none {l : List UInt8} (h : numL l = none) {v : Int} (hv : 0 ≤ v) (h14 : l.length ≤ 14) : Lib.itoa v ≠ l := by
  intro e
  obtain ⟨n, rfl⟩ := Int.eq_ofNat_of_zero_le hv
  rw [itoa_dec] at e
  have hn : n < 10 ^ 14 := by
    have h1 := valL_lt10 (decL_dig n)
    rw [decL_val] at h1
    exact Nat.lt_of_lt_of_le h1 (Nat.pow_le_pow_right (by decide) (by rw [e]; exact h14))
  rw [← e, numL_dec hn] at h
  cases h
end Lh
end Go.Proofs.YtboigdpcahdidabDoor
