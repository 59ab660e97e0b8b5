/- Plain facts on 64-bit turns: each step of a turn can be undone. -/
namespace Go.Proofs.YtijdaaghomclmabDoor.Lh
def M64 : Nat := 18446744073709551616

/-- one step: xor with itself, shifted down -/
def fold (s z : Nat) : Nat := z ^^^ z / 2 ^ s
def turn (z : Nat) : Nat :=
  fold 31 (fold 27 (fold 30 ((z + 11400714819323198485) % 18446744073709551616) * 13787848793156543929 % 18446744073709551616) * 10723151780598845931 % 18446744073709551616)
def unfold2 (s z : Nat) : Nat := z ^^^ z / 2 ^ s ^^^ z / 2 ^ (2 * s)

theorem fold_lt (s z : Nat) (h : z < 18446744073709551616) : fold s z < 18446744073709551616 := by
  have h2 : z / 2 ^ s < 2 ^ 64 := Nat.lt_of_le_of_lt (Nat.div_le_self _ _) (by simpa using h)
  have := Nat.xor_lt_two_pow (x := z) (y := z / 2 ^ s) (n := 64) (by simpa using h) h2
  unfold fold
  simpa using this

theorem unfold2_fold (s z : Nat) (h : z < 18446744073709551616) (hs : 22 ≤ s) : unfold2 s (fold s z) = z := by
  apply Nat.eq_of_testBit_eq
  intro i
  unfold unfold2 fold
  simp only [Nat.testBit_xor, Nat.testBit_div_two_pow]
  have h64 : z.testBit (s + (2 * s + i)) = false := by
    apply Nat.testBit_lt_two_pow
    exact Nat.lt_of_lt_of_le (show z < 2 ^ 64 by simpa using h) (Nat.pow_le_pow_right (by decide) (by omega))
  have e1 : i + s + s = i + 2 * s := by omega
  have e2 : i + 2 * s + s = s + (2 * s + i) := by omega
  rw [e1, e2, h64]
  cases z.testBit i <;> cases z.testBit (i + s) <;> cases z.testBit (i + 2 * s) <;> rfl

theorem mul_back (x c d : Nat) (h : c * d % 18446744073709551616 = 1) (hx : x < 18446744073709551616) : (x * c % 18446744073709551616) * d % 18446744073709551616 = x := by
  rw [Nat.mod_mul_mod, Nat.mul_assoc, Nat.mul_mod, h, Nat.mul_one, Nat.mod_mod, Nat.mod_eq_of_lt hx]

def back (x : Nat) : Nat :=
  (unfold2 30 (unfold2 27 (unfold2 31 x * 3573116690164977347 % 18446744073709551616) * 10871156337175269513 % 18446744073709551616) + 7046029254386353131) % 18446744073709551616

theorem turn_lt (z : Nat) : turn z < 18446744073709551616 := fold_lt _ _ (Nat.mod_lt _ (by decide))
theorem back_turn (z : Nat) (h : z < 18446744073709551616) : back (turn z) = z := by
  unfold back turn
  rw [unfold2_fold _ _ (Nat.mod_lt _ (by decide)) (by decide), mul_back _ _ _ (by decide) (fold_lt _ _ (Nat.mod_lt _ (by decide))),
    unfold2_fold _ _ (Nat.mod_lt _ (by decide)) (by decide), mul_back _ _ _ (by decide) (fold_lt _ _ (Nat.mod_lt _ (by decide))),
    unfold2_fold _ _ (Nat.mod_lt _ (by decide)) (by decide)]
  omega
theorem turn_inj (a b : Nat) (ha : a < 18446744073709551616) (hb : b < 18446744073709551616) (h : turn a = turn b) : a = b := by
  rw [← back_turn a ha, ← back_turn b hb, h]
theorem turn_0 : turn 0 = 16294208416658607535 := by decide
end Go.Proofs.YtijdaaghomclmabDoor.Lh
