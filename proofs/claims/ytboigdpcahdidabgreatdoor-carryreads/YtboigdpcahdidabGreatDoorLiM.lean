/- Lists of numbers and of texts in memory; the reference's SameInts and SameTexts. -/
import Derived.Test.YtboigdpcahdidabGreatDoorCode
import Derived.Deep.QuietTactic
import Derived.BigQuiet
import Derived.Test.YtboigdpcahdidabGreatDoorChecked
import Derived.WalkKit
import Derived.WalkLawsBesides
import Derived.WalkSpells
import Derived.Laws.AppendOwnNone
import Derived.Laws.CopyOwn
namespace Go.Proofs.YtboigdpcahdidabGreatDoor
open Go.RowKit

/-- The slice value v reads, in w, as the numbers xs. -/
def Ints (w : World) (v : Value) (xs : List Int) : Prop :=
  (xs = [] ∧ ∃ p c, v = .slice p 0 c) ∨ ∃ b o c, v = .slice (some ⟨b, o, none⟩) xs.length c ∧ ∀ k (h : k < xs.length), w.cell? ⟨b, o + k, none⟩ = some (.int .i64 xs[k])

theorem Ints.later {w w' : World} {v : Value} {xs : List Int} (h : Ints w v xs) (hb : Below w.heap.size w w') : Ints w' v xs := by
  rcases h with h | ⟨b, o, c, rfl, hc⟩
  · exact Or.inl h
  · exact Or.inr ⟨b, o, c, rfl, fun k hk => below_cell hb (hc k hk)⟩

theorem below_drewN {B : Nat} {a w : World} (h : Below B a w) (n : Nat) : Below B a (w.drewN n) := ⟨h.os, h.tape, h.output, h.size, h.block⟩

theorem take_same {α : Type} {xs ys : List α} {k : Nat} (hp : xs.take k = ys.take k) (h1 : k < xs.length) (h2 : k < ys.length) (he : xs[k] = ys[k]) : xs.take (k + 1) = ys.take (k + 1) := by
  rw [List.take_succ_eq_append_getElem h1, List.take_succ_eq_append_getElem h2, hp, he]
theorem take_all {α : Type} {xs ys : List α} {k : Nat} (hp : xs.take k = ys.take k) (h1 : ¬ k < xs.length) (hl : xs.length = ys.length) : xs = ys := by
  rwa [List.take_of_length_le (by omega), List.take_of_length_le (by omega)] at hp
theorem get_parts {α : Type} {xs ys : List α} {k : Nat} (h1 : k < xs.length) (h2 : k < ys.length) (he : xs[k] ≠ ys[k]) : xs ≠ ys := by
  intro e; subst e; exact he rfl
theorem ret_bool {a b : Bool} (h : a = b) : Ending.returned (.bool a) = .returned (.bool b) := by rw [h]

theorem Ints.slice {w : World} {v : Value} {xs : List Int} (h : Ints w v xs) : ∃ p c, v = .slice p xs.length c := by
  rcases h with ⟨rfl, p, c, rfl⟩ | ⟨b, o, c, rfl, _⟩
  · exact ⟨p, c, rfl⟩
  · exact ⟨_, c, rfl⟩

end Go.Proofs.YtboigdpcahdidabGreatDoor

/- Lists of texts in memory; the reference's SameTexts. -/
namespace Go.Proofs.YtboigdpcahdidabGreatDoor
open Go.RowKit

theorem bytes_same {x y : ByteArray} (h : x = y) : (x.toList == y.toList) = true := by subst h; exact beq_self_eq_true _
theorem bytes_parts {x y : ByteArray} (h : x ≠ y) : (x.toList == y.toList) = false := by
  rw [beq_eq_false_iff_ne]
  intro e
  rw [ByteArray.toList_eq, ByteArray.toList_eq] at e
  exact h (ByteArray.ext (Array.toList_inj.1 e))

/-- The slice value v reads, in w, as the texts xs. -/
def Strs (w : World) (v : Value) (xs : List ByteArray) : Prop :=
  (xs = [] ∧ ∃ p c, v = .slice p 0 c) ∨ ∃ b o c, v = .slice (some ⟨b, o, none⟩) xs.length c ∧ xs.length ≤ c ∧ ∀ k (h : k < xs.length), w.cell? ⟨b, o + k, none⟩ = some (.string xs[k])

theorem Strs.later {w w' : World} {v : Value} {xs : List ByteArray} (h : Strs w v xs) (hb : Below w.heap.size w w') : Strs w' v xs := by
  rcases h with h | ⟨b, o, c, rfl, hcap, hc⟩
  · exact Or.inl h
  · exact Or.inr ⟨b, o, c, rfl, hcap, fun k hk => below_cell hb (hc k hk)⟩

theorem Strs.slice {w : World} {v : Value} {xs : List ByteArray} (h : Strs w v xs) : ∃ p c, v = .slice p xs.length c := by
  rcases h with ⟨rfl, p, c, rfl⟩ | ⟨b, o, c, rfl, _, _⟩
  · exact ⟨p, c, rfl⟩
  · exact ⟨_, c, rfl⟩

end Go.Proofs.YtboigdpcahdidabGreatDoor

/- Plain facts on 64-bit turns: each step of a turn can be undone. -/
namespace Go.Proofs.YtboigdpcahdidabGreatDoor.Lh
def M64 : Nat := 18446744073709551616

/-- one step: xor with itself, shifted down -/
def fold (s z : Nat) : Nat := z ^^^ z / 2 ^ s
def turn (z : Nat) : Nat :=
  fold 31 (fold 27 (fold 30 ((z + 11400714819323198485) % 18446744073709551616) * 13787848793156543929 % 18446744073709551616) * 10723151780598845931 % 18446744073709551616)
def unfold2 (s z : Nat) : Nat := z ^^^ z / 2 ^ s ^^^ z / 2 ^ (2 * s)

theorem fold_lt (s z : Nat) (h : z < 18446744073709551616) : fold s z < 18446744073709551616 := by
  have h2 : z / 2 ^ s < 2 ^ 64 := Nat.lt_of_le_of_lt (Nat.div_le_self _ _) (by simpa using h)
  have := Nat.xor_lt_two_pow (x := z) (y := z / 2 ^ s) (n := 64) (by simpa using h) h2
  unfold fold
  simpa using this

theorem unfold2_fold (s z : Nat) (h : z < 18446744073709551616) (hs : 22 ≤ s) : unfold2 s (fold s z) = z := by
  apply Nat.eq_of_testBit_eq
  intro i
  unfold unfold2 fold
  simp only [Nat.testBit_xor, Nat.testBit_div_two_pow]
  have h64 : z.testBit (s + (2 * s + i)) = false := by
    apply Nat.testBit_lt_two_pow
    exact Nat.lt_of_lt_of_le (show z < 2 ^ 64 by simpa using h) (Nat.pow_le_pow_right (by decide) (by omega))
  have e1 : i + s + s = i + 2 * s := by omega
  have e2 : i + 2 * s + s = s + (2 * s + i) := by omega
  rw [e1, e2, h64]
  cases z.testBit i <;> cases z.testBit (i + s) <;> cases z.testBit (i + 2 * s) <;> rfl

theorem mul_back (x c d : Nat) (h : c * d % 18446744073709551616 = 1) (hx : x < 18446744073709551616) : (x * c % 18446744073709551616) * d % 18446744073709551616 = x := by
  rw [Nat.mod_mul_mod, Nat.mul_assoc, Nat.mul_mod, h, Nat.mul_one, Nat.mod_mod, Nat.mod_eq_of_lt hx]

def back (x : Nat) : Nat :=
  (unfold2 30 (unfold2 27 (unfold2 31 x * 3573116690164977347 % 18446744073709551616) * 10871156337175269513 % 18446744073709551616) + 7046029254386353131) % 18446744073709551616

theorem turn_lt (z : Nat) : turn z < 18446744073709551616 := fold_lt _ _ (Nat.mod_lt _ (by decide))
theorem back_turn (z : Nat) (h : z < 18446744073709551616) : back (turn z) = z := by
  unfold back turn
  rw [unfold2_fold _ _ (Nat.mod_lt _ (by decide)) (by decide), mul_back _ _ _ (by decide) (fold_lt _ _ (Nat.mod_lt _ (by decide))),
    unfold2_fold _ _ (Nat.mod_lt _ (by decide)) (by decide), mul_back _ _ _ (by decide) (fold_lt _ _ (Nat.mod_lt _ (by decide))),
    unfold2_fold _ _ (Nat.mod_lt _ (by decide)) (by decide)]
  omega
theorem turn_inj (a b : Nat) (ha : a < 18446744073709551616) (hb : b < 18446744073709551616) (h : turn a = turn b) : a = b := by
  rw [← back_turn a ha, ← back_turn b hb, h]
theorem turn_0 : turn 0 = 16294208416658607535 := by decide
end Go.Proofs.YtboigdpcahdidabGreatDoor.Lh

/- Turn of mix computes 'turn'; it leaves all old memory as it was. -/
namespace Go.Proofs.YtboigdpcahdidabGreatDoor
open Go.RowKit

theorem wrapNat (z c : Nat) : IntKind.u64.wrap ((z : Int) + (c : Int)) = (((z + c) % 18446744073709551616 : Nat) : Int) := by
  rw [IntKind.wrap_u64]; omega
theorem step30 (X : Nat) (hX : X < 18446744073709551616) : IntKind.u64.wrap (bits .xor .u64 (X : Int) ((X : Int) / 1073741824) * 13787848793156543929) = ((Lh.fold 30 X * 13787848793156543929 % 18446744073709551616 : Nat) : Int) :=
  mixStep_u64 X 1073741824 13787848793156543929 hX
theorem step27 (X : Nat) (hX : X < 18446744073709551616) : IntKind.u64.wrap (bits .xor .u64 (X : Int) ((X : Int) / 134217728) * 10723151780598845931) = ((Lh.fold 27 X * 10723151780598845931 % 18446744073709551616 : Nat) : Int) :=
  mixStep_u64 X 134217728 10723151780598845931 hX
theorem step31 (X : Nat) (hX : X < 18446744073709551616) : bits .xor .u64 (X : Int) ((X : Int) / 2147483648) = ((Lh.fold 31 X : Nat) : Int) :=
  xorShift_u64 X 2147483648 hX
theorem stepAdd (z : Nat) : IntKind.u64.wrap ((z : Int) + 11400714819323198485) = (((z + 11400714819323198485) % 18446744073709551616 : Nat) : Int) := wrapNat z 11400714819323198485

end Go.Proofs.YtboigdpcahdidabGreatDoor

/- What holds of memory alone. -/
namespace Go.Proofs.YtboigdpcahdidabGreatDoor
open Go.RowKit

theorem below_then {w w1 w2 : World} (h : Below w.heap.size w w1) (k : Below w1.heap.size w1 w2) : Below w.heap.size w w2 :=
  h.trans (k.mono h.size)
theorem below_grown {w w' : World} {r : Option Nat} (hg : w.grownBy w' r) (hr : ∀ k, r = some k → w.heap.size ≤ k) : Below w.heap.size w w' := (Below.refl _ _).grown hg (Nat.le_refl _) hr
theorem ownsRow_below {w w' : World} {base : Nat} {e : TypeId} {size : Nat} {v : Value} {n : Nat} {xs : List Value} (h : w.ownsRow base e size v n xs) (hb : Below w.heap.size w w') : w'.ownsRow base e size v n xs :=
  h.kept (row := none) ⟨hb.os, hb.tape, hb.output, hb.size, fun k hk _ => hb.block k hk⟩ (by cases v.ownBlock <;> simp)
/-- The slice value v reads, in w, as the keys ks. -/
def U64s (w : World) (v : Value) (ks : List Nat) : Prop := ∃ p c, v = .slice p ks.length c ∧ ∀ k (h : k < ks.length), ∃ b o, p = some ⟨b, o, none⟩ ∧ w.cell? ⟨b, o + k, none⟩ = some (.int .u64 (ks[k] : Nat))
end Go.Proofs.YtboigdpcahdidabGreatDoor

/- MixBack: the walks: 'mixed' is true, each step of a turn is undone. -/
namespace Go.Proofs.YtboigdpcahdidabGreatDoor
open Go.RowKit

set_option maxHeartbeats 400000 in
theorem check_nil (w : World) : Calls Tryz.prog 70 #[.slice none 0 0] w fun e w' => e = .returned .nilIface ∧ w' = w := by
  go_enter Tryz.func70, Tryz.ntmps70
  go_wp2
  refine wp_loop_rounds 1 ?_
  rw [rounds_succ]
  go_wp2
  go_ret
  exact ⟨rfl, rfl⟩

theorem un31 (X : Nat) (hX : X < 18446744073709551616) : bits .xor .u64 (bits .xor .u64 (X : Int) ((X : Int) / 2147483648)) ((X : Int) / 4611686018427387904) = ((Lh.unfold2 31 X : Nat) : Int) := by
  have h1 : bits .xor .u64 (X : Int) ((X : Int) / 2147483648) = ((Lh.fold 31 X : Nat) : Int) := xorShift_u64 X 2147483648 hX
  rw [h1]
  have d : ((X : Int) / 4611686018427387904) = ((X / 4611686018427387904 : Nat) : Int) := rfl
  rw [d, bits_xor_u64_nat _ _ (Lh.fold_lt 31 X hX) (Nat.lt_of_le_of_lt (Nat.div_le_self _ _) hX)]
  rfl
theorem un27 (X : Nat) (hX : X < 18446744073709551616) : bits .xor .u64 (bits .xor .u64 (X : Int) ((X : Int) / 134217728)) ((X : Int) / 18014398509481984) = ((Lh.unfold2 27 X : Nat) : Int) := by
  have h1 : bits .xor .u64 (X : Int) ((X : Int) / 134217728) = ((Lh.fold 27 X : Nat) : Int) := xorShift_u64 X 134217728 hX
  rw [h1]
  have d : ((X : Int) / 18014398509481984) = ((X / 18014398509481984 : Nat) : Int) := rfl
  rw [d, bits_xor_u64_nat _ _ (Lh.fold_lt 27 X hX) (Nat.lt_of_le_of_lt (Nat.div_le_self _ _) hX)]
  rfl
theorem un30 (X : Nat) (hX : X < 18446744073709551616) : bits .xor .u64 (bits .xor .u64 (X : Int) ((X : Int) / 1073741824)) ((X : Int) / 1152921504606846976) = ((Lh.unfold2 30 X : Nat) : Int) := by
  have h1 : bits .xor .u64 (X : Int) ((X : Int) / 1073741824) = ((Lh.fold 30 X : Nat) : Int) := xorShift_u64 X 1073741824 hX
  rw [h1]
  have d : ((X : Int) / 1152921504606846976) = ((X / 1152921504606846976 : Nat) : Int) := rfl
  rw [d, bits_xor_u64_nat _ _ (Lh.fold_lt 30 X hX) (Nat.lt_of_le_of_lt (Nat.div_le_self _ _) hX)]
  rfl
theorem unmul (X c : Nat) : IntKind.u64.wrap ((X : Int) * (c : Int)) = ((X * c % 18446744073709551616 : Nat) : Int) := by
  rw [IntKind.wrap_u64, Int.natCast_emod, Int.natCast_mul]; rfl
theorem unmul1 (X : Nat) : IntKind.u64.wrap ((X : Int) * 3573116690164977347) = ((X * 3573116690164977347 % 18446744073709551616 : Nat) : Int) := unmul X 3573116690164977347
theorem unmul2 (X : Nat) : IntKind.u64.wrap ((X : Int) * 10871156337175269513) = ((X * 10871156337175269513 % 18446744073709551616 : Nat) : Int) := unmul X 10871156337175269513
theorem unsub (X : Nat) : IntKind.u64.wrap ((X : Int) - 11400714819323198485) = (((X + 7046029254386353131) % 18446744073709551616 : Nat) : Int) := wrap_sub_u64_nat X 11400714819323198485 7046029254386353131 rfl

end Go.Proofs.YtboigdpcahdidabGreatDoor
