/- The model's small functions of texts: hex. -/
import Derived.Test.YtboigdpcahdidabDoorChecked
import Derived.Test.YtboigdpcahdidabDoorMaM
import Derived.WalkKit
import Derived.WalkLawsBesides
import Derived.WalkSpells
import Derived.Below
import Derived.Laws.Concat
import Derived.Laws.Strings2
import Derived.Test.YtboigdpcahdidabDoorLiM
namespace Go.Proofs.YtboigdpcahdidabDoor
open Go.RowKit

namespace Lh
theorem bt_append (a b : List UInt8) : bt a ++ bt b = bt (a ++ b) := ByteArray.mk_append_mk a b
theorem bt_extract (l : List UInt8) (i j : Nat) : (bt l).extract i j = bt ((l.drop i).take (j - i)) := ByteArray.extract_mk l i j
theorem bt_size (l : List UInt8) : (bt l).size = l.length := by simp [bt, ByteArray.size]
theorem hexL_cons : ∀ k n, hexL (k + 1) n = hxU (n / 16 ^ k % 16) :: hexL k n
  | 0, n => by simp [hexL]
  | k + 1, n => by
    show hexL (k + 1) (n / 16) ++ [hxU (n % 16)] = _
    rw [hexL_cons k (n / 16)]
    show hxU (n / 16 / 16 ^ k % 16) :: (hexL k (n / 16) ++ [hxU (n % 16)]) = _
    rw [Nat.div_div_eq_div_mul, show 16 * 16 ^ k = 16 ^ (k + 1) by rw [Nat.pow_succ]; omega]
    rfl
def digs : List UInt8 := [48, 49, 50, 51, 52, 53, 54, 55, 56, 57, 97, 98, 99, 100, 101, 102]
theorem digs_at : ∀ d : Fin 16, (digs.drop d.1).take (d.1 + 1 - d.1) = [hxU d.1] := by decide
end Lh
end Go.Proofs.YtboigdpcahdidabDoor

/- The model's small functions of texts: Byte, Decimal. -/
namespace Go.Proofs.YtboigdpcahdidabDoor
open Go.RowKit

theorem fold_take {α β : Type} (f : α → β → α) (z : α) {s : List β} {i : Nat} (h : i < s.length) {b : β} (hb : s[i] = b) : (s.take (i + 1)).foldl f z = f ((s.take i).foldl f z) b := by
  subst hb
  rw [List.take_succ_eq_append_getElem h, List.foldl_append]
  rfl
theorem fold_range {α : Type} (f : α → Nat → α) (z : α) (k : Nat) : (List.range (k + 1)).foldl f z = f ((List.range k).foldl f z) k := by
  rw [List.range_succ, List.foldl_append]
  rfl
theorem xorI (a b : Nat) (ha : a < 2 ^ 32) (hb : b < 2 ^ 32) : bits .xor .i64 (a : Int) (b : Int) = ((a ^^^ b : Nat) : Int) := by
  have hx : a ^^^ b < 2 ^ 32 := Nat.xor_lt_two_pow ha hb
  have h1 : (BitVec.ofInt 64 (a : Int)).toNat = a := by
    rw [BitVec.ofInt_natCast, BitVec.toNat_ofNat]; exact Nat.mod_eq_of_lt (by omega)
  have h2 : (BitVec.ofInt 64 (b : Int)).toNat = b := by
    rw [BitVec.ofInt_natCast, BitVec.toNat_ofNat]; exact Nat.mod_eq_of_lt (by omega)
  show IntKind.i64.wrap ((BitVec.ofInt 64 (a : Int) ^^^ BitVec.ofInt 64 (b : Int)).toNat : Int) = _
  rw [BitVec.toNat_xor, h1, h2, IntKind.wrap_i64]
  omega
end Go.Proofs.YtboigdpcahdidabDoor

/- The model's numbers of texts: numberOf, hexOf. -/
namespace Go.Proofs.YtboigdpcahdidabDoor
open Go.RowKit

namespace Lh
theorem fold_ten : ∀ (l : List UInt8) (a : Nat), l.all isDg = true → l.foldl (fun n c => 10 * n + (c.toNat - 48)) a < (a + 1) * 10 ^ l.length
  | [], a, _ => by simp
  | c :: l, a, h => by
    simp only [List.all_cons, Bool.and_eq_true] at h
    have hc : c.toNat ≤ 57 := by
      have := h.1
      simp [isDg] at this
      omega
    have := fold_ten l (10 * a + (c.toNat - 48)) h.2
    simp only [List.foldl_cons, List.length_cons]
    refine Nat.lt_of_lt_of_le this ?_
    rw [Nat.pow_succ, Nat.mul_comm (10 ^ l.length) 10, ← Nat.mul_assoc]
    exact Nat.mul_le_mul_right _ (by omega)
theorem valL_lt {l : List UInt8} (h : l.all isDg = true) : valL l < 10 ^ l.length := by
  have := fold_ten l 0 h
  simpa [valL] using this
theorem valL_small {l : List UInt8} (h : l.all isDg = true) (hl : l.length ≤ 14) : valL l < 100000000000000 := by
  have h1 := valL_lt h
  have h2 : 10 ^ l.length ≤ 10 ^ 14 := Nat.pow_le_pow_right (by decide) hl
  omega
/-- A number of digits as the model answers it. -/
def numI (l : List UInt8) : Int := match numL l with
  | some n => (n : Int)
  | none => -1
theorem numI_bad {l : List UInt8} (h : l = [] ∨ 14 < l.length ∨ (1 < l.length ∧ l.head? = some 48) ∨ l.all isDg = false) : numI l = -1 := by
  have : numL l = none := by unfold numL; rw [if_pos h]
  unfold numI
  rw [this]
theorem numI_good {l : List UInt8} (h1 : l ≠ []) (h2 : l.length ≤ 14) (h3 : ¬ (1 < l.length ∧ l.head? = some 48)) (h4 : l.all isDg = true) : numI l = (valL l : Int) := by
  have : numL l = some (valL l) := by
    unfold numL
    rw [if_neg]
    rintro (h | h | h | h)
    · exact h1 h
    · omega
    · exact h3 h
    · rw [h4] at h; cases h
  unfold numI
  rw [this]
end Lh
namespace Lh
theorem hexV_take {l : List UInt8} {i : Nat} (h : i < l.length) {b : UInt8} (hb : l[i] = b) : hexV (l.take (i + 1)) = (hexV (l.take i)).bind fun n => (hxV b).map fun d => 16 * n + d := by
  subst hb
  rw [List.take_succ_eq_append_getElem h, hexV_snoc]
theorem hexV_none : ∀ (l : List UInt8), l.foldl (fun n c => n.bind fun n => (hxV c).map fun d => 16 * n + d) (none : Option Nat) = none
  | [] => rfl
  | c :: l => by
    rw [List.foldl_cons]
    exact hexV_none l
theorem hexV_bad {l : List UInt8} {i : Nat} (h : hexV (l.take i) = none) : hexV l = none := by
  have e : hexV l = (l.drop i).foldl (fun n c => n.bind fun n => (hxV c).map fun d => 16 * n + d) (hexV (l.take i)) := by
    unfold hexV
    rw [← List.foldl_append, List.take_append_drop]
  rw [e, h, hexV_none]
theorem hexV_lt {l : List UInt8} {n : Nat} (h : hexV l = some n) : n < 16 ^ l.length := (hexL_hexV h).2
end Lh
end Go.Proofs.YtboigdpcahdidabDoor
