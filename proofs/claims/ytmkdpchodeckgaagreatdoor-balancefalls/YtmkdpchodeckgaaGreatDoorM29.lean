/- The model's small functions of texts: hex. -/
import Derived.Test.YtmkdpchodeckgaaGreatDoorChecked
import Derived.Test.YtmkdpchodeckgaaGreatDoorM28
import Derived.WalkKit
import Derived.WalkLawsBesides
import Derived.WalkSpells
import Derived.Below
import Derived.Laws.Concat
import Derived.Laws.Strings2
import Derived.Test.YtmkdpchodeckgaaGreatDoorM0
import Derived.Test.YtmkdpchodeckgaaGreatDoorM4
import Derived.BigQuiet
import Derived.Deep.QuietTactic
import Derived.Laws.AppendOwnNone
import Derived.Test.YtmkdpchodeckgaaGreatDoorM7
import Derived.Laws.StructEq
import Derived.Test.YtmkdpchodeckgaaGreatDoorM2
namespace Go.Proofs.YtmkdpchodeckgaaGreatDoor
open Go.RowKit

namespace Lh
theorem bt_append (a b : List UInt8) : bt a ++ bt b = bt (a ++ b) := ByteArray.mk_append_mk a b
theorem bt_extract (l : List UInt8) (i j : Nat) : (bt l).extract i j = bt ((l.drop i).take (j - i)) := ByteArray.extract_mk l i j
theorem bt_size (l : List UInt8) : (bt l).size = l.length := by simp [bt, ByteArray.size]
theorem hexL_cons : ∀ k n, hexL (k + 1) n = hxU (n / 16 ^ k % 16) :: hexL k n
  | 0, n => by simp [hexL]
  | k + 1, n => by
    show hexL (k + 1) (n / 16) ++ [hxU (n % 16)] = _
    rw [hexL_cons k (n / 16)]
    show hxU (n / 16 / 16 ^ k % 16) :: (hexL k (n / 16) ++ [hxU (n % 16)]) = _
    rw [Nat.div_div_eq_div_mul, show 16 * 16 ^ k = 16 ^ (k + 1) by rw [Nat.pow_succ]; omega]
    rfl
def digs : List UInt8 := [48, 49, 50, 51, 52, 53, 54, 55, 56, 57, 97, 98, 99, 100, 101, 102]
theorem digs_at : ∀ d : Fin 16, (digs.drop d.1).take (d.1 + 1 - d.1) = [hxU d.1] := by decide
end Lh
end Go.Proofs.YtmkdpchodeckgaaGreatDoor

/- The model's small functions of texts: Byte, Decimal. -/
namespace Go.Proofs.YtmkdpchodeckgaaGreatDoor
open Go.RowKit

theorem fold_take {α β : Type} (f : α → β → α) (z : α) {s : List β} {i : Nat} (h : i < s.length) {b : β} (hb : s[i] = b) : (s.take (i + 1)).foldl f z = f ((s.take i).foldl f z) b := by
  subst hb
  rw [List.take_succ_eq_append_getElem h, List.foldl_append]
  rfl
theorem fold_range {α : Type} (f : α → Nat → α) (z : α) (k : Nat) : (List.range (k + 1)).foldl f z = f ((List.range k).foldl f z) k := by
  rw [List.range_succ, List.foldl_append]
  rfl
theorem xorI (a b : Nat) (ha : a < 2 ^ 32) (hb : b < 2 ^ 32) : bits .xor .i64 (a : Int) (b : Int) = ((a ^^^ b : Nat) : Int) := by
  have hx : a ^^^ b < 2 ^ 32 := Nat.xor_lt_two_pow ha hb
  have h1 : (BitVec.ofInt 64 (a : Int)).toNat = a := by
    rw [BitVec.ofInt_natCast, BitVec.toNat_ofNat]; exact Nat.mod_eq_of_lt (by omega)
  have h2 : (BitVec.ofInt 64 (b : Int)).toNat = b := by
    rw [BitVec.ofInt_natCast, BitVec.toNat_ofNat]; exact Nat.mod_eq_of_lt (by omega)
  show IntKind.i64.wrap ((BitVec.ofInt 64 (a : Int) ^^^ BitVec.ofInt 64 (b : Int)).toNat : Int) = _
  rw [BitVec.toNat_xor, h1, h2, IntKind.wrap_i64]
  omega
end Go.Proofs.YtmkdpchodeckgaaGreatDoor

/- The model's numbers of texts: numberOf, hexOf. -/
namespace Go.Proofs.YtmkdpchodeckgaaGreatDoor
open Go.RowKit

namespace Lh
theorem fold_ten : ∀ (l : List UInt8) (a : Nat), l.all isDg = true → l.foldl (fun n c => 10 * n + (c.toNat - 48)) a < (a + 1) * 10 ^ l.length
  | [], a, _ => by simp
  | c :: l, a, h => by
    simp only [List.all_cons, Bool.and_eq_true] at h
    have hc : c.toNat ≤ 57 := by
      have := h.1
      simp [isDg] at this
      omega
    have := fold_ten l (10 * a + (c.toNat - 48)) h.2
    simp only [List.foldl_cons, List.length_cons]
    refine Nat.lt_of_lt_of_le this ?_
    rw [Nat.pow_succ, Nat.mul_comm (10 ^ l.length) 10, ← Nat.mul_assoc]
    exact Nat.mul_le_mul_right _ (by omega)
theorem valL_lt {l : List UInt8} (h : l.all isDg = true) : valL l < 10 ^ l.length := by
  have := fold_ten l 0 h
  simpa [valL] using this
theorem valL_small {l : List UInt8} (h : l.all isDg = true) (hl : l.length ≤ 14) : valL l < 100000000000000 := by
  have h1 := valL_lt h
  have h2 : 10 ^ l.length ≤ 10 ^ 14 := Nat.pow_le_pow_right (by decide) hl
  omega
/-- A number of digits as the model answers it. -/
def numI (l : List UInt8) : Int := match numL l with
  | some n => (n : Int)
  | none => -1
theorem numI_bad {l : List UInt8} (h : l = [] ∨ 14 < l.length ∨ (1 < l.length ∧ l.head? = some 48) ∨ l.all isDg = false) : numI l = -1 := by
  have : numL l = none := by unfold numL; rw [if_pos h]
  unfold numI
  rw [this]
theorem numI_good {l : List UInt8} (h1 : l ≠ []) (h2 : l.length ≤ 14) (h3 : ¬ (1 < l.length ∧ l.head? = some 48)) (h4 : l.all isDg = true) : numI l = (valL l : Int) := by
  have : numL l = some (valL l) := by
    unfold numL
    rw [if_neg]
    rintro (h | h | h | h)
    · exact h1 h
    · omega
    · exact h3 h
    · rw [h4] at h; cases h
  unfold numI
  rw [this]
end Lh
namespace Lh
theorem hexV_take {l : List UInt8} {i : Nat} (h : i < l.length) {b : UInt8} (hb : l[i] = b) : hexV (l.take (i + 1)) = (hexV (l.take i)).bind fun n => (hxV b).map fun d => 16 * n + d := by
  subst hb
  rw [List.take_succ_eq_append_getElem h, hexV_snoc]
theorem hexV_none : ∀ (l : List UInt8), l.foldl (fun n c => n.bind fun n => (hxV c).map fun d => 16 * n + d) (none : Option Nat) = none
  | [] => rfl
  | c :: l => by
    rw [List.foldl_cons]
    exact hexV_none l
theorem hexV_bad {l : List UInt8} {i : Nat} (h : hexV (l.take i) = none) : hexV l = none := by
  have e : hexV l = (l.drop i).foldl (fun n c => n.bind fun n => (hxV c).map fun d => 16 * n + d) (hexV (l.take i)) := by
    unfold hexV
    rw [← List.foldl_append, List.take_append_drop]
  rw [e, h, hexV_none]
theorem hexV_lt {l : List UInt8} {n : Nat} (h : hexV l = some n) : n < 16 ^ l.length := (hexL_hexV h).2
end Lh
end Go.Proofs.YtmkdpchodeckgaaGreatDoor

/- The model's cut of a text by a byte. -/
namespace Go.Proofs.YtmkdpchodeckgaaGreatDoor
open Go.RowKit

namespace Lh
/-- A word's bytes ahead of the first of some words. -/
def glue (w : List UInt8) : List (List UInt8) → List (List UInt8)
  | [] => [w]
  | x :: xs => (w ++ x) :: xs
theorem glue_nil {z : List (List UInt8)} (h : z ≠ []) : glue [] z = z := by
  cases z with
  | nil => exact absurd rfl h
  | cons x xs => rfl
theorem glue_hit (y : UInt8) (w r : List UInt8) : glue w (cutL y (y :: r)) = [w] ++ glue [] (cutL y r) := by
  rw [cutL_cons, if_pos rfl, glue_nil (cutL_ne y r)]
  simp [glue]
theorem glue_miss {y c : UInt8} (h : c ≠ y) (w r : List UInt8) : glue w (cutL y (c :: r)) = glue (w ++ [c]) (cutL y r) := by
  obtain ⟨x, xs, e⟩ := cutL_some y r
  rw [cutL_cons, if_neg h, e]
  simp [glue]
end Lh
def wordsV (ws : List (List UInt8)) : List Value := ws.map fun w => .string (Lh.bt w)

end Go.Proofs.YtmkdpchodeckgaaGreatDoor

/- Flows that are the same. -/
namespace Go.Proofs.YtmkdpchodeckgaaGreatDoor
open Go.RowKit

theorem Flows1.cells {w : World} {v : Value} {L : List Lh.Fl} (h : Flows1 w v L) : ∃ p c, v = .slice p L.length c ∧ ∀ i (hi : i < L.length), ∃ b o, p = some ⟨b, o, none⟩ ∧ w.cell? ⟨b, o + i * 3, none⟩ = some (.int .u64 (L[i].1 : Nat)) ∧ w.cell? ⟨b, o + i * 3 + 1, none⟩ = some (.string L[i].2.1) ∧ w.cell? ⟨b, o + i * 3 + 2, none⟩ = some (.int .i64 L[i].2.2) := by
  rcases h with ⟨rfl, rfl | ⟨ad, c, rfl⟩⟩ | ⟨b, o, c, rfl, _, h⟩
  · exact ⟨_, _, rfl, fun i hi => absurd hi (by simp)⟩
  · exact ⟨_, c, rfl, fun i hi => absurd hi (by simp)⟩
  · exact ⟨_, c, rfl, fun i hi => ⟨b, o, rfl, h i hi⟩⟩

theorem neqFl (k : Nat) (s : ByteArray) (u : Int) (w : World) : (binOp .neq 48 (.agg #[.int .u64 (k : Nat), .string s, .int .i64 u]) (.agg #[.int .u64 (k : Nat), .string s, .int .i64 u])).run Tryz.prog w = .ok (.bool false) w := by
  have hS : Tryz.prog.underlying 48 = some (.struct (Tryz.prog.fieldsOf 48)) := by kernel_rfl
  have hp : Tryz.prog.stoodInHeld 48 = false := by kernel_rfl
  have u1 := Tryz.underlying32
  have a1 := Tryz.isAgg32
  have z1 := Tryz.sizeOf32
  have u2 := Tryz.underlying9
  have a2 := Tryz.isAgg9
  have z2 := Tryz.sizeOf9
  have u3 := Tryz.underlying3
  have a3 := Tryz.isAgg3
  have z3 := Tryz.sizeOf3
  rw [run_neq_struct, show (10000 : Nat) = 9999 + 1 from rfl, run_equalIn_agg w 9999 48 _ _ hS hp]
  simp only [Program.fieldsOf, Tryz.underlying48]
  go_simp

set_option maxRecDepth 100000 in
set_option maxHeartbeats 2000000 in
theorem sameFlows_same (va vb : Value) (L : List Lh.Fl) (W : World) (ha : Flows1 W va L) (hb : Flows1 W vb L) (hl : L.length ≤ 1000) :
    Calls Tryz.prog 14 #[va, vb] W fun e w' => e = .returned (.bool true) ∧ Below W.heap.size W w' := by
  obtain ⟨pa, ca, rfl, hca⟩ := ha.cells
  obtain ⟨pb, cb, rfl, hcb⟩ := hb.cells
  have HA : Hid _ := hca
  have HB : Hid _ := hcb
  clear ha hb hca hcb
  go_enter Tryz.func14, Tryz.ntmps14
  go_wp2_with fail
  go_loopw [5] (fun u w' => Below W.heap.size W w' ∧ ∃ i : Nat, i ≤ L.length ∧ u = .int .i64 (i : Nat)) (fun u _ => L.length - (intOf u).toNat)
  case atStart => exact ⟨Below.refl _ _, 0, Nat.zero_le _, rfl⟩
  case round =>
    obtain ⟨hb, i, hi, rfl⟩ := hrel
    by_cases hil : i < L.length
    · have hii : (i : Int) < (L.length : Int) := by omega
      obtain ⟨ba, oa, rfl, a0, a1, a2⟩ := HA.out i hil
      obtain ⟨bb, ob, rfl, b0, b1, b2⟩ := HB.out i hil
      have a0' := below_cell hb a0
      have a1' := below_cell hb a1
      have a2' := below_cell hb a2
      have b0' := below_cell hb b0
      have b1' := below_cell hb b1
      have b2' := below_cell hb b2
      clear a0 a1 a2 b0 b1 b2
      generalize (L[i]).1 = k at *
      generalize (L[i]).2.1 = s at *
      generalize (L[i]).2.2 = u at *
      have hne := neqFl k s u
      go_wp2_with fail
      go_quiet (fail)
      go_wp2
      exact ⟨⟨below_drewN hb nq, i + 1, by omega, by go_num⟩, by simp [intOf]; omega⟩
    · have hii : decide ((i : Int) < (L.length : Int)) = false := by simp; omega
      go_wp2
      go_ret
      exact ⟨rfl, hb⟩
end Go.Proofs.YtmkdpchodeckgaaGreatDoor

/- The model's CarryFault. -/
namespace Go.Proofs.YtmkdpchodeckgaaGreatDoor
open Go.RowKit

def GoodF (l : List Lh.Fl) (i : Nat) (h : i < l.length) : Prop := Lh.isNm (l[i]).2.1 = true ∧ 0 ≤ (l[i]).2.2 ∧ (l[i]).2.2 ≤ 1099511628776 ∧ ∀ j (hj : j < l.length), j < i → (l[j]).1 ≠ (l[i]).1
/-- What is wrong with a flow. -/
def FlawF (l : List Lh.Fl) (i : Nat) (h : i < l.length) (c : Nat) : Prop := (Lh.isNm (l[i]).2.1 = false ∧ c = 4) ∨ (Lh.isNm (l[i]).2.1 = true ∧ ((l[i]).2.2 < 0 ∨ 1099511628776 < (l[i]).2.2) ∧ c = 2) ∨ (Lh.isNm (l[i]).2.1 = true ∧ 0 ≤ (l[i]).2.2 ∧ (l[i]).2.2 ≤ 1099511628776 ∧ (∃ j, ∃ hj : j < l.length, j < i ∧ (l[j]).1 = (l[i]).1) ∧ c = 6)
/-- What is wrong with flows that are to be carried. -/
def CaF (e : Int) (l : List Lh.Fl) (c : Nat) (pl : Int) : Prop :=
  ((e < 0 ∨ 1099511627776 < e ∨ 200 < l.length) ∧ c = 2 ∧ pl = -1) ∨
  ((0 ≤ e ∧ e ≤ 1099511627776 ∧ l.length ≤ 200) ∧ ∃ i, ∃ h : i < l.length, (∀ j, j < i → ∀ hj : j < l.length, GoodF l j hj) ∧ pl = i ∧ FlawF l i h c) ∨
  ((0 ≤ e ∧ e ≤ 1099511627776 ∧ l.length ≤ 200) ∧ (∀ j, ∀ hj : j < l.length, GoodF l j hj) ∧ c = 0 ∧ pl = -1)
theorem flaw_good {l : List Lh.Fl} {i : Nat} {h : i < l.length} {c : Nat} (hf : FlawF l i h c) : ¬ GoodF l i h := by
  rintro ⟨g1, g2, g3, g4⟩
  rcases hf with ⟨h1, _⟩ | ⟨_, h2, _⟩ | ⟨_, _, _, ⟨j, hj, h3, h4⟩, _⟩
  · rw [g1] at h1; cases h1
  · omega
  · exact g4 j hj h3 h4
theorem flaw_one {l : List Lh.Fl} {i : Nat} {h : i < l.length} {c c' : Nat} (hf : FlawF l i h c) (hf' : FlawF l i h c') : c = c' := by
  rcases hf with ⟨h1, e1⟩ | ⟨h1, h2, e1⟩ | ⟨h1, h2, h3, h4, e1⟩ <;> rcases hf' with ⟨g1, e2⟩ | ⟨g1, g2, e2⟩ | ⟨g1, g2, g3, g4, e2⟩ <;> first | omega | (rw [h1] at g1; cases g1)
theorem caF_one {e : Int} {l : List Lh.Fl} {c c' : Nat} {pl pl' : Int} (hf : CaF e l c pl) (hf' : CaF e l c' pl') : c = c' ∧ pl = pl' := by
  rcases hf with ⟨h1, e1, e2⟩ | ⟨h1, i, hi, h2, e2, h3⟩ | ⟨h1, h2, e1, e2⟩ <;> rcases hf' with ⟨g1, d1, d2⟩ | ⟨g1, k, hk, g2, d2, g3⟩ | ⟨g1, g2, d1, d2⟩
  · omega
  · omega
  · omega
  · omega
  · have : i = k := by
      rcases Nat.lt_trichotomy i k with h | h | h
      · exact absurd (g2 i h hi) (flaw_good h3)
      · exact h
      · exact absurd (h2 k h hk) (flaw_good g3)
    subst this
    exact ⟨flaw_one h3 g3, by omega⟩
  · exact absurd (g2 i hi) (flaw_good h3)
  · omega
  · exact absurd (h2 k hk) (flaw_good g3)
  · omega

end Go.Proofs.YtmkdpchodeckgaaGreatDoor
