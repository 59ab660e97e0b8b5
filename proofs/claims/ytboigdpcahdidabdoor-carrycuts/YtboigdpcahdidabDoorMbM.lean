/- The model's CarryFault. -/
import Derived.Test.YtboigdpcahdidabDoorFcM
import Derived.Test.YtboigdpcahdidabDoorOwM
import Derived.BigQuiet
import Derived.Deep.QuietTactic
import Derived.Test.YtboigdpcahdidabDoorMaM
import Derived.Laws.Strings
namespace Go.Proofs.YtboigdpcahdidabDoor
open Go.RowKit

def GoodF (l : List Lh.Fl) (i : Nat) (h : i < l.length) : Prop := Lh.isNm (l[i]).2.1 = true ∧ 0 ≤ (l[i]).2.2 ∧ (l[i]).2.2 ≤ 1099511628776 ∧ ∀ j (hj : j < l.length), j < i → (l[j]).1 ≠ (l[i]).1
/-- What is wrong with a flow. -/
def FlawF (l : List Lh.Fl) (i : Nat) (h : i < l.length) (c : Nat) : Prop := (Lh.isNm (l[i]).2.1 = false ∧ c = 4) ∨ (Lh.isNm (l[i]).2.1 = true ∧ ((l[i]).2.2 < 0 ∨ 1099511628776 < (l[i]).2.2) ∧ c = 2) ∨ (Lh.isNm (l[i]).2.1 = true ∧ 0 ≤ (l[i]).2.2 ∧ (l[i]).2.2 ≤ 1099511628776 ∧ (∃ j, ∃ hj : j < l.length, j < i ∧ (l[j]).1 = (l[i]).1) ∧ c = 6)
/-- What is wrong with flows that are to be carried. -/
def CaF (e : Int) (l : List Lh.Fl) (c : Nat) (pl : Int) : Prop :=
  ((e < 0 ∨ 1099511627776 < e ∨ 200 < l.length) ∧ c = 2 ∧ pl = -1) ∨
  ((0 ≤ e ∧ e ≤ 1099511627776 ∧ l.length ≤ 200) ∧ ∃ i, ∃ h : i < l.length, (∀ j, j < i → ∀ hj : j < l.length, GoodF l j hj) ∧ pl = i ∧ FlawF l i h c) ∨
  ((0 ≤ e ∧ e ≤ 1099511627776 ∧ l.length ≤ 200) ∧ (∀ j, ∀ hj : j < l.length, GoodF l j hj) ∧ c = 0 ∧ pl = -1)
theorem flaw_good {l : List Lh.Fl} {i : Nat} {h : i < l.length} {c : Nat} (hf : FlawF l i h c) : ¬ GoodF l i h := by
  rintro ⟨g1, g2, g3, g4⟩
  rcases hf with ⟨h1, _⟩ | ⟨_, h2, _⟩ | ⟨_, _, _, ⟨j, hj, h3, h4⟩, _⟩
  · rw [g1] at h1; cases h1
  · omega
  · exact g4 j hj h3 h4
theorem flaw_one {l : List Lh.Fl} {i : Nat} {h : i < l.length} {c c' : Nat} (hf : FlawF l i h c) (hf' : FlawF l i h c') : c = c' := by
  rcases hf with ⟨h1, e1⟩ | ⟨h1, h2, e1⟩ | ⟨h1, h2, h3, h4, e1⟩ <;> rcases hf' with ⟨g1, e2⟩ | ⟨g1, g2, e2⟩ | ⟨g1, g2, g3, g4, e2⟩ <;> first | omega | (rw [h1] at g1; cases g1)
theorem caF_one {e : Int} {l : List Lh.Fl} {c c' : Nat} {pl pl' : Int} (hf : CaF e l c pl) (hf' : CaF e l c' pl') : c = c' ∧ pl = pl' := by
  rcases hf with ⟨h1, e1, e2⟩ | ⟨h1, i, hi, h2, e2, h3⟩ | ⟨h1, h2, e1, e2⟩ <;> rcases hf' with ⟨g1, d1, d2⟩ | ⟨g1, k, hk, g2, d2, g3⟩ | ⟨g1, g2, d1, d2⟩
  · omega
  · omega
  · omega
  · omega
  · have : i = k := by
      rcases Nat.lt_trichotomy i k with h | h | h
      · exact absurd (g2 i h hi) (flaw_good h3)
      · exact h
      · exact absurd (h2 k h hk) (flaw_good g3)
    subst this
    exact ⟨flaw_one h3 g3, by omega⟩
  · exact absurd (g2 i hi) (flaw_good h3)
  · omega
  · exact absurd (h2 k hk) (flaw_good g3)
  · omega

end Go.Proofs.YtboigdpcahdidabDoor

/- Texts of flows as lists: the body, line by line; how long. -/
namespace Go.Proofs.YtboigdpcahdidabDoor
namespace Lh
def rowsB (l : List Fl) : List UInt8 := l.flatMap fun x => lineF x ++ [10]
theorem join_rows : ∀ (w : List UInt8) (l : List Fl), joinL 10 (w :: l.map lineF) ++ [10] = w ++ [10] ++ rowsB l
  | w, [] => by simp [joinL, rowsB]
  | w, x :: l => by
    have := join_rows (lineF x) l
    simp only [List.map_cons, rowsB, List.flatMap_cons] at this ⊢
    show w ++ 10 :: joinL 10 (lineF x :: l.map lineF) ++ [10] = _
    rw [List.append_assoc, List.cons_append, this]
    simp
theorem body_rows (e : Nat) (l : List Fl) : bodyL e l = headL e l.length ++ [10] ++ rowsB l := join_rows _ _
theorem rowsB_snoc (l : List Fl) (x : Fl) : rowsB (l ++ [x]) = rowsB l ++ (lineF x ++ [10]) := by simp [rowsB]
theorem rowsB_take {l : List Fl} {i : Nat} (h : i < l.length) : rowsB (l.take (i + 1)) = rowsB (l.take i) ++ (lineF l[i] ++ [10]) := by
  rw [List.take_succ_eq_append_getElem h, rowsB_snoc]
theorem lineF_len {x : Fl} (h1 : x.2.1.size ≤ 60) (h2 : x.2.2.toNat < 100000000000000) : (lineF x).length ≤ 92 := by
  have e1 := hexL_len 16 x.1
  have e2 := decL_len (n := x.2.2.toNat) (k := 14) (by decide) (by omega)
  have e3 : x.2.1.data.toList.length = x.2.1.size := rfl
  simp only [lineF, joinL, List.length_append, List.length_cons]
  omega
theorem rowsB_len : ∀ {l : List Fl}, (∀ x ∈ l, x.2.1.size ≤ 60 ∧ x.2.2.toNat < 100000000000000) → (rowsB l).length ≤ 93 * l.length
  | [], _ => by simp [rowsB]
  | x :: l, h => by
    have h1 := rowsB_len (l := l) fun y hy => h y (List.mem_cons_of_mem _ hy)
    have h2 := lineF_len (h x (List.mem_cons_self ..)).1 (h x (List.mem_cons_self ..)).2
    simp only [rowsB, List.flatMap_cons, List.length_append, List.length_cons, List.length_nil] at h1 ⊢
    omega
theorem headL_len {e n : Nat} (he : e < 100000000000000) (hn : n < 100000000000000) : (headL e n).length ≤ 35 := by
  have e1 := decL_len (n := e) (k := 14) (by decide) (by omega)
  have e2 := decL_len (n := n) (k := 14) (by decide) (by omega)
  simp only [headL, joinL, flowsW, List.length_append, List.length_cons, List.length_nil]
  omega
end Lh
end Go.Proofs.YtboigdpcahdidabDoor

/- Texts of flows as lists: what is wrong with a line. -/
namespace Go.Proofs.YtboigdpcahdidabDoor
namespace Lh
theorem bt_list (l : List UInt8) : (bt l).toList = l := by rw [ByteArray.toList_eq]; rfl
theorem bt_void {l : List UInt8} (h : l = []) : (bt l).toList.isEmpty = true := by rw [bt_list, h]; rfl
theorem bt_some {l : List UInt8} (h : l ≠ []) : (bt l).toList.isEmpty = false := by
  rw [bt_list]
  cases l with
  | nil => exact absurd rfl h
  | cons c l => rfl
theorem bt_is {l k : List UInt8} (h : l = k) : ((bt l).toList == k) = true := by rw [bt_list, h]; simp
theorem bt_not {l k : List UInt8} (h : l ≠ k) : ((bt l).toList == k) = false := by
  rw [bt_list, beq_eq_false_iff_ne]
  exact h
theorem num_ex (l : List UInt8) : numL l = none ∨ ∃ n, numL l = some n := by
  cases numL l with
  | none => exact Or.inl rfl
  | some n => exact Or.inr ⟨n, rfl⟩
theorem first_len {w : List UInt8} (h : (cutL 32 w).length ≠ 3) : firstL w = none := by
  unfold firstL
  split
  · rename_i a b c e
    rw [e] at h
    exact absurd rfl h
  · rfl
theorem first_word {w a b c : List UInt8} (e : cutL 32 w = [a, b, c]) (h : a ≠ flowsW) : firstL w = none := by
  unfold firstL
  rw [e]
  simp only
  rw [if_pos h]
theorem first_num {w a b c : List UInt8} (e : cutL 32 w = [a, b, c]) (h : numL b = none ∨ numL c = none) : firstL w = none := by
  unfold firstL
  rw [e]
  simp only
  split
  · rfl
  · rcases h with h | h
    · rw [h]
    · rw [h]; split <;> simp_all
theorem first_some {w a b c : List UInt8} (e : cutL 32 w = [a, b, c]) (h : a = flowsW) {m n : Nat} (hb : numL b = some m) (hc : numL c = some n) : firstL w = some (m, n) := by
  unfold firstL
  rw [e]
  simp only
  rw [if_neg (by simpa using h), hb, hc]
theorem line_len {w : List UInt8} (h : (cutL 32 w).length ≠ 3) : lineV w = none := by
  unfold lineV
  split
  · rename_i a b c e
    rw [e] at h
    exact absurd rfl h
  · rfl
theorem line_word {w a b c : List UInt8} (e : cutL 32 w = [a, b, c]) (h : b = [] ∨ a.length ≠ 16) : lineV w = none := by
  unfold lineV
  rw [e]
  simp only
  rw [if_pos h]
theorem line_num {w a b c : List UInt8} (e : cutL 32 w = [a, b, c]) (h : hexV a = none ∨ numL c = none) : lineV w = none := by
  unfold lineV
  rw [e]
  simp only
  split
  · rfl
  · rcases h with h | h
    · rw [h]
    · rw [h]; split <;> simp_all
theorem line_some {w a b c : List UInt8} (e : cutL 32 w = [a, b, c]) (h1 : b ≠ []) (h2 : a.length = 16) {k u : Nat} (hb : hexV a = some k) (hc : numL c = some u) : lineV w = some (k, bt b, (u : Int)) := by
  unfold lineV
  rw [e]
  simp only
  rw [if_neg (by simp [h1, h2]), hb, hc]
theorem last_len {w : List UInt8} (h : (cutL 32 w).length ≠ 2) : lastL w = none := by
  unfold lastL
  split
  · rename_i a b e
    rw [e] at h
    exact absurd rfl h
  · rfl
theorem last_word {w a b : List UInt8} (e : cutL 32 w = [a, b]) (h : a ≠ sumW ∨ b.length ≠ 8) : lastL w = none := by
  unfold lastL
  rw [e]
  simp only
  rw [if_pos h]
theorem last_hex {w a b : List UInt8} (e : cutL 32 w = [a, b]) (h1 : a = sumW) (h2 : b.length = 8) : lastL w = hexV b := by
  unfold lastL
  rw [e]
  simp only
  rw [if_neg (by simp [h1, h2])]
theorem last_none {w a b : List UInt8} (e : cutL 32 w = [a, b]) (h : hexV b = none) : lastL w = none := by
  unfold lastL
  rw [e]
  simp only
  split
  · rfl
  · exact h
theorem rows_snoc : ∀ {ws : List (List UInt8)} {L : List Fl} {w : List UInt8} {x : Fl}, rowsL ws = some L → lineV w = some x → rowsL (ws ++ [w]) = some (L ++ [x])
  | [], L, w, x, h, hx => by
    cases h
    simp [rowsL, hx]
  | y :: ws, L, w, x, h, hx => by
    simp only [rowsL] at h
    split at h
    · rename_i z l h1 h2
      cases h
      have := rows_snoc h2 hx
      simp only [List.cons_append, rowsL, h1, this]
    · cases h
theorem rows_bad : ∀ {ws : List (List UInt8)} {w : List UInt8}, w ∈ ws → lineV w = none → rowsL ws = none
  | y :: ws, w, h, hx => by
    simp only [rowsL]
    rcases List.mem_cons.1 h with rfl | h
    · rw [hx]
    · rw [rows_bad h hx]
      split <;> simp_all
theorem join_split (y : UInt8) : ∀ (ls : List (List UInt8)) (i : Nat), 0 < i → i < ls.length → joinL y ls = joinL y (ls.take i) ++ y :: joinL y (ls.drop i)
  | [], i, _, h => by simp at h
  | [w], i, h0, h => by simp at h; omega
  | w :: x :: ls, 1, _, _ => rfl
  | w :: x :: ls, i + 2, _, h => by
    have := join_split y (x :: ls) (i + 1) (by omega) (by simpa using h)
    show w ++ y :: joinL y (x :: ls) = w ++ y :: joinL y ((x :: ls).take (i + 1)) ++ y :: joinL y ((x :: ls).drop (i + 1))
    rw [this]
    simp
theorem join_take {ls : List (List UInt8)} {i : Nat} (h0 : 0 < i) (h : i < ls.length) : (joinL 10 (ls.take (i + 1))).length = (joinL 10 (ls.take i)).length + ls[i].length + 1 := by
  rw [List.take_succ_eq_append_getElem h, joinL_snoc]
  · simp; omega
  · intro e
    have := congrArg List.length e
    rw [List.length_take, List.length_nil] at this
    omega
theorem join_ahead {ls : List (List UInt8)} {i : Nat} (h0 : 0 < i) (h : i < ls.length) : (joinL 10 ls).take ((joinL 10 (ls.take i)).length + 1) = joinL 10 (ls.take i) ++ [10] ∧ (joinL 10 (ls.take i)).length + 1 ≤ (joinL 10 ls).length := by
  rw [join_split 10 ls i h0 h]
  constructor
  · rw [List.take_append]
    simp
    exact List.take_of_length_le (by omega)
  · simp
theorem mem_mid {ls : List (List UInt8)} {i : Nat} (h0 : 0 < i) (h : i + 2 < ls.length) : ls[i] ∈ (ls.drop 1).take (ls.length - 3) := by
  rw [List.mem_iff_getElem]
  refine ⟨i - 1, by rw [List.length_take, List.length_drop]; omega, ?_⟩
  rw [List.getElem_take, List.getElem_drop]
  congr 1
  omega
theorem mid_step {ls : List (List UInt8)} {i : Nat} (h0 : 0 < i) (h : i < ls.length) : (ls.drop 1).take (i + 1 - 1) = (ls.drop 1).take (i - 1) ++ [ls[i]] := by
  have hi : i - 1 < (ls.drop 1).length := by rw [List.length_drop]; omega
  have e : i + 1 - 1 = (i - 1) + 1 := by omega
  rw [e, List.take_succ_eq_append_getElem hi, List.getElem_drop]
  congr 2
  congr 1
  omega
end Lh
end Go.Proofs.YtboigdpcahdidabDoor
