/- A text of flows, parted from its end: the sum's line, then the lines ahead of it: the same parts. -/
import Derived.Test.YtboigdpcahdidabGreatDoorCaMath8
namespace Go.Proofs.YtboigdpcahdidabGreatDoor
namespace Lh
theorem cutL_mid (y : UInt8) : ∀ a b : List UInt8, cutL y (a ++ y :: b) = cutL y a ++ cutL y b
  | [], b => by
    rw [List.nil_append, cutL_cons, if_pos rfl]
    rfl
  | c :: a, b => by
    rw [List.cons_append, cutL_cons, cutL_cons, cutL_mid y a b]
    by_cases hc : c = y
    · rw [if_pos hc, if_pos hc]
      rfl
    · rw [if_neg hc, if_neg hc]
      obtain ⟨w, ws, e⟩ := cutL_some y a
      rw [e]
      rfl
theorem hexV_no {d : List UInt8} {k : Nat} (h : hexV d = some k) {y : UInt8} (hy : y.toNat < 48) : y ∉ d := by
  obtain ⟨e, _⟩ := hexL_hexV h
  rw [← e]
  exact hexL_no _ _ hy
/-- the sum's line -/
def sumD (d : List UInt8) : List UInt8 := sumW ++ 32 :: d
theorem sumD_no {d : List UInt8} {k : Nat} (h : hexV d = some k) : (10 : UInt8) ∉ sumD d := by
  have := hexV_no h (y := 10) (by decide)
  simp [sumD, sumW, this]
theorem last_sumD {d : List UInt8} {k : Nat} (hl : d.length = 8) (h : hexV d = some k) : lastL (sumD d) = some k := by
  have h1 : cutL 32 (sumD d) = [sumW, d] := by
    unfold sumD
    rw [cutL_mid, cutL_word (hexV_no h (by decide))]
    rfl
  rw [last_hex h1 rfl hl, h]
theorem cut_lines {inner d : List UInt8} {k : Nat} (h : hexV d = some k) : cutL 10 (inner ++ [10] ++ sumD d ++ [10]) = cutL 10 inner ++ [sumD d] ++ [[]] := by
  rw [show inner ++ [10] ++ sumD d ++ [10] = inner ++ 10 :: (sumD d ++ 10 :: []) by simp, cutL_mid, cutL_mid, cutL_word (sumD_no h)]
  simp [cutL]
theorem ls_last (ls : List (List UInt8)) (a : List UInt8) : (ls ++ [a] ++ [[]]).length = ls.length + 2 ∧ (ls ++ [a] ++ [[]]).getD (ls.length + 1) [] = [] ∧ (ls ++ [a] ++ [[]]).getD ls.length [] = a ∧ (ls ++ [a] ++ [[]]).take ls.length = ls := by
  refine ⟨by simp, ?_, ?_, by simp⟩
  · simp [List.getD_eq_getElem?_getD]
  · simp [List.getD_eq_getElem?_getD]
theorem ls_mid {ls : List (List UInt8)} (h : ls ≠ []) (a : List UInt8) : (ls ++ [a] ++ [[]]).getD 0 [] = ls.getD 0 [] ∧ ((ls ++ [a] ++ [[]]).drop 1).take (ls.length - 1) = ls.drop 1 := by
  match ls, h with
  | w :: ws, _ => exact ⟨rfl, by simp⟩
theorem cut_pos (y : UInt8) (l : List UInt8) : 0 < (cutL y l).length := List.length_pos_iff.2 (cutL_ne y l)
theorem parts_yes {inner d : List UInt8} {e n k : Nat} {L : List Fl} (hl : d.length = 8) (hx : hexV d = some k) (h1 : firstL ((cutL 10 inner).getD 0 []) = some (e, n)) (h2 : n + 1 = (cutL 10 inner).length) (h3 : rowsL ((cutL 10 inner).drop 1) = some L) :
    partsL (cutL 10 (inner ++ [10] ++ sumD d ++ [10])) = some (e, L, k, cutL 10 inner) := by
  have hp := cut_pos 10 inner
  obtain ⟨q1, q2, q3, q4⟩ := ls_last (cutL 10 inner) (sumD d)
  obtain ⟨q5, q6⟩ := ls_mid (cutL_ne 10 inner) (sumD d)
  rw [cut_lines hx]
  have r := parts_some (ls := cutL 10 inner ++ [sumD d] ++ [[]]) (e := e) (n := n) (k := k) (l := L) (by
    rw [q1, show (cutL 10 inner).length + 2 - 1 = (cutL 10 inner).length + 1 by omega, q2]
    simp
    omega) (by rw [q5]; exact h1) (by rw [q1]; omega) (by rw [q1, show (cutL 10 inner).length + 2 - 3 = (cutL 10 inner).length - 1 by omega, q6]; exact h3) (by rw [q1, show (cutL 10 inner).length + 2 - 2 = (cutL 10 inner).length by omega, q3]; exact last_sumD hl hx)
  rw [r, q1, show (cutL 10 inner).length + 2 - 2 = (cutL 10 inner).length by omega, q4]
theorem parts_no {inner d : List UInt8} {k : Nat} (hx : hexV d = some k) (h : firstL ((cutL 10 inner).getD 0 []) = none ∨ rowsL ((cutL 10 inner).drop 1) = none ∨ ∃ e n, firstL ((cutL 10 inner).getD 0 []) = some (e, n) ∧ n + 1 ≠ (cutL 10 inner).length) :
    partsL (cutL 10 (inner ++ [10] ++ sumD d ++ [10])) = none := by
  have hp := cut_pos 10 inner
  obtain ⟨q1, q2, q3, q4⟩ := ls_last (cutL 10 inner) (sumD d)
  obtain ⟨q5, q6⟩ := ls_mid (cutL_ne 10 inner) (sumD d)
  rw [cut_lines hx]
  rcases h with h | h | ⟨e, n, h, hn⟩
  · exact parts_first (by rw [q5]; exact h)
  · exact parts_rows (by rw [q1, show (cutL 10 inner).length + 2 - 3 = (cutL 10 inner).length - 1 by omega, q6]; exact h)
  · exact parts_many (by rw [q5]; exact h) (by rw [q1]; omega)
theorem lastL_digits {w : List UInt8} {k : Nat} (h : lastL w = some k) : ∃ d, w = sumD d ∧ d.length = 8 ∧ hexV d = some k := by
  have hj := cut_join 32 w
  unfold lastL at h
  split at h
  · rename_i a b hc
    split at h
    · cases h
    · rename_i hn
      simp only [not_or, Decidable.not_not] at hn
      rw [hc] at hj
      exact ⟨b, by rw [← hj, hn.1]; rfl, hn.2, h⟩
  · cases h
/-- A text that has parts ends with a sum's line. -/
theorem parts_back {s : List UInt8} {e k : Nat} {L : List Fl} {ps : List (List UInt8)} (h : partsL (cutL 10 s) = some (e, L, k, ps)) : ∃ inner d, s = inner ++ [10] ++ sumD d ++ [10] ∧ d.length = 8 ∧ hexV d = some k := by
  have hj := cut_join 10 s
  generalize cutL 10 s = ls at h hj
  unfold partsL at h
  split at h
  · cases h
  · rename_i hc
    simp only [not_or, Decidable.not_not, Nat.not_lt] at hc
    split at h
    · rename_i e' n l' k' hf hr hs
      split at h
      · cases h
      · cases h
        obtain ⟨d, hd, hl, hx⟩ := lastL_digits hs
        have hls : ls = ls.take (ls.length - 2) ++ [ls.getD (ls.length - 2) []] ++ [ls.getD (ls.length - 1) []] := by
          rw [List.getD_eq_getElem?_getD, List.getD_eq_getElem?_getD, List.getElem?_eq_getElem (by omega), List.getElem?_eq_getElem (by omega)]
          simp only [Option.getD_some]
          have q1 := List.take_succ_eq_append_getElem (l := ls) (i := ls.length - 2) (by omega)
          have q2 := List.take_succ_eq_append_getElem (l := ls) (i := ls.length - 2 + 1) (by omega)
          rw [q1] at q2
          have q3 : ls.take (ls.length - 2 + 1 + 1) = ls := List.take_of_length_le (by omega)
          rw [q3] at q2
          have q4 : ls[ls.length - 1] = ls[ls.length - 2 + 1]'(by omega) := by congr 1; omega
          rw [q4]
          exact q2
        have hne : ls.take (ls.length - 2) ≠ [] := fun h0 => by
          have := congrArg List.length h0
          simp at this
          omega
        refine ⟨joinL 10 (ls.take (ls.length - 2)), d, ?_, hl, hx⟩
        rw [hd, hc.2] at hls
        rw [← hj]
        conv => lhs; rw [hls]
        rw [joinL_snoc _ _ _ (by simp), joinL_snoc _ _ _ hne]
        simp
    · cases h
/-- Where the sum's line stands is told by the length. -/
theorem sum_one {b b' d d' : List UInt8} (hd : d.length = 8) (hd' : d'.length = 8) (h : b ++ sumD d ++ [10] = b' ++ sumD d' ++ [10]) : b = b' ∧ d = d' := by
  rw [List.append_assoc, List.append_assoc] at h
  have hl := congrArg List.length h
  obtain ⟨e1, e2⟩ := List.append_inj h (by simp [sumD, hd, hd'] at hl ⊢; omega)
  refine ⟨e1, ?_⟩
  have e3 := List.append_cancel_right e2
  unfold sumD at e3
  have e4 := List.append_cancel_left e3
  simpa using e4
end Lh
end Go.Proofs.YtboigdpcahdidabGreatDoor
