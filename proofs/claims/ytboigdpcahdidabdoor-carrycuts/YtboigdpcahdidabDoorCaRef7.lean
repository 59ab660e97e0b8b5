/- The model's CarryOf. -/
import Derived.Test.YtboigdpcahdidabDoorCrM
import Derived.Test.YtboigdpcahdidabDoorFcM
import Derived.Test.YtboigdpcahdidabDoorMbM
import Derived.Test.YtboigdpcahdidabDoorFlM
namespace Go.Proofs.YtboigdpcahdidabDoor
open Go.RowKit

/-- What a text says: epoch, flows, an error. -/
def ReadF (s : List UInt8) (n : Int) (l : List Lh.Fl) (c : Nat) (pl : Int) : Prop :=
  (20000 < s.length ∧ n = 0 ∧ l = [] ∧ c = 2 ∧ pl = -1) ∨
  (s.length ≤ 20000 ∧ Lh.partsL (Lh.cutL 10 s) = none ∧ n = 0 ∧ l = [] ∧ c = 1 ∧ pl = -1) ∨
  (s.length ≤ 20000 ∧ ∃ e L k ps, Lh.partsL (Lh.cutL 10 s) = some (e, L, k, ps) ∧
    ((k ≠ Lh.crcL (Lh.joinL 10 ps ++ [10]) ∧ n = 0 ∧ l = [] ∧ c = 9 ∧ pl = -1) ∨
     (k = Lh.crcL (Lh.joinL 10 ps ++ [10]) ∧ CaF e L c pl ∧ ((c ≠ 0 ∧ n = 0 ∧ l = []) ∨ (c = 0 ∧ n = e ∧ l = L)))))

theorem words_of {w : World} {base : Nat} {v : Value} {ws : List (List UInt8)} (h : w.ownsRow base 9 1 v ws.length (wordsV ws)) (hne : ws ≠ []) : ∃ g cap, v = .slice (some ⟨g, 0, none⟩) ws.length cap ∧ base ≤ g ∧ ∀ j (hj : j < ws.length), w.cell? ⟨g, j, none⟩ = some (.string (Lh.bt ws[j])) := by
  obtain ⟨hl, ⟨rfl, h0⟩ | ⟨g, cap, cur, rfl, hbase, hb, hn, hm, hsz, ht⟩⟩ := h
  · exact absurd (List.eq_nil_of_length_eq_zero h0) hne
  · refine ⟨g, cap, rfl, hbase, fun k hk => ?_⟩
    have hk' : (cur.toList.take (ws.length * 1))[k]? = some (.string (Lh.bt ws[k])) := by rw [ht]; simp [wordsV, hk]
    rw [List.getElem?_take_of_lt (by omega)] at hk'
    simp only [World.cell?, hb]
    simpa using hk'
theorem owns_setCellF {w : World} {base : Nat} {e : TypeId} {size : Nat} {v : Value} {n : Nat} {xs : List Value} (h : w.ownsRow base e size v n xs) {x k : Nat} (hx : x < base) (u : Value) : (w.setCell ⟨x, k, none⟩ u).ownsRow base e size v n xs := by
  refine h.kept (row := some x) ⟨rfl, rfl, rfl, by simp [World.setCell], fun j _ hne => heap_setCell_other w ⟨x, k, none⟩ j u (fun e => hne (by rw [e]))⟩ ?_
  cases hv : v.ownBlock with
  | none => exact Or.inl rfl
  | some g =>
    have := (h.lt g hv).1
    exact Or.inr (fun e => by cases e; omega)
theorem len3 {α : Type} {ws : List α} (h : ws.length = 3) : ∃ a b c, ws = [a, b, c] := by
  match ws, h with
  | [a, b, c], _ => exact ⟨a, b, c, rfl⟩
theorem len2 {α : Type} {ws : List α} (h : ws.length = 2) : ∃ a b, ws = [a, b] := by
  match ws, h with
  | [a, b], _ => exact ⟨a, b, rfl⟩
namespace Lh
theorem parts_short {ls : List (List UInt8)} (h : ls.length < 3 ∨ ls.getD (ls.length - 1) [] ≠ []) : partsL ls = none := by
  unfold partsL
  rw [if_pos h]
theorem parts_first {ls : List (List UInt8)} (h : firstL (ls.getD 0 []) = none) : partsL ls = none := by
  unfold partsL
  split
  · rfl
  · rw [h]
theorem parts_rows {ls : List (List UInt8)} (h : rowsL ((ls.drop 1).take (ls.length - 3)) = none) : partsL ls = none := by
  unfold partsL
  split
  · rfl
  · rw [h]
    split <;> simp_all
theorem parts_last {ls : List (List UInt8)} (h : lastL (ls.getD (ls.length - 2) []) = none) : partsL ls = none := by
  unfold partsL
  split
  · rfl
  · rw [h]
    split <;> simp_all
theorem parts_many {ls : List (List UInt8)} {e n : Nat} (h : firstL (ls.getD 0 []) = some (e, n)) (hn : n + 3 ≠ ls.length) : partsL ls = none := by
  unfold partsL
  split
  · rfl
  · rw [h]
    split
    · rename_i h1 h2 h3
      cases h1
      rw [if_pos hn]
    · rfl
theorem parts_some {ls : List (List UInt8)} {e n k : Nat} {l : List Fl} (h0 : ¬ (ls.length < 3 ∨ ls.getD (ls.length - 1) [] ≠ [])) (h1 : firstL (ls.getD 0 []) = some (e, n)) (h2 : n + 3 = ls.length) (h3 : rowsL ((ls.drop 1).take (ls.length - 3)) = some l) (h4 : lastL (ls.getD (ls.length - 2) []) = some k) : partsL ls = some (e, l, k, ls.take (ls.length - 2)) := by
  unfold partsL
  rw [if_neg h0, h1, h3, h4]
  simp only
  rw [if_neg (by omega)]
theorem cut_len (y : UInt8) : ∀ l : List UInt8, (cutL y l).length ≤ l.length + 1
  | [] => by simp [cutL]
  | c :: l => by
    have := cut_len y l
    obtain ⟨x, xs, e⟩ := cutL_some y l
    rw [cutL_cons]
    rw [e] at this ⊢
    split
    · simp at this ⊢; omega
    · simp at this ⊢; omega
theorem cut_word (y : UInt8) : ∀ (l w : List UInt8), w ∈ cutL y l → w.length ≤ l.length
  | [], w, h => by simp [cutL] at h; subst h; simp
  | c :: l, w, h => by
    have ih := cut_word y l
    obtain ⟨x, xs, e⟩ := cutL_some y l
    rw [cutL_cons] at h
    rw [e] at h ih
    split at h
    · rcases List.mem_cons.1 h with rfl | h
      · simp
      · have := ih w h; simp; omega
    · rcases List.mem_cons.1 h with rfl | h
      · have := ih x (List.mem_cons_self ..); simp; omega
      · have := ih w (List.mem_cons_of_mem _ h); simp; omega
end Lh

end Go.Proofs.YtboigdpcahdidabDoor
