/- The model's CarryOf. -/
import Derived.Test.YtmkdpchodeckgaaDoorM39
import Derived.Test.YtmkdpchodeckgaaDoorM40
import Derived.Test.YtmkdpchodeckgaaDoorM41
import Derived.Deep.RegionHeld3
import Derived.BigQuiet
import Derived.Deep.QuietTactic
namespace Go.Proofs.YtmkdpchodeckgaaDoor
open Go.RowKit

/-- What a text says: epoch, flows, an error. -/
def ReadF (s : List UInt8) (n : Int) (l : List Lh.Fl) (c : Nat) (pl : Int) : Prop :=
  (20000 < s.length ∧ n = 0 ∧ l = [] ∧ c = 2 ∧ pl = -1) ∨
  (s.length ≤ 20000 ∧ Lh.partsL (Lh.cutL 10 s) = none ∧ n = 0 ∧ l = [] ∧ c = 1 ∧ pl = -1) ∨
  (s.length ≤ 20000 ∧ ∃ e L k ps, Lh.partsL (Lh.cutL 10 s) = some (e, L, k, ps) ∧
    ((k ≠ Lh.crcL (Lh.joinL 10 ps ++ [10]) ∧ n = 0 ∧ l = [] ∧ c = 9 ∧ pl = -1) ∨
     (k = Lh.crcL (Lh.joinL 10 ps ++ [10]) ∧ CaF e L c pl ∧ ((c ≠ 0 ∧ n = 0 ∧ l = []) ∨ (c = 0 ∧ n = e ∧ l = L)))))

theorem words_of {w : World} {base : Nat} {v : Value} {ws : List (List UInt8)} (h : w.ownsRow base 9 1 v ws.length (wordsV ws)) (hne : ws ≠ []) : ∃ g cap, v = .slice (some ⟨g, 0, none⟩) ws.length cap ∧ base ≤ g ∧ ∀ j (hj : j < ws.length), w.cell? ⟨g, j, none⟩ = some (.string (Lh.bt ws[j])) := by
  obtain ⟨hl, ⟨rfl, h0⟩ | ⟨g, cap, cur, rfl, hbase, hb, hn, hm, hsz, ht⟩⟩ := h
  · exact absurd (List.eq_nil_of_length_eq_zero h0) hne
  · refine ⟨g, cap, rfl, hbase, fun k hk => ?_⟩
    have hk' : (cur.toList.take (ws.length * 1))[k]? = some (.string (Lh.bt ws[k])) := by rw [ht]; simp [wordsV, hk]
    rw [List.getElem?_take_of_lt (by omega)] at hk'
    simp only [World.cell?, hb]
    simpa using hk'
theorem owns_setCellF {w : World} {base : Nat} {e : TypeId} {size : Nat} {v : Value} {n : Nat} {xs : List Value} (h : w.ownsRow base e size v n xs) {x k : Nat} (hx : x < base) (u : Value) : (w.setCell ⟨x, k, none⟩ u).ownsRow base e size v n xs := by
  refine h.kept (row := some x) ⟨rfl, rfl, rfl, by simp [World.setCell], fun j _ hne => heap_setCell_other w ⟨x, k, none⟩ j u (fun e => hne (by rw [e]))⟩ ?_
  cases hv : v.ownBlock with
  | none => exact Or.inl rfl
  | some g =>
    have := (h.lt g hv).1
    exact Or.inr (fun e => by cases e; omega)
theorem len3 {α : Type} {ws : List α} (h : ws.length = 3) : ∃ a b c, ws = [a, b, c] := by
  match ws, h with
  | [a, b, c], _ => exact ⟨a, b, c, rfl⟩
theorem len2 {α : Type} {ws : List α} (h : ws.length = 2) : ∃ a b, ws = [a, b] := by
  match ws, h with
  | [a, b], _ => exact ⟨a, b, rfl⟩
namespace Lh
theorem parts_short {ls : List (List UInt8)} (h : ls.length < 3 ∨ ls.getD (ls.length - 1) [] ≠ []) : partsL ls = none := by
  unfold partsL
  rw [if_pos h]
theorem parts_first {ls : List (List UInt8)} (h : firstL (ls.getD 0 []) = none) : partsL ls = none := by
  unfold partsL
  split
  · rfl
  · rw [h]
theorem parts_rows {ls : List (List UInt8)} (h : rowsL ((ls.drop 1).take (ls.length - 3)) = none) : partsL ls = none := by
  unfold partsL
  split
  · rfl
  · rw [h]
    split <;> simp_all
theorem parts_last {ls : List (List UInt8)} (h : lastL (ls.getD (ls.length - 2) []) = none) : partsL ls = none := by
  unfold partsL
  split
  · rfl
  · rw [h]
    split <;> simp_all
theorem parts_many {ls : List (List UInt8)} {e n : Nat} (h : firstL (ls.getD 0 []) = some (e, n)) (hn : n + 3 ≠ ls.length) : partsL ls = none := by
  unfold partsL
  split
  · rfl
  · rw [h]
    split
    · rename_i h1 h2 h3
      cases h1
      rw [if_pos hn]
    · rfl
theorem parts_some {ls : List (List UInt8)} {e n k : Nat} {l : List Fl} (h0 : ¬ (ls.length < 3 ∨ ls.getD (ls.length - 1) [] ≠ [])) (h1 : firstL (ls.getD 0 []) = some (e, n)) (h2 : n + 3 = ls.length) (h3 : rowsL ((ls.drop 1).take (ls.length - 3)) = some l) (h4 : lastL (ls.getD (ls.length - 2) []) = some k) : partsL ls = some (e, l, k, ls.take (ls.length - 2)) := by
  unfold partsL
  rw [if_neg h0, h1, h3, h4]
  simp only
  rw [if_neg (by omega)]
theorem cut_len (y : UInt8) : ∀ l : List UInt8, (cutL y l).length ≤ l.length + 1
  | [] => by simp [cutL]
  | c :: l => by
    have := cut_len y l
    obtain ⟨x, xs, e⟩ := cutL_some y l
    rw [cutL_cons]
    rw [e] at this ⊢
    split
    · simp at this ⊢; omega
    · simp at this ⊢; omega
theorem cut_word (y : UInt8) : ∀ (l w : List UInt8), w ∈ cutL y l → w.length ≤ l.length
  | [], w, h => by simp [cutL] at h; subst h; simp
  | c :: l, w, h => by
    have ih := cut_word y l
    obtain ⟨x, xs, e⟩ := cutL_some y l
    rw [cutL_cons] at h
    rw [e] at h ih
    split at h
    · rcases List.mem_cons.1 h with rfl | h
      · simp
      · have := ih w h; simp; omega
    · rcases List.mem_cons.1 h with rfl | h
      · have := ih x (List.mem_cons_self ..); simp; omega
      · have := ih w (List.mem_cons_of_mem _ h); simp; omega
end Lh

end Go.Proofs.YtmkdpchodeckgaaDoor

/- The model's small functions of texts: Decimal, Seal. -/
namespace Go.Proofs.YtmkdpchodeckgaaDoor
open Go.RowKit

end Go.Proofs.YtmkdpchodeckgaaDoor

/- The model's text of flows. -/
namespace Go.Proofs.YtmkdpchodeckgaaDoor
open Go.RowKit

namespace Lh
theorem line_bt (p : List UInt8) (x : Fl) : bt p ++ bt (hexL 16 x.1) ++ bt [32] ++ x.2.1 ++ bt [32] ++ bt (decL x.2.2.toNat) ++ bt [10] = bt (p ++ (lineF x ++ [10])) := by
  have e : x.2.1 = bt x.2.1.data.toList := rfl
  rw [e]
  rw [bt_append, bt_append, bt_append, bt_append, bt_append, bt_append]
  congr 1
  simp [lineF, joinL]
theorem head_bt (e n : Nat) : bt [102, 108, 111, 119, 115, 32] ++ bt (decL e) ++ bt [32] ++ bt (decL n) ++ bt [10] = bt (headL e n ++ [10]) := by
  rw [bt_append, bt_append, bt_append, bt_append]
  congr 1
  simp [headL, joinL, flowsW]
end Lh
/-- Flows that a text can hold. -/
def CanT (L : List Lh.Fl) : Prop := ∀ x ∈ L, x.1 < 18446744073709551616 ∧ x.2.1.size ≤ 60 ∧ 0 ≤ x.2.2 ∧ x.2.2.toNat < 100000000000000

end Go.Proofs.YtmkdpchodeckgaaDoor

/- What is carried over: a text that is cut off is none. -/
namespace Go.Proofs.YtmkdpchodeckgaaDoor
namespace Lh

theorem count_join {y : UInt8} : ∀ {ws : List (List UInt8)}, ws ≠ [] → (∀ w ∈ ws, y ∉ w) → (joinL y ws).count y + 1 = ws.length
  | [w], _, h => by
    show w.count y + 1 = 1
    rw [List.count_eq_zero.2 (h w (by simp))]
  | w :: v :: ws, _, h => by
    have ih := count_join (y := y) (ws := v :: ws) (by simp) fun u hu => h u (by simp [hu])
    show (w ++ y :: joinL y (v :: ws)).count y + 1 = _
    rw [List.count_append, List.count_eq_zero.2 (h w (by simp)), List.count_cons_self, List.length_cons]
    omega
theorem text_count {e : Nat} {l : List Fl} (h : WordF l) : (textL e l).count 10 = l.length + 2 := by
  have h1 := count_join (y := 10) (ws := (headL e l.length :: l.map lineF) ++ [sumL (bodyL e l)] ++ [[]]) (by simp) fun w hw => by
    simp only [List.mem_append, List.mem_cons, List.mem_map, List.not_mem_nil, or_false] at hw
    rcases hw with ((rfl | ⟨x, hx, rfl⟩) | rfl) | rfl
    · exact headL_no _ _
    · exact lineF_no h hx
    · exact sum_no _
    · simp
  rw [← text_lines] at h1
  simp at h1
  omega
theorem text_head (e : Nat) (l : List Fl) : ∃ r, textL e l = headL e l.length ++ 10 :: r := by
  unfold textL bodyL
  cases hl : l.map lineF with
  | nil => exact ⟨sumL (joinL 10 [headL e l.length] ++ [10]) ++ [10], by simp [joinL]⟩
  | cons w ws => exact ⟨joinL 10 (w :: ws) ++ [10] ++ sumL (joinL 10 (headL e l.length :: w :: ws) ++ [10]) ++ [10], by simp [joinL]⟩
/-- A text of flows of which some is cut off is no text of flows. -/
theorem text_prefix {e e' : Nat} {l l' : List Fl} (he : e < 100000000000000) (he' : e' < 100000000000000) (hl : l.length < 100000000000000) (hl' : l'.length < 100000000000000) (h : WordF l) (h' : WordF l') {t : List UInt8} (ht : t ≠ []) (hp : textL e l = textL e' l' ++ t) : False := by
  obtain ⟨r, hr⟩ := text_head e l
  obtain ⟨r', hr'⟩ := text_head e' l'
  have c1 : cutL 10 (textL e l) = headL e l.length :: cutL 10 r := by rw [hr]; exact cutL_app r (headL_no _ _)
  have c2 : cutL 10 (textL e l) = headL e' l'.length :: cutL 10 (r' ++ t) := by rw [hp, hr', List.append_assoc]; exact cutL_app (r' ++ t) (headL_no _ _)
  rw [c1] at c2
  have hh := (List.cons.inj c2).1
  have f1 := head_back he hl
  have f2 := head_back he' hl'
  rw [hh] at f1
  have f3 := Option.some.inj (f1.symm.trans f2)
  have hn : l.length = l'.length := congrArg Prod.snd f3
  have k1 := text_count (e := e) h
  have k2 := text_count (e := e') h'
  rw [hp, List.count_append] at k1
  have k3 : t.count 10 = 0 := by omega
  have hlast : ∃ u, textL e l = u ++ [10] := ⟨_, rfl⟩
  obtain ⟨u, hu⟩ := hlast
  obtain ⟨m, c, hm⟩ : ∃ m c, t = m ++ [c] := ⟨t.dropLast, t.getLast ht, (List.dropLast_concat_getLast ht).symm⟩
  have hc : c = 10 := by
    rw [hm, ← List.append_assoc] at hp
    have := List.append_inj_right' (hu.symm.trans hp) rfl
    simpa using this.symm
  rw [hm, hc, List.count_append] at k3
  simp at k3
end Lh
end Go.Proofs.YtmkdpchodeckgaaDoor
