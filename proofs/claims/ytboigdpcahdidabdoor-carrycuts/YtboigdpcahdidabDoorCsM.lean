/- The model's small functions of texts: Decimal, Seal. -/
import Derived.Test.YtboigdpcahdidabDoorCrM
import Derived.Test.YtboigdpcahdidabDoorMbM
import Derived.Test.YtboigdpcahdidabDoorFcM
import Derived.Deep.RegionHeld3
import Derived.BigQuiet
import Derived.Deep.QuietTactic
import Derived.Test.YtboigdpcahdidabDoorMaM
namespace Go.Proofs.YtboigdpcahdidabDoor
open Go.RowKit

end Go.Proofs.YtboigdpcahdidabDoor

/- The model's text of flows. -/
namespace Go.Proofs.YtboigdpcahdidabDoor
open Go.RowKit

namespace Lh
theorem line_bt (p : List UInt8) (x : Fl) : bt p ++ bt (hexL 16 x.1) ++ bt [32] ++ x.2.1 ++ bt [32] ++ bt (decL x.2.2.toNat) ++ bt [10] = bt (p ++ (lineF x ++ [10])) := by
  have e : x.2.1 = bt x.2.1.data.toList := rfl
  rw [e]
  rw [bt_append, bt_append, bt_append, bt_append, bt_append, bt_append]
  congr 1
  simp [lineF, joinL]
theorem head_bt (e n : Nat) : bt [102, 108, 111, 119, 115, 32] ++ bt (decL e) ++ bt [32] ++ bt (decL n) ++ bt [10] = bt (headL e n ++ [10]) := by
  rw [bt_append, bt_append, bt_append, bt_append]
  congr 1
  simp [headL, joinL, flowsW]
end Lh
/-- Flows that a text can hold. -/
def CanT (L : List Lh.Fl) : Prop := ∀ x ∈ L, x.1 < 18446744073709551616 ∧ x.2.1.size ≤ 60 ∧ 0 ≤ x.2.2 ∧ x.2.2.toNat < 100000000000000

end Go.Proofs.YtboigdpcahdidabDoor

/- What is carried over: a text that is cut off is none. -/
namespace Go.Proofs.YtboigdpcahdidabDoor
namespace Lh

theorem count_join {y : UInt8} : ∀ {ws : List (List UInt8)}, ws ≠ [] → (∀ w ∈ ws, y ∉ w) → (joinL y ws).count y + 1 = ws.length
  | [w], _, h => by
    show w.count y + 1 = 1
    rw [List.count_eq_zero.2 (h w (by simp))]
  | w :: v :: ws, _, h => by
    have ih := count_join (y := y) (ws := v :: ws) (by simp) fun u hu => h u (by simp [hu])
    show (w ++ y :: joinL y (v :: ws)).count y + 1 = _
    rw [List.count_append, List.count_eq_zero.2 (h w (by simp)), List.count_cons_self, List.length_cons]
    omega
theorem text_count {e : Nat} {l : List Fl} (h : WordF l) : (textL e l).count 10 = l.length + 2 := by
  have h1 := count_join (y := 10) (ws := (headL e l.length :: l.map lineF) ++ [sumL (bodyL e l)] ++ [[]]) (by simp) fun w hw => by
    simp only [List.mem_append, List.mem_cons, List.mem_map, List.not_mem_nil, or_false] at hw
    rcases hw with ((rfl | ⟨x, hx, rfl⟩) | rfl) | rfl
    · exact headL_no _ _
    · exact lineF_no h hx
    · exact sum_no _
    · simp
  rw [← text_lines] at h1
  simp at h1
  omega
theorem text_head (e : Nat) (l : List Fl) : ∃ r, textL e l = headL e l.length ++ 10 :: r := by
  unfold textL bodyL
  cases hl : l.map lineF with
  | nil => exact ⟨sumL (joinL 10 [headL e l.length] ++ [10]) ++ [10], by simp [joinL]⟩
  | cons w ws => exact ⟨joinL 10 (w :: ws) ++ [10] ++ sumL (joinL 10 (headL e l.length :: w :: ws) ++ [10]) ++ [10], by simp [joinL]⟩
/-- A text of flows of which some is cut off is no text of flows. -/
theorem text_prefix {e e' : Nat} {l l' : List Fl} (he : e < 100000000000000) (he' : e' < 100000000000000) (hl : l.length < 100000000000000) (hl' : l'.length < 100000000000000) (h : WordF l) (h' : WordF l') {t : List UInt8} (ht : t ≠ []) (hp : textL e l = textL e' l' ++ t) : False := by
  obtain ⟨r, hr⟩ := text_head e l
  obtain ⟨r', hr'⟩ := text_head e' l'
  have c1 : cutL 10 (textL e l) = headL e l.length :: cutL 10 r := by rw [hr]; exact cutL_app r (headL_no _ _)
  have c2 : cutL 10 (textL e l) = headL e' l'.length :: cutL 10 (r' ++ t) := by rw [hp, hr', List.append_assoc]; exact cutL_app (r' ++ t) (headL_no _ _)
  rw [c1] at c2
  have hh := (List.cons.inj c2).1
  have f1 := head_back he hl
  have f2 := head_back he' hl'
  rw [hh] at f1
  have f3 := Option.some.inj (f1.symm.trans f2)
  have hn : l.length = l'.length := congrArg Prod.snd f3
  have k1 := text_count (e := e) h
  have k2 := text_count (e := e') h'
  rw [hp, List.count_append] at k1
  have k3 : t.count 10 = 0 := by omega
  have hlast : ∃ u, textL e l = u ++ [10] := ⟨_, rfl⟩
  obtain ⟨u, hu⟩ := hlast
  obtain ⟨m, c, hm⟩ : ∃ m c, t = m ++ [c] := ⟨t.dropLast, t.getLast ht, (List.dropLast_concat_getLast ht).symm⟩
  have hc : c = 10 := by
    rw [hm, ← List.append_assoc] at hp
    have := List.append_inj_right' (hu.symm.trans hp) rfl
    simpa using this.symm
  rw [hm, hc, List.count_append] at k3
  simp at k3
end Lh
end Go.Proofs.YtboigdpcahdidabDoor
