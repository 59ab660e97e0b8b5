/- Groups of keys in memory: a row of lists, each in a block of its own. -/
import Derived.Test.YtffobmiacinngaaDoorVKeys
namespace Go.Proofs.YtffobmiacinngaaDoor
open Go.RowKit

/-- Block gb is a row of n lists V j, list j reads as L j; no two lists share a block. -/
structure Grp (W : World) (gb n : Nat) (L : Nat → List Nat) (V : Nat → Value) : Prop where
  lt : gb < W.heap.size
  cell : ∀ j, j < n → W.cell? ⟨gb, j, none⟩ = some (V j)
  frozen : ∀ j, W.frozen? ⟨gb, j, none⟩ = false
  own : ∀ j, j < n → W.ownsRow (gb + 1) 36 1 (V j) (L j).length ((L j).map encU)
  apart : ∀ i j, i < n → j < n → i ≠ j → (V i).ownBlock = none ∨ (V i).ownBlock ≠ (V j).ownBlock
theorem Grp.below {W W' : World} {gb n : Nat} {L : Nat → List Nat} {V : Nat → Value} (h : Grp W gb n L V) (hb : Below W.heap.size W W') : Grp W' gb n L V where
  lt := Nat.lt_of_lt_of_le h.lt hb.size
  cell j hj := below_cell hb (h.cell j hj)
  frozen j := by rw [hb.frozen h.lt]; exact h.frozen j
  own j hj := ownsRow_below (h.own j hj) hb
  apart := h.apart
def upd {α : Type} (f : Nat → α) (q : Nat) (x : α) : Nat → α := fun j => if j = q then x else f j
theorem upd_same {α : Type} (f : Nat → α) (q : Nat) (x : α) : upd f q x q = x := by simp [upd]
theorem upd_other {α : Type} (f : Nat → α) {q j : Nat} (x : α) (h : j ≠ q) : upd f q x j = f j := by simp [upd, h]

theorem vfar_block {wr W w1 : World} {o : Obj} {row : Option Nat} {x : Nat} (hW : W.heap = wr.heap.push o) (hg : W.grownBy w1 row) (hne : some x ≠ row) (hx : x < wr.heap.size) : w1.heap[x]? = wr.heap[x]? := by
  have hx2 : x < W.heap.size := by rw [hW]; simp; omega
  rw [hg.block x hx2 hne, hW, Array.getElem?_push_lt hx, Array.getElem?_eq_getElem hx]
theorem vowns_setCell {w : World} {base : Nat} {e : TypeId} {size : Nat} {v : Value} {n : Nat} {xs : List Value} (h : w.ownsRow base e size v n xs) {x k : Nat} (hx : x < base) (u : Value) : (w.setCell ⟨x, k, none⟩ u).ownsRow base e size v n xs := by
  refine h.kept (row := some x) ⟨rfl, rfl, rfl, by simp [World.setCell], fun j _ hne => heap_setCell_other w ⟨x, k, none⟩ j u (fun e => hne (by rw [e]))⟩ ?_
  cases hv : v.ownBlock with
  | none => exact Or.inl rfl
  | some g =>
    have := (h.lt g hv).1
    exact Or.inr (fun e => by cases e; omega)
theorem vowns_heap {w W : World} {base : Nat} {e : TypeId} {size : Nat} {v : Value} {n : Nat} {xs : List Value} {o : Obj} (h : w.ownsRow base e size v n xs) (hW : W.heap = w.heap.push o) : W.ownsRow base e size v n xs := by
  obtain ⟨h1, h2 | ⟨g, cap, cur, e1, e2, e3, e4⟩⟩ := h
  · exact ⟨h1, Or.inl h2⟩
  · refine ⟨h1, Or.inr ⟨g, cap, cur, e1, e2, ?_, e4⟩⟩
    have hg : g < w.heap.size := (Array.getElem?_eq_some_iff.1 e3).1
    rw [hW, Array.getElem?_push_lt hg, ← Array.getElem?_eq_getElem hg]
    exact e3
/-- One more key in list q. -/
theorem Grp.step {wr W w1 : World} {gb n : Nat} {L : Nat → List Nat} {V : Nat → Value} {o : Obj} {q z g cap : Nat} (h : Grp wr gb n L V) (hq : q < n) (hW : W.heap = wr.heap.push o)
    (hown : w1.ownsRow (gb + 1) 36 1 (.slice (some ⟨g, 0, none⟩) ((L q).length + 1) cap) ((L q).length + 1) ((L q).map encU ++ [encU z])) (hg : W.grownBy w1 (V q).ownBlock) (hat : (V q).ownBlock = some g ∨ g = wr.heap.size + 1) :
    Grp (w1.setCell ⟨gb, q, none⟩ (.slice (some ⟨g, 0, none⟩) ((L q).length + 1) cap)) gb n (upd L q (L q ++ [z])) (upd V q (.slice (some ⟨g, 0, none⟩) ((L q).length + 1) cap)) := by
  have hsz : W.heap.size = wr.heap.size + 1 := by rw [hW]; simp
  have hne : some gb ≠ (V q).ownBlock := fun e => by
    have := ((h.own q hq).lt gb e.symm).1
    omega
  have hbk : w1.heap[gb]? = wr.heap[gb]? := vfar_block hW hg hne h.lt
  have hcell : ∀ j, w1.cell? ⟨gb, j, none⟩ = wr.cell? ⟨gb, j, none⟩ := fun j => World.cell?_of_block (a := ⟨gb, j, none⟩) hbk
  refine ⟨?_, fun j hj => ?_, fun j => ?_, fun j hj => ?_, fun i j hi hj hij => ?_⟩
  · have h1 := hg.size
    have h2 := h.lt
    simp [World.setCell]
    omega
  · by_cases e : j = q
    · subst e
      rw [upd_same]
      exact World.cell?_setCell_same _ _ _ ((hcell j).trans (h.cell j hj))
    · rw [upd_other _ _ e, World.cell?_setCell_other _ _ _ _ (by intro e'; simp only [Addr.mk.injEq] at e'; omega), hcell]
      exact h.cell j hj
  · have hf : w1.frozen? ⟨gb, j, none⟩ = false := by
      rw [World.frozen?_of_block (w := wr) (w' := w1) (a := ⟨gb, j, none⟩) hbk]
      exact h.frozen j
    simp [go_sem, hf]
  · refine vowns_setCell ?_ (Nat.lt_succ_self gb) _
    by_cases e : j = q
    · subst e
      rw [upd_same, upd_same, List.length_append, List.map_append]
      exact hown
    · rw [upd_other _ _ e, upd_other _ _ e]
      exact (vowns_heap (h.own j hj) hW).kept hg (h.apart j q hj hq e)
  · by_cases ei : i = q
    · have ej : j ≠ q := fun e => hij (ei.trans e.symm)
      rw [ei, upd_same, upd_other _ _ ej]
      refine Or.inr ?_
      show some g ≠ (V j).ownBlock
      rcases hat with e | e
      · rcases h.apart q j hq hj (fun e => ej e.symm) with k | k
        · rw [e] at k; cases k
        · rw [← e]; exact k
      · intro e'
        have := ((h.own j hj).lt g e'.symm).2
        omega
    · rw [upd_other _ _ ei]
      by_cases ej : j = q
      · rw [ej, upd_same]
        show _ ∨ (V i).ownBlock ≠ some g
        rcases hat with e | e
        · rw [← e]; exact h.apart i q hi hq ei
        · refine Or.inr fun e' => ?_
          have := ((h.own i hi).lt g e').2
          omega
      · rw [upd_other _ _ ej]
        exact h.apart i j hi hj hij
theorem Grp.congr {W : World} {gb n : Nat} {L L' : Nat → List Nat} {V : Nat → Value} (h : Grp W gb n L V) (he : ∀ j, j < n → L' j = L j) : Grp W gb n L' V :=
  ⟨h.lt, h.cell, h.frozen, fun j hj => by rw [he j hj]; exact h.own j hj, h.apart⟩
/-- n empty lists. -/
theorem grp_made {w : World} {n : Nat} {base : Nat} {v : Value} (h : w.ownsRow base 70 1 v n (List.replicate n (.slice none 0 0))) (h0 : 0 < n) :
    ∃ gb cap, v = .slice (some ⟨gb, 0, none⟩) n cap ∧ base ≤ gb ∧ Grp w gb n (fun _ => []) (fun _ => .slice none 0 0) := by
  obtain ⟨hl, ⟨rfl, h'⟩ | ⟨g, cap, cur, rfl, hbase, hb, hn, hm, hsz, ht⟩⟩ := h
  · omega
  · have hlt : g < w.heap.size := (Array.getElem?_eq_some_iff.1 hb).1
    refine ⟨g, cap, rfl, hbase, hlt, fun j hj => ?_, fun k => by simp [World.frozen?, hb], fun j _ => World.ownsRow_nil _ _ _ _, fun i j _ _ _ => Or.inl rfl⟩
    have hk' : (cur.toList.take (n * 1))[j]? = some (.slice none 0 0) := by rw [ht]; simp [hj]
    rw [List.getElem?_take_of_lt (by omega)] at hk'
    simp only [World.cell?, hb]
    simpa using hk'
end Go.Proofs.YtffobmiacinngaaDoor
