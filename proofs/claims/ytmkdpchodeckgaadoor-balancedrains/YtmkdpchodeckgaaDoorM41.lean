/- The model of flows in memory; find and TickError. -/
import Derived.Test.YtmkdpchodeckgaaDoorM12
import Derived.Test.YtmkdpchodeckgaaDoorM33
import Derived.Deep.AppendLies
import Derived.BigQuiet
import Derived.Deep.QuietTactic
import Derived.Laws.AppendOwnNone
import Derived.Test.YtmkdpchodeckgaaDoorM39
namespace Go.Proofs.YtmkdpchodeckgaaDoor
open Go.RowKit

/-- Block m is the model. -/
structure MF (W : World) (m t : Nat) (la : Int) (L : List Lh.Fl) (lv : Value) : Prop where
  c0 : W.cell? ⟨m, 0, none⟩ = some (.int .i64 (t : Nat))
  c1 : W.cell? ⟨m, 1, none⟩ = some (.int .i64 la)
  c2 : W.cell? ⟨m, 2, none⟩ = some lv
  fz : ∀ k, W.frozen? ⟨m, k, none⟩ = false
  own : W.ownsRow (m + 1) 75 3 lv L.length (flatF L)
/-- the blocks that it is made of -/
def FFoot (m : Nat) (lv : Value) (b : Nat) : Prop := b = m ∨ lv.ownBlock = some b
theorem fowns_same {w w' : World} {base : Nat} {e : TypeId} {size : Nat} {v : Value} {n : Nat} {xs : List Value} (h : w.ownsRow base e size v n xs) (he : ∀ g, v.ownBlock = some g → w'.heap[g]? = w.heap[g]?) : w'.ownsRow base e size v n xs := by
  obtain ⟨h1, h2 | ⟨g, cap, cur, rfl, e2, e3, e4⟩⟩ := h
  · exact ⟨h1, Or.inl h2⟩
  · exact ⟨h1, Or.inr ⟨g, cap, cur, rfl, e2, (he g rfl).trans e3, e4⟩⟩
theorem fown_shape {w : World} {base : Nat} {e : TypeId} {size n : Nat} {v : Value} {xs : List Value} (h : w.ownsRow base e size v n xs) : ∃ p cap, v = .slice p n cap := by
  obtain ⟨h1, ⟨rfl, rfl⟩ | ⟨g, cap, cur, rfl, _⟩⟩ := h
  · exact ⟨_, _, rfl⟩
  · exact ⟨_, _, rfl⟩
theorem fown_mono {w : World} {base base' : Nat} {e : TypeId} {size n : Nat} {v : Value} {xs : List Value} (h : w.ownsRow base e size v n xs) (hb : base' ≤ base) : w.ownsRow base' e size v n xs := by
  obtain ⟨h1, h2 | ⟨g, cap, cur, e1, e2, e3⟩⟩ := h
  · exact ⟨h1, Or.inl h2⟩
  · exact ⟨h1, Or.inr ⟨g, cap, cur, e1, Nat.le_trans hb e2, e3⟩⟩
theorem frow_cells {w : World} {base : Nat} {e : TypeId} {g n cap : Nat} {xs : List Value} (h : w.ownsRow base e 3 (.slice (some ⟨g, 0, none⟩) n cap) n xs) : ∀ j u, xs[j]? = some u → w.cell? ⟨g, j, none⟩ = some u := fun j u hu => by
  obtain ⟨hl, ⟨e0, _⟩ | ⟨g', cap', cur, e1, _, hb, hn, hm, hsz, ht⟩⟩ := h
  · cases e0
  · cases e1
    have hj : j < xs.length := (List.getElem?_eq_some_iff.1 hu).1
    rw [← ht, List.getElem?_take_of_lt (by omega)] at hu
    simp only [World.cell?, hb]
    simpa using hu
theorem MF.mlt {W : World} {m t : Nat} {la : Int} {L : List Lh.Fl} {lv : Value} (h : MF W m t la L lv) : m < W.heap.size := World.block_lt_of_cell? W ⟨m, 0, none⟩ h.c0
theorem MF.lt {W : World} {m t : Nat} {la : Int} {L : List Lh.Fl} {lv : Value} (h : MF W m t la L lv) : ∀ b, FFoot m lv b → b < W.heap.size ∧ m ≤ b := by
  rintro b (rfl | e)
  · exact ⟨h.mlt, Nat.le_refl _⟩
  · have := h.own.lt b e
    omega
theorem MF.stay {W W' : World} {m t : Nat} {la : Int} {L : List Lh.Fl} {lv : Value} (h : MF W m t la L lv) (hs : ∀ b, FFoot m lv b → W'.heap[b]? = W.heap[b]?) : MF W' m t la L lv := by
  have hm := hs m (Or.inl rfl)
  refine ⟨?_, ?_, ?_, fun k => ?_, fowns_same h.own fun g e => hs g (Or.inr e)⟩
  · rw [World.cell?_of_block (w := W) (w' := W') (a := ⟨m, 0, none⟩) hm]; exact h.c0
  · rw [World.cell?_of_block (w := W) (w' := W') (a := ⟨m, 1, none⟩) hm]; exact h.c1
  · rw [World.cell?_of_block (w := W) (w' := W') (a := ⟨m, 2, none⟩) hm]; exact h.c2
  · rw [World.frozen?_of_block (w := W) (w' := W') (a := ⟨m, k, none⟩) hm]; exact h.fz k
theorem MF.later {W W' : World} {m t : Nat} {la : Int} {L : List Lh.Fl} {lv : Value} (h : MF W m t la L lv) (hb : Below W.heap.size W W') : MF W' m t la L lv := h.stay fun b hf => hb.block b (h.lt b hf).1
/-- the row's cells, as it is read -/
theorem MF.row {W : World} {m t : Nat} {la : Int} {L : List Lh.Fl} {lv : Value} (h : MF W m t la L lv) : ∃ p cap, lv = .slice p L.length cap ∧ ∀ i (hi : i < L.length), ∃ g, p = some ⟨g, 0, none⟩ ∧ W.cell? ⟨g, i * 3, none⟩ = some (.int .u64 (L[i].1 : Nat)) ∧ W.cell? ⟨g, i * 3 + 1, none⟩ = some (.string L[i].2.1) ∧ W.cell? ⟨g, i * 3 + 2, none⟩ = some (.int .i64 L[i].2.2) := by
  rcases h.own with ⟨_, ⟨e, h0⟩ | ⟨g, cap, cur, e, _⟩⟩
  · exact ⟨none, 0, by rw [e, h0], fun i hi => absurd hi (by omega)⟩
  · subst e
    refine ⟨_, _, rfl, fun i hi => ⟨g, rfl, ?_⟩⟩
    obtain ⟨q0, q1, q2⟩ := flatF_get L i hi
    exact ⟨frow_cells h.own _ _ q0, frow_cells h.own _ _ q1, frow_cells h.own _ _ q2⟩
/-- the number that find answers -/
def ffi (L : List Lh.Fl) (k : Nat) : Int := if Lh.fix L k < L.length then ((Lh.fix L k : Nat) : Int) else -1
theorem fix_first {L : List Lh.Fl} {k j : Nat} (hj : j < L.length) (h : j < Lh.fix L k) : (L[j]).1 ≠ k := by
  have := List.not_of_lt_findIdx h
  simpa using this
theorem fix_at {L : List Lh.Fl} {k i : Nat} (hi : i < L.length) (hp : ∀ j (h : j < L.length), j < i → (L[j]).1 ≠ k) (he : (L[i]).1 = k) : Lh.fix L k = i := by
  have h1 : Lh.fix L k < L.length := Lh.fix_lt.2 ⟨_, List.getElem_mem hi, he⟩
  rcases Nat.lt_trichotomy (Lh.fix L k) i with h | h | h
  · exact absurd (Lh.fix_get h1) (hp _ h1 h)
  · exact h
  · exact absurd he (fix_first hi h)
end Go.Proofs.YtmkdpchodeckgaaDoor

/- The model of flows: drop. -/
namespace Go.Proofs.YtmkdpchodeckgaaDoor
open Go.RowKit

theorem infoFl : (Tryd.prog.info? 75).map (fun i => (i.zero, i.size, i.bytes)) = some (some (.agg #[.int .u64 0, .string ByteArray.empty, .int .i64 0]), 3, 32) := by kernel_rfl
theorem fowns_setCell {w : World} {base : Nat} {e : TypeId} {size : Nat} {v : Value} {n : Nat} {xs : List Value} (h : w.ownsRow base e size v n xs) {x k : Nat} (hx : x < base) (u : Value) : (w.setCell ⟨x, k, none⟩ u).ownsRow base e size v n xs := by
  refine h.kept (row := some x) ⟨rfl, rfl, rfl, by simp [World.setCell], fun j _ hne => heap_setCell_other w ⟨x, k, none⟩ j u (fun e => hne (by rw [e]))⟩ ?_
  cases hv : v.ownBlock with
  | none => exact Or.inl rfl
  | some g =>
    have := (h.lt g hv).1
    exact Or.inr (fun e => by cases e; omega)
/-- another row is laid in its place -/
theorem MF.laid {W w3 : World} {m t : Nat} {la : Int} {L M : List Lh.Fl} {lv v : Value} (h : MF W m t la L lv) (hB : Below W.heap.size W w3) (hown : w3.ownsRow W.heap.size 75 3 v M.length (flatF M)) :
    MF (w3.setCell ⟨m, 2, none⟩ v) m t la M v ∧ Tur (FFoot m lv) W (w3.setCell ⟨m, 2, none⟩ v) ∧ ∀ b, FFoot m v b → FFoot m lv b ∨ W.heap.size ≤ b := by
  have hm := h.mlt
  have hm3 := hB.block m hm
  have hsame : ∀ b, b ≠ m → (w3.setCell ⟨m, 2, none⟩ v).heap[b]? = w3.heap[b]? := fun b hb => heap_setCell_other w3 ⟨m, 2, none⟩ b _ hb
  refine ⟨⟨?_, ?_, ?_, fun k => ?_, fowns_setCell (fown_mono hown hm) (Nat.lt_succ_self m) _⟩, ⟨hB.os, hB.tape, hB.output, by have := hB.size; simpa [World.setCell] using this, fun b hb hf => (hsame b (fun e => hf (Or.inl e))).trans (hB.block b hb)⟩, fun b hb => ?_⟩
  · have : w3.cell? ⟨m, 0, none⟩ = _ := (World.cell?_of_block (w := W) (w' := w3) (a := ⟨m, 0, none⟩) hm3).trans h.c0
    simp [go_sem, this]
  · have : w3.cell? ⟨m, 1, none⟩ = _ := (World.cell?_of_block (w := W) (w' := w3) (a := ⟨m, 1, none⟩) hm3).trans h.c1
    simp [go_sem, this]
  · have : w3.cell? ⟨m, 2, none⟩ = _ := (World.cell?_of_block (w := W) (w' := w3) (a := ⟨m, 2, none⟩) hm3).trans h.c2
    simp [go_sem, this]
  · have : w3.frozen? ⟨m, k, none⟩ = _ := (World.frozen?_of_block (w := W) (w' := w3) (a := ⟨m, k, none⟩) hm3).trans (h.fz k)
    simp [go_sem, this]
  · rcases hb with rfl | e
    · exact Or.inl (Or.inl rfl)
    · exact Or.inr (hown.lt b e).1

end Go.Proofs.YtmkdpchodeckgaaDoor

/- The model of flows: lay. -/
namespace Go.Proofs.YtmkdpchodeckgaaDoor
open Go.RowKit

theorem flay_at {L : List Lh.Fl} {x : Lh.Fl} {k : Nat} (hk : k ≤ L.length) (h1 : ∀ j (h : j < L.length), j < k → (L[j]).1 < x.1) (h2 : ∀ h : k < L.length, ¬ (L[k]).1 < x.1) : Lh.flay x L = L.take k ++ x :: L.drop k := by
  induction L generalizing k with
  | nil =>
    simp at hk
    subst hk
    rfl
  | cons y L ih =>
    match k with
    | 0 =>
      have hy : ¬ y.1 < x.1 := h2 (by simp)
      simp [Lh.flay, hy]
    | k + 1 =>
      have hy : y.1 < x.1 := h1 0 (by simp) (by omega)
      have := ih (k := k) (by simpa using hk) (fun j h hj => h1 (j + 1) (by simpa using h) (by omega)) (fun h => h2 (by simpa using h))
      simp only [Lh.flay] at this ⊢
      rw [List.takeWhile_cons_of_pos (by simpa using hy), List.dropWhile_cons_of_pos (by simpa using hy), List.take_succ_cons, List.drop_succ_cons, List.cons_append, this, List.cons_append]
theorem cellsX {w : World} {t : TypeId} (x : Lh.Fl) : ∀ j u, (encF x)[j]? = some u → (w.alloc (.cells #[.int .u64 (x.1 : Nat), .string x.2.1, .int .i64 x.2.2] t)).cell? ((⟨w.heap.size, 0, none⟩ : Addr).add j) = some u := by
  intro j u hu
  match j, hu with
  | 0, hu => simp [encF] at hu; subst hu; simp [Addr.add]
  | 1, hu => simp [encF] at hu; subst hu; simp [Addr.add]
  | 2, hu => simp [encF] at hu; subst hu; simp [Addr.add]
  | j + 3, hu => simp [encF] at hu
theorem encF_one (x : Lh.Fl) : ∀ u ∈ encF x, u.oneCell' = true := by
  intro u hu
  simp [encF] at hu
  rcases hu with rfl | rfl | rfl <;> rfl

end Go.Proofs.YtmkdpchodeckgaaDoor

/- The law FlowsActs: LongFlows and OwnFlows. -/
namespace Go.Proofs.YtmkdpchodeckgaaDoor
open Go.RowKit

def FShort (l : List Lh.Fl) : Prop := (l.length ≤ 40 ∨ l.length = 201) ∧ ∀ x ∈ l, x.2.1.size ≤ 60

theorem flatF_cells {w : World} {b o : Nat} {l : List Lh.Fl} (h : ∀ i (hi : i < l.length), w.cell? ⟨b, o + i * 3, none⟩ = some (.int .u64 (l[i].1 : Nat)) ∧ w.cell? ⟨b, o + i * 3 + 1, none⟩ = some (.string l[i].2.1) ∧ w.cell? ⟨b, o + i * 3 + 2, none⟩ = some (.int .i64 l[i].2.2)) : ∀ j u, (flatF l)[j]? = some u → w.cell? ((⟨b, o, none⟩ : Addr).add j) = some u := by
  intro j u hu
  have hj : j < (flatF l).length := (List.getElem?_eq_some_iff.1 hu).1
  rw [flatF_length] at hj
  have hi : j / 3 < l.length := by omega
  obtain ⟨g0, g1, g2⟩ := flatF_get l (j / 3) hi
  obtain ⟨c0, c1, c2⟩ := h (j / 3) hi
  rw [Addr.add_lit]
  have e : j = j / 3 * 3 + j % 3 := by omega
  have h3 : j % 3 < 3 := Nat.mod_lt _ (by decide)
  generalize j / 3 = i at *
  generalize j % 3 = r at *
  subst e
  match r, h3 with
  | 0, _ => rw [Nat.add_zero] at hu; rw [g0] at hu; cases hu; exact c0
  | 1, _ => rw [g1] at hu; cases hu; rw [show o + (i * 3 + 1) = o + i * 3 + 1 by omega]; exact c1
  | 2, _ => rw [g2] at hu; cases hu; rw [show o + (i * 3 + 2) = o + i * 3 + 2 by omega]; exact c2
theorem flows_of_owns {w : World} {base : Nat} {v : Value} {l : List Lh.Fl} (h : w.ownsRow base 75 3 v l.length (flatF l)) : Flows1 w v l ∧ ∀ b o n c, v = .slice (some ⟨b, o, none⟩) n c → base ≤ b := by
  rcases h with ⟨hl, ⟨rfl, h0⟩ | ⟨g, cap, cur, rfl, h2, h3, h4, h5, h6, h7⟩⟩
  · exact ⟨Or.inl ⟨List.eq_nil_of_length_eq_zero h0, Or.inl rfl⟩, fun b o n c e => by cases e⟩
  · have hown : w.ownsRow base 75 3 (.slice (some ⟨g, 0, none⟩) l.length cap) l.length (flatF l) := ⟨hl, Or.inr ⟨g, cap, cur, rfl, h2, h3, h4, h5, h6, h7⟩⟩
    refine ⟨Or.inr ⟨g, 0, cap, rfl, h4, fun i hi => ?_⟩, fun b o n c e => by cases e; exact h2⟩
    obtain ⟨g0, g1, g2⟩ := flatF_get l i hi
    simp only [Nat.zero_add]
    exact ⟨frow_cells hown _ _ g0, frow_cells hown _ _ g1, frow_cells hown _ _ g2⟩

end Go.Proofs.YtmkdpchodeckgaaDoor
