/- The model of flows in memory; find and TickError. -/
import Derived.Test.YtmkdpchodeckgaaGreatDoorM7
import Derived.Test.YtmkdpchodeckgaaGreatDoorM22
import Derived.Deep.AppendLies
import Derived.BigQuiet
import Derived.Deep.QuietTactic
import Derived.Laws.AppendOwnNone
import Derived.Test.YtmkdpchodeckgaaGreatDoorM25
import Derived.Test.YtmkdpchodeckgaaGreatDoorM26
import Derived.Deep.RegionHeld3
namespace Go.Proofs.YtmkdpchodeckgaaGreatDoor
open Go.RowKit

/-- Block m is the model. -/
structure MF (W : World) (m t : Nat) (la : Int) (L : List Lh.Fl) (lv : Value) : Prop where
  c0 : W.cell? ⟨m, 0, none⟩ = some (.int .i64 (t : Nat))
  c1 : W.cell? ⟨m, 1, none⟩ = some (.int .i64 la)
  c2 : W.cell? ⟨m, 2, none⟩ = some lv
  fz : ∀ k, W.frozen? ⟨m, k, none⟩ = false
  own : W.ownsRow (m + 1) 48 3 lv L.length (flatF L)
/-- the blocks that it is made of -/
def FFoot (m : Nat) (lv : Value) (b : Nat) : Prop := b = m ∨ lv.ownBlock = some b
theorem fowns_same {w w' : World} {base : Nat} {e : TypeId} {size : Nat} {v : Value} {n : Nat} {xs : List Value} (h : w.ownsRow base e size v n xs) (he : ∀ g, v.ownBlock = some g → w'.heap[g]? = w.heap[g]?) : w'.ownsRow base e size v n xs := by
  obtain ⟨h1, h2 | ⟨g, cap, cur, rfl, e2, e3, e4⟩⟩ := h
  · exact ⟨h1, Or.inl h2⟩
  · exact ⟨h1, Or.inr ⟨g, cap, cur, rfl, e2, (he g rfl).trans e3, e4⟩⟩
theorem fown_shape {w : World} {base : Nat} {e : TypeId} {size n : Nat} {v : Value} {xs : List Value} (h : w.ownsRow base e size v n xs) : ∃ p cap, v = .slice p n cap := by
  obtain ⟨h1, ⟨rfl, rfl⟩ | ⟨g, cap, cur, rfl, _⟩⟩ := h
  · exact ⟨_, _, rfl⟩
  · exact ⟨_, _, rfl⟩
theorem fown_mono {w : World} {base base' : Nat} {e : TypeId} {size n : Nat} {v : Value} {xs : List Value} (h : w.ownsRow base e size v n xs) (hb : base' ≤ base) : w.ownsRow base' e size v n xs := by
  obtain ⟨h1, h2 | ⟨g, cap, cur, e1, e2, e3⟩⟩ := h
  · exact ⟨h1, Or.inl h2⟩
  · exact ⟨h1, Or.inr ⟨g, cap, cur, e1, Nat.le_trans hb e2, e3⟩⟩
theorem frow_cells {w : World} {base : Nat} {e : TypeId} {g n cap : Nat} {xs : List Value} (h : w.ownsRow base e 3 (.slice (some ⟨g, 0, none⟩) n cap) n xs) : ∀ j u, xs[j]? = some u → w.cell? ⟨g, j, none⟩ = some u := fun j u hu => by
  obtain ⟨hl, ⟨e0, _⟩ | ⟨g', cap', cur, e1, _, hb, hn, hm, hsz, ht⟩⟩ := h
  · cases e0
  · cases e1
    have hj : j < xs.length := (List.getElem?_eq_some_iff.1 hu).1
    rw [← ht, List.getElem?_take_of_lt (by omega)] at hu
    simp only [World.cell?, hb]
    simpa using hu
theorem MF.mlt {W : World} {m t : Nat} {la : Int} {L : List Lh.Fl} {lv : Value} (h : MF W m t la L lv) : m < W.heap.size := World.block_lt_of_cell? W ⟨m, 0, none⟩ h.c0
theorem MF.lt {W : World} {m t : Nat} {la : Int} {L : List Lh.Fl} {lv : Value} (h : MF W m t la L lv) : ∀ b, FFoot m lv b → b < W.heap.size ∧ m ≤ b := by
  rintro b (rfl | e)
  · exact ⟨h.mlt, Nat.le_refl _⟩
  · have := h.own.lt b e
    omega
theorem MF.stay {W W' : World} {m t : Nat} {la : Int} {L : List Lh.Fl} {lv : Value} (h : MF W m t la L lv) (hs : ∀ b, FFoot m lv b → W'.heap[b]? = W.heap[b]?) : MF W' m t la L lv := by
  have hm := hs m (Or.inl rfl)
  refine ⟨?_, ?_, ?_, fun k => ?_, fowns_same h.own fun g e => hs g (Or.inr e)⟩
  · rw [World.cell?_of_block (w := W) (w' := W') (a := ⟨m, 0, none⟩) hm]; exact h.c0
  · rw [World.cell?_of_block (w := W) (w' := W') (a := ⟨m, 1, none⟩) hm]; exact h.c1
  · rw [World.cell?_of_block (w := W) (w' := W') (a := ⟨m, 2, none⟩) hm]; exact h.c2
  · rw [World.frozen?_of_block (w := W) (w' := W') (a := ⟨m, k, none⟩) hm]; exact h.fz k
theorem MF.later {W W' : World} {m t : Nat} {la : Int} {L : List Lh.Fl} {lv : Value} (h : MF W m t la L lv) (hb : Below W.heap.size W W') : MF W' m t la L lv := h.stay fun b hf => hb.block b (h.lt b hf).1
/-- the row's cells, as it is read -/
theorem MF.row {W : World} {m t : Nat} {la : Int} {L : List Lh.Fl} {lv : Value} (h : MF W m t la L lv) : ∃ p cap, lv = .slice p L.length cap ∧ ∀ i (hi : i < L.length), ∃ g, p = some ⟨g, 0, none⟩ ∧ W.cell? ⟨g, i * 3, none⟩ = some (.int .u64 (L[i].1 : Nat)) ∧ W.cell? ⟨g, i * 3 + 1, none⟩ = some (.string L[i].2.1) ∧ W.cell? ⟨g, i * 3 + 2, none⟩ = some (.int .i64 L[i].2.2) := by
  rcases h.own with ⟨_, ⟨e, h0⟩ | ⟨g, cap, cur, e, _⟩⟩
  · exact ⟨none, 0, by rw [e, h0], fun i hi => absurd hi (by omega)⟩
  · subst e
    refine ⟨_, _, rfl, fun i hi => ⟨g, rfl, ?_⟩⟩
    obtain ⟨q0, q1, q2⟩ := flatF_get L i hi
    exact ⟨frow_cells h.own _ _ q0, frow_cells h.own _ _ q1, frow_cells h.own _ _ q2⟩
/-- the number that find answers -/
def ffi (L : List Lh.Fl) (k : Nat) : Int := if Lh.fix L k < L.length then ((Lh.fix L k : Nat) : Int) else -1
theorem fix_first {L : List Lh.Fl} {k j : Nat} (hj : j < L.length) (h : j < Lh.fix L k) : (L[j]).1 ≠ k := by
  have := List.not_of_lt_findIdx h
  simpa using this
theorem fix_at {L : List Lh.Fl} {k i : Nat} (hi : i < L.length) (hp : ∀ j (h : j < L.length), j < i → (L[j]).1 ≠ k) (he : (L[i]).1 = k) : Lh.fix L k = i := by
  have h1 : Lh.fix L k < L.length := Lh.fix_lt.2 ⟨_, List.getElem_mem hi, he⟩
  rcases Nat.lt_trichotomy (Lh.fix L k) i with h | h | h
  · exact absurd (Lh.fix_get h1) (hp _ h1 h)
  · exact h
  · exact absurd he (fix_first hi h)
end Go.Proofs.YtmkdpchodeckgaaGreatDoor

/- The model of flows: drop. -/
namespace Go.Proofs.YtmkdpchodeckgaaGreatDoor
open Go.RowKit

theorem infoFl : (Tryz.prog.info? 48).map (fun i => (i.zero, i.size, i.bytes)) = some (some (.agg #[.int .u64 0, .string ByteArray.empty, .int .i64 0]), 3, 32) := by kernel_rfl
theorem fowns_setCell {w : World} {base : Nat} {e : TypeId} {size : Nat} {v : Value} {n : Nat} {xs : List Value} (h : w.ownsRow base e size v n xs) {x k : Nat} (hx : x < base) (u : Value) : (w.setCell ⟨x, k, none⟩ u).ownsRow base e size v n xs := by
  refine h.kept (row := some x) ⟨rfl, rfl, rfl, by simp [World.setCell], fun j _ hne => heap_setCell_other w ⟨x, k, none⟩ j u (fun e => hne (by rw [e]))⟩ ?_
  cases hv : v.ownBlock with
  | none => exact Or.inl rfl
  | some g =>
    have := (h.lt g hv).1
    exact Or.inr (fun e => by cases e; omega)
/-- another row is laid in its place -/
theorem MF.laid {W w3 : World} {m t : Nat} {la : Int} {L M : List Lh.Fl} {lv v : Value} (h : MF W m t la L lv) (hB : Below W.heap.size W w3) (hown : w3.ownsRow W.heap.size 48 3 v M.length (flatF M)) :
    MF (w3.setCell ⟨m, 2, none⟩ v) m t la M v ∧ Tur (FFoot m lv) W (w3.setCell ⟨m, 2, none⟩ v) ∧ ∀ b, FFoot m v b → FFoot m lv b ∨ W.heap.size ≤ b := by
  have hm := h.mlt
  have hm3 := hB.block m hm
  have hsame : ∀ b, b ≠ m → (w3.setCell ⟨m, 2, none⟩ v).heap[b]? = w3.heap[b]? := fun b hb => heap_setCell_other w3 ⟨m, 2, none⟩ b _ hb
  refine ⟨⟨?_, ?_, ?_, fun k => ?_, fowns_setCell (fown_mono hown hm) (Nat.lt_succ_self m) _⟩, ⟨hB.os, hB.tape, hB.output, by have := hB.size; simpa [World.setCell] using this, fun b hb hf => (hsame b (fun e => hf (Or.inl e))).trans (hB.block b hb)⟩, fun b hb => ?_⟩
  · have : w3.cell? ⟨m, 0, none⟩ = _ := (World.cell?_of_block (w := W) (w' := w3) (a := ⟨m, 0, none⟩) hm3).trans h.c0
    simp [go_sem, this]
  · have : w3.cell? ⟨m, 1, none⟩ = _ := (World.cell?_of_block (w := W) (w' := w3) (a := ⟨m, 1, none⟩) hm3).trans h.c1
    simp [go_sem, this]
  · have : w3.cell? ⟨m, 2, none⟩ = _ := (World.cell?_of_block (w := W) (w' := w3) (a := ⟨m, 2, none⟩) hm3).trans h.c2
    simp [go_sem, this]
  · have : w3.frozen? ⟨m, k, none⟩ = _ := (World.frozen?_of_block (w := W) (w' := w3) (a := ⟨m, k, none⟩) hm3).trans (h.fz k)
    simp [go_sem, this]
  · rcases hb with rfl | e
    · exact Or.inl (Or.inl rfl)
    · exact Or.inr (hown.lt b e).1

end Go.Proofs.YtmkdpchodeckgaaGreatDoor

/- The model of flows: lay. -/
namespace Go.Proofs.YtmkdpchodeckgaaGreatDoor
open Go.RowKit

theorem flay_at {L : List Lh.Fl} {x : Lh.Fl} {k : Nat} (hk : k ≤ L.length) (h1 : ∀ j (h : j < L.length), j < k → (L[j]).1 < x.1) (h2 : ∀ h : k < L.length, ¬ (L[k]).1 < x.1) : Lh.flay x L = L.take k ++ x :: L.drop k := by
  induction L generalizing k with
  | nil =>
    simp at hk
    subst hk
    rfl
  | cons y L ih =>
    match k with
    | 0 =>
      have hy : ¬ y.1 < x.1 := h2 (by simp)
      simp [Lh.flay, hy]
    | k + 1 =>
      have hy : y.1 < x.1 := h1 0 (by simp) (by omega)
      have := ih (k := k) (by simpa using hk) (fun j h hj => h1 (j + 1) (by simpa using h) (by omega)) (fun h => h2 (by simpa using h))
      simp only [Lh.flay] at this ⊢
      rw [List.takeWhile_cons_of_pos (by simpa using hy), List.dropWhile_cons_of_pos (by simpa using hy), List.take_succ_cons, List.drop_succ_cons, List.cons_append, this, List.cons_append]
theorem cellsX {w : World} {t : TypeId} (x : Lh.Fl) : ∀ j u, (encF x)[j]? = some u → (w.alloc (.cells #[.int .u64 (x.1 : Nat), .string x.2.1, .int .i64 x.2.2] t)).cell? ((⟨w.heap.size, 0, none⟩ : Addr).add j) = some u := by
  intro j u hu
  match j, hu with
  | 0, hu => simp [encF] at hu; subst hu; simp [Addr.add]
  | 1, hu => simp [encF] at hu; subst hu; simp [Addr.add]
  | 2, hu => simp [encF] at hu; subst hu; simp [Addr.add]
  | j + 3, hu => simp [encF] at hu
theorem encF_one (x : Lh.Fl) : ∀ u ∈ encF x, u.oneCell' = true := by
  intro u hu
  simp [encF] at hu
  rcases hu with rfl | rfl | rfl <;> rfl

end Go.Proofs.YtmkdpchodeckgaaGreatDoor

/- The law FlowsActs: LongFlows and OwnFlows. -/
namespace Go.Proofs.YtmkdpchodeckgaaGreatDoor
open Go.RowKit

def FShort (l : List Lh.Fl) : Prop := (l.length ≤ 40 ∨ l.length = 201) ∧ ∀ x ∈ l, x.2.1.size ≤ 60

theorem flatF_cells {w : World} {b o : Nat} {l : List Lh.Fl} (h : ∀ i (hi : i < l.length), w.cell? ⟨b, o + i * 3, none⟩ = some (.int .u64 (l[i].1 : Nat)) ∧ w.cell? ⟨b, o + i * 3 + 1, none⟩ = some (.string l[i].2.1) ∧ w.cell? ⟨b, o + i * 3 + 2, none⟩ = some (.int .i64 l[i].2.2)) : ∀ j u, (flatF l)[j]? = some u → w.cell? ((⟨b, o, none⟩ : Addr).add j) = some u := by
  intro j u hu
  have hj : j < (flatF l).length := (List.getElem?_eq_some_iff.1 hu).1
  rw [flatF_length] at hj
  have hi : j / 3 < l.length := by omega
  obtain ⟨g0, g1, g2⟩ := flatF_get l (j / 3) hi
  obtain ⟨c0, c1, c2⟩ := h (j / 3) hi
  rw [Addr.add_lit]
  have e : j = j / 3 * 3 + j % 3 := by omega
  have h3 : j % 3 < 3 := Nat.mod_lt _ (by decide)
  generalize j / 3 = i at *
  generalize j % 3 = r at *
  subst e
  match r, h3 with
  | 0, _ => rw [Nat.add_zero] at hu; rw [g0] at hu; cases hu; exact c0
  | 1, _ => rw [g1] at hu; cases hu; rw [show o + (i * 3 + 1) = o + i * 3 + 1 by omega]; exact c1
  | 2, _ => rw [g2] at hu; cases hu; rw [show o + (i * 3 + 2) = o + i * 3 + 2 by omega]; exact c2
theorem flows_of_owns {w : World} {base : Nat} {v : Value} {l : List Lh.Fl} (h : w.ownsRow base 48 3 v l.length (flatF l)) : Flows1 w v l ∧ ∀ b o n c, v = .slice (some ⟨b, o, none⟩) n c → base ≤ b := by
  rcases h with ⟨hl, ⟨rfl, h0⟩ | ⟨g, cap, cur, rfl, h2, h3, h4, h5, h6, h7⟩⟩
  · exact ⟨Or.inl ⟨List.eq_nil_of_length_eq_zero h0, Or.inl rfl⟩, fun b o n c e => by cases e⟩
  · have hown : w.ownsRow base 48 3 (.slice (some ⟨g, 0, none⟩) l.length cap) l.length (flatF l) := ⟨hl, Or.inr ⟨g, cap, cur, rfl, h2, h3, h4, h5, h6, h7⟩⟩
    refine ⟨Or.inr ⟨g, 0, cap, rfl, h4, fun i hi => ?_⟩, fun b o n c e => by cases e; exact h2⟩
    obtain ⟨g0, g1, g2⟩ := flatF_get l i hi
    simp only [Nat.zero_add]
    exact ⟨frow_cells hown _ _ g0, frow_cells hown _ _ g1, frow_cells hown _ _ g2⟩

end Go.Proofs.YtmkdpchodeckgaaGreatDoor

/- The model's CarryOf. -/
namespace Go.Proofs.YtmkdpchodeckgaaGreatDoor
open Go.RowKit

/-- What a text says: epoch, flows, an error. -/
def ReadF (s : List UInt8) (n : Int) (l : List Lh.Fl) (c : Nat) (pl : Int) : Prop :=
  (20000 < s.length ∧ n = 0 ∧ l = [] ∧ c = 2 ∧ pl = -1) ∨
  (s.length ≤ 20000 ∧ Lh.partsL (Lh.cutL 10 s) = none ∧ n = 0 ∧ l = [] ∧ c = 1 ∧ pl = -1) ∨
  (s.length ≤ 20000 ∧ ∃ e L k ps, Lh.partsL (Lh.cutL 10 s) = some (e, L, k, ps) ∧
    ((k ≠ Lh.crcL (Lh.joinL 10 ps ++ [10]) ∧ n = 0 ∧ l = [] ∧ c = 9 ∧ pl = -1) ∨
     (k = Lh.crcL (Lh.joinL 10 ps ++ [10]) ∧ CaF e L c pl ∧ ((c ≠ 0 ∧ n = 0 ∧ l = []) ∨ (c = 0 ∧ n = e ∧ l = L)))))

theorem words_of {w : World} {base : Nat} {v : Value} {ws : List (List UInt8)} (h : w.ownsRow base 9 1 v ws.length (wordsV ws)) (hne : ws ≠ []) : ∃ g cap, v = .slice (some ⟨g, 0, none⟩) ws.length cap ∧ base ≤ g ∧ ∀ j (hj : j < ws.length), w.cell? ⟨g, j, none⟩ = some (.string (Lh.bt ws[j])) := by
  obtain ⟨hl, ⟨rfl, h0⟩ | ⟨g, cap, cur, rfl, hbase, hb, hn, hm, hsz, ht⟩⟩ := h
  · exact absurd (List.eq_nil_of_length_eq_zero h0) hne
  · refine ⟨g, cap, rfl, hbase, fun k hk => ?_⟩
    have hk' : (cur.toList.take (ws.length * 1))[k]? = some (.string (Lh.bt ws[k])) := by rw [ht]; simp [wordsV, hk]
    rw [List.getElem?_take_of_lt (by omega)] at hk'
    simp only [World.cell?, hb]
    simpa using hk'
theorem owns_setCellF {w : World} {base : Nat} {e : TypeId} {size : Nat} {v : Value} {n : Nat} {xs : List Value} (h : w.ownsRow base e size v n xs) {x k : Nat} (hx : x < base) (u : Value) : (w.setCell ⟨x, k, none⟩ u).ownsRow base e size v n xs := by
  refine h.kept (row := some x) ⟨rfl, rfl, rfl, by simp [World.setCell], fun j _ hne => heap_setCell_other w ⟨x, k, none⟩ j u (fun e => hne (by rw [e]))⟩ ?_
  cases hv : v.ownBlock with
  | none => exact Or.inl rfl
  | some g =>
    have := (h.lt g hv).1
    exact Or.inr (fun e => by cases e; omega)
theorem len3 {α : Type} {ws : List α} (h : ws.length = 3) : ∃ a b c, ws = [a, b, c] := by
  match ws, h with
  | [a, b, c], _ => exact ⟨a, b, c, rfl⟩
theorem len2 {α : Type} {ws : List α} (h : ws.length = 2) : ∃ a b, ws = [a, b] := by
  match ws, h with
  | [a, b], _ => exact ⟨a, b, rfl⟩
namespace Lh
theorem parts_short {ls : List (List UInt8)} (h : ls.length < 3 ∨ ls.getD (ls.length - 1) [] ≠ []) : partsL ls = none := by
  unfold partsL
  rw [if_pos h]
theorem parts_first {ls : List (List UInt8)} (h : firstL (ls.getD 0 []) = none) : partsL ls = none := by
  unfold partsL
  split
  · rfl
  · rw [h]
theorem parts_rows {ls : List (List UInt8)} (h : rowsL ((ls.drop 1).take (ls.length - 3)) = none) : partsL ls = none := by
  unfold partsL
  split
  · rfl
  · rw [h]
    split <;> simp_all
theorem parts_last {ls : List (List UInt8)} (h : lastL (ls.getD (ls.length - 2) []) = none) : partsL ls = none := by
  unfold partsL
  split
  · rfl
  · rw [h]
    split <;> simp_all
theorem parts_many {ls : List (List UInt8)} {e n : Nat} (h : firstL (ls.getD 0 []) = some (e, n)) (hn : n + 3 ≠ ls.length) : partsL ls = none := by
  unfold partsL
  split
  · rfl
  · rw [h]
    split
    · rename_i h1 h2 h3
      cases h1
      rw [if_pos hn]
    · rfl
theorem parts_some {ls : List (List UInt8)} {e n k : Nat} {l : List Fl} (h0 : ¬ (ls.length < 3 ∨ ls.getD (ls.length - 1) [] ≠ [])) (h1 : firstL (ls.getD 0 []) = some (e, n)) (h2 : n + 3 = ls.length) (h3 : rowsL ((ls.drop 1).take (ls.length - 3)) = some l) (h4 : lastL (ls.getD (ls.length - 2) []) = some k) : partsL ls = some (e, l, k, ls.take (ls.length - 2)) := by
  unfold partsL
  rw [if_neg h0, h1, h3, h4]
  simp only
  rw [if_neg (by omega)]
theorem cut_len (y : UInt8) : ∀ l : List UInt8, (cutL y l).length ≤ l.length + 1
  | [] => by simp [cutL]
  | c :: l => by
    have := cut_len y l
    obtain ⟨x, xs, e⟩ := cutL_some y l
    rw [cutL_cons]
    rw [e] at this ⊢
    split
    · simp at this ⊢; omega
    · simp at this ⊢; omega
theorem cut_word (y : UInt8) : ∀ (l w : List UInt8), w ∈ cutL y l → w.length ≤ l.length
  | [], w, h => by simp [cutL] at h; subst h; simp
  | c :: l, w, h => by
    have ih := cut_word y l
    obtain ⟨x, xs, e⟩ := cutL_some y l
    rw [cutL_cons] at h
    rw [e] at h ih
    split at h
    · rcases List.mem_cons.1 h with rfl | h
      · simp
      · have := ih w h; simp; omega
    · rcases List.mem_cons.1 h with rfl | h
      · have := ih x (List.mem_cons_self ..); simp; omega
      · have := ih w (List.mem_cons_of_mem _ h); simp; omega
end Lh

end Go.Proofs.YtmkdpchodeckgaaGreatDoor

/- The model's small functions of texts: Decimal, Seal. -/
namespace Go.Proofs.YtmkdpchodeckgaaGreatDoor
open Go.RowKit

end Go.Proofs.YtmkdpchodeckgaaGreatDoor

/- The model's text of flows. -/
namespace Go.Proofs.YtmkdpchodeckgaaGreatDoor
open Go.RowKit

namespace Lh
theorem line_bt (p : List UInt8) (x : Fl) : bt p ++ bt (hexL 16 x.1) ++ bt [32] ++ x.2.1 ++ bt [32] ++ bt (decL x.2.2.toNat) ++ bt [10] = bt (p ++ (lineF x ++ [10])) := by
  have e : x.2.1 = bt x.2.1.data.toList := rfl
  rw [e]
  rw [bt_append, bt_append, bt_append, bt_append, bt_append, bt_append]
  congr 1
  simp [lineF, joinL]
theorem head_bt (e n : Nat) : bt [102, 108, 111, 119, 115, 32] ++ bt (decL e) ++ bt [32] ++ bt (decL n) ++ bt [10] = bt (headL e n ++ [10]) := by
  rw [bt_append, bt_append, bt_append, bt_append]
  congr 1
  simp [headL, joinL, flowsW]
end Lh
/-- Flows that a text can hold. -/
def CanT (L : List Lh.Fl) : Prop := ∀ x ∈ L, x.1 < 18446744073709551616 ∧ x.2.1.size ≤ 60 ∧ 0 ≤ x.2.2 ∧ x.2.2.toNat < 100000000000000

end Go.Proofs.YtmkdpchodeckgaaGreatDoor

/- What is carried over: a text that is cut off is none. -/
namespace Go.Proofs.YtmkdpchodeckgaaGreatDoor
namespace Lh

theorem count_join {y : UInt8} : ∀ {ws : List (List UInt8)}, ws ≠ [] → (∀ w ∈ ws, y ∉ w) → (joinL y ws).count y + 1 = ws.length
  | [w], _, h => by
    show w.count y + 1 = 1
    rw [List.count_eq_zero.2 (h w (by simp))]
  | w :: v :: ws, _, h => by
    have ih := count_join (y := y) (ws := v :: ws) (by simp) fun u hu => h u (by simp [hu])
    show (w ++ y :: joinL y (v :: ws)).count y + 1 = _
    rw [List.count_append, List.count_eq_zero.2 (h w (by simp)), List.count_cons_self, List.length_cons]
    omega
theorem text_count {e : Nat} {l : List Fl} (h : WordF l) : (textL e l).count 10 = l.length + 2 := by
  have h1 := count_join (y := 10) (ws := (headL e l.length :: l.map lineF) ++ [sumL (bodyL e l)] ++ [[]]) (by simp) fun w hw => by
    simp only [List.mem_append, List.mem_cons, List.mem_map, List.not_mem_nil, or_false] at hw
    rcases hw with ((rfl | ⟨x, hx, rfl⟩) | rfl) | rfl
    · exact headL_no _ _
    · exact lineF_no h hx
    · exact sum_no _
    · simp
  rw [← text_lines] at h1
  simp at h1
  omega
theorem text_head (e : Nat) (l : List Fl) : ∃ r, textL e l = headL e l.length ++ 10 :: r := by
  unfold textL bodyL
  cases hl : l.map lineF with
  | nil => exact ⟨sumL (joinL 10 [headL e l.length] ++ [10]) ++ [10], by simp [joinL]⟩
  | cons w ws => exact ⟨joinL 10 (w :: ws) ++ [10] ++ sumL (joinL 10 (headL e l.length :: w :: ws) ++ [10]) ++ [10], by simp [joinL]⟩
/-- A text of flows of which some is cut off is no text of flows. -/
theorem text_prefix {e e' : Nat} {l l' : List Fl} (he : e < 100000000000000) (he' : e' < 100000000000000) (hl : l.length < 100000000000000) (hl' : l'.length < 100000000000000) (h : WordF l) (h' : WordF l') {t : List UInt8} (ht : t ≠ []) (hp : textL e l = textL e' l' ++ t) : False := by
  obtain ⟨r, hr⟩ := text_head e l
  obtain ⟨r', hr'⟩ := text_head e' l'
  have c1 : cutL 10 (textL e l) = headL e l.length :: cutL 10 r := by rw [hr]; exact cutL_app r (headL_no _ _)
  have c2 : cutL 10 (textL e l) = headL e' l'.length :: cutL 10 (r' ++ t) := by rw [hp, hr', List.append_assoc]; exact cutL_app (r' ++ t) (headL_no _ _)
  rw [c1] at c2
  have hh := (List.cons.inj c2).1
  have f1 := head_back he hl
  have f2 := head_back he' hl'
  rw [hh] at f1
  have f3 := Option.some.inj (f1.symm.trans f2)
  have hn : l.length = l'.length := congrArg Prod.snd f3
  have k1 := text_count (e := e) h
  have k2 := text_count (e := e') h'
  rw [hp, List.count_append] at k1
  have k3 : t.count 10 = 0 := by omega
  have hlast : ∃ u, textL e l = u ++ [10] := ⟨_, rfl⟩
  obtain ⟨u, hu⟩ := hlast
  obtain ⟨m, c, hm⟩ : ∃ m c, t = m ++ [c] := ⟨t.dropLast, t.getLast ht, (List.dropLast_concat_getLast ht).symm⟩
  have hc : c = 10 := by
    rw [hm, ← List.append_assoc] at hp
    have := List.append_inj_right' (hu.symm.trans hp) rfl
    simpa using this.symm
  rw [hm, hc, List.count_append] at k3
  simp at k3
end Lh
end Go.Proofs.YtmkdpchodeckgaaGreatDoor
