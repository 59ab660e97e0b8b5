/- Small things that rings and rivals share: a list without a fault, errors, texts and keys in memory. -/
import Derived.Test.YtfhmfjcpggddkaaGreatDoorM5
import Derived.Test.YtfhmfjcpggddkaaGreatDoorM4
import Derived.Below
import Derived.Test.YtfhmfjcpggddkaaGreatDoorM3
import Derived.BigQuiet
import Derived.Deep.QuietTactic
import Derived.Laws.StructEq
import Derived.Laws.Strings
import Derived.Deep.AppendLies
import Derived.Deep.RegionHeld3
import Derived.Laws.AppendOwnNone
namespace Go.Proofs.YtfhmfjcpggddkaaGreatDoor
open Go.RowKit

theorem nodup_good {xs : List ByteArray} (h : ∀ j, ∀ hj : j < xs.length, Good xs j hj) : xs.Nodup := by
  refine List.pairwise_iff_getElem.2 fun i j hi hj hij e => ?_
  have h2 := (h j hj).2
  rw [Lh.mem_true] at h2
  · cases h2
  · rw [List.mem_take_iff_getElem]
    exact ⟨i, by omega, e⟩
theorem fault0 {xs : List ByteArray} {pl : Int} (h : IsFault xs 0 pl) : pl = -1 ∧ xs.length ≤ 12 ∧ xs.Nodup := by
  rcases h with ⟨_, h, _⟩ | ⟨_, i, _, _, _, ⟨_, h⟩ | ⟨_, _, h⟩⟩ | ⟨h, hg, _, h'⟩
  · cases h
  · cases h
  · cases h
  · exact ⟨h', by omega, nodup_good hg⟩
theorem err0 {a : Nat → Addr} {W : World} {pl : Int} {v : Value} (h : ErrIs a W 0 pl v) : v = .nilIface := by
  rcases h with ⟨_, _, h⟩ | ⟨i, _, h, _⟩
  · exact h
  · omega
theorem errPos {a : Nat → Addr} {W : World} {c : Nat} {pl : Int} {v : Value} (h : ErrIs a W c pl v) (hc : c ≠ 0) : ∃ t x, v = .iface t x := by
  rcases h with ⟨h, _⟩ | ⟨j, _, _, ⟨_, h⟩ | ⟨b, h, _⟩⟩
  · exact absurd h hc
  · exact ⟨_, _, h⟩
  · exact ⟨_, _, h⟩
theorem strsPos {w : World} {v : Value} {xs : List ByteArray} (h : Strs1 w v xs) (hp : 0 < xs.length) : ∃ b o c, v = .slice (some ⟨b, o, none⟩) xs.length c ∧ ∀ k (h : k < xs.length), w.cell? ⟨b, o + k, none⟩ = some (.string xs[k]) := by
  rcases h with ⟨rfl, _⟩ | ⟨b, o, c, rfl, _, hc⟩
  · cases hp
  · exact ⟨b, o, c, rfl, hc⟩

theorem owns_snoc {w : World} {base n : Nat} {v : Value} {e : TypeId} {out : List ByteArray} {s : ByteArray} (h : w.ownsRow base e 1 v n (out.map Value.string ++ [.string s])) : w.ownsRow base e 1 v n ((out ++ [s]).map Value.string) := by simpa using h
theorem cells_one {w : World} {t : TypeId} (s : ByteArray) : ∀ j u, [Value.string s][j]? = some u → (w.alloc (.cells #[.string s] t)).cell? ((⟨w.heap.size, 0, none⟩ : Addr).add j) = some u := by
  intro j u hu
  match j, hu with
  | 0, hu => simp at hu; subst hu; simp [Addr.add]
  | j + 1, hu => simp at hu
theorem fault_nm {xs : List ByteArray} {pl : Int} (h : IsFault xs 0 pl) : ∀ s ∈ xs, Lh.isNm s = true := by
  rcases h with ⟨_, h, _⟩ | ⟨_, i, _, _, _, ⟨_, h⟩ | ⟨_, _, h⟩⟩ | ⟨_, hg, _, _⟩
  · cases h
  · cases h
  · cases h
  · intro s hs
    obtain ⟨j, hj, rfl⟩ := List.getElem_of_mem hs
    exact (hg j hj).1
theorem fault_of {xs : List ByteArray} (h12 : xs.length ≤ 12) (hn : ∀ s ∈ xs, Lh.isNm s = true) (hd : xs.Nodup) : IsFault xs 0 (-1) := by
  refine Or.inr (Or.inr ⟨by omega, fun j hj => ⟨hn _ (List.getElem_mem hj), Lh.mem_false fun h => ?_⟩, rfl, rfl⟩)
  rw [List.mem_take_iff_getElem] at h
  obtain ⟨i, hi, e⟩ := h
  exact List.pairwise_iff_getElem.1 hd i j (by omega) hj (by omega) e
end Go.Proofs.YtfhmfjcpggddkaaGreatDoor

/- A frame: all blocks but some are as they were. -/
namespace Go.Proofs.YtfhmfjcpggddkaaGreatDoor
open Go.RowKit

/-- All blocks but those of F are as they were. -/
structure Tur (F : Nat → Prop) (w w' : World) : Prop where
  os : w'.os = w.os
  tape : w'.tape = w.tape
  output : w'.output = w.output
  size : w.heap.size ≤ w'.heap.size
  block : ∀ k, k < w.heap.size → ¬ F k → w'.heap[k]? = w.heap[k]?
theorem Tur.below {F : Nat → Prop} {B : Nat} {w W W' : World} (h : Tur F W W') (hF : ∀ k, F k → B ≤ k) (hb : Below B w W) (hB : B ≤ w.heap.size) : Below B w W' :=
  ⟨h.os.trans hb.os, h.tape.trans hb.tape, h.output.trans hb.output, Nat.le_trans hb.size h.size, fun k hk => (h.block k (by have := hb.size; omega) (fun hf => by have := hF k hf; omega)).trans (hb.block k hk)⟩
theorem Tur.of_below {F : Nat → Prop} {w w' : World} (h : Below w.heap.size w w') : Tur F w w' := ⟨h.os, h.tape, h.output, h.size, fun k hk _ => h.block k hk⟩
theorem Tur.trans {F G : Nat → Prop} {w w1 w2 : World} (h : Tur F w w1) (k : Tur G w1 w2) (hG : ∀ b, G b → F b ∨ w.heap.size ≤ b) : Tur F w w2 :=
  ⟨k.os.trans h.os, k.tape.trans h.tape, k.output.trans h.output, Nat.le_trans h.size k.size, fun b hb hf => (k.block b (Nat.lt_of_lt_of_le hb h.size) (fun hg => by rcases hG b hg with h1 | h1; exact hf h1; omega)).trans (h.block b hb hf)⟩
end Go.Proofs.YtfhmfjcpggddkaaGreatDoor

/- What the laws of flows ask of the landed package. -/
namespace Go.Proofs.YtfhmfjcpggddkaaGreatDoor
open Go.RowKit

/-- What is wrong with a tick: the error. -/
def TickF (last now : Int) (k : Nat) : Prop := ((now < 0 ∨ 1099511627776 < now) ∧ k = 1) ∨ (0 ≤ now ∧ now ≤ 1099511627776 ∧ now < last ∧ k = 7)
def TickOk (last now : Int) : Prop := 0 ≤ now ∧ now ≤ 1099511627776 ∧ last ≤ now
theorem tick_ex (last now : Int) : TickOk last now ∨ ∃ k, TickF last now k := by
  by_cases h : now < 0 ∨ 1099511627776 < now
  · exact Or.inr ⟨1, Or.inl ⟨h, rfl⟩⟩
  · by_cases h2 : now < last
    · exact Or.inr ⟨7, Or.inr ⟨by omega, by omega, h2, rfl⟩⟩
    · exact Or.inl ⟨by omega, by omega, by omega⟩
/-- A list of flows in memory. -/
def Flows1 (w : World) (v : Value) (L : List Lh.Fl) : Prop :=
  (L = [] ∧ (v = .slice none 0 0 ∨ ∃ ad c, v = .slice (some ad) 0 c)) ∨ ∃ b o c, v = .slice (some ⟨b, o, none⟩) L.length c ∧ L.length ≤ c ∧ ∀ i (h : i < L.length), w.cell? ⟨b, o + i * 3, none⟩ = some (.int .u64 (L[i].1 : Nat)) ∧ w.cell? ⟨b, o + i * 3 + 1, none⟩ = some (.string L[i].2.1) ∧ w.cell? ⟨b, o + i * 3 + 2, none⟩ = some (.int .i64 L[i].2.2)
theorem Flows1.later {w w' : World} {v : Value} {L : List Lh.Fl} (h : Flows1 w v L) (hb : Below w.heap.size w w') : Flows1 w' v L := by
  rcases h with h | ⟨b, o, c, e, hc, h⟩
  · exact Or.inl h
  · exact Or.inr ⟨b, o, c, e, hc, fun i hi => ⟨below_cell hb (h i hi).1, below_cell hb (h i hi).2.1, below_cell hb (h i hi).2.2⟩⟩
theorem Flows1.shape {w : World} {v : Value} {L : List Lh.Fl} (h : Flows1 w v L) : ∃ p c, v = .slice p L.length c := by
  rcases h with ⟨rfl, rfl | ⟨ad, c, rfl⟩⟩ | ⟨b, o, c, rfl, _⟩
  · exact ⟨_, _, rfl⟩
  · exact ⟨_, c, rfl⟩
  · exact ⟨_, _, rfl⟩
/-- a new list of flows, of the callee's own making -/
def FlowsNew (B : Nat) (w : World) (v : Value) (L : List Lh.Fl) : Prop := (L = [] ∧ (v = .slice none 0 0 ∨ ∃ ad c, v = .slice (some ad) 0 c)) ∨ ∃ g c, v = .slice (some ⟨g, 0, none⟩) L.length c ∧ L.length ≤ c ∧ B ≤ g ∧ (∀ i (h : i < L.length), w.cell? ⟨g, i * 3, none⟩ = some (.int .u64 (L[i].1 : Nat)) ∧ w.cell? ⟨g, i * 3 + 1, none⟩ = some (.string L[i].2.1) ∧ w.cell? ⟨g, i * 3 + 2, none⟩ = some (.int .i64 L[i].2.2)) ∧ ∀ k, k < L.length * 3 → w.frozen? ⟨g, k, none⟩ = false
theorem FlowsNew.flows {B : Nat} {W : World} {v : Value} {L : List Lh.Fl} (h : FlowsNew B W v L) : Flows1 W v L := by
  rcases h with h | ⟨g, c, h1, h2, _, h3, _⟩
  · exact Or.inl h
  · exact Or.inr ⟨g, 0, c, h1, h2, by simpa only [Nat.zero_add] using h3⟩
theorem FlowsNew.later {B : Nat} {W W' : World} {v : Value} {L : List Lh.Fl} (h : FlowsNew B W v L) (hb : Below W.heap.size W W') : FlowsNew B W' v L := by
  rcases h with h | ⟨g, c, h1, h2, hg, h3, h4⟩
  · exact Or.inl h
  · refine Or.inr ⟨g, c, h1, h2, hg, fun i hi => ⟨below_cell hb (h3 i hi).1, below_cell hb (h3 i hi).2.1, below_cell hb (h3 i hi).2.2⟩, fun k hk => ?_⟩
    have hlt : g < W.heap.size := World.block_lt_of_cell? W ⟨g, 0 * 3, none⟩ (h3 0 (by omega)).1
    exact (World.frozen?_of_block (w := W) (w' := W') (a := ⟨g, k, none⟩) (hb.block g hlt)).trans (h4 k hk)
theorem FlowsNew.base {B B' : Nat} {W : World} {v : Value} {L : List Lh.Fl} (h : FlowsNew B W v L) (hb : B' ≤ B) : FlowsNew B' W v L := by
  rcases h with h | ⟨g, c, h1, h2, hg, h3⟩
  · exact Or.inl h
  · exact Or.inr ⟨g, c, h1, h2, Nat.le_trans hb hg, h3⟩
/-- flows as they come: keys and ticks that a machine has, hosts not too long -/
def FlIn (l : List Lh.Fl) : Prop := ∀ x ∈ l, x.1 < 18446744073709551616 ∧ x.2.1.size ≤ 300 ∧ -9223372036854775808 ≤ x.2.2 ∧ x.2.2 ≤ 9223372036854775807
end Go.Proofs.YtfhmfjcpggddkaaGreatDoor

/- Flows that are the same. -/
namespace Go.Proofs.YtfhmfjcpggddkaaGreatDoor
open Go.RowKit

theorem Flows1.cells {w : World} {v : Value} {L : List Lh.Fl} (h : Flows1 w v L) : ∃ p c, v = .slice p L.length c ∧ ∀ i (hi : i < L.length), ∃ b o, p = some ⟨b, o, none⟩ ∧ w.cell? ⟨b, o + i * 3, none⟩ = some (.int .u64 (L[i].1 : Nat)) ∧ w.cell? ⟨b, o + i * 3 + 1, none⟩ = some (.string L[i].2.1) ∧ w.cell? ⟨b, o + i * 3 + 2, none⟩ = some (.int .i64 L[i].2.2) := by
  rcases h with ⟨rfl, rfl | ⟨ad, c, rfl⟩⟩ | ⟨b, o, c, rfl, _, h⟩
  · exact ⟨_, _, rfl, fun i hi => absurd hi (by simp)⟩
  · exact ⟨_, c, rfl, fun i hi => absurd hi (by simp)⟩
  · exact ⟨_, c, rfl, fun i hi => ⟨b, o, rfl, h i hi⟩⟩

end Go.Proofs.YtfhmfjcpggddkaaGreatDoor

/- The model's CarryFault. -/
namespace Go.Proofs.YtfhmfjcpggddkaaGreatDoor
open Go.RowKit

def GoodF (l : List Lh.Fl) (i : Nat) (h : i < l.length) : Prop := Lh.isNm (l[i]).2.1 = true ∧ 0 ≤ (l[i]).2.2 ∧ (l[i]).2.2 ≤ 1099511628776 ∧ ∀ j (hj : j < l.length), j < i → (l[j]).1 ≠ (l[i]).1
/-- What is wrong with a flow. -/
def FlawF (l : List Lh.Fl) (i : Nat) (h : i < l.length) (c : Nat) : Prop := (Lh.isNm (l[i]).2.1 = false ∧ c = 4) ∨ (Lh.isNm (l[i]).2.1 = true ∧ ((l[i]).2.2 < 0 ∨ 1099511628776 < (l[i]).2.2) ∧ c = 2) ∨ (Lh.isNm (l[i]).2.1 = true ∧ 0 ≤ (l[i]).2.2 ∧ (l[i]).2.2 ≤ 1099511628776 ∧ (∃ j, ∃ hj : j < l.length, j < i ∧ (l[j]).1 = (l[i]).1) ∧ c = 6)
/-- What is wrong with flows that are to be carried. -/
def CaF (e : Int) (l : List Lh.Fl) (c : Nat) (pl : Int) : Prop :=
  ((e < 0 ∨ 1099511627776 < e ∨ 200 < l.length) ∧ c = 2 ∧ pl = -1) ∨
  ((0 ≤ e ∧ e ≤ 1099511627776 ∧ l.length ≤ 200) ∧ ∃ i, ∃ h : i < l.length, (∀ j, j < i → ∀ hj : j < l.length, GoodF l j hj) ∧ pl = i ∧ FlawF l i h c) ∨
  ((0 ≤ e ∧ e ≤ 1099511627776 ∧ l.length ≤ 200) ∧ (∀ j, ∀ hj : j < l.length, GoodF l j hj) ∧ c = 0 ∧ pl = -1)
theorem flaw_good {l : List Lh.Fl} {i : Nat} {h : i < l.length} {c : Nat} (hf : FlawF l i h c) : ¬ GoodF l i h := by
  rintro ⟨g1, g2, g3, g4⟩
  rcases hf with ⟨h1, _⟩ | ⟨_, h2, _⟩ | ⟨_, _, _, ⟨j, hj, h3, h4⟩, _⟩
  · rw [g1] at h1; cases h1
  · omega
  · exact g4 j hj h3 h4
theorem flaw_one {l : List Lh.Fl} {i : Nat} {h : i < l.length} {c c' : Nat} (hf : FlawF l i h c) (hf' : FlawF l i h c') : c = c' := by
  rcases hf with ⟨h1, e1⟩ | ⟨h1, h2, e1⟩ | ⟨h1, h2, h3, h4, e1⟩ <;> rcases hf' with ⟨g1, e2⟩ | ⟨g1, g2, e2⟩ | ⟨g1, g2, g3, g4, e2⟩ <;> first | omega | (rw [h1] at g1; cases g1)
theorem caF_one {e : Int} {l : List Lh.Fl} {c c' : Nat} {pl pl' : Int} (hf : CaF e l c pl) (hf' : CaF e l c' pl') : c = c' ∧ pl = pl' := by
  rcases hf with ⟨h1, e1, e2⟩ | ⟨h1, i, hi, h2, e2, h3⟩ | ⟨h1, h2, e1, e2⟩ <;> rcases hf' with ⟨g1, d1, d2⟩ | ⟨g1, k, hk, g2, d2, g3⟩ | ⟨g1, g2, d1, d2⟩
  · omega
  · omega
  · omega
  · omega
  · have : i = k := by
      rcases Nat.lt_trichotomy i k with h | h | h
      · exact absurd (g2 i h hi) (flaw_good h3)
      · exact h
      · exact absurd (h2 k h hk) (flaw_good g3)
    subst this
    exact ⟨flaw_one h3 g3, by omega⟩
  · exact absurd (g2 i hi) (flaw_good h3)
  · omega
  · exact absurd (h2 k hk) (flaw_good g3)
  · omega

end Go.Proofs.YtfhmfjcpggddkaaGreatDoor

/- Texts of flows as lists: the body, line by line; how long. -/
namespace Go.Proofs.YtfhmfjcpggddkaaGreatDoor
namespace Lh
def rowsB (l : List Fl) : List UInt8 := l.flatMap fun x => lineF x ++ [10]
theorem join_rows : ∀ (w : List UInt8) (l : List Fl), joinL 10 (w :: l.map lineF) ++ [10] = w ++ [10] ++ rowsB l
  | w, [] => by simp [joinL, rowsB]
  | w, x :: l => by
    have := join_rows (lineF x) l
    simp only [List.map_cons, rowsB, List.flatMap_cons] at this ⊢
    show w ++ 10 :: joinL 10 (lineF x :: l.map lineF) ++ [10] = _
    rw [List.append_assoc, List.cons_append, this]
    simp
theorem body_rows (e : Nat) (l : List Fl) : bodyL e l = headL e l.length ++ [10] ++ rowsB l := join_rows _ _
theorem rowsB_snoc (l : List Fl) (x : Fl) : rowsB (l ++ [x]) = rowsB l ++ (lineF x ++ [10]) := by simp [rowsB]
theorem rowsB_take {l : List Fl} {i : Nat} (h : i < l.length) : rowsB (l.take (i + 1)) = rowsB (l.take i) ++ (lineF l[i] ++ [10]) := by
  rw [List.take_succ_eq_append_getElem h, rowsB_snoc]
theorem lineF_len {x : Fl} (h1 : x.2.1.size ≤ 60) (h2 : x.2.2.toNat < 100000000000000) : (lineF x).length ≤ 92 := by
  have e1 := hexL_len 16 x.1
  have e2 := decL_len (n := x.2.2.toNat) (k := 14) (by decide) (by omega)
  have e3 : x.2.1.data.toList.length = x.2.1.size := rfl
  simp only [lineF, joinL, List.length_append, List.length_cons]
  omega
theorem rowsB_len : ∀ {l : List Fl}, (∀ x ∈ l, x.2.1.size ≤ 60 ∧ x.2.2.toNat < 100000000000000) → (rowsB l).length ≤ 93 * l.length
  | [], _ => by simp [rowsB]
  | x :: l, h => by
    have h1 := rowsB_len (l := l) fun y hy => h y (List.mem_cons_of_mem _ hy)
    have h2 := lineF_len (h x (List.mem_cons_self ..)).1 (h x (List.mem_cons_self ..)).2
    simp only [rowsB, List.flatMap_cons, List.length_append, List.length_cons, List.length_nil] at h1 ⊢
    omega
theorem headL_len {e n : Nat} (he : e < 100000000000000) (hn : n < 100000000000000) : (headL e n).length ≤ 35 := by
  have e1 := decL_len (n := e) (k := 14) (by decide) (by omega)
  have e2 := decL_len (n := n) (k := 14) (by decide) (by omega)
  simp only [headL, joinL, flowsW, List.length_append, List.length_cons, List.length_nil]
  omega
end Lh
end Go.Proofs.YtfhmfjcpggddkaaGreatDoor

/- Texts of flows as lists: what is wrong with a line. -/
namespace Go.Proofs.YtfhmfjcpggddkaaGreatDoor
namespace Lh
theorem bt_list (l : List UInt8) : (bt l).toList = l := by rw [ByteArray.toList_eq]; rfl
end Lh
end Go.Proofs.YtfhmfjcpggddkaaGreatDoor

/- Flows in a row of cells, three a flow. -/
namespace Go.Proofs.YtfhmfjcpggddkaaGreatDoor
open Go

def encF (x : Lh.Fl) : List Value := [.int .u64 (x.1 : Nat), .string x.2.1, .int .i64 x.2.2]
def flatF (L : List Lh.Fl) : List Value := L.flatMap encF
theorem flatF_append (L M : List Lh.Fl) : flatF (L ++ M) = flatF L ++ flatF M := by simp [flatF, List.flatMap_append]
theorem flatF_get (L : List Lh.Fl) : ∀ i (h : i < L.length), (flatF L)[i * 3]? = some (.int .u64 (L[i].1 : Nat)) ∧ (flatF L)[i * 3 + 1]? = some (.string L[i].2.1) ∧ (flatF L)[i * 3 + 2]? = some (.int .i64 L[i].2.2) := by
  induction L with
  | nil => intro i h; cases h
  | cons p P ih =>
    intro i h
    have e : flatF (p :: P) = .int .u64 (p.1 : Nat) :: .string p.2.1 :: .int .i64 p.2.2 :: flatF P := rfl
    rw [e]
    match i, h with
    | 0, _ => exact ⟨rfl, rfl, rfl⟩
    | i + 1, h =>
      have := ih i (by simpa using h)
      rw [show (i + 1) * 3 = i * 3 + 1 + 1 + 1 by omega]
      simpa using this
end Go.Proofs.YtfhmfjcpggddkaaGreatDoor

/- The model's text of flows. -/
namespace Go.Proofs.YtfhmfjcpggddkaaGreatDoor
open Go.RowKit

namespace Lh
end Lh
/-- Flows that a text can hold. -/
def CanT (L : List Lh.Fl) : Prop := ∀ x ∈ L, x.1 < 18446744073709551616 ∧ x.2.1.size ≤ 60 ∧ 0 ≤ x.2.2 ∧ x.2.2.toNat < 100000000000000

end Go.Proofs.YtfhmfjcpggddkaaGreatDoor

/- What texts of flows say: one answer; the round trip; a text that is read is the text of what it says. -/
namespace Go.Proofs.YtfhmfjcpggddkaaGreatDoor

/-- Keys that a machine has. -/
def KeyIn (l : List Lh.Fl) : Prop := ∀ x ∈ l, x.1 < 18446744073709551616
theorem nm_word {s : ByteArray} (h : Lh.isNm s = true) : s.data.toList ≠ [] ∧ (32 : UInt8) ∉ s.data.toList ∧ (10 : UInt8) ∉ s.data.toList ∧ s.size ≤ 12 := by
  simp only [Lh.isNm, Bool.and_eq_true, decide_eq_true_eq] at h
  obtain ⟨⟨⟨h1, h2⟩, _⟩, h4⟩ := h
  have hl : s.data.toList.length = s.size := rfl
  refine ⟨fun e => ?_, fun hm => ?_, fun hm => ?_, h2⟩
  · rw [e] at hl; simp at hl; omega
  · have := List.all_eq_true.1 h4 _ hm
    revert this
    decide
  · have := List.all_eq_true.1 h4 _ hm
    revert this
    decide
theorem caF_good {e : Int} {l : List Lh.Fl} {pl : Int} (h : CaF e l 0 pl) : (0 ≤ e ∧ e ≤ 1099511627776 ∧ l.length ≤ 200) ∧ (∀ j, ∀ hj : j < l.length, GoodF l j hj) ∧ pl = -1 := by
  rcases h with ⟨_, h, _⟩ | ⟨h1, i, hi, _, _, h3⟩ | ⟨h1, h2, _, h3⟩
  · cases h
  · rcases h3 with ⟨_, h⟩ | ⟨_, _, h⟩ | ⟨_, _, _, _, h⟩ <;> cases h
  · exact ⟨h1, h2, h3⟩
theorem caF_word {e : Int} {l : List Lh.Fl} {pl : Int} (h : CaF e l 0 pl) (hk : KeyIn l) : Lh.WordF l ∧ CanT l ∧ e.toNat < 100000000000000 ∧ (e.toNat : Int) = e := by
  obtain ⟨⟨h1, h2, h3⟩, hg, _⟩ := caF_good h
  refine ⟨fun x hx => ?_, fun x hx => ?_, by omega, by omega⟩
  · obtain ⟨j, hj, rfl⟩ := List.getElem_of_mem hx
    obtain ⟨g1, g2, g3, _⟩ := hg j hj
    obtain ⟨n1, n2, n3, n4⟩ := nm_word g1
    exact ⟨hk _ hx, g2, by omega, n1, n2, n3⟩
  · obtain ⟨j, hj, rfl⟩ := List.getElem_of_mem hx
    obtain ⟨g1, g2, g3, _⟩ := hg j hj
    obtain ⟨n1, n2, n3, n4⟩ := nm_word g1
    exact ⟨hk _ hx, by omega, g2, by omega⟩
theorem text_len {e : Int} {l : List Lh.Fl} {pl : Int} (h : CaF e l 0 pl) (hk : KeyIn l) : (Lh.textL e.toNat l).length ≤ 20000 := by
  obtain ⟨_, hc, he, _⟩ := caF_word h hk
  obtain ⟨⟨_, _, h3⟩, _, _⟩ := caF_good h
  have h1 := Lh.headL_len (e := e.toNat) (n := l.length) he (by omega)
  have h2 := Lh.rowsB_len (l := l) fun x hx => ⟨(hc x hx).2.1, (hc x hx).2.2.2⟩
  have h4 : (Lh.sumL (Lh.bodyL e.toNat l)).length = 12 := by
    simp [Lh.sumL, Lh.joinL, Lh.sumW, Lh.hexL_len]
  unfold Lh.textL
  rw [List.length_append, List.length_append, h4, Lh.body_rows]
  simp only [List.length_append, List.length_cons, List.length_nil]
  omega
end Go.Proofs.YtfhmfjcpggddkaaGreatDoor

/- The landed check and checkFlow. -/
namespace Go.Proofs.YtfhmfjcpggddkaaGreatDoor
open Go.RowKit Go.Maps Go.ChangeMaps
set_option maxHeartbeats 2000000 in
/-- mix.Check of one name. -/
theorem checkOne_any {a : Nat → Addr} (b : Nat) (s : ByteArray) (w : World) (he : EC a w) (hx : w.cell? ⟨b, 0, none⟩ = some (.string s)) (hs : s.size ≤ 1000000) :
    Calls Tryz.prog 137 #[.slice (some ⟨b, 0, none⟩) 1 1] w fun e w' => Below w.heap.size w w' ∧ ((Lh.isNm s = true ∧ e = .returned .nilIface) ∨ (Lh.isNm s = false ∧ ∃ t p, e = .returned (.iface t p))) := by
  have s3 := he.s3
  clear he
  go_enter Tryz.func137, Tryz.ntmps137
  go_wp2
  go_loopw [11] (fun t W => W = w ∧ ∃ k : Nat, k ≤ 1 ∧ t = .int .i64 k ∧ (k = 1 → Lh.isNm s = true)) (fun t _ => 1 - (intOf t).toNat)
  case atStart => exact ⟨rfl, 0, Nat.zero_le _, rfl, fun h => by cases h⟩
  case round =>
    obtain ⟨rfl, k, hk, rfl, hpre⟩ := hrel
    have HP : Hid (k = 1 → Lh.isNm s = true) := hpre
    clear hpre
    by_cases hlt : k < 1
    · obtain rfl : k = 0 := by omega
      cases hn : Lh.isNm s with
      | false =>
        have HN : Hid (Lh.isNm s = false) := hn
        clear hn
        go_wp2_with fail
        refine (isName_any _ _ hs).mono ?_
        rintro e w1 ⟨rfl, rfl⟩
        rw [HN.out]
        go_wp2
        go_ret
        exact ⟨(Below.refl _ _).alloc (Nat.le_refl _) _, Or.inr ⟨HN.out, _, _, rfl⟩⟩
      | true =>
        have HN : Hid (Lh.isNm s = true) := hn
        clear hn
        go_wp2_with fail
        refine (isName_any _ _ hs).mono ?_
        rintro e w1 ⟨rfl, rfl⟩
        rw [HN.out]
        go_wp2_with fail
        refine (contains_any _ ([] : List ByteArray) _ _ (Or.inl ⟨rfl, _, _, rfl⟩) (by simp)).mono ?_
        rintro e w2 ⟨rfl, rfl⟩
        go_wp2
        refine ⟨⟨by trivial, 1, by omega, by go_num, by first | trivial | exact fun _ => HN.out⟩, by simp [intOf]⟩
    · have hk1 : k = 1 := by omega
      have HN : Hid (Lh.isNm s = true) := HP.out hk1
      subst hk1
      go_wp2
      go_ret
      exact ⟨Below.refl _ _, Or.inl ⟨HN.out, rfl⟩⟩
/-- a map from keys to numbers, of which only the keys matter -/
def KeyM (W : World) (b n : Nat) (ks : List Nat) : Prop := ∃ D : DataW Unit, W.ownsMap Tryz.prog 63 (plainElem Tryz.prog 3) b n D ∧ IsMap D ∧ ∀ z : Nat, has D (.int .u64 (z : Nat)) = decide (z ∈ ks)
theorem KeyM.lt {W : World} {b n : Nat} {ks : List Nat} (h : KeyM W b n ks) : b < W.heap.size := by
  obtain ⟨D, h, _⟩ := h
  exact h.lt
theorem KeyM.same {W W' : World} {b n : Nat} {ks : List Nat} (h : KeyM W b n ks) (he : W'.heap[b]? = W.heap[b]?) : KeyM W' b n ks := by
  obtain ⟨D, h1, h2⟩ := h
  exact ⟨D, ownsMap_later h1 he, h2⟩
theorem KeyM.later {W W' : World} {b n : Nat} {ks : List Nat} (h : KeyM W b n ks) (hb : Below W.heap.size W W') : KeyM W' b n ks := h.same (hb.block b h.lt)
theorem KeyM.made (w : World) : KeyM (w.alloc (.map #[] 0)) w.heap.size 0 [] := ⟨_, World.ownsMap_made w _ _ _, isMap_empty, fun _ => by simp [has]⟩
theorem has_putK {D : DataW Unit} {ks : List Nat} (hm : IsMap D) (h : ∀ z : Nat, has D (.int .u64 (z : Nat)) = decide (z ∈ ks)) (x : Nat) (v : DataW Unit) : IsMap (D.put (.int .u64 (x : Nat)) v) ∧ ∀ z : Nat, has (D.put (.int .u64 (x : Nat)) v) (.int .u64 (z : Nat)) = decide (z ∈ ks ++ [x]) := by
  refine ⟨hm.put _ _, fun z => ?_⟩
  by_cases e : z = x
  · subst e
    rw [has_put_same (k := .int .u64 _) hm (by simp [WideAt.IsKeyLit])]
    simp
  · have hne : Lit.int .u64 (z : Nat) ≠ Lit.int .u64 (x : Nat) := by
      intro e2
      simp only [Lit.int.injEq, true_and] at e2
      omega
    rw [has_put_other hne, h z]
    simp [e]

def flV (x : Lh.Fl) : Value := .agg #[.int .u64 (x.1 : Nat), .string x.2.1, .int .i64 x.2.2]
set_option maxRecDepth 100000 in
set_option maxHeartbeats 2000000 in
theorem checkFlow_any {a : Nat → Addr} (x : Lh.Fl) (mb n : Nat) (ks : List Nat) (w : World) (he : EC a w) (hk : KeyM w mb n ks) (hx : x.1 < 18446744073709551616) (hs : x.2.1.size ≤ 1000000) (hu : -9223372036854775808 ≤ x.2.2 ∧ x.2.2 ≤ 9223372036854775807) :
    Calls Tryz.prog 253 #[flV x, .map (some mb)] w fun e w' => Below w.heap.size w w' ∧
      ((Lh.isNm x.2.1 = false ∧ e = .returned (.iface 378 (.pointer (some (a 3))))) ∨
       (Lh.isNm x.2.1 = true ∧ (x.2.2 < 0 ∨ 1099511628776 < x.2.2) ∧ e = .returned (.iface 378 (.pointer (some (a 1))))) ∨
       (Lh.isNm x.2.1 = true ∧ 0 ≤ x.2.2 ∧ x.2.2 ≤ 1099511628776 ∧ x.1 ∈ ks ∧ e = .returned (.iface 378 (.pointer (some (a 5))))) ∨
       (Lh.isNm x.2.1 = true ∧ 0 ≤ x.2.2 ∧ x.2.2 ≤ 1099511628776 ∧ x.1 ∉ ks ∧ e = .returned .nilIface)) := by
  obtain ⟨k, s, u⟩ := x
  unfold flV
  have HE : Hid (EC a w) := he
  have HK : Hid (KeyM w mb n ks) := hk
  clear he hk
  dsimp only at *
  go_enter Tryz.func253, Tryz.ntmps253
  go_wp2_with fail
  have hb0 : Below w.heap.size w ((w.alloc (.cells #[.int .u64 (k : Nat), .string s, .int .i64 u] 80)).alloc (.cells #[.string s] 9)) := ((Below.refl _ _).alloc (Nat.le_refl _) _).alloc (by simp) _
  refine (checkOne_any (a := a) (w.heap.size + 1) s _ (HE.out.later hb0) (by simp) hs).mono ?_
  rintro e w1 ⟨hb1, hcase⟩
  have c0 : w1.cell? ⟨w.heap.size, 0, none⟩ = some (.int .u64 (k : Nat)) := below_cell hb1 (by simp)
  have c1 : w1.cell? ⟨w.heap.size, 1, none⟩ = some (.string s) := below_cell hb1 (by simp)
  have c2 : w1.cell? ⟨w.heap.size, 2, none⟩ = some (.int .i64 u) := below_cell hb1 (by simp)
  have hbw : Below w.heap.size w w1 := below_then hb0 hb1
  have s1 := (HE.out.later hbw).s1
  have s3 := (HE.out.later hbw).s3
  have s5 := (HE.out.later hbw).s5
  obtain ⟨D, hown, hmap, hhas⟩ := HK.out.later hbw
  have hhk := hhas k
  have hkey := fkeyU k hx
  have HB : Hid (Below w.heap.size w w1) := hbw
  clear hb0 hb1 hbw hhas hmap
  have tok1 : True := trivial
  rcases hcase with ⟨hn, rfl⟩ | ⟨hn, t, p, rfl⟩
  · have HN : Hid (Lh.isNm s = true) := hn
    clear hn
    by_cases hu0 : u < 0
    · clear hown hkey hhk
      go_wp2
      go_ret
      exact ⟨HB.out, Or.inr (Or.inl ⟨HN.out, Or.inl hu0, rfl⟩)⟩
    · by_cases hu1 : 1099511628776 < u
      · have d0 : decide (u < 0) = false := by simp; omega
        clear hown hkey hhk
        go_wp2
        go_ret
        exact ⟨HB.out, Or.inr (Or.inl ⟨HN.out, Or.inr hu1, rfl⟩)⟩
      · have d0 : decide (u < 0) = false := by simp; omega
        have d1 : decide (1099511628776 < u) = false := by simp; omega
        by_cases hm : k ∈ ks
        · have hT : has D (.int .u64 (k : Nat)) = true := by rw [hhk]; simpa using hm
          clear hhk
          go_wp2_with (at_lookup; clear tok1; refine wpList_lookup_own_ok_int _ rfl _ _ 320 rfl 63 3 .i64 (int_keyed Tryz.underlying63) Tryz.underlying320 Tryz.underlying3 (Tryz.zeroValue3 _) mb n D rfl hown _ _ rfl hkey ?_; intro cv hat hwc; rw [hT])
          go_ret
          exact ⟨HB.out, Or.inr (Or.inr (Or.inl ⟨HN.out, by omega, by omega, hm, rfl⟩))⟩
        · have hT : has D (.int .u64 (k : Nat)) = false := by rw [hhk]; simpa using hm
          clear hhk
          go_wp2_with (at_lookup; clear tok1; refine wpList_lookup_own_ok_int _ rfl _ _ 320 rfl 63 3 .i64 (int_keyed Tryz.underlying63) Tryz.underlying320 Tryz.underlying3 (Tryz.zeroValue3 _) mb n D rfl hown _ _ rfl hkey ?_; intro cv hat hwc; rw [hT])
          go_ret
          exact ⟨HB.out, Or.inr (Or.inr (Or.inr ⟨HN.out, by omega, by omega, hm, rfl⟩))⟩
  · have HN : Hid (Lh.isNm s = false) := hn
    clear hn hown hkey hhk
    go_wp2
    go_ret
    exact ⟨HB.out, Or.inl ⟨HN.out, rfl⟩⟩
set_option maxRecDepth 100000 in
set_option maxHeartbeats 2000000 in
/-- check: what the document finds wrong, or nothing. -/
theorem check_carry {a : Nat → Addr} (e : Int) (v : Value) (l : List Lh.Fl) (w : World) (he : EC a w) (hv : Flows1 w v l) (hl : l.length ≤ 20000) (hin : ∀ x ∈ l, x.1 < 18446744073709551616 ∧ x.2.1.size ≤ 1000000 ∧ -9223372036854775808 ≤ x.2.2 ∧ x.2.2 ≤ 9223372036854775807) :
    Calls Tryz.prog 208 #[.int .i64 e, v] w fun r w' => ∃ c pl ev, r = .returned ev ∧ CaF e l c pl ∧ ErrIs a w' c pl ev ∧ (c ≠ 0 → ev ≠ .nilIface) ∧ Below w.heap.size w w' := by
  obtain ⟨p, cp, rfl, hc⟩ := hv.cells
  have HC : Hid _ := hc
  have HE : Hid (EC a w) := he
  have HI : Hid (∀ x ∈ l, x.1 < 18446744073709551616 ∧ x.2.1.size ≤ 1000000 ∧ -9223372036854775808 ≤ x.2.2 ∧ x.2.2 ≤ 9223372036854775807) := hin
  have s1 := he.s1
  clear hc hv he hin
  go_enter Tryz.func208, Tryz.ntmps208
  by_cases h1 : e < 0
  · go_wp2
    go_ret
    exact ⟨2, -1, _, rfl, Or.inl ⟨Or.inl h1, rfl, rfl⟩, Or.inr ⟨1, by decide, rfl, Or.inl ⟨rfl, rfl⟩⟩, fun _ => by simp, Below.refl _ _⟩
  by_cases h2 : 1099511627776 < e
  · have d1 : decide (e < 0) = false := by simp; omega
    go_wp2
    go_ret
    exact ⟨2, -1, _, rfl, Or.inl ⟨Or.inr (Or.inl h2), rfl, rfl⟩, Or.inr ⟨1, by decide, rfl, Or.inl ⟨rfl, rfl⟩⟩, fun _ => by simp, Below.refl _ _⟩
  have d1 : decide (e < 0) = false := by simp; omega
  have d2 : decide (1099511627776 < e) = false := by simp; omega
  by_cases h3 : 200 < l.length
  · have d3 : (200 : Int) < (l.length : Int) := by omega
    go_wp2
    go_ret
    exact ⟨2, -1, _, rfl, Or.inl ⟨Or.inr (Or.inr h3), rfl, rfl⟩, Or.inr ⟨1, by decide, rfl, Or.inl ⟨rfl, rfl⟩⟩, fun _ => by simp, Below.refl _ _⟩
  have d3 : decide ((200 : Int) < (l.length : Int)) = false := by simp; omega
  have HH : Hid (0 ≤ e ∧ e ≤ 1099511627776 ∧ l.length ≤ 200) := ⟨by omega, by omega, by omega⟩
  have hmm : (Instr.makeMap 320 none).run Tryz.prog w = .ok (.map (some w.heap.size)) (w.alloc (.map #[] 0)) := by simp [Instr.makeMap]
  go_wp2_with fail
  go_loopw [24] (fun u24 W => Below w.heap.size w W ∧ ∃ i : Nat, i ≤ l.length ∧ u24 = .int .i64 (i : Nat) ∧ (∀ j, j < i → ∀ hj : j < l.length, GoodF l j hj) ∧ KeyM W w.heap.size i ((l.take i).map (·.1))) (fun u24 _ => l.length - (intOf u24).toNat)
  case atStart => exact ⟨(Below.refl _ _).alloc (Nat.le_refl _) _, 0, Nat.zero_le _, rfl, fun j h => absurd h (by omega), KeyM.made w⟩
  case round =>
    obtain ⟨hb, i, hi, rfl, hp, hkm⟩ := hrel
    have HP : Hid (∀ j, j < i → ∀ hj : j < l.length, GoodF l j hj) := hp
    have HKM : Hid (KeyM wr w.heap.size i ((l.take i).map (·.1))) := hkm
    clear hp hkm hmm
    by_cases hil : i < l.length
    · have hii : (i : Int) < (l.length : Int) := by omega
      obtain ⟨b, o, rfl, x0, x1, x2⟩ := HC.out i hil
      have x0' := below_cell hb x0
      have x1' := below_cell hb x1
      have x2' := below_cell hb x2
      have HX := HI.out _ (List.getElem_mem hil)
      clear x0 x1 x2
      go_wp2_with fail
      have hb0 := (Below.refl wr.heap.size wr).alloc (Nat.le_refl _) (.cells #[.int .u64 ((l[i]).1 : Nat), .string (l[i]).2.1, .int .i64 (l[i]).2.2] 80)
      refine (checkFlow_any (a := a) l[i] w.heap.size i ((l.take i).map (·.1)) _ (HE.out.later (below_then hb hb0)) (HKM.out.later hb0) HX.1 HX.2.1 HX.2.2).mono ?_
      rintro r w1 ⟨hb1, hcase⟩
      have c0 : w1.cell? ⟨wr.heap.size, 0, none⟩ = some (.int .u64 ((l[i]).1 : Nat)) := below_cell hb1 (by simp)
      have hbr1 := below_then hb0 hb1
      have hbw1 := below_then hb hbr1
      have HBW : Hid (Below w.heap.size w w1) := hbw1
      rcases hcase with ⟨g1, rfl⟩ | ⟨g1, g2, rfl⟩ | ⟨g1, g2, g3, g4, rfl⟩ | ⟨g1, g2, g3, g4, rfl⟩
      · have HF : Hid (CaF e l 4 i) := Or.inr (Or.inl ⟨HH.out, i, hil, HP.out, rfl, Or.inl ⟨g1, rfl⟩⟩)
        clear g1 hb0 hb1 hbr1 hbw1
        go_wp2
        go_ret
        exact ⟨4, i, _, rfl, HF.out, Or.inr ⟨3, by decide, rfl, Or.inr ⟨w1.heap.size, rfl, by simp, by simp⟩⟩, fun _ => by simp, HBW.out.alloc HBW.out.size _⟩
      · have HF : Hid (CaF e l 2 i) := Or.inr (Or.inl ⟨HH.out, i, hil, HP.out, rfl, Or.inr (Or.inl ⟨g1, g2, rfl⟩)⟩)
        clear g1 g2 hb0 hb1 hbr1 hbw1
        go_wp2
        go_ret
        exact ⟨2, i, _, rfl, HF.out, Or.inr ⟨1, by decide, rfl, Or.inr ⟨w1.heap.size, rfl, by simp, by simp⟩⟩, fun _ => by simp, HBW.out.alloc HBW.out.size _⟩
      · have HF : Hid (CaF e l 6 i) := Or.inr (Or.inl ⟨HH.out, i, hil, HP.out, rfl, Or.inr (Or.inr ⟨g1, g2, g3, by
          obtain ⟨y, hy, hye⟩ := List.mem_map.1 g4
          obtain ⟨j, hj, rfl⟩ := List.getElem_of_mem hy
          rw [List.length_take] at hj
          exact ⟨j, by omega, by omega, by rw [List.getElem_take] at hye; exact hye⟩, rfl⟩)⟩)
        clear g1 g2 g3 g4 hb0 hb1 hbr1 hbw1
        go_wp2
        go_ret
        exact ⟨6, i, _, rfl, HF.out, Or.inr ⟨5, by decide, rfl, Or.inr ⟨w1.heap.size, rfl, by simp, by simp⟩⟩, fun _ => by simp, HBW.out.alloc HBW.out.size _⟩
      · have HG : Hid (∀ j, j < i + 1 → ∀ hj : j < l.length, GoodF l j hj) := fun j hj hjl => by
          by_cases ej : j = i
          · subst ej
            exact ⟨g1, g2, g3, fun q hq hqi he => g4 (List.mem_map.2 ⟨l[q], List.mem_take_iff_getElem.2 ⟨q, by omega, rfl⟩, he⟩)⟩
          · exact HP.out j (by omega) hjl
        obtain ⟨D, hown, hmap, hhas⟩ := HKM.out.later hbr1
        have HPK : Hid (IsMap (D.put (.int .u64 ((l[i]).1 : Nat)) (.lit (.int .i64 (i : Nat)))) ∧ ∀ z : Nat, has (D.put (.int .u64 ((l[i]).1 : Nat)) (.lit (.int .i64 (i : Nat)))) (.int .u64 (z : Nat)) = decide (z ∈ (l.take (i + 1)).map (·.1))) := by
          have := has_putK hmap hhas (l[i]).1 (.lit (.int .i64 (i : Nat)))
          rw [List.take_succ_eq_append_getElem hil, List.map_append]
          exact this
        have hkey := fkeyU (l[i]).1 HX.1
        have hpl := plainElem_int (H := Unit) Tryz.underlying3 (wfI (n := i) (by omega))
        have hkl : i < maxLen := by unfold maxLen; omega
        clear g1 g2 g3 g4 hb0 hb1 hbr1 hmap hhas hbw1
        generalize (l[i]).1 = k at *
        go_wp2_with (at_mapUpdate; refine wpList_mapUpdate_own _ rfl _ _ _ 320 rfl 63 3 (int_keyed Tryz.underlying63) Tryz.underlying320 (plainElem Tryz.prog 3) w.heap.size i D rfl hown hkl _ _ (.int .u64 (k : Nat)) rfl rfl hkey (.lit (.int .i64 (i : Nat))) [] hpl ?_; intro w3 hown3 hgr3)
        go_roundw
        case rel =>
          exact ⟨HBW.out.grown hgr3 HBW.out.size (fun q h => by cases h; exact Nat.le_refl _), i + 1, by omega, by go_num, HG.out, _, hown3, HPK.out.1, HPK.out.2⟩
        case measure => simp [intOf]; omega
    · have hie : i = l.length := by omega
      have hii : decide ((i : Int) < (l.length : Int)) = false := by simp; omega
      have HF : Hid (CaF e l 0 (-1)) := Or.inr (Or.inr ⟨HH.out, fun j hj => HP.out j (by omega) hj, rfl, rfl⟩)
      clear hie
      go_wp2
      go_ret
      exact ⟨0, -1, _, rfl, HF.out, Or.inl ⟨rfl, rfl, rfl⟩, fun h => absurd rfl h, hb⟩
end Go.Proofs.YtfhmfjcpggddkaaGreatDoor
