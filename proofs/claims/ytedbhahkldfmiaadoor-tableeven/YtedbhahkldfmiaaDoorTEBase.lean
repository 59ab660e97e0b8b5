/- TableEven: what its walk needs. -/
import Derived.Test.YtedbhahkldfmiaaDoorE5
namespace Go.Proofs.YtedbhahkldfmiaaDoor
open Go.RowKit

theorem good_of_nodup {ys : List ByteArray} (hn : ys.Nodup) (hm : ∀ s ∈ ys, Lh.isNm s = true) : ∀ j, ∀ hj : j < ys.length, Good ys j hj := fun j hj =>
  ⟨hm _ (List.getElem_mem hj), Lh.mem_false fun h => by
    rw [List.mem_take_iff_getElem] at h
    obtain ⟨i, hi, e⟩ := h
    have := Lh.nodup_inj hn (by omega) hj e
    omega⟩
theorem fault_names {xs : List ByteArray} (h : IsFault xs 0 (-1)) : ∀ s ∈ xs, Lh.isNm s = true := by
  rcases h with ⟨_, h, _⟩ | ⟨_, i, _, _, _, ⟨_, h⟩ | ⟨_, _, h⟩⟩ | ⟨_, hg, _, _⟩
  · cases h
  · cases h
  · cases h
  · intro s hs
    obtain ⟨j, hj, rfl⟩ := List.getElem_of_mem hs
    exact (hg j hj).1
theorem fault_perm {xs ys : List ByteArray} (h : IsFault xs 0 (-1)) (hp : ys.Perm xs) : IsFault ys 0 (-1) := by
  obtain ⟨_, h12, hn⟩ := fault_zero h
  refine Or.inr (Or.inr ⟨by have := hp.length_eq; omega, good_of_nodup (hp.nodup_iff.2 hn) (fun s hs => fault_names h s (hp.mem_iff.1 hs)), rfl, rfl⟩)
def turnL (xs : List ByteArray) (q : Nat) : List ByteArray := xs.drop q ++ xs.take q
theorem turnL_perm (xs : List ByteArray) (q : Nat) : (turnL xs q).Perm xs := by
  have h := List.perm_append_comm (l₁ := xs.drop q) (l₂ := xs.take q)
  rw [List.take_append_drop] at h
  exact h
theorem turnL_length (xs : List ByteArray) (q : Nat) : (turnL xs q).length = xs.length := (turnL_perm xs q).length_eq
theorem turnL_mem {xs : List ByteArray} {q : Nat} {s : ByteArray} (h : s ∈ turnL xs q) : s ∈ xs := (turnL_perm xs q).mem_iff.1 h
/-- the table's numbers are hosts' -/
theorem tab_fault {xs : List ByteArray} {n : Nat} (hp : Lh.Prm n) (h0 : 0 < xs.length) (h12 : xs.length ≤ 12) : CntFault (Lh.tab xs n n) xs.length 0 (-1) :=
  Or.inr (Or.inr ⟨xs.length, rfl, h12, fun j hj => by
    have hj' : j < n := by rw [Lh.tab_length] at hj; exact hj
    obtain ⟨i, hi, e⟩ := Lh.tab_full hp h0 hj'
    rw [getD_at hj] at e
    rw [e]
    omega, rfl, rfl⟩)
/-- a share, in Int's form -/
theorem even_int {xs : List ByteArray} {n : Nat} (hp : Lh.Prm n) (hn : xs.Nodup) {i : Nat} (hi : i < xs.length) :
    (n : Int) / (xs.length : Int) ≤ (((Lh.tab xs n n).count ((i : Nat) : Int) : Nat) : Int) ∧ (((Lh.tab xs n n).count ((i : Nat) : Int) : Nat) : Int) ≤ ((n : Int) + (xs.length : Int) - 1) / (xs.length : Int) := by
  obtain ⟨h1, h2⟩ := Lh.tab_even hp hn hi
  have e1 : (n : Int) / (xs.length : Int) = ((n / xs.length : Nat) : Int) := by simp
  have e2 : ((n : Int) + (xs.length : Int) - 1) / (xs.length : Int) = (((n + xs.length - 1) / xs.length : Nat) : Int) := by
    rw [Int.natCast_ediv, Int.natCast_sub (by omega), Int.natCast_add]; rfl
  rw [e1, e2]
  omega
/-- Block g is a row of truths. -/
def BoolRow (w : World) (g : Nat) (bs : List Bool) : Prop := w.heap[g]? = some (.cells (bs.map Value.bool).toArray 4 (0, 0))
section
variable {w w' : World} {g : Nat} {bs : List Bool}
theorem BoolRow.cell (h : BoolRow w g bs) {k : Nat} (hk : k < bs.length) : w.cell? ⟨g, k, none⟩ = some (.bool bs[k]) := by
  rw [cell_of_row w g k _ _ _ h]
  simp [hk]
theorem BoolRow.frozen (h : BoolRow w g bs) (k : Nat) : w.frozen? ⟨g, k, none⟩ = false := frozen_of_row w g k _ _ h
theorem BoolRow.set (h : BoolRow w g bs) (k : Nat) (v : Bool) : BoolRow (w.setCell ⟨g, k, none⟩ (.bool v)) g (bs.set k v) := by
  have := heap_setCell_same w g k _ _ (.bool v) h
  unfold BoolRow
  rw [this]
  simp [List.map_set]
theorem BoolRow.same (h : BoolRow w g bs) (he : w'.heap[g]? = w.heap[g]?) : BoolRow w' g bs := by
  unfold BoolRow
  rw [he]
  exact h
theorem BoolRow.of_owns {base n : Nat} (h : w.ownsRow base 4 1 (.slice (some ⟨g, 0, none⟩) n n) n (bs.map Value.bool)) : BoolRow w g bs := by
  rcases h.2 with ⟨h', _⟩ | ⟨g', cap', cur, h', _, hg, _, _, hcs, ht⟩
  · simp at h'
  · simp only [Value.slice.injEq, Option.some.injEq, Addr.mk.injEq, and_true, true_and] at h'
    obtain ⟨rfl, rfl⟩ := h'
    unfold BoolRow
    rw [hg, ← ht, List.take_of_length_le (by simp; omega)]
end
theorem infoB : (Tryd.prog.info? 4).map (fun i => (i.zero, i.size, i.bytes)) = some (some (.bool false), 1, 1) := by kernel_rfl
theorem made_bools (n : Nat) : (madeCells #[Value.bool false] n).toList = (List.replicate n false).map Value.bool := by
  rw [toList_madeCells_one]
  simp
/-- which slots the first k places of a row have met -/
def Met (r : Nat → Nat) (n k : Nat) (bs : List Bool) : Prop := bs.length = n ∧ ∀ y, bs.getD y false = true → ∃ j, j < k ∧ r j = y
theorem met_zero (r : Nat → Nat) (n : Nat) : Met r n 0 (List.replicate n false) := ⟨by simp, fun y h => by
  rw [List.getD_eq_getElem?_getD, List.getElem?_replicate] at h
  split at h <;> simp at h⟩
theorem met_free {r : Nat → Nat} {n k : Nat} {bs : List Bool} (h : Met r n k bs) (hinj : ∀ i j, i < n → j < n → r i = r j → i = j) (hk : k < n) : bs.getD (r k) false = false := by
  cases hb : bs.getD (r k) false with
  | false => rfl
  | true =>
    obtain ⟨j, hj, e⟩ := h.2 _ hb
    have := hinj j k (by omega) hk e
    omega
theorem met_next {r : Nat → Nat} {n k : Nat} {bs : List Bool} (h : Met r n k bs) : Met r n (k + 1) (bs.set (r k) true) := ⟨by simp [h.1], fun y hy => by
  rw [List.getD_eq_getElem?_getD, List.getElem?_set] at hy
  by_cases e : r k = y
  · exact ⟨k, by omega, e⟩
  · rw [if_neg e, ← List.getD_eq_getElem?_getD] at hy
    obtain ⟨j, hj, e'⟩ := h.2 y hy
    exact ⟨j, by omega, e'⟩⟩
end Go.Proofs.YtedbhahkldfmiaaDoor
