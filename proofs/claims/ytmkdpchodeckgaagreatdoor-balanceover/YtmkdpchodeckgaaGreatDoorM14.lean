/- mix.Sorted. -/
import Derived.Test.YtmkdpchodeckgaaGreatDoorM2
import Derived.Test.YtmkdpchodeckgaaGreatDoorSort
import Derived.Sort.OwnSorted
import Derived.Sort.Walk0
import Derived.Deep.RegionWith
import Derived.Test.YtmkdpchodeckgaaGreatDoorM0
import Derived.Laws.Rows
import Derived.Maps.OwnOps
import Derived.Maps.OwnSet
import Derived.Test.YtmkdpchodeckgaaGreatDoorTMath
namespace Go.Proofs.YtmkdpchodeckgaaGreatDoor
open Go.RowKit Go.Sort

namespace Lh
/-- rising, byte by byte -/
def sortL (l : List (List UInt8)) : List (List UInt8) := l.mergeSort fun x y => decide (x ≤ y)
def sortT (xs : List ByteArray) : List ByteArray := (sortL (xs.map fun s => s.data.toList)).map fun l => ⟨l.toArray⟩
theorem sortL_length (l : List (List UInt8)) : (sortL l).length = l.length := List.length_mergeSort _
theorem sortT_length (xs : List ByteArray) : (sortT xs).length = xs.length := by simp [sortT, sortL_length]
end Lh

theorem Strs1.src {w : World} {v : Value} {xs : List ByteArray} (h : Strs1 w v xs) : ∃ sp c, v = .slice sp xs.length c ∧ (0 < xs.length → ∃ b o, sp = some ⟨b, o, none⟩ ∧ ∀ k (h : k < xs.length), w.cell? ⟨b, o + k, none⟩ = some (.string xs[k])) := by
  rcases h with ⟨rfl, rfl | ⟨a, c, rfl⟩⟩ | ⟨b, o, c, rfl, _, hc⟩
  · exact ⟨_, _, rfl, fun h => absurd h (by simp)⟩
  · exact ⟨_, _, rfl, fun h => absurd h (by simp)⟩
  · exact ⟨_, _, rfl, fun _ => ⟨b, o, rfl, hc⟩⟩

theorem sizeS : (Tryz.prog.info? 9).map (·.size) = some 1 := by kernel_rfl
theorem encStr_data (s : ByteArray) : encStr s.data.toList = .string s := rfl
theorem strs_enc (xs : List ByteArray) : xs.map Value.string = (xs.map fun s => s.data.toList).map encStr := by
  rw [List.map_map]; rfl
theorem enc_strs (l : List (List UInt8)) : l.map encStr = (l.map fun b => (⟨b.toArray⟩ : ByteArray)).map Value.string := by
  rw [List.map_map]; rfl

end Go.Proofs.YtmkdpchodeckgaaGreatDoor

/- The reference's SortedOf: laid in one by one, it is the list that slices.Sort makes. -/
namespace Go.Proofs.YtmkdpchodeckgaaGreatDoor
open Go.RowKit Go.Sort

namespace Lh
def leT (x y : ByteArray) : Prop := x.data.toList ≤ y.data.toList
theorem sort_unique {xs ys : List ByteArray} (hs : ys.Pairwise leT) (hp : ys.Perm xs) : ys = sortT xs := by
  have h1 : (ys.map fun s => s.data.toList) = sortL (xs.map fun s => s.data.toList) := by
    refine List.Perm.eq_of_pairwise (le := fun a b : List UInt8 => a ≤ b) (fun a b _ _ h k => List.le_antisymm h k) ?_ ?_ ?_
    · rw [List.pairwise_map]; exact hs
    · have := List.pairwise_mergeSort (le := fun x y : List UInt8 => decide (x ≤ y)) (fun a b c h k => by simp at h k ⊢; exact List.le_trans h k) (fun a b => by simp; exact List.le_total a b) (xs.map fun s => s.data.toList)
      exact this.imp (fun h => by simpa using h)
    · exact (hp.map _).trans (List.mergeSort_perm _ _).symm
  unfold sortT
  rw [← h1, List.map_map]
  have : ((fun l : List UInt8 => (⟨l.toArray⟩ : ByteArray)) ∘ fun s : ByteArray => s.data.toList) = id := rfl
  rw [this, List.map_id]

theorem ins_sorted {ys : List ByteArray} {x : ByteArray} {k : Nat} (hs : ys.Pairwise leT) (hk : k ≤ ys.length) (hlo : ∀ j (h : j < ys.length), j < k → leT ys[j] x) (hhi : ∀ h : k < ys.length, leT x ys[k]) :
    (ys.take k ++ x :: ys.drop k).Pairwise leT := by
  have hpw := List.pairwise_iff_getElem.1 hs
  have hlow : ∀ y ∈ ys.take k, leT y x := by
    intro y hy
    rw [List.mem_take_iff_getElem] at hy
    obtain ⟨j, hj, rfl⟩ := hy
    exact hlo j (by omega) (by omega)
  have hhigh : ∀ y ∈ ys.drop k, leT x y := by
    intro y hy
    rw [List.mem_drop_iff_getElem] at hy
    obtain ⟨j, hj, rfl⟩ := hy
    have hkl : k < ys.length := by omega
    rcases Nat.eq_zero_or_pos j with h | h
    · subst h; simpa using hhi hkl
    · exact List.le_trans (hhi hkl) (hpw k (k + j) hkl (by omega) (by omega))
  rw [List.pairwise_append, List.pairwise_cons]
  refine ⟨hs.sublist (List.take_sublist _ _), ⟨hhigh, hs.sublist (List.drop_sublist _ _)⟩, fun a ha b hb => ?_⟩
  rcases List.mem_cons.1 hb with rfl | hb
  · exact hlow a ha
  · exact List.le_trans (hlow a ha) (hhigh b hb)

theorem ins_perm {ys xs : List ByteArray} {n : Nat} (hn : n < xs.length) {k : Nat} (hp : ys.Perm (xs.take n)) : (ys.take k ++ xs[n] :: ys.drop k).Perm (xs.take (n + 1)) := by
  rw [List.take_succ_eq_append_getElem hn]
  refine List.perm_middle.trans ?_
  rw [List.take_append_drop]
  exact (hp.cons _).trans (List.perm_append_singleton _ _).symm
theorem less_true {x y : ByteArray} (h : Op.bytesLess x.toList y.toList = true) : leT x y := by
  rw [bytesLess_eq] at h
  have := List.le_of_lt (of_decide_eq_true h)
  rwa [ByteArray.toList_eq, ByteArray.toList_eq] at this
theorem less_false {x y : ByteArray} (h : Op.bytesLess x.toList y.toList = false) : leT y x := by
  rw [bytesLess_eq] at h
  have h' : ¬ x.toList < y.toList := of_decide_eq_false h
  have := List.not_lt.1 h'
  rwa [ByteArray.toList_eq, ByteArray.toList_eq] at this
end Lh
end Go.Proofs.YtmkdpchodeckgaaGreatDoor

/- The reference's SortedOf: the walk. -/
namespace Go.Proofs.YtmkdpchodeckgaaGreatDoor
open Go.RowKit Go.Sort

theorem owns_cells {w : World} {base n g cap : Nat} {e : TypeId} {xs : List ByteArray} (h : w.ownsRow base e 1 (.slice (some ⟨g, 0, none⟩) n cap) n (xs.map Value.string)) : ∀ k (h : k < xs.length), w.cell? ⟨g, k, none⟩ = some (.string xs[k]) := by
  intro k hk
  have hl : xs.length = n := by simpa using h.1
  rw [h.cellAt k (by omega)]
  simp [hk]

theorem owns_mono {w : World} {base base' n : Nat} {e : TypeId} {v : Value} {xs : List Value} (h : w.ownsRow base e 1 v n xs) (hb : base' ≤ base) : w.ownsRow base' e 1 v n xs := by
  obtain ⟨h1, h2 | ⟨g, cap, cur, e1, e2, e3⟩⟩ := h
  · exact ⟨h1, Or.inl h2⟩
  · exact ⟨h1, Or.inr ⟨g, cap, cur, e1, by omega, e3⟩⟩

end Go.Proofs.YtmkdpchodeckgaaGreatDoor

/- MixNumbers: the walk. -/
namespace Go.Proofs.YtmkdpchodeckgaaGreatDoor
open Go.RowKit

theorem below_of_drew {w w' : World} (h : Below w.drew.heap.size w.drew w') : Below w.heap.size w w' := ⟨h.os, h.tape, h.output, h.size, h.block⟩
end Go.Proofs.YtmkdpchodeckgaaGreatDoor

/- A block of the call's own that is a row of numbers. -/
namespace Go.Proofs.YtmkdpchodeckgaaGreatDoor
open Go.RowKit

/-- Block g of w is a row of numbers, whole. -/
def IntRow (w : World) (g : Nat) (xs : List Int) : Prop := w.heap[g]? = some (.cells (xs.map (Value.int .i64)).toArray 3 (0, 0))
section
variable {w w' : World} {g : Nat} {xs : List Int}
theorem IntRow.cell (h : IntRow w g xs) {k : Nat} (hk : k < xs.length) : w.cell? ⟨g, k, none⟩ = some (.int .i64 xs[k]) := by
  rw [cell_of_row w g k _ _ _ h]
  simp [hk]
theorem IntRow.frozen (h : IntRow w g xs) (k : Nat) : w.frozen? ⟨g, k, none⟩ = false := frozen_of_row w g k _ _ h
theorem IntRow.set (h : IntRow w g xs) (k : Nat) (v : Int) : IntRow (w.setCell ⟨g, k, none⟩ (.int .i64 v)) g (xs.set k v) := by
  have := heap_setCell_same w g k _ _ (.int .i64 v) h
  unfold IntRow
  rw [this]
  simp [List.map_set]
theorem IntRow.same (h : IntRow w g xs) (he : w'.heap[g]? = w.heap[g]?) : IntRow w' g xs := by
  unfold IntRow
  rw [he]
  exact h
theorem IntRow.lt (h : IntRow w g xs) : g < w.heap.size := (Array.getElem?_eq_some_iff.1 h).1
theorem IntRow.later (h : IntRow w g xs) (hb : Below w.heap.size w w') : IntRow w' g xs := h.same (hb.block g h.lt)
theorem IntRow.ints (h : IntRow w g xs) (c : Nat) : Ints w (.slice (some ⟨g, 0, none⟩) xs.length c) xs :=
  Or.inr ⟨g, 0, c, rfl, fun k hk => by rw [Nat.zero_add]; exact h.cell hk⟩
theorem IntRow.of_owns {base n : Nat} (h : w.ownsRow base 3 1 (.slice (some ⟨g, 0, none⟩) n n) n (xs.map (Value.int .i64))) : IntRow w g xs := by
  rcases h.2 with ⟨h', _⟩ | ⟨g', cap', cur, h', _, hg, _, _, hcs, ht⟩
  · simp at h'
  · simp only [Value.slice.injEq, Option.some.injEq, Addr.mk.injEq, and_true, true_and] at h'
    obtain ⟨rfl, rfl⟩ := h'
    unfold IntRow
    rw [hg, ← ht, List.take_of_length_le (by simp; omega)]
end
theorem infoI : (Tryz.prog.info? 3).map (fun i => (i.zero, i.size, i.bytes)) = some (some (.int .i64 0), 1, 8) := by kernel_rfl
theorem made_ints (n : Nat) : (madeCells (Value.int .i64 0).cells (n * 1)).toList = (List.replicate n (0 : Int)).map (Value.int .i64) := by
  rw [Nat.mul_one]
  have := toList_madeCells_one (.int .i64 0) n
  simpa [Value.cells] using this

theorem ints_oneCell1 (x : Int) : ∀ u ∈ [Value.int .i64 x], u.oneCell' = true := by
  intro u hu
  simp at hu
  subst hu
  rfl
theorem ints_of_owns {w : World} {base n : Nat} {v : Value} {xs : List Int} (h : w.ownsRow base 3 1 v n (xs.map (Value.int .i64))) : Ints w v xs := by
  have hl : xs.length = n := by simpa using h.1
  rcases h.2 with ⟨rfl, rfl⟩ | ⟨g, cap, cur, rfl, _⟩
  · exact Or.inl ⟨List.length_eq_zero_iff.1 hl, _, _, rfl⟩
  · refine Or.inr ⟨g, 0, cap, by rw [hl], fun k hk => ?_⟩
    rw [Nat.zero_add, h.cellAt k (by omega)]
    simp [hk]

theorem made_ints2 (n : Nat) : (madeCells #[Value.int .i64 0] n).toList = (List.replicate n (0 : Int)).map (Value.int .i64) := by
  rw [toList_madeCells_one]
  simp
/-- a row in memory, at its head -/
theorem owns_head {w : World} {base m : Nat} {v : Value} {xs : List Int} (h : w.ownsRow base 3 1 v m (xs.map (Value.int .i64))) (hm : 0 < m) :
    ∃ g c, v = .slice (some ⟨g, 0, none⟩) m c ∧ m ≤ c ∧ ∀ j (hj : j < xs.length), w.cell? ⟨g, j, none⟩ = some (.int .i64 xs[j]) := by
  have hl : xs.length = m := by simpa using h.1
  have h' := h
  rcases h.2 with ⟨_, hn⟩ | ⟨g, cap, cur, rfl, hg, _, hmc, _⟩
  · omega
  · refine ⟨g, cap, rfl, by omega, fun j hj => ?_⟩
    rw [h'.cellAt j (by omega)]
    simp [hj]
end Go.Proofs.YtmkdpchodeckgaaGreatDoor

/- Blocks of the call's own: a map from names to blocks. -/
namespace Go.Proofs.YtmkdpchodeckgaaGreatDoor
open Go.RowKit Go.Maps Go.ChangeMaps

/-- A pointer to the head of a block reads as the block's number. -/
def ptrElem (v : Value) : Option (DataW Unit × List MemPlace) :=
  match v with
  | .pointer (some ⟨b, 0, none⟩) => some (.lit (.int .i64 (b : Nat)), [])
  | .pointer none => some (.nil, [])
  | _ => none
theorem ptrElem_inv {v : Value} {r : Nat} {ps : List MemPlace} (h : ptrElem v = some (.lit (.int .i64 (r : Nat)), ps)) : v = .pointer (some ⟨r, 0, none⟩) := by
  unfold ptrElem at h
  split at h
  · simp only [Option.some.injEq, Prod.mk.injEq, DataW.lit.injEq, Lit.int.injEq, true_and] at h
    have : _ = r := Int.ofNat.inj h.1
    subst this
    rfl
  · simp at h
  · cases h
theorem ptrElem_mk (b : Nat) : ptrElem (.pointer (some ⟨b, 0, none⟩)) = some (.lit (.int .i64 (b : Nat)), []) := rfl

/-- 'm[k]' on such a map, at a key that is there. -/
theorem wpList_lookup_ptr {P : Program} (w : World) {ops : Array Oper} {rest : List Oper} {o : Oper} {a : Act} {Q : Exit → Act → World → Prop}
    (hg : o.guard = none) (m x : Operand) (t : TypeId) (hop : o.op = Op.lookup t m x false)
    (k e : TypeId) (K : Keyed P k) (ht : P.underlying t = some (.map k e)) (hz : (zeroValue e).run P w = .ok (.pointer none) w) (b n : Nat) (D : DataW Unit)
    (hm : a.eval m = .map (some b)) (hown : w.ownsMap P k ptrElem b n D) (key : Value) (kl : Lit) (hx : a.eval x = key) (hkey : keyOf P k key = some kl) (r : Nat) (hr : D.atKey kl .nil = .lit (.int .i64 (r : Nat)))
    (hK : wpList P ops Q rest (a.put o.dst (.pointer (some ⟨r, 0, none⟩))) w) :
    wpList P ops Q (o :: rest) a w := by
  refine wpList_plain hg fun K' hK' => ?_
  obtain ⟨v, ps, hrun, hv⟩ := hown.lookup K ht hz (zd := .nil) (zp := []) rfl hkey
  rw [hr] at hv
  obtain rfl := ptrElem_inv hv
  unfold Oper.wp
  simp [execOp, hop, hm, hx, hrun, Result.andThen]
  exact hK' _ _ hK
theorem ownsMap_same {P : Program} {k : TypeId} {R : Value → Option (DataW Unit × List MemPlace)} {w w' : World} {b n : Nat} {D : DataW Unit} (h : w.ownsMap P k R b n D) (he : w'.heap[b]? = w.heap[b]?) : w'.ownsMap P k R b n D := by
  obtain ⟨es, clock, hb, r⟩ := h
  exact ⟨es, clock, he.trans hb, r⟩
end Go.Proofs.YtmkdpchodeckgaaGreatDoor

/- Tables by names: which host has which slot. -/
namespace Go.Proofs.YtmkdpchodeckgaaGreatDoor
open Go.RowKit

namespace Lh
theorem sortT_perm (xs : List ByteArray) : (sortT xs).Perm xs := by
  unfold sortT
  have h := (List.mergeSort_perm (xs.map fun s => s.data.toList) (fun x y => decide (x ≤ y))).map (fun l : List UInt8 => (⟨l.toArray⟩ : ByteArray))
  rw [List.map_map] at h
  have e : ((fun l : List UInt8 => (⟨l.toArray⟩ : ByteArray)) ∘ fun s : ByteArray => s.data.toList) = id := rfl
  rw [e, List.map_id] at h
  exact h
theorem sortT_sorted (xs : List ByteArray) : (sortT xs).Pairwise leT := by
  unfold sortT
  rw [List.pairwise_map]
  have := List.pairwise_mergeSort (le := fun x y : List UInt8 => decide (x ≤ y)) (fun a b c h k => by simp at h k ⊢; exact List.le_trans h k) (fun a b => by simp; exact List.le_total a b) (xs.map fun s => s.data.toList)
  exact this.imp (fun h => by simpa [leT] using h)
theorem sortT_congr {xs ys : List ByteArray} (h : xs.Perm ys) : sortT xs = sortT ys := sort_unique (sortT_sorted xs) ((sortT_perm xs).trans h)

/-- where a text stands first -/
def ix (xs : List ByteArray) (s : ByteArray) : Nat := xs.findIdx fun x => decide (x = s)
theorem ix_lt {xs : List ByteArray} {s : ByteArray} (h : s ∈ xs) : ix xs s < xs.length := List.findIdx_lt_length.2 ⟨s, h, by simp⟩
theorem ix_at {xs : List ByteArray} {s : ByteArray} (h : s ∈ xs) : xs[ix xs s]'(ix_lt h) = s := by
  exact of_decide_eq_true (List.findIdx_getElem (p := fun x => decide (x = s)) (xs := xs) (w := ix_lt h))
theorem nodup_inj {xs : List ByteArray} (hn : xs.Nodup) {i j : Nat} (hi : i < xs.length) (hj : j < xs.length) (h : xs[i] = xs[j]) : i = j := by
  have hp := List.pairwise_iff_getElem.1 hn
  rcases Nat.lt_trichotomy i j with hlt | e | hgt
  · exact absurd h (hp i j hi hj hlt)
  · exact e
  · exact absurd h.symm (hp j i hj hi hgt)
theorem ix_of {xs : List ByteArray} (hn : xs.Nodup) {i : Nat} (hi : i < xs.length) : ix xs xs[i] = i := by
  have hm : xs[i] ∈ xs := List.getElem_mem hi
  exact nodup_inj hn _ _ (ix_at hm)
theorem ix_first {xs : List ByteArray} {s : ByteArray} {k : Nat} (hk : k < xs.length) (he : xs[k] = s) (hb : ∀ j (h : j < xs.length), j < k → xs[j] ≠ s) : ix xs s = k := by
  have hm : s ∈ xs := he ▸ List.getElem_mem hk
  rcases Nat.lt_trichotomy (ix xs s) k with h | h | h
  · exact absurd (ix_at hm) (hb _ (ix_lt hm) h)
  · exact h
  · have := List.not_of_lt_findIdx (p := fun x => decide (x = s)) h
    simp [he] at this

def nameAt (ys : List ByteArray) (k : Nat) : ByteArray := ys.getD k ByteArray.empty
theorem nameAt_lt {ys : List ByteArray} {k : Nat} (h : k < ys.length) : nameAt ys k = ys[k] := by
  unfold nameAt; rw [List.getD_eq_getElem?_getD, List.getElem?_eq_getElem h]; rfl
theorem nameAt_mem {xs : List ByteArray} {k : Nat} (h : k < xs.length) : nameAt (sortT xs) k ∈ xs := by
  have h' : k < (sortT xs).length := by rw [sortT_length]; exact h
  rw [nameAt_lt h']
  exact (sortT_perm xs).mem_iff.1 (List.getElem_mem h')
def rowN (s : ByteArray) (n j : Nat) : Nat := rowAt (num s 1) (num s 2) n j
def rowL (s : ByteArray) (n : Nat) : List Int := (List.range n).map fun j => ((rowN s n j : Nat) : Int)
theorem rowL_length (s : ByteArray) (n : Nat) : (rowL s n).length = n := by simp [rowL]
theorem rowL_get (s : ByteArray) (n : Nat) {j : Nat} (h : j < (rowL s n).length) : (rowL s n)[j] = ((rowN s n j : Nat) : Int) := by simp [rowL]
def rowsN (ys : List ByteArray) (n k j : Nat) : Nat := rowN (nameAt ys k) n j
def valsN (xs ys : List ByteArray) (k : Nat) : Int := (ix xs (nameAt ys k) : Nat)
/-- after so many turns -/
def tab (xs : List ByteArray) (n t : Nat) : List Int := fill n xs.length (rowsN (sortT xs) n) (valsN xs (sortT xs)) t
theorem tab_length (xs : List ByteArray) (n t : Nat) : (tab xs n t).length = n := fill_length _ _ _ _ _
theorem tab_ok {xs : List ByteArray} {n : Nat} (hp : Prm n) (h0 : 0 < xs.length) : RowsOk n xs.length (rowsN (sortT xs) n) (valsN xs (sortT xs)) :=
  ⟨h0, fun _ _ _ _ => rowAt_lt hp.1, fun _ _ _ _ hi hj h => rowAt_inj hp hi hj h, fun _ _ => by unfold valsN; omega⟩
/-- one more turn, as a walk makes it: p is the first free place of the row -/
theorem tab_step {xs : List ByteArray} {n t p : Nat} (hp : p < n) (hf : (tab xs n t).getD (rowsN (sortT xs) n (t % xs.length) p) 0 < 0) (hb : ∀ i, i < p → 0 ≤ (tab xs n t).getD (rowsN (sortT xs) n (t % xs.length) i) 0) :
    tab xs n (t + 1) = (tab xs n t).set (rowsN (sortT xs) n (t % xs.length) p) (valsN xs (sortT xs) (t % xs.length)) := by
  show step1 _ _ _ _ t (tab xs n t) = _
  unfold step1
  rw [pick_unique hp hf hb]
theorem tab_keeps {xs : List ByteArray} {n : Nat} (hp : Prm n) (h0 : 0 < xs.length) {t : Nat} {x : Nat} (hx : 0 ≤ (tab xs n t).getD x 0) : 0 ≤ (tab xs n (t + 1)).getD x 0 := by
  have hr := tab_ok (xs := xs) hp h0
  have hk : t % xs.length < xs.length := Nat.mod_lt _ h0
  show 0 ≤ (step1 _ _ _ _ t (tab xs n t)).getD x 0
  unfold step1
  rw [List.getD_eq_getElem?_getD] at hx ⊢
  rw [List.getElem?_set]
  split
  · split
    · simp [hr.val _ hk]
    · simp
  · exact hx
theorem tab_free {xs : List ByteArray} {n : Nat} (hp : Prm n) (h0 : 0 < xs.length) {t : Nat} (ht : t < n) {k : Nat} (hk : k < xs.length) : ∃ j, j < n ∧ (tab xs n t).getD (rowsN (sortT xs) n k j) 0 < 0 := fill_pick (tab_ok hp h0) ht hk
/-- each slot's host -/
theorem tab_full {xs : List ByteArray} {n : Nat} (hp : Prm n) (h0 : 0 < xs.length) {x : Nat} (hx : x < n) : ∃ i, ∃ _ : i < xs.length, (tab xs n n).getD x 0 = (i : Nat) := by
  obtain ⟨k, hk, _, e⟩ := fill_full (tab_ok hp h0) hx
  exact ⟨_, ix_lt (nameAt_mem hk), e⟩
/-- the order of the list makes no difference -/
theorem tab_same {xs ys : List ByteArray} {n : Nat} (hp : Prm n) (h0 : 0 < xs.length) (hq : xs.Perm ys) {x : Nat} (hx : x < n) : ∃ (i j : Nat) (hi : i < xs.length) (hj : j < ys.length), (tab xs n n).getD x 0 = (i : Nat) ∧ (tab ys n n).getD x 0 = (j : Nat) ∧ xs[i] = ys[j] := by
  have hl := hq.length_eq
  obtain ⟨k, hk, e0, e⟩ := fill_full (tab_ok (xs := xs) hp h0) hx
  obtain ⟨k', hk', e0', e'⟩ := fill_full (tab_ok (xs := ys) hp (by omega)) hx
  rw [← hl, ← sortT_congr hq, e0] at e0'
  have hkk : k = k' := by omega
  subst hkk
  have hm := nameAt_mem hk
  have hm' := nameAt_mem hk'
  refine ⟨_, _, ix_lt hm, ix_lt hm', e, e', ?_⟩
  rw [ix_at hm, ix_at hm', sortT_congr hq]
/-- shares are even -/
theorem tab_even {xs : List ByteArray} {n : Nat} (hp : Prm n) (hn : xs.Nodup) {i : Nat} (hi : i < xs.length) : n / xs.length ≤ (tab xs n n).count (i : Int) ∧ (tab xs n n).count (i : Int) ≤ (n + xs.length - 1) / xs.length := by
  have h0 : 0 < xs.length := by omega
  have hmem : xs[i] ∈ sortT xs := (sortT_perm xs).mem_iff.2 (List.getElem_mem hi)
  obtain ⟨k, hk, e⟩ := List.getElem_of_mem hmem
  have hk' : k < xs.length := by rw [sortT_length] at hk; exact hk
  have hv : valsN xs (sortT xs) k = (i : Int) := by
    unfold valsN
    rw [nameAt_lt hk, e, ix_of hn hi]
  have hnd : (sortT xs).Nodup := (sortT_perm xs).nodup_iff.2 hn
  have hc := fill_count (tab_ok (xs := xs) hp h0) (fun a b ha hb h => ?_) hk' n (Nat.le_refl _)
  · rw [hv] at hc
    unfold tab
    rw [hc]
    exact turns_even hk'
  · unfold valsN at h
    have h' : ix xs (nameAt (sortT xs) a) = ix xs (nameAt (sortT xs) b) := by omega
    have ha' : a < (sortT xs).length := by rw [sortT_length]; exact ha
    have hb' : b < (sortT xs).length := by rw [sortT_length]; exact hb
    have e1 := ix_at (nameAt_mem ha)
    have e2 := ix_at (nameAt_mem hb)
    have e3 : nameAt (sortT xs) a = nameAt (sortT xs) b := by
      rw [← e1, ← e2]
      congr 1
    rw [nameAt_lt ha', nameAt_lt hb'] at e3
    exact nodup_inj hnd _ _ e3
end Lh
end Go.Proofs.YtmkdpchodeckgaaGreatDoor

/- Sizes: what is a prime, by trial up to the root and up to the number. -/
namespace Go.Proofs.YtmkdpchodeckgaaGreatDoor
namespace Lh
theorem prm_of_roots {n : Nat} (h2 : 2 ≤ n) (h : ∀ d, 2 ≤ d → d * d ≤ n → n % d ≠ 0) : Prm n := by
  refine ⟨h2, fun k hk hkn hz => ?_⟩
  obtain ⟨q, hq⟩ := Nat.dvd_of_mod_eq_zero hz
  have hq2 : 2 ≤ q := by
    rcases Nat.lt_or_ge q 2 with hlt | hge
    · have : q = 0 ∨ q = 1 := by omega
      rcases this with rfl | rfl
      · omega
      · omega
    · exact hge
  rcases Nat.le_total k q with hle | hle
  · exact h k hk (by rw [hq]; exact Nat.mul_le_mul_left _ hle) hz
  · exact h q hq2 (by rw [hq]; exact Nat.mul_le_mul_right _ hle) (by rw [hq, Nat.mul_mod_left])
theorem not_prm {n d : Nat} (h2 : 2 ≤ d) (hd : d < n) (h : n % d = 0) : ¬ Prm n := fun hp => hp.2 d h2 hd h
theorem root_lt {n d : Nat} (h2 : 2 ≤ d) (hd : d * d ≤ n) : d < n := by
  have : d * 2 ≤ d * d := Nat.mul_le_mul_left _ h2
  omega
theorem root_small {n d : Nat} (hn : n ≤ 503) (hd : d * d ≤ n) : d ≤ 22 := by
  rcases Nat.lt_or_ge 22 d with h | h
  · have : 23 * 23 ≤ d * d := Nat.mul_le_mul (by omega) (by omega)
    omega
  · exact h
theorem sq_le {d : Nat} (h : d ≤ 23) : d * d ≤ 529 := Nat.mul_le_mul h h
/-- what is wrong with a size: the error's number (0: nothing) -/
def SizeIs (n : Int) (e : Nat) : Prop := ((n < 2 ∨ 503 < n) ∧ e = 2) ∨ ∃ m : Nat, n = m ∧ 2 ≤ m ∧ m ≤ 503 ∧ ((¬ Prm m ∧ e = 3) ∨ (Prm m ∧ e = 0))
open Classical in
theorem sizeIs_ex (n : Int) : ∃ e, SizeIs n e := by
  by_cases h : n < 2 ∨ 503 < n
  · exact ⟨2, Or.inl ⟨h, rfl⟩⟩
  · obtain ⟨m, hm⟩ := Int.eq_ofNat_of_zero_le (show 0 ≤ n by omega)
    by_cases hp : Prm m
    · exact ⟨0, Or.inr ⟨m, hm, by omega, by omega, Or.inr ⟨hp, rfl⟩⟩⟩
    · exact ⟨3, Or.inr ⟨m, hm, by omega, by omega, Or.inl ⟨hp, rfl⟩⟩⟩
end Lh
end Go.Proofs.YtmkdpchodeckgaaGreatDoor

/- Sizes of tables: the reference's SizeError, the landed checkSize. -/
namespace Go.Proofs.YtmkdpchodeckgaaGreatDoor
open Go.RowKit

theorem sq_cast (k : Nat) : (k : Int) * (k : Int) = ((k * k : Nat) : Int) := by simp

end Go.Proofs.YtmkdpchodeckgaaGreatDoor

/- Rows: the reference's RowOf, the landed slotsOf. -/
namespace Go.Proofs.YtmkdpchodeckgaaGreatDoor
open Go.RowKit

theorem num_lt (s : ByteArray) (k : Nat) : Lh.num s k < 18446744073709551616 := Lh.turn_lt _
theorem rem_small (a n : Nat) (hn : 0 < n) : a % n < n := Nat.mod_lt _ hn
/-- one number of a row, as the program reckons it -/
theorem row_num (s : ByteArray) (n j : Nat) : ((Lh.num s 1 % n + j * (Lh.num s 2 % (n - 1) + 1)) % n : Nat) = Lh.rowN s n j := rfl

theorem rowL_snoc (s : ByteArray) (n j : Nat) (h : j < n) : (Lh.rowL s n).take j ++ [((Lh.rowN s n j : Nat) : Int)] = (Lh.rowL s n).take (j + 1) := by
  rw [List.take_succ_eq_append_getElem (by rw [Lh.rowL_length]; exact h), Lh.rowL_get]
/-- offset and skip, as the program reckons them -/
theorem row_parts (s : ByteArray) (n : Nat) (h2 : 2 ≤ n) (h5 : n ≤ 503) : ∃ o k : Nat, o < n ∧ k + 1 < n ∧ (Lh.num s 1 : Int) % (n : Int) = (o : Int) ∧ (Lh.num s 2 : Int) % ((n : Int) - 1) = (k : Int) ∧
    ∀ j : Nat, j < n → 0 ≤ (j : Int) * ((k : Int) + 1) ∧ (j : Int) * ((k : Int) + 1) ≤ 300000 ∧ ((o : Int) + (j : Int) * ((k : Int) + 1)) % (n : Int) = ((Lh.rowN s n j : Nat) : Int) := by
  refine ⟨Lh.num s 1 % n, Lh.num s 2 % (n - 1), rem_small _ _ (by omega), ?_, by simp, ?_, fun j hj => ?_⟩
  · have := rem_small (Lh.num s 2) (n - 1) (by omega)
    omega
  · rw [Int.natCast_emod, Int.natCast_sub (by omega)]; rfl
  · have hk := rem_small (Lh.num s 2) (n - 1) (by omega)
    have hb : j * (Lh.num s 2 % (n - 1) + 1) ≤ 503 * 503 := Nat.mul_le_mul (by omega) (by omega)
    have e : (j : Int) * (((Lh.num s 2 % (n - 1) : Nat) : Int) + 1) = ((j * (Lh.num s 2 % (n - 1) + 1) : Nat) : Int) := by rw [Int.natCast_mul, Int.natCast_add]; rfl
    refine ⟨by omega, by omega, ?_⟩
    rw [e, ← Int.natCast_add, ← Int.natCast_emod]
    rfl

end Go.Proofs.YtmkdpchodeckgaaGreatDoor

/- The landed slotsOf. -/
namespace Go.Proofs.YtmkdpchodeckgaaGreatDoor
open Go.RowKit
theorem row_skip (o j : Int) (k : Int) : o + j * (1 + k) = o + j * (k + 1) := by rw [Int.add_comm 1 k]

theorem take_set_snoc {α : Type} {xs : List α} {j : Nat} (h : j < xs.length) (v : α) : (xs.set j v).take (j + 1) = xs.take j ++ [v] := by
  rw [List.take_succ_eq_append_getElem (by simpa using h)]
  have e : (xs.take j).set j v = xs.take j := List.set_eq_of_length_le (by simp; omega)
  simp [List.take_set, e]
set_option maxRecDepth 100000 in
set_option maxHeartbeats 2000000 in
theorem slotsOf_any (s : ByteArray) (n : Nat) (w : World) (hs : s.size ≤ 300) (h2 : 2 ≤ n) (h5 : n ≤ 503) :
    Calls Tryz.prog 71 #[.string s, .int .i64 n] w fun e w' => ∃ g, e = .returned (.slice (some ⟨g, 0, none⟩) n n) ∧ w.heap.size ≤ g ∧ IntRow w' g (Lh.rowL s n) ∧ Below w.heap.size w w' := by
  obtain ⟨i, hi, hz0, hz1, hz2⟩ := info_parts infoI
  have hA := num_lt s 1
  have hB := num_lt s 2
  obtain ⟨o, k, ho, hk, hc1, hc2, hrow⟩ := row_parts s n h2 h5
  have HROW : Hid (∀ j : Nat, j < n → 0 ≤ (j : Int) * ((k : Int) + 1) ∧ (j : Int) * ((k : Int) + 1) ≤ 300000 ∧ ((o : Int) + (j : Int) * ((k : Int) + 1)) % (n : Int) = ((Lh.rowN s n j : Nat) : Int)) := hrow
  clear hrow
  have hn0 : ((n : Int) == 0) = false := by simp; omega
  have hn1 : ((n : Int) - 1 == 0) = false := by rw [beq_eq_false_iff_ne]; omega
  have hbyt : i.bytes * n ≤ 281474976710656 := by rw [hz2]; omega
  have hmax : n ≤ maxLen := by unfold maxLen; omega
  go_enter Tryz.func71, Tryz.ntmps71
  go_wp2_with fail
  refine (of_any s 1 _ hs).mono ?_
  rintro e w1 ⟨rfl, hb1⟩
  go_wp2_with fail
  refine (of_any s 2 _ hs).mono ?_
  rintro e w2 ⟨rfl, hb2⟩
  have hbA := below_then hb1 hb2
  clear hb1 hb2
  go_wp2_with (at_make; refine wpList_make_full w2 rfl _ _ 55 rfl w2.heap.size 3 i _ 1 Tryz.underlying55 hi hz0 hz1 _ _ _ _ n rfl rfl rfl rfl hbyt hmax (Nat.le_refl _) ?_)
  intro w3 hown hgrow
  have hb3 : Below w.heap.size w w3 := hbA.trans ((below_grown hgrow (fun k h => by cases h)).mono hbA.size)
  rw [made_ints2] at hown
  have hrow0 := IntRow.of_owns hown
  have hgb := hbA.size
  clear hown hgrow hbA
  generalize w2.heap.size = g at *
  go_wp2_with fail
  try rw [hc2]
  clear hc1 hc2
  go_loopw [27] (fun t W => Below w.heap.size w W ∧ ∃ j : Nat, j ≤ n ∧ t = .int .i64 j ∧ ∃ xs : List Int, xs.length = n ∧ xs.take j = (Lh.rowL s n).take j ∧ IntRow W g xs) (fun t _ => n - (intOf t).toNat)
  case atStart => exact ⟨hb3, 0, Nat.zero_le _, rfl, _, by simp, by simp, hrow0⟩
  case round =>
    obtain ⟨hb, j, hj, rfl, xs, hlen, htake, hrow⟩ := hrel
    have HT : Hid (xs.take j = (Lh.rowL s n).take j) := htake
    have HLEN : Hid (xs.length = n) := hlen
    have HR : Hid (IntRow wr g xs) := hrow
    have HR0 : Hid (IntRow w3 g (List.replicate n 0)) := hrow0
    clear htake
    by_cases hlt : j < n
    · obtain ⟨hj0, hj1, hj2⟩ := HROW.out j hlt
      rw [show (k : Int) + 1 = 1 + (k : Int) from Int.add_comm _ _] at hj0 hj1 hj2
      obtain ⟨x0, c0⟩ : ∃ x, wr.cell? ⟨g, j, none⟩ = some (.int .i64 x) := ⟨_, hrow.cell (k := j) (by omega)⟩
      have f0 := hrow.frozen j
      have hd : decide ((j : Int) < (n : Int)) = true := by simp; omega
      clear hrow hlen hrow0
      go_wp2_with fail
      go_roundw
      case rel =>
        refine ⟨hb.setCell hgb _, j + 1, by omega, by go_num, xs.set j (Lh.rowN s n j : Nat), by simp [HLEN.out], ?_, HR.out.set _ _⟩
        rw [take_set_snoc (by rw [HLEN.out]; exact hlt), HT.out, rowL_snoc s n j hlt]
      case measure => simp [intOf]; omega
    · have hd : decide ((j : Int) < (n : Int)) = false := by simp; omega
      have hfin : IntRow wr g (Lh.rowL s n) := by
        have h1 := HT.out
        rw [List.take_of_length_le (by rw [HLEN.out]; omega), List.take_of_length_le (by rw [Lh.rowL_length]; omega)] at h1
        rw [← h1]
        exact hrow
      have HF : Hid (IntRow wr g (Lh.rowL s n)) := hfin
      clear hfin hrow hrow0 hlen
      go_wp2
      go_ret
      exact ⟨g, rfl, hgb, HF.out, hb⟩
end Go.Proofs.YtmkdpchodeckgaaGreatDoor
