/- mix.Sorted. -/
import Derived.Test.YtmdckddenelneaaGreatDoorM5
import Derived.Test.YtmdckddenelneaaGreatDoorSort
import Derived.Sort.OwnSorted
import Derived.Test.YtmdckddenelneaaGreatDoorM3
import Derived.Test.YtmdckddenelneaaGreatDoorM0
import Derived.Laws.Rows
import Derived.Sort.Walk0
import Derived.Deep.RegionWith
import Derived.Maps.OwnOps
import Derived.Maps.OwnSet
import Derived.Test.YtmdckddenelneaaGreatDoorTMath
namespace Go.Proofs.YtmdckddenelneaaGreatDoor
open Go.RowKit Go.Sort

namespace Lh
/-- rising, byte by byte -/
def sortL (l : List (List UInt8)) : List (List UInt8) := l.mergeSort fun x y => decide (x ≤ y)
def sortT (xs : List ByteArray) : List ByteArray := (sortL (xs.map fun s => s.data.toList)).map fun l => ⟨l.toArray⟩
theorem sortL_length (l : List (List UInt8)) : (sortL l).length = l.length := List.length_mergeSort _
theorem sortT_length (xs : List ByteArray) : (sortT xs).length = xs.length := by simp [sortT, sortL_length]
end Lh

theorem Strs1.src {w : World} {v : Value} {xs : List ByteArray} (h : Strs1 w v xs) : ∃ sp c, v = .slice sp xs.length c ∧ (0 < xs.length → ∃ b o, sp = some ⟨b, o, none⟩ ∧ ∀ k (h : k < xs.length), w.cell? ⟨b, o + k, none⟩ = some (.string xs[k])) := by
  rcases h with ⟨rfl, rfl | ⟨a, c, rfl⟩⟩ | ⟨b, o, c, rfl, _, hc⟩
  · exact ⟨_, _, rfl, fun h => absurd h (by simp)⟩
  · exact ⟨_, _, rfl, fun h => absurd h (by simp)⟩
  · exact ⟨_, _, rfl, fun _ => ⟨b, o, rfl, hc⟩⟩

theorem sizeS : (Tryz.prog.info? 9).map (·.size) = some 1 := by kernel_rfl
theorem strs_enc (xs : List ByteArray) : xs.map Value.string = (xs.map fun s => s.data.toList).map encStr := by
  rw [List.map_map]; rfl
theorem enc_strs (l : List (List UInt8)) : l.map encStr = (l.map fun b => (⟨b.toArray⟩ : ByteArray)).map Value.string := by
  rw [List.map_map]; rfl

end Go.Proofs.YtmdckddenelneaaGreatDoor

/- A block of the call's own that is a row of numbers. -/
namespace Go.Proofs.YtmdckddenelneaaGreatDoor
open Go.RowKit

/-- Block g of w is a row of numbers, whole. -/
def IntRow (w : World) (g : Nat) (xs : List Int) : Prop := w.heap[g]? = some (.cells (xs.map (Value.int .i64)).toArray 3 (0, 0))
section
variable {w w' : World} {g : Nat} {xs : List Int}
theorem IntRow.cell (h : IntRow w g xs) {k : Nat} (hk : k < xs.length) : w.cell? ⟨g, k, none⟩ = some (.int .i64 xs[k]) := by
  rw [cell_of_row w g k _ _ _ h]
  simp [hk]
theorem IntRow.frozen (h : IntRow w g xs) (k : Nat) : w.frozen? ⟨g, k, none⟩ = false := frozen_of_row w g k _ _ h
theorem IntRow.set (h : IntRow w g xs) (k : Nat) (v : Int) : IntRow (w.setCell ⟨g, k, none⟩ (.int .i64 v)) g (xs.set k v) := by
  have := heap_setCell_same w g k _ _ (.int .i64 v) h
  unfold IntRow
  rw [this]
  simp [List.map_set]
theorem IntRow.same (h : IntRow w g xs) (he : w'.heap[g]? = w.heap[g]?) : IntRow w' g xs := by
  unfold IntRow
  rw [he]
  exact h
theorem IntRow.lt (h : IntRow w g xs) : g < w.heap.size := (Array.getElem?_eq_some_iff.1 h).1
theorem IntRow.later (h : IntRow w g xs) (hb : Below w.heap.size w w') : IntRow w' g xs := h.same (hb.block g h.lt)
theorem IntRow.ints (h : IntRow w g xs) (c : Nat) : Ints w (.slice (some ⟨g, 0, none⟩) xs.length c) xs :=
  Or.inr ⟨g, 0, c, rfl, fun k hk => by rw [Nat.zero_add]; exact h.cell hk⟩
theorem IntRow.of_owns {base n : Nat} (h : w.ownsRow base 3 1 (.slice (some ⟨g, 0, none⟩) n n) n (xs.map (Value.int .i64))) : IntRow w g xs := by
  rcases h.2 with ⟨h', _⟩ | ⟨g', cap', cur, h', _, hg, _, _, hcs, ht⟩
  · simp at h'
  · simp only [Value.slice.injEq, Option.some.injEq, Addr.mk.injEq, and_true, true_and] at h'
    obtain ⟨rfl, rfl⟩ := h'
    unfold IntRow
    rw [hg, ← ht, List.take_of_length_le (by simp; omega)]
end
theorem infoI : (Tryz.prog.info? 3).map (fun i => (i.zero, i.size, i.bytes)) = some (some (.int .i64 0), 1, 8) := by kernel_rfl
theorem made_ints2 (n : Nat) : (madeCells #[Value.int .i64 0] n).toList = (List.replicate n (0 : Int)).map (Value.int .i64) := by
  rw [toList_madeCells_one]
  simp
end Go.Proofs.YtmdckddenelneaaGreatDoor

/- Blocks of the call's own: a map from names to blocks. -/
namespace Go.Proofs.YtmdckddenelneaaGreatDoor
open Go.RowKit Go.Maps Go.ChangeMaps

/-- A pointer to the head of a block reads as the block's number. -/
def ptrElem (v : Value) : Option (DataW Unit × List MemPlace) :=
  match v with
  | .pointer (some ⟨b, 0, none⟩) => some (.lit (.int .i64 (b : Nat)), [])
  | .pointer none => some (.nil, [])
  | _ => none
theorem ptrElem_inv {v : Value} {r : Nat} {ps : List MemPlace} (h : ptrElem v = some (.lit (.int .i64 (r : Nat)), ps)) : v = .pointer (some ⟨r, 0, none⟩) := by
  unfold ptrElem at h
  split at h
  · simp only [Option.some.injEq, Prod.mk.injEq, DataW.lit.injEq, Lit.int.injEq, true_and] at h
    have : _ = r := Int.ofNat.inj h.1
    subst this
    rfl
  · simp at h
  · cases h
theorem ptrElem_mk (b : Nat) : ptrElem (.pointer (some ⟨b, 0, none⟩)) = some (.lit (.int .i64 (b : Nat)), []) := rfl

/-- 'm[k]' on such a map, at a key that is there. -/
theorem wpList_lookup_ptr {P : Program} (w : World) {ops : Array Oper} {rest : List Oper} {o : Oper} {a : Act} {Q : Exit → Act → World → Prop}
    (hg : o.guard = none) (m x : Operand) (t : TypeId) (hop : o.op = Op.lookup t m x false)
    (k e : TypeId) (K : Keyed P k) (ht : P.underlying t = some (.map k e)) (hz : (zeroValue e).run P w = .ok (.pointer none) w) (b n : Nat) (D : DataW Unit)
    (hm : a.eval m = .map (some b)) (hown : w.ownsMap P k ptrElem b n D) (key : Value) (kl : Lit) (hx : a.eval x = key) (hkey : keyOf P k key = some kl) (r : Nat) (hr : D.atKey kl .nil = .lit (.int .i64 (r : Nat)))
    (hK : wpList P ops Q rest (a.put o.dst (.pointer (some ⟨r, 0, none⟩))) w) :
    wpList P ops Q (o :: rest) a w := by
  refine wpList_plain hg fun K' hK' => ?_
  obtain ⟨v, ps, hrun, hv⟩ := hown.lookup K ht hz (zd := .nil) (zp := []) rfl hkey
  rw [hr] at hv
  obtain rfl := ptrElem_inv hv
  unfold Oper.wp
  simp [execOp, hop, hm, hx, hrun, Result.andThen]
  exact hK' _ _ hK
theorem ownsMap_same {P : Program} {k : TypeId} {R : Value → Option (DataW Unit × List MemPlace)} {w w' : World} {b n : Nat} {D : DataW Unit} (h : w.ownsMap P k R b n D) (he : w'.heap[b]? = w.heap[b]?) : w'.ownsMap P k R b n D := by
  obtain ⟨es, clock, hb, r⟩ := h
  exact ⟨es, clock, he.trans hb, r⟩
end Go.Proofs.YtmdckddenelneaaGreatDoor

/- Tables by names: which host has which slot. -/
namespace Go.Proofs.YtmdckddenelneaaGreatDoor
open Go.RowKit

namespace Lh
theorem sortT_perm (xs : List ByteArray) : (sortT xs).Perm xs := by
  unfold sortT
  have h := (List.mergeSort_perm (xs.map fun s => s.data.toList) (fun x y => decide (x ≤ y))).map (fun l : List UInt8 => (⟨l.toArray⟩ : ByteArray))
  rw [List.map_map] at h
  have e : ((fun l : List UInt8 => (⟨l.toArray⟩ : ByteArray)) ∘ fun s : ByteArray => s.data.toList) = id := rfl
  rw [e, List.map_id] at h
  exact h
/-- where a text stands first -/
def ix (xs : List ByteArray) (s : ByteArray) : Nat := xs.findIdx fun x => decide (x = s)
theorem ix_lt {xs : List ByteArray} {s : ByteArray} (h : s ∈ xs) : ix xs s < xs.length := List.findIdx_lt_length.2 ⟨s, h, by simp⟩
theorem ix_at {xs : List ByteArray} {s : ByteArray} (h : s ∈ xs) : xs[ix xs s]'(ix_lt h) = s := by
  exact of_decide_eq_true (List.findIdx_getElem (p := fun x => decide (x = s)) (xs := xs) (w := ix_lt h))
theorem nodup_inj {xs : List ByteArray} (hn : xs.Nodup) {i j : Nat} (hi : i < xs.length) (hj : j < xs.length) (h : xs[i] = xs[j]) : i = j := by
  have hp := List.pairwise_iff_getElem.1 hn
  rcases Nat.lt_trichotomy i j with hlt | e | hgt
  · exact absurd h (hp i j hi hj hlt)
  · exact e
  · exact absurd h.symm (hp j i hj hi hgt)
def nameAt (ys : List ByteArray) (k : Nat) : ByteArray := ys.getD k ByteArray.empty
theorem nameAt_lt {ys : List ByteArray} {k : Nat} (h : k < ys.length) : nameAt ys k = ys[k] := by
  unfold nameAt; rw [List.getD_eq_getElem?_getD, List.getElem?_eq_getElem h]; rfl
theorem nameAt_mem {xs : List ByteArray} {k : Nat} (h : k < xs.length) : nameAt (sortT xs) k ∈ xs := by
  have h' : k < (sortT xs).length := by rw [sortT_length]; exact h
  rw [nameAt_lt h']
  exact (sortT_perm xs).mem_iff.1 (List.getElem_mem h')
def rowN (s : ByteArray) (n j : Nat) : Nat := rowAt (num s 1) (num s 2) n j
def rowL (s : ByteArray) (n : Nat) : List Int := (List.range n).map fun j => ((rowN s n j : Nat) : Int)
theorem rowL_length (s : ByteArray) (n : Nat) : (rowL s n).length = n := by simp [rowL]
theorem rowL_get (s : ByteArray) (n : Nat) {j : Nat} (h : j < (rowL s n).length) : (rowL s n)[j] = ((rowN s n j : Nat) : Int) := by simp [rowL]
def rowsN (ys : List ByteArray) (n k j : Nat) : Nat := rowN (nameAt ys k) n j
def valsN (xs ys : List ByteArray) (k : Nat) : Int := (ix xs (nameAt ys k) : Nat)
/-- after so many turns -/
def tab (xs : List ByteArray) (n t : Nat) : List Int := fill n xs.length (rowsN (sortT xs) n) (valsN xs (sortT xs)) t
theorem tab_length (xs : List ByteArray) (n t : Nat) : (tab xs n t).length = n := fill_length _ _ _ _ _
theorem tab_ok {xs : List ByteArray} {n : Nat} (hp : Prm n) (h0 : 0 < xs.length) : RowsOk n xs.length (rowsN (sortT xs) n) (valsN xs (sortT xs)) :=
  ⟨h0, fun _ _ _ _ => rowAt_lt hp.1, fun _ _ _ _ hi hj h => rowAt_inj hp hi hj h, fun _ _ => by unfold valsN; omega⟩
/-- one more turn, as a walk makes it: p is the first free place of the row -/
theorem tab_step {xs : List ByteArray} {n t p : Nat} (hp : p < n) (hf : (tab xs n t).getD (rowsN (sortT xs) n (t % xs.length) p) 0 < 0) (hb : ∀ i, i < p → 0 ≤ (tab xs n t).getD (rowsN (sortT xs) n (t % xs.length) i) 0) :
    tab xs n (t + 1) = (tab xs n t).set (rowsN (sortT xs) n (t % xs.length) p) (valsN xs (sortT xs) (t % xs.length)) := by
  show step1 _ _ _ _ t (tab xs n t) = _
  unfold step1
  rw [pick_unique hp hf hb]
theorem tab_keeps {xs : List ByteArray} {n : Nat} (hp : Prm n) (h0 : 0 < xs.length) {t : Nat} {x : Nat} (hx : 0 ≤ (tab xs n t).getD x 0) : 0 ≤ (tab xs n (t + 1)).getD x 0 := by
  have hr := tab_ok (xs := xs) hp h0
  have hk : t % xs.length < xs.length := Nat.mod_lt _ h0
  show 0 ≤ (step1 _ _ _ _ t (tab xs n t)).getD x 0
  unfold step1
  rw [List.getD_eq_getElem?_getD] at hx ⊢
  rw [List.getElem?_set]
  split
  · split
    · simp [hr.val _ hk]
    · simp
  · exact hx
theorem tab_free {xs : List ByteArray} {n : Nat} (hp : Prm n) (h0 : 0 < xs.length) {t : Nat} (ht : t < n) {k : Nat} (hk : k < xs.length) : ∃ j, j < n ∧ (tab xs n t).getD (rowsN (sortT xs) n k j) 0 < 0 := fill_pick (tab_ok hp h0) ht hk
/-- each slot's host -/
theorem tab_full {xs : List ByteArray} {n : Nat} (hp : Prm n) (h0 : 0 < xs.length) {x : Nat} (hx : x < n) : ∃ i, ∃ _ : i < xs.length, (tab xs n n).getD x 0 = (i : Nat) := by
  obtain ⟨k, hk, _, e⟩ := fill_full (tab_ok hp h0) hx
  exact ⟨_, ix_lt (nameAt_mem hk), e⟩
end Lh
end Go.Proofs.YtmdckddenelneaaGreatDoor
