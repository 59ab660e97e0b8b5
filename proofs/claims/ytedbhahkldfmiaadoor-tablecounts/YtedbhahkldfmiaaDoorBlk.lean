/- Blocks of the call's own: a row of numbers; a map from names to blocks. -/
import Derived.Test.YtedbhahkldfmiaaDoorMixN
import Derived.Maps.OwnOps
import Derived.Maps.OwnSet
namespace Go.Proofs.YtedbhahkldfmiaaDoor
open Go.RowKit Go.Maps Go.ChangeMaps

/-- Block g of w is a row of numbers, whole. -/
def IntRow (w : World) (g : Nat) (xs : List Int) : Prop := w.heap[g]? = some (.cells (xs.map (Value.int .i64)).toArray 3 (0, 0))
section
variable {w w' : World} {g : Nat} {xs : List Int}
theorem IntRow.cell (h : IntRow w g xs) {k : Nat} (hk : k < xs.length) : w.cell? ⟨g, k, none⟩ = some (.int .i64 xs[k]) := by
  rw [cell_of_row w g k _ _ _ h]
  simp [hk]
theorem IntRow.frozen (h : IntRow w g xs) (k : Nat) : w.frozen? ⟨g, k, none⟩ = false := frozen_of_row w g k _ _ h
theorem IntRow.set (h : IntRow w g xs) (k : Nat) (v : Int) : IntRow (w.setCell ⟨g, k, none⟩ (.int .i64 v)) g (xs.set k v) := by
  have := heap_setCell_same w g k _ _ (.int .i64 v) h
  unfold IntRow
  rw [this]
  simp [List.map_set]
theorem IntRow.same (h : IntRow w g xs) (he : w'.heap[g]? = w.heap[g]?) : IntRow w' g xs := by
  unfold IntRow
  rw [he]
  exact h
theorem IntRow.lt (h : IntRow w g xs) : g < w.heap.size := (Array.getElem?_eq_some_iff.1 h).1
theorem IntRow.later (h : IntRow w g xs) (hb : Below w.heap.size w w') : IntRow w' g xs := h.same (hb.block g h.lt)
theorem IntRow.ints (h : IntRow w g xs) (c : Nat) : Ints w (.slice (some ⟨g, 0, none⟩) xs.length c) xs :=
  Or.inr ⟨g, 0, c, rfl, fun k hk => by rw [Nat.zero_add]; exact h.cell hk⟩
theorem IntRow.of_owns {base n : Nat} (h : w.ownsRow base 3 1 (.slice (some ⟨g, 0, none⟩) n n) n (xs.map (Value.int .i64))) : IntRow w g xs := by
  rcases h.2 with ⟨h', _⟩ | ⟨g', cap', cur, h', _, hg, _, _, hcs, ht⟩
  · simp at h'
  · simp only [Value.slice.injEq, Option.some.injEq, Addr.mk.injEq, and_true, true_and] at h'
    obtain ⟨rfl, rfl⟩ := h'
    unfold IntRow
    rw [hg, ← ht, List.take_of_length_le (by simp; omega)]
end
theorem infoI : (Tryd.prog.info? 3).map (fun i => (i.zero, i.size, i.bytes)) = some (some (.int .i64 0), 1, 8) := by kernel_rfl
theorem made_ints (n : Nat) : (madeCells (Value.int .i64 0).cells (n * 1)).toList = (List.replicate n (0 : Int)).map (Value.int .i64) := by
  rw [Nat.mul_one]
  have := toList_madeCells_one (.int .i64 0) n
  simpa [Value.cells] using this

/-- A pointer to the head of a block reads as the block's number. -/
def ptrElem (v : Value) : Option (DataW Unit × List MemPlace) :=
  match v with
  | .pointer (some ⟨b, 0, none⟩) => some (.lit (.int .i64 (b : Nat)), [])
  | .pointer none => some (.nil, [])
  | _ => none
theorem ptrElem_inv {v : Value} {r : Nat} {ps : List MemPlace} (h : ptrElem v = some (.lit (.int .i64 (r : Nat)), ps)) : v = .pointer (some ⟨r, 0, none⟩) := by
  unfold ptrElem at h
  split at h
  · simp only [Option.some.injEq, Prod.mk.injEq, DataW.lit.injEq, Lit.int.injEq, true_and] at h
    have : _ = r := Int.ofNat.inj h.1
    subst this
    rfl
  · simp at h
  · cases h
theorem ptrElem_mk (b : Nat) : ptrElem (.pointer (some ⟨b, 0, none⟩)) = some (.lit (.int .i64 (b : Nat)), []) := rfl

/-- 'm[k]' on such a map, at a key that is there. -/
theorem wpList_lookup_ptr {P : Program} (w : World) {ops : Array Oper} {rest : List Oper} {o : Oper} {a : Act} {Q : Exit → Act → World → Prop}
    (hg : o.guard = none) (m x : Operand) (t : TypeId) (hop : o.op = Op.lookup t m x false)
    (k e : TypeId) (K : Keyed P k) (ht : P.underlying t = some (.map k e)) (hz : (zeroValue e).run P w = .ok (.pointer none) w) (b n : Nat) (D : DataW Unit)
    (hm : a.eval m = .map (some b)) (hown : w.ownsMap P k ptrElem b n D) (key : Value) (kl : Lit) (hx : a.eval x = key) (hkey : keyOf P k key = some kl) (r : Nat) (hr : D.atKey kl .nil = .lit (.int .i64 (r : Nat)))
    (hK : wpList P ops Q rest (a.put o.dst (.pointer (some ⟨r, 0, none⟩))) w) :
    wpList P ops Q (o :: rest) a w := by
  refine wpList_plain hg fun K' hK' => ?_
  obtain ⟨v, ps, hrun, hv⟩ := hown.lookup K ht hz (zd := .nil) (zp := []) rfl hkey
  rw [hr] at hv
  obtain rfl := ptrElem_inv hv
  unfold Oper.wp
  simp [execOp, hop, hm, hx, hrun, Result.andThen]
  exact hK' _ _ hK
theorem ownsMap_same {P : Program} {k : TypeId} {R : Value → Option (DataW Unit × List MemPlace)} {w w' : World} {b n : Nat} {D : DataW Unit} (h : w.ownsMap P k R b n D) (he : w'.heap[b]? = w.heap[b]?) : w'.ownsMap P k R b n D := by
  obtain ⟨es, clock, hb, r⟩ := h
  exact ⟨es, clock, he.trans hb, r⟩
end Go.Proofs.YtedbhahkldfmiaaDoor
