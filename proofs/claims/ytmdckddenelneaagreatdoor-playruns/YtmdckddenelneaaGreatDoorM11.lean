/- MixNumbers: the walk. -/
import Derived.Test.YtmdckddenelneaaGreatDoorM10
import Derived.Deep.RegionWith
import Derived.Test.YtmdckddenelneaaGreatDoorM1
import Derived.Test.YtmdckddenelneaaGreatDoorM0
import Derived.Laws.Rows
import Derived.Maps.OwnOps
import Derived.Maps.OwnSet
import Derived.Test.YtmdckddenelneaaGreatDoorM7
import Derived.Test.YtmdckddenelneaaGreatDoorM3
namespace Go.Proofs.YtmdckddenelneaaGreatDoor
open Go.RowKit

theorem sortedOf_zero (p : Option Addr) (cap : Nat) (w : World) :
    Calls Tryz.prog 33 #[.slice p 0 cap] w fun e w' => e = .returned (.slice none 0 0) ∧ w' = w := by
  go_enter Tryz.func33, Tryz.ntmps33
  go_wp2
  refine wp_loop_rounds 1 ?_
  rw [rounds_succ]
  go_wp2
  go_ret
  exact ⟨rfl, rfl⟩
theorem sortedOf_any (v : Value) (xs : List ByteArray) (w : World) (hv : Strs1 w v xs) (hm : xs.length < 1000000) :
    Calls Tryz.prog 33 #[v] w fun e w' => ∃ v', e = .returned v' ∧ Strs1 w' v' (Lh.sortT xs) ∧ Below w.heap.size w w' := by
  rcases hv with ⟨rfl, rfl | ⟨ad, c, rfl⟩⟩ | ⟨b, o, c, rfl, hcap, hx⟩
  · exact (sortedOf_zero _ _ w).mono fun e w' ⟨h1, h2⟩ => ⟨_, h1, Or.inl ⟨by rw [← Lh.sort_unique (xs := []) (ys := []) List.Pairwise.nil List.Perm.nil], Or.inl rfl⟩, by rw [h2]; exact Below.refl _ _⟩
  · exact (sortedOf_zero _ _ w).mono fun e w' ⟨h1, h2⟩ => ⟨_, h1, Or.inl ⟨by rw [← Lh.sort_unique (xs := []) (ys := []) List.Pairwise.nil List.Perm.nil], Or.inl rfl⟩, by rw [h2]; exact Below.refl _ _⟩
  · exact sortedOf_core b o c xs w hx hm

end Go.Proofs.YtmdckddenelneaaGreatDoor

/- A block of the call's own that is a row of numbers. -/
namespace Go.Proofs.YtmdckddenelneaaGreatDoor
open Go.RowKit

/-- Block g of w is a row of numbers, whole. -/
def IntRow (w : World) (g : Nat) (xs : List Int) : Prop := w.heap[g]? = some (.cells (xs.map (Value.int .i64)).toArray 3 (0, 0))
section
variable {w w' : World} {g : Nat} {xs : List Int}
theorem IntRow.cell (h : IntRow w g xs) {k : Nat} (hk : k < xs.length) : w.cell? ⟨g, k, none⟩ = some (.int .i64 xs[k]) := by
  rw [cell_of_row w g k _ _ _ h]
  simp [hk]
theorem IntRow.frozen (h : IntRow w g xs) (k : Nat) : w.frozen? ⟨g, k, none⟩ = false := frozen_of_row w g k _ _ h
theorem IntRow.set (h : IntRow w g xs) (k : Nat) (v : Int) : IntRow (w.setCell ⟨g, k, none⟩ (.int .i64 v)) g (xs.set k v) := by
  have := heap_setCell_same w g k _ _ (.int .i64 v) h
  unfold IntRow
  rw [this]
  simp [List.map_set]
theorem IntRow.same (h : IntRow w g xs) (he : w'.heap[g]? = w.heap[g]?) : IntRow w' g xs := by
  unfold IntRow
  rw [he]
  exact h
theorem IntRow.lt (h : IntRow w g xs) : g < w.heap.size := (Array.getElem?_eq_some_iff.1 h).1
theorem IntRow.later (h : IntRow w g xs) (hb : Below w.heap.size w w') : IntRow w' g xs := h.same (hb.block g h.lt)
theorem IntRow.ints (h : IntRow w g xs) (c : Nat) : Ints w (.slice (some ⟨g, 0, none⟩) xs.length c) xs :=
  Or.inr ⟨g, 0, c, rfl, fun k hk => by rw [Nat.zero_add]; exact h.cell hk⟩
theorem IntRow.of_owns {base n : Nat} (h : w.ownsRow base 3 1 (.slice (some ⟨g, 0, none⟩) n n) n (xs.map (Value.int .i64))) : IntRow w g xs := by
  rcases h.2 with ⟨h', _⟩ | ⟨g', cap', cur, h', _, hg, _, _, hcs, ht⟩
  · simp at h'
  · simp only [Value.slice.injEq, Option.some.injEq, Addr.mk.injEq, and_true, true_and] at h'
    obtain ⟨rfl, rfl⟩ := h'
    unfold IntRow
    rw [hg, ← ht, List.take_of_length_le (by simp; omega)]
end
theorem infoI : (Tryz.prog.info? 3).map (fun i => (i.zero, i.size, i.bytes)) = some (some (.int .i64 0), 1, 8) := by kernel_rfl
theorem ints_oneCell1 (x : Int) : ∀ u ∈ [Value.int .i64 x], u.oneCell' = true := by
  intro u hu
  simp at hu
  subst hu
  rfl
theorem made_ints2 (n : Nat) : (madeCells #[Value.int .i64 0] n).toList = (List.replicate n (0 : Int)).map (Value.int .i64) := by
  rw [toList_madeCells_one]
  simp
end Go.Proofs.YtmdckddenelneaaGreatDoor

/- Blocks of the call's own: a map from names to blocks. -/
namespace Go.Proofs.YtmdckddenelneaaGreatDoor
open Go.RowKit Go.Maps Go.ChangeMaps

/-- A pointer to the head of a block reads as the block's number. -/
def ptrElem (v : Value) : Option (DataW Unit × List MemPlace) :=
  match v with
  | .pointer (some ⟨b, 0, none⟩) => some (.lit (.int .i64 (b : Nat)), [])
  | .pointer none => some (.nil, [])
  | _ => none
theorem ptrElem_inv {v : Value} {r : Nat} {ps : List MemPlace} (h : ptrElem v = some (.lit (.int .i64 (r : Nat)), ps)) : v = .pointer (some ⟨r, 0, none⟩) := by
  unfold ptrElem at h
  split at h
  · simp only [Option.some.injEq, Prod.mk.injEq, DataW.lit.injEq, Lit.int.injEq, true_and] at h
    have : _ = r := Int.ofNat.inj h.1
    subst this
    rfl
  · simp at h
  · cases h
theorem ptrElem_mk (b : Nat) : ptrElem (.pointer (some ⟨b, 0, none⟩)) = some (.lit (.int .i64 (b : Nat)), []) := rfl

/-- 'm[k]' on such a map, at a key that is there. -/
theorem wpList_lookup_ptr {P : Program} (w : World) {ops : Array Oper} {rest : List Oper} {o : Oper} {a : Act} {Q : Exit → Act → World → Prop}
    (hg : o.guard = none) (m x : Operand) (t : TypeId) (hop : o.op = Op.lookup t m x false)
    (k e : TypeId) (K : Keyed P k) (ht : P.underlying t = some (.map k e)) (hz : (zeroValue e).run P w = .ok (.pointer none) w) (b n : Nat) (D : DataW Unit)
    (hm : a.eval m = .map (some b)) (hown : w.ownsMap P k ptrElem b n D) (key : Value) (kl : Lit) (hx : a.eval x = key) (hkey : keyOf P k key = some kl) (r : Nat) (hr : D.atKey kl .nil = .lit (.int .i64 (r : Nat)))
    (hK : wpList P ops Q rest (a.put o.dst (.pointer (some ⟨r, 0, none⟩))) w) :
    wpList P ops Q (o :: rest) a w := by
  refine wpList_plain hg fun K' hK' => ?_
  obtain ⟨v, ps, hrun, hv⟩ := hown.lookup K ht hz (zd := .nil) (zp := []) rfl hkey
  rw [hr] at hv
  obtain rfl := ptrElem_inv hv
  unfold Oper.wp
  simp [execOp, hop, hm, hx, hrun, Result.andThen]
  exact hK' _ _ hK
theorem ownsMap_same {P : Program} {k : TypeId} {R : Value → Option (DataW Unit × List MemPlace)} {w w' : World} {b n : Nat} {D : DataW Unit} (h : w.ownsMap P k R b n D) (he : w'.heap[b]? = w.heap[b]?) : w'.ownsMap P k R b n D := by
  obtain ⟨es, clock, hb, r⟩ := h
  exact ⟨es, clock, he.trans hb, r⟩
end Go.Proofs.YtmdckddenelneaaGreatDoor

/- Tables by names: which host has which slot. -/
namespace Go.Proofs.YtmdckddenelneaaGreatDoor
open Go.RowKit

namespace Lh
theorem sortT_perm (xs : List ByteArray) : (sortT xs).Perm xs := by
  unfold sortT
  have h := (List.mergeSort_perm (xs.map fun s => s.data.toList) (fun x y => decide (x ≤ y))).map (fun l : List UInt8 => (⟨l.toArray⟩ : ByteArray))
  rw [List.map_map] at h
  have e : ((fun l : List UInt8 => (⟨l.toArray⟩ : ByteArray)) ∘ fun s : ByteArray => s.data.toList) = id := rfl
  rw [e, List.map_id] at h
  exact h
/-- where a text stands first -/
def ix (xs : List ByteArray) (s : ByteArray) : Nat := xs.findIdx fun x => decide (x = s)
theorem ix_lt {xs : List ByteArray} {s : ByteArray} (h : s ∈ xs) : ix xs s < xs.length := List.findIdx_lt_length.2 ⟨s, h, by simp⟩
theorem ix_at {xs : List ByteArray} {s : ByteArray} (h : s ∈ xs) : xs[ix xs s]'(ix_lt h) = s := by
  exact of_decide_eq_true (List.findIdx_getElem (p := fun x => decide (x = s)) (xs := xs) (w := ix_lt h))
theorem nodup_inj {xs : List ByteArray} (hn : xs.Nodup) {i j : Nat} (hi : i < xs.length) (hj : j < xs.length) (h : xs[i] = xs[j]) : i = j := by
  have hp := List.pairwise_iff_getElem.1 hn
  rcases Nat.lt_trichotomy i j with hlt | e | hgt
  · exact absurd h (hp i j hi hj hlt)
  · exact e
  · exact absurd h.symm (hp j i hj hi hgt)
theorem ix_first {xs : List ByteArray} {s : ByteArray} {k : Nat} (hk : k < xs.length) (he : xs[k] = s) (hb : ∀ j (h : j < xs.length), j < k → xs[j] ≠ s) : ix xs s = k := by
  have hm : s ∈ xs := he ▸ List.getElem_mem hk
  rcases Nat.lt_trichotomy (ix xs s) k with h | h | h
  · exact absurd (ix_at hm) (hb _ (ix_lt hm) h)
  · exact h
  · have := List.not_of_lt_findIdx (p := fun x => decide (x = s)) h
    simp [he] at this

def nameAt (ys : List ByteArray) (k : Nat) : ByteArray := ys.getD k ByteArray.empty
theorem nameAt_lt {ys : List ByteArray} {k : Nat} (h : k < ys.length) : nameAt ys k = ys[k] := by
  unfold nameAt; rw [List.getD_eq_getElem?_getD, List.getElem?_eq_getElem h]; rfl
theorem nameAt_mem {xs : List ByteArray} {k : Nat} (h : k < xs.length) : nameAt (sortT xs) k ∈ xs := by
  have h' : k < (sortT xs).length := by rw [sortT_length]; exact h
  rw [nameAt_lt h']
  exact (sortT_perm xs).mem_iff.1 (List.getElem_mem h')
def rowN (s : ByteArray) (n j : Nat) : Nat := rowAt (num s 1) (num s 2) n j
def rowL (s : ByteArray) (n : Nat) : List Int := (List.range n).map fun j => ((rowN s n j : Nat) : Int)
theorem rowL_length (s : ByteArray) (n : Nat) : (rowL s n).length = n := by simp [rowL]
theorem rowL_get (s : ByteArray) (n : Nat) {j : Nat} (h : j < (rowL s n).length) : (rowL s n)[j] = ((rowN s n j : Nat) : Int) := by simp [rowL]
def rowsN (ys : List ByteArray) (n k j : Nat) : Nat := rowN (nameAt ys k) n j
def valsN (xs ys : List ByteArray) (k : Nat) : Int := (ix xs (nameAt ys k) : Nat)
/-- after so many turns -/
def tab (xs : List ByteArray) (n t : Nat) : List Int := fill n xs.length (rowsN (sortT xs) n) (valsN xs (sortT xs)) t
theorem tab_length (xs : List ByteArray) (n t : Nat) : (tab xs n t).length = n := fill_length _ _ _ _ _
theorem tab_ok {xs : List ByteArray} {n : Nat} (hp : Prm n) (h0 : 0 < xs.length) : RowsOk n xs.length (rowsN (sortT xs) n) (valsN xs (sortT xs)) :=
  ⟨h0, fun _ _ _ _ => rowAt_lt hp.1, fun _ _ _ _ hi hj h => rowAt_inj hp hi hj h, fun _ _ => by unfold valsN; omega⟩
/-- one more turn, as a walk makes it: p is the first free place of the row -/
theorem tab_step {xs : List ByteArray} {n t p : Nat} (hp : p < n) (hf : (tab xs n t).getD (rowsN (sortT xs) n (t % xs.length) p) 0 < 0) (hb : ∀ i, i < p → 0 ≤ (tab xs n t).getD (rowsN (sortT xs) n (t % xs.length) i) 0) :
    tab xs n (t + 1) = (tab xs n t).set (rowsN (sortT xs) n (t % xs.length) p) (valsN xs (sortT xs) (t % xs.length)) := by
  show step1 _ _ _ _ t (tab xs n t) = _
  unfold step1
  rw [pick_unique hp hf hb]
theorem tab_keeps {xs : List ByteArray} {n : Nat} (hp : Prm n) (h0 : 0 < xs.length) {t : Nat} {x : Nat} (hx : 0 ≤ (tab xs n t).getD x 0) : 0 ≤ (tab xs n (t + 1)).getD x 0 := by
  have hr := tab_ok (xs := xs) hp h0
  have hk : t % xs.length < xs.length := Nat.mod_lt _ h0
  show 0 ≤ (step1 _ _ _ _ t (tab xs n t)).getD x 0
  unfold step1
  rw [List.getD_eq_getElem?_getD] at hx ⊢
  rw [List.getElem?_set]
  split
  · split
    · simp [hr.val _ hk]
    · simp
  · exact hx
theorem tab_free {xs : List ByteArray} {n : Nat} (hp : Prm n) (h0 : 0 < xs.length) {t : Nat} (ht : t < n) {k : Nat} (hk : k < xs.length) : ∃ j, j < n ∧ (tab xs n t).getD (rowsN (sortT xs) n k j) 0 < 0 := fill_pick (tab_ok hp h0) ht hk
/-- each slot's host -/
theorem tab_full {xs : List ByteArray} {n : Nat} (hp : Prm n) (h0 : 0 < xs.length) {x : Nat} (hx : x < n) : ∃ i, ∃ _ : i < xs.length, (tab xs n n).getD x 0 = (i : Nat) := by
  obtain ⟨k, hk, _, e⟩ := fill_full (tab_ok hp h0) hx
  exact ⟨_, ix_lt (nameAt_mem hk), e⟩
end Lh
end Go.Proofs.YtmdckddenelneaaGreatDoor

/- Sizes: what is a prime, by trial up to the root and up to the number. -/
namespace Go.Proofs.YtmdckddenelneaaGreatDoor
namespace Lh
theorem prm_of_roots {n : Nat} (h2 : 2 ≤ n) (h : ∀ d, 2 ≤ d → d * d ≤ n → n % d ≠ 0) : Prm n := by
  refine ⟨h2, fun k hk hkn hz => ?_⟩
  obtain ⟨q, hq⟩ := Nat.dvd_of_mod_eq_zero hz
  have hq2 : 2 ≤ q := by
    rcases Nat.lt_or_ge q 2 with hlt | hge
    · have : q = 0 ∨ q = 1 := by omega
      rcases this with rfl | rfl
      · omega
      · omega
    · exact hge
  rcases Nat.le_total k q with hle | hle
  · exact h k hk (by rw [hq]; exact Nat.mul_le_mul_left _ hle) hz
  · exact h q hq2 (by rw [hq]; exact Nat.mul_le_mul_right _ hle) (by rw [hq, Nat.mul_mod_left])
theorem root_lt {n d : Nat} (h2 : 2 ≤ d) (hd : d * d ≤ n) : d < n := by
  have : d * 2 ≤ d * d := Nat.mul_le_mul_left _ h2
  omega
theorem root_small {n d : Nat} (hn : n ≤ 503) (hd : d * d ≤ n) : d ≤ 22 := by
  rcases Nat.lt_or_ge 22 d with h | h
  · have : 23 * 23 ≤ d * d := Nat.mul_le_mul (by omega) (by omega)
    omega
  · exact h
theorem sq_le {d : Nat} (h : d ≤ 23) : d * d ≤ 529 := Nat.mul_le_mul h h
end Lh
end Go.Proofs.YtmdckddenelneaaGreatDoor

/- Sizes of tables: the reference's SizeError, the landed checkSize. -/
namespace Go.Proofs.YtmdckddenelneaaGreatDoor
open Go.RowKit

theorem sq_cast (k : Nat) : (k : Int) * (k : Int) = ((k * k : Nat) : Int) := by simp

end Go.Proofs.YtmdckddenelneaaGreatDoor

/- Rows: the reference's RowOf, the landed slotsOf. -/
namespace Go.Proofs.YtmdckddenelneaaGreatDoor
open Go.RowKit

theorem num_lt (s : ByteArray) (k : Nat) : Lh.num s k < 18446744073709551616 := Lh.turn_lt _
theorem rem_small (a n : Nat) (hn : 0 < n) : a % n < n := Nat.mod_lt _ hn
theorem rowL_snoc (s : ByteArray) (n j : Nat) (h : j < n) : (Lh.rowL s n).take j ++ [((Lh.rowN s n j : Nat) : Int)] = (Lh.rowL s n).take (j + 1) := by
  rw [List.take_succ_eq_append_getElem (by rw [Lh.rowL_length]; exact h), Lh.rowL_get]
/-- offset and skip, as the program reckons them -/
theorem row_parts (s : ByteArray) (n : Nat) (h2 : 2 ≤ n) (h5 : n ≤ 503) : ∃ o k : Nat, o < n ∧ k + 1 < n ∧ (Lh.num s 1 : Int) % (n : Int) = (o : Int) ∧ (Lh.num s 2 : Int) % ((n : Int) - 1) = (k : Int) ∧
    ∀ j : Nat, j < n → 0 ≤ (j : Int) * ((k : Int) + 1) ∧ (j : Int) * ((k : Int) + 1) ≤ 300000 ∧ ((o : Int) + (j : Int) * ((k : Int) + 1)) % (n : Int) = ((Lh.rowN s n j : Nat) : Int) := by
  refine ⟨Lh.num s 1 % n, Lh.num s 2 % (n - 1), rem_small _ _ (by omega), ?_, by simp, ?_, fun j hj => ?_⟩
  · have := rem_small (Lh.num s 2) (n - 1) (by omega)
    omega
  · rw [Int.natCast_emod, Int.natCast_sub (by omega)]; rfl
  · have hk := rem_small (Lh.num s 2) (n - 1) (by omega)
    have hb : j * (Lh.num s 2 % (n - 1) + 1) ≤ 503 * 503 := Nat.mul_le_mul (by omega) (by omega)
    have e : (j : Int) * (((Lh.num s 2 % (n - 1) : Nat) : Int) + 1) = ((j * (Lh.num s 2 % (n - 1) + 1) : Nat) : Int) := by rw [Int.natCast_mul, Int.natCast_add]; rfl
    refine ⟨by omega, by omega, ?_⟩
    rw [e, ← Int.natCast_add, ← Int.natCast_emod]
    rfl

set_option maxRecDepth 100000 in
set_option maxHeartbeats 2000000 in
theorem rowOf_own (s : ByteArray) (n : Nat) (w : World) (hs : s.size ≤ 300) (h2 : 2 ≤ n) (h5 : n ≤ 503) :
    Calls Tryz.prog 34 #[.string s, .int .i64 n] w fun e w' => ∃ v, e = .returned v ∧ w'.ownsRow w.heap.size 3 1 v n ((Lh.rowL s n).map (Value.int .i64)) ∧ Below w.heap.size w w' := by
  obtain ⟨i, hi, hz0, hz1, hz2⟩ := info_parts infoI
  have hA := num_lt s 1
  have hB := num_lt s 2
  obtain ⟨o, k, ho, hk, hc1, hc2, hrow⟩ := row_parts s n h2 h5
  have HROW : Hid (∀ j : Nat, j < n → 0 ≤ (j : Int) * ((k : Int) + 1) ∧ (j : Int) * ((k : Int) + 1) ≤ 300000 ∧ ((o : Int) + (j : Int) * ((k : Int) + 1)) % (n : Int) = ((Lh.rowN s n j : Nat) : Int)) := hrow
  clear hrow
  have hn0 : ((n : Int) == 0) = false := by simp; omega
  have hn1 : ((n : Int) - 1 == 0) = false := by rw [beq_eq_false_iff_ne]; omega
  go_enter Tryz.func34, Tryz.ntmps34
  go_wp2_with fail
  refine (numberOf_any s 1 _ hs).mono ?_
  rintro e w1 ⟨rfl, rfl⟩
  go_wp2_with fail
  refine (numberOf_any s 2 _ hs).mono ?_
  rintro e w2 ⟨rfl, rfl⟩
  go_wp2_with fail
  have LEN : Hid ((Lh.rowL s n).length = n) := Lh.rowL_length s n
  rw [hc2]
  clear hc1 hc2
  go_loopw [7, 8] (fun vo t W => Below w2.heap.size w2 W ∧ ∃ j : Nat, j ≤ n ∧ t = .int .i64 j ∧ W.ownsRow w2.heap.size 3 1 vo j (((Lh.rowL s n).take j).map (Value.int .i64))) (fun _ t _ => n - (intOf t).toNat)
  case atStart => exact ⟨Below.refl _ _, 0, Nat.zero_le _, rfl, by simpa using World.ownsRow_nil _ _ _ _⟩
  case round =>
    obtain ⟨hb, j, hj, rfl, hown⟩ := hrel
    by_cases hlt : j < n
    · obtain ⟨hj0, hj1, hj2⟩ := HROW.out j hlt
      have hd : decide ((j : Int) < (n : Int)) = true := by simp; omega
      have hmx : j + 1 ≤ maxLen := by unfold maxLen; omega
      have hbs : ∀ q, w2.heap.size ≤ (wr.alloc q).heap.size := fun q => by
        have h1 : (wr.alloc q).heap.size = wr.heap.size + 1 := by simp
        have := hb.size
        omega
      have hnew := cell_one_new wr (.int .i64 (Lh.rowN s n j : Nat)) 3
      go_wp2_with (at_builtin; refine wpList_append_own _ rfl _ _ 29 rfl w2.heap.size 3 i _ 1 8 Tryz.underlying29 hi hz0 hz1 hz2 rfl (by decide) _ j _ rfl (hown.alloc _) ⟨wr.heap.size, 0, none⟩ 1 1 [.int .i64 (Lh.rowN s n j : Nat)] rfl rfl hnew (ints_oneCell1 _) hmx (by omega) (hbs _) ?_; intro v2 w3 hown2 hg2 hnil2)
      go_roundw
      case rel =>
        refine ⟨(hb.alloc hb.size _).grown hg2 (hbs _) (fun k h => (hown.lt k h).1), j + 1, by omega, by go_num, ?_⟩
        rw [← rowL_snoc s n j hlt, List.map_append]
        exact hown2
      case measure => simp [intOf]; omega
    · have hd : decide ((j : Int) < (n : Int)) = false := by simp; omega
      have hjn : j = n := by omega
      have hfin := hown
      rw [List.take_of_length_le (by rw [LEN.out]; omega), hjn] at hfin
      have HF : Hid _ := hfin
      clear hfin hown hjn
      go_wp2
      go_ret
      exact ⟨_, rfl, HF.out, hb⟩
theorem rowOf_at (s : ByteArray) (n : Nat) (w : World) (hs : s.size ≤ 300) (h2 : 2 ≤ n) (h5 : n ≤ 503) :
    Calls Tryz.prog 34 #[.string s, .int .i64 n] w fun e w' => ∃ g c, e = .returned (.slice (some ⟨g, 0, none⟩) n c) ∧ w.heap.size ≤ g ∧ (∀ j, j < n → w'.cell? ⟨g, j, none⟩ = some (.int .i64 (Lh.rowN s n j : Nat))) ∧ Below w.heap.size w w' :=
  (rowOf_own s n w hs h2 h5).mono fun _ _ ⟨v, h1, ho, h3⟩ => by
    have ho' := ho
    rcases ho.2 with ⟨_, hn⟩ | ⟨g, cap, cur, rfl, hg, _⟩
    · omega
    · refine ⟨g, cap, h1, hg, fun j hj => ?_, h3⟩
      rw [ho'.cellAt j (by omega)]
      have hl : j < (Lh.rowL s n).length := by rw [Lh.rowL_length]; exact hj
      simp [hl, Lh.rowL_get]
end Go.Proofs.YtmdckddenelneaaGreatDoor

/- The landed slotsOf. -/
namespace Go.Proofs.YtmdckddenelneaaGreatDoor
open Go.RowKit
theorem take_set_snoc {α : Type} {xs : List α} {j : Nat} (h : j < xs.length) (v : α) : (xs.set j v).take (j + 1) = xs.take j ++ [v] := by
  rw [List.take_succ_eq_append_getElem (by simpa using h)]
  have e : (xs.take j).set j v = xs.take j := List.set_eq_of_length_le (by simp; omega)
  simp [List.take_set, e]
set_option maxRecDepth 100000 in
set_option maxHeartbeats 2000000 in
theorem slotsOf_any (s : ByteArray) (n : Nat) (w : World) (hs : s.size ≤ 300) (h2 : 2 ≤ n) (h5 : n ≤ 503) :
    Calls Tryz.prog 69 #[.string s, .int .i64 n] w fun e w' => ∃ g, e = .returned (.slice (some ⟨g, 0, none⟩) n n) ∧ w.heap.size ≤ g ∧ IntRow w' g (Lh.rowL s n) ∧ Below w.heap.size w w' := by
  obtain ⟨i, hi, hz0, hz1, hz2⟩ := info_parts infoI
  have hA := num_lt s 1
  have hB := num_lt s 2
  obtain ⟨o, k, ho, hk, hc1, hc2, hrow⟩ := row_parts s n h2 h5
  have HROW : Hid (∀ j : Nat, j < n → 0 ≤ (j : Int) * ((k : Int) + 1) ∧ (j : Int) * ((k : Int) + 1) ≤ 300000 ∧ ((o : Int) + (j : Int) * ((k : Int) + 1)) % (n : Int) = ((Lh.rowN s n j : Nat) : Int)) := hrow
  clear hrow
  have hn0 : ((n : Int) == 0) = false := by simp; omega
  have hn1 : ((n : Int) - 1 == 0) = false := by rw [beq_eq_false_iff_ne]; omega
  have hbyt : i.bytes * n ≤ 281474976710656 := by rw [hz2]; omega
  have hmax : n ≤ maxLen := by unfold maxLen; omega
  go_enter Tryz.func69, Tryz.ntmps69
  go_wp2_with fail
  refine (of_any s 1 _ hs).mono ?_
  rintro e w1 ⟨rfl, hb1⟩
  go_wp2_with fail
  refine (of_any s 2 _ hs).mono ?_
  rintro e w2 ⟨rfl, hb2⟩
  have hbA := below_then hb1 hb2
  clear hb1 hb2
  go_wp2_with (at_make; refine wpList_make_full w2 rfl _ _ 29 rfl w2.heap.size 3 i _ 1 Tryz.underlying29 hi hz0 hz1 _ _ _ _ n rfl rfl rfl rfl hbyt hmax (Nat.le_refl _) ?_)
  intro w3 hown hgrow
  have hb3 : Below w.heap.size w w3 := hbA.trans ((below_grown hgrow (fun k h => by cases h)).mono hbA.size)
  rw [made_ints2] at hown
  have hrow0 := IntRow.of_owns hown
  have hgb := hbA.size
  clear hown hgrow hbA
  generalize w2.heap.size = g at *
  go_wp2_with fail
  try rw [hc2]
  clear hc1 hc2
  go_loopw [27] (fun t W => Below w.heap.size w W ∧ ∃ j : Nat, j ≤ n ∧ t = .int .i64 j ∧ ∃ xs : List Int, xs.length = n ∧ xs.take j = (Lh.rowL s n).take j ∧ IntRow W g xs) (fun t _ => n - (intOf t).toNat)
  case atStart => exact ⟨hb3, 0, Nat.zero_le _, rfl, _, by simp, by simp, hrow0⟩
  case round =>
    obtain ⟨hb, j, hj, rfl, xs, hlen, htake, hrow⟩ := hrel
    have HT : Hid (xs.take j = (Lh.rowL s n).take j) := htake
    have HLEN : Hid (xs.length = n) := hlen
    have HR : Hid (IntRow wr g xs) := hrow
    have HR0 : Hid (IntRow w3 g (List.replicate n 0)) := hrow0
    clear htake
    by_cases hlt : j < n
    · obtain ⟨hj0, hj1, hj2⟩ := HROW.out j hlt
      rw [show (k : Int) + 1 = 1 + (k : Int) from Int.add_comm _ _] at hj0 hj1 hj2
      obtain ⟨x0, c0⟩ : ∃ x, wr.cell? ⟨g, j, none⟩ = some (.int .i64 x) := ⟨_, hrow.cell (k := j) (by omega)⟩
      have f0 := hrow.frozen j
      have hd : decide ((j : Int) < (n : Int)) = true := by simp; omega
      clear hrow hlen hrow0
      go_wp2_with fail
      go_roundw
      case rel =>
        refine ⟨hb.setCell hgb _, j + 1, by omega, by go_num, xs.set j (Lh.rowN s n j : Nat), by simp [HLEN.out], ?_, HR.out.set _ _⟩
        rw [take_set_snoc (by rw [HLEN.out]; exact hlt), HT.out, rowL_snoc s n j hlt]
      case measure => simp [intOf]; omega
    · have hd : decide ((j : Int) < (n : Int)) = false := by simp; omega
      have hfin : IntRow wr g (Lh.rowL s n) := by
        have h1 := HT.out
        rw [List.take_of_length_le (by rw [HLEN.out]; omega), List.take_of_length_le (by rw [Lh.rowL_length]; omega)] at h1
        rw [← h1]
        exact hrow
      have HF : Hid (IntRow wr g (Lh.rowL s n)) := hfin
      clear hfin hrow hrow0 hlen
      go_wp2
      go_ret
      exact ⟨g, rfl, hgb, HF.out, hb⟩
end Go.Proofs.YtmdckddenelneaaGreatDoor

/- The landed take: the first free slot of the row. -/
namespace Go.Proofs.YtmdckddenelneaaGreatDoor
open Go.RowKit

/-- Only two blocks have turned. -/
structure Two (x y : Nat) (w w' : World) : Prop where
  os : w'.os = w.os
  tape : w'.tape = w.tape
  output : w'.output = w.output
  size : w'.heap.size = w.heap.size
  block : ∀ k, k ≠ x → k ≠ y → w'.heap[k]? = w.heap[k]?
theorem Two.refl (x y : Nat) (w : World) : Two x y w w := ⟨rfl, rfl, rfl, rfl, fun _ _ _ => rfl⟩
theorem Two.drewN {x y : Nat} {w w' : World} (h : Two x y w w') (n : Nat) : Two x y w (w'.drewN n) := ⟨h.os, h.tape, h.output, h.size, h.block⟩
theorem Two.drew {x y : Nat} {w w' : World} (h : Two x y w w') : Two x y w w'.drew := ⟨h.os, h.tape, h.output, h.size, h.block⟩
theorem Two.setX {x y : Nat} {w w' : World} (h : Two x y w w') (k : Nat) (v : Value) : Two x y w (w'.setCell ⟨x, k, none⟩ v) :=
  ⟨h.os, h.tape, h.output, by simpa [World.setCell] using h.size, fun i h1 h2 => (heap_setCell_other w' ⟨x, k, none⟩ i v h1).trans (h.block i h1 h2)⟩
theorem Two.setY {x y : Nat} {w w' : World} (h : Two x y w w') (k : Nat) (v : Value) : Two x y w (w'.setCell ⟨y, k, none⟩ v) :=
  ⟨h.os, h.tape, h.output, by simpa [World.setCell] using h.size, fun i h1 h2 => (heap_setCell_other w' ⟨y, k, none⟩ i v h2).trans (h.block i h1 h2)⟩
theorem Two.below {x y B : Nat} {w0 w w' : World} (h : Two x y w w') (hb : Below B w0 w) (hx : B ≤ x) (hy : B ≤ y) : Below B w0 w' :=
  hb.trans ⟨h.os, h.tape, h.output, by rw [h.size]; exact Nat.le_refl _, fun k hk => h.block k (by omega) (by omega)⟩

/-- Block rb is a row: its host's number, its slots, the next place. -/
def RowBlk (w : World) (rb : Nat) (h : Int) (sb n : Nat) (p : Nat) : Prop := w.heap[rb]? = some (.cells #[.int .i64 h, .slice (some ⟨sb, 0, none⟩) n n, .int .i64 (p : Nat)] 142 (0, 0))
section
variable {w w' : World} {rb : Nat} {h : Int} {sb n p : Nat}
theorem RowBlk.c0 (hr : RowBlk w rb h sb n p) : w.cell? ⟨rb, 0, none⟩ = some (.int .i64 h) := by rw [cell_of_row w rb 0 _ _ _ hr]; rfl
theorem RowBlk.c1 (hr : RowBlk w rb h sb n p) : w.cell? ⟨rb, 1, none⟩ = some (.slice (some ⟨sb, 0, none⟩) n n) := by rw [cell_of_row w rb 1 _ _ _ hr]; rfl
theorem RowBlk.c2 (hr : RowBlk w rb h sb n p) : w.cell? ⟨rb, 2, none⟩ = some (.int .i64 (p : Nat)) := by rw [cell_of_row w rb 2 _ _ _ hr]; rfl
theorem RowBlk.frozen (hr : RowBlk w rb h sb n p) (k : Nat) : w.frozen? ⟨rb, k, none⟩ = false := frozen_of_row w rb k _ _ hr
theorem RowBlk.same (hr : RowBlk w rb h sb n p) (he : w'.heap[rb]? = w.heap[rb]?) : RowBlk w' rb h sb n p := by
  unfold RowBlk
  rw [he]
  exact hr
theorem RowBlk.step (hr : RowBlk w rb h sb n p) (q : Nat) : RowBlk (w.setCell ⟨rb, 2, none⟩ (.int .i64 (q : Nat))) rb h sb n q := by
  have := heap_setCell_same w rb 2 _ _ (.int .i64 (q : Nat)) hr
  unfold RowBlk
  rw [this]
  rfl
end
def nextOf (W : World) (rb : Nat) : Nat := (((W.cell? ⟨rb, 2, none⟩).map intOf).getD 0).toNat
theorem RowBlk.nextOf {w : World} {rb : Nat} {h : Int} {sb n p : Nat} (hr : RowBlk w rb h sb n p) : nextOf w rb = p := by
  unfold Go.Proofs.YtmdckddenelneaaGreatDoor.nextOf
  rw [hr.c2]
  simp [intOf]

theorem getD_at {out : List Int} {x : Nat} (h : x < out.length) : out.getD x 0 = out[x] := Lh.getD_lt h
set_option maxRecDepth 100000 in
set_option maxHeartbeats 2000000 in
theorem take_core (rb sb sl n p0 p : Nat) (h : Int) (r : Nat → Nat) (out : List Int) (w : World) (hr : RowBlk w rb h sb n p0) (hs : IntRow w sb ((List.range n).map fun j => ((r j : Nat) : Int))) (ho : IntRow w sl out) (hlen : out.length = n)
    (h1 : rb ≠ sl) (h2 : rb ≠ sb) (h3 : sb ≠ sl) (hrn : ∀ j, j < n → r j < n) (hn : n ≤ 503) (hp : p < n) (hpp : p0 ≤ p) (hb : ∀ i, p0 ≤ i → i < p → out.getD (r i) 0 ≠ -1) (hf : out.getD (r p) 0 = -1) :
    Calls Tryz.prog 46 #[.pointer (some ⟨rb, 0, none⟩), .slice (some ⟨sl, 0, none⟩) n n] w fun e w' => e = .returned (.tuple #[]) ∧ RowBlk w' rb h sb n p ∧ IntRow w' sl (out.set (r p) h) ∧ Two rb sl w w' := by
  have HS : Hid (∀ W, Two rb sl w W → ∀ j, j < n → W.cell? ⟨sb, j, none⟩ = some (.int .i64 (r j : Nat))) := fun W hW j hj => by
    have hs' := hs.same (hW.block sb (fun e => h2 e.symm) h3)
    have := hs'.cell (k := j) (by simpa using hj)
    simpa using this
  have HB : Hid (∀ i, p0 ≤ i → i < p → out.getD (r i) 0 ≠ -1) := hb
  have HF : Hid (out.getD (r p) 0 = -1) := hf
  have HLEN : Hid (out.length = n) := hlen
  have HLT : Hid (∀ j, j < n → r j < n) := hrn
  have H1 : Hid (rb ≠ sl) := h1
  clear hs hb hf hlen hrn h1 h2 h3
  go_enter Tryz.func46, Tryz.ntmps46
  go_wp2_with fail
  go_loopw [] (fun W => Two rb sl w W ∧ IntRow W sl out ∧ ∃ q : Nat, p0 ≤ q ∧ q ≤ p ∧ RowBlk W rb h sb n q) (fun W => n - nextOf W rb)
  case atStart => exact ⟨Two.refl _ _ _, ho, p0, Nat.le_refl _, hpp, hr⟩
  case round =>
    obtain ⟨h2w, ho', q, hq0, hqp, hrq⟩ := hrel
    have HO : Hid (IntRow wr sl out) := ho'
    have HRQ : Hid (RowBlk wr rb h sb n q) := hrq
    have H2W : Hid (Two rb sl w wr) := h2w
    have c1 := hrq.c1
    have c2 := hrq.c2
    have f2 := hrq.frozen 2
    have c0 := hrq.c0
    have cs := HS.out _ h2w q (by omega)
    have hxn := HLT.out q (by omega)
    have co : wr.cell? ⟨sl, r q, none⟩ = some (.int .i64 (out.getD (r q) 0)) := by
      rw [ho'.cell (by rw [HLEN.out]; exact hxn), getD_at (by rw [HLEN.out]; exact hxn)]
    have fo := ho'.frozen (r q)
    clear ho' hrq hr ho h2w
    have hqi : (q : Int) < (n : Int) := by omega
    have hxi : (r q : Int) < (n : Int) := by omega
    by_cases hqq : q < p
    · have hne := HB.out q hq0 hqq
      have hbb : (out.getD (r q) 0 != -1) = true := by simpa using hne
      clear hne
      generalize out.getD (r q) 0 = val at *
      generalize r q = x at *
      go_wp2_with fail
      go_quiet (fail)
      go_wp2_with fail
      have hcast : (q : Int) + 1 = ((q + 1 : Nat) : Int) := rfl
      have hd1 : RowBlk (wr.drewN nq) rb h sb n q := HRQ.out
      have hd2 : IntRow (wr.drewN nq) sl out := HO.out
      rw [hcast]
      have hstep := hd1.step (q + 1)
      refine ⟨⟨(H2W.out.drewN nq).setX 2 _, hd2.same (heap_setCell_other _ _ _ _ (fun e => H1.out e.symm)), q + 1, by omega, by omega, hstep⟩, ?_⟩
      rw [hstep.nextOf, HRQ.out.nextOf]
      omega
    · have hqe : q = p := by omega
      subst hqe
      have hbb : (out.getD (r q) 0 != -1) = false := by rw [HF.out]; rfl
      generalize out.getD (r q) 0 = val at *
      have HX : Hid (r q < n) := hxn
      generalize hrx : r q = x at *
      have HRX : Hid (r q = x) := hrx
      clear hrx
      go_wp2_with fail
      go_quiet (fail)
      go_wp2_with fail
      have e0 : (wr.drewN nq).cell? ⟨rb, 0, none⟩ = some (.int .i64 h) := c0
      have e1 : (wr.drewN nq).cell? ⟨rb, 1, none⟩ = some (.slice (some ⟨sb, 0, none⟩) n n) := c1
      have e2 : (wr.drewN nq).cell? ⟨rb, 2, none⟩ = some (.int .i64 (q : Nat)) := c2
      have es : (wr.drewN nq).cell? ⟨sb, q, none⟩ = some (.int .i64 (x : Nat)) := cs
      have eo : (wr.drewN nq).cell? ⟨sl, x, none⟩ = some (.int .i64 val) := co
      have ef : (wr.drewN nq).frozen? ⟨sl, x, none⟩ = false := fo
      have ER : Hid (RowBlk (wr.drewN nq) rb h sb n q) := HRQ.out
      have EO : Hid (IntRow (wr.drewN nq) sl out) := HO.out
      have E2 : Hid (Two rb sl w (wr.drewN nq)) := H2W.out.drewN nq
      clear c0 c1 c2 cs co fo f2 HRQ HO H2W
      generalize wr.drewN nq = W1 at *
      go_region
      all_goals
        go_wp2
        refine bodyPost_end (v := .tuple #[]) (by simp [results, Tryz.results46, go_sem]) rfl ⟨rfl, ?_, ?_, ?_⟩
        · exact ER.out.same (heap_setCell_other W1 ⟨sl, x, none⟩ rb (.int .i64 h) H1.out)
        · rw [HRX.out]
          exact EO.out.set x h
        · exact (E2.out.setY x (.int .i64 h)).drew
theorem take_any (rb sb sl n p0 p : Nat) (h : Int) (s : ByteArray) (out : List Int) (w : World) (hr : RowBlk w rb h sb n p0) (hs : IntRow w sb (Lh.rowL s n)) (ho : IntRow w sl out) (hlen : out.length = n)
    (h1 : rb ≠ sl) (h2 : rb ≠ sb) (h3 : sb ≠ sl) (hn2 : 2 ≤ n) (hn : n ≤ 503) (hp : p < n) (hpp : p0 ≤ p) (hb : ∀ i, p0 ≤ i → i < p → out.getD (Lh.rowN s n i) 0 ≠ -1) (hf : out.getD (Lh.rowN s n p) 0 = -1) :
    Calls Tryz.prog 46 #[.pointer (some ⟨rb, 0, none⟩), .slice (some ⟨sl, 0, none⟩) n n] w fun e w' => e = .returned (.tuple #[]) ∧ RowBlk w' rb h sb n p ∧ IntRow w' sl (out.set (Lh.rowN s n p) h) ∧ Two rb sl w w' :=
  take_core rb sb sl n p0 p h (Lh.rowN s n) out w hr hs ho hlen h1 h2 h3 (fun _ _ => Lh.rowAt_lt hn2) hn hp hpp hb hf
end Go.Proofs.YtmdckddenelneaaGreatDoor
