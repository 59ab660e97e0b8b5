/- mix.Sorted. -/
import Derived.Test.YtfhmfjcpggddkaaGreatDoorM5
import Derived.Test.YtfhmfjcpggddkaaGreatDoorSort
import Derived.Sort.OwnSorted
import Derived.Sort.Walk0
import Derived.Deep.RegionWith
import Derived.Test.YtfhmfjcpggddkaaGreatDoorM12
import Derived.Maps.OwnOps
import Derived.Maps.OwnSet
import Derived.Test.YtfhmfjcpggddkaaGreatDoorM9
namespace Go.Proofs.YtfhmfjcpggddkaaGreatDoor
open Go.RowKit Go.Sort

namespace Lh
/-- rising, byte by byte -/
def sortL (l : List (List UInt8)) : List (List UInt8) := l.mergeSort fun x y => decide (x ≤ y)
def sortT (xs : List ByteArray) : List ByteArray := (sortL (xs.map fun s => s.data.toList)).map fun l => ⟨l.toArray⟩
theorem sortL_length (l : List (List UInt8)) : (sortL l).length = l.length := List.length_mergeSort _
theorem sortT_length (xs : List ByteArray) : (sortT xs).length = xs.length := by simp [sortT, sortL_length]
end Lh

theorem Strs1.src {w : World} {v : Value} {xs : List ByteArray} (h : Strs1 w v xs) : ∃ sp c, v = .slice sp xs.length c ∧ (0 < xs.length → ∃ b o, sp = some ⟨b, o, none⟩ ∧ ∀ k (h : k < xs.length), w.cell? ⟨b, o + k, none⟩ = some (.string xs[k])) := by
  rcases h with ⟨rfl, rfl | ⟨a, c, rfl⟩⟩ | ⟨b, o, c, rfl, _, hc⟩
  · exact ⟨_, _, rfl, fun h => absurd h (by simp)⟩
  · exact ⟨_, _, rfl, fun h => absurd h (by simp)⟩
  · exact ⟨_, _, rfl, fun _ => ⟨b, o, rfl, hc⟩⟩

theorem sizeS : (Tryz.prog.info? 9).map (·.size) = some 1 := by kernel_rfl
theorem strs_enc (xs : List ByteArray) : xs.map Value.string = (xs.map fun s => s.data.toList).map encStr := by
  rw [List.map_map]; rfl
theorem enc_strs (l : List (List UInt8)) : l.map encStr = (l.map fun b => (⟨b.toArray⟩ : ByteArray)).map Value.string := by
  rw [List.map_map]; rfl

end Go.Proofs.YtfhmfjcpggddkaaGreatDoor

/- MixNumbers: the walk. -/
namespace Go.Proofs.YtfhmfjcpggddkaaGreatDoor
open Go.RowKit

theorem below_of_drew {w w' : World} (h : Below w.drew.heap.size w.drew w') : Below w.heap.size w w' := ⟨h.os, h.tape, h.output, h.size, h.block⟩
end Go.Proofs.YtfhmfjcpggddkaaGreatDoor

/- Blocks of the call's own: a map from names to blocks. -/
namespace Go.Proofs.YtfhmfjcpggddkaaGreatDoor
open Go.RowKit Go.Maps Go.ChangeMaps

/-- A pointer to the head of a block reads as the block's number. -/
def ptrElem (v : Value) : Option (DataW Unit × List MemPlace) :=
  match v with
  | .pointer (some ⟨b, 0, none⟩) => some (.lit (.int .i64 (b : Nat)), [])
  | .pointer none => some (.nil, [])
  | _ => none
theorem ptrElem_inv {v : Value} {r : Nat} {ps : List MemPlace} (h : ptrElem v = some (.lit (.int .i64 (r : Nat)), ps)) : v = .pointer (some ⟨r, 0, none⟩) := by
  unfold ptrElem at h
  split at h
  · simp only [Option.some.injEq, Prod.mk.injEq, DataW.lit.injEq, Lit.int.injEq, true_and] at h
    have : _ = r := Int.ofNat.inj h.1
    subst this
    rfl
  · simp at h
  · cases h
theorem ptrElem_mk (b : Nat) : ptrElem (.pointer (some ⟨b, 0, none⟩)) = some (.lit (.int .i64 (b : Nat)), []) := rfl

/-- 'm[k]' on such a map, at a key that is there. -/
theorem wpList_lookup_ptr {P : Program} (w : World) {ops : Array Oper} {rest : List Oper} {o : Oper} {a : Act} {Q : Exit → Act → World → Prop}
    (hg : o.guard = none) (m x : Operand) (t : TypeId) (hop : o.op = Op.lookup t m x false)
    (k e : TypeId) (K : Keyed P k) (ht : P.underlying t = some (.map k e)) (hz : (zeroValue e).run P w = .ok (.pointer none) w) (b n : Nat) (D : DataW Unit)
    (hm : a.eval m = .map (some b)) (hown : w.ownsMap P k ptrElem b n D) (key : Value) (kl : Lit) (hx : a.eval x = key) (hkey : keyOf P k key = some kl) (r : Nat) (hr : D.atKey kl .nil = .lit (.int .i64 (r : Nat)))
    (hK : wpList P ops Q rest (a.put o.dst (.pointer (some ⟨r, 0, none⟩))) w) :
    wpList P ops Q (o :: rest) a w := by
  refine wpList_plain hg fun K' hK' => ?_
  obtain ⟨v, ps, hrun, hv⟩ := hown.lookup K ht hz (zd := .nil) (zp := []) rfl hkey
  rw [hr] at hv
  obtain rfl := ptrElem_inv hv
  unfold Oper.wp
  simp [execOp, hop, hm, hx, hrun, Result.andThen]
  exact hK' _ _ hK
theorem ownsMap_same {P : Program} {k : TypeId} {R : Value → Option (DataW Unit × List MemPlace)} {w w' : World} {b n : Nat} {D : DataW Unit} (h : w.ownsMap P k R b n D) (he : w'.heap[b]? = w.heap[b]?) : w'.ownsMap P k R b n D := by
  obtain ⟨es, clock, hb, r⟩ := h
  exact ⟨es, clock, he.trans hb, r⟩
end Go.Proofs.YtfhmfjcpggddkaaGreatDoor

/- Tables by names: which host has which slot. -/
namespace Go.Proofs.YtfhmfjcpggddkaaGreatDoor
open Go.RowKit

namespace Lh
theorem sortT_perm (xs : List ByteArray) : (sortT xs).Perm xs := by
  unfold sortT
  have h := (List.mergeSort_perm (xs.map fun s => s.data.toList) (fun x y => decide (x ≤ y))).map (fun l : List UInt8 => (⟨l.toArray⟩ : ByteArray))
  rw [List.map_map] at h
  have e : ((fun l : List UInt8 => (⟨l.toArray⟩ : ByteArray)) ∘ fun s : ByteArray => s.data.toList) = id := rfl
  rw [e, List.map_id] at h
  exact h
/-- where a text stands first -/
def ix (xs : List ByteArray) (s : ByteArray) : Nat := xs.findIdx fun x => decide (x = s)
theorem ix_lt {xs : List ByteArray} {s : ByteArray} (h : s ∈ xs) : ix xs s < xs.length := List.findIdx_lt_length.2 ⟨s, h, by simp⟩
theorem ix_at {xs : List ByteArray} {s : ByteArray} (h : s ∈ xs) : xs[ix xs s]'(ix_lt h) = s := by
  exact of_decide_eq_true (List.findIdx_getElem (p := fun x => decide (x = s)) (xs := xs) (w := ix_lt h))
theorem nodup_inj {xs : List ByteArray} (hn : xs.Nodup) {i j : Nat} (hi : i < xs.length) (hj : j < xs.length) (h : xs[i] = xs[j]) : i = j := by
  have hp := List.pairwise_iff_getElem.1 hn
  rcases Nat.lt_trichotomy i j with hlt | e | hgt
  · exact absurd h (hp i j hi hj hlt)
  · exact e
  · exact absurd h.symm (hp j i hj hi hgt)
def nameAt (ys : List ByteArray) (k : Nat) : ByteArray := ys.getD k ByteArray.empty
theorem nameAt_lt {ys : List ByteArray} {k : Nat} (h : k < ys.length) : nameAt ys k = ys[k] := by
  unfold nameAt; rw [List.getD_eq_getElem?_getD, List.getElem?_eq_getElem h]; rfl
theorem nameAt_mem {xs : List ByteArray} {k : Nat} (h : k < xs.length) : nameAt (sortT xs) k ∈ xs := by
  have h' : k < (sortT xs).length := by rw [sortT_length]; exact h
  rw [nameAt_lt h']
  exact (sortT_perm xs).mem_iff.1 (List.getElem_mem h')
def rowN (s : ByteArray) (n j : Nat) : Nat := rowAt (num s 1) (num s 2) n j
def rowL (s : ByteArray) (n : Nat) : List Int := (List.range n).map fun j => ((rowN s n j : Nat) : Int)
theorem rowL_length (s : ByteArray) (n : Nat) : (rowL s n).length = n := by simp [rowL]
theorem rowL_get (s : ByteArray) (n : Nat) {j : Nat} (h : j < (rowL s n).length) : (rowL s n)[j] = ((rowN s n j : Nat) : Int) := by simp [rowL]
def rowsN (ys : List ByteArray) (n k j : Nat) : Nat := rowN (nameAt ys k) n j
def valsN (xs ys : List ByteArray) (k : Nat) : Int := (ix xs (nameAt ys k) : Nat)
/-- after so many turns -/
def tab (xs : List ByteArray) (n t : Nat) : List Int := fill n xs.length (rowsN (sortT xs) n) (valsN xs (sortT xs)) t
theorem tab_length (xs : List ByteArray) (n t : Nat) : (tab xs n t).length = n := fill_length _ _ _ _ _
theorem tab_ok {xs : List ByteArray} {n : Nat} (hp : Prm n) (h0 : 0 < xs.length) : RowsOk n xs.length (rowsN (sortT xs) n) (valsN xs (sortT xs)) :=
  ⟨h0, fun _ _ _ _ => rowAt_lt hp.1, fun _ _ _ _ hi hj h => rowAt_inj hp hi hj h, fun _ _ => by unfold valsN; omega⟩
/-- one more turn, as a walk makes it: p is the first free place of the row -/
theorem tab_step {xs : List ByteArray} {n t p : Nat} (hp : p < n) (hf : (tab xs n t).getD (rowsN (sortT xs) n (t % xs.length) p) 0 < 0) (hb : ∀ i, i < p → 0 ≤ (tab xs n t).getD (rowsN (sortT xs) n (t % xs.length) i) 0) :
    tab xs n (t + 1) = (tab xs n t).set (rowsN (sortT xs) n (t % xs.length) p) (valsN xs (sortT xs) (t % xs.length)) := by
  show step1 _ _ _ _ t (tab xs n t) = _
  unfold step1
  rw [pick_unique hp hf hb]
theorem tab_keeps {xs : List ByteArray} {n : Nat} (hp : Prm n) (h0 : 0 < xs.length) {t : Nat} {x : Nat} (hx : 0 ≤ (tab xs n t).getD x 0) : 0 ≤ (tab xs n (t + 1)).getD x 0 := by
  have hr := tab_ok (xs := xs) hp h0
  have hk : t % xs.length < xs.length := Nat.mod_lt _ h0
  show 0 ≤ (step1 _ _ _ _ t (tab xs n t)).getD x 0
  unfold step1
  rw [List.getD_eq_getElem?_getD] at hx ⊢
  rw [List.getElem?_set]
  split
  · split
    · simp [hr.val _ hk]
    · simp
  · exact hx
theorem tab_free {xs : List ByteArray} {n : Nat} (hp : Prm n) (h0 : 0 < xs.length) {t : Nat} (ht : t < n) {k : Nat} (hk : k < xs.length) : ∃ j, j < n ∧ (tab xs n t).getD (rowsN (sortT xs) n k j) 0 < 0 := fill_pick (tab_ok hp h0) ht hk
/-- each slot's host -/
theorem tab_full {xs : List ByteArray} {n : Nat} (hp : Prm n) (h0 : 0 < xs.length) {x : Nat} (hx : x < n) : ∃ i, ∃ _ : i < xs.length, (tab xs n n).getD x 0 = (i : Nat) := by
  obtain ⟨k, hk, _, e⟩ := fill_full (tab_ok hp h0) hx
  exact ⟨_, ix_lt (nameAt_mem hk), e⟩
end Lh
end Go.Proofs.YtfhmfjcpggddkaaGreatDoor

/- Sizes: what is a prime, by trial up to the root and up to the number. -/
namespace Go.Proofs.YtfhmfjcpggddkaaGreatDoor
namespace Lh
theorem prm_of_roots {n : Nat} (h2 : 2 ≤ n) (h : ∀ d, 2 ≤ d → d * d ≤ n → n % d ≠ 0) : Prm n := by
  refine ⟨h2, fun k hk hkn hz => ?_⟩
  obtain ⟨q, hq⟩ := Nat.dvd_of_mod_eq_zero hz
  have hq2 : 2 ≤ q := by
    rcases Nat.lt_or_ge q 2 with hlt | hge
    · have : q = 0 ∨ q = 1 := by omega
      rcases this with rfl | rfl
      · omega
      · omega
    · exact hge
  rcases Nat.le_total k q with hle | hle
  · exact h k hk (by rw [hq]; exact Nat.mul_le_mul_left _ hle) hz
  · exact h q hq2 (by rw [hq]; exact Nat.mul_le_mul_right _ hle) (by rw [hq, Nat.mul_mod_left])
theorem root_lt {n d : Nat} (h2 : 2 ≤ d) (hd : d * d ≤ n) : d < n := by
  have : d * 2 ≤ d * d := Nat.mul_le_mul_left _ h2
  omega
theorem root_small {n d : Nat} (hn : n ≤ 503) (hd : d * d ≤ n) : d ≤ 22 := by
  rcases Nat.lt_or_ge 22 d with h | h
  · have : 23 * 23 ≤ d * d := Nat.mul_le_mul (by omega) (by omega)
    omega
  · exact h
theorem sq_le {d : Nat} (h : d ≤ 23) : d * d ≤ 529 := Nat.mul_le_mul h h
/-- what is wrong with a size: the error's number (0: nothing) -/
def SizeIs (n : Int) (e : Nat) : Prop := ((n < 2 ∨ 503 < n) ∧ e = 2) ∨ ∃ m : Nat, n = m ∧ 2 ≤ m ∧ m ≤ 503 ∧ ((¬ Prm m ∧ e = 3) ∨ (Prm m ∧ e = 0))
open Classical in
theorem sizeIs_ex (n : Int) : ∃ e, SizeIs n e := by
  by_cases h : n < 2 ∨ 503 < n
  · exact ⟨2, Or.inl ⟨h, rfl⟩⟩
  · obtain ⟨m, hm⟩ := Int.eq_ofNat_of_zero_le (show 0 ≤ n by omega)
    by_cases hp : Prm m
    · exact ⟨0, Or.inr ⟨m, hm, by omega, by omega, Or.inr ⟨hp, rfl⟩⟩⟩
    · exact ⟨3, Or.inr ⟨m, hm, by omega, by omega, Or.inl ⟨hp, rfl⟩⟩⟩
end Lh
end Go.Proofs.YtfhmfjcpggddkaaGreatDoor

/- Sizes of tables: the reference's SizeError, the landed checkSize. -/
namespace Go.Proofs.YtfhmfjcpggddkaaGreatDoor
open Go.RowKit

theorem sq_cast (k : Nat) : (k : Int) * (k : Int) = ((k * k : Nat) : Int) := by simp

end Go.Proofs.YtfhmfjcpggddkaaGreatDoor

/- Rows: the reference's RowOf, the landed slotsOf. -/
namespace Go.Proofs.YtfhmfjcpggddkaaGreatDoor
open Go.RowKit

theorem num_lt (s : ByteArray) (k : Nat) : Lh.num s k < 18446744073709551616 := Lh.turn_lt _
theorem rem_small (a n : Nat) (hn : 0 < n) : a % n < n := Nat.mod_lt _ hn
theorem rowL_snoc (s : ByteArray) (n j : Nat) (h : j < n) : (Lh.rowL s n).take j ++ [((Lh.rowN s n j : Nat) : Int)] = (Lh.rowL s n).take (j + 1) := by
  rw [List.take_succ_eq_append_getElem (by rw [Lh.rowL_length]; exact h), Lh.rowL_get]
/-- offset and skip, as the program reckons them -/
theorem row_parts (s : ByteArray) (n : Nat) (h2 : 2 ≤ n) (h5 : n ≤ 503) : ∃ o k : Nat, o < n ∧ k + 1 < n ∧ (Lh.num s 1 : Int) % (n : Int) = (o : Int) ∧ (Lh.num s 2 : Int) % ((n : Int) - 1) = (k : Int) ∧
    ∀ j : Nat, j < n → 0 ≤ (j : Int) * ((k : Int) + 1) ∧ (j : Int) * ((k : Int) + 1) ≤ 300000 ∧ ((o : Int) + (j : Int) * ((k : Int) + 1)) % (n : Int) = ((Lh.rowN s n j : Nat) : Int) := by
  refine ⟨Lh.num s 1 % n, Lh.num s 2 % (n - 1), rem_small _ _ (by omega), ?_, by simp, ?_, fun j hj => ?_⟩
  · have := rem_small (Lh.num s 2) (n - 1) (by omega)
    omega
  · rw [Int.natCast_emod, Int.natCast_sub (by omega)]; rfl
  · have hk := rem_small (Lh.num s 2) (n - 1) (by omega)
    have hb : j * (Lh.num s 2 % (n - 1) + 1) ≤ 503 * 503 := Nat.mul_le_mul (by omega) (by omega)
    have e : (j : Int) * (((Lh.num s 2 % (n - 1) : Nat) : Int) + 1) = ((j * (Lh.num s 2 % (n - 1) + 1) : Nat) : Int) := by rw [Int.natCast_mul, Int.natCast_add]; rfl
    refine ⟨by omega, by omega, ?_⟩
    rw [e, ← Int.natCast_add, ← Int.natCast_emod]
    rfl

end Go.Proofs.YtfhmfjcpggddkaaGreatDoor

/- The landed slotsOf. -/
namespace Go.Proofs.YtfhmfjcpggddkaaGreatDoor
open Go.RowKit
theorem take_set_snoc {α : Type} {xs : List α} {j : Nat} (h : j < xs.length) (v : α) : (xs.set j v).take (j + 1) = xs.take j ++ [v] := by
  rw [List.take_succ_eq_append_getElem (by simpa using h)]
  have e : (xs.take j).set j v = xs.take j := List.set_eq_of_length_le (by simp; omega)
  simp [List.take_set, e]
set_option maxRecDepth 100000 in
set_option maxHeartbeats 2000000 in
theorem slotsOf_any (s : ByteArray) (n : Nat) (w : World) (hs : s.size ≤ 300) (h2 : 2 ≤ n) (h5 : n ≤ 503) :
    Calls Tryz.prog 174 #[.string s, .int .i64 n] w fun e w' => ∃ g, e = .returned (.slice (some ⟨g, 0, none⟩) n n) ∧ w.heap.size ≤ g ∧ IntRow w' g (Lh.rowL s n) ∧ Below w.heap.size w w' := by
  obtain ⟨i, hi, hz0, hz1, hz2⟩ := info_parts infoI
  have hA := num_lt s 1
  have hB := num_lt s 2
  obtain ⟨o, k, ho, hk, hc1, hc2, hrow⟩ := row_parts s n h2 h5
  have HROW : Hid (∀ j : Nat, j < n → 0 ≤ (j : Int) * ((k : Int) + 1) ∧ (j : Int) * ((k : Int) + 1) ≤ 300000 ∧ ((o : Int) + (j : Int) * ((k : Int) + 1)) % (n : Int) = ((Lh.rowN s n j : Nat) : Int)) := hrow
  clear hrow
  have hn0 : ((n : Int) == 0) = false := by simp; omega
  have hn1 : ((n : Int) - 1 == 0) = false := by rw [beq_eq_false_iff_ne]; omega
  have hbyt : i.bytes * n ≤ 281474976710656 := by rw [hz2]; omega
  have hmax : n ≤ maxLen := by unfold maxLen; omega
  go_enter Tryz.func174, Tryz.ntmps174
  go_wp2_with fail
  refine (of_any s 1 _ hs).mono ?_
  rintro e w1 ⟨rfl, hb1⟩
  go_wp2_with fail
  refine (of_any s 2 _ hs).mono ?_
  rintro e w2 ⟨rfl, hb2⟩
  have hbA := below_then hb1 hb2
  clear hb1 hb2
  go_wp2_with (at_make; refine wpList_make_full w2 rfl _ _ 34 rfl w2.heap.size 3 i _ 1 Tryz.underlying34 hi hz0 hz1 _ _ _ _ n rfl rfl rfl rfl hbyt hmax (Nat.le_refl _) ?_)
  intro w3 hown hgrow
  have hb3 : Below w.heap.size w w3 := hbA.trans ((below_grown hgrow (fun k h => by cases h)).mono hbA.size)
  rw [made_ints2] at hown
  have hrow0 := IntRow.of_owns hown
  have hgb := hbA.size
  clear hown hgrow hbA
  generalize w2.heap.size = g at *
  go_wp2_with fail
  try rw [hc2]
  clear hc1 hc2
  go_loopw [27] (fun t W => Below w.heap.size w W ∧ ∃ j : Nat, j ≤ n ∧ t = .int .i64 j ∧ ∃ xs : List Int, xs.length = n ∧ xs.take j = (Lh.rowL s n).take j ∧ IntRow W g xs) (fun t _ => n - (intOf t).toNat)
  case atStart => exact ⟨hb3, 0, Nat.zero_le _, rfl, _, by simp, by simp, hrow0⟩
  case round =>
    obtain ⟨hb, j, hj, rfl, xs, hlen, htake, hrow⟩ := hrel
    have HT : Hid (xs.take j = (Lh.rowL s n).take j) := htake
    have HLEN : Hid (xs.length = n) := hlen
    have HR : Hid (IntRow wr g xs) := hrow
    have HR0 : Hid (IntRow w3 g (List.replicate n 0)) := hrow0
    clear htake
    by_cases hlt : j < n
    · obtain ⟨hj0, hj1, hj2⟩ := HROW.out j hlt
      rw [show (k : Int) + 1 = 1 + (k : Int) from Int.add_comm _ _] at hj0 hj1 hj2
      obtain ⟨x0, c0⟩ : ∃ x, wr.cell? ⟨g, j, none⟩ = some (.int .i64 x) := ⟨_, hrow.cell (k := j) (by omega)⟩
      have f0 := hrow.frozen j
      have hd : decide ((j : Int) < (n : Int)) = true := by simp; omega
      clear hrow hlen hrow0
      go_wp2_with fail
      go_roundw
      case rel =>
        refine ⟨hb.setCell hgb _, j + 1, by omega, by go_num, xs.set j (Lh.rowN s n j : Nat), by simp [HLEN.out], ?_, HR.out.set _ _⟩
        rw [take_set_snoc (by rw [HLEN.out]; exact hlt), HT.out, rowL_snoc s n j hlt]
      case measure => simp [intOf]; omega
    · have hd : decide ((j : Int) < (n : Int)) = false := by simp; omega
      have hfin : IntRow wr g (Lh.rowL s n) := by
        have h1 := HT.out
        rw [List.take_of_length_le (by rw [HLEN.out]; omega), List.take_of_length_le (by rw [Lh.rowL_length]; omega)] at h1
        rw [← h1]
        exact hrow
      have HF : Hid (IntRow wr g (Lh.rowL s n)) := hfin
      clear hfin hrow hrow0 hlen
      go_wp2
      go_ret
      exact ⟨g, rfl, hgb, HF.out, hb⟩
end Go.Proofs.YtfhmfjcpggddkaaGreatDoor

/- The landed take: the first free slot of the row. -/
namespace Go.Proofs.YtfhmfjcpggddkaaGreatDoor
open Go.RowKit

/-- Only two blocks have turned. -/
structure Two (x y : Nat) (w w' : World) : Prop where
  os : w'.os = w.os
  tape : w'.tape = w.tape
  output : w'.output = w.output
  size : w'.heap.size = w.heap.size
  block : ∀ k, k ≠ x → k ≠ y → w'.heap[k]? = w.heap[k]?
theorem Two.refl (x y : Nat) (w : World) : Two x y w w := ⟨rfl, rfl, rfl, rfl, fun _ _ _ => rfl⟩
theorem Two.drewN {x y : Nat} {w w' : World} (h : Two x y w w') (n : Nat) : Two x y w (w'.drewN n) := ⟨h.os, h.tape, h.output, h.size, h.block⟩
theorem Two.drew {x y : Nat} {w w' : World} (h : Two x y w w') : Two x y w w'.drew := ⟨h.os, h.tape, h.output, h.size, h.block⟩
theorem Two.setX {x y : Nat} {w w' : World} (h : Two x y w w') (k : Nat) (v : Value) : Two x y w (w'.setCell ⟨x, k, none⟩ v) :=
  ⟨h.os, h.tape, h.output, by simpa [World.setCell] using h.size, fun i h1 h2 => (heap_setCell_other w' ⟨x, k, none⟩ i v h1).trans (h.block i h1 h2)⟩
theorem Two.setY {x y : Nat} {w w' : World} (h : Two x y w w') (k : Nat) (v : Value) : Two x y w (w'.setCell ⟨y, k, none⟩ v) :=
  ⟨h.os, h.tape, h.output, by simpa [World.setCell] using h.size, fun i h1 h2 => (heap_setCell_other w' ⟨y, k, none⟩ i v h2).trans (h.block i h1 h2)⟩
theorem Two.below {x y B : Nat} {w0 w w' : World} (h : Two x y w w') (hb : Below B w0 w) (hx : B ≤ x) (hy : B ≤ y) : Below B w0 w' :=
  hb.trans ⟨h.os, h.tape, h.output, by rw [h.size]; exact Nat.le_refl _, fun k hk => h.block k (by omega) (by omega)⟩

/-- Block rb is a row: its host's number, its slots, the next place. -/
def RowBlk (w : World) (rb : Nat) (h : Int) (sb n : Nat) (p : Nat) : Prop := w.heap[rb]? = some (.cells #[.int .i64 h, .slice (some ⟨sb, 0, none⟩) n n, .int .i64 (p : Nat)] 256 (0, 0))
section
variable {w w' : World} {rb : Nat} {h : Int} {sb n p : Nat}
theorem RowBlk.c0 (hr : RowBlk w rb h sb n p) : w.cell? ⟨rb, 0, none⟩ = some (.int .i64 h) := by rw [cell_of_row w rb 0 _ _ _ hr]; rfl
theorem RowBlk.c1 (hr : RowBlk w rb h sb n p) : w.cell? ⟨rb, 1, none⟩ = some (.slice (some ⟨sb, 0, none⟩) n n) := by rw [cell_of_row w rb 1 _ _ _ hr]; rfl
theorem RowBlk.c2 (hr : RowBlk w rb h sb n p) : w.cell? ⟨rb, 2, none⟩ = some (.int .i64 (p : Nat)) := by rw [cell_of_row w rb 2 _ _ _ hr]; rfl
theorem RowBlk.frozen (hr : RowBlk w rb h sb n p) (k : Nat) : w.frozen? ⟨rb, k, none⟩ = false := frozen_of_row w rb k _ _ hr
theorem RowBlk.same (hr : RowBlk w rb h sb n p) (he : w'.heap[rb]? = w.heap[rb]?) : RowBlk w' rb h sb n p := by
  unfold RowBlk
  rw [he]
  exact hr
theorem RowBlk.step (hr : RowBlk w rb h sb n p) (q : Nat) : RowBlk (w.setCell ⟨rb, 2, none⟩ (.int .i64 (q : Nat))) rb h sb n q := by
  have := heap_setCell_same w rb 2 _ _ (.int .i64 (q : Nat)) hr
  unfold RowBlk
  rw [this]
  rfl
end
def nextOf (W : World) (rb : Nat) : Nat := (((W.cell? ⟨rb, 2, none⟩).map intOf).getD 0).toNat
theorem RowBlk.nextOf {w : World} {rb : Nat} {h : Int} {sb n p : Nat} (hr : RowBlk w rb h sb n p) : nextOf w rb = p := by
  unfold Go.Proofs.YtfhmfjcpggddkaaGreatDoor.nextOf
  rw [hr.c2]
  simp [intOf]

theorem getD_at {out : List Int} {x : Nat} (h : x < out.length) : out.getD x 0 = out[x] := Lh.getD_lt h
set_option maxRecDepth 100000 in
set_option maxHeartbeats 2000000 in
theorem take_core (rb sb sl n p0 p : Nat) (h : Int) (r : Nat → Nat) (out : List Int) (w : World) (hr : RowBlk w rb h sb n p0) (hs : IntRow w sb ((List.range n).map fun j => ((r j : Nat) : Int))) (ho : IntRow w sl out) (hlen : out.length = n)
    (h1 : rb ≠ sl) (h2 : rb ≠ sb) (h3 : sb ≠ sl) (hrn : ∀ j, j < n → r j < n) (hn : n ≤ 503) (hp : p < n) (hpp : p0 ≤ p) (hb : ∀ i, p0 ≤ i → i < p → out.getD (r i) 0 ≠ -1) (hf : out.getD (r p) 0 = -1) :
    Calls Tryz.prog 135 #[.pointer (some ⟨rb, 0, none⟩), .slice (some ⟨sl, 0, none⟩) n n] w fun e w' => e = .returned (.tuple #[]) ∧ RowBlk w' rb h sb n p ∧ IntRow w' sl (out.set (r p) h) ∧ Two rb sl w w' := by
  have HS : Hid (∀ W, Two rb sl w W → ∀ j, j < n → W.cell? ⟨sb, j, none⟩ = some (.int .i64 (r j : Nat))) := fun W hW j hj => by
    have hs' := hs.same (hW.block sb (fun e => h2 e.symm) h3)
    have := hs'.cell (k := j) (by simpa using hj)
    simpa using this
  have HB : Hid (∀ i, p0 ≤ i → i < p → out.getD (r i) 0 ≠ -1) := hb
  have HF : Hid (out.getD (r p) 0 = -1) := hf
  have HLEN : Hid (out.length = n) := hlen
  have HLT : Hid (∀ j, j < n → r j < n) := hrn
  have H1 : Hid (rb ≠ sl) := h1
  clear hs hb hf hlen hrn h1 h2 h3
  go_enter Tryz.func135, Tryz.ntmps135
  go_wp2_with fail
  go_loopw [] (fun W => Two rb sl w W ∧ IntRow W sl out ∧ ∃ q : Nat, p0 ≤ q ∧ q ≤ p ∧ RowBlk W rb h sb n q) (fun W => n - nextOf W rb)
  case atStart => exact ⟨Two.refl _ _ _, ho, p0, Nat.le_refl _, hpp, hr⟩
  case round =>
    obtain ⟨h2w, ho', q, hq0, hqp, hrq⟩ := hrel
    have HO : Hid (IntRow wr sl out) := ho'
    have HRQ : Hid (RowBlk wr rb h sb n q) := hrq
    have H2W : Hid (Two rb sl w wr) := h2w
    have c1 := hrq.c1
    have c2 := hrq.c2
    have f2 := hrq.frozen 2
    have c0 := hrq.c0
    have cs := HS.out _ h2w q (by omega)
    have hxn := HLT.out q (by omega)
    have co : wr.cell? ⟨sl, r q, none⟩ = some (.int .i64 (out.getD (r q) 0)) := by
      rw [ho'.cell (by rw [HLEN.out]; exact hxn), getD_at (by rw [HLEN.out]; exact hxn)]
    have fo := ho'.frozen (r q)
    clear ho' hrq hr ho h2w
    have hqi : (q : Int) < (n : Int) := by omega
    have hxi : (r q : Int) < (n : Int) := by omega
    by_cases hqq : q < p
    · have hne := HB.out q hq0 hqq
      have hbb : (out.getD (r q) 0 != -1) = true := by simpa using hne
      clear hne
      generalize out.getD (r q) 0 = val at *
      generalize r q = x at *
      go_wp2_with fail
      go_quiet (fail)
      go_wp2_with fail
      have hcast : (q : Int) + 1 = ((q + 1 : Nat) : Int) := rfl
      have hd1 : RowBlk (wr.drewN nq) rb h sb n q := HRQ.out
      have hd2 : IntRow (wr.drewN nq) sl out := HO.out
      rw [hcast]
      have hstep := hd1.step (q + 1)
      refine ⟨⟨(H2W.out.drewN nq).setX 2 _, hd2.same (heap_setCell_other _ _ _ _ (fun e => H1.out e.symm)), q + 1, by omega, by omega, hstep⟩, ?_⟩
      rw [hstep.nextOf, HRQ.out.nextOf]
      omega
    · have hqe : q = p := by omega
      subst hqe
      have hbb : (out.getD (r q) 0 != -1) = false := by rw [HF.out]; rfl
      generalize out.getD (r q) 0 = val at *
      have HX : Hid (r q < n) := hxn
      generalize hrx : r q = x at *
      have HRX : Hid (r q = x) := hrx
      clear hrx
      go_wp2_with fail
      go_quiet (fail)
      go_wp2_with fail
      have e0 : (wr.drewN nq).cell? ⟨rb, 0, none⟩ = some (.int .i64 h) := c0
      have e1 : (wr.drewN nq).cell? ⟨rb, 1, none⟩ = some (.slice (some ⟨sb, 0, none⟩) n n) := c1
      have e2 : (wr.drewN nq).cell? ⟨rb, 2, none⟩ = some (.int .i64 (q : Nat)) := c2
      have es : (wr.drewN nq).cell? ⟨sb, q, none⟩ = some (.int .i64 (x : Nat)) := cs
      have eo : (wr.drewN nq).cell? ⟨sl, x, none⟩ = some (.int .i64 val) := co
      have ef : (wr.drewN nq).frozen? ⟨sl, x, none⟩ = false := fo
      have ER : Hid (RowBlk (wr.drewN nq) rb h sb n q) := HRQ.out
      have EO : Hid (IntRow (wr.drewN nq) sl out) := HO.out
      have E2 : Hid (Two rb sl w (wr.drewN nq)) := H2W.out.drewN nq
      clear c0 c1 c2 cs co fo f2 HRQ HO H2W
      generalize wr.drewN nq = W1 at *
      go_region
      all_goals
        go_wp2
        refine bodyPost_end (v := .tuple #[]) (by simp [results, Tryz.results135, go_sem]) rfl ⟨rfl, ?_, ?_, ?_⟩
        · exact ER.out.same (heap_setCell_other W1 ⟨sl, x, none⟩ rb (.int .i64 h) H1.out)
        · rw [HRX.out]
          exact EO.out.set x h
        · exact (E2.out.setY x (.int .i64 h)).drew
theorem take_any (rb sb sl n p0 p : Nat) (h : Int) (s : ByteArray) (out : List Int) (w : World) (hr : RowBlk w rb h sb n p0) (hs : IntRow w sb (Lh.rowL s n)) (ho : IntRow w sl out) (hlen : out.length = n)
    (h1 : rb ≠ sl) (h2 : rb ≠ sb) (h3 : sb ≠ sl) (hn2 : 2 ≤ n) (hn : n ≤ 503) (hp : p < n) (hpp : p0 ≤ p) (hb : ∀ i, p0 ≤ i → i < p → out.getD (Lh.rowN s n i) 0 ≠ -1) (hf : out.getD (Lh.rowN s n p) 0 = -1) :
    Calls Tryz.prog 135 #[.pointer (some ⟨rb, 0, none⟩), .slice (some ⟨sl, 0, none⟩) n n] w fun e w' => e = .returned (.tuple #[]) ∧ RowBlk w' rb h sb n p ∧ IntRow w' sl (out.set (Lh.rowN s n p) h) ∧ Two rb sl w w' :=
  take_core rb sb sl n p0 p h (Lh.rowN s n) out w hr hs ho hlen h1 h2 h3 (fun _ _ => Lh.rowAt_lt hn2) hn hp hpp hb hf
end Go.Proofs.YtfhmfjcpggddkaaGreatDoor
