/- MixNumbers: the walk. -/
import Derived.Test.YtmdckddenelneaaGreatDoorM13
import Derived.Deep.RegionWith
import Derived.Test.YtmdckddenelneaaGreatDoorM2
import Derived.Test.YtmdckddenelneaaGreatDoorM0
import Derived.Laws.Rows
import Derived.Maps.OwnOps
import Derived.Maps.OwnSet
import Derived.Test.YtmdckddenelneaaGreatDoorM10
import Derived.Test.YtmdckddenelneaaGreatDoorM4
namespace Go.Proofs.YtmdckddenelneaaGreatDoor
open Go.RowKit

theorem sortedOf_zero (p : Option Addr) (cap : Nat) (w : World) :
    Calls Tryz.prog 33 #[.slice p 0 cap] w fun e w' => e = .returned (.slice none 0 0) ∧ w' = w := by
  go_enter Tryz.func33, Tryz.ntmps33
  go_wp2
  refine wp_loop_rounds 1 ?_
  rw [rounds_succ]
  go_wp2
  go_ret
  exact ⟨rfl, rfl⟩
theorem sortedOf_any (v : Value) (xs : List ByteArray) (w : World) (hv : Strs1 w v xs) (hm : xs.length < 1000000) :
    Calls Tryz.prog 33 #[v] w fun e w' => ∃ v', e = .returned v' ∧ Strs1 w' v' (Lh.sortT xs) ∧ Below w.heap.size w w' := by
  rcases hv with ⟨rfl, rfl | ⟨ad, c, rfl⟩⟩ | ⟨b, o, c, rfl, hcap, hx⟩
  · exact (sortedOf_zero _ _ w).mono fun e w' ⟨h1, h2⟩ => ⟨_, h1, Or.inl ⟨by rw [← Lh.sort_unique (xs := []) (ys := []) List.Pairwise.nil List.Perm.nil], Or.inl rfl⟩, by rw [h2]; exact Below.refl _ _⟩
  · exact (sortedOf_zero _ _ w).mono fun e w' ⟨h1, h2⟩ => ⟨_, h1, Or.inl ⟨by rw [← Lh.sort_unique (xs := []) (ys := []) List.Pairwise.nil List.Perm.nil], Or.inl rfl⟩, by rw [h2]; exact Below.refl _ _⟩
  · exact sortedOf_core b o c xs w hx hm

end Go.Proofs.YtmdckddenelneaaGreatDoor

/- A block of the call's own that is a row of numbers. -/
namespace Go.Proofs.YtmdckddenelneaaGreatDoor
open Go.RowKit

/-- Block g of w is a row of numbers, whole. -/
def IntRow (w : World) (g : Nat) (xs : List Int) : Prop := w.heap[g]? = some (.cells (xs.map (Value.int .i64)).toArray 3 (0, 0))
section
variable {w w' : World} {g : Nat} {xs : List Int}
theorem IntRow.cell (h : IntRow w g xs) {k : Nat} (hk : k < xs.length) : w.cell? ⟨g, k, none⟩ = some (.int .i64 xs[k]) := by
  rw [cell_of_row w g k _ _ _ h]
  simp [hk]
theorem IntRow.frozen (h : IntRow w g xs) (k : Nat) : w.frozen? ⟨g, k, none⟩ = false := frozen_of_row w g k _ _ h
theorem IntRow.set (h : IntRow w g xs) (k : Nat) (v : Int) : IntRow (w.setCell ⟨g, k, none⟩ (.int .i64 v)) g (xs.set k v) := by
  have := heap_setCell_same w g k _ _ (.int .i64 v) h
  unfold IntRow
  rw [this]
  simp [List.map_set]
theorem IntRow.same (h : IntRow w g xs) (he : w'.heap[g]? = w.heap[g]?) : IntRow w' g xs := by
  unfold IntRow
  rw [he]
  exact h
theorem IntRow.lt (h : IntRow w g xs) : g < w.heap.size := (Array.getElem?_eq_some_iff.1 h).1
theorem IntRow.later (h : IntRow w g xs) (hb : Below w.heap.size w w') : IntRow w' g xs := h.same (hb.block g h.lt)
theorem IntRow.ints (h : IntRow w g xs) (c : Nat) : Ints w (.slice (some ⟨g, 0, none⟩) xs.length c) xs :=
  Or.inr ⟨g, 0, c, rfl, fun k hk => by rw [Nat.zero_add]; exact h.cell hk⟩
theorem IntRow.of_owns {base n : Nat} (h : w.ownsRow base 3 1 (.slice (some ⟨g, 0, none⟩) n n) n (xs.map (Value.int .i64))) : IntRow w g xs := by
  rcases h.2 with ⟨h', _⟩ | ⟨g', cap', cur, h', _, hg, _, _, hcs, ht⟩
  · simp at h'
  · simp only [Value.slice.injEq, Option.some.injEq, Addr.mk.injEq, and_true, true_and] at h'
    obtain ⟨rfl, rfl⟩ := h'
    unfold IntRow
    rw [hg, ← ht, List.take_of_length_le (by simp; omega)]
end
theorem infoI : (Tryz.prog.info? 3).map (fun i => (i.zero, i.size, i.bytes)) = some (some (.int .i64 0), 1, 8) := by kernel_rfl
theorem ints_oneCell1 (x : Int) : ∀ u ∈ [Value.int .i64 x], u.oneCell' = true := by
  intro u hu
  simp at hu
  subst hu
  rfl
theorem made_ints2 (n : Nat) : (madeCells #[Value.int .i64 0] n).toList = (List.replicate n (0 : Int)).map (Value.int .i64) := by
  rw [toList_madeCells_one]
  simp
end Go.Proofs.YtmdckddenelneaaGreatDoor

/- Blocks of the call's own: a map from names to blocks. -/
namespace Go.Proofs.YtmdckddenelneaaGreatDoor
open Go.RowKit Go.Maps Go.ChangeMaps

/-- A pointer to the head of a block reads as the block's number. -/
def ptrElem (v : Value) : Option (DataW Unit × List MemPlace) :=
  match v with
  | .pointer (some ⟨b, 0, none⟩) => some (.lit (.int .i64 (b : Nat)), [])
  | .pointer none => some (.nil, [])
  | _ => none
theorem ptrElem_inv {v : Value} {r : Nat} {ps : List MemPlace} (h : ptrElem v = some (.lit (.int .i64 (r : Nat)), ps)) : v = .pointer (some ⟨r, 0, none⟩) := by
  unfold ptrElem at h
  split at h
  · simp only [Option.some.injEq, Prod.mk.injEq, DataW.lit.injEq, Lit.int.injEq, true_and] at h
    have : _ = r := Int.ofNat.inj h.1
    subst this
    rfl
  · simp at h
  · cases h
theorem ptrElem_mk (b : Nat) : ptrElem (.pointer (some ⟨b, 0, none⟩)) = some (.lit (.int .i64 (b : Nat)), []) := rfl

/-- 'm[k]' on such a map, at a key that is there. -/
theorem wpList_lookup_ptr {P : Program} (w : World) {ops : Array Oper} {rest : List Oper} {o : Oper} {a : Act} {Q : Exit → Act → World → Prop}
    (hg : o.guard = none) (m x : Operand) (t : TypeId) (hop : o.op = Op.lookup t m x false)
    (k e : TypeId) (K : Keyed P k) (ht : P.underlying t = some (.map k e)) (hz : (zeroValue e).run P w = .ok (.pointer none) w) (b n : Nat) (D : DataW Unit)
    (hm : a.eval m = .map (some b)) (hown : w.ownsMap P k ptrElem b n D) (key : Value) (kl : Lit) (hx : a.eval x = key) (hkey : keyOf P k key = some kl) (r : Nat) (hr : D.atKey kl .nil = .lit (.int .i64 (r : Nat)))
    (hK : wpList P ops Q rest (a.put o.dst (.pointer (some ⟨r, 0, none⟩))) w) :
    wpList P ops Q (o :: rest) a w := by
  refine wpList_plain hg fun K' hK' => ?_
  obtain ⟨v, ps, hrun, hv⟩ := hown.lookup K ht hz (zd := .nil) (zp := []) rfl hkey
  rw [hr] at hv
  obtain rfl := ptrElem_inv hv
  unfold Oper.wp
  simp [execOp, hop, hm, hx, hrun, Result.andThen]
  exact hK' _ _ hK
theorem ownsMap_same {P : Program} {k : TypeId} {R : Value → Option (DataW Unit × List MemPlace)} {w w' : World} {b n : Nat} {D : DataW Unit} (h : w.ownsMap P k R b n D) (he : w'.heap[b]? = w.heap[b]?) : w'.ownsMap P k R b n D := by
  obtain ⟨es, clock, hb, r⟩ := h
  exact ⟨es, clock, he.trans hb, r⟩
end Go.Proofs.YtmdckddenelneaaGreatDoor

/- Tables by names: which host has which slot. -/
namespace Go.Proofs.YtmdckddenelneaaGreatDoor
open Go.RowKit

namespace Lh
theorem sortT_perm (xs : List ByteArray) : (sortT xs).Perm xs := by
  unfold sortT
  have h := (List.mergeSort_perm (xs.map fun s => s.data.toList) (fun x y => decide (x ≤ y))).map (fun l : List UInt8 => (⟨l.toArray⟩ : ByteArray))
  rw [List.map_map] at h
  have e : ((fun l : List UInt8 => (⟨l.toArray⟩ : ByteArray)) ∘ fun s : ByteArray => s.data.toList) = id := rfl
  rw [e, List.map_id] at h
  exact h
/-- where a text stands first -/
def ix (xs : List ByteArray) (s : ByteArray) : Nat := xs.findIdx fun x => decide (x = s)
theorem ix_lt {xs : List ByteArray} {s : ByteArray} (h : s ∈ xs) : ix xs s < xs.length := List.findIdx_lt_length.2 ⟨s, h, by simp⟩
theorem ix_at {xs : List ByteArray} {s : ByteArray} (h : s ∈ xs) : xs[ix xs s]'(ix_lt h) = s := by
  exact of_decide_eq_true (List.findIdx_getElem (p := fun x => decide (x = s)) (xs := xs) (w := ix_lt h))
theorem nodup_inj {xs : List ByteArray} (hn : xs.Nodup) {i j : Nat} (hi : i < xs.length) (hj : j < xs.length) (h : xs[i] = xs[j]) : i = j := by
  have hp := List.pairwise_iff_getElem.1 hn
  rcases Nat.lt_trichotomy i j with hlt | e | hgt
  · exact absurd h (hp i j hi hj hlt)
  · exact e
  · exact absurd h.symm (hp j i hj hi hgt)
theorem ix_first {xs : List ByteArray} {s : ByteArray} {k : Nat} (hk : k < xs.length) (he : xs[k] = s) (hb : ∀ j (h : j < xs.length), j < k → xs[j] ≠ s) : ix xs s = k := by
  have hm : s ∈ xs := he ▸ List.getElem_mem hk
  rcases Nat.lt_trichotomy (ix xs s) k with h | h | h
  · exact absurd (ix_at hm) (hb _ (ix_lt hm) h)
  · exact h
  · have := List.not_of_lt_findIdx (p := fun x => decide (x = s)) h
    simp [he] at this

def nameAt (ys : List ByteArray) (k : Nat) : ByteArray := ys.getD k ByteArray.empty
theorem nameAt_lt {ys : List ByteArray} {k : Nat} (h : k < ys.length) : nameAt ys k = ys[k] := by
  unfold nameAt; rw [List.getD_eq_getElem?_getD, List.getElem?_eq_getElem h]; rfl
theorem nameAt_mem {xs : List ByteArray} {k : Nat} (h : k < xs.length) : nameAt (sortT xs) k ∈ xs := by
  have h' : k < (sortT xs).length := by rw [sortT_length]; exact h
  rw [nameAt_lt h']
  exact (sortT_perm xs).mem_iff.1 (List.getElem_mem h')
def rowN (s : ByteArray) (n j : Nat) : Nat := rowAt (num s 1) (num s 2) n j
def rowL (s : ByteArray) (n : Nat) : List Int := (List.range n).map fun j => ((rowN s n j : Nat) : Int)
theorem rowL_length (s : ByteArray) (n : Nat) : (rowL s n).length = n := by simp [rowL]
theorem rowL_get (s : ByteArray) (n : Nat) {j : Nat} (h : j < (rowL s n).length) : (rowL s n)[j] = ((rowN s n j : Nat) : Int) := by simp [rowL]
def rowsN (ys : List ByteArray) (n k j : Nat) : Nat := rowN (nameAt ys k) n j
def valsN (xs ys : List ByteArray) (k : Nat) : Int := (ix xs (nameAt ys k) : Nat)
/-- after so many turns -/
def tab (xs : List ByteArray) (n t : Nat) : List Int := fill n xs.length (rowsN (sortT xs) n) (valsN xs (sortT xs)) t
theorem tab_length (xs : List ByteArray) (n t : Nat) : (tab xs n t).length = n := fill_length _ _ _ _ _
theorem tab_ok {xs : List ByteArray} {n : Nat} (hp : Prm n) (h0 : 0 < xs.length) : RowsOk n xs.length (rowsN (sortT xs) n) (valsN xs (sortT xs)) :=
  ⟨h0, fun _ _ _ _ => rowAt_lt hp.1, fun _ _ _ _ hi hj h => rowAt_inj hp hi hj h, fun _ _ => by unfold valsN; omega⟩
/-- one more turn, as a walk makes it: p is the first free place of the row -/
theorem tab_step {xs : List ByteArray} {n t p : Nat} (hp : p < n) (hf : (tab xs n t).getD (rowsN (sortT xs) n (t % xs.length) p) 0 < 0) (hb : ∀ i, i < p → 0 ≤ (tab xs n t).getD (rowsN (sortT xs) n (t % xs.length) i) 0) :
    tab xs n (t + 1) = (tab xs n t).set (rowsN (sortT xs) n (t % xs.length) p) (valsN xs (sortT xs) (t % xs.length)) := by
  show step1 _ _ _ _ t (tab xs n t) = _
  unfold step1
  rw [pick_unique hp hf hb]
theorem tab_keeps {xs : List ByteArray} {n : Nat} (hp : Prm n) (h0 : 0 < xs.length) {t : Nat} {x : Nat} (hx : 0 ≤ (tab xs n t).getD x 0) : 0 ≤ (tab xs n (t + 1)).getD x 0 := by
  have hr := tab_ok (xs := xs) hp h0
  have hk : t % xs.length < xs.length := Nat.mod_lt _ h0
  show 0 ≤ (step1 _ _ _ _ t (tab xs n t)).getD x 0
  unfold step1
  rw [List.getD_eq_getElem?_getD] at hx ⊢
  rw [List.getElem?_set]
  split
  · split
    · simp [hr.val _ hk]
    · simp
  · exact hx
theorem tab_free {xs : List ByteArray} {n : Nat} (hp : Prm n) (h0 : 0 < xs.length) {t : Nat} (ht : t < n) {k : Nat} (hk : k < xs.length) : ∃ j, j < n ∧ (tab xs n t).getD (rowsN (sortT xs) n k j) 0 < 0 := fill_pick (tab_ok hp h0) ht hk
/-- each slot's host -/
theorem tab_full {xs : List ByteArray} {n : Nat} (hp : Prm n) (h0 : 0 < xs.length) {x : Nat} (hx : x < n) : ∃ i, ∃ _ : i < xs.length, (tab xs n n).getD x 0 = (i : Nat) := by
  obtain ⟨k, hk, _, e⟩ := fill_full (tab_ok hp h0) hx
  exact ⟨_, ix_lt (nameAt_mem hk), e⟩
end Lh
end Go.Proofs.YtmdckddenelneaaGreatDoor

/- Sizes: what is a prime, by trial up to the root and up to the number. -/
namespace Go.Proofs.YtmdckddenelneaaGreatDoor
namespace Lh
theorem prm_of_roots {n : Nat} (h2 : 2 ≤ n) (h : ∀ d, 2 ≤ d → d * d ≤ n → n % d ≠ 0) : Prm n := by
  refine ⟨h2, fun k hk hkn hz => ?_⟩
  obtain ⟨q, hq⟩ := Nat.dvd_of_mod_eq_zero hz
  have hq2 : 2 ≤ q := by
    rcases Nat.lt_or_ge q 2 with hlt | hge
    · have : q = 0 ∨ q = 1 := by omega
      rcases this with rfl | rfl
      · omega
      · omega
    · exact hge
  rcases Nat.le_total k q with hle | hle
  · exact h k hk (by rw [hq]; exact Nat.mul_le_mul_left _ hle) hz
  · exact h q hq2 (by rw [hq]; exact Nat.mul_le_mul_right _ hle) (by rw [hq, Nat.mul_mod_left])
theorem root_lt {n d : Nat} (h2 : 2 ≤ d) (hd : d * d ≤ n) : d < n := by
  have : d * 2 ≤ d * d := Nat.mul_le_mul_left _ h2
  omega
theorem root_small {n d : Nat} (hn : n ≤ 503) (hd : d * d ≤ n) : d ≤ 22 := by
  rcases Nat.lt_or_ge 22 d with h | h
  · have : 23 * 23 ≤ d * d := Nat.mul_le_mul (by omega) (by omega)
    omega
  · exact h
theorem sq_le {d : Nat} (h : d ≤ 23) : d * d ≤ 529 := Nat.mul_le_mul h h
/-- what is wrong with a size: the error's number (0: nothing) -/
def SizeIs (n : Int) (e : Nat) : Prop := ((n < 2 ∨ 503 < n) ∧ e = 2) ∨ ∃ m : Nat, n = m ∧ 2 ≤ m ∧ m ≤ 503 ∧ ((¬ Prm m ∧ e = 3) ∨ (Prm m ∧ e = 0))
open Classical in
theorem sizeIs_ex (n : Int) : ∃ e, SizeIs n e := by
  by_cases h : n < 2 ∨ 503 < n
  · exact ⟨2, Or.inl ⟨h, rfl⟩⟩
  · obtain ⟨m, hm⟩ := Int.eq_ofNat_of_zero_le (show 0 ≤ n by omega)
    by_cases hp : Prm m
    · exact ⟨0, Or.inr ⟨m, hm, by omega, by omega, Or.inr ⟨hp, rfl⟩⟩⟩
    · exact ⟨3, Or.inr ⟨m, hm, by omega, by omega, Or.inl ⟨hp, rfl⟩⟩⟩
end Lh
end Go.Proofs.YtmdckddenelneaaGreatDoor

/- Sizes of tables: the reference's SizeError, the landed checkSize. -/
namespace Go.Proofs.YtmdckddenelneaaGreatDoor
open Go.RowKit

set_option maxHeartbeats 1000000 in
theorem sizeError_out (n : Int) (w : World) (h : n < 2 ∨ 503 < n) (hn : -9223372036854775808 ≤ n ∧ n ≤ 9223372036854775807) :
    Calls Tryz.prog 31 #[.int .i64 n] w fun r w' => r = .returned (.int .i64 2) ∧ w' = w := by
  by_cases h2 : n < 2
  · have d1 : decide (n < 2) = true := by simp; omega
    go_enter Tryz.func31, Tryz.ntmps31
    go_wp2
    go_ret
    exact ⟨rfl, rfl⟩
  · have d1 : decide (n < 2) = false := by simp; omega
    have d2 : decide (503 < n) = true := by simp; omega
    go_enter Tryz.func31, Tryz.ntmps31
    go_wp2
    go_ret
    exact ⟨rfl, rfl⟩

set_option maxHeartbeats 1000000 in
theorem sizeError_in (m e : Nat) (w : World) (h2 : 2 ≤ m) (h5 : m ≤ 503) (h : (¬ Lh.Prm m ∧ e = 3) ∨ (Lh.Prm m ∧ e = 0)) :
    Calls Tryz.prog 31 #[.int .i64 m] w fun r w' => r = .returned (.int .i64 e) ∧ w' = w := by
  have d1 : decide ((m : Int) < 2) = false := by simp; omega
  have d2 : decide (503 < (m : Int)) = false := by simp; omega
  have HH : Hid ((¬ Lh.Prm m ∧ e = 3) ∨ (Lh.Prm m ∧ e = 0)) := h
  clear h
  go_enter Tryz.func31, Tryz.ntmps31
  go_wp2
  go_loop [3] (fun t => ∃ k : Nat, 2 ≤ k ∧ k ≤ m ∧ t = .int .i64 k ∧ ∀ j, 2 ≤ j → j < k → m % j ≠ 0) (fun t => m - (intOf t).toNat)
  case atStart => exact ⟨2, Nat.le_refl _, h2, rfl, fun j h h' => absurd h (by omega)⟩
  case round =>
    obtain ⟨k, hk2, hkm, rfl, hpre⟩ := hrel
    have HP : Hid (∀ j, 2 ≤ j → j < k → m % j ≠ 0) := hpre
    clear hpre
    by_cases hlt : k < m
    · have hd : decide ((k : Int) < (m : Int)) = true := by simp; omega
      have hk0 : ((k : Int) == 0) = false := by simp; omega
      by_cases hz : m % k = 0
      · have hzz : ((m : Int) % (k : Int) == 0) = true := by rw [← Int.natCast_emod, hz]; rfl
        have HZ : Hid (m % k = 0) := hz
        clear hz
        go_wp2
        go_ret
        refine ⟨?_, rfl⟩
        rcases HH.out with ⟨_, e3⟩ | ⟨hp, _⟩
        · rw [e3]; rfl
        · exact absurd HZ.out (hp.2 k hk2 hlt)
      · have hzz : ((m : Int) % (k : Int) == 0) = false := by rw [← Int.natCast_emod, beq_eq_false_iff_ne]; omega
        have HZ : Hid (m % k ≠ 0) := hz
        clear hz
        go_wp2
        go_round
        case rel =>
          refine ⟨k + 1, by omega, by omega, by go_num, fun j h hj => ?_⟩
          by_cases e : j = k
          · subst e; exact HZ.out
          · exact HP.out j h (by omega)
        case measure => simp [intOf]; omega
    · have hd : decide ((k : Int) < (m : Int)) = false := by simp; omega
      go_wp2
      go_ret
      refine ⟨?_, rfl⟩
      have hp : Lh.Prm m := ⟨h2, fun j h hj => HP.out j h (by omega)⟩
      rcases HH.out with ⟨hn, _⟩ | ⟨_, e0⟩
      · exact absurd hp hn
      · rw [e0]; rfl

/-- SizeError of any number. -/
theorem sizeError_any (n : Int) (e : Nat) (w : World) (hn : -9223372036854775808 ≤ n ∧ n ≤ 9223372036854775807) (h : Lh.SizeIs n e) :
    Calls Tryz.prog 31 #[.int .i64 n] w fun r w' => r = .returned (.int .i64 e) ∧ w' = w := by
  rcases h with ⟨h, rfl⟩ | ⟨m, rfl, h2, h5, h⟩
  · exact sizeError_out n w h hn
  · exact sizeError_in m e w h2 h5 h

set_option maxHeartbeats 1000000 in
theorem checkSize_out (a : Nat → Addr) (n : Int) (w : World) (he : Errs a w) (h : n < 2 ∨ 503 < n) (hn : -9223372036854775808 ≤ n ∧ n ≤ 9223372036854775807) :
    Calls Tryz.prog 44 #[.int .i64 n] w fun r w' => r = .returned (.iface 331 (.pointer (some (a 1)))) ∧ w' = w := by
  have s1 := he.s1
  by_cases h2 : n < 2
  · have d1 : decide (n < 2) = true := by simp; omega
    go_enter Tryz.func44, Tryz.ntmps44
    go_wp2
    go_ret
    exact ⟨rfl, rfl⟩
  · have d1 : decide (n < 2) = false := by simp; omega
    have d2 : decide (503 < n) = true := by simp; omega
    go_enter Tryz.func44, Tryz.ntmps44
    go_wp2
    go_ret
    exact ⟨rfl, rfl⟩

theorem sq_cast (k : Nat) : (k : Int) * (k : Int) = ((k * k : Nat) : Int) := by simp

set_option maxHeartbeats 1000000 in
theorem checkSize_in (a : Nat → Addr) (m e : Nat) (w : World) (he : Errs a w) (h2 : 2 ≤ m) (h5 : m ≤ 503) (h : (¬ Lh.Prm m ∧ e = 3) ∨ (Lh.Prm m ∧ e = 0)) :
    Calls Tryz.prog 44 #[.int .i64 m] w fun r w' => ∃ ev, r = .returned ev ∧ ErrIs a w e (-1) ev ∧ w' = w := by
  have s2 := he.s2
  have d1 : decide ((m : Int) < 2) = false := by simp; omega
  have d2 : decide (503 < (m : Int)) = false := by simp; omega
  have HH : Hid ((¬ Lh.Prm m ∧ e = 3) ∨ (Lh.Prm m ∧ e = 0)) := h
  clear h
  go_enter Tryz.func44, Tryz.ntmps44
  go_wp2
  go_loop [3] (fun t => ∃ k : Nat, 2 ≤ k ∧ k ≤ 23 ∧ t = .int .i64 k ∧ ∀ j, 2 ≤ j → j < k → m % j ≠ 0) (fun t => 30 - (intOf t).toNat)
  case atStart => exact ⟨2, Nat.le_refl _, by omega, rfl, fun j h h' => absurd h (by omega)⟩
  case round =>
    obtain ⟨k, hk2, hk23, rfl, hpre⟩ := hrel
    have HP : Hid (∀ j, 2 ≤ j → j < k → m % j ≠ 0) := hpre
    clear hpre
    have hsq := Lh.sq_le hk23
    have hcast := sq_cast k
    by_cases hlt : k * k ≤ m
    · have hk22 := Lh.root_small h5 hlt
      have hkm := Lh.root_lt hk2 hlt
      generalize hqq : k * k = q at *
      have HQ : Hid (k * k = q) := hqq
      clear hqq
      have hd : decide ((q : Int) ≤ (m : Int)) = true := by simp; omega
      have hk0 : ((k : Int) == 0) = false := by simp; omega
      by_cases hz : m % k = 0
      · have hzz : ((m : Int) % (k : Int) == 0) = true := by rw [← Int.natCast_emod, hz]; rfl
        have HZ : Hid (m % k = 0) := hz
        clear hz
        go_wp2
        go_ret
        refine ⟨_, rfl, ?_, rfl⟩
        rcases HH.out with ⟨_, e3⟩ | ⟨hp, _⟩
        · exact Or.inr ⟨2, by decide, e3, Or.inl ⟨rfl, rfl⟩⟩
        · exact absurd HZ.out (hp.2 k hk2 hkm)
      · have hzz : ((m : Int) % (k : Int) == 0) = false := by rw [← Int.natCast_emod, beq_eq_false_iff_ne]; omega
        have HZ : Hid (m % k ≠ 0) := hz
        clear hz
        go_wp2
        go_round
        case rel =>
          refine ⟨k + 1, by omega, by omega, by go_num, fun j h hj => ?_⟩
          by_cases e : j = k
          · subst e; exact HZ.out
          · exact HP.out j h (by omega)
        case measure => simp [intOf]; omega
    · generalize hqq : k * k = q at *
      have HQ : Hid (k * k = q) := hqq
      clear hqq
      have hd : decide ((q : Int) ≤ (m : Int)) = false := by simp; omega
      have HL : Hid (¬ q ≤ m) := hlt
      go_wp2
      go_ret
      refine ⟨_, rfl, ?_, rfl⟩
      have hp : Lh.Prm m := Lh.prm_of_roots h2 (fun j h hj => HP.out j h (by
        rcases Nat.lt_or_ge j k with h' | h'
        · exact h'
        · have := Nat.mul_le_mul h' h'
          have := HQ.out
          have := HL.out
          omega))
      rcases HH.out with ⟨hn, _⟩ | ⟨_, e0⟩
      · exact absurd hp hn
      · exact Or.inl ⟨e0, rfl, rfl⟩

/-- checkSize of any number. -/
theorem checkSize_any (a : Nat → Addr) (n : Int) (e : Nat) (w : World) (he : Errs a w) (hn : -9223372036854775808 ≤ n ∧ n ≤ 9223372036854775807) (h : Lh.SizeIs n e) :
    Calls Tryz.prog 44 #[.int .i64 n] w fun r w' => ∃ ev, r = .returned ev ∧ ErrIs a w e (-1) ev ∧ w' = w := by
  rcases h with ⟨h, rfl⟩ | ⟨m, rfl, h2, h5, h⟩
  · exact (checkSize_out a n w he h hn).mono fun r w' ⟨h1, h2⟩ => ⟨_, h1, Or.inr ⟨1, by decide, rfl, Or.inl ⟨rfl, rfl⟩⟩, h2⟩
  · exact checkSize_in a m e w he h2 h5 h
end Go.Proofs.YtmdckddenelneaaGreatDoor

/- Rows: the reference's RowOf, the landed slotsOf. -/
namespace Go.Proofs.YtmdckddenelneaaGreatDoor
open Go.RowKit

theorem num_lt (s : ByteArray) (k : Nat) : Lh.num s k < 18446744073709551616 := Lh.turn_lt _
theorem rem_small (a n : Nat) (hn : 0 < n) : a % n < n := Nat.mod_lt _ hn
theorem rowL_snoc (s : ByteArray) (n j : Nat) (h : j < n) : (Lh.rowL s n).take j ++ [((Lh.rowN s n j : Nat) : Int)] = (Lh.rowL s n).take (j + 1) := by
  rw [List.take_succ_eq_append_getElem (by rw [Lh.rowL_length]; exact h), Lh.rowL_get]
/-- offset and skip, as the program reckons them -/
theorem row_parts (s : ByteArray) (n : Nat) (h2 : 2 ≤ n) (h5 : n ≤ 503) : ∃ o k : Nat, o < n ∧ k + 1 < n ∧ (Lh.num s 1 : Int) % (n : Int) = (o : Int) ∧ (Lh.num s 2 : Int) % ((n : Int) - 1) = (k : Int) ∧
    ∀ j : Nat, j < n → 0 ≤ (j : Int) * ((k : Int) + 1) ∧ (j : Int) * ((k : Int) + 1) ≤ 300000 ∧ ((o : Int) + (j : Int) * ((k : Int) + 1)) % (n : Int) = ((Lh.rowN s n j : Nat) : Int) := by
  refine ⟨Lh.num s 1 % n, Lh.num s 2 % (n - 1), rem_small _ _ (by omega), ?_, by simp, ?_, fun j hj => ?_⟩
  · have := rem_small (Lh.num s 2) (n - 1) (by omega)
    omega
  · rw [Int.natCast_emod, Int.natCast_sub (by omega)]; rfl
  · have hk := rem_small (Lh.num s 2) (n - 1) (by omega)
    have hb : j * (Lh.num s 2 % (n - 1) + 1) ≤ 503 * 503 := Nat.mul_le_mul (by omega) (by omega)
    have e : (j : Int) * (((Lh.num s 2 % (n - 1) : Nat) : Int) + 1) = ((j * (Lh.num s 2 % (n - 1) + 1) : Nat) : Int) := by rw [Int.natCast_mul, Int.natCast_add]; rfl
    refine ⟨by omega, by omega, ?_⟩
    rw [e, ← Int.natCast_add, ← Int.natCast_emod]
    rfl

set_option maxRecDepth 100000 in
set_option maxHeartbeats 2000000 in
theorem rowOf_own (s : ByteArray) (n : Nat) (w : World) (hs : s.size ≤ 300) (h2 : 2 ≤ n) (h5 : n ≤ 503) :
    Calls Tryz.prog 34 #[.string s, .int .i64 n] w fun e w' => ∃ v, e = .returned v ∧ w'.ownsRow w.heap.size 3 1 v n ((Lh.rowL s n).map (Value.int .i64)) ∧ Below w.heap.size w w' := by
  obtain ⟨i, hi, hz0, hz1, hz2⟩ := info_parts infoI
  have hA := num_lt s 1
  have hB := num_lt s 2
  obtain ⟨o, k, ho, hk, hc1, hc2, hrow⟩ := row_parts s n h2 h5
  have HROW : Hid (∀ j : Nat, j < n → 0 ≤ (j : Int) * ((k : Int) + 1) ∧ (j : Int) * ((k : Int) + 1) ≤ 300000 ∧ ((o : Int) + (j : Int) * ((k : Int) + 1)) % (n : Int) = ((Lh.rowN s n j : Nat) : Int)) := hrow
  clear hrow
  have hn0 : ((n : Int) == 0) = false := by simp; omega
  have hn1 : ((n : Int) - 1 == 0) = false := by rw [beq_eq_false_iff_ne]; omega
  go_enter Tryz.func34, Tryz.ntmps34
  go_wp2_with fail
  refine (numberOf_any s 1 _ hs).mono ?_
  rintro e w1 ⟨rfl, rfl⟩
  go_wp2_with fail
  refine (numberOf_any s 2 _ hs).mono ?_
  rintro e w2 ⟨rfl, rfl⟩
  go_wp2_with fail
  have LEN : Hid ((Lh.rowL s n).length = n) := Lh.rowL_length s n
  rw [hc2]
  clear hc1 hc2
  go_loopw [7, 8] (fun vo t W => Below w2.heap.size w2 W ∧ ∃ j : Nat, j ≤ n ∧ t = .int .i64 j ∧ W.ownsRow w2.heap.size 3 1 vo j (((Lh.rowL s n).take j).map (Value.int .i64))) (fun _ t _ => n - (intOf t).toNat)
  case atStart => exact ⟨Below.refl _ _, 0, Nat.zero_le _, rfl, by simpa using World.ownsRow_nil _ _ _ _⟩
  case round =>
    obtain ⟨hb, j, hj, rfl, hown⟩ := hrel
    by_cases hlt : j < n
    · obtain ⟨hj0, hj1, hj2⟩ := HROW.out j hlt
      have hd : decide ((j : Int) < (n : Int)) = true := by simp; omega
      have hmx : j + 1 ≤ maxLen := by unfold maxLen; omega
      have hbs : ∀ q, w2.heap.size ≤ (wr.alloc q).heap.size := fun q => by
        have h1 : (wr.alloc q).heap.size = wr.heap.size + 1 := by simp
        have := hb.size
        omega
      have hnew := cell_one_new wr (.int .i64 (Lh.rowN s n j : Nat)) 3
      go_wp2_with (at_builtin; refine wpList_append_own _ rfl _ _ 29 rfl w2.heap.size 3 i _ 1 8 Tryz.underlying29 hi hz0 hz1 hz2 rfl (by decide) _ j _ rfl (hown.alloc _) ⟨wr.heap.size, 0, none⟩ 1 1 [.int .i64 (Lh.rowN s n j : Nat)] rfl rfl hnew (ints_oneCell1 _) hmx (by omega) (hbs _) ?_; intro v2 w3 hown2 hg2 hnil2)
      go_roundw
      case rel =>
        refine ⟨(hb.alloc hb.size _).grown hg2 (hbs _) (fun k h => (hown.lt k h).1), j + 1, by omega, by go_num, ?_⟩
        rw [← rowL_snoc s n j hlt, List.map_append]
        exact hown2
      case measure => simp [intOf]; omega
    · have hd : decide ((j : Int) < (n : Int)) = false := by simp; omega
      have hjn : j = n := by omega
      have hfin := hown
      rw [List.take_of_length_le (by rw [LEN.out]; omega), hjn] at hfin
      have HF : Hid _ := hfin
      clear hfin hown hjn
      go_wp2
      go_ret
      exact ⟨_, rfl, HF.out, hb⟩
theorem rowOf_at (s : ByteArray) (n : Nat) (w : World) (hs : s.size ≤ 300) (h2 : 2 ≤ n) (h5 : n ≤ 503) :
    Calls Tryz.prog 34 #[.string s, .int .i64 n] w fun e w' => ∃ g c, e = .returned (.slice (some ⟨g, 0, none⟩) n c) ∧ w.heap.size ≤ g ∧ (∀ j, j < n → w'.cell? ⟨g, j, none⟩ = some (.int .i64 (Lh.rowN s n j : Nat))) ∧ Below w.heap.size w w' :=
  (rowOf_own s n w hs h2 h5).mono fun _ _ ⟨v, h1, ho, h3⟩ => by
    have ho' := ho
    rcases ho.2 with ⟨_, hn⟩ | ⟨g, cap, cur, rfl, hg, _⟩
    · omega
    · refine ⟨g, cap, h1, hg, fun j hj => ?_, h3⟩
      rw [ho'.cellAt j (by omega)]
      have hl : j < (Lh.rowL s n).length := by rw [Lh.rowL_length]; exact hj
      simp [hl, Lh.rowL_get]
end Go.Proofs.YtmdckddenelneaaGreatDoor

/- The landed slotsOf. -/
namespace Go.Proofs.YtmdckddenelneaaGreatDoor
open Go.RowKit
theorem take_set_snoc {α : Type} {xs : List α} {j : Nat} (h : j < xs.length) (v : α) : (xs.set j v).take (j + 1) = xs.take j ++ [v] := by
  rw [List.take_succ_eq_append_getElem (by simpa using h)]
  have e : (xs.take j).set j v = xs.take j := List.set_eq_of_length_le (by simp; omega)
  simp [List.take_set, e]
set_option maxRecDepth 100000 in
set_option maxHeartbeats 2000000 in
theorem slotsOf_any (s : ByteArray) (n : Nat) (w : World) (hs : s.size ≤ 300) (h2 : 2 ≤ n) (h5 : n ≤ 503) :
    Calls Tryz.prog 69 #[.string s, .int .i64 n] w fun e w' => ∃ g, e = .returned (.slice (some ⟨g, 0, none⟩) n n) ∧ w.heap.size ≤ g ∧ IntRow w' g (Lh.rowL s n) ∧ Below w.heap.size w w' := by
  obtain ⟨i, hi, hz0, hz1, hz2⟩ := info_parts infoI
  have hA := num_lt s 1
  have hB := num_lt s 2
  obtain ⟨o, k, ho, hk, hc1, hc2, hrow⟩ := row_parts s n h2 h5
  have HROW : Hid (∀ j : Nat, j < n → 0 ≤ (j : Int) * ((k : Int) + 1) ∧ (j : Int) * ((k : Int) + 1) ≤ 300000 ∧ ((o : Int) + (j : Int) * ((k : Int) + 1)) % (n : Int) = ((Lh.rowN s n j : Nat) : Int)) := hrow
  clear hrow
  have hn0 : ((n : Int) == 0) = false := by simp; omega
  have hn1 : ((n : Int) - 1 == 0) = false := by rw [beq_eq_false_iff_ne]; omega
  have hbyt : i.bytes * n ≤ 281474976710656 := by rw [hz2]; omega
  have hmax : n ≤ maxLen := by unfold maxLen; omega
  go_enter Tryz.func69, Tryz.ntmps69
  go_wp2_with fail
  refine (of_any s 1 _ hs).mono ?_
  rintro e w1 ⟨rfl, hb1⟩
  go_wp2_with fail
  refine (of_any s 2 _ hs).mono ?_
  rintro e w2 ⟨rfl, hb2⟩
  have hbA := below_then hb1 hb2
  clear hb1 hb2
  go_wp2_with (at_make; refine wpList_make_full w2 rfl _ _ 29 rfl w2.heap.size 3 i _ 1 Tryz.underlying29 hi hz0 hz1 _ _ _ _ n rfl rfl rfl rfl hbyt hmax (Nat.le_refl _) ?_)
  intro w3 hown hgrow
  have hb3 : Below w.heap.size w w3 := hbA.trans ((below_grown hgrow (fun k h => by cases h)).mono hbA.size)
  rw [made_ints2] at hown
  have hrow0 := IntRow.of_owns hown
  have hgb := hbA.size
  clear hown hgrow hbA
  generalize w2.heap.size = g at *
  go_wp2_with fail
  try rw [hc2]
  clear hc1 hc2
  go_loopw [27] (fun t W => Below w.heap.size w W ∧ ∃ j : Nat, j ≤ n ∧ t = .int .i64 j ∧ ∃ xs : List Int, xs.length = n ∧ xs.take j = (Lh.rowL s n).take j ∧ IntRow W g xs) (fun t _ => n - (intOf t).toNat)
  case atStart => exact ⟨hb3, 0, Nat.zero_le _, rfl, _, by simp, by simp, hrow0⟩
  case round =>
    obtain ⟨hb, j, hj, rfl, xs, hlen, htake, hrow⟩ := hrel
    have HT : Hid (xs.take j = (Lh.rowL s n).take j) := htake
    have HLEN : Hid (xs.length = n) := hlen
    have HR : Hid (IntRow wr g xs) := hrow
    have HR0 : Hid (IntRow w3 g (List.replicate n 0)) := hrow0
    clear htake
    by_cases hlt : j < n
    · obtain ⟨hj0, hj1, hj2⟩ := HROW.out j hlt
      rw [show (k : Int) + 1 = 1 + (k : Int) from Int.add_comm _ _] at hj0 hj1 hj2
      obtain ⟨x0, c0⟩ : ∃ x, wr.cell? ⟨g, j, none⟩ = some (.int .i64 x) := ⟨_, hrow.cell (k := j) (by omega)⟩
      have f0 := hrow.frozen j
      have hd : decide ((j : Int) < (n : Int)) = true := by simp; omega
      clear hrow hlen hrow0
      go_wp2_with fail
      go_roundw
      case rel =>
        refine ⟨hb.setCell hgb _, j + 1, by omega, by go_num, xs.set j (Lh.rowN s n j : Nat), by simp [HLEN.out], ?_, HR.out.set _ _⟩
        rw [take_set_snoc (by rw [HLEN.out]; exact hlt), HT.out, rowL_snoc s n j hlt]
      case measure => simp [intOf]; omega
    · have hd : decide ((j : Int) < (n : Int)) = false := by simp; omega
      have hfin : IntRow wr g (Lh.rowL s n) := by
        have h1 := HT.out
        rw [List.take_of_length_le (by rw [HLEN.out]; omega), List.take_of_length_le (by rw [Lh.rowL_length]; omega)] at h1
        rw [← h1]
        exact hrow
      have HF : Hid (IntRow wr g (Lh.rowL s n)) := hfin
      clear hfin hrow hrow0 hlen
      go_wp2
      go_ret
      exact ⟨g, rfl, hgb, HF.out, hb⟩
end Go.Proofs.YtmdckddenelneaaGreatDoor
