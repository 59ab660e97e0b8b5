/- Tables by names: which host has which slot. -/
import Derived.Test.YtedbhahkldfmiaaDoorMixN
import Derived.Test.YtedbhahkldfmiaaDoorTMath
namespace Go.Proofs.YtedbhahkldfmiaaDoor
open Go.RowKit

namespace Lh
theorem sortT_perm (xs : List ByteArray) : (sortT xs).Perm xs := by
  unfold sortT
  have h := (List.mergeSort_perm (xs.map fun s => s.data.toList) (fun x y => decide (x ≤ y))).map (fun l : List UInt8 => (⟨l.toArray⟩ : ByteArray))
  rw [List.map_map] at h
  have e : ((fun l : List UInt8 => (⟨l.toArray⟩ : ByteArray)) ∘ fun s : ByteArray => s.data.toList) = id := rfl
  rw [e, List.map_id] at h
  exact h
theorem sortT_sorted (xs : List ByteArray) : (sortT xs).Pairwise leT := by
  unfold sortT
  rw [List.pairwise_map]
  have := List.pairwise_mergeSort (le := fun x y : List UInt8 => decide (x ≤ y)) (fun a b c h k => by simp at h k ⊢; exact List.le_trans h k) (fun a b => by simp; exact List.le_total a b) (xs.map fun s => s.data.toList)
  exact this.imp (fun h => by simpa [leT] using h)
theorem sortT_congr {xs ys : List ByteArray} (h : xs.Perm ys) : sortT xs = sortT ys := sort_unique (sortT_sorted xs) ((sortT_perm xs).trans h)

/-- where a text stands first -/
def ix (xs : List ByteArray) (s : ByteArray) : Nat := xs.findIdx fun x => decide (x = s)
theorem ix_lt {xs : List ByteArray} {s : ByteArray} (h : s ∈ xs) : ix xs s < xs.length := List.findIdx_lt_length.2 ⟨s, h, by simp⟩
theorem ix_at {xs : List ByteArray} {s : ByteArray} (h : s ∈ xs) : xs[ix xs s]'(ix_lt h) = s := by
  exact of_decide_eq_true (List.findIdx_getElem (p := fun x => decide (x = s)) (xs := xs) (w := ix_lt h))
theorem nodup_inj {xs : List ByteArray} (hn : xs.Nodup) {i j : Nat} (hi : i < xs.length) (hj : j < xs.length) (h : xs[i] = xs[j]) : i = j := by
  have hp := List.pairwise_iff_getElem.1 hn
  rcases Nat.lt_trichotomy i j with hlt | e | hgt
  · exact absurd h (hp i j hi hj hlt)
  · exact e
  · exact absurd h.symm (hp j i hj hi hgt)
theorem ix_of {xs : List ByteArray} (hn : xs.Nodup) {i : Nat} (hi : i < xs.length) : ix xs xs[i] = i := by
  have hm : xs[i] ∈ xs := List.getElem_mem hi
  exact nodup_inj hn _ _ (ix_at hm)
theorem ix_first {xs : List ByteArray} {s : ByteArray} {k : Nat} (hk : k < xs.length) (he : xs[k] = s) (hb : ∀ j (h : j < xs.length), j < k → xs[j] ≠ s) : ix xs s = k := by
  have hm : s ∈ xs := he ▸ List.getElem_mem hk
  rcases Nat.lt_trichotomy (ix xs s) k with h | h | h
  · exact absurd (ix_at hm) (hb _ (ix_lt hm) h)
  · exact h
  · have := List.not_of_lt_findIdx (p := fun x => decide (x = s)) h
    simp [he] at this

def nameAt (ys : List ByteArray) (k : Nat) : ByteArray := ys.getD k ByteArray.empty
theorem nameAt_lt {ys : List ByteArray} {k : Nat} (h : k < ys.length) : nameAt ys k = ys[k] := by
  unfold nameAt; rw [List.getD_eq_getElem?_getD, List.getElem?_eq_getElem h]; rfl
theorem nameAt_mem {xs : List ByteArray} {k : Nat} (h : k < xs.length) : nameAt (sortT xs) k ∈ xs := by
  have h' : k < (sortT xs).length := by rw [sortT_length]; exact h
  rw [nameAt_lt h']
  exact (sortT_perm xs).mem_iff.1 (List.getElem_mem h')
def rowN (s : ByteArray) (n j : Nat) : Nat := rowAt (num s 1) (num s 2) n j
def rowL (s : ByteArray) (n : Nat) : List Int := (List.range n).map fun j => ((rowN s n j : Nat) : Int)
theorem rowL_length (s : ByteArray) (n : Nat) : (rowL s n).length = n := by simp [rowL]
theorem rowL_get (s : ByteArray) (n : Nat) {j : Nat} (h : j < (rowL s n).length) : (rowL s n)[j] = ((rowN s n j : Nat) : Int) := by simp [rowL]
def rowsN (ys : List ByteArray) (n k j : Nat) : Nat := rowN (nameAt ys k) n j
def valsN (xs ys : List ByteArray) (k : Nat) : Int := (ix xs (nameAt ys k) : Nat)
/-- after so many turns -/
def tab (xs : List ByteArray) (n t : Nat) : List Int := fill n xs.length (rowsN (sortT xs) n) (valsN xs (sortT xs)) t
theorem tab_length (xs : List ByteArray) (n t : Nat) : (tab xs n t).length = n := fill_length _ _ _ _ _
theorem tab_ok {xs : List ByteArray} {n : Nat} (hp : Prm n) (h0 : 0 < xs.length) : RowsOk n xs.length (rowsN (sortT xs) n) (valsN xs (sortT xs)) :=
  ⟨h0, fun _ _ _ _ => rowAt_lt hp.1, fun _ _ _ _ hi hj h => rowAt_inj hp hi hj h, fun _ _ => by unfold valsN; omega⟩
/-- one more turn, as a walk makes it: p is the first free place of the row -/
theorem tab_step {xs : List ByteArray} {n t p : Nat} (hp : p < n) (hf : (tab xs n t).getD (rowsN (sortT xs) n (t % xs.length) p) 0 < 0) (hb : ∀ i, i < p → 0 ≤ (tab xs n t).getD (rowsN (sortT xs) n (t % xs.length) i) 0) :
    tab xs n (t + 1) = (tab xs n t).set (rowsN (sortT xs) n (t % xs.length) p) (valsN xs (sortT xs) (t % xs.length)) := by
  show step1 _ _ _ _ t (tab xs n t) = _
  unfold step1
  rw [pick_unique hp hf hb]
theorem tab_keeps {xs : List ByteArray} {n : Nat} (hp : Prm n) (h0 : 0 < xs.length) {t : Nat} {x : Nat} (hx : 0 ≤ (tab xs n t).getD x 0) : 0 ≤ (tab xs n (t + 1)).getD x 0 := by
  have hr := tab_ok (xs := xs) hp h0
  have hk : t % xs.length < xs.length := Nat.mod_lt _ h0
  show 0 ≤ (step1 _ _ _ _ t (tab xs n t)).getD x 0
  unfold step1
  rw [List.getD_eq_getElem?_getD] at hx ⊢
  rw [List.getElem?_set]
  split
  · split
    · simp [hr.val _ hk]
    · simp
  · exact hx
theorem tab_free {xs : List ByteArray} {n : Nat} (hp : Prm n) (h0 : 0 < xs.length) {t : Nat} (ht : t < n) {k : Nat} (hk : k < xs.length) : ∃ j, j < n ∧ (tab xs n t).getD (rowsN (sortT xs) n k j) 0 < 0 := fill_pick (tab_ok hp h0) ht hk
/-- each slot's host -/
theorem tab_full {xs : List ByteArray} {n : Nat} (hp : Prm n) (h0 : 0 < xs.length) {x : Nat} (hx : x < n) : ∃ i, ∃ _ : i < xs.length, (tab xs n n).getD x 0 = (i : Nat) := by
  obtain ⟨k, hk, _, e⟩ := fill_full (tab_ok hp h0) hx
  exact ⟨_, ix_lt (nameAt_mem hk), e⟩
/-- the order of the list makes no difference -/
theorem tab_same {xs ys : List ByteArray} {n : Nat} (hp : Prm n) (h0 : 0 < xs.length) (hq : xs.Perm ys) {x : Nat} (hx : x < n) : ∃ (i j : Nat) (hi : i < xs.length) (hj : j < ys.length), (tab xs n n).getD x 0 = (i : Nat) ∧ (tab ys n n).getD x 0 = (j : Nat) ∧ xs[i] = ys[j] := by
  have hl := hq.length_eq
  obtain ⟨k, hk, e0, e⟩ := fill_full (tab_ok (xs := xs) hp h0) hx
  obtain ⟨k', hk', e0', e'⟩ := fill_full (tab_ok (xs := ys) hp (by omega)) hx
  rw [← hl, ← sortT_congr hq, e0] at e0'
  have hkk : k = k' := by omega
  subst hkk
  have hm := nameAt_mem hk
  have hm' := nameAt_mem hk'
  refine ⟨_, _, ix_lt hm, ix_lt hm', e, e', ?_⟩
  rw [ix_at hm, ix_at hm', sortT_congr hq]
/-- shares are even -/
theorem tab_even {xs : List ByteArray} {n : Nat} (hp : Prm n) (hn : xs.Nodup) {i : Nat} (hi : i < xs.length) : n / xs.length ≤ (tab xs n n).count (i : Int) ∧ (tab xs n n).count (i : Int) ≤ (n + xs.length - 1) / xs.length := by
  have h0 : 0 < xs.length := by omega
  have hmem : xs[i] ∈ sortT xs := (sortT_perm xs).mem_iff.2 (List.getElem_mem hi)
  obtain ⟨k, hk, e⟩ := List.getElem_of_mem hmem
  have hk' : k < xs.length := by rw [sortT_length] at hk; exact hk
  have hv : valsN xs (sortT xs) k = (i : Int) := by
    unfold valsN
    rw [nameAt_lt hk, e, ix_of hn hi]
  have hnd : (sortT xs).Nodup := (sortT_perm xs).nodup_iff.2 hn
  have hc := fill_count (tab_ok (xs := xs) hp h0) (fun a b ha hb h => ?_) hk' n (Nat.le_refl _)
  · rw [hv] at hc
    unfold tab
    rw [hc]
    exact turns_even hk'
  · unfold valsN at h
    have h' : ix xs (nameAt (sortT xs) a) = ix xs (nameAt (sortT xs) b) := by omega
    have ha' : a < (sortT xs).length := by rw [sortT_length]; exact ha
    have hb' : b < (sortT xs).length := by rw [sortT_length]; exact hb
    have e1 := ix_at (nameAt_mem ha)
    have e2 := ix_at (nameAt_mem hb)
    have e3 : nameAt (sortT xs) a = nameAt (sortT xs) b := by
      rw [← e1, ← e2]
      congr 1
    rw [nameAt_lt ha', nameAt_lt hb'] at e3
    exact nodup_inj hnd _ _ e3
end Lh
end Go.Proofs.YtedbhahkldfmiaaDoor
