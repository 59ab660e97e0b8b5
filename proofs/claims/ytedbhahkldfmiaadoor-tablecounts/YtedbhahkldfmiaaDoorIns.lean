/- The reference's SortedOf: laid in one by one, it is the list that slices.Sort makes. -/
import Derived.Test.YtedbhahkldfmiaaDoorSorted
import Derived.Sort.Walk0
namespace Go.Proofs.YtedbhahkldfmiaaDoor
open Go.RowKit Go.Sort

namespace Lh
def leT (x y : ByteArray) : Prop := x.data.toList ≤ y.data.toList
theorem sort_unique {xs ys : List ByteArray} (hs : ys.Pairwise leT) (hp : ys.Perm xs) : ys = sortT xs := by
  have h1 : (ys.map fun s => s.data.toList) = sortL (xs.map fun s => s.data.toList) := by
    refine List.Perm.eq_of_pairwise (le := fun a b : List UInt8 => a ≤ b) (fun a b _ _ h k => List.le_antisymm h k) ?_ ?_ ?_
    · rw [List.pairwise_map]; exact hs
    · have := List.pairwise_mergeSort (le := fun x y : List UInt8 => decide (x ≤ y)) (fun a b c h k => by simp at h k ⊢; exact List.le_trans h k) (fun a b => by simp; exact List.le_total a b) (xs.map fun s => s.data.toList)
      exact this.imp (fun h => by simpa using h)
    · exact (hp.map _).trans (List.mergeSort_perm _ _).symm
  unfold sortT
  rw [← h1, List.map_map]
  have : ((fun l : List UInt8 => (⟨l.toArray⟩ : ByteArray)) ∘ fun s : ByteArray => s.data.toList) = id := rfl
  rw [this, List.map_id]

theorem ins_sorted {ys : List ByteArray} {x : ByteArray} {k : Nat} (hs : ys.Pairwise leT) (hk : k ≤ ys.length) (hlo : ∀ j (h : j < ys.length), j < k → leT ys[j] x) (hhi : ∀ h : k < ys.length, leT x ys[k]) :
    (ys.take k ++ x :: ys.drop k).Pairwise leT := by
  have hpw := List.pairwise_iff_getElem.1 hs
  have hlow : ∀ y ∈ ys.take k, leT y x := by
    intro y hy
    rw [List.mem_take_iff_getElem] at hy
    obtain ⟨j, hj, rfl⟩ := hy
    exact hlo j (by omega) (by omega)
  have hhigh : ∀ y ∈ ys.drop k, leT x y := by
    intro y hy
    rw [List.mem_drop_iff_getElem] at hy
    obtain ⟨j, hj, rfl⟩ := hy
    have hkl : k < ys.length := by omega
    rcases Nat.eq_zero_or_pos j with h | h
    · subst h; simpa using hhi hkl
    · exact List.le_trans (hhi hkl) (hpw k (k + j) hkl (by omega) (by omega))
  rw [List.pairwise_append, List.pairwise_cons]
  refine ⟨hs.sublist (List.take_sublist _ _), ⟨hhigh, hs.sublist (List.drop_sublist _ _)⟩, fun a ha b hb => ?_⟩
  rcases List.mem_cons.1 hb with rfl | hb
  · exact hlow a ha
  · exact List.le_trans (hlow a ha) (hhigh b hb)

theorem ins_perm {ys xs : List ByteArray} {n : Nat} (hn : n < xs.length) {k : Nat} (hp : ys.Perm (xs.take n)) : (ys.take k ++ xs[n] :: ys.drop k).Perm (xs.take (n + 1)) := by
  rw [List.take_succ_eq_append_getElem hn]
  refine List.perm_middle.trans ?_
  rw [List.take_append_drop]
  exact (hp.cons _).trans (List.perm_append_singleton _ _).symm
theorem less_true {x y : ByteArray} (h : Op.bytesLess x.toList y.toList = true) : leT x y := by
  rw [bytesLess_eq] at h
  have := List.le_of_lt (of_decide_eq_true h)
  rwa [ByteArray.toList_eq, ByteArray.toList_eq] at this
theorem less_false {x y : ByteArray} (h : Op.bytesLess x.toList y.toList = false) : leT y x := by
  rw [bytesLess_eq] at h
  have h' : ¬ x.toList < y.toList := of_decide_eq_false h
  have := List.not_lt.1 h'
  rwa [ByteArray.toList_eq, ByteArray.toList_eq] at this
end Lh
end Go.Proofs.YtedbhahkldfmiaaDoor
