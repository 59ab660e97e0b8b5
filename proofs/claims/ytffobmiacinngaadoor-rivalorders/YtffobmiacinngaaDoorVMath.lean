/- The order of rivals, pure: by score falling, then by name. -/
import Derived.Test.YtffobmiacinngaaDoorRMath
namespace Go.Proofs.YtffobmiacinngaaDoor
namespace Lh
/-- the document's score -/
def score (k : Nat) (s : ByteArray) : Nat := turn (turn (num s 3) ^^^ k)
/-- a stands no later than b -/
def leR (f : ByteArray → Nat) (a b : ByteArray) : Prop := f b < f a ∨ (f a = f b ∧ bl a ≤ bl b)
theorem leR_refl (f : ByteArray → Nat) (a : ByteArray) : leR f a a := Or.inr ⟨rfl, List.le_refl _⟩
theorem leR_total (f : ByteArray → Nat) (a b : ByteArray) : leR f a b ∨ leR f b a := by
  unfold leR
  rcases Nat.lt_trichotomy (f a) (f b) with h | h | h
  · exact Or.inr (Or.inl h)
  · rcases List.le_total (bl a) (bl b) with k | k
    · exact Or.inl (Or.inr ⟨h, k⟩)
    · exact Or.inr (Or.inr ⟨h.symm, k⟩)
  · exact Or.inl (Or.inl h)
theorem leR_trans {f : ByteArray → Nat} {a b c : ByteArray} (h : leR f a b) (k : leR f b c) : leR f a c := by
  unfold leR at *
  rcases h with h | ⟨h, h'⟩ <;> rcases k with k | ⟨k, k'⟩
  · exact Or.inl (by omega)
  · exact Or.inl (by omega)
  · exact Or.inl (by omega)
  · exact Or.inr ⟨by omega, List.le_trans h' k'⟩
theorem leR_antisymm {f : ByteArray → Nat} {a b : ByteArray} (h : leR f a b) (k : leR f b a) : a = b := by
  unfold leR at *
  rcases h with h | ⟨h, h'⟩ <;> rcases k with k | ⟨k, k'⟩
  · omega
  · omega
  · omega
  · exact bl_inj (List.le_antisymm h' k')
def leB (f : ByteArray → Nat) (a b : ByteArray) : Bool := decide (f b < f a) || (decide (f a = f b) && decide (bl a ≤ bl b))
theorem leB_iff (f : ByteArray → Nat) (a b : ByteArray) : leB f a b = true ↔ leR f a b := by
  unfold leB leR
  simp
def order (f : ByteArray → Nat) (xs : List ByteArray) : List ByteArray := xs.mergeSort (leB f)
theorem order_perm (f : ByteArray → Nat) (xs : List ByteArray) : (order f xs).Perm xs := List.mergeSort_perm _ _
theorem order_length (f : ByteArray → Nat) (xs : List ByteArray) : (order f xs).length = xs.length := (order_perm f xs).length_eq
theorem order_sorted (f : ByteArray → Nat) (xs : List ByteArray) : (order f xs).Pairwise (leR f) := by
  have := List.pairwise_mergeSort (le := leB f) (fun a b c h k => by rw [leB_iff] at *; exact leR_trans h k) (fun a b => by
    rw [Bool.or_eq_true, leB_iff, leB_iff]
    exact leR_total f a b) xs
  exact this.imp (fun h => (leB_iff f _ _).1 h)
theorem order_unique {f : ByteArray → Nat} {ys xs : List ByteArray} (hs : ys.Pairwise (leR f)) (hp : ys.Perm xs) : ys = order f xs :=
  List.Perm.eq_of_pairwise (le := leR f) (fun _ _ _ _ h k => leR_antisymm h k) hs (order_sorted f xs) (hp.trans (order_perm f xs).symm)
theorem order_filter (f : ByteArray → Nat) (xs : List ByteArray) (p : ByteArray → Bool) : (order f xs).filter p = order f (xs.filter p) :=
  order_unique ((order_sorted f xs).sublist List.filter_sublist) ((order_perm f xs).filter p)
theorem order_of_perm {f : ByteArray → Nat} {xs ys : List ByteArray} (h : xs.Perm ys) : order f xs = order f ys :=
  order_unique (order_sorted f xs) ((order_perm f xs).trans h)
theorem order_one (f : ByteArray → Nat) (s : ByteArray) : order f [s] = [s] := (order_unique (f := f) (ys := [s]) (by simp) (List.Perm.refl _)).symm
/-- the first of all -/
theorem order_head {f : ByteArray → Nat} {xs : List ByteArray} (h : 0 < xs.length) : ∃ y T, order f xs = y :: T ∧ y ∈ xs := by
  match hO : order f xs with
  | [] => have := order_length f xs; rw [hO] at this; simp at this; omega
  | y :: T => exact ⟨y, T, rfl, (order_perm f xs).mem_iff.1 (by rw [hO]; simp)⟩
/-- who comes: the first one stays, or it is the new one -/
theorem order_comes {f : ByteArray → Nat} {xs : List ByteArray} {s x y : ByteArray} {T U : List ByteArray} (hns : ¬ s ∈ xs) (hx : order f xs = x :: T) (hy : order f (xs ++ [s]) = y :: U) : y = x ∨ y = s := by
  by_cases e : y = s
  · exact Or.inr e
  · refine Or.inl ?_
    have h1 := order_filter f (xs ++ [s]) (fun z => decide (z ≠ s))
    have h2 : (xs ++ [s]).filter (fun z => decide (z ≠ s)) = xs := by
      rw [List.filter_append]
      have h3 : xs.filter (fun z => decide (z ≠ s)) = xs := by
        rw [List.filter_eq_self]
        intro z hz
        simp only [decide_eq_true_eq]
        exact fun e => hns (e ▸ hz)
      rw [h3]
      simp
    rw [h2, hx, hy, List.filter_cons] at h1
    rw [if_pos (by simpa using e)] at h1
    exact (List.cons.inj h1).1
end Lh
end Go.Proofs.YtffobmiacinngaaDoor
