/- Rows of points in memory. -/
import Derived.Test.YtepclafmkhphbabDoorRMath
import Derived.Test.YtepclafmkhphbabDoorOwn
import Derived.Shelf.SlSortCmp.NoneTotal
namespace Go.Proofs.YtepclafmkhphbabDoor
open Go.RowKit Go.Sort

/-- A point's two cells. -/
def encP (p : Lh.Pt) : List Value := [.int .u64 (p.1 : Nat), .string p.2]
def flatP (P : List Lh.Pt) : List Value := P.flatMap encP
theorem flatP_snoc (P : List Lh.Pt) (p : Lh.Pt) : flatP (P ++ [p]) = flatP P ++ encP p := by simp [flatP, List.flatMap_append]
theorem flatP_length (P : List Lh.Pt) : (flatP P).length = P.length * 2 := by
  induction P with
  | nil => rfl
  | cons p P ih =>
    have : flatP (p :: P) = encP p ++ flatP P := rfl
    rw [this, List.length_append, ih, List.length_cons]
    simp [encP]
    omega
theorem flatP_get (P : List Lh.Pt) : ∀ i (h : i < P.length), (flatP P)[i * 2]? = some (.int .u64 (P[i].1 : Nat)) ∧ (flatP P)[i * 2 + 1]? = some (.string P[i].2) := by
  induction P with
  | nil => intro i h; cases h
  | cons p P ih =>
    intro i h
    have e : flatP (p :: P) = .int .u64 (p.1 : Nat) :: .string p.2 :: flatP P := rfl
    rw [e]
    match i, h with
    | 0, _ => exact ⟨rfl, rfl⟩
    | i + 1, h =>
      have := ih i (by simpa using h)
      rw [show (i + 1) * 2 = i * 2 + 1 + 1 by omega]
      simpa using this
theorem encP_one (p : Lh.Pt) : ∀ v ∈ encP p, v.oneCell' = true := by
  intro v hv
  simp [encP] at hv
  rcases hv with rfl | rfl <;> rfl

/-- Block blk holds the points P. -/
def PtsAt (W : World) (blk : Nat) (P : List Lh.Pt) : Prop := ∀ i (h : i < P.length), W.cell? ⟨blk, i * 2, none⟩ = some (.int .u64 (P[i].1 : Nat)) ∧ W.cell? ⟨blk, i * 2 + 1, none⟩ = some (.string P[i].2)
theorem PtsAt.later {W W' : World} {blk : Nat} {P : List Lh.Pt} (h : PtsAt W blk P) (hb : Below W.heap.size W W') : PtsAt W' blk P := fun i hi => ⟨below_cell hb (h i hi).1, below_cell hb (h i hi).2⟩

theorem pts_of_owns {w : World} {base : Nat} {v : Value} {e : TypeId} {P : List Lh.Pt} (h : w.ownsRow base e 2 v P.length (flatP P)) (h0 : 0 < P.length) : ∃ g cap, v = .slice (some ⟨g, 0, none⟩) P.length cap ∧ base ≤ g ∧ g < w.heap.size ∧ P.length ≤ cap ∧ PtsAt w g P ∧ ∀ k, w.frozen? ⟨g, k, none⟩ = false := by
  obtain ⟨hl, ⟨rfl, h'⟩ | ⟨g, cap, cur, rfl, hbase, hb, hn, hm, hsz, ht⟩⟩ := h
  · omega
  · have hlt : g < w.heap.size := (Array.getElem?_eq_some_iff.1 hb).1
    refine ⟨g, cap, rfl, hbase, hlt, hn, fun i hi => ?_, fun k => by simp [World.frozen?, hb]⟩
    obtain ⟨h1, h2⟩ := flatP_get P i hi
    rw [← ht] at h1 h2
    rw [List.getElem?_take_of_lt (by omega)] at h1 h2
    simp only [World.cell?, hb]
    exact ⟨by simpa using h1, by simpa using h2⟩
theorem holds_of_pts {w : World} {g : Nat} {P : List Lh.Pt} (h : PtsAt w g P) (hf : ∀ k, w.frozen? ⟨g, k, none⟩ = false) : HoldsK encP 2 w g 0 P.toArray := by
  intro t ht
  have ht' : t < P.length * 2 := by simpa using ht
  have hi : t / 2 < P.length := by omega
  refine ⟨?_, hf _⟩
  rw [get_flatK _ _ _ _ (by simpa using ht')]
  have e : (P.toArray[t / 2]!) = P[t / 2] := by simp [hi]
  rw [e]
  obtain ⟨h1, h2⟩ := h (t / 2) hi
  rcases Nat.mod_two_eq_zero_or_one t with hm | hm
  · rw [hm, show 0 + t = t / 2 * 2 by omega, h1]
    rfl
  · rw [hm, show 0 + t = t / 2 * 2 + 1 by omega, h2]
    rfl
theorem pts_of_holds {w : World} {g : Nat} {P : List Lh.Pt} (h : HoldsK encP 2 w g 0 P.toArray) : PtsAt w g P := by
  intro i hi
  have h1 := (h.cell (i := i) (c := 0) (by simpa using hi) (by omega)).1
  have h2 := (h.cell (i := i) (c := 1) (by simpa using hi) (by omega)).1
  have e : (P.toArray[i]!) = P[i] := by simp [hi]
  rw [e] at h1 h2
  simp only [Nat.zero_add, Nat.add_zero] at h1 h2
  exact ⟨h1, h2⟩
theorem grownBy_sortedP {w : World} {g n : Nat} {os : Array Obj} (d : Array Lh.Pt) : w.grownBy (sortWorldK encP 2 w g 0 n d os) (some g) := by
  unfold sortWorldK putRowK
  refine ⟨rfl, rfl, rfl, by simp, fun k hk hne => ?_⟩
  rw [heap_grow_old _ _ (by simpa using hk)]
  have : g ≠ k := fun e => hne (by rw [e])
  simp [putRow, mapBlock, Sort.ahead, Array.getElem?_modify, this]
theorem sorted_holds {w : World} {g n : Nat} {os : Array Obj} {d0 d : Array Lh.Pt} (hg : g < w.heap.size) (h : HoldsK encP 2 w g 0 d0) (hs : d.size = d0.size) : HoldsK encP 2 (sortWorldK encP 2 w g 0 n d os) g 0 d := by
  unfold sortWorldK
  exact holdsK_grow _ _ _ _ _ _ _ (by simp [putRowK, putRow, mapBlock, Sort.ahead]; exact hg) (holdsK_putRowK _ _ _ _ _ d0 d h hs)

/- the order of the sort -/
theorem ltP_iff (x y : Lh.Pt) : ltOf cfP x y = true ↔ x.1 < y.1 ∨ (x.1 = y.1 ∧ Lh.bl x.2 < Lh.bl y.2) := by
  unfold ltOf cfP
  by_cases h1 : x.1 < y.1
  · simp [h1]
  · by_cases h2 : y.1 < x.1
    · simp [h1, h2]; omega
    · have e : x.1 = y.1 := by omega
      by_cases h3 : Lh.bl x.2 < Lh.bl y.2
      · simp [e, h3]
      · by_cases h4 : Lh.bl y.2 < Lh.bl x.2 <;> simp [e, h3, h4]
theorem ltP_false (x y : Lh.Pt) : ltOf cfP x y = false ↔ Lh.leF 0 y x := by
  rw [← Bool.not_eq_true, ltP_iff]
  unfold Lh.leF
  constructor
  · intro h
    refine ⟨fun h => absurd h (by omega), fun _ => ⟨?_, fun e => ?_⟩⟩
    · exact Nat.le_of_not_lt fun h' => h (Or.inl h')
    · exact List.not_lt.1 fun h' => h (Or.inr ⟨e.symm, h'⟩)
  · rintro ⟨_, h⟩ h'
    obtain ⟨h1, h2⟩ := h (fun h => absurd h (by omega))
    rcases h' with h' | ⟨e, h'⟩
    · omega
    · exact List.not_lt.2 (h2 e.symm) h'
theorem swoP : SWO (ltOf cfP) where
  irrefl x := (ltP_false x x).2 (Lh.leF_refl 0 x)
  trans x y z h1 h2 := by
    rw [ltP_iff] at *
    rcases h1 with h1 | ⟨e1, h1⟩ <;> rcases h2 with h2 | ⟨e2, h2⟩
    · exact Or.inl (by omega)
    · exact Or.inl (by omega)
    · exact Or.inl (by omega)
    · exact Or.inr ⟨by omega, List.lt_trans h1 h2⟩
  ntrans x y z h1 h2 := by
    rw [ltP_false] at *
    exact Lh.leF_trans h2 h1
theorem sortedP {P : List Lh.Pt} {d' : Array Lh.Pt} (hp : PermIn 0 P.toArray.size P.toArray d') (hs : SortedIn (ltOf cfP) 0 P.toArray.size d') : d'.toList.Perm P ∧ d'.toList.Pairwise (Lh.leF 0) := by
  have hT : ∀ x y, ltOf cfP x y = false → ltOf cfP y x = false → x = y := fun x y h1 h2 => Lh.leF_antisymm ((ltP_false y x).1 h2) ((ltP_false x y).1 h1)
  have e := sorted_unique_holds swoP hT P.toArray d' hp hs
  rw [e]
  refine ⟨List.mergeSort_perm _ _, ?_⟩
  have := List.pairwise_mergeSort (le := fun x y => !(ltOf cfP) y x) (fun a b c h k => by
    simp only [Bool.not_eq_eq_eq_not, Bool.not_true] at h k ⊢
    rw [ltP_false] at *
    exact Lh.leF_trans h k) (fun a b => by
    by_cases h : ltOf cfP b a = false
    · simp [h]
    · have h' : ltOf cfP b a = true := by simpa using h
      have h2 : ltOf cfP a b = false := by
        rw [← Bool.not_eq_true]
        intro h3
        have := swoP.trans _ _ _ h' h3
        rw [swoP.irrefl] at this
        cases this
      simp [h2]) P
  refine this.imp fun {a b} h => ?_
  simp only [Bool.not_eq_eq_eq_not, Bool.not_true] at h
  exact (ltP_false b a).1 h
end Go.Proofs.YtepclafmkhphbabDoor
