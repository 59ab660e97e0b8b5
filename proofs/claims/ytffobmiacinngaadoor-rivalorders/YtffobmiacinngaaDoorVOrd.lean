/- The landed byScore: slices.Clone, slices.SortFunc. -/
import Derived.Test.YtffobmiacinngaaDoorVCmp
import Derived.Test.YtffobmiacinngaaDoorFew
import Derived.Test.YtffobmiacinngaaDoorVSrt
namespace Go.Proofs.YtffobmiacinngaaDoor
open Go.RowKit Go.Sort Go.Shelf Go.Lib

abbrev Sub := {s : ByteArray // s.size ≤ 300}
instance : Inhabited Sub := ⟨⟨ByteArray.empty, by decide⟩⟩
def encS (s : Sub) : Value := .string s.1
theorem encS_one : OneCell encS := fun _ => rfl
def cfS (f : ByteArray → Nat) (x y : Sub) : Int := cfR f x.1 y.1
theorem ltS_false (f : ByteArray → Nat) (x y : Sub) : ltOf (cfS f) x y = false ↔ Lh.leR f y.1 x.1 := by
  unfold ltOf cfS cfR cmpU cmpS Lh.leR
  rcases Nat.lt_trichotomy (f x.1) (f y.1) with h | h | h
  · have h2 : ¬ f y.1 < f x.1 := by omega
    simp [h, h2]
  · by_cases h3 : Lh.bl x.1 < Lh.bl y.1
    · have h5 : ¬ Lh.bl y.1 ≤ Lh.bl x.1 := fun h6 => List.not_lt.2 h6 h3
      simp [h, h3]
    · have h5 : Lh.bl y.1 ≤ Lh.bl x.1 := List.not_lt.1 h3
      by_cases h4 : Lh.bl y.1 < Lh.bl x.1
      · simp [h, h3, h4, h5]
      · simp [h, h3, h4, h5]
  · have h2 : ¬ f x.1 < f y.1 := by omega
    have h6 : ¬ f y.1 = f x.1 := by omega
    simp [h, h2, h6]
theorem ltS_true (f : ByteArray → Nat) (x y : Sub) : ltOf (cfS f) x y = true ↔ ¬ Lh.leR f y.1 x.1 := by
  rw [← ltS_false, Bool.not_eq_false]
theorem swoS (f : ByteArray → Nat) : SWO (ltOf (cfS f)) where
  irrefl x := (ltS_false f x x).2 (Lh.leR_refl f x.1)
  trans x y z h1 h2 := by
    rw [ltS_true] at *
    intro h3
    rcases Lh.leR_total f x.1 y.1 with h4 | h4
    · exact h2 (Lh.leR_trans h3 h4)
    · exact h1 h4
  ntrans x y z h1 h2 := by
    rw [ltS_false] at *
    exact Lh.leR_trans h2 h1
theorem sortedS (f : ByteArray → Nat) (d : List Sub) : (d.mergeSort fun x y => !(ltOf (cfS f)) y x).map (·.1) = Lh.order f (d.map (·.1)) := by
  refine Lh.order_unique ?_ ((List.mergeSort_perm _ _).map _)
  rw [List.pairwise_map]
  have := List.pairwise_mergeSort (le := fun x y => !(ltOf (cfS f)) y x) (fun a b c h k => by
    simp only [Bool.not_eq_eq_eq_not, Bool.not_true] at h k ⊢
    rw [ltS_false] at *
    exact Lh.leR_trans h k) (fun a b => by
    rw [Bool.or_eq_true]
    simp only [Bool.not_eq_eq_eq_not, Bool.not_true]
    rw [ltS_false, ltS_false]
    exact Lh.leR_total f a.1 b.1) d
  refine this.imp fun {a b} h => ?_
  simp only [Bool.not_eq_eq_eq_not, Bool.not_true] at h
  exact (ltS_false f b a).1 h

theorem size_sortW {w : World} {g m : Nat} (dk : Array Sub) : (putRow encS (Sort.ahead w m) g 0 dk).heap.size = w.heap.size := by simp [putRow, mapBlock, Sort.ahead]
theorem cell_sortW {w : World} {g kb m : Nat} {dk : Array Sub} {os : Array Obj} {v : Value} (hne : kb ≠ g) (hkl : kb < w.heap.size) (hk : w.cell? ⟨kb, 0, none⟩ = some v) : (sortWorld encS w g 0 m dk os).cell? ⟨kb, 0, none⟩ = some v := by
  unfold sortWorld
  rw [cell?_grow _ _ _ (by rw [size_sortW]; exact hkl), cell?_putRow_other _ _ _ _ _ _ (Or.inl hne)]
  exact hk
theorem grownBy_sortW {w : World} {g n : Nat} {os : Array Obj} (d : Array Sub) : w.grownBy (sortWorld encS w g 0 n d os) (some g) := by
  unfold sortWorld
  refine ⟨rfl, rfl, rfl, by simp [putRow, mapBlock, Sort.ahead], fun k hk hne => ?_⟩
  rw [heap_grow_old _ _ (by rw [size_sortW]; exact hk)]
  have : g ≠ k := fun e => hne (by rw [e])
  simp [putRow, mapBlock, Sort.ahead, Array.getElem?_modify, this]
theorem entersV : ∀ args w, (callFunc 100 args).run Tryd.prog w = .ok (.enter 100 args) w := enters_of Tryd.func100 (by kernel_rfl) rfl

theorem get_encS (l : List Sub) (i : Nat) (h : i < l.length) : encS (l.toArray[i]!) = .string l[i].1 := by
  simp [encS, h]
/-- slices.SortFunc of texts by scores. -/
theorem sortR (k : Nat) (hk : k < 18446744073709551616) (g kb cap : Nat) (d : List Sub) (w : World) (hne : kb ≠ g) (hkl : kb < w.heap.size) (hkb : w.cell? ⟨kb, 0, none⟩ = some (.int .u64 (k : Nat))) (hH : Holds encS w g 0 d.toArray) (hg : g < w.heap.size) (hsz : d.length < 1000000) :
    Calls Tryd.prog 99 #[.slice (some ⟨g, 0, none⟩) d.length cap, .func (.func 100) #[] #[.pointer (some ⟨kb, 0, none⟩)]] w fun e w' => e = .returned (.tuple #[]) ∧ w.grownBy w' (some g) ∧ ∃ d' : List Sub, d'.map (·.1) = Lh.order (Lh.score k) (d.map (·.1)) ∧ ∀ i (h : i < d'.length), w'.cell? ⟨g, i, none⟩ = some (.string d'[i].1) := by
  have hcmp : CmpLays1 Tryd.prog 100 #[.pointer (some ⟨kb, 0, none⟩)] encS (cfS (Lh.score k)) g 0 d.toArray.size w := fun m os dk _ x y =>
    (closureR kb k hk x.1 y.1 x.2 y.2 _ (cell_sortW hne hkl hkb)).mono fun _ _ ⟨h1, h2⟩ => ⟨h1, h2⟩
  have h := Any.slices_SortFunc_total sortS encS encS_one (cfS (Lh.score k)) (swoS _) 100 #[.pointer (some ⟨kb, 0, none⟩)] g 0 cap d.toArray w entersV hcmp hH hg (by simp; omega) (fun x y h1 h2 => Subtype.ext (Lh.leR_antisymm ((ltS_false _ y x).1 h2) ((ltS_false _ x y).1 h1)))
  rw [List.size_toArray] at h
  refine Calls.mono h ?_
  rintro e w' ⟨rfl, n, os, rfl⟩
  refine ⟨rfl, grownBy_sortW _, _, sortedS (Lh.score k) d, fun i hi => ?_⟩
  have hs : (d.mergeSort fun x y => !(ltOf (cfS (Lh.score k))) y x).toArray.size = d.toArray.size := by simp
  have hh : Holds encS (sortWorld encS w g 0 n (d.mergeSort fun x y => !(ltOf (cfS (Lh.score k))) y x).toArray os) g 0 (d.mergeSort fun x y => !(ltOf (cfS (Lh.score k))) y x).toArray := by
    unfold sortWorld
    exact holds_grow _ _ _ _ _ _ (by rw [size_sortW]; exact hg) (holds_putRow _ _ _ _ _ _ (holds_ahead _ _ _ _ _ _ hH) hs)
  have := (hh i (by simpa using hi)).1
  rw [Nat.zero_add] at this
  rw [this, get_encS _ i hi]
end Go.Proofs.YtffobmiacinngaaDoor
