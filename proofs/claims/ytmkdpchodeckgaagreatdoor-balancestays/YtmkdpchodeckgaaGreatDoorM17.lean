/- The law's coded. -/
import Derived.Test.YtmkdpchodeckgaaGreatDoorM0
import Derived.Test.YtmkdpchodeckgaaGreatDoorM15
import Derived.Test.YtmkdpchodeckgaaGreatDoorRow
namespace Go.Proofs.YtmkdpchodeckgaaGreatDoor
open Go.RowKit

end Go.Proofs.YtmkdpchodeckgaaGreatDoor

/- Names: the walk. -/
namespace Go.Proofs.YtmkdpchodeckgaaGreatDoor
open Go.RowKit

def namesList : List Int := [12, 12, 503, 16, 500, 1048576, 200, 1099511627776, 1000, 10, 20000, 3000, 100, 16]
theorem ints_alloc (w : World) (xs : List Int) (c : Nat) (t : TypeId) : Ints (w.alloc (.cells (xs.map (Value.int .i64)).toArray t)) (.slice (some ⟨w.heap.size, 0, none⟩) xs.length c) xs := by
  refine Or.inr ⟨_, _, c, rfl, fun k hk => ?_⟩
  rw [World.cell?_alloc_at _ _ _ _ rfl]
  simp [hk]
theorem ints_alloc2 (w : World) (xs ys : List Int) (c : Nat) (t : TypeId) : Ints ((w.alloc (.cells (xs.map (Value.int .i64)).toArray t)).alloc (.cells (ys.map (Value.int .i64)).toArray t)) (.slice (some ⟨w.heap.size, 0, none⟩) xs.length c) xs :=
  (ints_alloc w xs c t).later ((Below.refl _ _).alloc (Nat.le_refl _) _)
theorem ints_alloc2' (w : World) (xs ys : List Int) (c : Nat) (t : TypeId) : Ints ((w.alloc (.cells (xs.map (Value.int .i64)).toArray t)).alloc (.cells (ys.map (Value.int .i64)).toArray t)) (.slice (some ⟨w.heap.size + 1, 0, none⟩) ys.length c) ys := by
  have := ints_alloc (w.alloc (.cells (xs.map (Value.int .i64)).toArray t)) ys c t
  simpa using this

theorem heap_new (w : World) (o : Obj) : (w.alloc o).heap[w.heap.size]? = some o := by
  show (w.heap.push o)[w.heap.size]? = some o
  simp
theorem new_any (s : ByteArray) (w : World) : Calls Tryz.prog 184 #[.string s] w fun e w' => e = .returned (.iface 236 (.pointer (some ⟨w.heap.size, 0, none⟩))) ∧ w' = w.alloc (.cells #[.string s] 238) := by
  go_enter Tryz.func184, Tryz.ntmps184
  go_wp2
  go_ret
  exact ⟨rfl, rfl⟩

end Go.Proofs.YtmkdpchodeckgaaGreatDoor

/- tabled: one host has all slots. -/
namespace Go.Proofs.YtmkdpchodeckgaaGreatDoor
open Go.RowKit

def nameA : ByteArray := ⟨#[97]⟩
theorem nameA_nm : Lh.isNm nameA = true := by decide +kernel
theorem faultA : IsFault [nameA] 0 (-1) := by
  refine Or.inr (Or.inr ⟨by simp, fun j hj => ?_, rfl, rfl⟩)
  have : j = 0 := by simp at hj; omega
  subst this
  exact ⟨nameA_nm, rfl⟩
theorem sizeA : nameA.size ≤ 300 := by decide +kernel
theorem prm3 : Lh.Prm 3 := ⟨by decide, fun k h2 h3 => by
  have : k = 2 := by omega
  subst this
  decide⟩
theorem tab3 : Lh.tab [nameA] 3 3 = [0, 0, 0] := by
  have hl : (Lh.tab [nameA] 3 3).length = 3 := Lh.tab_length _ _ _
  have hz : ∀ x, x < 3 → (Lh.tab [nameA] 3 3).getD x 0 = 0 := fun x hx => by
    obtain ⟨i, hi, e⟩ := Lh.tab_full (xs := [nameA]) prm3 (by simp) hx
    have : i = 0 := by simp at hi; omega
    subst this
    exact e
  generalize Lh.tab [nameA] 3 3 = t at *
  match t, hl with
  | [x, y, z], _ =>
    have h0 := hz 0 (by decide)
    have h1 := hz 1 (by decide)
    have h2 := hz 2 (by decide)
    simp at h0 h1 h2
    rw [h0, h1, h2]
theorem strs1_A (w : World) : Strs1 (w.alloc (.cells #[.string nameA] 9)) (.slice (some ⟨w.heap.size, 0, none⟩) 1 1) [nameA] :=
  Or.inr ⟨w.heap.size, 0, 1, rfl, by simp, fun k hk => by
    have : k = 0 := by simp at hk; omega
    subst this
    simp⟩

end Go.Proofs.YtmkdpchodeckgaaGreatDoor

/- The landed Counts. -/
namespace Go.Proofs.YtmkdpchodeckgaaGreatDoor
open Go.RowKit

/-- how often each stands there -/
def cnt (l : List Int) (m : Nat) : List Int := (List.range m).map fun h => ((l.count ((h : Nat) : Int) : Nat) : Int)
theorem cnt_length (l : List Int) (m : Nat) : (cnt l m).length = m := by simp [cnt]
theorem cnt_get (l : List Int) (m : Nat) {h : Nat} (hh : h < (cnt l m).length) : (cnt l m)[h] = ((l.count ((h : Nat) : Int) : Nat) : Int) := by simp [cnt]
theorem cnt_nil (m : Nat) : cnt [] m = List.replicate m 0 := by
  apply List.ext_getElem
  · simp [cnt]
  · intro i h1 h2
    simp [cnt]
theorem cnt_snoc (l : List Int) (m x : Nat) : cnt (l ++ [((x : Nat) : Int)]) m = (cnt l m).set x (((l.count ((x : Nat) : Int) : Nat) : Int) + 1) := by
  apply List.ext_getElem
  · simp [cnt]
  · intro i h1 h2
    rw [cnt_get, List.getElem_set]
    by_cases e : x = i
    · subst e
      simp [List.count_append]
    · have e' : ¬ ((x : Int) = (i : Int)) := by omega
      rw [if_neg e, cnt_get]
      simp [List.count_append, e']

/-- What is wrong with a list of numbers: the first one that is none of a host's. -/
def CntFault (l : List Int) (many : Int) (c : Nat) (pl : Int) : Prop :=
  ((many < 0 ∨ 12 < many) ∧ c = 2 ∧ pl = -1) ∨
  (∃ m : Nat, many = m ∧ m ≤ 12 ∧ ∃ i, ∃ h : i < l.length, (∀ j, j < i → ∀ hj : j < l.length, 0 ≤ l[j] ∧ l[j] < m) ∧ ¬ (0 ≤ l[i] ∧ l[i] < m) ∧ c = 2 ∧ pl = i) ∨
  (∃ m : Nat, many = m ∧ m ≤ 12 ∧ (∀ j, ∀ hj : j < l.length, 0 ≤ l[j] ∧ l[j] < m) ∧ c = 0 ∧ pl = -1)
theorem cnt_scan (l : List Int) (m : Nat) : ∀ n, n ≤ l.length → (∀ j, j < n → ∀ hj : j < l.length, 0 ≤ l[j] ∧ l[j] < m) ∨ ∃ i, ∃ h : i < l.length, (∀ j, j < i → ∀ hj : j < l.length, 0 ≤ l[j] ∧ l[j] < m) ∧ ¬ (0 ≤ l[i] ∧ l[i] < m)
  | 0, _ => Or.inl fun j h => absurd h (by omega)
  | n + 1, hn => by
    rcases cnt_scan l m n (by omega) with h | h
    · by_cases hg : 0 ≤ l[n] ∧ l[n] < m
      · refine Or.inl fun j hj hl => ?_
        by_cases e : j = n
        · subst e; exact hg
        · exact h j (by omega) hl
      · exact Or.inr ⟨n, by omega, h, hg⟩
    · exact Or.inr h
theorem cntFault_ex (l : List Int) (many : Int) : ∃ c pl, CntFault l many c pl := by
  by_cases h : many < 0 ∨ 12 < many
  · exact ⟨2, -1, Or.inl ⟨h, rfl, rfl⟩⟩
  · obtain ⟨m, hm⟩ := Int.eq_ofNat_of_zero_le (show 0 ≤ many by omega)
    rcases cnt_scan l m l.length (Nat.le_refl _) with hg | ⟨i, hi, hp, hb⟩
    · exact ⟨0, -1, Or.inr (Or.inr ⟨m, hm, by omega, fun j hj => hg j hj hj, rfl, rfl⟩)⟩
    · exact ⟨2, i, Or.inr (Or.inl ⟨m, hm, by omega, i, hi, hp, hb, rfl, rfl⟩)⟩

theorem cnt_bad_at {l : List Int} {m c : Nat} {pl : Int} (hf : CntFault l m c pl) (hm : m ≤ 12) {k : Nat} (hk : k < l.length) (hp : ∀ j, j < k → ∀ hj : j < l.length, 0 ≤ l[j] ∧ l[j] < m) (hb : ¬ (0 ≤ l[k] ∧ l[k] < m)) : c = 2 ∧ pl = k := by
  rcases hf with ⟨h, _⟩ | ⟨m', e, _, i, hi, hpi, hbi, hc, hpl⟩ | ⟨m', e, _, hg, _⟩
  · omega
  · have : m = m' := by omega
    subst this
    rcases Nat.lt_trichotomy i k with h | h | h
    · exact absurd (hp i h hi) hbi
    · subst h; exact ⟨hc, hpl⟩
    · exact absurd (hpi k h hk) hb
  · have : m = m' := by omega
    subst this
    exact absurd (hg k hk) hb
theorem cnt_none {l : List Int} {m c : Nat} {pl : Int} (hf : CntFault l m c pl) (hm : m ≤ 12) (hp : ∀ j, ∀ hj : j < l.length, 0 ≤ l[j] ∧ l[j] < m) : c = 0 ∧ pl = -1 := by
  rcases hf with ⟨h, _⟩ | ⟨m', e, _, i, hi, _, hbi, _⟩ | ⟨_, _, _, _, hc, hpl⟩
  · omega
  · have : m = m' := by omega
    subst this
    exact absurd (hp i hi) hbi
  · exact ⟨hc, hpl⟩

end Go.Proofs.YtmkdpchodeckgaaGreatDoor
