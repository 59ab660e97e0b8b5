/- The landed flows' orders: by key, and by the tick at which they are gone; slices.SortFunc of flows. -/
import Derived.Test.YtmkdpchodeckgaaDoorM31
import Derived.Test.YtmkdpchodeckgaaDoorFlSrt
import Derived.Test.YtmkdpchodeckgaaDoorM33
namespace Go.Proofs.YtmkdpchodeckgaaDoor
open Go.RowKit Go.Sort Go.Shelf Go.Lib

def cmpI (x y : Int) : Int := if x < y then -1 else if y < x then 1 else 0
set_option maxHeartbeats 1000000 in
theorem nanI (x : Int) (W : World) : Calls Tryd.prog 65 #[.int .i64 x] W fun e w' => e = .returned (.bool false) ∧ w' = W := by
  go_enter Tryd.func65, Tryd.ntmps65
  go_wp2
  go_ret
  exact ⟨by simp, rfl⟩
set_option maxHeartbeats 1000000 in
theorem compareI (x y : Int) (W : World) : Calls Tryd.prog 53 #[.int .i64 x, .int .i64 y] W fun e w' => e = .returned (.int .i64 (cmpI x y)) ∧ w' = W := by
  unfold cmpI
  by_cases h1 : x < y
  · have e1 : decide (x < y) = true := by simpa using h1
    rw [if_pos h1]
    go_enter Tryd.func53, Tryd.ntmps53
    go_wp2_with (first | (refine (nanI _ _).mono ?_; rintro e w' ⟨rfl, rfl⟩) | fail)
    go_ret
    exact ⟨rfl, rfl⟩
  · have e1 : decide (x < y) = false := by simpa using h1
    rw [if_neg h1]
    by_cases h2 : y < x
    · have e2 : decide (y < x) = true := by simpa using h2
      rw [if_pos h2]
      go_enter Tryd.func53, Tryd.ntmps53
      go_wp2_with (first | (refine (nanI _ _).mono ?_; rintro e w' ⟨rfl, rfl⟩) | fail)
      go_ret
      exact ⟨rfl, rfl⟩
    · have e2 : decide (y < x) = false := by simpa using h2
      rw [if_neg h2]
      go_enter Tryd.func53, Tryd.ntmps53
      go_wp2_with (first | (refine (nanI _ _).mono ?_; rintro e w' ⟨rfl, rfl⟩) | fail)
      go_ret
      exact ⟨rfl, rfl⟩

def cfK (x y : Lh.Fl) : Int := cmpU x.1 y.1
def cfUn (x y : Lh.Fl) : Int := cmpI x.2.2 y.2.2
/-- the two blocks of the parameters -/
theorem grow_two (x y : Lh.Fl) (W : World) : ((W.alloc (.cells #[.int .u64 (x.1 : Nat), .string x.2.1, .int .i64 x.2.2] 75)).alloc (.cells #[.int .u64 (y.1 : Nat), .string y.2.1, .int .i64 y.2.2] 75)) = grow (W.drewN 0) #[.cells #[.int .u64 (x.1 : Nat), .string x.2.1, .int .i64 x.2.2] 75, .cells #[.int .u64 (y.1 : Nat), .string y.2.1, .int .i64 y.2.2] 75] := by rw [alloc_eq_grow, alloc_eq_grow, grow_grow]; rfl
set_option maxHeartbeats 4000000 in
theorem closureK (x y : Lh.Fl) (W : World) : Calls Tryd.prog 38 #[.agg #[.int .u64 (x.1 : Nat), .string x.2.1, .int .i64 x.2.2], .agg #[.int .u64 (y.1 : Nat), .string y.2.1, .int .i64 y.2.2]] W fun e w' => e = .returned (.int .i64 (cfK x y)) ∧ ∃ q os', w' = grow (W.drewN q) os' := by
  have hU := fun W' => compareU x.1 y.1 W'
  have HS : Hid _ := grow_two x y W
  unfold cfK
  generalize cmpU x.1 y.1 = u at *
  go_enter Tryd.func38, Tryd.ntmps38
  go_wp2_with fail
  refine (hU _).mono ?_
  rintro e w' ⟨rfl, rfl⟩
  go_wp2
  go_ret
  exact ⟨rfl, 0, _, HS.out⟩
set_option maxHeartbeats 4000000 in
theorem closureU (x y : Lh.Fl) (W : World) : Calls Tryd.prog 52 #[.agg #[.int .u64 (x.1 : Nat), .string x.2.1, .int .i64 x.2.2], .agg #[.int .u64 (y.1 : Nat), .string y.2.1, .int .i64 y.2.2]] W fun e w' => e = .returned (.int .i64 (cfUn x y)) ∧ Below W.heap.size W w' := by
  have hU := fun W' => compareI x.2.2 y.2.2 W'
  have hb : Below W.heap.size W ((W.alloc (.cells #[.int .u64 (x.1 : Nat), .string x.2.1, .int .i64 x.2.2] 75)).alloc (.cells #[.int .u64 (y.1 : Nat), .string y.2.1, .int .i64 y.2.2] 75)) := ((Below.refl _ _).alloc (Nat.le_refl _) _).alloc (by simp) _
  unfold cfUn
  generalize cmpI x.2.2 y.2.2 = u at *
  go_enter Tryd.func52, Tryd.ntmps52
  go_wp2_with fail
  refine (hU _).mono ?_
  rintro e w' ⟨rfl, rfl⟩
  go_wp2
  go_ret
  exact ⟨rfl, hb⟩

/-- Block g holds the flows L. -/
def FlsAt (W : World) (g : Nat) (L : List Lh.Fl) : Prop := ∀ i (h : i < L.length), W.cell? ⟨g, i * 3, none⟩ = some (.int .u64 (L[i].1 : Nat)) ∧ W.cell? ⟨g, i * 3 + 1, none⟩ = some (.string L[i].2.1) ∧ W.cell? ⟨g, i * 3 + 2, none⟩ = some (.int .i64 L[i].2.2)
theorem fls_of_owns {w : World} {base : Nat} {v : Value} {e : TypeId} {L : List Lh.Fl} (h : w.ownsRow base e 3 v L.length (flatF L)) (h0 : 0 < L.length) : ∃ g cap, v = .slice (some ⟨g, 0, none⟩) L.length cap ∧ base ≤ g ∧ g < w.heap.size ∧ L.length ≤ cap ∧ FlsAt w g L ∧ ∀ k, w.frozen? ⟨g, k, none⟩ = false := by
  obtain ⟨hl, ⟨rfl, h'⟩ | ⟨g, cap, cur, rfl, hbase, hb, hn, hm, hsz, ht⟩⟩ := h
  · omega
  · have hlt : g < w.heap.size := (Array.getElem?_eq_some_iff.1 hb).1
    refine ⟨g, cap, rfl, hbase, hlt, hn, fun i hi => ?_, fun k => by simp [World.frozen?, hb]⟩
    obtain ⟨h1, h2, h3⟩ := flatF_get L i hi
    rw [← ht] at h1 h2 h3
    rw [List.getElem?_take_of_lt (by omega)] at h1 h2 h3
    simp only [World.cell?, hb]
    exact ⟨by simpa using h1, by simpa using h2, by simpa using h3⟩
theorem holds_of_fls {w : World} {g : Nat} {L : List Lh.Fl} (h : FlsAt w g L) (hf : ∀ k, w.frozen? ⟨g, k, none⟩ = false) : HoldsK encF 3 w g 0 L.toArray := by
  intro t ht
  have ht' : t < L.length * 3 := by simpa using ht
  have hi : t / 3 < L.length := by omega
  refine ⟨?_, hf _⟩
  rw [get_flatK _ _ _ _ (by simpa using ht')]
  have e : (L.toArray[t / 3]!) = L[t / 3] := by simp [hi]
  rw [e]
  obtain ⟨h1, h2, h3⟩ := h (t / 3) hi
  have hm : t % 3 = 0 ∨ t % 3 = 1 ∨ t % 3 = 2 := by omega
  rcases hm with hm | hm | hm
  · rw [hm, show 0 + t = t / 3 * 3 by omega, h1]
    rfl
  · rw [hm, show 0 + t = t / 3 * 3 + 1 by omega, h2]
    rfl
  · rw [hm, show 0 + t = t / 3 * 3 + 2 by omega, h3]
    rfl
theorem fls_of_holds {w : World} {g : Nat} {L : List Lh.Fl} (h : HoldsK encF 3 w g 0 L.toArray) : FlsAt w g L := by
  intro i hi
  have h1 := (h.cell (i := i) (c := 0) (by simpa using hi) (by omega)).1
  have h2 := (h.cell (i := i) (c := 1) (by simpa using hi) (by omega)).1
  have h3 := (h.cell (i := i) (c := 2) (by simpa using hi) (by omega)).1
  have e : (L.toArray[i]!) = L[i] := by simp [hi]
  rw [e] at h1 h2 h3
  simp only [Nat.zero_add, Nat.add_zero] at h1 h2 h3
  exact ⟨h1, h2, h3⟩
theorem grownBy_sortedFl {w : World} {g n : Nat} {os : Array Obj} (d : Array Lh.Fl) : w.grownBy (sortWorldK encF 3 w g 0 n d os) (some g) := by
  unfold sortWorldK putRowK
  refine ⟨rfl, rfl, rfl, by simp, fun k hk hne => ?_⟩
  rw [heap_grow_old _ _ (by simpa using hk)]
  have : g ≠ k := fun e => hne (by rw [e])
  simp [putRow, mapBlock, Sort.ahead, Array.getElem?_modify, this]
theorem sortedFl_holds {w : World} {g n : Nat} {os : Array Obj} {d0 d : Array Lh.Fl} (hg : g < w.heap.size) (h : HoldsK encF 3 w g 0 d0) (hs : d.size = d0.size) : HoldsK encF 3 (sortWorldK encF 3 w g 0 n d os) g 0 d := by
  unfold sortWorldK
  exact holdsK_grow _ _ _ _ _ _ _ (by simp [putRowK, putRow, mapBlock, Sort.ahead]; exact hg) (holdsK_putRowK _ _ _ _ _ d0 d h hs)
theorem ltK_iff (x y : Lh.Fl) : ltOf cfK x y = decide (x.1 < y.1) := by
  unfold ltOf cfK cmpU
  by_cases h1 : x.1 < y.1
  · simp [h1]
  · by_cases h2 : y.1 < x.1 <;> simp [h1, h2]
theorem swoK : SWO (ltOf cfK) where
  irrefl x := by rw [ltK_iff]; simp
  trans x y z h1 h2 := by
    rw [ltK_iff] at *
    simp at *
    omega
  ntrans x y z h1 h2 := by
    rw [ltK_iff] at *
    simp at *
    omega
theorem cmpLaysK (blk off size : Nat) (w : World) : CmpLays Tryd.prog 38 #[] encF 3 cfK blk off size w := fun _ _ _ _ x y => closureK x y _
/-- what is sorted by key, each once, is the one list -/
theorem sorted_is {L : List Lh.Fl} (hp : L.Pairwise fun x y => x.1 < y.1) {M : List Lh.Fl} (hM : M.Perm L) {d' : Array Lh.Fl} (h1 : PermIn 0 M.toArray.size M.toArray d') (h2 : SortedIn (ltOf cfK) 0 M.toArray.size d') : d'.toList = L := by
  have hd : d'.toList.Perm L := by
    obtain ⟨hs, _, hpm⟩ := h1
    refine List.Perm.trans ?_ hM
    have e1 : d'.extract 0 M.toArray.size = d' := by rw [← hs]; simp
    have e2 : M.toArray.extract 0 M.toArray.size = M.toArray := by simp
    rw [e1, e2] at hpm
    simpa using hpm
  have hs : d'.size = M.length := by have := hd.length_eq; have := hM.length_eq; simp at *; omega
  have hle : d'.toList.Pairwise fun x y => x.1 ≤ y.1 := by
    rw [List.pairwise_iff_getElem]
    intro i j hi hj hij
    have := h2 i j (Nat.zero_le _) hij (by simp at hi hj ⊢; omega)
    rw [ltK_iff] at this
    simp at hi hj
    simp [hi, hj] at this
    simpa using this
  refine List.Perm.eq_of_pairwise (le := fun x y => decide (x.1 ≤ y.1)) ?_ ?_ ?_ hd
  · intro a b ha hb h3 h4
    exact rise_inj hp (hd.mem_iff.1 ha) hb (by simp at h3 h4; omega)
  · exact hle.imp fun h => by simpa using h
  · exact hp.imp fun h => by simp; omega
theorem entersLK : ∀ args w, (callFunc 38 args).run Tryd.prog w = .ok (.enter 38 args) w := enters_of Tryd.func38 (by kernel_rfl) rfl
theorem frozen_of_holds {w : World} {g : Nat} {L : List Lh.Fl} (h : HoldsK encF 3 w g 0 L.toArray) (k : Nat) (hk : k < L.length * 3) : w.frozen? ⟨g, k, none⟩ = false := by
  have h1 := (h k (by simpa using hk)).2
  rw [Nat.zero_add] at h1
  exact h1
/-- slices.SortFunc of flows, by key. -/
theorem sortFls (g cap : Nat) (M L : List Lh.Fl) (w : World) (hp : L.Pairwise fun x y => x.1 < y.1) (hM : M.Perm L) (hH : FlsAt w g M) (hf : ∀ k, w.frozen? ⟨g, k, none⟩ = false) (hg : g < w.heap.size) (hsz : M.length < 1000000) :
    Calls Tryd.prog 37 #[.slice (some ⟨g, 0, none⟩) M.length cap, .func (.func 38) #[] #[]] w fun e w' => e = .returned (.tuple #[]) ∧ FlsAt w' g L ∧ w.grownBy w' (some g) ∧ ∀ k, k < L.length * 3 → w'.frozen? ⟨g, k, none⟩ = false := by
  have h := AnyQ.slices_SortFunc sortFl 3 Tryd.isAgg75 Tryd.sizeOf75 encF (fun _ => rfl) encF_ones cfK swoK 38 #[] g 0 cap M.toArray w entersLK (cmpLaysK g 0 _ w) (holds_of_fls hH hf) hg (by simp; omega)
  rw [List.size_toArray] at h
  refine Calls.mono h ?_
  rintro e w' ⟨rfl, d', n, os, hp1, hs1, rfl⟩
  have e := sorted_is hp hM (d' := d') (by simpa using hp1) (by simpa using hs1)
  have hl : d'.size = M.toArray.size := hp1.1
  have hh := sortedFl_holds (n := n) (os := os) hg (holds_of_fls hH hf) hl
  refine ⟨rfl, ?_, grownBy_sortedFl d', ?_⟩
  · rw [← e]
    exact fls_of_holds hh
  · rw [← e]
    exact frozen_of_holds hh
end Go.Proofs.YtmkdpchodeckgaaDoor
