/- The landed order of points: cmp.Compare, cmp.Or, the function handed to slices.SortFunc. -/
import Derived.Test.YtedbhahkldfmiaaDoorRMath
import Derived.Test.YtedbhahkldfmiaaDoorOwn
import Derived.Shelf.SlSorted.Search
import Derived.Deep.RegionHeld3
namespace Go.Proofs.YtedbhahkldfmiaaDoor
open Go.RowKit Go.Sort Go.Shelf Go.Lib

set_option maxHeartbeats 1000000 in
theorem nanU (x : Nat) (W : World) : Calls Tryd.prog 81 #[.int .u64 x] W fun e w' => e = .returned (.bool false) ∧ w' = W := by
  go_enter Tryd.func81, Tryd.ntmps81
  go_wp2
  go_ret
  exact ⟨by simp, rfl⟩
set_option maxHeartbeats 1000000 in
theorem nanS (x : ByteArray) (W : World) : Calls Tryd.prog 82 #[.string x] W fun e w' => e = .returned (.bool false) ∧ w' = W := by
  go_enter Tryd.func82, Tryd.ntmps82
  go_wp2
  go_ret
  exact ⟨by simp, rfl⟩
def cmpU (x y : Nat) : Int := if x < y then -1 else if y < x then 1 else 0
def cmpS (x y : ByteArray) : Int := if Lh.bl x < Lh.bl y then -1 else if Lh.bl y < Lh.bl x then 1 else 0
set_option maxHeartbeats 1000000 in
theorem compareU (x y : Nat) (W : World) : Calls Tryd.prog 65 #[.int .u64 x, .int .u64 y] W fun e w' => e = .returned (.int .i64 (cmpU x y)) ∧ w' = W := by
  unfold cmpU
  by_cases h1 : x < y
  · have e1 : decide ((x : Int) < (y : Int)) = true := by simpa using h1
    rw [if_pos h1]
    go_enter Tryd.func65, Tryd.ntmps65
    go_wp2_with (first | (refine (nanU _ _).mono ?_; rintro e w' ⟨rfl, rfl⟩) | fail)
    go_ret
    exact ⟨rfl, rfl⟩
  · have e1 : decide ((x : Int) < (y : Int)) = false := by simpa using h1
    rw [if_neg h1]
    by_cases h2 : y < x
    · have e2 : decide ((y : Int) < (x : Int)) = true := by simpa using h2
      rw [if_pos h2]
      go_enter Tryd.func65, Tryd.ntmps65
      go_wp2_with (first | (refine (nanU _ _).mono ?_; rintro e w' ⟨rfl, rfl⟩) | fail)
      go_ret
      exact ⟨rfl, rfl⟩
    · have e2 : decide ((y : Int) < (x : Int)) = false := by simpa using h2
      rw [if_neg h2]
      go_enter Tryd.func65, Tryd.ntmps65
      go_wp2_with (first | (refine (nanU _ _).mono ?_; rintro e w' ⟨rfl, rfl⟩) | fail)
      go_ret
      exact ⟨rfl, rfl⟩
theorem less_bl (x y : ByteArray) : Op.bytesLess x.toList y.toList = decide (Lh.bl x < Lh.bl y) := by
  rw [bytesLess_eq, ByteArray.toList_eq, ByteArray.toList_eq]
  rfl
theorem more_bl (x y : ByteArray) : (!(Op.bytesLess x.toList y.toList || x.toList == y.toList)) = decide (Lh.bl y < Lh.bl x) := by
  rw [less_bl]
  by_cases h : Lh.bl x < Lh.bl y
  · have h2 : ¬ Lh.bl y < Lh.bl x := List.lt_asymm h
    simp [h, h2]
  · by_cases e : x = y
    · subst e
      have : ¬ Lh.bl x < Lh.bl x := List.lt_irrefl _
      simp [this]
    · have h3 : Lh.bl y < Lh.bl x := by
        refine Classical.byContradiction fun h4 => e (Lh.bl_inj (List.le_antisymm (List.not_lt.1 h4) (List.not_lt.1 h)))
      rw [bytes_parts e]
      simp [h, h3]
set_option maxHeartbeats 1000000 in
theorem compareS (x y : ByteArray) (W : World) : Calls Tryd.prog 66 #[.string x, .string y] W fun e w' => e = .returned (.int .i64 (cmpS x y)) ∧ w' = W := by
  unfold cmpS
  by_cases h1 : Lh.bl x < Lh.bl y
  · have e1 : Op.bytesLess x.toList y.toList = true := by rw [less_bl]; simpa using h1
    rw [if_pos h1]
    clear h1
    go_enter Tryd.func66, Tryd.ntmps66
    go_wp2_with (first | (refine (nanS _ _).mono ?_; rintro e w' ⟨rfl, rfl⟩) | fail)
    go_ret
    exact ⟨rfl, rfl⟩
  · have e1 : Op.bytesLess x.toList y.toList = false := by rw [less_bl]; simpa using h1
    have e3 := more_bl x y
    rw [e1, Bool.false_or] at e3
    rw [if_neg h1]
    clear h1
    by_cases h2 : Lh.bl y < Lh.bl x
    · have e2 : (x.toList == y.toList) = false := by simpa [h2] using e3
      rw [if_pos h2]
      clear e3 h2
      go_enter Tryd.func66, Tryd.ntmps66
      go_wp2_with (first | (refine (nanS _ _).mono ?_; rintro e w' ⟨rfl, rfl⟩) | fail)
      go_ret
      exact ⟨rfl, rfl⟩
    · have e2 : (x.toList == y.toList) = true := by simpa [h2] using e3
      rw [if_neg h2]
      clear e3 h2
      go_enter Tryd.func66, Tryd.ntmps66
      go_wp2_with (first | (refine (nanS _ _).mono ?_; rintro e w' ⟨rfl, rfl⟩) | fail)
      go_ret
      exact ⟨rfl, rfl⟩
set_option maxHeartbeats 1000000 in
theorem or_two (b : Nat) (x y : Int) (W : World) (c0 : W.cell? ⟨b, 0, none⟩ = some (.int .i64 x)) (c1 : W.cell? ⟨b, 1, none⟩ = some (.int .i64 y)) :
    Calls Tryd.prog 64 #[.slice (some ⟨b, 0, none⟩) 2 2] W fun e w' => e = .returned (.int .i64 (if x = 0 then y else x)) ∧ w' = W := by
  by_cases hx : x = 0
  · subst hx
    rw [if_pos rfl]
    by_cases hy : y = 0
    · subst hy
      go_enter Tryd.func64, Tryd.ntmps64
      go_wp2
      refine wp_loop_rounds 3 ?_
      rw [rounds_succ]
      go_wp2
      rw [rounds_succ]
      go_wp2
      rw [rounds_succ]
      go_wp2
      go_ret
      exact ⟨rfl, rfl⟩
    · have hy' : (y != 0) = true := by simpa using hy
      clear hy
      go_enter Tryd.func64, Tryd.ntmps64
      go_wp2
      refine wp_loop_rounds 3 ?_
      rw [rounds_succ]
      go_wp2
      rw [rounds_succ]
      go_wp2
      go_ret
      exact ⟨rfl, rfl⟩
  · have hx' : (x != 0) = true := by simpa using hx
    rw [if_neg hx]
    clear hx
    go_enter Tryd.func64, Tryd.ntmps64
    go_wp2
    refine wp_loop_rounds 3 ?_
    rw [rounds_succ]
    go_wp2
    go_ret
    exact ⟨rfl, rfl⟩
set_option maxHeartbeats 4000000 in
theorem closure0 (a1 b1 : Nat) (a2 b2 : ByteArray) (W : World) : Calls Tryd.prog 63 #[.agg #[.int .u64 a1, .string a2], .agg #[.int .u64 b1, .string b2]] W fun e w' => e = .returned (.int .i64 (if cmpU a1 b1 = 0 then cmpS a2 b2 else cmpU a1 b1)) ∧ ∃ q os', w' = grow (W.drewN q) os' := by
  have hU := fun W' => compareU a1 b1 W'
  have hS := fun W' => compareS a2 b2 W'
  generalize cmpU a1 b1 = u at *
  generalize cmpS a2 b2 = v at *
  have hO := fun b W' c0 c1 => or_two b u v W' c0 c1
  generalize (if u = 0 then v else u) = r at hO ⊢
  go_enter Tryd.func63, Tryd.ntmps63
  go_wp2_with fail
  have p0 : ((W.alloc (.cells #[.int .u64 a1, .string a2] 100)).alloc (.cells #[.int .u64 b1, .string b2] 100)).cell? ⟨W.heap.size, 0, none⟩ = some (.int .u64 a1) := by simp
  have p1 : ((W.alloc (.cells #[.int .u64 a1, .string a2] 100)).alloc (.cells #[.int .u64 b1, .string b2] 100)).cell? ⟨W.heap.size, 1, none⟩ = some (.string a2) := by simp
  have p2 : ((W.alloc (.cells #[.int .u64 a1, .string a2] 100)).alloc (.cells #[.int .u64 b1, .string b2] 100)).cell? ⟨W.heap.size + 1, 0, none⟩ = some (.int .u64 b1) := by simp
  have p3 : ((W.alloc (.cells #[.int .u64 a1, .string a2] 100)).alloc (.cells #[.int .u64 b1, .string b2] 100)).cell? ⟨W.heap.size + 1, 1, none⟩ = some (.string b2) := by simp
  have hs : ((W.alloc (.cells #[.int .u64 a1, .string a2] 100)).alloc (.cells #[.int .u64 b1, .string b2] 100)) = grow (W.drewN 0) #[.cells #[.int .u64 a1, .string a2] 100, .cells #[.int .u64 b1, .string b2] 100] := by rw [alloc_eq_grow, alloc_eq_grow, grow_grow]; rfl
  have HS : Hid _ := hs
  clear hs
  generalize ((W.alloc (.cells #[.int .u64 a1, .string a2] 100)).alloc (.cells #[.int .u64 b1, .string b2] 100)) = W2 at *
  go_region_held3 (fun w' => w'.cell? ⟨W.heap.size, 0, none⟩ = some (.int .u64 a1) ∧ w'.cell? ⟨W.heap.size, 1, none⟩ = some (.string a2) ∧ w'.cell? ⟨W.heap.size + 1, 0, none⟩ = some (.int .u64 b1) ∧ w'.cell? ⟨W.heap.size + 1, 1, none⟩ = some (.string b2)) (go_keep) (first
    | (go_at_call 65; refine (hU _).mono ?_; rintro e w' ⟨rfl, rfl⟩)
    | (go_at_call 66; refine (hS _).mono ?_; rintro e w' ⟨rfl, rfl⟩)
    | (go_at_call 64; refine (hO _ _ (by simp) (by simp)).mono ?_; rintro e w' ⟨rfl, rfl⟩))
  all_goals
    go_wp2
    go_ret
    exact ⟨rfl, 1, _, by rw [HS.out, alloc_eq_grow, grow_grow]; rfl⟩
theorem cfP_or (x y : Lh.Pt) : (if cmpU x.1 y.1 = 0 then cmpS x.2 y.2 else cmpU x.1 y.1) = cfP x y := by
  unfold cmpU cmpS cfP
  by_cases h1 : x.1 < y.1
  · simp [h1]
  · by_cases h2 : y.1 < x.1
    · simp [h1, h2]
    · simp [h1, h2]
/-- The function handed to slices.SortFunc. -/
theorem closureP (x y : Lh.Pt) (W : World) : Calls Tryd.prog 63 #[.agg #[.int .u64 (x.1 : Nat), .string x.2], .agg #[.int .u64 (y.1 : Nat), .string y.2]] W fun e w' => e = .returned (.int .i64 (cfP x y)) ∧ ∃ q os', w' = grow (W.drewN q) os' := by
  rw [← cfP_or]
  exact closure0 x.1 y.1 x.2 y.2 W
end Go.Proofs.YtedbhahkldfmiaaDoor
