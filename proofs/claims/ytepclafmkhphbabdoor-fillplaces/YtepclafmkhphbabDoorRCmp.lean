/- The landed order of points: the function handed to slices.SortFunc. -/
import Derived.Test.YtepclafmkhphbabDoorCmpF
import Derived.Shelf.SlSorted.Search
import Derived.Deep.RegionHeld3
namespace Go.Proofs.YtepclafmkhphbabDoor
open Go.RowKit Go.Sort Go.Shelf Go.Lib

set_option maxHeartbeats 4000000 in
theorem closure0 (a1 b1 : Nat) (a2 b2 : ByteArray) (W : World) : Calls Tryd.prog 42 #[.agg #[.int .u64 a1, .string a2], .agg #[.int .u64 b1, .string b2]] W fun e w' => e = .returned (.int .i64 (if cmpU a1 b1 = 0 then cmpS a2 b2 else cmpU a1 b1)) ∧ ∃ q os', w' = grow (W.drewN q) os' := by
  have hU := fun W' => compareU a1 b1 W'
  have hS := fun W' => compareS a2 b2 W'
  generalize cmpU a1 b1 = u at *
  generalize cmpS a2 b2 = v at *
  have hO := fun b W' c0 c1 => or_two b u v W' c0 c1
  generalize (if u = 0 then v else u) = r at hO ⊢
  go_enter Tryd.func42, Tryd.ntmps42
  go_wp2_with fail
  have p0 : ((W.alloc (.cells #[.int .u64 a1, .string a2] 79)).alloc (.cells #[.int .u64 b1, .string b2] 79)).cell? ⟨W.heap.size, 0, none⟩ = some (.int .u64 a1) := by simp
  have p1 : ((W.alloc (.cells #[.int .u64 a1, .string a2] 79)).alloc (.cells #[.int .u64 b1, .string b2] 79)).cell? ⟨W.heap.size, 1, none⟩ = some (.string a2) := by simp
  have p2 : ((W.alloc (.cells #[.int .u64 a1, .string a2] 79)).alloc (.cells #[.int .u64 b1, .string b2] 79)).cell? ⟨W.heap.size + 1, 0, none⟩ = some (.int .u64 b1) := by simp
  have p3 : ((W.alloc (.cells #[.int .u64 a1, .string a2] 79)).alloc (.cells #[.int .u64 b1, .string b2] 79)).cell? ⟨W.heap.size + 1, 1, none⟩ = some (.string b2) := by simp
  have hs : ((W.alloc (.cells #[.int .u64 a1, .string a2] 79)).alloc (.cells #[.int .u64 b1, .string b2] 79)) = grow (W.drewN 0) #[.cells #[.int .u64 a1, .string a2] 79, .cells #[.int .u64 b1, .string b2] 79] := by rw [alloc_eq_grow, alloc_eq_grow, grow_grow]; rfl
  have HS : Hid _ := hs
  clear hs
  generalize ((W.alloc (.cells #[.int .u64 a1, .string a2] 79)).alloc (.cells #[.int .u64 b1, .string b2] 79)) = W2 at *
  go_region_held3 (fun w' => w'.cell? ⟨W.heap.size, 0, none⟩ = some (.int .u64 a1) ∧ w'.cell? ⟨W.heap.size, 1, none⟩ = some (.string a2) ∧ w'.cell? ⟨W.heap.size + 1, 0, none⟩ = some (.int .u64 b1) ∧ w'.cell? ⟨W.heap.size + 1, 1, none⟩ = some (.string b2)) (go_keep) (first
    | (go_at_call 44; refine (hU _).mono ?_; rintro e w' ⟨rfl, rfl⟩)
    | (go_at_call 45; refine (hS _).mono ?_; rintro e w' ⟨rfl, rfl⟩)
    | (go_at_call 43; refine (hO _ _ (by simp) (by simp)).mono ?_; rintro e w' ⟨rfl, rfl⟩))
  all_goals
    go_wp2
    go_ret
    exact ⟨rfl, 1, _, by rw [HS.out, alloc_eq_grow, grow_grow]; rfl⟩
theorem cfP_or (x y : Lh.Pt) : (if cmpU x.1 y.1 = 0 then cmpS x.2 y.2 else cmpU x.1 y.1) = cfP x y := by
  unfold cmpU cmpS cfP
  by_cases h1 : x.1 < y.1
  · simp [h1]
  · by_cases h2 : y.1 < x.1
    · simp [h1, h2]
    · simp [h1, h2]
/-- The function handed to slices.SortFunc. -/
theorem closureP (x y : Lh.Pt) (W : World) : Calls Tryd.prog 42 #[.agg #[.int .u64 (x.1 : Nat), .string x.2], .agg #[.int .u64 (y.1 : Nat), .string y.2]] W fun e w' => e = .returned (.int .i64 (cfP x y)) ∧ ∃ q os', w' = grow (W.drewN q) os' := by
  rw [← cfP_or]
  exact closure0 x.1 y.1 x.2 y.2 W
end Go.Proofs.YtepclafmkhphbabDoor
