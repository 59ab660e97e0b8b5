/- cmp.Compare of numbers and texts, cmp.Or of two. -/
import Derived.Test.YtijdaaghomclmabDoorRMath
import Derived.Test.YtijdaaghomclmabDoorOwn
import Derived.Sort.Walk0
namespace Go.Proofs.YtijdaaghomclmabDoor
open Go.RowKit Go.Sort

set_option maxHeartbeats 1000000 in
theorem nanU (x : Nat) (W : World) : Calls Tryd.prog 111 #[.int .u64 x] W fun e w' => e = .returned (.bool false) ∧ w' = W := by
  go_enter Tryd.func111, Tryd.ntmps111
  go_wp2
  go_ret
  exact ⟨by simp, rfl⟩
set_option maxHeartbeats 1000000 in
theorem nanS (x : ByteArray) (W : World) : Calls Tryd.prog 112 #[.string x] W fun e w' => e = .returned (.bool false) ∧ w' = W := by
  go_enter Tryd.func112, Tryd.ntmps112
  go_wp2
  go_ret
  exact ⟨by simp, rfl⟩
def cmpU (x y : Nat) : Int := if x < y then -1 else if y < x then 1 else 0
def cmpS (x y : ByteArray) : Int := if Lh.bl x < Lh.bl y then -1 else if Lh.bl y < Lh.bl x then 1 else 0
set_option maxHeartbeats 1000000 in
theorem compareU (x y : Nat) (W : World) : Calls Tryd.prog 71 #[.int .u64 x, .int .u64 y] W fun e w' => e = .returned (.int .i64 (cmpU x y)) ∧ w' = W := by
  unfold cmpU
  by_cases h1 : x < y
  · have e1 : decide ((x : Int) < (y : Int)) = true := by simpa using h1
    rw [if_pos h1]
    go_enter Tryd.func71, Tryd.ntmps71
    go_wp2_with (first | (refine (nanU _ _).mono ?_; rintro e w' ⟨rfl, rfl⟩) | fail)
    go_ret
    exact ⟨rfl, rfl⟩
  · have e1 : decide ((x : Int) < (y : Int)) = false := by simpa using h1
    rw [if_neg h1]
    by_cases h2 : y < x
    · have e2 : decide ((y : Int) < (x : Int)) = true := by simpa using h2
      rw [if_pos h2]
      go_enter Tryd.func71, Tryd.ntmps71
      go_wp2_with (first | (refine (nanU _ _).mono ?_; rintro e w' ⟨rfl, rfl⟩) | fail)
      go_ret
      exact ⟨rfl, rfl⟩
    · have e2 : decide ((y : Int) < (x : Int)) = false := by simpa using h2
      rw [if_neg h2]
      go_enter Tryd.func71, Tryd.ntmps71
      go_wp2_with (first | (refine (nanU _ _).mono ?_; rintro e w' ⟨rfl, rfl⟩) | fail)
      go_ret
      exact ⟨rfl, rfl⟩
theorem less_bl (x y : ByteArray) : Op.bytesLess x.toList y.toList = decide (Lh.bl x < Lh.bl y) := by
  rw [bytesLess_eq, ByteArray.toList_eq, ByteArray.toList_eq]
  rfl
theorem more_bl (x y : ByteArray) : (!(Op.bytesLess x.toList y.toList || x.toList == y.toList)) = decide (Lh.bl y < Lh.bl x) := by
  rw [less_bl]
  by_cases h : Lh.bl x < Lh.bl y
  · have h2 : ¬ Lh.bl y < Lh.bl x := List.lt_asymm h
    simp [h, h2]
  · by_cases e : x = y
    · subst e
      have : ¬ Lh.bl x < Lh.bl x := List.lt_irrefl _
      simp [this]
    · have h3 : Lh.bl y < Lh.bl x := by
        refine Classical.byContradiction fun h4 => e (Lh.bl_inj (List.le_antisymm (List.not_lt.1 h4) (List.not_lt.1 h)))
      rw [bytes_parts e]
      simp [h, h3]
set_option maxHeartbeats 1000000 in
theorem compareS (x y : ByteArray) (W : World) : Calls Tryd.prog 72 #[.string x, .string y] W fun e w' => e = .returned (.int .i64 (cmpS x y)) ∧ w' = W := by
  unfold cmpS
  by_cases h1 : Lh.bl x < Lh.bl y
  · have e1 : Op.bytesLess x.toList y.toList = true := by rw [less_bl]; simpa using h1
    rw [if_pos h1]
    clear h1
    go_enter Tryd.func72, Tryd.ntmps72
    go_wp2_with (first | (refine (nanS _ _).mono ?_; rintro e w' ⟨rfl, rfl⟩) | fail)
    go_ret
    exact ⟨rfl, rfl⟩
  · have e1 : Op.bytesLess x.toList y.toList = false := by rw [less_bl]; simpa using h1
    have e3 := more_bl x y
    rw [e1, Bool.false_or] at e3
    rw [if_neg h1]
    clear h1
    by_cases h2 : Lh.bl y < Lh.bl x
    · have e2 : (x.toList == y.toList) = false := by simpa [h2] using e3
      rw [if_pos h2]
      clear e3 h2
      go_enter Tryd.func72, Tryd.ntmps72
      go_wp2_with (first | (refine (nanS _ _).mono ?_; rintro e w' ⟨rfl, rfl⟩) | fail)
      go_ret
      exact ⟨rfl, rfl⟩
    · have e2 : (x.toList == y.toList) = true := by simpa [h2] using e3
      rw [if_neg h2]
      clear e3 h2
      go_enter Tryd.func72, Tryd.ntmps72
      go_wp2_with (first | (refine (nanS _ _).mono ?_; rintro e w' ⟨rfl, rfl⟩) | fail)
      go_ret
      exact ⟨rfl, rfl⟩
set_option maxHeartbeats 1000000 in
theorem or_two (b : Nat) (x y : Int) (W : World) (c0 : W.cell? ⟨b, 0, none⟩ = some (.int .i64 x)) (c1 : W.cell? ⟨b, 1, none⟩ = some (.int .i64 y)) :
    Calls Tryd.prog 70 #[.slice (some ⟨b, 0, none⟩) 2 2] W fun e w' => e = .returned (.int .i64 (if x = 0 then y else x)) ∧ w' = W := by
  by_cases hx : x = 0
  · subst hx
    rw [if_pos rfl]
    by_cases hy : y = 0
    · subst hy
      go_enter Tryd.func70, Tryd.ntmps70
      go_wp2
      refine wp_loop_rounds 3 ?_
      rw [rounds_succ]
      go_wp2
      rw [rounds_succ]
      go_wp2
      rw [rounds_succ]
      go_wp2
      go_ret
      exact ⟨rfl, rfl⟩
    · have hy' : (y != 0) = true := by simpa using hy
      clear hy
      go_enter Tryd.func70, Tryd.ntmps70
      go_wp2
      refine wp_loop_rounds 3 ?_
      rw [rounds_succ]
      go_wp2
      rw [rounds_succ]
      go_wp2
      go_ret
      exact ⟨rfl, rfl⟩
  · have hx' : (x != 0) = true := by simpa using hx
    rw [if_neg hx]
    clear hx
    go_enter Tryd.func70, Tryd.ntmps70
    go_wp2
    refine wp_loop_rounds 3 ?_
    rw [rounds_succ]
    go_wp2
    go_ret
    exact ⟨rfl, rfl⟩
end Go.Proofs.YtijdaaghomclmabDoor
