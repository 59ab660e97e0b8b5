/- cmp.Compare of numbers and texts, cmp.Or of two. -/
import Derived.Test.YtijdaaghomclmabGreatDoorOwM
import Derived.Sort.Walk0
namespace Go.Proofs.YtijdaaghomclmabGreatDoor
open Go.RowKit Go.Sort

set_option maxHeartbeats 1000000 in
theorem nanU (x : Nat) (W : World) : Calls Tryz.prog 57 #[.int .u64 x] W fun e w' => e = .returned (.bool false) ∧ w' = W := by
  go_enter Tryz.func57, Tryz.ntmps57
  go_wp2
  go_ret
  exact ⟨by simp, rfl⟩
def cmpU (x y : Nat) : Int := if x < y then -1 else if y < x then 1 else 0
def cmpS (x y : ByteArray) : Int := if Lh.bl x < Lh.bl y then -1 else if Lh.bl y < Lh.bl x then 1 else 0
set_option maxHeartbeats 1000000 in
theorem compareU (x y : Nat) (W : World) : Calls Tryz.prog 44 #[.int .u64 x, .int .u64 y] W fun e w' => e = .returned (.int .i64 (cmpU x y)) ∧ w' = W := by
  unfold cmpU
  by_cases h1 : x < y
  · have e1 : decide ((x : Int) < (y : Int)) = true := by simpa using h1
    rw [if_pos h1]
    go_enter Tryz.func44, Tryz.ntmps44
    go_wp2_with (first | (refine (nanU _ _).mono ?_; rintro e w' ⟨rfl, rfl⟩) | fail)
    go_ret
    exact ⟨rfl, rfl⟩
  · have e1 : decide ((x : Int) < (y : Int)) = false := by simpa using h1
    rw [if_neg h1]
    by_cases h2 : y < x
    · have e2 : decide ((y : Int) < (x : Int)) = true := by simpa using h2
      rw [if_pos h2]
      go_enter Tryz.func44, Tryz.ntmps44
      go_wp2_with (first | (refine (nanU _ _).mono ?_; rintro e w' ⟨rfl, rfl⟩) | fail)
      go_ret
      exact ⟨rfl, rfl⟩
    · have e2 : decide ((y : Int) < (x : Int)) = false := by simpa using h2
      rw [if_neg h2]
      go_enter Tryz.func44, Tryz.ntmps44
      go_wp2_with (first | (refine (nanU _ _).mono ?_; rintro e w' ⟨rfl, rfl⟩) | fail)
      go_ret
      exact ⟨rfl, rfl⟩
theorem less_bl (x y : ByteArray) : Op.bytesLess x.toList y.toList = decide (Lh.bl x < Lh.bl y) := by
  rw [bytesLess_eq, ByteArray.toList_eq, ByteArray.toList_eq]
  rfl
theorem more_bl (x y : ByteArray) : (!(Op.bytesLess x.toList y.toList || x.toList == y.toList)) = decide (Lh.bl y < Lh.bl x) := by
  rw [less_bl]
  by_cases h : Lh.bl x < Lh.bl y
  · have h2 : ¬ Lh.bl y < Lh.bl x := List.lt_asymm h
    simp [h, h2]
  · by_cases e : x = y
    · subst e
      have : ¬ Lh.bl x < Lh.bl x := List.lt_irrefl _
      simp [this]
    · have h3 : Lh.bl y < Lh.bl x := by
        refine Classical.byContradiction fun h4 => e (Lh.bl_inj (List.le_antisymm (List.not_lt.1 h4) (List.not_lt.1 h)))
      rw [bytes_parts e]
      simp [h, h3]
end Go.Proofs.YtijdaaghomclmabGreatDoor
