/- The laws' coded and faulted, for stage 9. -/
import Derived.Test.YtboigdpcahdidabDoorFcM
import Derived.Test.YtboigdpcahdidabDoorOwM
namespace Go.Proofs.YtboigdpcahdidabDoor
open Go.RowKit

theorem codedC_is {a : Nat → Addr} {W : World} {c : Nat} {v : Value} (he : Errs a W) (h : ErrIs a W c (-1) v) :
    Calls Tryd.prog 37 #[v, .int .i64 (c : Nat)] W fun e w' => e = .returned (.bool true) ∧ Below W.heap.size W w' := by
  have hc := code_is he h
  clear he h
  go_enter Tryd.func37, Tryd.ntmps37
  go_wp2_with fail
  refine hc.mono ?_
  rintro e w1 ⟨rfl, hb⟩
  clear hc
  go_wp2
  go_ret
  exact ⟨by simp, hb⟩
set_option maxHeartbeats 1000000 in
/-- faulted: the error is the one that the document asks. -/
theorem faultedC_is {a : Nat → Addr} {W : World} {c : Nat} {pl : Int} {v : Value} (he : Errs a W) (h : ErrIs a W c pl v) :
    Calls Tryd.prog 35 #[v, .agg #[.int .i64 c, .int .i64 pl]] W fun e w' => e = .returned (.bool true) ∧ Below W.heap.size W w' := by
  have hba : Below W.heap.size W (W.alloc (.cells #[.int .i64 c, .int .i64 pl] 46)) := (Below.refl _ _).alloc (Nat.le_refl _) _
  have hc := code_is (he.later hba) (h.later hba)
  go_enter Tryd.func35, Tryd.ntmps35
  go_wp2_with fail
  refine hc.mono ?_
  rintro e w1 ⟨rfl, hb1⟩
  have c0 : w1.cell? ⟨W.heap.size, 0, none⟩ = some (.int .i64 c) := below_cell hb1 (by simp)
  have c1 : w1.cell? ⟨W.heap.size, 1, none⟩ = some (.int .i64 pl) := below_cell hb1 (by simp)
  have hbz : Below W.heap.size W w1 := hba.trans (hb1.mono (by simp))
  clear hb1 hba hc
  cases hz : ((c : Int) == 0) with
  | true =>
    go_wp2
    go_ret
    exact ⟨rfl, hbz⟩
  | false =>
    go_wp2
    go_ret
    exact ⟨by simp, hbz⟩
end Go.Proofs.YtboigdpcahdidabDoor
