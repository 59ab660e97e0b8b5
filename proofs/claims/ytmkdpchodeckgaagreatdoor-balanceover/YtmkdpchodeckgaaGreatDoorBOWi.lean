/- A start that fits BalanceOver' row. -/
import Derived.Test.YtmkdpchodeckgaaGreatDoorCards
import Derived.Test.YtmkdpchodeckgaaGreatDoorTie
import Derived.Test.YtmkdpchodeckgaaGreatDoorM45
import Derived.Lay
import Derived.Stop.Joined
namespace Go.Proofs.YtmkdpchodeckgaaGreatDoor.balanceOver
open Go.ChangeShapes Go.WideShapes Go.ChangeAt Go.RowKit
theorem start_shape (os : Os) : ((World.laidAll Tryz.prog os Rows.balanceOverRow.laid).forCall (fun _ _ => 0) ⟨#[], #[.slice none 0 0, .int .i64 0], []⟩).Shaped Tryz.prog :=
  World.shaped_of_ZipB (by as_aux_lemma => kernel_rfl) (by as_aux_lemma => kernel_rfl)
theorem start_met (os : Os) (args : Array Value) : laidMetH Tryz.prog Rows.balanceOverRow.laid ((World.laidAll Tryz.prog os Rows.balanceOverRow.laid).forCall (fun _ _ => 0) ⟨#[], args, []⟩).memory := by
  rw [MakeChecks.laidMetH_plain _ _ _ (by kernel_rfl)]
  exact laidMet_laidAll _ (by as_aux_lemma => kernel_rfl) (by as_aux_lemma => kernel_rfl)
end Go.Proofs.YtmkdpchodeckgaaGreatDoor.balanceOver
