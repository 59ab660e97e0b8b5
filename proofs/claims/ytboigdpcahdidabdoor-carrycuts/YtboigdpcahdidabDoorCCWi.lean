/- A start that fits CarryCuts' row. -/
import Derived.Test.YtboigdpcahdidabDoorCards
import Derived.Test.YtboigdpcahdidabDoorTie
import Derived.Test.YtboigdpcahdidabDoorLaid
import Derived.Lay
import Derived.Stop.Joined
namespace Go.Proofs.YtboigdpcahdidabDoor.carryCuts
open Go.ChangeShapes Go.WideShapes Go.ChangeAt Go.RowKit
theorem start_shape (os : Os) : ((World.laidAll Tryd.prog os Rows.carryCutsRow.laid).forCall (fun _ _ => 0) ⟨#[], #[.int .i64 0, .slice none 0 0, .int .i64 0, .int .i64 0, .int .u8 0], []⟩).Shaped Tryd.prog :=
  World.shaped_of_ZipB (by as_aux_lemma => kernel_rfl) (by as_aux_lemma => kernel_rfl)
theorem start_met (os : Os) (args : Array Value) : laidMetH Tryd.prog Rows.carryCutsRow.laid ((World.laidAll Tryd.prog os Rows.carryCutsRow.laid).forCall (fun _ _ => 0) ⟨#[], args, []⟩).memory := by
  rw [MakeChecks.laidMetH_plain _ _ _ (by kernel_rfl)]
  exact laidMet_laidAll _ (by as_aux_lemma => kernel_rfl) (by as_aux_lemma => kernel_rfl)
end Go.Proofs.YtboigdpcahdidabDoor.carryCuts
