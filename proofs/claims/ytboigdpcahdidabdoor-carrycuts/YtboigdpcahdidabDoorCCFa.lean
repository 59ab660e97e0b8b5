/- The closed facts of CarryCuts' row. -/
import Derived.Test.YtboigdpcahdidabDoorCards
import Derived.Test.YtboigdpcahdidabDoorTie
import Derived.Test.YtboigdpcahdidabDoorLaid
namespace Go.Proofs.YtboigdpcahdidabDoor.carryCuts
open Go.RowKit
set_option maxRecDepth 100000 in
set_option maxHeartbeats 20000000 in
theorem closed : joinedFacts Tryd.pinned.checked.prog 11 Tryd.f11 Rows.carryCutsSpec Rows.carryCutsRow = true := by
  unfold joinedFacts
  simp only [Bool.and_eq_true]
  repeat' apply And.intro
  all_goals
    as_aux_lemma => kernel_rfl
end Go.Proofs.YtboigdpcahdidabDoor.carryCuts
