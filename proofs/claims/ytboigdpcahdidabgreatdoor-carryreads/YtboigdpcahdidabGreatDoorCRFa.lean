/- The closed facts of CarryReads' row. -/
import Derived.Test.YtboigdpcahdidabGreatDoorCards
import Derived.Test.YtboigdpcahdidabGreatDoorTie
import Derived.Test.YtboigdpcahdidabGreatDoorLaid
namespace Go.Proofs.YtboigdpcahdidabGreatDoor.carryReads
open Go.RowKit
set_option maxRecDepth 100000 in
set_option maxHeartbeats 20000000 in
theorem closed : joinedFacts Tryz.pinned.checked.prog 5 Tryz.f5 Rows.carryReadsSpec Rows.carryReadsRow = true := by
  unfold joinedFacts
  simp only [Bool.and_eq_true]
  repeat' apply And.intro
  all_goals
    as_aux_lemma => kernel_rfl
end Go.Proofs.YtboigdpcahdidabGreatDoor.carryReads
