/- The closed facts of CarryTexts' row. -/
import Derived.Test.YtboigdpcahdidabGreatDoorCards
import Derived.Test.YtboigdpcahdidabGreatDoorTie
import Derived.Test.YtboigdpcahdidabGreatDoorLaid
namespace Go.Proofs.YtboigdpcahdidabGreatDoor.carryTexts
open Go.RowKit
set_option maxRecDepth 100000 in
set_option maxHeartbeats 20000000 in
theorem closed : joinedFacts Tryz.pinned.checked.prog 4 Tryz.f4 Rows.carryTextsSpec Rows.carryTextsRow = true := by
  unfold joinedFacts
  simp only [Bool.and_eq_true]
  repeat' apply And.intro
  all_goals
    as_aux_lemma => kernel_rfl
end Go.Proofs.YtboigdpcahdidabGreatDoor.carryTexts
