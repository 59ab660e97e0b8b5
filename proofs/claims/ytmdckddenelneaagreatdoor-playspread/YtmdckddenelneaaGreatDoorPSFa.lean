/- The closed facts of PlaySpread' row. -/
import Derived.Test.YtmdckddenelneaaGreatDoorCards
import Derived.Test.YtmdckddenelneaaGreatDoorTie
import Derived.Test.YtmdckddenelneaaGreatDoorM43
namespace Go.Proofs.YtmdckddenelneaaGreatDoor.playSpread
open Go.RowKit
set_option maxRecDepth 100000 in
set_option maxHeartbeats 20000000 in
theorem closed : joinedFacts Tryz.pinned.checked.prog 3 Tryz.f3 Rows.playSpreadSpec Rows.playSpreadRow = true := by
  unfold joinedFacts
  simp only [Bool.and_eq_true]
  repeat' apply And.intro
  all_goals
    as_aux_lemma => kernel_rfl
end Go.Proofs.YtmdckddenelneaaGreatDoor.playSpread
