/- The closed facts of PlayAgain' row. -/
import Derived.Test.YtmdckddenelneaaGreatDoorCards
import Derived.Test.YtmdckddenelneaaGreatDoorTie
import Derived.Test.YtmdckddenelneaaGreatDoorM47
namespace Go.Proofs.YtmdckddenelneaaGreatDoor.playAgain
open Go.RowKit
set_option maxRecDepth 100000 in
set_option maxHeartbeats 20000000 in
theorem closed : joinedFacts Tryz.pinned.checked.prog 4 Tryz.f4 Rows.playAgainSpec Rows.playAgainRow = true := by
  unfold joinedFacts
  simp only [Bool.and_eq_true]
  repeat' apply And.intro
  all_goals
    as_aux_lemma => kernel_rfl
end Go.Proofs.YtmdckddenelneaaGreatDoor.playAgain
