/- The closed facts of BalanceOver' row. -/
import Derived.Test.YtmkdpchodeckgaaGreatDoorCards
import Derived.Test.YtmkdpchodeckgaaGreatDoorTie
import Derived.Test.YtmkdpchodeckgaaGreatDoorM45
namespace Go.Proofs.YtmkdpchodeckgaaGreatDoor.balanceOver
open Go.RowKit
set_option maxRecDepth 100000 in
set_option maxHeartbeats 20000000 in
theorem closed : joinedFacts Tryz.pinned.checked.prog 5 Tryz.f5 Rows.balanceOverSpec Rows.balanceOverRow = true := by
  unfold joinedFacts
  simp only [Bool.and_eq_true]
  repeat' apply And.intro
  all_goals
    as_aux_lemma => kernel_rfl
end Go.Proofs.YtmkdpchodeckgaaGreatDoor.balanceOver
