/- The closed facts of ScriptPlays' row. -/
import Derived.Test.YtfhmfjcpggddkaaGreatDoorCards
import Derived.Test.YtfhmfjcpggddkaaGreatDoorTie
import Derived.Test.YtfhmfjcpggddkaaGreatDoorM0
namespace Go.Proofs.YtfhmfjcpggddkaaGreatDoor.scriptPlays
open Go.RowKit
set_option maxRecDepth 100000 in
set_option maxHeartbeats 20000000 in
theorem closed:joinedFacts Tryz.pinned.checked.prog 5 Tryz.f5 Rows.scriptPlaysSpec Rows.scriptPlaysRow=true:=by
 unfold joinedFacts
 simp only[Bool.and_eq_true]
 repeat' apply And.intro
 all_goals
  as_aux_lemma=>kernel_rfl
end Go.Proofs.YtfhmfjcpggddkaaGreatDoor.scriptPlays
