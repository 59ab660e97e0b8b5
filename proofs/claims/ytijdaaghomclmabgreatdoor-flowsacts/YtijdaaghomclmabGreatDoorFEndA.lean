/- FlowsActs, as its tied card: of the landed flows, at every input, true. -/
import Derived.Test.YtijdaaghomclmabGreatDoorFlLan
import Derived.Test.YtijdaaghomclmabGreatDoorFARow
namespace Go.Proofs.YtijdaaghomclmabGreatDoor
/-- FlowsActs answers true at every input. -/
theorem flowsActs_holds : Rows.FlowsActsCardSaid := flowsActs.card flowsC
end Go.Proofs.YtijdaaghomclmabGreatDoor
