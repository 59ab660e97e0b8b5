/- HealthActs, as its tied card: of the landed health, at every input, true. -/
import Derived.Test.YtkpjecpaejdgaabDoorHL9
import Derived.Test.YtkpjecpaejdgaabDoorHARow
namespace Go.Proofs.YtkpjecpaejdgaabDoor
/-- HealthActs answers true at every input. -/
theorem healthActs_holds : Rows.HealthActsCardSaid := healthActs.card healthC
end Go.Proofs.YtkpjecpaejdgaabDoor
