/- HealthEdges, as its tied card: of the landed health, at every input, true. -/
import Derived.Test.YtkpjecpaejdgaabDoorHL9
import Derived.Test.YtkpjecpaejdgaabDoorHERow
namespace Go.Proofs.YtkpjecpaejdgaabDoor
/-- HealthEdges answers true at every input. -/
theorem healthEdges_holds : Rows.HealthEdgesCardSaid := healthEdges.card healthC
end Go.Proofs.YtkpjecpaejdgaabDoor
