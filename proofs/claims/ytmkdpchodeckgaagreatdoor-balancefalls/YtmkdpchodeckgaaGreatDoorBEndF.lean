/- BalanceFalls, as its tied card: of the landed balance, at every input, true. -/
import Derived.Test.YtmkdpchodeckgaaGreatDoorM49
import Derived.Test.YtmkdpchodeckgaaGreatDoorM50
import Derived.Test.YtmkdpchodeckgaaGreatDoorBFRow
namespace Go.Proofs.YtmkdpchodeckgaaGreatDoor
open Go.ChangeShapes Go.WideShapes Go.ChangeAt Go.RowKit

theorem ebF_laid {W : World} (h : laidMetH Tryz.prog Rows.balanceFallsRow.laid W) : ∃ a, EB a W := by
  have h' : laidMet Tryz.prog (sentList api6) W := h
  exact eb_of6 h'
/-- BalanceFalls answers true at every input. -/
theorem balanceFalls_holds : Rows.BalanceFallsCardSaid := balanceFalls.card balanceC fun _ h => ebF_laid h
end Go.Proofs.YtmkdpchodeckgaaGreatDoor
