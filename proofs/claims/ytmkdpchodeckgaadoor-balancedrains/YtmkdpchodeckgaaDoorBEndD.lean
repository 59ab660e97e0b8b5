/- BalanceDrains, as its tied card: of the landed balance, at every input, true. -/
import Derived.Test.YtmkdpchodeckgaaDoorM45
import Derived.Test.YtmkdpchodeckgaaDoorBDRow
namespace Go.Proofs.YtmkdpchodeckgaaDoor
open Go.ChangeShapes Go.WideShapes Go.ChangeAt Go.RowKit

theorem ebD_laid {W : World} (h : laidMetH Tryd.prog Rows.balanceDrainsRow.laid W) : ∃ a, EB a W := by
  have h' : laidMet Tryd.prog (sentList api6) W := h
  exact eb_of6 h'
/-- BalanceDrains answers true at every input. -/
theorem balanceDrains_holds : Rows.BalanceDrainsCardSaid := balanceDrains.card balanceC fun _ h => ebD_laid h
end Go.Proofs.YtmkdpchodeckgaaDoor
