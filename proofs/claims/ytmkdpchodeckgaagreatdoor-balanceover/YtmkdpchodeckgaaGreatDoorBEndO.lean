/- BalanceOver, as its tied card: of the landed balance, at every input, true. -/
import Derived.Test.YtmkdpchodeckgaaGreatDoorM45
import Derived.Test.YtmkdpchodeckgaaGreatDoorM46
import Derived.Test.YtmkdpchodeckgaaGreatDoorBORow
namespace Go.Proofs.YtmkdpchodeckgaaGreatDoor
open Go.ChangeShapes Go.WideShapes Go.ChangeAt Go.RowKit

theorem ebO_laid (W : World) (h : laidMetH Tryz.prog Rows.balanceOverRow.laid W) (hs : W.ShapedOpen Tryz.prog) : ∃ a, balanceC.E a W ∧ balanceC.X a W :=
  eb_of8 ("math/bits.deBruijn32tab", Rows.laid_math_bits_deBruijn32tab) ("unicode/utf8.acceptRanges", Rows.laid_unicode_utf8_acceptRanges) ("unicode/utf8.first", Rows.laid_unicode_utf8_first) h hs
/-- BalanceOver answers true at every input. -/
theorem balanceOver_holds : Rows.BalanceOverCardSaid := balanceOver.card balanceC ebO_laid
end Go.Proofs.YtmkdpchodeckgaaGreatDoor
