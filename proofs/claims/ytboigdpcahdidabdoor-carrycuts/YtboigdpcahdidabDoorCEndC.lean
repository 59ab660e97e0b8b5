/- CarryCuts, as its tied card: of the landed carry, at every input, true. -/
import Derived.Test.YtboigdpcahdidabDoorCbLd
import Derived.Test.YtboigdpcahdidabDoorCCRow
namespace Go.Proofs.YtboigdpcahdidabDoor
theorem cuts_laid (W : World) (h : laidMetH Tryd.prog Rows.carryCutsRow.laid W) (hs : W.ShapedOpen Tryd.prog) : ∃ a, carryC.E a W :=
  ec_of5 ("math/bits.deBruijn32tab", Rows.laid_math_bits_deBruijn32tab) ("unicode/utf8.acceptRanges", Rows.laid_unicode_utf8_acceptRanges) ("unicode/utf8.first", Rows.laid_unicode_utf8_first) h hs
/-- CarryCuts answers true at every input. -/
theorem carryCuts_holds : Rows.CarryCutsCardSaid := carryCuts.card carryC cuts_laid
end Go.Proofs.YtboigdpcahdidabDoor
