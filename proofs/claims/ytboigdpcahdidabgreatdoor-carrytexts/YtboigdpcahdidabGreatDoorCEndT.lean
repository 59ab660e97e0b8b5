/- CarryTexts, as its tied card: of the landed carry, at every input, true. -/
import Derived.Test.YtboigdpcahdidabGreatDoorCbLd
import Derived.Test.YtboigdpcahdidabGreatDoorCTRow
namespace Go.Proofs.YtboigdpcahdidabGreatDoor
theorem texts_laid (W : World) (h : laidMetH Tryz.prog Rows.carryTextsRow.laid W) (hs : W.ShapedOpen Tryz.prog) : ∃ a, Errs a W ∧ carryC.E a W :=
  ec_of9 ("math/bits.deBruijn32tab", Rows.laid_math_bits_deBruijn32tab) ("unicode/utf8.acceptRanges", Rows.laid_unicode_utf8_acceptRanges) ("unicode/utf8.first", Rows.laid_unicode_utf8_first) h.1 h.2 hs
/-- CarryTexts answers true at every input. -/
theorem carryTexts_holds : Rows.CarryTextsCardSaid := carryTexts.card carryC texts_laid
end Go.Proofs.YtboigdpcahdidabGreatDoor
