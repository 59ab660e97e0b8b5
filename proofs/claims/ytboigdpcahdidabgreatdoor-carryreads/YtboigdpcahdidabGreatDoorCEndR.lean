/- CarryReads, as its tied card: of the landed carry, at every input, true. -/
import Derived.Test.YtboigdpcahdidabGreatDoorCbLd
import Derived.Test.YtboigdpcahdidabGreatDoorCRRow
namespace Go.Proofs.YtboigdpcahdidabGreatDoor
theorem reads_laid (W : World) (h : laidMetH Tryz.prog Rows.carryReadsRow.laid W) (hs : W.ShapedOpen Tryz.prog) : ∃ a, Errs a W ∧ carryC.E a W :=
  ec_of9 ("math/bits.deBruijn32tab", Rows.laid_math_bits_deBruijn32tab) ("unicode/utf8.acceptRanges", Rows.laid_unicode_utf8_acceptRanges) ("unicode/utf8.first", Rows.laid_unicode_utf8_first) h.1 h.2 hs
/-- CarryReads answers true at every input. -/
theorem carryReads_holds : Rows.CarryReadsCardSaid := carryReads.card carryC reads_laid
end Go.Proofs.YtboigdpcahdidabGreatDoor
