/- PlayAgain, as its tied card: of the landed play, at every input, true. -/
import Derived.Test.YtmdckddenelneaaGreatDoorM47
import Derived.Test.YtmdckddenelneaaGreatDoorPARow
namespace Go.Proofs.YtmdckddenelneaaGreatDoor
theorem ep_playAgain (W : World) (h : laidMetH Tryz.prog Rows.playAgainRow.laid W) (hs : W.ShapedOpen Tryz.prog) : ∃ a, (playC W).E a W :=
  ep_start (ec_of9 ("math/bits.deBruijn32tab", Rows.laid_math_bits_deBruijn32tab) ("unicode/utf8.acceptRanges", Rows.laid_unicode_utf8_acceptRanges) ("unicode/utf8.first", Rows.laid_unicode_utf8_first) h.1 h.2 hs)
/-- PlayAgain answers true at every input. -/
theorem playAgain_holds : Rows.PlayAgainCardSaid := playAgain.card balanceOver playC ep_playAgain
end Go.Proofs.YtmdckddenelneaaGreatDoor
