/- PlaySpread, as its tied card: of the landed play, at every input, true. -/
import Derived.Test.YtmdckddenelneaaGreatDoorM43
import Derived.Test.YtmdckddenelneaaGreatDoorPSRow
namespace Go.Proofs.YtmdckddenelneaaGreatDoor
theorem ep_playSpread (W : World) (h : laidMetH Tryz.prog Rows.playSpreadRow.laid W) (hs : W.ShapedOpen Tryz.prog) : ∃ a, (playC W).E a W :=
  ep_start (ec_of9 ("math/bits.deBruijn32tab", Rows.laid_math_bits_deBruijn32tab) ("unicode/utf8.acceptRanges", Rows.laid_unicode_utf8_acceptRanges) ("unicode/utf8.first", Rows.laid_unicode_utf8_first) h.1 h.2 hs)
/-- PlaySpread answers true at every input. -/
theorem playSpread_holds : Rows.PlaySpreadCardSaid := playSpread.card balanceOver playC ep_playSpread
end Go.Proofs.YtmdckddenelneaaGreatDoor
