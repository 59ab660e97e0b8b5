/- PlayRuns, as its tied card: of the landed play, at every input, true. -/
import Derived.Test.YtmdckddenelneaaGreatDoorM39
import Derived.Test.YtmdckddenelneaaGreatDoorPRRow
namespace Go.Proofs.YtmdckddenelneaaGreatDoor
theorem ep_playRuns (W : World) (h : laidMetH Tryz.prog Rows.playRunsRow.laid W) (hs : W.ShapedOpen Tryz.prog) : ∃ a, (playC W).E a W :=
  ep_start (ec_of9 ("math/bits.deBruijn32tab", Rows.laid_math_bits_deBruijn32tab) ("unicode/utf8.acceptRanges", Rows.laid_unicode_utf8_acceptRanges) ("unicode/utf8.first", Rows.laid_unicode_utf8_first) h.1 h.2 hs)
/-- PlayRuns answers true at every input. -/
theorem playRuns_holds : Rows.PlayRunsCardSaid := playRuns.card balanceOver (fun _ => rfl) playC ep_playRuns
end Go.Proofs.YtmdckddenelneaaGreatDoor
