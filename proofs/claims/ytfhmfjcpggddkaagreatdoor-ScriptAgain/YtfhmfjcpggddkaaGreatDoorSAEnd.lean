/- ScriptAgain, as its tied card: of the landed script, at every input, true. -/
import Derived.Test.YtfhmfjcpggddkaaGreatDoorM47
import Derived.Test.YtfhmfjcpggddkaaGreatDoorSARow
namespace Go.Proofs.YtfhmfjcpggddkaaGreatDoor
theorem ea_scriptAgain (W : World) (h : laidMetH Tryz.prog Rows.scriptAgainRow.laid W) (hs : W.ShapedOpen Tryz.prog) : ∃ a, scriptC.E a W :=
  ea_of7 ("math/bits.deBruijn32tab", Rows.laid_math_bits_deBruijn32tab) ("unicode/utf8.acceptRanges", Rows.laid_unicode_utf8_acceptRanges) ("unicode/utf8.first", Rows.laid_unicode_utf8_first) h hs
/-- ScriptAgain answers true at every input. -/
theorem scriptAgain_holds : Rows.ScriptAgainCardSaid := scriptAgain.card (fun _ => scriptC) ea_scriptAgain
end Go.Proofs.YtfhmfjcpggddkaaGreatDoor
