/- ScriptReads, as its tied card: of the landed script, at every input, true. -/
import Derived.Test.YtfhmfjcpggddkaaGreatDoorM47
import Derived.Test.YtfhmfjcpggddkaaGreatDoorSRRow
namespace Go.Proofs.YtfhmfjcpggddkaaGreatDoor
theorem ea_scriptReads (W : World) (h : laidMetH Tryz.prog Rows.scriptReadsRow.laid W) (hs : W.ShapedOpen Tryz.prog) : ∃ a, scriptC.E a W ∧ Errs a W :=
  ea_of9 ("math/bits.deBruijn32tab", Rows.laid_math_bits_deBruijn32tab) ("unicode/utf8.acceptRanges", Rows.laid_unicode_utf8_acceptRanges) ("unicode/utf8.first", Rows.laid_unicode_utf8_first) h.1 h.2 hs
/-- ScriptReads answers true at every input. -/
theorem scriptReads_holds : Rows.ScriptReadsCardSaid := scriptReads.card (fun _ => scriptC) ea_scriptReads
end Go.Proofs.YtfhmfjcpggddkaaGreatDoor
