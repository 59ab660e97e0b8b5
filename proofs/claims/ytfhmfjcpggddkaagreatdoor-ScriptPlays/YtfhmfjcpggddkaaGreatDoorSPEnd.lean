/- ScriptPlays, as its tied card: of the landed script, at every input, true. -/
import Derived.Test.YtfhmfjcpggddkaaGreatDoorM47
import Derived.Test.YtfhmfjcpggddkaaGreatDoorSPRow
namespace Go.Proofs.YtfhmfjcpggddkaaGreatDoor
theorem ea_scriptPlays (W:World)(h:laidMetH Tryz.prog Rows.scriptPlaysRow.laid W)(hs:W.ShapedOpen Tryz.prog):∃a,scriptC.E a W∧Errs5 a W:=by
 obtain ⟨a, he⟩ := ea_of7 ("math/bits.deBruijn32tab", Rows.laid_math_bits_deBruijn32tab) ("unicode/utf8.acceptRanges", Rows.laid_unicode_utf8_acceptRanges) ("unicode/utf8.first", Rows.laid_unicode_utf8_first) h hs
 exact⟨a,he,he.b.e5⟩
theorem scriptPlays_holds:Rows.ScriptPlaysCardSaid:=scriptPlays.card (fun _=>scriptC) (fun _=>rfl) ea_scriptPlays
end Go.Proofs.YtfhmfjcpggddkaaGreatDoor
