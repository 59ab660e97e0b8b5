/- A start that fits ScriptPlays' row. -/
import Derived.Test.YtfhmfjcpggddkaaGreatDoorCards
import Derived.Test.YtfhmfjcpggddkaaGreatDoorTie
import Derived.Test.YtfhmfjcpggddkaaGreatDoorM0
import Derived.Lay
import Derived.Stop.Joined
namespace Go.Proofs.YtfhmfjcpggddkaaGreatDoor.scriptPlays
open Go.ChangeShapes Go.WideShapes Go.ChangeAt Go.RowKit
theorem start_shape (os:Os):((World.laidAll Tryz.prog os Rows.scriptPlaysRow.laid).forCall (fun _ _=>0) ⟨#[],#[.slice none 0 0],[]⟩).Shaped Tryz.prog :=
 World.shaped_of_ZipB (by as_aux_lemma=>kernel_rfl) (by as_aux_lemma=>kernel_rfl)
theorem start_met (os:Os)(args:Array Value):laidMetH Tryz.prog Rows.scriptPlaysRow.laid ((World.laidAll Tryz.prog os Rows.scriptPlaysRow.laid).forCall (fun _ _=>0) ⟨#[],args,[]⟩).memory:=by
 rw[MakeChecks.laidMetH_plain _ _ _ (by kernel_rfl)]
 exact laidMet_laidAll _ (by as_aux_lemma=>kernel_rfl) (by as_aux_lemma=>kernel_rfl)
end Go.Proofs.YtfhmfjcpggddkaaGreatDoor.scriptPlays
