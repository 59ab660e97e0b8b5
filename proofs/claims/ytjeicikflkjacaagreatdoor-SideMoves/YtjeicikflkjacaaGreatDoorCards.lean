/-
  DERIVED. GIVEN WITH THE SEED: THE CARDS: each row of YtjeicikflkjacaaGreatDoorRows.lean that lists a variable, with what it lists TIED to the program's text (the seventh form; the later family's looks); each row that meets fmt, with fmt's text TOLD by the authors' own Lean function (tested against real Go, not proved from fmt's source: count such statements apart). THE CARD IS WHAT COUNTS. Prove the row's statement (the work); the ties are given (YtjeicikflkjacaaGreatDoorTie.lean); close each card by the builder's one call (the guide's Derived/Test/ToyasCard.lean, 'card_holds'). Laid BY PROGRAM, IN A SANDBOX (cutbox-door.mjs). By AI agents, Wed Nov 11 2026. No macro, syntax, notation, axiom, sorry.
-/
import Derived.Test.YtjeicikflkjacaaGreatDoorRows
import GoSem.ClaimSeven
namespace Go.Proofs.YtjeicikflkjacaaGreatDoor
namespace Rows

/-- THE TIED CARD OF 'levelhandlaw3.SideMoves'. -/
def sideMovesCard : Claim7 := { stood := { row := sideMovesRow, standIns := [], harness := (true, "7c48f4d7087061ae5fe39fe0ac2c36fe68ff0df0037865a8d93279b9c3685f15"), looks := true }, kinds := [], alts := [], goes := true, laidByText := true, laidKinds := [.handle, .sentinel, .sentinel, .sentinel, .sentinel, .sentinel, .sentinel, .sentinel, .sentinel, .sentinel], laidTests := true, laidLooks := .later }
def SideMovesCardSaid : Prop := Claim7.holds Tryz.pinned (.plain (OpenSpec.ofChange sideMovesSpec)) sideMovesCard

/-- THE TIED CARD OF 'levelhandlaw3.SideBuckets'. -/
def sideBucketsCard : Claim7 := { stood := { row := sideBucketsRow, standIns := [], harness := (true, "7c48f4d7087061ae5fe39fe0ac2c36fe68ff0df0037865a8d93279b9c3685f15"), looks := true }, kinds := [], alts := [], goes := true, laidByText := true, laidKinds := [.handle, .sentinel, .sentinel, .sentinel, .sentinel, .sentinel, .sentinel, .sentinel, .sentinel, .sentinel], laidTests := true, laidLooks := .later }
def SideBucketsCardSaid : Prop := Claim7.holds Tryz.pinned (.plain (OpenSpec.ofChange sideBucketsSpec)) sideBucketsCard

/-- THE SECOND FORM's CARD OF 'levelhandlaw3.SideMoves'. -/
def sideMovesUptoCard : Claim7 := { stood := { row := sideMovesUptoRow, standIns := [], harness := (true, "7c48f4d7087061ae5fe39fe0ac2c36fe68ff0df0037865a8d93279b9c3685f15"), looks := true }, kinds := [], alts := [], goes := true, laidByText := true, laidKinds := [.handle, .sentinel, .sentinel, .sentinel, .sentinel, .sentinel, .sentinel, .sentinel, .sentinel, .sentinel], laidTests := true, laidLooks := .later }
def SideMovesUptoCardSaid : Prop := Claim7.holds Tryz.pinned (.plain (OpenSpec.upto sideMovesSpec)) sideMovesUptoCard

/-- THE SECOND FORM's CARD OF 'levelhandlaw3.SideBuckets'. -/
def sideBucketsUptoCard : Claim7 := { stood := { row := sideBucketsUptoRow, standIns := [], harness := (true, "7c48f4d7087061ae5fe39fe0ac2c36fe68ff0df0037865a8d93279b9c3685f15"), looks := true }, kinds := [], alts := [], goes := true, laidByText := true, laidKinds := [.handle, .sentinel, .sentinel, .sentinel, .sentinel, .sentinel, .sentinel, .sentinel, .sentinel, .sentinel], laidTests := true, laidLooks := .later }
def SideBucketsUptoCardSaid : Prop := Claim7.holds Tryz.pinned (.plain (OpenSpec.upto sideBucketsSpec)) sideBucketsUptoCard
end Rows
end Go.Proofs.YtjeicikflkjacaaGreatDoor
