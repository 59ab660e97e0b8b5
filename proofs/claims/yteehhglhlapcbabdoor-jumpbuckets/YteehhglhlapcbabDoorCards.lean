/-
  DERIVED. GIVEN WITH THE SEED: THE CARDS: each row of YteehhglhlapcbabDoorRows.lean that lists a variable, with what it lists TIED to the program's text (the seventh form; the later family's looks); each row that meets fmt, with fmt's text TOLD by the authors' own Lean function (tested against real Go, not proved from fmt's source: count such statements apart). THE CARD IS WHAT COUNTS. Prove the row's statement (the work); the ties are given (YteehhglhlapcbabDoorTie.lean); close each card by the builder's one call (the guide's Derived/Test/ToyasCard.lean, 'card_holds'). Laid BY PROGRAM, IN A SANDBOX (cutbox-door.mjs). By AI agents, Wed Nov 11 2026. No macro, syntax, notation, axiom, sorry.
-/
import Derived.Test.YteehhglhlapcbabDoorRows
import GoSem.ClaimSeven
namespace Go.Proofs.YteehhglhlapcbabDoor
namespace Rows

/-- THE TIED CARD OF 'levelhandlaw1.JumpBuckets'. -/
def jumpBucketsCard : Claim7 := { stood := { row := jumpBucketsRow, standIns := [], harness := (true, "5c662dd009b7550adcb8b5fc7202b8f1a27c70461469233d03368009e877b0cd"), looks := true }, kinds := [], alts := [], laidByText := true, laidKinds := [.handle, .sentinel, .sentinel, .sentinel, .sentinel, .sentinel, .sentinel, .sentinel, .sentinel, .sentinel], laidTests := true, laidLooks := .later }
def JumpBucketsCardSaid : Prop := Claim7.holds Tryd.pinned (.plain (OpenSpec.ofChange jumpBucketsSpec)) jumpBucketsCard

/-- THE TIED CARD OF 'levelhandlaw1.JumpGrows'. -/
def jumpGrowsCard : Claim7 := { stood := { row := jumpGrowsRow, standIns := [], harness := (true, "5c662dd009b7550adcb8b5fc7202b8f1a27c70461469233d03368009e877b0cd"), looks := true }, kinds := [], alts := [], laidByText := true, laidKinds := [.sentinel], laidTests := true, laidLooks := .later }
def JumpGrowsCardSaid : Prop := Claim7.holds Tryd.pinned (.plain (OpenSpec.ofChange jumpGrowsSpec)) jumpGrowsCard

/-- THE TIED CARD OF 'levelhandlaw1.JumpPaths'. -/
def jumpPathsCard : Claim7 := { stood := { row := jumpPathsRow, standIns := [], harness := (true, "5c662dd009b7550adcb8b5fc7202b8f1a27c70461469233d03368009e877b0cd"), looks := true }, kinds := [], alts := [], laidByText := true, laidKinds := [.sentinel], laidTests := true, laidLooks := .later }
def JumpPathsCardSaid : Prop := Claim7.holds Tryd.pinned (.plain (OpenSpec.ofChange jumpPathsSpec)) jumpPathsCard

/-- THE SECOND FORM's CARD OF 'levelhandlaw1.JumpBuckets'. -/
def jumpBucketsUptoCard : Claim7 := { stood := { row := jumpBucketsUptoRow, standIns := [], harness := (true, "5c662dd009b7550adcb8b5fc7202b8f1a27c70461469233d03368009e877b0cd"), looks := true }, kinds := [], alts := [], laidByText := true, laidKinds := [.handle, .sentinel, .sentinel, .sentinel, .sentinel, .sentinel, .sentinel, .sentinel, .sentinel, .sentinel], laidTests := true, laidLooks := .later }
def JumpBucketsUptoCardSaid : Prop := Claim7.holds Tryd.pinned (.plain (OpenSpec.upto jumpBucketsSpec)) jumpBucketsUptoCard

/-- THE SECOND FORM's CARD OF 'levelhandlaw1.JumpGrows'. -/
def jumpGrowsUptoCard : Claim7 := { stood := { row := jumpGrowsUptoRow, standIns := [], harness := (true, "5c662dd009b7550adcb8b5fc7202b8f1a27c70461469233d03368009e877b0cd"), looks := true }, kinds := [], alts := [], laidByText := true, laidKinds := [.sentinel], laidTests := true, laidLooks := .later }
def JumpGrowsUptoCardSaid : Prop := Claim7.holds Tryd.pinned (.plain (OpenSpec.upto jumpGrowsSpec)) jumpGrowsUptoCard

/-- THE SECOND FORM's CARD OF 'levelhandlaw1.JumpPaths'. -/
def jumpPathsUptoCard : Claim7 := { stood := { row := jumpPathsUptoRow, standIns := [], harness := (true, "5c662dd009b7550adcb8b5fc7202b8f1a27c70461469233d03368009e877b0cd"), looks := true }, kinds := [], alts := [], laidByText := true, laidKinds := [.sentinel], laidTests := true, laidLooks := .later }
def JumpPathsUptoCardSaid : Prop := Claim7.holds Tryd.pinned (.plain (OpenSpec.upto jumpPathsSpec)) jumpPathsUptoCard
end Rows
end Go.Proofs.YteehhglhlapcbabDoor
