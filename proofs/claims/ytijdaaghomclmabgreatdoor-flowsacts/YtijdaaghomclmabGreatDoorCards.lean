/-
  DERIVED. GIVEN WITH THE SEED: THE CARDS: each row of YtijdaaghomclmabGreatDoorRows.lean that lists a variable, with what it lists TIED to the program's text (the seventh form; the later family's looks); each row that meets fmt, with fmt's text TOLD by the authors' own Lean function (tested against real Go, not proved from fmt's source: count such statements apart). THE CARD IS WHAT COUNTS. Prove the row's statement (the work); the ties are given (YtijdaaghomclmabGreatDoorTie.lean); close each card by the builder's one call (the guide's Derived/Test/ToyasCard.lean, 'card_holds'). Laid BY PROGRAM, IN A SANDBOX (cutbox-door.mjs). By AI agents, Wed Nov 11 2026. No macro, syntax, notation, axiom, sorry.
-/
import Derived.Test.YtijdaaghomclmabGreatDoorRows
import GoSem.ClaimSeven
namespace Go.Proofs.YtijdaaghomclmabGreatDoor
namespace Rows

/-- THE TIED CARD OF 'levelhandlaw2.FlowsActs'. -/
def flowsActsCard : Claim7 := { stood := { row := flowsActsRow, standIns := [], harness := (true, "9effea3f5158db6ff09876c97c193f0e551b74ebf97b94366661fe2949fbc35e"), looks := true }, kinds := [], alts := [], laidByText := true, laidKinds := [.handle, .sentinel, .sentinel, .sentinel, .sentinel, .sentinel, .sentinel, .sentinel, .sentinel, .sentinel], laidTests := true, laidLooks := .later }
def FlowsActsCardSaid : Prop := Claim7.holds Tryz.pinned (.plain (OpenSpec.ofChange flowsActsSpec)) flowsActsCard

/-- THE SECOND FORM's CARD OF 'levelhandlaw2.FlowsActs'. -/
def flowsActsUptoCard : Claim7 := { stood := { row := flowsActsUptoRow, standIns := [], harness := (true, "9effea3f5158db6ff09876c97c193f0e551b74ebf97b94366661fe2949fbc35e"), looks := true }, kinds := [], alts := [], laidByText := true, laidKinds := [.handle, .sentinel, .sentinel, .sentinel, .sentinel, .sentinel, .sentinel, .sentinel, .sentinel, .sentinel], laidTests := true, laidLooks := .later }
def FlowsActsUptoCardSaid : Prop := Claim7.holds Tryz.pinned (.plain (OpenSpec.upto flowsActsSpec)) flowsActsUptoCard
end Rows
end Go.Proofs.YtijdaaghomclmabGreatDoor
