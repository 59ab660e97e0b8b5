/-
  DERIVED. GIVEN WITH THE SEED: THE CARDS: each row of YtmkdpchodeckgaaGreatDoorRows.lean that lists a variable, with what it lists TIED to the program's text (the seventh form; the later family's looks); each row that meets fmt, with fmt's text TOLD by the authors' own Lean function (tested against real Go, not proved from fmt's source: count such statements apart). THE CARD IS WHAT COUNTS. Prove the row's statement (the work); the ties are given (YtmkdpchodeckgaaGreatDoorTie.lean); close each card by the builder's one call (the guide's Derived/Test/ToyasCard.lean, 'card_holds'). Laid BY PROGRAM, IN A SANDBOX (cutbox-door.mjs). By AI agents, Wed Nov 11 2026. No macro, syntax, notation, axiom, sorry.
-/
import Derived.Test.YtmkdpchodeckgaaGreatDoorRows
import GoSem.ClaimSeven
namespace Go.Proofs.YtmkdpchodeckgaaGreatDoor
namespace Rows

/-- THE TIED CARD OF 'levelhandlaw3.BalanceFalls'. -/
def balanceFallsCard : Claim7 := { stood := { row := balanceFallsRow, standIns := [], harness := (true, "05c0ce30b6f4f7d36a73e5b0191d11cb26d290a5ae2a6f00a67070be37ef1300"), looks := true }, kinds := [], alts := [], laidByText := true, laidKinds := [.sentinel, .sentinel, .sentinel, .sentinel, .sentinel, .sentinel], laidTests := true, laidLooks := .later }
def BalanceFallsCardSaid : Prop := Claim7.holds Tryz.pinned (.plain (OpenSpec.ofChange balanceFallsSpec)) balanceFallsCard

/-- THE TIED CARD OF 'levelhandlaw3.BalanceStays'. -/
def balanceStaysCard : Claim7 := { stood := { row := balanceStaysRow, standIns := [], harness := (true, "05c0ce30b6f4f7d36a73e5b0191d11cb26d290a5ae2a6f00a67070be37ef1300"), looks := true }, kinds := [], alts := [], laidByText := true, laidKinds := [.data, .data, .data, .data, .sentinel, .sentinel, .sentinel, .sentinel, .sentinel, .sentinel, .sentinel, .sentinel, .sentinel, .sentinel, .pinned], laidTests := true, laidLooks := .later }
def BalanceStaysCardSaid : Prop := Claim7.holds Tryz.pinned (.plain (OpenSpec.ofChange balanceStaysSpec)) balanceStaysCard

/-- THE TIED CARD OF 'levelhandlaw3.BalanceOver'. -/
def balanceOverCard : Claim7 := { stood := { row := balanceOverRow, standIns := [], harness := (true, "05c0ce30b6f4f7d36a73e5b0191d11cb26d290a5ae2a6f00a67070be37ef1300"), looks := true }, kinds := [], alts := [], laidByText := true, laidKinds := [.data, .data, .data, .data, .sentinel, .sentinel, .sentinel, .sentinel, .sentinel, .sentinel, .sentinel, .sentinel, .sentinel, .sentinel, .pinned], laidTests := true, laidLooks := .later }
def BalanceOverCardSaid : Prop := Claim7.holds Tryz.pinned (.plain (OpenSpec.ofChange balanceOverSpec)) balanceOverCard

/-- THE SECOND FORM's CARD OF 'levelhandlaw3.BalanceFalls'. -/
def balanceFallsUptoCard : Claim7 := { stood := { row := balanceFallsUptoRow, standIns := [], harness := (true, "05c0ce30b6f4f7d36a73e5b0191d11cb26d290a5ae2a6f00a67070be37ef1300"), looks := true }, kinds := [], alts := [], laidByText := true, laidKinds := [.sentinel, .sentinel, .sentinel, .sentinel, .sentinel, .sentinel], laidTests := true, laidLooks := .later }
def BalanceFallsUptoCardSaid : Prop := Claim7.holds Tryz.pinned (.plain (OpenSpec.upto balanceFallsSpec)) balanceFallsUptoCard

/-- THE SECOND FORM's CARD OF 'levelhandlaw3.BalanceStays'. -/
def balanceStaysUptoCard : Claim7 := { stood := { row := balanceStaysUptoRow, standIns := [], harness := (true, "05c0ce30b6f4f7d36a73e5b0191d11cb26d290a5ae2a6f00a67070be37ef1300"), looks := true }, kinds := [], alts := [], laidByText := true, laidKinds := [.data, .data, .data, .data, .sentinel, .sentinel, .sentinel, .sentinel, .sentinel, .sentinel, .sentinel, .sentinel, .sentinel, .sentinel, .pinned], laidTests := true, laidLooks := .later }
def BalanceStaysUptoCardSaid : Prop := Claim7.holds Tryz.pinned (.plain (OpenSpec.upto balanceStaysSpec)) balanceStaysUptoCard

/-- THE SECOND FORM's CARD OF 'levelhandlaw3.BalanceOver'. -/
def balanceOverUptoCard : Claim7 := { stood := { row := balanceOverUptoRow, standIns := [], harness := (true, "05c0ce30b6f4f7d36a73e5b0191d11cb26d290a5ae2a6f00a67070be37ef1300"), looks := true }, kinds := [], alts := [], laidByText := true, laidKinds := [.data, .data, .data, .data, .sentinel, .sentinel, .sentinel, .sentinel, .sentinel, .sentinel, .sentinel, .sentinel, .sentinel, .sentinel, .pinned], laidTests := true, laidLooks := .later }
def BalanceOverUptoCardSaid : Prop := Claim7.holds Tryz.pinned (.plain (OpenSpec.upto balanceOverSpec)) balanceOverUptoCard
end Rows
end Go.Proofs.YtmkdpchodeckgaaGreatDoor
