/-
  DERIVED. GIVEN WITH THE SEED: THE CARDS: each row of YtffobmiacinngaaDoorRows.lean that lists a variable, with what it lists TIED to the program's text (the seventh form; the later family's looks); each row that meets fmt, with fmt's text TOLD by the authors' own Lean function (tested against real Go, not proved from fmt's source: count such statements apart). THE CARD IS WHAT COUNTS. Prove the row's statement (the work); the ties are given (YtffobmiacinngaaDoorTie.lean); close each card by the builder's one call (the guide's Derived/Test/ToyasCard.lean, 'card_holds'). Laid BY PROGRAM, IN A SANDBOX (cutbox-door.mjs). By AI agents, Wed Nov 11 2026. No macro, syntax, notation, axiom, sorry.
-/
import Derived.Test.YtffobmiacinngaaDoorRows
import GoSem.ClaimSeven
namespace Go.Proofs.YtffobmiacinngaaDoor
namespace Rows

/-- THE TIED CARD OF 'levelhandlaw1.Names'. -/
def namesCard : Claim7 := { stood := { row := namesRow, standIns := [], harness := (true, "dba75496831516816fc0e804d08d1e64f4f1f52096ce2425792c99003d955bdc"), looks := true }, kinds := [], alts := [], laidByText := true, laidKinds := [.handle, .sentinel, .sentinel, .sentinel, .sentinel, .sentinel, .sentinel, .sentinel, .sentinel, .sentinel], laidTests := true, laidLooks := .later }
def NamesCardSaid : Prop := Claim7.holds Tryd.pinned (.plain (OpenSpec.ofChange namesSpec)) namesCard

/-- THE TIED CARD OF 'levelhandlaw1.MixNumbers'. -/
def mixNumbersCard : Claim7 := { stood := { row := mixNumbersRow, standIns := [], harness := (true, "dba75496831516816fc0e804d08d1e64f4f1f52096ce2425792c99003d955bdc"), looks := true }, kinds := [], alts := [], laidByText := true, laidKinds := [.handle, .sentinel, .sentinel, .sentinel, .sentinel, .sentinel, .sentinel, .sentinel, .sentinel, .sentinel], laidTests := true, laidLooks := .later }
def MixNumbersCardSaid : Prop := Claim7.holds Tryd.pinned (.plain (OpenSpec.ofChange mixNumbersSpec)) mixNumbersCard

/-- THE TIED CARD OF 'levelhandlaw1.MixBack'. -/
def mixBackCard : Claim7 := { stood := { row := mixBackRow, standIns := [], harness := (true, "dba75496831516816fc0e804d08d1e64f4f1f52096ce2425792c99003d955bdc"), looks := true }, kinds := [], alts := [], laidByText := true, laidKinds := [.sentinel, .sentinel, .sentinel], laidTests := true, laidLooks := .later }
def MixBackCardSaid : Prop := Claim7.holds Tryd.pinned (.plain (OpenSpec.ofChange mixBackSpec)) mixBackCard

/-- THE TIED CARD OF 'levelhandlaw1.TableMakes'. -/
def tableMakesCard : Claim7 := { stood := { row := tableMakesRow, standIns := [], harness := (true, "dba75496831516816fc0e804d08d1e64f4f1f52096ce2425792c99003d955bdc"), looks := true }, kinds := [], alts := [], laidByText := true, laidKinds := [.handle, .sentinel, .sentinel, .sentinel, .sentinel, .sentinel, .sentinel, .sentinel, .sentinel, .sentinel], laidTests := true, laidLooks := .later }
def TableMakesCardSaid : Prop := Claim7.holds Tryd.pinned (.plain (OpenSpec.ofChange tableMakesSpec)) tableMakesCard

/-- THE TIED CARD OF 'levelhandlaw1.TableCounts'. -/
def tableCountsCard : Claim7 := { stood := { row := tableCountsRow, standIns := [], harness := (true, "dba75496831516816fc0e804d08d1e64f4f1f52096ce2425792c99003d955bdc"), looks := true }, kinds := [], alts := [], laidByText := true, laidKinds := [.handle, .sentinel, .sentinel, .sentinel, .sentinel, .sentinel, .sentinel, .sentinel, .sentinel, .sentinel], laidTests := true, laidLooks := .later }
def TableCountsCardSaid : Prop := Claim7.holds Tryd.pinned (.plain (OpenSpec.ofChange tableCountsSpec)) tableCountsCard

/-- THE TIED CARD OF 'levelhandlaw1.TableEven'. -/
def tableEvenCard : Claim7 := { stood := { row := tableEvenRow, standIns := [], harness := (true, "dba75496831516816fc0e804d08d1e64f4f1f52096ce2425792c99003d955bdc"), looks := true }, kinds := [], alts := [], laidByText := true, laidKinds := [.sentinel, .sentinel, .sentinel, .sentinel, .sentinel], laidTests := true, laidLooks := .later }
def TableEvenCardSaid : Prop := Claim7.holds Tryd.pinned (.plain (OpenSpec.ofChange tableEvenSpec)) tableEvenCard

/-- THE TIED CARD OF 'levelhandlaw1.RingHosts'. -/
def ringHostsCard : Claim7 := { stood := { row := ringHostsRow, standIns := [], harness := (true, "dba75496831516816fc0e804d08d1e64f4f1f52096ce2425792c99003d955bdc"), looks := true }, kinds := [], alts := [], laidByText := true, laidKinds := [.handle, .sentinel, .sentinel, .sentinel, .sentinel, .sentinel, .sentinel, .sentinel, .sentinel, .sentinel], laidTests := true, laidLooks := .later }
def RingHostsCardSaid : Prop := Claim7.holds Tryd.pinned (.plain (OpenSpec.ofChange ringHostsSpec)) ringHostsCard

/-- THE TIED CARD OF 'levelhandlaw1.RingGoes'. -/
def ringGoesCard : Claim7 := { stood := { row := ringGoesRow, standIns := [], harness := (true, "dba75496831516816fc0e804d08d1e64f4f1f52096ce2425792c99003d955bdc"), looks := true }, kinds := [], alts := [], laidByText := true, laidKinds := [.sentinel, .sentinel, .sentinel, .sentinel], laidTests := true, laidLooks := .later }
def RingGoesCardSaid : Prop := Claim7.holds Tryd.pinned (.plain (OpenSpec.ofChange ringGoesSpec)) ringGoesCard

/-- THE TIED CARD OF 'levelhandlaw1.RingComes'. -/
def ringComesCard : Claim7 := { stood := { row := ringComesRow, standIns := [], harness := (true, "dba75496831516816fc0e804d08d1e64f4f1f52096ce2425792c99003d955bdc"), looks := true }, kinds := [], alts := [], laidByText := true, laidKinds := [.sentinel, .sentinel, .sentinel, .sentinel], laidTests := true, laidLooks := .later }
def RingComesCardSaid : Prop := Claim7.holds Tryd.pinned (.plain (OpenSpec.ofChange ringComesSpec)) ringComesCard

/-- THE TIED CARD OF 'levelhandlaw1.RivalOrders'. -/
def rivalOrdersCard : Claim7 := { stood := { row := rivalOrdersRow, standIns := [], harness := (true, "dba75496831516816fc0e804d08d1e64f4f1f52096ce2425792c99003d955bdc"), looks := true }, kinds := [], alts := [], laidByText := true, laidKinds := [.handle, .sentinel, .sentinel, .sentinel, .sentinel, .sentinel, .sentinel, .sentinel, .sentinel, .sentinel], laidTests := true, laidLooks := .later }
def RivalOrdersCardSaid : Prop := Claim7.holds Tryd.pinned (.plain (OpenSpec.ofChange rivalOrdersSpec)) rivalOrdersCard

/-- THE TIED CARD OF 'levelhandlaw1.RivalGoes'. -/
def rivalGoesCard : Claim7 := { stood := { row := rivalGoesRow, standIns := [], harness := (true, "dba75496831516816fc0e804d08d1e64f4f1f52096ce2425792c99003d955bdc"), looks := true }, kinds := [], alts := [], laidByText := true, laidKinds := [.sentinel, .sentinel, .sentinel, .sentinel], laidTests := true, laidLooks := .later }
def RivalGoesCardSaid : Prop := Claim7.holds Tryd.pinned (.plain (OpenSpec.ofChange rivalGoesSpec)) rivalGoesCard

/-- THE TIED CARD OF 'levelhandlaw1.RivalComes'. -/
def rivalComesCard : Claim7 := { stood := { row := rivalComesRow, standIns := [], harness := (true, "dba75496831516816fc0e804d08d1e64f4f1f52096ce2425792c99003d955bdc"), looks := true }, kinds := [], alts := [], laidByText := true, laidKinds := [.sentinel, .sentinel, .sentinel, .sentinel], laidTests := true, laidLooks := .later }
def RivalComesCardSaid : Prop := Claim7.holds Tryd.pinned (.plain (OpenSpec.ofChange rivalComesSpec)) rivalComesCard

/-- THE SECOND FORM's CARD OF 'levelhandlaw1.Names'. -/
def namesUptoCard : Claim7 := { stood := { row := namesUptoRow, standIns := [], harness := (true, "dba75496831516816fc0e804d08d1e64f4f1f52096ce2425792c99003d955bdc"), looks := true }, kinds := [], alts := [], laidByText := true, laidKinds := [.handle, .sentinel, .sentinel, .sentinel, .sentinel, .sentinel, .sentinel, .sentinel, .sentinel, .sentinel], laidTests := true, laidLooks := .later }
def NamesUptoCardSaid : Prop := Claim7.holds Tryd.pinned (.plain (OpenSpec.upto namesSpec)) namesUptoCard

/-- THE SECOND FORM's CARD OF 'levelhandlaw1.MixNumbers'. -/
def mixNumbersUptoCard : Claim7 := { stood := { row := mixNumbersUptoRow, standIns := [], harness := (true, "dba75496831516816fc0e804d08d1e64f4f1f52096ce2425792c99003d955bdc"), looks := true }, kinds := [], alts := [], laidByText := true, laidKinds := [.handle, .sentinel, .sentinel, .sentinel, .sentinel, .sentinel, .sentinel, .sentinel, .sentinel, .sentinel], laidTests := true, laidLooks := .later }
def MixNumbersUptoCardSaid : Prop := Claim7.holds Tryd.pinned (.plain (OpenSpec.upto mixNumbersSpec)) mixNumbersUptoCard

/-- THE SECOND FORM's CARD OF 'levelhandlaw1.MixBack'. -/
def mixBackUptoCard : Claim7 := { stood := { row := mixBackUptoRow, standIns := [], harness := (true, "dba75496831516816fc0e804d08d1e64f4f1f52096ce2425792c99003d955bdc"), looks := true }, kinds := [], alts := [], laidByText := true, laidKinds := [.sentinel, .sentinel, .sentinel], laidTests := true, laidLooks := .later }
def MixBackUptoCardSaid : Prop := Claim7.holds Tryd.pinned (.plain (OpenSpec.upto mixBackSpec)) mixBackUptoCard

/-- THE SECOND FORM's CARD OF 'levelhandlaw1.TableMakes'. -/
def tableMakesUptoCard : Claim7 := { stood := { row := tableMakesUptoRow, standIns := [], harness := (true, "dba75496831516816fc0e804d08d1e64f4f1f52096ce2425792c99003d955bdc"), looks := true }, kinds := [], alts := [], laidByText := true, laidKinds := [.handle, .sentinel, .sentinel, .sentinel, .sentinel, .sentinel, .sentinel, .sentinel, .sentinel, .sentinel], laidTests := true, laidLooks := .later }
def TableMakesUptoCardSaid : Prop := Claim7.holds Tryd.pinned (.plain (OpenSpec.upto tableMakesSpec)) tableMakesUptoCard

/-- THE SECOND FORM's CARD OF 'levelhandlaw1.TableCounts'. -/
def tableCountsUptoCard : Claim7 := { stood := { row := tableCountsUptoRow, standIns := [], harness := (true, "dba75496831516816fc0e804d08d1e64f4f1f52096ce2425792c99003d955bdc"), looks := true }, kinds := [], alts := [], laidByText := true, laidKinds := [.handle, .sentinel, .sentinel, .sentinel, .sentinel, .sentinel, .sentinel, .sentinel, .sentinel, .sentinel], laidTests := true, laidLooks := .later }
def TableCountsUptoCardSaid : Prop := Claim7.holds Tryd.pinned (.plain (OpenSpec.upto tableCountsSpec)) tableCountsUptoCard

/-- THE SECOND FORM's CARD OF 'levelhandlaw1.TableEven'. -/
def tableEvenUptoCard : Claim7 := { stood := { row := tableEvenUptoRow, standIns := [], harness := (true, "dba75496831516816fc0e804d08d1e64f4f1f52096ce2425792c99003d955bdc"), looks := true }, kinds := [], alts := [], laidByText := true, laidKinds := [.sentinel, .sentinel, .sentinel, .sentinel, .sentinel], laidTests := true, laidLooks := .later }
def TableEvenUptoCardSaid : Prop := Claim7.holds Tryd.pinned (.plain (OpenSpec.upto tableEvenSpec)) tableEvenUptoCard

/-- THE SECOND FORM's CARD OF 'levelhandlaw1.RingHosts'. -/
def ringHostsUptoCard : Claim7 := { stood := { row := ringHostsUptoRow, standIns := [], harness := (true, "dba75496831516816fc0e804d08d1e64f4f1f52096ce2425792c99003d955bdc"), looks := true }, kinds := [], alts := [], laidByText := true, laidKinds := [.handle, .sentinel, .sentinel, .sentinel, .sentinel, .sentinel, .sentinel, .sentinel, .sentinel, .sentinel], laidTests := true, laidLooks := .later }
def RingHostsUptoCardSaid : Prop := Claim7.holds Tryd.pinned (.plain (OpenSpec.upto ringHostsSpec)) ringHostsUptoCard

/-- THE SECOND FORM's CARD OF 'levelhandlaw1.RingGoes'. -/
def ringGoesUptoCard : Claim7 := { stood := { row := ringGoesUptoRow, standIns := [], harness := (true, "dba75496831516816fc0e804d08d1e64f4f1f52096ce2425792c99003d955bdc"), looks := true }, kinds := [], alts := [], laidByText := true, laidKinds := [.sentinel, .sentinel, .sentinel, .sentinel], laidTests := true, laidLooks := .later }
def RingGoesUptoCardSaid : Prop := Claim7.holds Tryd.pinned (.plain (OpenSpec.upto ringGoesSpec)) ringGoesUptoCard

/-- THE SECOND FORM's CARD OF 'levelhandlaw1.RingComes'. -/
def ringComesUptoCard : Claim7 := { stood := { row := ringComesUptoRow, standIns := [], harness := (true, "dba75496831516816fc0e804d08d1e64f4f1f52096ce2425792c99003d955bdc"), looks := true }, kinds := [], alts := [], laidByText := true, laidKinds := [.sentinel, .sentinel, .sentinel, .sentinel], laidTests := true, laidLooks := .later }
def RingComesUptoCardSaid : Prop := Claim7.holds Tryd.pinned (.plain (OpenSpec.upto ringComesSpec)) ringComesUptoCard

/-- THE SECOND FORM's CARD OF 'levelhandlaw1.RivalOrders'. -/
def rivalOrdersUptoCard : Claim7 := { stood := { row := rivalOrdersUptoRow, standIns := [], harness := (true, "dba75496831516816fc0e804d08d1e64f4f1f52096ce2425792c99003d955bdc"), looks := true }, kinds := [], alts := [], laidByText := true, laidKinds := [.handle, .sentinel, .sentinel, .sentinel, .sentinel, .sentinel, .sentinel, .sentinel, .sentinel, .sentinel], laidTests := true, laidLooks := .later }
def RivalOrdersUptoCardSaid : Prop := Claim7.holds Tryd.pinned (.plain (OpenSpec.upto rivalOrdersSpec)) rivalOrdersUptoCard

/-- THE SECOND FORM's CARD OF 'levelhandlaw1.RivalGoes'. -/
def rivalGoesUptoCard : Claim7 := { stood := { row := rivalGoesUptoRow, standIns := [], harness := (true, "dba75496831516816fc0e804d08d1e64f4f1f52096ce2425792c99003d955bdc"), looks := true }, kinds := [], alts := [], laidByText := true, laidKinds := [.sentinel, .sentinel, .sentinel, .sentinel], laidTests := true, laidLooks := .later }
def RivalGoesUptoCardSaid : Prop := Claim7.holds Tryd.pinned (.plain (OpenSpec.upto rivalGoesSpec)) rivalGoesUptoCard

/-- THE SECOND FORM's CARD OF 'levelhandlaw1.RivalComes'. -/
def rivalComesUptoCard : Claim7 := { stood := { row := rivalComesUptoRow, standIns := [], harness := (true, "dba75496831516816fc0e804d08d1e64f4f1f52096ce2425792c99003d955bdc"), looks := true }, kinds := [], alts := [], laidByText := true, laidKinds := [.sentinel, .sentinel, .sentinel, .sentinel], laidTests := true, laidLooks := .later }
def RivalComesUptoCardSaid : Prop := Claim7.holds Tryd.pinned (.plain (OpenSpec.upto rivalComesSpec)) rivalComesUptoCard
end Rows
end Go.Proofs.YtffobmiacinngaaDoor
