/-
  NARROWER THAN 'FOR EVERY INPUT', by the rows' own cells (each row's printed sentence says how): JumpBuckets: laid · JumpGrows: laid · JumpPaths: laid · FillPlaces: laid · FillCaps: laid · HealthEdges: laid · HealthActs: laid · FlowsStay: laid.
  DERIVED. THE GIVEN ROWS OF THIS SEAT. 8 by the template 'for every input the law returns true; each argument reads behind the call as it read before'; 0 by the template 'total and deterministic' (their statements: YtijdaaghomclmabDoorTotals.lean).
  GIVEN WITH THE SEED: the statements are not yours to turn. If you find one false, say at which input.
  Laid BY PROGRAM, IN A SANDBOX (cutbox-rows.mjs): the forced cells as the released guide's own fill.sh prints them over the translation 5548864e12f06a4c… (all of the seat's roots in one cut). By AI agents, Wed Nov 11 2026. No macro, syntax, notation, axiom, sorry.
-/
import Derived.Test.YtijdaaghomclmabDoorChecked
import GoSem.Claim
import GoSem.ClaimJoined
import GoSem.ClaimMapViews
import Derived.JoinedTies
import Derived.KernelRfl
namespace Go.Proofs.YtijdaaghomclmabDoor
/- THE CELL 'sum', in the pinned program and in every row, IS THE sha256 OF THE DUMP (.gsa) THAT YtijdaaghomclmabDoorProg.lean LOADS. Nothing in Lean hashes anything: it is a label: what it is worth is what the hold of that sum in a sandbox is worth. -/
noncomputable def Tryd.pinned : Pinned := { name := "ytijdaaghomclmabdoor", sum := "5548864e12f06a4cefc1758dac6c4a52f9394de139859e18aff98e3bc0b88b7a", checked := Tryd.checked }
namespace Rows
def none {H : Type} : Left H := { results := [], args := [] }

/- WHAT THE LISTED PACKAGE-LEVEL VARIABLES READ AS WHEN THE CALL BEGINS. Each datum BY PROGRAM (the guide's laid-datum.mjs) off the statement by which the dump's own 'gosem.cut.vars' lays the variable. In a bare row this is a premise. The card (YtijdaaghomclmabDoorCards.lean) ties it to the program's text. -/
def laid_errors_errorType {H : Type} : DataW H := .iface "internal/reflectlite.rtype" (.agg [.ptr (.lit (.string [101, 114, 114, 111, 114]))])
def laid_levelhand_api_ErrText {H : Type} : DataW H := .iface "*errors.errorString" (.ptr (.agg [.lit (.string [108, 101, 118, 101, 108, 104, 97, 110, 100, 58, 32, 116, 101, 120, 116])]))
def laid_levelhand_api_ErrBound {H : Type} : DataW H := .iface "*errors.errorString" (.ptr (.agg [.lit (.string [108, 101, 118, 101, 108, 104, 97, 110, 100, 58, 32, 98, 111, 117, 110, 100])]))
def laid_levelhand_api_ErrShape {H : Type} : DataW H := .iface "*errors.errorString" (.ptr (.agg [.lit (.string [108, 101, 118, 101, 108, 104, 97, 110, 100, 58, 32, 115, 104, 97, 112, 101])]))
def laid_levelhand_api_ErrName {H : Type} : DataW H := .iface "*errors.errorString" (.ptr (.agg [.lit (.string [108, 101, 118, 101, 108, 104, 97, 110, 100, 58, 32, 110, 97, 109, 101])]))
def laid_levelhand_api_ErrNone {H : Type} : DataW H := .iface "*errors.errorString" (.ptr (.agg [.lit (.string [108, 101, 118, 101, 108, 104, 97, 110, 100, 58, 32, 110, 111, 110, 101])]))
def laid_levelhand_api_ErrExist {H : Type} : DataW H := .iface "*errors.errorString" (.ptr (.agg [.lit (.string [108, 101, 118, 101, 108, 104, 97, 110, 100, 58, 32, 101, 120, 105, 115, 116])]))
def laid_levelhand_api_ErrFull {H : Type} : DataW H := .iface "*errors.errorString" (.ptr (.agg [.lit (.string [108, 101, 118, 101, 108, 104, 97, 110, 100, 58, 32, 102, 117, 108, 108])]))
def laid_levelhand_api_ErrOld {H : Type} : DataW H := .iface "*errors.errorString" (.ptr (.agg [.lit (.string [108, 101, 118, 101, 108, 104, 97, 110, 100, 58, 32, 111, 108, 100])]))
def laid_levelhand_api_ErrSum {H : Type} : DataW H := .iface "*errors.errorString" (.ptr (.agg [.lit (.string [108, 101, 118, 101, 108, 104, 97, 110, 100, 58, 32, 115, 117, 109])]))

/-- 'levelhandlaw1.JumpBuckets': WHATEVER THE INPUT: true; the input reads as it did. -/
def jumpBucketsSpec : ChangeSpec := { name := "jumpBuckets", fn := fun _ => fun
  | [d1, d2] => { results := [.lit (.bool true)], args := [d1, d2] }
  | _ => none }
def jumpBucketsRow : OpenClaim := { program := "ytijdaaghomclmabdoor", sum := "5548864e12f06a4cefc1758dac6c4a52f9394de139859e18aff98e3bc0b88b7a", func := "levelhand/levelhandlaw1.JumpBuckets", spec := "jumpBuckets", inPlace := ["internal/reflectlite.ValueOf", "(internal/reflectlite.Value).Type", "(internal/reflectlite.Value).IsNil", "internal/reflectlite.TypeOf", "(internal/reflectlite.Value).Elem", "(internal/reflectlite.Value).Set"], unfollowed := true, recurses := true, named := ["levelhand/api.ErrBound", "levelhand/api.ErrText", "levelhand/api.ErrShape", "levelhand/api.ErrName", "levelhand/api.ErrNone", "levelhand/api.ErrExist", "levelhand/api.ErrFull", "levelhand/api.ErrOld", "levelhand/api.ErrSum", "errors.errorType"], apart := false, laid := [("errors.errorType", laid_errors_errorType), ("levelhand/api.ErrText", laid_levelhand_api_ErrText), ("levelhand/api.ErrBound", laid_levelhand_api_ErrBound), ("levelhand/api.ErrShape", laid_levelhand_api_ErrShape), ("levelhand/api.ErrName", laid_levelhand_api_ErrName), ("levelhand/api.ErrNone", laid_levelhand_api_ErrNone), ("levelhand/api.ErrExist", laid_levelhand_api_ErrExist), ("levelhand/api.ErrFull", laid_levelhand_api_ErrFull), ("levelhand/api.ErrOld", laid_levelhand_api_ErrOld), ("levelhand/api.ErrSum", laid_levelhand_api_ErrSum)] }
def JumpBucketsSaid : Prop := jumpBucketsRow.holds Tryd.pinned (OpenSpec.ofChange jumpBucketsSpec)

/-- ITS FALSE NEIGHBOUR: 'it returns false'. Refute it at one input. -/
def jumpBucketsWrong : ChangeSpec := { name := "jumpBuckets", fn := fun _ => fun
  | [d1, d2] => { results := [.lit (.bool false)], args := [d1, d2] }
  | _ => none }
def JumpBucketsWrongFalsely : Prop := jumpBucketsRow.holds Tryd.pinned (OpenSpec.ofChange jumpBucketsWrong)

/-- 'levelhandlaw1.JumpGrows': WHATEVER THE INPUT: true; the input reads as it did. -/
def jumpGrowsSpec : ChangeSpec := { name := "jumpGrows", fn := fun _ => fun
  | [d1, d2] => { results := [.lit (.bool true)], args := [d1, d2] }
  | _ => none }
def jumpGrowsRow : OpenClaim := { program := "ytijdaaghomclmabdoor", sum := "5548864e12f06a4cefc1758dac6c4a52f9394de139859e18aff98e3bc0b88b7a", func := "levelhand/levelhandlaw1.JumpGrows", spec := "jumpGrows", named := ["levelhand/api.ErrBound"], apart := false, laid := [("levelhand/api.ErrBound", laid_levelhand_api_ErrBound)] }
def JumpGrowsSaid : Prop := jumpGrowsRow.holds Tryd.pinned (OpenSpec.ofChange jumpGrowsSpec)

/-- ITS FALSE NEIGHBOUR: 'it returns false'. Refute it at one input. -/
def jumpGrowsWrong : ChangeSpec := { name := "jumpGrows", fn := fun _ => fun
  | [d1, d2] => { results := [.lit (.bool false)], args := [d1, d2] }
  | _ => none }
def JumpGrowsWrongFalsely : Prop := jumpGrowsRow.holds Tryd.pinned (OpenSpec.ofChange jumpGrowsWrong)

/-- 'levelhandlaw1.JumpPaths': WHATEVER THE INPUT: true; the input reads as it did. -/
def jumpPathsSpec : ChangeSpec := { name := "jumpPaths", fn := fun _ => fun
  | [d1, d2, d3] => { results := [.lit (.bool true)], args := [d1, d2, d3] }
  | _ => none }
def jumpPathsRow : OpenClaim := { program := "ytijdaaghomclmabdoor", sum := "5548864e12f06a4cefc1758dac6c4a52f9394de139859e18aff98e3bc0b88b7a", func := "levelhand/levelhandlaw1.JumpPaths", spec := "jumpPaths", named := ["levelhand/api.ErrBound"], apart := false, laid := [("levelhand/api.ErrBound", laid_levelhand_api_ErrBound)] }
def JumpPathsSaid : Prop := jumpPathsRow.holds Tryd.pinned (OpenSpec.ofChange jumpPathsSpec)

/-- ITS FALSE NEIGHBOUR: 'it returns false'. Refute it at one input. -/
def jumpPathsWrong : ChangeSpec := { name := "jumpPaths", fn := fun _ => fun
  | [d1, d2, d3] => { results := [.lit (.bool false)], args := [d1, d2, d3] }
  | _ => none }
def JumpPathsWrongFalsely : Prop := jumpPathsRow.holds Tryd.pinned (OpenSpec.ofChange jumpPathsWrong)

/-- 'levelhandlaw1.FillPlaces': WHATEVER THE INPUT: true; the input reads as it did. -/
def fillPlacesSpec : ChangeSpec := { name := "fillPlaces", fn := fun _ => fun
  | [d1, d2, d3, d4, d5, d6] => { results := [.lit (.bool true)], args := [d1, d2, d3, d4, d5, d6] }
  | _ => none }
def fillPlacesRow : OpenClaim := { program := "ytijdaaghomclmabdoor", sum := "5548864e12f06a4cefc1758dac6c4a52f9394de139859e18aff98e3bc0b88b7a", func := "levelhand/levelhandlaw1.FillPlaces", spec := "fillPlaces", inPlace := ["internal/reflectlite.ValueOf", "(internal/reflectlite.Value).Type", "(internal/reflectlite.Value).IsNil", "internal/reflectlite.TypeOf", "(internal/reflectlite.Value).Elem", "(internal/reflectlite.Value).Set"], unfollowed := true, recurses := true, named := ["levelhand/api.ErrNone", "levelhand/api.ErrBound", "levelhand/api.ErrName", "levelhand/api.ErrExist", "levelhand/api.ErrText", "levelhand/api.ErrShape", "levelhand/api.ErrFull", "levelhand/api.ErrOld", "levelhand/api.ErrSum", "errors.errorType"], apart := false, laid := [("errors.errorType", laid_errors_errorType), ("levelhand/api.ErrText", laid_levelhand_api_ErrText), ("levelhand/api.ErrBound", laid_levelhand_api_ErrBound), ("levelhand/api.ErrShape", laid_levelhand_api_ErrShape), ("levelhand/api.ErrName", laid_levelhand_api_ErrName), ("levelhand/api.ErrNone", laid_levelhand_api_ErrNone), ("levelhand/api.ErrExist", laid_levelhand_api_ErrExist), ("levelhand/api.ErrFull", laid_levelhand_api_ErrFull), ("levelhand/api.ErrOld", laid_levelhand_api_ErrOld), ("levelhand/api.ErrSum", laid_levelhand_api_ErrSum)] }
def FillPlacesSaid : Prop := fillPlacesRow.holds Tryd.pinned (OpenSpec.ofChange fillPlacesSpec)

/-- ITS FALSE NEIGHBOUR: 'it returns false'. Refute it at one input. -/
def fillPlacesWrong : ChangeSpec := { name := "fillPlaces", fn := fun _ => fun
  | [d1, d2, d3, d4, d5, d6] => { results := [.lit (.bool false)], args := [d1, d2, d3, d4, d5, d6] }
  | _ => none }
def FillPlacesWrongFalsely : Prop := fillPlacesRow.holds Tryd.pinned (OpenSpec.ofChange fillPlacesWrong)

/-- 'levelhandlaw1.FillCaps': WHATEVER THE INPUT: true; the input reads as it did. -/
def fillCapsSpec : ChangeSpec := { name := "fillCaps", fn := fun _ => fun
  | [d1, d2, d3, d4] => { results := [.lit (.bool true)], args := [d1, d2, d3, d4] }
  | _ => none }
def fillCapsRow : OpenClaim := { program := "ytijdaaghomclmabdoor", sum := "5548864e12f06a4cefc1758dac6c4a52f9394de139859e18aff98e3bc0b88b7a", func := "levelhand/levelhandlaw1.FillCaps", spec := "fillCaps", unfollowed := true, recurses := true, named := ["levelhand/api.ErrNone", "levelhand/api.ErrBound", "levelhand/api.ErrName", "levelhand/api.ErrExist"], apart := false, laid := [("levelhand/api.ErrBound", laid_levelhand_api_ErrBound), ("levelhand/api.ErrName", laid_levelhand_api_ErrName), ("levelhand/api.ErrNone", laid_levelhand_api_ErrNone), ("levelhand/api.ErrExist", laid_levelhand_api_ErrExist)] }
def FillCapsSaid : Prop := fillCapsRow.holds Tryd.pinned (OpenSpec.ofChange fillCapsSpec)

/-- ITS FALSE NEIGHBOUR: 'it returns false'. Refute it at one input. -/
def fillCapsWrong : ChangeSpec := { name := "fillCaps", fn := fun _ => fun
  | [d1, d2, d3, d4] => { results := [.lit (.bool false)], args := [d1, d2, d3, d4] }
  | _ => none }
def FillCapsWrongFalsely : Prop := fillCapsRow.holds Tryd.pinned (OpenSpec.ofChange fillCapsWrong)

/-- 'levelhandlaw2.HealthEdges': WHATEVER THE INPUT: true; the input reads as it did. -/
def healthEdgesSpec : ChangeSpec := { name := "healthEdges", fn := fun _ => fun
  | [d1, d2, d3] => { results := [.lit (.bool true)], args := [d1, d2, d3] }
  | _ => none }
def healthEdgesRow : OpenClaim := { program := "ytijdaaghomclmabdoor", sum := "5548864e12f06a4cefc1758dac6c4a52f9394de139859e18aff98e3bc0b88b7a", func := "levelhand/levelhandlaw2.HealthEdges", spec := "healthEdges", unfollowed := true, recurses := true, named := ["levelhand/api.ErrBound", "levelhand/api.ErrName", "levelhand/api.ErrExist", "levelhand/api.ErrNone"], apart := false, laid := [("levelhand/api.ErrBound", laid_levelhand_api_ErrBound), ("levelhand/api.ErrName", laid_levelhand_api_ErrName), ("levelhand/api.ErrNone", laid_levelhand_api_ErrNone), ("levelhand/api.ErrExist", laid_levelhand_api_ErrExist)] }
def HealthEdgesSaid : Prop := healthEdgesRow.holds Tryd.pinned (OpenSpec.ofChange healthEdgesSpec)

/-- ITS FALSE NEIGHBOUR: 'it returns false'. Refute it at one input. -/
def healthEdgesWrong : ChangeSpec := { name := "healthEdges", fn := fun _ => fun
  | [d1, d2, d3] => { results := [.lit (.bool false)], args := [d1, d2, d3] }
  | _ => none }
def HealthEdgesWrongFalsely : Prop := healthEdgesRow.holds Tryd.pinned (OpenSpec.ofChange healthEdgesWrong)

/-- 'levelhandlaw2.HealthActs': WHATEVER THE INPUT: true; the input reads as it did. -/
def healthActsSpec : ChangeSpec := { name := "healthActs", fn := fun _ => fun
  | [d1, d2, d3, d4] => { results := [.lit (.bool true)], args := [d1, d2, d3, d4] }
  | _ => none }
def healthActsRow : OpenClaim := { program := "ytijdaaghomclmabdoor", sum := "5548864e12f06a4cefc1758dac6c4a52f9394de139859e18aff98e3bc0b88b7a", func := "levelhand/levelhandlaw2.HealthActs", spec := "healthActs", inPlace := ["internal/reflectlite.ValueOf", "(internal/reflectlite.Value).Type", "(internal/reflectlite.Value).IsNil", "internal/reflectlite.TypeOf", "(internal/reflectlite.Value).Elem", "(internal/reflectlite.Value).Set"], unfollowed := true, recurses := true, named := ["levelhand/api.ErrBound", "levelhand/api.ErrName", "levelhand/api.ErrExist", "levelhand/api.ErrNone", "levelhand/api.ErrText", "levelhand/api.ErrShape", "levelhand/api.ErrFull", "levelhand/api.ErrOld", "levelhand/api.ErrSum", "errors.errorType"], apart := false, laid := [("errors.errorType", laid_errors_errorType), ("levelhand/api.ErrText", laid_levelhand_api_ErrText), ("levelhand/api.ErrBound", laid_levelhand_api_ErrBound), ("levelhand/api.ErrShape", laid_levelhand_api_ErrShape), ("levelhand/api.ErrName", laid_levelhand_api_ErrName), ("levelhand/api.ErrNone", laid_levelhand_api_ErrNone), ("levelhand/api.ErrExist", laid_levelhand_api_ErrExist), ("levelhand/api.ErrFull", laid_levelhand_api_ErrFull), ("levelhand/api.ErrOld", laid_levelhand_api_ErrOld), ("levelhand/api.ErrSum", laid_levelhand_api_ErrSum)] }
def HealthActsSaid : Prop := healthActsRow.holds Tryd.pinned (OpenSpec.ofChange healthActsSpec)

/-- ITS FALSE NEIGHBOUR: 'it returns false'. Refute it at one input. -/
def healthActsWrong : ChangeSpec := { name := "healthActs", fn := fun _ => fun
  | [d1, d2, d3, d4] => { results := [.lit (.bool false)], args := [d1, d2, d3, d4] }
  | _ => none }
def HealthActsWrongFalsely : Prop := healthActsRow.holds Tryd.pinned (OpenSpec.ofChange healthActsWrong)

/-- 'levelhandlaw2.FlowsStay': WHATEVER THE INPUT: true; the input reads as it did. -/
def flowsStaySpec : ChangeSpec := { name := "flowsStay", fn := fun _ => fun
  | [d1, d2, d3, d4] => { results := [.lit (.bool true)], args := [d1, d2, d3, d4] }
  | _ => none }
def flowsStayRow : OpenClaim := { program := "ytijdaaghomclmabdoor", sum := "5548864e12f06a4cefc1758dac6c4a52f9394de139859e18aff98e3bc0b88b7a", func := "levelhand/levelhandlaw2.FlowsStay", spec := "flowsStay", unfollowed := true, recurses := true, named := ["levelhand/api.ErrBound", "levelhand/api.ErrName", "levelhand/api.ErrNone", "levelhand/api.ErrOld", "levelhand/api.ErrExist"], apart := false, laid := [("levelhand/api.ErrBound", laid_levelhand_api_ErrBound), ("levelhand/api.ErrName", laid_levelhand_api_ErrName), ("levelhand/api.ErrNone", laid_levelhand_api_ErrNone), ("levelhand/api.ErrExist", laid_levelhand_api_ErrExist), ("levelhand/api.ErrOld", laid_levelhand_api_ErrOld)] }
def FlowsStaySaid : Prop := flowsStayRow.holds Tryd.pinned (OpenSpec.ofChange flowsStaySpec)

/-- ITS FALSE NEIGHBOUR: 'it returns false'. Refute it at one input. -/
def flowsStayWrong : ChangeSpec := { name := "flowsStay", fn := fun _ => fun
  | [d1, d2, d3, d4] => { results := [.lit (.bool false)], args := [d1, d2, d3, d4] }
  | _ => none }
def FlowsStayWrongFalsely : Prop := flowsStayRow.holds Tryd.pinned (OpenSpec.ofChange flowsStayWrong)

/- THE SECOND FORM. 'bulk': how many values and letters a reading holds, each counted each time it is reached (what is shared counts as often as it is met; a slice's spare places count too). A statement '..UptoSaid' is the law's where the arguments, and the package variables that the reading takes, are together of bulk at most 1048576: NARROWER than '..Said'. Prove '..Said' where nothing that the law and all that it calls make is longer than what came in: it says more and counts as full. Else prove '..UptoSaid'. A law counts once. -/
mutual
def uptoBulk {H : Type} : DataW H → Nat
  | .lit (.string bytes) => bytes.length + 1
  | .lit _ => 1
  | .nil => 1
  | .ptr d => uptoBulk d + 1
  | .slice elems spare => uptoBulkAll elems + uptoBulkAll spare + 1
  | .agg parts => uptoBulkAll parts + 1
  | .iface _ d => uptoBulk d + 1
  | .map entries => uptoBulkEntries entries + 1
  | .held _ => 1
def uptoBulkAll {H : Type} : List (DataW H) → Nat
  | [] => 0
  | d :: r => uptoBulk d + uptoBulkAll r
def uptoBulkEntries {H : Type} : List (Lit × DataW H) → Nat
  | [] => 0
  | x :: r => uptoBulkEntry x + uptoBulkEntries r
def uptoBulkEntry {H : Type} : Lit × DataW H → Nat
  | (.string bytes, d) => bytes.length + uptoBulk d + 1
  | (_, d) => uptoBulk d + 1
 end
def uptoSmall : (H : Type) → List (DataW H) → Bool := fun _ ds => decide (uptoBulkAll ds ≤ 1048576)
def OpenSpec.upto (s : _root_.Go.ChangeSpec) : _root_.Go.OpenSpec := { _root_.Go.OpenSpec.ofChange s with cond := some uptoSmall }

/-- 'levelhandlaw1.JumpBuckets', WHERE WHAT IT READS IS OF BULK AT MOST 1048576: true; the input reads as it did. -/
def jumpBucketsUptoRow : OpenClaim := { program := "ytijdaaghomclmabdoor", sum := "5548864e12f06a4cefc1758dac6c4a52f9394de139859e18aff98e3bc0b88b7a", func := "levelhand/levelhandlaw1.JumpBuckets", spec := "jumpBuckets", inPlace := ["internal/reflectlite.ValueOf", "(internal/reflectlite.Value).Type", "(internal/reflectlite.Value).IsNil", "internal/reflectlite.TypeOf", "(internal/reflectlite.Value).Elem", "(internal/reflectlite.Value).Set"], unfollowed := true, recurses := true, named := ["levelhand/api.ErrBound", "levelhand/api.ErrText", "levelhand/api.ErrShape", "levelhand/api.ErrName", "levelhand/api.ErrNone", "levelhand/api.ErrExist", "levelhand/api.ErrFull", "levelhand/api.ErrOld", "levelhand/api.ErrSum", "errors.errorType"], apart := false, laid := [("errors.errorType", laid_errors_errorType), ("levelhand/api.ErrText", laid_levelhand_api_ErrText), ("levelhand/api.ErrBound", laid_levelhand_api_ErrBound), ("levelhand/api.ErrShape", laid_levelhand_api_ErrShape), ("levelhand/api.ErrName", laid_levelhand_api_ErrName), ("levelhand/api.ErrNone", laid_levelhand_api_ErrNone), ("levelhand/api.ErrExist", laid_levelhand_api_ErrExist), ("levelhand/api.ErrFull", laid_levelhand_api_ErrFull), ("levelhand/api.ErrOld", laid_levelhand_api_ErrOld), ("levelhand/api.ErrSum", laid_levelhand_api_ErrSum)], narrowed := true }
def JumpBucketsUptoSaid : Prop := jumpBucketsUptoRow.holds Tryd.pinned (OpenSpec.upto jumpBucketsSpec)

/-- 'levelhandlaw1.JumpGrows', WHERE WHAT IT READS IS OF BULK AT MOST 1048576: true; the input reads as it did. -/
def jumpGrowsUptoRow : OpenClaim := { program := "ytijdaaghomclmabdoor", sum := "5548864e12f06a4cefc1758dac6c4a52f9394de139859e18aff98e3bc0b88b7a", func := "levelhand/levelhandlaw1.JumpGrows", spec := "jumpGrows", named := ["levelhand/api.ErrBound"], apart := false, laid := [("levelhand/api.ErrBound", laid_levelhand_api_ErrBound)], narrowed := true }
def JumpGrowsUptoSaid : Prop := jumpGrowsUptoRow.holds Tryd.pinned (OpenSpec.upto jumpGrowsSpec)

/-- 'levelhandlaw1.JumpPaths', WHERE WHAT IT READS IS OF BULK AT MOST 1048576: true; the input reads as it did. -/
def jumpPathsUptoRow : OpenClaim := { program := "ytijdaaghomclmabdoor", sum := "5548864e12f06a4cefc1758dac6c4a52f9394de139859e18aff98e3bc0b88b7a", func := "levelhand/levelhandlaw1.JumpPaths", spec := "jumpPaths", named := ["levelhand/api.ErrBound"], apart := false, laid := [("levelhand/api.ErrBound", laid_levelhand_api_ErrBound)], narrowed := true }
def JumpPathsUptoSaid : Prop := jumpPathsUptoRow.holds Tryd.pinned (OpenSpec.upto jumpPathsSpec)

/-- 'levelhandlaw1.FillPlaces', WHERE WHAT IT READS IS OF BULK AT MOST 1048576: true; the input reads as it did. -/
def fillPlacesUptoRow : OpenClaim := { program := "ytijdaaghomclmabdoor", sum := "5548864e12f06a4cefc1758dac6c4a52f9394de139859e18aff98e3bc0b88b7a", func := "levelhand/levelhandlaw1.FillPlaces", spec := "fillPlaces", inPlace := ["internal/reflectlite.ValueOf", "(internal/reflectlite.Value).Type", "(internal/reflectlite.Value).IsNil", "internal/reflectlite.TypeOf", "(internal/reflectlite.Value).Elem", "(internal/reflectlite.Value).Set"], unfollowed := true, recurses := true, named := ["levelhand/api.ErrNone", "levelhand/api.ErrBound", "levelhand/api.ErrName", "levelhand/api.ErrExist", "levelhand/api.ErrText", "levelhand/api.ErrShape", "levelhand/api.ErrFull", "levelhand/api.ErrOld", "levelhand/api.ErrSum", "errors.errorType"], apart := false, laid := [("errors.errorType", laid_errors_errorType), ("levelhand/api.ErrText", laid_levelhand_api_ErrText), ("levelhand/api.ErrBound", laid_levelhand_api_ErrBound), ("levelhand/api.ErrShape", laid_levelhand_api_ErrShape), ("levelhand/api.ErrName", laid_levelhand_api_ErrName), ("levelhand/api.ErrNone", laid_levelhand_api_ErrNone), ("levelhand/api.ErrExist", laid_levelhand_api_ErrExist), ("levelhand/api.ErrFull", laid_levelhand_api_ErrFull), ("levelhand/api.ErrOld", laid_levelhand_api_ErrOld), ("levelhand/api.ErrSum", laid_levelhand_api_ErrSum)], narrowed := true }
def FillPlacesUptoSaid : Prop := fillPlacesUptoRow.holds Tryd.pinned (OpenSpec.upto fillPlacesSpec)

/-- 'levelhandlaw1.FillCaps', WHERE WHAT IT READS IS OF BULK AT MOST 1048576: true; the input reads as it did. -/
def fillCapsUptoRow : OpenClaim := { program := "ytijdaaghomclmabdoor", sum := "5548864e12f06a4cefc1758dac6c4a52f9394de139859e18aff98e3bc0b88b7a", func := "levelhand/levelhandlaw1.FillCaps", spec := "fillCaps", unfollowed := true, recurses := true, named := ["levelhand/api.ErrNone", "levelhand/api.ErrBound", "levelhand/api.ErrName", "levelhand/api.ErrExist"], apart := false, laid := [("levelhand/api.ErrBound", laid_levelhand_api_ErrBound), ("levelhand/api.ErrName", laid_levelhand_api_ErrName), ("levelhand/api.ErrNone", laid_levelhand_api_ErrNone), ("levelhand/api.ErrExist", laid_levelhand_api_ErrExist)], narrowed := true }
def FillCapsUptoSaid : Prop := fillCapsUptoRow.holds Tryd.pinned (OpenSpec.upto fillCapsSpec)

/-- 'levelhandlaw2.HealthEdges', WHERE WHAT IT READS IS OF BULK AT MOST 1048576: true; the input reads as it did. -/
def healthEdgesUptoRow : OpenClaim := { program := "ytijdaaghomclmabdoor", sum := "5548864e12f06a4cefc1758dac6c4a52f9394de139859e18aff98e3bc0b88b7a", func := "levelhand/levelhandlaw2.HealthEdges", spec := "healthEdges", unfollowed := true, recurses := true, named := ["levelhand/api.ErrBound", "levelhand/api.ErrName", "levelhand/api.ErrExist", "levelhand/api.ErrNone"], apart := false, laid := [("levelhand/api.ErrBound", laid_levelhand_api_ErrBound), ("levelhand/api.ErrName", laid_levelhand_api_ErrName), ("levelhand/api.ErrNone", laid_levelhand_api_ErrNone), ("levelhand/api.ErrExist", laid_levelhand_api_ErrExist)], narrowed := true }
def HealthEdgesUptoSaid : Prop := healthEdgesUptoRow.holds Tryd.pinned (OpenSpec.upto healthEdgesSpec)

/-- 'levelhandlaw2.HealthActs', WHERE WHAT IT READS IS OF BULK AT MOST 1048576: true; the input reads as it did. -/
def healthActsUptoRow : OpenClaim := { program := "ytijdaaghomclmabdoor", sum := "5548864e12f06a4cefc1758dac6c4a52f9394de139859e18aff98e3bc0b88b7a", func := "levelhand/levelhandlaw2.HealthActs", spec := "healthActs", inPlace := ["internal/reflectlite.ValueOf", "(internal/reflectlite.Value).Type", "(internal/reflectlite.Value).IsNil", "internal/reflectlite.TypeOf", "(internal/reflectlite.Value).Elem", "(internal/reflectlite.Value).Set"], unfollowed := true, recurses := true, named := ["levelhand/api.ErrBound", "levelhand/api.ErrName", "levelhand/api.ErrExist", "levelhand/api.ErrNone", "levelhand/api.ErrText", "levelhand/api.ErrShape", "levelhand/api.ErrFull", "levelhand/api.ErrOld", "levelhand/api.ErrSum", "errors.errorType"], apart := false, laid := [("errors.errorType", laid_errors_errorType), ("levelhand/api.ErrText", laid_levelhand_api_ErrText), ("levelhand/api.ErrBound", laid_levelhand_api_ErrBound), ("levelhand/api.ErrShape", laid_levelhand_api_ErrShape), ("levelhand/api.ErrName", laid_levelhand_api_ErrName), ("levelhand/api.ErrNone", laid_levelhand_api_ErrNone), ("levelhand/api.ErrExist", laid_levelhand_api_ErrExist), ("levelhand/api.ErrFull", laid_levelhand_api_ErrFull), ("levelhand/api.ErrOld", laid_levelhand_api_ErrOld), ("levelhand/api.ErrSum", laid_levelhand_api_ErrSum)], narrowed := true }
def HealthActsUptoSaid : Prop := healthActsUptoRow.holds Tryd.pinned (OpenSpec.upto healthActsSpec)

/-- 'levelhandlaw2.FlowsStay', WHERE WHAT IT READS IS OF BULK AT MOST 1048576: true; the input reads as it did. -/
def flowsStayUptoRow : OpenClaim := { program := "ytijdaaghomclmabdoor", sum := "5548864e12f06a4cefc1758dac6c4a52f9394de139859e18aff98e3bc0b88b7a", func := "levelhand/levelhandlaw2.FlowsStay", spec := "flowsStay", unfollowed := true, recurses := true, named := ["levelhand/api.ErrBound", "levelhand/api.ErrName", "levelhand/api.ErrNone", "levelhand/api.ErrOld", "levelhand/api.ErrExist"], apart := false, laid := [("levelhand/api.ErrBound", laid_levelhand_api_ErrBound), ("levelhand/api.ErrName", laid_levelhand_api_ErrName), ("levelhand/api.ErrNone", laid_levelhand_api_ErrNone), ("levelhand/api.ErrExist", laid_levelhand_api_ErrExist), ("levelhand/api.ErrOld", laid_levelhand_api_ErrOld)], narrowed := true }
def FlowsStayUptoSaid : Prop := flowsStayUptoRow.holds Tryd.pinned (OpenSpec.upto flowsStaySpec)

end Rows
end Go.Proofs.YtijdaaghomclmabDoor
