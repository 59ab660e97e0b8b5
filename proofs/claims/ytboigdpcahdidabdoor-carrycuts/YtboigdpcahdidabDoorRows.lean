/-
  NARROWER THAN 'FOR EVERY INPUT', by the rows' own cells (each row's printed sentence says how): JumpBuckets: laid · JumpGrows: laid · JumpPaths: laid · FillPlaces: laid · FillCaps: laid · HealthEdges: laid · HealthActs: laid · FlowsStay: laid · CarryCuts: laid.
  DERIVED. THE GIVEN ROWS OF THIS SEAT. 9 by the template 'for every input the law returns true; each argument reads behind the call as it read before'; 0 by the template 'total and deterministic' (their statements: YtboigdpcahdidabDoorTotals.lean).
  GIVEN WITH THE SEED: the statements are not yours to turn. If you find one false, say at which input.
  Laid BY PROGRAM, IN A SANDBOX (cutbox-rows.mjs): the forced cells as the released guide's own fill.sh prints them over the translation aa452d9ad815c737… (all of the seat's roots in one cut). By AI agents, Wed Nov 11 2026. No macro, syntax, notation, axiom, sorry.
-/
import Derived.Test.YtboigdpcahdidabDoorChecked
import GoSem.PinnedTables
import GoSem.Claim
import GoSem.ClaimJoined
import GoSem.ClaimMapViews
import Derived.JoinedTies
import Derived.KernelRfl
namespace Go.Proofs.YtboigdpcahdidabDoor
/- THE CELL 'sum', in the pinned program and in every row, IS THE sha256 OF THE DUMP (.gsa) THAT YtboigdpcahdidabDoorProg.lean LOADS. Nothing in Lean hashes anything: it is a label: what it is worth is what the hold of that sum in a sandbox is worth. -/
noncomputable def Tryd.pinned : Pinned := { name := "ytboigdpcahdidabdoor", sum := "aa452d9ad815c737f84cd3875b73222c32c2c3ae358063a444cdaeb81e5ec93b", checked := Tryd.checked }
namespace Rows
def none {H : Type} : Left H := { results := [], args := [] }

/- WHAT THE LISTED PACKAGE-LEVEL VARIABLES READ AS WHEN THE CALL BEGINS. Each datum BY PROGRAM (the guide's laid-datum.mjs) off the statement by which the dump's own 'gosem.cut.vars' lays the variable. In a bare row this is a premise. The card (YtboigdpcahdidabDoorCards.lean) ties it to the program's text. -/
def laid_errors_errorType {H : Type} : DataW H := .iface "internal/reflectlite.rtype" (.agg [.ptr (.lit (.string [101, 114, 114, 111, 114]))])
def laid_levelhand_api_ErrText {H : Type} : DataW H := .iface "*errors.errorString" (.ptr (.agg [.lit (.string [108, 101, 118, 101, 108, 104, 97, 110, 100, 58, 32, 116, 101, 120, 116])]))
def laid_levelhand_api_ErrBound {H : Type} : DataW H := .iface "*errors.errorString" (.ptr (.agg [.lit (.string [108, 101, 118, 101, 108, 104, 97, 110, 100, 58, 32, 98, 111, 117, 110, 100])]))
def laid_levelhand_api_ErrShape {H : Type} : DataW H := .iface "*errors.errorString" (.ptr (.agg [.lit (.string [108, 101, 118, 101, 108, 104, 97, 110, 100, 58, 32, 115, 104, 97, 112, 101])]))
def laid_levelhand_api_ErrName {H : Type} : DataW H := .iface "*errors.errorString" (.ptr (.agg [.lit (.string [108, 101, 118, 101, 108, 104, 97, 110, 100, 58, 32, 110, 97, 109, 101])]))
def laid_levelhand_api_ErrNone {H : Type} : DataW H := .iface "*errors.errorString" (.ptr (.agg [.lit (.string [108, 101, 118, 101, 108, 104, 97, 110, 100, 58, 32, 110, 111, 110, 101])]))
def laid_levelhand_api_ErrExist {H : Type} : DataW H := .iface "*errors.errorString" (.ptr (.agg [.lit (.string [108, 101, 118, 101, 108, 104, 97, 110, 100, 58, 32, 101, 120, 105, 115, 116])]))
def laid_levelhand_api_ErrFull {H : Type} : DataW H := .iface "*errors.errorString" (.ptr (.agg [.lit (.string [108, 101, 118, 101, 108, 104, 97, 110, 100, 58, 32, 102, 117, 108, 108])]))
def laid_levelhand_api_ErrOld {H : Type} : DataW H := .iface "*errors.errorString" (.ptr (.agg [.lit (.string [108, 101, 118, 101, 108, 104, 97, 110, 100, 58, 32, 111, 108, 100])]))
def laid_levelhand_api_ErrSum {H : Type} : DataW H := .iface "*errors.errorString" (.ptr (.agg [.lit (.string [108, 101, 118, 101, 108, 104, 97, 110, 100, 58, 32, 115, 117, 109])]))
def laid_math_bits_deBruijn32tab {H : Type} : DataW H := .agg [.lit (.int .u8 0), .lit (.int .u8 1), .lit (.int .u8 28), .lit (.int .u8 2), .lit (.int .u8 29), .lit (.int .u8 14), .lit (.int .u8 24), .lit (.int .u8 3), .lit (.int .u8 30), .lit (.int .u8 22), .lit (.int .u8 20), .lit (.int .u8 15), .lit (.int .u8 25), .lit (.int .u8 17), .lit (.int .u8 4), .lit (.int .u8 8), .lit (.int .u8 31), .lit (.int .u8 27), .lit (.int .u8 13), .lit (.int .u8 23), .lit (.int .u8 21), .lit (.int .u8 19), .lit (.int .u8 16), .lit (.int .u8 7), .lit (.int .u8 26), .lit (.int .u8 12), .lit (.int .u8 18), .lit (.int .u8 6), .lit (.int .u8 11), .lit (.int .u8 5), .lit (.int .u8 10), .lit (.int .u8 9)]
def laid_math_bits_deBruijn64tab {H : Type} : DataW H := .agg [.lit (.int .u8 0), .lit (.int .u8 1), .lit (.int .u8 56), .lit (.int .u8 2), .lit (.int .u8 57), .lit (.int .u8 49), .lit (.int .u8 28), .lit (.int .u8 3), .lit (.int .u8 61), .lit (.int .u8 58), .lit (.int .u8 42), .lit (.int .u8 50), .lit (.int .u8 38), .lit (.int .u8 29), .lit (.int .u8 17), .lit (.int .u8 4), .lit (.int .u8 62), .lit (.int .u8 47), .lit (.int .u8 59), .lit (.int .u8 36), .lit (.int .u8 45), .lit (.int .u8 43), .lit (.int .u8 51), .lit (.int .u8 22), .lit (.int .u8 53), .lit (.int .u8 39), .lit (.int .u8 33), .lit (.int .u8 30), .lit (.int .u8 24), .lit (.int .u8 18), .lit (.int .u8 12), .lit (.int .u8 5), .lit (.int .u8 63), .lit (.int .u8 55), .lit (.int .u8 48), .lit (.int .u8 27), .lit (.int .u8 60), .lit (.int .u8 41), .lit (.int .u8 37), .lit (.int .u8 16), .lit (.int .u8 46), .lit (.int .u8 35), .lit (.int .u8 44), .lit (.int .u8 21), .lit (.int .u8 52), .lit (.int .u8 32), .lit (.int .u8 23), .lit (.int .u8 11), .lit (.int .u8 54), .lit (.int .u8 26), .lit (.int .u8 40), .lit (.int .u8 15), .lit (.int .u8 34), .lit (.int .u8 20), .lit (.int .u8 31), .lit (.int .u8 10), .lit (.int .u8 25), .lit (.int .u8 14), .lit (.int .u8 19), .lit (.int .u8 9), .lit (.int .u8 13), .lit (.int .u8 8), .lit (.int .u8 7), .lit (.int .u8 6)]
def laid_internal_strconv_uint64pow10 {H : Type} : DataW H := .agg [.lit (.int .u64 1), .lit (.int .u64 10), .lit (.int .u64 100), .lit (.int .u64 1000), .lit (.int .u64 10000), .lit (.int .u64 100000), .lit (.int .u64 1000000), .lit (.int .u64 10000000), .lit (.int .u64 100000000), .lit (.int .u64 1000000000), .lit (.int .u64 10000000000), .lit (.int .u64 100000000000), .lit (.int .u64 1000000000000), .lit (.int .u64 10000000000000), .lit (.int .u64 100000000000000), .lit (.int .u64 1000000000000000), .lit (.int .u64 10000000000000000), .lit (.int .u64 100000000000000000), .lit (.int .u64 1000000000000000000), .lit (.int .u64 10000000000000000000)]
def laid_unicode_utf8_acceptRanges {H : Type} : DataW H := .agg [.agg [.lit (.int .u8 128), .lit (.int .u8 191)], .agg [.lit (.int .u8 160), .lit (.int .u8 191)], .agg [.lit (.int .u8 128), .lit (.int .u8 159)], .agg [.lit (.int .u8 144), .lit (.int .u8 191)], .agg [.lit (.int .u8 128), .lit (.int .u8 143)], .agg [.lit (.int .u8 0), .lit (.int .u8 0)], .agg [.lit (.int .u8 0), .lit (.int .u8 0)], .agg [.lit (.int .u8 0), .lit (.int .u8 0)], .agg [.lit (.int .u8 0), .lit (.int .u8 0)], .agg [.lit (.int .u8 0), .lit (.int .u8 0)], .agg [.lit (.int .u8 0), .lit (.int .u8 0)], .agg [.lit (.int .u8 0), .lit (.int .u8 0)], .agg [.lit (.int .u8 0), .lit (.int .u8 0)], .agg [.lit (.int .u8 0), .lit (.int .u8 0)], .agg [.lit (.int .u8 0), .lit (.int .u8 0)], .agg [.lit (.int .u8 0), .lit (.int .u8 0)]]
def laid_strconv_ErrRange {H : Type} : DataW H := .iface "*errors.errorString" (.ptr (.agg [.lit (.string [118, 97, 108, 117, 101, 32, 111, 117, 116, 32, 111, 102, 32, 114, 97, 110, 103, 101])]))
def laid_strconv_ErrSyntax {H : Type} : DataW H := .iface "*errors.errorString" (.ptr (.agg [.lit (.string [105, 110, 118, 97, 108, 105, 100, 32, 115, 121, 110, 116, 97, 120])]))
/-- One of Go's own tables, pinned by name: the form's constant. -/
def laid_unicode_utf8_first : DataW Unit := Go.Pinned.utf8First

/-- 'levelhandlaw1.JumpBuckets': WHATEVER THE INPUT: true; the input reads as it did. -/
def jumpBucketsSpec : ChangeSpec := { name := "jumpBuckets", fn := fun _ => fun
  | [d1, d2] => { results := [.lit (.bool true)], args := [d1, d2] }
  | _ => none }
def jumpBucketsRow : OpenClaim := { program := "ytboigdpcahdidabdoor", sum := "aa452d9ad815c737f84cd3875b73222c32c2c3ae358063a444cdaeb81e5ec93b", func := "levelhand/levelhandlaw1.JumpBuckets", spec := "jumpBuckets", inPlace := ["internal/reflectlite.ValueOf", "(internal/reflectlite.Value).Type", "(internal/reflectlite.Value).IsNil", "internal/reflectlite.TypeOf", "(internal/reflectlite.Value).Elem", "(internal/reflectlite.Value).Set"], unfollowed := true, recurses := true, named := ["levelhand/api.ErrBound", "levelhand/api.ErrText", "levelhand/api.ErrShape", "levelhand/api.ErrName", "levelhand/api.ErrNone", "levelhand/api.ErrExist", "levelhand/api.ErrFull", "levelhand/api.ErrOld", "levelhand/api.ErrSum", "errors.errorType"], apart := false, laid := [("errors.errorType", laid_errors_errorType), ("levelhand/api.ErrText", laid_levelhand_api_ErrText), ("levelhand/api.ErrBound", laid_levelhand_api_ErrBound), ("levelhand/api.ErrShape", laid_levelhand_api_ErrShape), ("levelhand/api.ErrName", laid_levelhand_api_ErrName), ("levelhand/api.ErrNone", laid_levelhand_api_ErrNone), ("levelhand/api.ErrExist", laid_levelhand_api_ErrExist), ("levelhand/api.ErrFull", laid_levelhand_api_ErrFull), ("levelhand/api.ErrOld", laid_levelhand_api_ErrOld), ("levelhand/api.ErrSum", laid_levelhand_api_ErrSum)] }
def JumpBucketsSaid : Prop := jumpBucketsRow.holds Tryd.pinned (OpenSpec.ofChange jumpBucketsSpec)

/-- ITS FALSE NEIGHBOUR: 'it returns false'. Refute it at one input. -/
def jumpBucketsWrong : ChangeSpec := { name := "jumpBuckets", fn := fun _ => fun
  | [d1, d2] => { results := [.lit (.bool false)], args := [d1, d2] }
  | _ => none }
def JumpBucketsWrongFalsely : Prop := jumpBucketsRow.holds Tryd.pinned (OpenSpec.ofChange jumpBucketsWrong)

/-- 'levelhandlaw1.JumpGrows': WHATEVER THE INPUT: true; the input reads as it did. -/
def jumpGrowsSpec : ChangeSpec := { name := "jumpGrows", fn := fun _ => fun
  | [d1, d2] => { results := [.lit (.bool true)], args := [d1, d2] }
  | _ => none }
def jumpGrowsRow : OpenClaim := { program := "ytboigdpcahdidabdoor", sum := "aa452d9ad815c737f84cd3875b73222c32c2c3ae358063a444cdaeb81e5ec93b", func := "levelhand/levelhandlaw1.JumpGrows", spec := "jumpGrows", named := ["levelhand/api.ErrBound"], apart := false, laid := [("levelhand/api.ErrBound", laid_levelhand_api_ErrBound)] }
def JumpGrowsSaid : Prop := jumpGrowsRow.holds Tryd.pinned (OpenSpec.ofChange jumpGrowsSpec)

/-- ITS FALSE NEIGHBOUR: 'it returns false'. Refute it at one input. -/
def jumpGrowsWrong : ChangeSpec := { name := "jumpGrows", fn := fun _ => fun
  | [d1, d2] => { results := [.lit (.bool false)], args := [d1, d2] }
  | _ => none }
def JumpGrowsWrongFalsely : Prop := jumpGrowsRow.holds Tryd.pinned (OpenSpec.ofChange jumpGrowsWrong)

/-- 'levelhandlaw1.JumpPaths': WHATEVER THE INPUT: true; the input reads as it did. -/
def jumpPathsSpec : ChangeSpec := { name := "jumpPaths", fn := fun _ => fun
  | [d1, d2, d3] => { results := [.lit (.bool true)], args := [d1, d2, d3] }
  | _ => none }
def jumpPathsRow : OpenClaim := { program := "ytboigdpcahdidabdoor", sum := "aa452d9ad815c737f84cd3875b73222c32c2c3ae358063a444cdaeb81e5ec93b", func := "levelhand/levelhandlaw1.JumpPaths", spec := "jumpPaths", named := ["levelhand/api.ErrBound"], apart := false, laid := [("levelhand/api.ErrBound", laid_levelhand_api_ErrBound)] }
def JumpPathsSaid : Prop := jumpPathsRow.holds Tryd.pinned (OpenSpec.ofChange jumpPathsSpec)

/-- ITS FALSE NEIGHBOUR: 'it returns false'. Refute it at one input. -/
def jumpPathsWrong : ChangeSpec := { name := "jumpPaths", fn := fun _ => fun
  | [d1, d2, d3] => { results := [.lit (.bool false)], args := [d1, d2, d3] }
  | _ => none }
def JumpPathsWrongFalsely : Prop := jumpPathsRow.holds Tryd.pinned (OpenSpec.ofChange jumpPathsWrong)

/-- 'levelhandlaw1.FillPlaces': WHATEVER THE INPUT: true; the input reads as it did. -/
def fillPlacesSpec : ChangeSpec := { name := "fillPlaces", fn := fun _ => fun
  | [d1, d2, d3, d4, d5, d6] => { results := [.lit (.bool true)], args := [d1, d2, d3, d4, d5, d6] }
  | _ => none }
def fillPlacesRow : OpenClaim := { program := "ytboigdpcahdidabdoor", sum := "aa452d9ad815c737f84cd3875b73222c32c2c3ae358063a444cdaeb81e5ec93b", func := "levelhand/levelhandlaw1.FillPlaces", spec := "fillPlaces", inPlace := ["internal/reflectlite.ValueOf", "(internal/reflectlite.Value).Type", "(internal/reflectlite.Value).IsNil", "internal/reflectlite.TypeOf", "(internal/reflectlite.Value).Elem", "(internal/reflectlite.Value).Set"], unfollowed := true, recurses := true, named := ["levelhand/api.ErrNone", "levelhand/api.ErrBound", "levelhand/api.ErrName", "levelhand/api.ErrExist", "levelhand/api.ErrText", "levelhand/api.ErrShape", "levelhand/api.ErrFull", "levelhand/api.ErrOld", "levelhand/api.ErrSum", "errors.errorType"], apart := false, laid := [("errors.errorType", laid_errors_errorType), ("levelhand/api.ErrText", laid_levelhand_api_ErrText), ("levelhand/api.ErrBound", laid_levelhand_api_ErrBound), ("levelhand/api.ErrShape", laid_levelhand_api_ErrShape), ("levelhand/api.ErrName", laid_levelhand_api_ErrName), ("levelhand/api.ErrNone", laid_levelhand_api_ErrNone), ("levelhand/api.ErrExist", laid_levelhand_api_ErrExist), ("levelhand/api.ErrFull", laid_levelhand_api_ErrFull), ("levelhand/api.ErrOld", laid_levelhand_api_ErrOld), ("levelhand/api.ErrSum", laid_levelhand_api_ErrSum)] }
def FillPlacesSaid : Prop := fillPlacesRow.holds Tryd.pinned (OpenSpec.ofChange fillPlacesSpec)

/-- ITS FALSE NEIGHBOUR: 'it returns false'. Refute it at one input. -/
def fillPlacesWrong : ChangeSpec := { name := "fillPlaces", fn := fun _ => fun
  | [d1, d2, d3, d4, d5, d6] => { results := [.lit (.bool false)], args := [d1, d2, d3, d4, d5, d6] }
  | _ => none }
def FillPlacesWrongFalsely : Prop := fillPlacesRow.holds Tryd.pinned (OpenSpec.ofChange fillPlacesWrong)

/-- 'levelhandlaw1.FillCaps': WHATEVER THE INPUT: true; the input reads as it did. -/
def fillCapsSpec : ChangeSpec := { name := "fillCaps", fn := fun _ => fun
  | [d1, d2, d3, d4] => { results := [.lit (.bool true)], args := [d1, d2, d3, d4] }
  | _ => none }
def fillCapsRow : OpenClaim := { program := "ytboigdpcahdidabdoor", sum := "aa452d9ad815c737f84cd3875b73222c32c2c3ae358063a444cdaeb81e5ec93b", func := "levelhand/levelhandlaw1.FillCaps", spec := "fillCaps", unfollowed := true, recurses := true, named := ["levelhand/api.ErrNone", "levelhand/api.ErrBound", "levelhand/api.ErrName", "levelhand/api.ErrExist"], apart := false, laid := [("levelhand/api.ErrBound", laid_levelhand_api_ErrBound), ("levelhand/api.ErrName", laid_levelhand_api_ErrName), ("levelhand/api.ErrNone", laid_levelhand_api_ErrNone), ("levelhand/api.ErrExist", laid_levelhand_api_ErrExist)] }
def FillCapsSaid : Prop := fillCapsRow.holds Tryd.pinned (OpenSpec.ofChange fillCapsSpec)

/-- ITS FALSE NEIGHBOUR: 'it returns false'. Refute it at one input. -/
def fillCapsWrong : ChangeSpec := { name := "fillCaps", fn := fun _ => fun
  | [d1, d2, d3, d4] => { results := [.lit (.bool false)], args := [d1, d2, d3, d4] }
  | _ => none }
def FillCapsWrongFalsely : Prop := fillCapsRow.holds Tryd.pinned (OpenSpec.ofChange fillCapsWrong)

/-- 'levelhandlaw2.HealthEdges': WHATEVER THE INPUT: true; the input reads as it did. -/
def healthEdgesSpec : ChangeSpec := { name := "healthEdges", fn := fun _ => fun
  | [d1, d2, d3] => { results := [.lit (.bool true)], args := [d1, d2, d3] }
  | _ => none }
def healthEdgesRow : OpenClaim := { program := "ytboigdpcahdidabdoor", sum := "aa452d9ad815c737f84cd3875b73222c32c2c3ae358063a444cdaeb81e5ec93b", func := "levelhand/levelhandlaw2.HealthEdges", spec := "healthEdges", unfollowed := true, recurses := true, named := ["levelhand/api.ErrBound", "levelhand/api.ErrName", "levelhand/api.ErrExist", "levelhand/api.ErrNone"], apart := false, laid := [("levelhand/api.ErrBound", laid_levelhand_api_ErrBound), ("levelhand/api.ErrName", laid_levelhand_api_ErrName), ("levelhand/api.ErrNone", laid_levelhand_api_ErrNone), ("levelhand/api.ErrExist", laid_levelhand_api_ErrExist)] }
def HealthEdgesSaid : Prop := healthEdgesRow.holds Tryd.pinned (OpenSpec.ofChange healthEdgesSpec)

/-- ITS FALSE NEIGHBOUR: 'it returns false'. Refute it at one input. -/
def healthEdgesWrong : ChangeSpec := { name := "healthEdges", fn := fun _ => fun
  | [d1, d2, d3] => { results := [.lit (.bool false)], args := [d1, d2, d3] }
  | _ => none }
def HealthEdgesWrongFalsely : Prop := healthEdgesRow.holds Tryd.pinned (OpenSpec.ofChange healthEdgesWrong)

/-- 'levelhandlaw2.HealthActs': WHATEVER THE INPUT: true; the input reads as it did. -/
def healthActsSpec : ChangeSpec := { name := "healthActs", fn := fun _ => fun
  | [d1, d2, d3, d4] => { results := [.lit (.bool true)], args := [d1, d2, d3, d4] }
  | _ => none }
def healthActsRow : OpenClaim := { program := "ytboigdpcahdidabdoor", sum := "aa452d9ad815c737f84cd3875b73222c32c2c3ae358063a444cdaeb81e5ec93b", func := "levelhand/levelhandlaw2.HealthActs", spec := "healthActs", inPlace := ["internal/reflectlite.ValueOf", "(internal/reflectlite.Value).Type", "(internal/reflectlite.Value).IsNil", "internal/reflectlite.TypeOf", "(internal/reflectlite.Value).Elem", "(internal/reflectlite.Value).Set"], unfollowed := true, recurses := true, named := ["levelhand/api.ErrBound", "levelhand/api.ErrName", "levelhand/api.ErrExist", "levelhand/api.ErrNone", "levelhand/api.ErrText", "levelhand/api.ErrShape", "levelhand/api.ErrFull", "levelhand/api.ErrOld", "levelhand/api.ErrSum", "errors.errorType"], apart := false, laid := [("errors.errorType", laid_errors_errorType), ("levelhand/api.ErrText", laid_levelhand_api_ErrText), ("levelhand/api.ErrBound", laid_levelhand_api_ErrBound), ("levelhand/api.ErrShape", laid_levelhand_api_ErrShape), ("levelhand/api.ErrName", laid_levelhand_api_ErrName), ("levelhand/api.ErrNone", laid_levelhand_api_ErrNone), ("levelhand/api.ErrExist", laid_levelhand_api_ErrExist), ("levelhand/api.ErrFull", laid_levelhand_api_ErrFull), ("levelhand/api.ErrOld", laid_levelhand_api_ErrOld), ("levelhand/api.ErrSum", laid_levelhand_api_ErrSum)] }
def HealthActsSaid : Prop := healthActsRow.holds Tryd.pinned (OpenSpec.ofChange healthActsSpec)

/-- ITS FALSE NEIGHBOUR: 'it returns false'. Refute it at one input. -/
def healthActsWrong : ChangeSpec := { name := "healthActs", fn := fun _ => fun
  | [d1, d2, d3, d4] => { results := [.lit (.bool false)], args := [d1, d2, d3, d4] }
  | _ => none }
def HealthActsWrongFalsely : Prop := healthActsRow.holds Tryd.pinned (OpenSpec.ofChange healthActsWrong)

/-- 'levelhandlaw2.FlowsStay': WHATEVER THE INPUT: true; the input reads as it did. -/
def flowsStaySpec : ChangeSpec := { name := "flowsStay", fn := fun _ => fun
  | [d1, d2, d3, d4] => { results := [.lit (.bool true)], args := [d1, d2, d3, d4] }
  | _ => none }
def flowsStayRow : OpenClaim := { program := "ytboigdpcahdidabdoor", sum := "aa452d9ad815c737f84cd3875b73222c32c2c3ae358063a444cdaeb81e5ec93b", func := "levelhand/levelhandlaw2.FlowsStay", spec := "flowsStay", unfollowed := true, recurses := true, named := ["levelhand/api.ErrBound", "levelhand/api.ErrName", "levelhand/api.ErrNone", "levelhand/api.ErrOld", "levelhand/api.ErrExist"], apart := false, laid := [("levelhand/api.ErrBound", laid_levelhand_api_ErrBound), ("levelhand/api.ErrName", laid_levelhand_api_ErrName), ("levelhand/api.ErrNone", laid_levelhand_api_ErrNone), ("levelhand/api.ErrExist", laid_levelhand_api_ErrExist), ("levelhand/api.ErrOld", laid_levelhand_api_ErrOld)] }
def FlowsStaySaid : Prop := flowsStayRow.holds Tryd.pinned (OpenSpec.ofChange flowsStaySpec)

/-- ITS FALSE NEIGHBOUR: 'it returns false'. Refute it at one input. -/
def flowsStayWrong : ChangeSpec := { name := "flowsStay", fn := fun _ => fun
  | [d1, d2, d3, d4] => { results := [.lit (.bool false)], args := [d1, d2, d3, d4] }
  | _ => none }
def FlowsStayWrongFalsely : Prop := flowsStayRow.holds Tryd.pinned (OpenSpec.ofChange flowsStayWrong)

/-- 'levelhandlaw2.CarryCuts': WHATEVER THE INPUT: true; the input reads as it did. -/
def carryCutsSpec : ChangeSpec := { name := "carryCuts", fn := fun _ => fun
  | [d1, d2, d3, d4, d5] => { results := [.lit (.bool true)], args := [d1, d2, d3, d4, d5] }
  | _ => none }
def carryCutsRow : OpenClaim := { program := "ytboigdpcahdidabdoor", sum := "aa452d9ad815c737f84cd3875b73222c32c2c3ae358063a444cdaeb81e5ec93b", func := "levelhand/levelhandlaw2.CarryCuts", spec := "carryCuts", inPlace := ["internal/abi.NoEscape", "internal/bytealg.MakeNoZero", "internal/bytealg.CountString", "internal/bytealg.IndexByteString", "internal/bytealg.IndexString"], named := ["levelhand/api.ErrBound", "levelhand/api.ErrName", "levelhand/api.ErrExist", "internal/strconv.uint64pow10", "math/bits.deBruijn32tab", "math/bits.deBruijn64tab", "levelhand/api.ErrText", "levelhand/api.ErrSum", "strconv.ErrSyntax", "strconv.ErrRange", "unicode/utf8.first", "unicode/utf8.acceptRanges", "internal/bytealg.MaxLen"], apart := false, laid := [("math/bits.deBruijn32tab", laid_math_bits_deBruijn32tab), ("math/bits.deBruijn64tab", laid_math_bits_deBruijn64tab), ("internal/strconv.uint64pow10", laid_internal_strconv_uint64pow10), ("unicode/utf8.acceptRanges", laid_unicode_utf8_acceptRanges), ("levelhand/api.ErrText", laid_levelhand_api_ErrText), ("levelhand/api.ErrBound", laid_levelhand_api_ErrBound), ("levelhand/api.ErrName", laid_levelhand_api_ErrName), ("levelhand/api.ErrExist", laid_levelhand_api_ErrExist), ("levelhand/api.ErrSum", laid_levelhand_api_ErrSum), ("strconv.ErrRange", laid_strconv_ErrRange), ("strconv.ErrSyntax", laid_strconv_ErrSyntax), ("unicode/utf8.first", laid_unicode_utf8_first)] }
def CarryCutsSaid : Prop := carryCutsRow.holds Tryd.pinned (OpenSpec.ofChange carryCutsSpec)

/-- ITS FALSE NEIGHBOUR: 'it returns false'. Refute it at one input. -/
def carryCutsWrong : ChangeSpec := { name := "carryCuts", fn := fun _ => fun
  | [d1, d2, d3, d4, d5] => { results := [.lit (.bool false)], args := [d1, d2, d3, d4, d5] }
  | _ => none }
def CarryCutsWrongFalsely : Prop := carryCutsRow.holds Tryd.pinned (OpenSpec.ofChange carryCutsWrong)

/- THE SECOND FORM. 'bulk': how many values and letters a reading holds, each counted each time it is reached (what is shared counts as often as it is met; a slice's spare places count too). A statement '..UptoSaid' is the law's where the arguments, and the package variables that the reading takes, are together of bulk at most 1048576: NARROWER than '..Said'. Prove '..Said' where nothing that the law and all that it calls make is longer than what came in: it says more and counts as full. Else prove '..UptoSaid'. A law counts once. -/
mutual
def uptoBulk {H : Type} : DataW H → Nat
  | .lit (.string bytes) => bytes.length + 1
  | .lit _ => 1
  | .nil => 1
  | .ptr d => uptoBulk d + 1
  | .slice elems spare => uptoBulkAll elems + uptoBulkAll spare + 1
  | .agg parts => uptoBulkAll parts + 1
  | .iface _ d => uptoBulk d + 1
  | .map entries => uptoBulkEntries entries + 1
  | .held _ => 1
def uptoBulkAll {H : Type} : List (DataW H) → Nat
  | [] => 0
  | d :: r => uptoBulk d + uptoBulkAll r
def uptoBulkEntries {H : Type} : List (Lit × DataW H) → Nat
  | [] => 0
  | x :: r => uptoBulkEntry x + uptoBulkEntries r
def uptoBulkEntry {H : Type} : Lit × DataW H → Nat
  | (.string bytes, d) => bytes.length + uptoBulk d + 1
  | (_, d) => uptoBulk d + 1
 end
def uptoSmall : (H : Type) → List (DataW H) → Bool := fun _ ds => decide (uptoBulkAll ds ≤ 1048576)
def OpenSpec.upto (s : _root_.Go.ChangeSpec) : _root_.Go.OpenSpec := { _root_.Go.OpenSpec.ofChange s with cond := some uptoSmall }

/-- 'levelhandlaw1.JumpBuckets', WHERE WHAT IT READS IS OF BULK AT MOST 1048576: true; the input reads as it did. -/
def jumpBucketsUptoRow : OpenClaim := { program := "ytboigdpcahdidabdoor", sum := "aa452d9ad815c737f84cd3875b73222c32c2c3ae358063a444cdaeb81e5ec93b", func := "levelhand/levelhandlaw1.JumpBuckets", spec := "jumpBuckets", inPlace := ["internal/reflectlite.ValueOf", "(internal/reflectlite.Value).Type", "(internal/reflectlite.Value).IsNil", "internal/reflectlite.TypeOf", "(internal/reflectlite.Value).Elem", "(internal/reflectlite.Value).Set"], unfollowed := true, recurses := true, named := ["levelhand/api.ErrBound", "levelhand/api.ErrText", "levelhand/api.ErrShape", "levelhand/api.ErrName", "levelhand/api.ErrNone", "levelhand/api.ErrExist", "levelhand/api.ErrFull", "levelhand/api.ErrOld", "levelhand/api.ErrSum", "errors.errorType"], apart := false, laid := [("errors.errorType", laid_errors_errorType), ("levelhand/api.ErrText", laid_levelhand_api_ErrText), ("levelhand/api.ErrBound", laid_levelhand_api_ErrBound), ("levelhand/api.ErrShape", laid_levelhand_api_ErrShape), ("levelhand/api.ErrName", laid_levelhand_api_ErrName), ("levelhand/api.ErrNone", laid_levelhand_api_ErrNone), ("levelhand/api.ErrExist", laid_levelhand_api_ErrExist), ("levelhand/api.ErrFull", laid_levelhand_api_ErrFull), ("levelhand/api.ErrOld", laid_levelhand_api_ErrOld), ("levelhand/api.ErrSum", laid_levelhand_api_ErrSum)], narrowed := true }
def JumpBucketsUptoSaid : Prop := jumpBucketsUptoRow.holds Tryd.pinned (OpenSpec.upto jumpBucketsSpec)

/-- 'levelhandlaw1.JumpGrows', WHERE WHAT IT READS IS OF BULK AT MOST 1048576: true; the input reads as it did. -/
def jumpGrowsUptoRow : OpenClaim := { program := "ytboigdpcahdidabdoor", sum := "aa452d9ad815c737f84cd3875b73222c32c2c3ae358063a444cdaeb81e5ec93b", func := "levelhand/levelhandlaw1.JumpGrows", spec := "jumpGrows", named := ["levelhand/api.ErrBound"], apart := false, laid := [("levelhand/api.ErrBound", laid_levelhand_api_ErrBound)], narrowed := true }
def JumpGrowsUptoSaid : Prop := jumpGrowsUptoRow.holds Tryd.pinned (OpenSpec.upto jumpGrowsSpec)

/-- 'levelhandlaw1.JumpPaths', WHERE WHAT IT READS IS OF BULK AT MOST 1048576: true; the input reads as it did. -/
def jumpPathsUptoRow : OpenClaim := { program := "ytboigdpcahdidabdoor", sum := "aa452d9ad815c737f84cd3875b73222c32c2c3ae358063a444cdaeb81e5ec93b", func := "levelhand/levelhandlaw1.JumpPaths", spec := "jumpPaths", named := ["levelhand/api.ErrBound"], apart := false, laid := [("levelhand/api.ErrBound", laid_levelhand_api_ErrBound)], narrowed := true }
def JumpPathsUptoSaid : Prop := jumpPathsUptoRow.holds Tryd.pinned (OpenSpec.upto jumpPathsSpec)

/-- 'levelhandlaw1.FillPlaces', WHERE WHAT IT READS IS OF BULK AT MOST 1048576: true; the input reads as it did. -/
def fillPlacesUptoRow : OpenClaim := { program := "ytboigdpcahdidabdoor", sum := "aa452d9ad815c737f84cd3875b73222c32c2c3ae358063a444cdaeb81e5ec93b", func := "levelhand/levelhandlaw1.FillPlaces", spec := "fillPlaces", inPlace := ["internal/reflectlite.ValueOf", "(internal/reflectlite.Value).Type", "(internal/reflectlite.Value).IsNil", "internal/reflectlite.TypeOf", "(internal/reflectlite.Value).Elem", "(internal/reflectlite.Value).Set"], unfollowed := true, recurses := true, named := ["levelhand/api.ErrNone", "levelhand/api.ErrBound", "levelhand/api.ErrName", "levelhand/api.ErrExist", "levelhand/api.ErrText", "levelhand/api.ErrShape", "levelhand/api.ErrFull", "levelhand/api.ErrOld", "levelhand/api.ErrSum", "errors.errorType"], apart := false, laid := [("errors.errorType", laid_errors_errorType), ("levelhand/api.ErrText", laid_levelhand_api_ErrText), ("levelhand/api.ErrBound", laid_levelhand_api_ErrBound), ("levelhand/api.ErrShape", laid_levelhand_api_ErrShape), ("levelhand/api.ErrName", laid_levelhand_api_ErrName), ("levelhand/api.ErrNone", laid_levelhand_api_ErrNone), ("levelhand/api.ErrExist", laid_levelhand_api_ErrExist), ("levelhand/api.ErrFull", laid_levelhand_api_ErrFull), ("levelhand/api.ErrOld", laid_levelhand_api_ErrOld), ("levelhand/api.ErrSum", laid_levelhand_api_ErrSum)], narrowed := true }
def FillPlacesUptoSaid : Prop := fillPlacesUptoRow.holds Tryd.pinned (OpenSpec.upto fillPlacesSpec)

/-- 'levelhandlaw1.FillCaps', WHERE WHAT IT READS IS OF BULK AT MOST 1048576: true; the input reads as it did. -/
def fillCapsUptoRow : OpenClaim := { program := "ytboigdpcahdidabdoor", sum := "aa452d9ad815c737f84cd3875b73222c32c2c3ae358063a444cdaeb81e5ec93b", func := "levelhand/levelhandlaw1.FillCaps", spec := "fillCaps", unfollowed := true, recurses := true, named := ["levelhand/api.ErrNone", "levelhand/api.ErrBound", "levelhand/api.ErrName", "levelhand/api.ErrExist"], apart := false, laid := [("levelhand/api.ErrBound", laid_levelhand_api_ErrBound), ("levelhand/api.ErrName", laid_levelhand_api_ErrName), ("levelhand/api.ErrNone", laid_levelhand_api_ErrNone), ("levelhand/api.ErrExist", laid_levelhand_api_ErrExist)], narrowed := true }
def FillCapsUptoSaid : Prop := fillCapsUptoRow.holds Tryd.pinned (OpenSpec.upto fillCapsSpec)

/-- 'levelhandlaw2.HealthEdges', WHERE WHAT IT READS IS OF BULK AT MOST 1048576: true; the input reads as it did. -/
def healthEdgesUptoRow : OpenClaim := { program := "ytboigdpcahdidabdoor", sum := "aa452d9ad815c737f84cd3875b73222c32c2c3ae358063a444cdaeb81e5ec93b", func := "levelhand/levelhandlaw2.HealthEdges", spec := "healthEdges", unfollowed := true, recurses := true, named := ["levelhand/api.ErrBound", "levelhand/api.ErrName", "levelhand/api.ErrExist", "levelhand/api.ErrNone"], apart := false, laid := [("levelhand/api.ErrBound", laid_levelhand_api_ErrBound), ("levelhand/api.ErrName", laid_levelhand_api_ErrName), ("levelhand/api.ErrNone", laid_levelhand_api_ErrNone), ("levelhand/api.ErrExist", laid_levelhand_api_ErrExist)], narrowed := true }
def HealthEdgesUptoSaid : Prop := healthEdgesUptoRow.holds Tryd.pinned (OpenSpec.upto healthEdgesSpec)

/-- 'levelhandlaw2.HealthActs', WHERE WHAT IT READS IS OF BULK AT MOST 1048576: true; the input reads as it did. -/
def healthActsUptoRow : OpenClaim := { program := "ytboigdpcahdidabdoor", sum := "aa452d9ad815c737f84cd3875b73222c32c2c3ae358063a444cdaeb81e5ec93b", func := "levelhand/levelhandlaw2.HealthActs", spec := "healthActs", inPlace := ["internal/reflectlite.ValueOf", "(internal/reflectlite.Value).Type", "(internal/reflectlite.Value).IsNil", "internal/reflectlite.TypeOf", "(internal/reflectlite.Value).Elem", "(internal/reflectlite.Value).Set"], unfollowed := true, recurses := true, named := ["levelhand/api.ErrBound", "levelhand/api.ErrName", "levelhand/api.ErrExist", "levelhand/api.ErrNone", "levelhand/api.ErrText", "levelhand/api.ErrShape", "levelhand/api.ErrFull", "levelhand/api.ErrOld", "levelhand/api.ErrSum", "errors.errorType"], apart := false, laid := [("errors.errorType", laid_errors_errorType), ("levelhand/api.ErrText", laid_levelhand_api_ErrText), ("levelhand/api.ErrBound", laid_levelhand_api_ErrBound), ("levelhand/api.ErrShape", laid_levelhand_api_ErrShape), ("levelhand/api.ErrName", laid_levelhand_api_ErrName), ("levelhand/api.ErrNone", laid_levelhand_api_ErrNone), ("levelhand/api.ErrExist", laid_levelhand_api_ErrExist), ("levelhand/api.ErrFull", laid_levelhand_api_ErrFull), ("levelhand/api.ErrOld", laid_levelhand_api_ErrOld), ("levelhand/api.ErrSum", laid_levelhand_api_ErrSum)], narrowed := true }
def HealthActsUptoSaid : Prop := healthActsUptoRow.holds Tryd.pinned (OpenSpec.upto healthActsSpec)

/-- 'levelhandlaw2.FlowsStay', WHERE WHAT IT READS IS OF BULK AT MOST 1048576: true; the input reads as it did. -/
def flowsStayUptoRow : OpenClaim := { program := "ytboigdpcahdidabdoor", sum := "aa452d9ad815c737f84cd3875b73222c32c2c3ae358063a444cdaeb81e5ec93b", func := "levelhand/levelhandlaw2.FlowsStay", spec := "flowsStay", unfollowed := true, recurses := true, named := ["levelhand/api.ErrBound", "levelhand/api.ErrName", "levelhand/api.ErrNone", "levelhand/api.ErrOld", "levelhand/api.ErrExist"], apart := false, laid := [("levelhand/api.ErrBound", laid_levelhand_api_ErrBound), ("levelhand/api.ErrName", laid_levelhand_api_ErrName), ("levelhand/api.ErrNone", laid_levelhand_api_ErrNone), ("levelhand/api.ErrExist", laid_levelhand_api_ErrExist), ("levelhand/api.ErrOld", laid_levelhand_api_ErrOld)], narrowed := true }
def FlowsStayUptoSaid : Prop := flowsStayUptoRow.holds Tryd.pinned (OpenSpec.upto flowsStaySpec)

/-- 'levelhandlaw2.CarryCuts', WHERE WHAT IT READS IS OF BULK AT MOST 1048576: true; the input reads as it did. -/
def carryCutsUptoRow : OpenClaim := { program := "ytboigdpcahdidabdoor", sum := "aa452d9ad815c737f84cd3875b73222c32c2c3ae358063a444cdaeb81e5ec93b", func := "levelhand/levelhandlaw2.CarryCuts", spec := "carryCuts", inPlace := ["internal/abi.NoEscape", "internal/bytealg.MakeNoZero", "internal/bytealg.CountString", "internal/bytealg.IndexByteString", "internal/bytealg.IndexString"], named := ["levelhand/api.ErrBound", "levelhand/api.ErrName", "levelhand/api.ErrExist", "internal/strconv.uint64pow10", "math/bits.deBruijn32tab", "math/bits.deBruijn64tab", "levelhand/api.ErrText", "levelhand/api.ErrSum", "strconv.ErrSyntax", "strconv.ErrRange", "unicode/utf8.first", "unicode/utf8.acceptRanges", "internal/bytealg.MaxLen"], apart := false, laid := [("math/bits.deBruijn32tab", laid_math_bits_deBruijn32tab), ("math/bits.deBruijn64tab", laid_math_bits_deBruijn64tab), ("internal/strconv.uint64pow10", laid_internal_strconv_uint64pow10), ("unicode/utf8.acceptRanges", laid_unicode_utf8_acceptRanges), ("levelhand/api.ErrText", laid_levelhand_api_ErrText), ("levelhand/api.ErrBound", laid_levelhand_api_ErrBound), ("levelhand/api.ErrName", laid_levelhand_api_ErrName), ("levelhand/api.ErrExist", laid_levelhand_api_ErrExist), ("levelhand/api.ErrSum", laid_levelhand_api_ErrSum), ("strconv.ErrRange", laid_strconv_ErrRange), ("strconv.ErrSyntax", laid_strconv_ErrSyntax), ("unicode/utf8.first", laid_unicode_utf8_first)], narrowed := true }
def CarryCutsUptoSaid : Prop := carryCutsUptoRow.holds Tryd.pinned (OpenSpec.upto carryCutsSpec)

end Rows
end Go.Proofs.YtboigdpcahdidabDoor
