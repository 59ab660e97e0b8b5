/- Numbers of 64 bits among the arguments. -/
import Derived.Test.YtijdaaghomclmabDoorLaid
import Derived.ChangeSlices
namespace Go.Proofs.YtijdaaghomclmabDoor
open Go.ChangeShapes Go.WideShapes Go.ChangeAt Go.RowKit

theorem cellsU : Tryd.prog.cellsOf 32 = 1 := by kernel_rfl
theorem wf_u64 {n : Int} (h : (Lit.int .u64 n).wf = true) : 0 ≤ n ∧ n < 18446744073709551616 := by
  have := bounds_u64 h
  omega
end Go.Proofs.YtijdaaghomclmabDoor
