/- The law's coded. -/
import Derived.Test.YteehhglhlapcbabDoorLists
namespace Go.Proofs.YteehhglhlapcbabDoor
open Go.RowKit

/-- coded: the number of an error whose Code is known. -/
theorem coded_of (ev : Value) (c d : Int) (w : World) (hc : Calls Tryd.prog 17 #[ev] w fun e w' => e = .returned (.tuple #[.int .i64 c, .int .i64 (-1)]) ∧ Below w.heap.size w w') (hd : (c == d) = true) :
    Calls Tryd.prog 12 #[ev, .int .i64 d] w fun e w' => e = .returned (.bool true) ∧ Below w.heap.size w w' := by
  go_enter Tryd.func12, Tryd.ntmps12
  go_wp2_with fail
  refine hc.mono ?_
  rintro e w1 ⟨rfl, hb⟩
  clear hc
  go_wp2
  go_ret
  exact ⟨rfl, hb⟩
end Go.Proofs.YteehhglhlapcbabDoor
