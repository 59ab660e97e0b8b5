/- sort.Search, by the library's own contract: laid at this program's numbers. -/
import Derived.Shelf.SlSorted.Search
import Derived.Test.YtepclafmkhphbabDoorProg
namespace Go.Proofs.YtepclafmkhphbabDoor
open Go.Shelf
def searchP_ren : Go.Shelf.Ren := ⟨fun | 16 => 63 | n => n, fun | 3 => 3 | 35 => 114 | 4 => 4 | 38 => 87 | n => n, fun | n => n⟩
theorem searchP : Go.Proofs.SlLaysO.n16 Tryd.prog searchP_ren := {
  mixed := by kernel_rfl
  f16 := Tryd.func63.trans (congrArg some (by kernel_rfl))
  t3 := Tryd.underlying3
  a3 := Tryd.isAgg3
  z3 := Tryd.sizeOf3
  v3 := Tryd.zeroValue3
  t4 := Tryd.underlying4
  a4 := Tryd.isAgg4
  z4 := Tryd.sizeOf4
  v4 := Tryd.zeroValue4
  t35 := Tryd.underlying114
  a35 := Tryd.isAgg114
  z35 := Tryd.sizeOf114
  v35 := Tryd.zeroValue114
  t38 := Tryd.underlying87
  a38 := Tryd.isAgg87
  z38 := Tryd.sizeOf87
  v38 := Tryd.zeroValue87 }
end Go.Proofs.YtepclafmkhphbabDoor
