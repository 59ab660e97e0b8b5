/- sort.Search, by the library's own contract: laid at this program's numbers. -/
import Derived.Shelf.SlSorted.Search
import Derived.Test.YtedbhahkldfmiaaDoorProg
namespace Go.Proofs.YtedbhahkldfmiaaDoor
open Go.Shelf
def searchP_ren : Go.Shelf.Ren := ⟨fun | 16 => 83 | n => n, fun | 3 => 3 | 35 => 136 | 4 => 4 | 38 => 51 | n => n, fun | n => n⟩
theorem searchP : Go.Proofs.SlLaysO.n16 Tryd.prog searchP_ren := {
  mixed := by kernel_rfl
  f16 := Tryd.func83.trans (congrArg some (by kernel_rfl))
  t3 := Tryd.underlying3
  a3 := Tryd.isAgg3
  z3 := Tryd.sizeOf3
  v3 := Tryd.zeroValue3
  t4 := Tryd.underlying4
  a4 := Tryd.isAgg4
  z4 := Tryd.sizeOf4
  v4 := Tryd.zeroValue4
  t35 := Tryd.underlying136
  a35 := Tryd.isAgg136
  z35 := Tryd.sizeOf136
  v35 := Tryd.zeroValue136
  t38 := Tryd.underlying51
  a38 := Tryd.isAgg51
  z38 := Tryd.sizeOf51
  v38 := Tryd.zeroValue51 }
end Go.Proofs.YtedbhahkldfmiaaDoor
