/- slices.DeleteFunc of a row of pointers, by the library's own contract: laid at this program's numbers. -/
import Derived.Shelf.SlGeneric
import Derived.Shelf.SlicesE.DeleteFunc
import Derived.Test.YtkpjecpaejdgaabDoorProg
namespace Go.Proofs.YtkpjecpaejdgaabDoor
open Go.Shelf
def delS_ren : Go.Shelf.Ren := ⟨fun | 10 => 75 | 6 => 96 | n => n, fun | 22 => 108 | 23 => 111 | 25 => 124 | 3 => 3 | 4 => 4 | 0 => 0 | n => n, fun | n => n⟩
theorem delS : Go.Proofs.SlLaysH.n10 Tryd.prog delS_ren := {
  mixed := by kernel_rfl
  f6 := ⟨Tryd.f96.name, by decide, Tryd.func96.trans (congrArg some (by kernel_rfl))⟩
  f10 := ⟨Tryd.f75.name, by decide, Tryd.func75.trans (congrArg some (by kernel_rfl))⟩
  t0 := Tryd.underlying0
  a0 := Tryd.isAgg0
  z0 := Tryd.sizeOf0
  v0 := Tryd.zeroValue0
  t3 := Tryd.underlying3
  a3 := Tryd.isAgg3
  z3 := Tryd.sizeOf3
  v3 := Tryd.zeroValue3
  t4 := Tryd.underlying4
  a4 := Tryd.isAgg4
  z4 := Tryd.sizeOf4
  v4 := Tryd.zeroValue4
  t22 := Tryd.underlying108
  a22 := Tryd.isAgg108
  z22 := Tryd.sizeOf108
  v22 := Tryd.zeroValue108
  a23 := Tryd.isAgg111
  z23 := Tryd.sizeOf111
  t25 := Tryd.underlying124
  a25 := Tryd.isAgg124
  z25 := Tryd.sizeOf124
  v25 := Tryd.zeroValue124 }
end Go.Proofs.YtkpjecpaejdgaabDoor
