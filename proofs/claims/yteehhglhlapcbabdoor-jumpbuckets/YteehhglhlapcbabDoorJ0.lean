/- Where only ErrBound is known. -/
import Derived.Test.YteehhglhlapcbabDoorCode
namespace Go.Proofs.YteehhglhlapcbabDoor
open Go.RowKit

/-- ErrBound holds a pointer. -/
structure Errs1 (a : Nat → Addr) (w : World) : Prop where
  s1 : w.cell? ⟨0, 0, none⟩ = some (.iface 84 (.pointer (some (a 1))))
theorem Errs1.later {a : Nat → Addr} {w w' : World} (h : Errs1 a w) (hb : Below w.heap.size w w') : Errs1 a w' := ⟨below_cell hb h.s1⟩
theorem Errs.one {a : Nat → Addr} {w : World} (h : Errs a w) : Errs1 a w := ⟨h.s1⟩
end Go.Proofs.YteehhglhlapcbabDoor
