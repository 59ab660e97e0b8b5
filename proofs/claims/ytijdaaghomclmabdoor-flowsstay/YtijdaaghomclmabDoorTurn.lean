/- Turn of mix computes 'turn'; it leaves all old memory as it was. -/
import Derived.Test.YtijdaaghomclmabDoorChecked
import Derived.Test.YtijdaaghomclmabDoorMath
import Derived.WalkKit
import Derived.WalkLawsBesides
import Derived.WalkSpells
namespace Go.Proofs.YtijdaaghomclmabDoor
open Go.RowKit

theorem wrapNat (z c : Nat) : IntKind.u64.wrap ((z : Int) + (c : Int)) = (((z + c) % 18446744073709551616 : Nat) : Int) := by
  rw [IntKind.wrap_u64]; omega
theorem step30 (X : Nat) (hX : X < 18446744073709551616) : IntKind.u64.wrap (bits .xor .u64 (X : Int) ((X : Int) / 1073741824) * 13787848793156543929) = ((Lh.fold 30 X * 13787848793156543929 % 18446744073709551616 : Nat) : Int) :=
  mixStep_u64 X 1073741824 13787848793156543929 hX
theorem step27 (X : Nat) (hX : X < 18446744073709551616) : IntKind.u64.wrap (bits .xor .u64 (X : Int) ((X : Int) / 134217728) * 10723151780598845931) = ((Lh.fold 27 X * 10723151780598845931 % 18446744073709551616 : Nat) : Int) :=
  mixStep_u64 X 134217728 10723151780598845931 hX
theorem step31 (X : Nat) (hX : X < 18446744073709551616) : bits .xor .u64 (X : Int) ((X : Int) / 2147483648) = ((Lh.fold 31 X : Nat) : Int) :=
  xorShift_u64 X 2147483648 hX
theorem stepAdd (z : Nat) : IntKind.u64.wrap ((z : Int) + 11400714819323198485) = (((z + 11400714819323198485) % 18446744073709551616 : Nat) : Int) := wrapNat z 11400714819323198485

set_option maxHeartbeats 400000 in
theorem turn_any (z : Nat) (w : World) :
    Calls Tryd.prog 113 #[.int .u64 z] w fun e w' => e = .returned (.int .u64 (Lh.turn z : Nat)) ∧ Below w.heap.size w w' := by
  go_enter Tryd.func113, Tryd.ntmps113
  go_wp2
  go_end0
  go_wp2
  go_end0
  go_wp2
  go_end0
  go_wp2
  go_ret
  refine ⟨?_, (Below.refl _ _).alloc (Nat.le_refl _) _⟩
  rw [stepAdd, step30 _ (Nat.mod_lt _ (by decide)), step27 _ (Nat.mod_lt _ (by decide)), step31 _ (Nat.mod_lt _ (by decide))]
  rfl
end Go.Proofs.YtijdaaghomclmabDoor
