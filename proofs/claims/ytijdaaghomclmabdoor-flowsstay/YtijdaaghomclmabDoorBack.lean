/- MixBack: the walks: 'mixed' is true, each step of a turn is undone. -/
import Derived.Test.YtijdaaghomclmabDoorTurn
import Derived.Test.YtijdaaghomclmabDoorBase
namespace Go.Proofs.YtijdaaghomclmabDoor
open Go.RowKit

set_option maxHeartbeats 400000 in
theorem check_nil (w : World) : Calls Tryd.prog 66 #[.slice none 0 0] w fun e w' => e = .returned .nilIface ∧ w' = w := by
  go_enter Tryd.func66, Tryd.ntmps66
  go_wp2
  refine wp_loop_rounds 1 ?_
  rw [rounds_succ]
  go_wp2
  go_ret
  exact ⟨rfl, rfl⟩

theorem un31 (X : Nat) (hX : X < 18446744073709551616) : bits .xor .u64 (bits .xor .u64 (X : Int) ((X : Int) / 2147483648)) ((X : Int) / 4611686018427387904) = ((Lh.unfold2 31 X : Nat) : Int) := by
  have h1 : bits .xor .u64 (X : Int) ((X : Int) / 2147483648) = ((Lh.fold 31 X : Nat) : Int) := xorShift_u64 X 2147483648 hX
  rw [h1]
  have d : ((X : Int) / 4611686018427387904) = ((X / 4611686018427387904 : Nat) : Int) := rfl
  rw [d, bits_xor_u64_nat _ _ (Lh.fold_lt 31 X hX) (Nat.lt_of_le_of_lt (Nat.div_le_self _ _) hX)]
  rfl
theorem un27 (X : Nat) (hX : X < 18446744073709551616) : bits .xor .u64 (bits .xor .u64 (X : Int) ((X : Int) / 134217728)) ((X : Int) / 18014398509481984) = ((Lh.unfold2 27 X : Nat) : Int) := by
  have h1 : bits .xor .u64 (X : Int) ((X : Int) / 134217728) = ((Lh.fold 27 X : Nat) : Int) := xorShift_u64 X 134217728 hX
  rw [h1]
  have d : ((X : Int) / 18014398509481984) = ((X / 18014398509481984 : Nat) : Int) := rfl
  rw [d, bits_xor_u64_nat _ _ (Lh.fold_lt 27 X hX) (Nat.lt_of_le_of_lt (Nat.div_le_self _ _) hX)]
  rfl
theorem un30 (X : Nat) (hX : X < 18446744073709551616) : bits .xor .u64 (bits .xor .u64 (X : Int) ((X : Int) / 1073741824)) ((X : Int) / 1152921504606846976) = ((Lh.unfold2 30 X : Nat) : Int) := by
  have h1 : bits .xor .u64 (X : Int) ((X : Int) / 1073741824) = ((Lh.fold 30 X : Nat) : Int) := xorShift_u64 X 1073741824 hX
  rw [h1]
  have d : ((X : Int) / 1152921504606846976) = ((X / 1152921504606846976 : Nat) : Int) := rfl
  rw [d, bits_xor_u64_nat _ _ (Lh.fold_lt 30 X hX) (Nat.lt_of_le_of_lt (Nat.div_le_self _ _) hX)]
  rfl
theorem unmul (X c : Nat) : IntKind.u64.wrap ((X : Int) * (c : Int)) = ((X * c % 18446744073709551616 : Nat) : Int) := by
  rw [IntKind.wrap_u64, Int.natCast_emod, Int.natCast_mul]; rfl
theorem unmul1 (X : Nat) : IntKind.u64.wrap ((X : Int) * 3573116690164977347) = ((X * 3573116690164977347 % 18446744073709551616 : Nat) : Int) := unmul X 3573116690164977347
theorem unmul2 (X : Nat) : IntKind.u64.wrap ((X : Int) * 10871156337175269513) = ((X * 10871156337175269513 % 18446744073709551616 : Nat) : Int) := unmul X 10871156337175269513
theorem unsub (X : Nat) : IntKind.u64.wrap ((X : Int) - 11400714819323198485) = (((X + 7046029254386353131) % 18446744073709551616 : Nat) : Int) := wrap_sub_u64_nat X 11400714819323198485 7046029254386353131 rfl

end Go.Proofs.YtijdaaghomclmabDoor
