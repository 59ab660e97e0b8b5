/- MixBack: the walks: 'mixed' is true, each step of a turn is undone. -/
import Derived.Test.YtffobmiacinngaaDoorTurn
namespace Go.Proofs.YtffobmiacinngaaDoor
open Go.RowKit

theorem below_then {w w1 w2 : World} (h : Below w.heap.size w w1) (k : Below w1.heap.size w1 w2) : Below w.heap.size w w2 :=
  h.trans (k.mono h.size)

set_option maxHeartbeats 400000 in
theorem check_nil (w : World) : Calls Tryd.prog 30 #[.slice none 0 0] w fun e w' => e = .returned .nilIface ∧ w' = w := by
  go_enter Tryd.func30, Tryd.ntmps30
  go_wp2
  refine wp_loop_rounds 1 ?_
  rw [rounds_succ]
  go_wp2
  go_ret
  exact ⟨rfl, rfl⟩

set_option maxHeartbeats 400000 in
theorem mixed_any (w : World) : Calls Tryd.prog 19 #[] w fun e w' => e = .returned (.bool true) ∧ Below w.heap.size w w' := by
  have e0 : ((Lh.turn 0 : Nat) : Int) = 16294208416658607535 := by rw [Lh.turn_0]; rfl
  go_enter Tryd.func19, Tryd.ntmps19
  go_wp2_with fail
  refine (turn_any 0 _).mono ?_
  rintro e w1 ⟨rfl, hb1⟩
  rw [e0]
  go_wp2_with fail
  refine (check_nil _).mono ?_
  rintro e w2 ⟨rfl, rfl⟩
  go_wp2
  go_ret
  exact ⟨rfl, hb1⟩

theorem un31 (X : Nat) (hX : X < 18446744073709551616) : bits .xor .u64 (bits .xor .u64 (X : Int) ((X : Int) / 2147483648)) ((X : Int) / 4611686018427387904) = ((Lh.unfold2 31 X : Nat) : Int) := by
  have h1 : bits .xor .u64 (X : Int) ((X : Int) / 2147483648) = ((Lh.fold 31 X : Nat) : Int) := xorShift_u64 X 2147483648 hX
  rw [h1]
  have d : ((X : Int) / 4611686018427387904) = ((X / 4611686018427387904 : Nat) : Int) := rfl
  rw [d, bits_xor_u64_nat _ _ (Lh.fold_lt 31 X hX) (Nat.lt_of_le_of_lt (Nat.div_le_self _ _) hX)]
  rfl
theorem un27 (X : Nat) (hX : X < 18446744073709551616) : bits .xor .u64 (bits .xor .u64 (X : Int) ((X : Int) / 134217728)) ((X : Int) / 18014398509481984) = ((Lh.unfold2 27 X : Nat) : Int) := by
  have h1 : bits .xor .u64 (X : Int) ((X : Int) / 134217728) = ((Lh.fold 27 X : Nat) : Int) := xorShift_u64 X 134217728 hX
  rw [h1]
  have d : ((X : Int) / 18014398509481984) = ((X / 18014398509481984 : Nat) : Int) := rfl
  rw [d, bits_xor_u64_nat _ _ (Lh.fold_lt 27 X hX) (Nat.lt_of_le_of_lt (Nat.div_le_self _ _) hX)]
  rfl
theorem un30 (X : Nat) (hX : X < 18446744073709551616) : bits .xor .u64 (bits .xor .u64 (X : Int) ((X : Int) / 1073741824)) ((X : Int) / 1152921504606846976) = ((Lh.unfold2 30 X : Nat) : Int) := by
  have h1 : bits .xor .u64 (X : Int) ((X : Int) / 1073741824) = ((Lh.fold 30 X : Nat) : Int) := xorShift_u64 X 1073741824 hX
  rw [h1]
  have d : ((X : Int) / 1152921504606846976) = ((X / 1152921504606846976 : Nat) : Int) := rfl
  rw [d, bits_xor_u64_nat _ _ (Lh.fold_lt 30 X hX) (Nat.lt_of_le_of_lt (Nat.div_le_self _ _) hX)]
  rfl
theorem unmul (X c : Nat) : IntKind.u64.wrap ((X : Int) * (c : Int)) = ((X * c % 18446744073709551616 : Nat) : Int) := by
  rw [IntKind.wrap_u64, Int.natCast_emod, Int.natCast_mul]; rfl
theorem unmul1 (X : Nat) : IntKind.u64.wrap ((X : Int) * 3573116690164977347) = ((X * 3573116690164977347 % 18446744073709551616 : Nat) : Int) := unmul X 3573116690164977347
theorem unmul2 (X : Nat) : IntKind.u64.wrap ((X : Int) * 10871156337175269513) = ((X * 10871156337175269513 % 18446744073709551616 : Nat) : Int) := unmul X 10871156337175269513
theorem unsub (X : Nat) : IntKind.u64.wrap ((X : Int) - 11400714819323198485) = (((X + 7046029254386353131) % 18446744073709551616 : Nat) : Int) := wrap_sub_u64_nat X 11400714819323198485 7046029254386353131 rfl

set_option maxHeartbeats 800000 in
theorem back_any (a b : Nat) (ha : a < 18446744073709551616) (hb : b < 18446744073709551616) (w : World) :
    Calls Tryd.prog 5 #[.int .u64 a, .int .u64 b] w fun e w' => e = .returned (.bool true) ∧ Below w.heap.size w w' := by
  have heq : (((Lh.turn a : Nat) : Int) == ((Lh.turn b : Nat) : Int)) = ((a : Int) == (b : Int)) := by
    by_cases h : a = b
    · subst h; simp
    · have h' : Lh.turn a ≠ Lh.turn b := fun e => h (Lh.turn_inj a b ha hb e)
      have k1 : ((Lh.turn a : Nat) : Int) ≠ ((Lh.turn b : Nat) : Int) := by omega
      have k2 : (a : Int) ≠ (b : Int) := by omega
      rw [beq_eq_false_iff_ne.2 k1, beq_eq_false_iff_ne.2 k2]
  have HQ : Hid ((((Lh.turn a : Nat) : Int) == ((Lh.turn b : Nat) : Int)) = ((a : Int) == (b : Int))) := heq
  clear heq
  go_enter Tryd.func5, Tryd.ntmps5
  go_wp2_with fail
  refine (mixed_any _).mono ?_
  rintro e w1 ⟨rfl, hb1⟩
  go_wp2_with fail
  refine (turn_any a _).mono ?_
  rintro e w2 ⟨rfl, hb2⟩
  go_wp2_with fail
  refine (turn_any b _).mono ?_
  rintro e w3 ⟨rfl, hb3⟩
  have HX : Hid (Lh.turn a = Lh.turn a) := rfl
  have hq := HQ.out
  have hxl := Lh.turn_lt a
  have hbt := Lh.back_turn a ha
  generalize Lh.turn a = x at *
  generalize Lh.turn b = y at *
  have hfin : IntKind.u64.wrap (bits .xor .u64 (bits .xor .u64 (IntKind.u64.wrap (bits .xor .u64 (bits .xor .u64 (IntKind.u64.wrap (bits .xor .u64 (bits .xor .u64 (x : Int) ((x : Int) / 2147483648)) ((x : Int) / 4611686018427387904) * 3573116690164977347)) (IntKind.u64.wrap (bits .xor .u64 (bits .xor .u64 (x : Int) ((x : Int) / 2147483648)) ((x : Int) / 4611686018427387904) * 3573116690164977347) / 134217728)) (IntKind.u64.wrap (bits .xor .u64 (bits .xor .u64 (x : Int) ((x : Int) / 2147483648)) ((x : Int) / 4611686018427387904) * 3573116690164977347) / 18014398509481984) * 10871156337175269513)) (IntKind.u64.wrap (bits .xor .u64 (bits .xor .u64 (IntKind.u64.wrap (bits .xor .u64 (bits .xor .u64 (x : Int) ((x : Int) / 2147483648)) ((x : Int) / 4611686018427387904) * 3573116690164977347)) (IntKind.u64.wrap (bits .xor .u64 (bits .xor .u64 (x : Int) ((x : Int) / 2147483648)) ((x : Int) / 4611686018427387904) * 3573116690164977347) / 134217728)) (IntKind.u64.wrap (bits .xor .u64 (bits .xor .u64 (x : Int) ((x : Int) / 2147483648)) ((x : Int) / 4611686018427387904) * 3573116690164977347) / 18014398509481984) * 10871156337175269513) / 1073741824)) (IntKind.u64.wrap (bits .xor .u64 (bits .xor .u64 (IntKind.u64.wrap (bits .xor .u64 (bits .xor .u64 (x : Int) ((x : Int) / 2147483648)) ((x : Int) / 4611686018427387904) * 3573116690164977347)) (IntKind.u64.wrap (bits .xor .u64 (bits .xor .u64 (x : Int) ((x : Int) / 2147483648)) ((x : Int) / 4611686018427387904) * 3573116690164977347) / 134217728)) (IntKind.u64.wrap (bits .xor .u64 (bits .xor .u64 (x : Int) ((x : Int) / 2147483648)) ((x : Int) / 4611686018427387904) * 3573116690164977347) / 18014398509481984) * 10871156337175269513) / 1152921504606846976) - 11400714819323198485) = (a : Int) := by
    rw [un31 x hxl, unmul1, un27 _ (Nat.mod_lt _ (by decide)), unmul2, un30 _ (Nat.mod_lt _ (by decide)), unsub]
    exact congrArg Int.ofNat hbt
  have HF : Hid _ := hfin
  clear HQ HX hfin hbt hxl
  have hbz := below_then (below_then hb1 hb2) hb3
  clear hb1 hb2 hb3
  by_cases h : a = b
  · have k2 : ((a : Int) == (b : Int)) = true := by simp [h]
    have k1 : ((x : Int) == (y : Int)) = true := by rw [hq]; exact k2
    clear hq h
    go_wp2
    go_ret
    refine ⟨congrArg (fun q : Bool => Ending.returned (.bool q)) ?_, hbz⟩
    rw [HF.out]; simp
  · have k2 : ((a : Int) == (b : Int)) = false := by rw [beq_eq_false_iff_ne]; omega
    have k1 : ((x : Int) == (y : Int)) = false := by rw [hq]; exact k2
    clear hq h
    go_wp2
    go_ret
    refine ⟨congrArg (fun q : Bool => Ending.returned (.bool q)) ?_, hbz⟩
    rw [HF.out]; simp
end Go.Proofs.YtffobmiacinngaaDoor
