/- The law FlowsStay, over the landed package's contracts: all numbers. -/
import Derived.Test.YtijdaaghomclmabDoorFlStay
namespace Go.Proofs.YtijdaaghomclmabDoor
open Go.RowKit

set_option maxHeartbeats 1000000 in
theorem stay_e1 (hC : FlowsC) (a : Nat → Addr) (x y : Int) (key : Nat) (op : Option Addr) (n oc : Nat) (w : World) (he : hC.E a w) (hl : n ≤ maxLen) (c1 : x < 1) :
    Calls Tryd.prog 10 #[.int .i64 x, .int .u64 (key : Nat), .slice op n oc, .int .i64 y] w fun e w' => e = .returned (.bool true) ∧ Below w.heap.size w w' := by
  have hfl := flowed_any hC a w he
  have hn2 : n ≤ 9223372036854775807 := by unfold maxLen at hl; omega
  have d1 : decide (x < 1) = true := decide_eq_true c1
  clear he hl c1
  go_enter Tryd.func10, Tryd.ntmps10
  go_wp2_with fail
  refine hfl.mono ?_
  rintro e w1 ⟨rfl, hb1⟩
  go_wp2
  go_ret
  exact ⟨rfl, hb1⟩
set_option maxHeartbeats 1000000 in
theorem stay_e2 (hC : FlowsC) (a : Nat → Addr) (x y : Int) (key : Nat) (op : Option Addr) (n oc : Nat) (w : World) (he : hC.E a w) (hl : n ≤ maxLen) (c1 : ¬ x < 1) (c2 : 1000 < x) :
    Calls Tryd.prog 10 #[.int .i64 x, .int .u64 (key : Nat), .slice op n oc, .int .i64 y] w fun e w' => e = .returned (.bool true) ∧ Below w.heap.size w w' := by
  have hfl := flowed_any hC a w he
  have hn2 : n ≤ 9223372036854775807 := by unfold maxLen at hl; omega
  have d1 : decide (x < 1) = false := decide_eq_false c1
  have d2 : decide (1000 < x) = true := decide_eq_true c2
  clear he hl c1 c2
  go_enter Tryd.func10, Tryd.ntmps10
  go_wp2_with fail
  refine hfl.mono ?_
  rintro e w1 ⟨rfl, hb1⟩
  go_wp2
  go_ret
  exact ⟨rfl, hb1⟩
set_option maxHeartbeats 1000000 in
theorem stay_e3 (hC : FlowsC) (a : Nat → Addr) (x y : Int) (key : Nat) (op : Option Addr) (n oc : Nat) (w : World) (he : hC.E a w) (hl : n ≤ maxLen) (c1 : ¬ x < 1) (c2 : ¬ 1000 < x) (c3 : 100 < n) :
    Calls Tryd.prog 10 #[.int .i64 x, .int .u64 (key : Nat), .slice op n oc, .int .i64 y] w fun e w' => e = .returned (.bool true) ∧ Below w.heap.size w w' := by
  have hfl := flowed_any hC a w he
  have hn2 : n ≤ 9223372036854775807 := by unfold maxLen at hl; omega
  have d1 : decide (x < 1) = false := decide_eq_false c1
  have d2 : decide (1000 < x) = false := decide_eq_false c2
  have d3 : decide (100 < (n : Int)) = true := by simp; omega
  clear he hl c1 c2 c3
  go_enter Tryd.func10, Tryd.ntmps10
  go_wp2_with fail
  refine hfl.mono ?_
  rintro e w1 ⟨rfl, hb1⟩
  go_wp2
  go_ret
  exact ⟨rfl, hb1⟩
set_option maxHeartbeats 1000000 in
theorem stay_e4 (hC : FlowsC) (a : Nat → Addr) (x y : Int) (key : Nat) (op : Option Addr) (n oc : Nat) (w : World) (he : hC.E a w) (hl : n ≤ maxLen) (c1 : ¬ x < 1) (c2 : ¬ 1000 < x) (c3 : ¬ 100 < n) (c4 : y < 0) :
    Calls Tryd.prog 10 #[.int .i64 x, .int .u64 (key : Nat), .slice op n oc, .int .i64 y] w fun e w' => e = .returned (.bool true) ∧ Below w.heap.size w w' := by
  have hfl := flowed_any hC a w he
  have hn2 : n ≤ 9223372036854775807 := by unfold maxLen at hl; omega
  have d1 : decide (x < 1) = false := decide_eq_false c1
  have d2 : decide (1000 < x) = false := decide_eq_false c2
  have d3 : decide (100 < (n : Int)) = false := by simp; omega
  have d4 : decide (y < 0) = true := decide_eq_true c4
  clear he hl c1 c2 c3 c4
  go_enter Tryd.func10, Tryd.ntmps10
  go_wp2_with fail
  refine hfl.mono ?_
  rintro e w1 ⟨rfl, hb1⟩
  go_wp2
  go_ret
  exact ⟨rfl, hb1⟩
set_option maxHeartbeats 1000000 in
theorem stay_e5 (hC : FlowsC) (a : Nat → Addr) (x y : Int) (key : Nat) (op : Option Addr) (n oc : Nat) (w : World) (he : hC.E a w) (hl : n ≤ maxLen) (c1 : ¬ x < 1) (c2 : ¬ 1000 < x) (c3 : ¬ 100 < n) (c4 : ¬ y < 0) (c5 : 2000 < y) :
    Calls Tryd.prog 10 #[.int .i64 x, .int .u64 (key : Nat), .slice op n oc, .int .i64 y] w fun e w' => e = .returned (.bool true) ∧ Below w.heap.size w w' := by
  have hfl := flowed_any hC a w he
  have hn2 : n ≤ 9223372036854775807 := by unfold maxLen at hl; omega
  have d1 : decide (x < 1) = false := decide_eq_false c1
  have d2 : decide (1000 < x) = false := decide_eq_false c2
  have d3 : decide (100 < (n : Int)) = false := by simp; omega
  have d4 : decide (y < 0) = false := decide_eq_false c4
  have d5 : decide (2000 < y) = true := decide_eq_true c5
  clear he hl c1 c2 c3 c4 c5
  go_enter Tryd.func10, Tryd.ntmps10
  go_wp2_with fail
  refine hfl.mono ?_
  rintro e w1 ⟨rfl, hb1⟩
  go_wp2
  go_ret
  exact ⟨rfl, hb1⟩
/-- FlowsStay of any numbers. -/
theorem stay_any (hC : FlowsC) (a : Nat → Addr) (x y : Int) (key : Nat) (op : Option Addr) (oc : Nat) (os : List Nat) (w : World) (he : hC.E a w) (hk : key < 18446744073709551616) (hl : os.length ≤ maxLen) (ho : ∀ k (h : k < os.length), ∃ b o, op = some ⟨b, o, none⟩ ∧ w.cell? ⟨b, o + k, none⟩ = some (.int .u64 (os[k] : Nat))) (hoz : ∀ z ∈ os, z < 18446744073709551616) :
    Calls Tryd.prog 10 #[.int .i64 x, .int .u64 (key : Nat), .slice op os.length oc, .int .i64 y] w fun e w' => e = .returned (.bool true) ∧ Below w.heap.size w w' := by
  by_cases c1 : x < 1
  · exact stay_e1 hC a x y key op os.length oc w he hl c1
  · by_cases c2 : 1000 < x
    · exact stay_e2 hC a x y key op os.length oc w he hl c1 c2
    · by_cases c3 : 100 < os.length
      · exact stay_e3 hC a x y key op os.length oc w he hl c1 c2 c3
      · by_cases c4 : y < 0
        · exact stay_e4 hC a x y key op os.length oc w he hl c1 c2 c3 c4
        · by_cases c5 : 2000 < y
          · exact stay_e5 hC a x y key op os.length oc w he hl c1 c2 c3 c4 c5
          · obtain ⟨t, rfl⟩ := Int.eq_ofNat_of_zero_le (show 0 ≤ x by omega)
            obtain ⟨wait, rfl⟩ := Int.eq_ofNat_of_zero_le (show 0 ≤ y by omega)
            exact stay_core hC a t key wait op oc os w he (by omega) (by omega) hk (by omega) (by omega) ho hoz
end Go.Proofs.YtijdaaghomclmabDoor
