/- The law BalanceDrains, over the landed package's contracts: all numbers. -/
import Derived.Test.YtmkdpchodeckgaaDoorBaD
namespace Go.Proofs.YtmkdpchodeckgaaDoor
open Go.RowKit

set_option maxHeartbeats 1000000 in
theorem drains_e1 (hC : BalanceC) (a : Nat → Addr) (op fp : Option Addr) (n oc m fc : Nat) (x : Int) (w : World) (he : hC.E a w) (hl : n ≤ maxLen) (hm : m ≤ maxLen) (c1 : 60 < n) :
    Calls Tryd.prog 3 #[.slice op n oc, .slice fp m fc, .int .i64 x] w fun e w' => e = .returned (.bool true) ∧ Below w.heap.size w w' := by
  have hbl := balanced_any hC a w he
  have hn2 : n ≤ 9223372036854775807 := by unfold maxLen at hl; omega
  have hm2 : m ≤ 9223372036854775807 := by unfold maxLen at hm; omega
  have d1 : decide (60 < (n : Int)) = true := by simp; omega
  clear he hl hm c1
  go_enter Tryd.func3, Tryd.ntmps3
  go_wp2_with fail
  refine hbl.mono ?_
  rintro e w1 ⟨rfl, hb1⟩
  clear hbl
  go_wp2
  go_ret
  exact ⟨rfl, hb1⟩
set_option maxHeartbeats 1000000 in
theorem drains_e2 (hC : BalanceC) (a : Nat → Addr) (op fp : Option Addr) (n oc m fc : Nat) (x : Int) (w : World) (he : hC.E a w) (hl : n ≤ maxLen) (hm : m ≤ maxLen) (c1 : ¬ 60 < n) (c2 : 60 < m) :
    Calls Tryd.prog 3 #[.slice op n oc, .slice fp m fc, .int .i64 x] w fun e w' => e = .returned (.bool true) ∧ Below w.heap.size w w' := by
  have hbl := balanced_any hC a w he
  have hn2 : n ≤ 9223372036854775807 := by unfold maxLen at hl; omega
  have hm2 : m ≤ 9223372036854775807 := by unfold maxLen at hm; omega
  have d1 : decide (60 < (n : Int)) = false := by simp; omega
  have d2 : decide (60 < (m : Int)) = true := by simp; omega
  clear he hl hm c1 c2
  go_enter Tryd.func3, Tryd.ntmps3
  go_wp2_with fail
  refine hbl.mono ?_
  rintro e w1 ⟨rfl, hb1⟩
  clear hbl
  go_wp2
  go_ret
  exact ⟨rfl, hb1⟩
set_option maxHeartbeats 1000000 in
theorem drains_e3 (hC : BalanceC) (a : Nat → Addr) (op fp : Option Addr) (n oc m fc : Nat) (x : Int) (w : World) (he : hC.E a w) (hl : n ≤ maxLen) (hm : m ≤ maxLen) (c1 : ¬ 60 < n) (c2 : ¬ 60 < m) (c3 : x < 0) :
    Calls Tryd.prog 3 #[.slice op n oc, .slice fp m fc, .int .i64 x] w fun e w' => e = .returned (.bool true) ∧ Below w.heap.size w w' := by
  have hbl := balanced_any hC a w he
  have hn2 : n ≤ 9223372036854775807 := by unfold maxLen at hl; omega
  have hm2 : m ≤ 9223372036854775807 := by unfold maxLen at hm; omega
  have d1 : decide (60 < (n : Int)) = false := by simp; omega
  have d2 : decide (60 < (m : Int)) = false := by simp; omega
  have d3 : decide (x < 0) = true := decide_eq_true c3
  clear he hl hm c1 c2 c3
  go_enter Tryd.func3, Tryd.ntmps3
  go_wp2_with fail
  refine hbl.mono ?_
  rintro e w1 ⟨rfl, hb1⟩
  clear hbl
  go_wp2
  go_ret
  exact ⟨rfl, hb1⟩
set_option maxHeartbeats 1000000 in
theorem drains_e4 (hC : BalanceC) (a : Nat → Addr) (op fp : Option Addr) (n oc m fc : Nat) (x : Int) (w : World) (he : hC.E a w) (hl : n ≤ maxLen) (hm : m ≤ maxLen) (c1 : ¬ 60 < n) (c2 : ¬ 60 < m) (c3 : ¬ x < 0) (c4 : 3 < x) :
    Calls Tryd.prog 3 #[.slice op n oc, .slice fp m fc, .int .i64 x] w fun e w' => e = .returned (.bool true) ∧ Below w.heap.size w w' := by
  have hbl := balanced_any hC a w he
  have hn2 : n ≤ 9223372036854775807 := by unfold maxLen at hl; omega
  have hm2 : m ≤ 9223372036854775807 := by unfold maxLen at hm; omega
  have d1 : decide (60 < (n : Int)) = false := by simp; omega
  have d2 : decide (60 < (m : Int)) = false := by simp; omega
  have d3 : decide (x < 0) = false := decide_eq_false c3
  have d4 : decide (3 < x) = true := decide_eq_true c4
  clear he hl hm c1 c2 c3 c4
  go_enter Tryd.func3, Tryd.ntmps3
  go_wp2_with fail
  refine hbl.mono ?_
  rintro e w1 ⟨rfl, hb1⟩
  clear hbl
  go_wp2
  go_ret
  exact ⟨rfl, hb1⟩
/-- BalanceDrains of any keys, and any number. -/
theorem drains_any (hC : BalanceC) (a : Nat → Addr) (op fp : Option Addr) (oc fc : Nat) (ks fs : List Nat) (x : Int) (w : World) (he : hC.E a w) (hl : ks.length ≤ maxLen) (hm : fs.length ≤ maxLen) (ho : ∀ k (h : k < ks.length), ∃ b o, op = some ⟨b, o, none⟩ ∧ w.cell? ⟨b, o + k, none⟩ = some (.int .u64 (ks[k] : Nat))) (hoz : ∀ z ∈ ks, z < 18446744073709551616) (hfo : ∀ k (h : k < fs.length), ∃ b o, fp = some ⟨b, o, none⟩ ∧ w.cell? ⟨b, o + k, none⟩ = some (.int .u64 (fs[k] : Nat))) (hfz : ∀ z ∈ fs, z < 18446744073709551616) :
    Calls Tryd.prog 3 #[.slice op ks.length oc, .slice fp fs.length fc, .int .i64 x] w fun e w' => e = .returned (.bool true) ∧ Below w.heap.size w w' := by
  by_cases c1 : 60 < ks.length
  · exact drains_e1 hC a op fp ks.length oc fs.length fc x w he hl hm c1
  · by_cases c2 : 60 < fs.length
    · exact drains_e2 hC a op fp ks.length oc fs.length fc x w he hl hm c1 c2
    · by_cases c3 : x < 0
      · exact drains_e3 hC a op fp ks.length oc fs.length fc x w he hl hm c1 c2 c3
      · by_cases c4 : 3 < x
        · exact drains_e4 hC a op fp ks.length oc fs.length fc x w he hl hm c1 c2 c3 c4
        · obtain ⟨q, rfl⟩ := Int.eq_ofNat_of_zero_le (show 0 ≤ x by omega)
          exact drains_core hC a op fp oc fc ks fs q w he (by omega) (by omega) (by omega) ho hoz hfo hfz
end Go.Proofs.YtmkdpchodeckgaaDoor
