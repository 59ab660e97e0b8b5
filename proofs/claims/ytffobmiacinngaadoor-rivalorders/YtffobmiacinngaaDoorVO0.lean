/- RivalOrders: where it ends early; where hosts are wrong. -/
import Derived.Test.YtffobmiacinngaaDoorVGroups
import Derived.Test.YtffobmiacinngaaDoorSomeF
import Derived.Test.YtffobmiacinngaaDoorVOrderOf
namespace Go.Proofs.YtffobmiacinngaaDoor
open Go.RowKit

theorem infoN : (Tryd.prog.info? 3).map (fun i => (i.zero, i.size, i.bytes)) = some (some (.int .i64 0), 1, 8) := by kernel_rfl

set_option maxRecDepth 100000 in
set_option maxHeartbeats 2000000 in
theorem vorders_long (a : Nat → Addr) (lv kv : Value) (w : World) (he : Errs4 a w)
    (hlong : ∀ W, Below w.heap.size w W → Calls Tryd.prog 20 #[lv] W fun e w' => e = .returned (.int .i64 1) ∧ w' = W) :
    Calls Tryd.prog 12 #[lv, kv] w fun e w' => e = .returned (.bool true) ∧ Below w.heap.size w w' := by
  have hrg := rivals_any a w he
  clear he
  go_enter Tryd.func12, Tryd.ntmps12
  go_wp2_with fail
  refine hrg.mono ?_
  rintro e w1 ⟨rfl, hb1⟩
  clear hrg
  go_wp2_with fail
  refine (hlong _ hb1).mono ?_
  rintro e w1' ⟨rfl, rfl⟩
  go_wp2
  go_ret
  exact ⟨rfl, hb1⟩
/-- How many keys the law looks at. -/
def Some60 (n : Nat) : Prop := n ≤ 60 ∨ (500 < n ∧ n ≤ 600)
set_option maxRecDepth 100000 in
set_option maxHeartbeats 2000000 in
theorem vorders_early (a : Nat → Addr) (lv : Value) (kp : Option Addr) (kn kc : Nat) (w : World) (he : Errs4 a w) (_hn : kn ≤ maxLen)
    (hlong : ∀ W, Below w.heap.size w W → Calls Tryd.prog 20 #[lv] W fun e w' => e = .returned (.int .i64 0) ∧ w' = W) (h : ¬ Some60 kn) :
    Calls Tryd.prog 12 #[lv, .slice kp kn kc] w fun e w' => e = .returned (.bool true) ∧ Below w.heap.size w w' := by
  have hrg := rivals_any a w he
  clear he
  unfold Some60 at h
  have e1 : decide (60 < (kn : Int)) = true := by simp; omega
  by_cases h2 : kn ≤ 500
  · have e2 : decide ((kn : Int) ≤ 500) = true := by simp; omega
    clear h h2
    go_enter Tryd.func12, Tryd.ntmps12
    go_wp2_with fail
    refine hrg.mono ?_
    rintro e w1 ⟨rfl, hb1⟩
    clear hrg
    go_wp2_with fail
    refine (hlong _ hb1).mono ?_
    rintro e w1' ⟨rfl, rfl⟩
    go_wp2
    go_ret
    exact ⟨rfl, hb1⟩
  have e2 : decide ((kn : Int) ≤ 500) = false := by simp; omega
  have e3 : decide (600 < (kn : Int)) = true := by simp; omega
  clear h h2
  go_enter Tryd.func12, Tryd.ntmps12
  go_wp2_with fail
  refine hrg.mono ?_
  rintro e w1 ⟨rfl, hb1⟩
  clear hrg
  go_wp2_with fail
  refine (hlong _ hb1).mono ?_
  rintro e w1' ⟨rfl, rfl⟩
  go_wp2
  go_ret
  exact ⟨rfl, hb1⟩
theorem some60_facts {n : Nat} (h : Some60 n) : ∃ p q : Bool, decide (60 < (n : Int)) = p ∧ decide ((n : Int) ≤ 500) = q ∧ (p && q) = false ∧ decide (600 < (n : Int)) = false := by
  rcases h with h | ⟨h1, h2⟩
  · exact ⟨false, true, by simp; omega, by simp; omega, rfl, by simp; omega⟩
  · exact ⟨true, false, by simp; omega, by simp; omega, rfl, by simp; omega⟩
end Go.Proofs.YtffobmiacinngaaDoor
