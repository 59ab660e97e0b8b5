/- The law FlowsActs, over the landed package's contracts: all inputs. -/
import Derived.Test.YtijdaaghomclmabGreatDoorFA3
namespace Go.Proofs.YtijdaaghomclmabGreatDoor
open Go.RowKit

set_option maxRecDepth 100000 in
set_option maxHeartbeats 2000000 in
theorem facts_many (hC : FlowsC) (a : Nat → Addr) (x : Int) (lp : Option Addr) (n lc : Nat) (w : World) (he : Errs a w) (hn : n ≤ maxLen) (h80 : 80 < n) :
    Calls Tryz.prog 3 #[.int .i64 x, .slice lp n lc] w fun e w' => e = .returned (.bool true) ∧ Below w.heap.size w w' := by
  have hfl := flowed_any hC a w (hC.eOf he)
  have hn2 : n ≤ 9223372036854775807 := by unfold maxLen at hn; omega
  have d1 : decide (80 < (n : Int)) = true := by simp; omega
  clear he hn
  go_enter Tryz.func3, Tryz.ntmps3
  go_wp2_with fail
  refine hfl.mono ?_
  rintro e w1 ⟨rfl, hb1⟩
  clear hfl
  go_wp2
  go_ret
  exact ⟨rfl, hb1⟩

set_option maxRecDepth 100000 in
set_option maxHeartbeats 2000000 in
theorem facts_time (hC : FlowsC) (a : Nat → Addr) (x : Int) (lp : Option Addr) (n lc : Nat) (w : World) (he : Errs a w) (h80 : n ≤ 80) (hx : x < 1 ∨ 1000 < x) :
    Calls Tryz.prog 3 #[.int .i64 x, .slice lp n lc] w fun e w' => e = .returned (.bool true) ∧ Below w.heap.size w w' := by
  have hfl := flowed_any hC a w (hC.eOf he)
  have HE : Hid (Errs a w) := he
  have HX : Hid (x < 1 ∨ 1000 < x) := hx
  have d1 : decide (80 < (n : Int)) = false := by simp; omega
  clear he
  by_cases h1 : x < 1
  · have d2 : decide (x < 1) = true := decide_eq_true h1
    clear hx h1
    go_enter Tryz.func3, Tryz.ntmps3
    go_wp2_with fail
    refine hfl.mono ?_
    rintro e w1 ⟨rfl, hb1⟩
    clear hfl
    go_wp2_with fail
    refine (hC.newB a x w1 (hC.eOf (HE.out.later hb1)) HX.out).mono ?_
    rintro e w2 ⟨rfl, hb2⟩
    have hb3 := below_then hb1 hb2
    clear hb1 hb2
    go_wp2_with fail
    refine (codedF_is (HE.out.later hb3) (c := 2) (err_at (by decide) w2)).mono ?_
    rintro e w4 ⟨rfl, hb4⟩
    go_wp2
    go_ret
    exact ⟨rfl, below_then hb3 hb4⟩
  · have d2 : decide (x < 1) = false := decide_eq_false h1
    have d3 : decide (1000 < x) = true := decide_eq_true (by omega)
    clear hx h1
    go_enter Tryz.func3, Tryz.ntmps3
    go_wp2_with fail
    refine hfl.mono ?_
    rintro e w1 ⟨rfl, hb1⟩
    clear hfl
    go_wp2_with fail
    refine (hC.newB a x w1 (hC.eOf (HE.out.later hb1)) HX.out).mono ?_
    rintro e w2 ⟨rfl, hb2⟩
    have hb3 := below_then hb1 hb2
    clear hb1 hb2
    go_wp2_with fail
    refine (codedF_is (HE.out.later hb3) (c := 2) (err_at (by decide) w2)).mono ?_
    rintro e w4 ⟨rfl, hb4⟩
    go_wp2
    go_ret
    exact ⟨rfl, below_then hb3 hb4⟩
/-- FlowsActs of any inputs. -/
theorem facts_any (hC : FlowsC) (a : Nat → Addr) (x : Int) (lp : Option Addr) (lc : Nat) (l : List Fa) (w : World) (he : Errs a w) (hl : l.length ≤ maxLen) (hla : FActsAt w lp l) (hlo : ∀ x ∈ l, FaOk x) :
    Calls Tryz.prog 3 #[.int .i64 x, .slice lp l.length lc] w fun e w' => e = .returned (.bool true) ∧ Below w.heap.size w w' := by
  by_cases h80 : 80 < l.length
  · exact facts_many hC a x lp l.length lc w he hl h80
  · by_cases hx : x < 1 ∨ 1000 < x
    · exact facts_time hC a x lp l.length lc w he (by omega) hx
    · obtain ⟨t, rfl⟩ := Int.eq_ofNat_of_zero_le (show 0 ≤ x by omega)
      exact facts_good hC a t lp lc l w he (by omega) (by omega) (by omega) hla hlo
end Go.Proofs.YtijdaaghomclmabGreatDoor
