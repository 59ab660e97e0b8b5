/- The law HealthEdges, over the landed package's contracts: all numbers. -/
import Derived.Test.YtkpjecpaejdgaabDoorHEdges
namespace Go.Proofs.YtkpjecpaejdgaabDoor
open Go.RowKit

/-- numbers in memory, where they are read -/
def NumsAt (w : World) (p : Option Addr) (l : List Int) : Prop := ∀ k (h : k < l.length), ∃ b o, p = some ⟨b, o, none⟩ ∧ w.cell? ⟨b, o + k, none⟩ = some (.int .i64 l[k])
set_option maxHeartbeats 1000000 in
theorem edges_early (hC : HealthC) (a : Nat → Addr) (x y : Int) (rp : Option Addr) (n rc : Nat) (w : World) (he : Errs4 a w) (hn : n ≤ maxLen) (h : x < 1 ∨ 10 < x ∨ y < 1 ∨ 10 < y ∨ 30 < n) :
    Calls Tryd.prog 8 #[.int .i64 x, .int .i64 y, .slice rp n rc] w fun e w' => e = .returned (.bool true) ∧ Below w.heap.size w w' := by
  have hwt := watched_any hC a w he
  have hn2 : n ≤ 9223372036854775807 := by unfold maxLen at hn; omega
  clear he hn
  by_cases c1 : x < 1
  · have d1 : decide (x < 1) = true := by simpa using c1
    clear h
    go_enter Tryd.func8, Tryd.ntmps8
    go_wp2_with fail
    refine hwt.mono ?_
    rintro e w1 ⟨rfl, hb1⟩
    go_wp2
    go_ret
    exact ⟨rfl, hb1⟩
  · have d1 : decide (x < 1) = false := by simpa using c1
    by_cases c2 : 10 < x
    · have d2 : decide (10 < x) = true := by simpa using c2
      clear h
      go_enter Tryd.func8, Tryd.ntmps8
      go_wp2_with fail
      refine hwt.mono ?_
      rintro e w1 ⟨rfl, hb1⟩
      go_wp2
      go_ret
      exact ⟨rfl, hb1⟩
    · have d2 : decide (10 < x) = false := by simpa using c2
      by_cases c3 : y < 1
      · have d3 : decide (y < 1) = true := by simpa using c3
        clear h
        go_enter Tryd.func8, Tryd.ntmps8
        go_wp2_with fail
        refine hwt.mono ?_
        rintro e w1 ⟨rfl, hb1⟩
        go_wp2
        go_ret
        exact ⟨rfl, hb1⟩
      · have d3 : decide (y < 1) = false := by simpa using c3
        by_cases c4 : 10 < y
        · have d4 : decide (10 < y) = true := by simpa using c4
          clear h
          go_enter Tryd.func8, Tryd.ntmps8
          go_wp2_with fail
          refine hwt.mono ?_
          rintro e w1 ⟨rfl, hb1⟩
          go_wp2
          go_ret
          exact ⟨rfl, hb1⟩
        · have d4 : decide (10 < y) = false := by simpa using c4
          have d5 : decide (30 < (n : Int)) = true := by simp; omega
          clear h
          go_enter Tryd.func8, Tryd.ntmps8
          go_wp2_with fail
          refine hwt.mono ?_
          rintro e w1 ⟨rfl, hb1⟩
          go_wp2
          go_ret
          exact ⟨rfl, hb1⟩
/-- HealthEdges of any numbers. -/
theorem edges_any (hC : HealthC) (a : Nat → Addr) (x y : Int) (rp : Option Addr) (rc : Nat) (l : List Int) (w : World) (he : Errs4 a w) (hl : l.length ≤ maxLen) (hx : NumsAt w rp l) :
    Calls Tryd.prog 8 #[.int .i64 x, .int .i64 y, .slice rp l.length rc] w fun e w' => e = .returned (.bool true) ∧ Below w.heap.size w w' := by
  by_cases h : x < 1 ∨ 10 < x ∨ y < 1 ∨ 10 < y ∨ 30 < l.length
  · exact edges_early hC a x y rp l.length rc w he hl h
  · obtain ⟨f, rfl⟩ := Int.eq_ofNat_of_zero_le (show 0 ≤ x by omega)
    obtain ⟨r, rfl⟩ := Int.eq_ofNat_of_zero_le (show 0 ≤ y by omega)
    exact edges_core hC a f r rp rc l w he (by omega) (by omega) (by omega) (by omega) (by omega) hx
end Go.Proofs.YtkpjecpaejdgaabDoor
