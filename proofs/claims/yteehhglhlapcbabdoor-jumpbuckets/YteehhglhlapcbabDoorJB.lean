/- JumpBuckets of any keys and any number. -/
import Derived.Test.YteehhglhlapcbabDoorJBG
import Derived.Test.YteehhglhlapcbabDoorJBA
import Derived.Test.YteehhglhlapcbabDoorJBB
import Derived.Test.YteehhglhlapcbabDoorJBC
namespace Go.Proofs.YteehhglhlapcbabDoor
open Go.RowKit

set_option maxHeartbeats 1000000 in
theorem jb_skip (p : Option Addr) (m c : Nat) (x : Int) (w : World) (hm : m ≤ maxLen) (h : (60 < m ∧ m ≤ 500) ∨ 600 < m) :
    Calls Tryd.prog 3 #[.slice p m c, .int .i64 x] w fun e w' => e = .returned (.bool true) ∧ Below w.heap.size w w' := by
  unfold maxLen at hm
  have e1 : decide (60 < (m : Int)) = true := by simp; omega
  by_cases h5 : m ≤ 500
  · have e2 : decide ((m : Int) ≤ 500) = true := by simp; omega
    go_enter Tryd.func3, Tryd.ntmps3
    go_wp2_with fail
    refine (jumped_any _).mono ?_
    rintro e w1 ⟨rfl, hb1⟩
    go_wp2
    go_ret
    exact ⟨rfl, hb1⟩
  · have e2 : decide ((m : Int) ≤ 500) = false := by simp; omega
    have e3 : decide (600 < (m : Int)) = true := by simp; omega
    go_enter Tryd.func3, Tryd.ntmps3
    go_wp2_with fail
    refine (jumped_any _).mono ?_
    rintro e w1 ⟨rfl, hb1⟩
    go_wp2
    go_ret
    exact ⟨rfl, hb1⟩

theorem jbuckets_any (a : Nat → Addr) (v : Value) (ks : List Nat) (x : Int) (w : World) (he : Errs a w) (hv : Keys1 w v ks) (hl : ks.length ≤ maxLen) :
    Calls Tryd.prog 3 #[v, .int .i64 x] w fun e w' => e = .returned (.bool true) ∧ Below w.heap.size w w' := by
  obtain ⟨p, c, rfl, hp⟩ := hv.at
  by_cases hs : (60 < ks.length ∧ ks.length ≤ 500) ∨ 600 < ks.length
  · exact jb_skip p ks.length c x w hl hs
  · by_cases hx : x < 1 ∨ 1048576 < x
    · by_cases h6 : ks.length ≤ 60
      · rcases hx with h | h
        · exact jb_none a p c ks x w he hv hp h6 h
        · exact jb_huge a p c ks x w he hv hp h6 h
      · exact jb_longbad a p c ks x w he hv hp (by omega) (by omega) hx
    · obtain ⟨n, rfl⟩ := Int.eq_ofNat_of_zero_le (show 0 ≤ x by omega)
      by_cases h6 : ks.length ≤ 60
      · by_cases h5 : n ≤ 500
        · exact jb_good a p c ks n w he hv hp h6 (by omega) h5
        · exact jb_many a p c ks n w he hv hp h6 (by omega) (by omega) (by omega)
      · exact jb_long a p c ks n w he hv hp (by omega) (by omega) (by omega) (by omega)
end Go.Proofs.YteehhglhlapcbabDoor
