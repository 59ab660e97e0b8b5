/- RivalComes: all its ways. -/
import Derived.Test.YtffobmiacinngaaDoorVHost
namespace Go.Proofs.YtffobmiacinngaaDoor
open Go.RowKit

set_option maxRecDepth 100000 in
set_option maxHeartbeats 2000000 in
theorem vcomes_long (a : Nat → Addr) (lv kv bv : Value) (s : ByteArray) (w : World) (he : Errs4 a w)
    (hlong : ∀ W, Below w.heap.size w W → Calls Tryd.prog 20 #[lv] W fun e w' => e = .returned (.int .i64 1) ∧ w' = W) :
    Calls Tryd.prog 14 #[lv, .string s, kv, bv] w fun e w' => e = .returned (.bool true) ∧ Below w.heap.size w w' := by
  have hrg := rivals_any a w he
  clear he
  go_enter Tryd.func14, Tryd.ntmps14
  go_wp2_with fail
  refine hrg.mono ?_
  rintro e w1 ⟨rfl, hb1⟩
  clear hrg
  go_wp2_with fail
  refine (hlong _ hb1).mono ?_
  rintro e w1' ⟨rfl, rfl⟩
  go_wp2
  go_ret
  exact ⟨rfl, hb1⟩
set_option maxRecDepth 100000 in
set_option maxHeartbeats 2000000 in
theorem vcomes_early (a : Nat → Addr) (lp : Option Addr) (n cap : Nat) (kv : Value) (s : ByteArray) (b : Int) (w : World) (he : Errs4 a w) (hs : s.size ≤ maxLen) (_hn : n ≤ maxLen)
    (hlong : ∀ W, Below w.heap.size w W → Calls Tryd.prog 20 #[.slice lp n cap] W fun e w' => e = .returned (.int .i64 0) ∧ w' = W) (h : 60 < s.size ∨ b < 0 ∨ (n : Int) < b) :
    Calls Tryd.prog 14 #[.slice lp n cap, .string s, kv, .int .i64 b] w fun e w' => e = .returned (.bool true) ∧ Below w.heap.size w w' := by
  have hrg := rivals_any a w he
  clear he
  unfold maxLen at hs
  by_cases h1 : 60 < s.size
  · have e1 : decide (60 < (s.size : Int)) = true := by simp; omega
    clear h
    go_enter Tryd.func14, Tryd.ntmps14
    go_wp2_with fail
    refine hrg.mono ?_
    rintro e w1 ⟨rfl, hb1⟩
    clear hrg
    go_wp2_with fail
    refine (hlong _ hb1).mono ?_
    rintro e w1' ⟨rfl, rfl⟩
    go_wp2
    go_ret
    exact ⟨rfl, hb1⟩
  have e1 : decide (60 < (s.size : Int)) = false := by simp; omega
  by_cases h2 : b < 0
  · have e2 : decide (b < 0) = true := by simpa using h2
    clear h h2
    go_enter Tryd.func14, Tryd.ntmps14
    go_wp2_with fail
    refine hrg.mono ?_
    rintro e w1 ⟨rfl, hb1⟩
    clear hrg
    go_wp2_with fail
    refine (hlong _ hb1).mono ?_
    rintro e w1' ⟨rfl, rfl⟩
    go_wp2
    go_ret
    exact ⟨rfl, hb1⟩
  have e2 : decide (b < 0) = false := by simpa using h2
  have e3 : decide ((n : Int) < b) = true := by simp; omega
  clear h h1 h2
  go_enter Tryd.func14, Tryd.ntmps14
  go_wp2_with fail
  refine hrg.mono ?_
  rintro e w1 ⟨rfl, hb1⟩
  clear hrg
  go_wp2_with fail
  refine (hlong _ hb1).mono ?_
  rintro e w1' ⟨rfl, rfl⟩
  go_wp2
  go_ret
  exact ⟨rfl, hb1⟩
theorem fault_perm {xs ys : List ByteArray} (h : IsFault xs 0 (-1)) (hp : ys.Perm xs) : IsFault ys 0 (-1) := by
  obtain ⟨_, h12, hnd⟩ := fault0 h
  exact fault_of (by rw [hp.length_eq]; exact h12) (fun s hs => fault_nm h s (hp.mem_iff.1 hs)) (hp.nodup_iff.2 hnd)
theorem size_perm {xs ys : List ByteArray} {n : Nat} (h : ∀ k (h : k < xs.length), (xs[k]).size ≤ n) (hp : ys.Perm xs) : ∀ k (h : k < ys.length), (ys[k]).size ≤ n := fun _ hk => small_mem h _ (hp.mem_iff.1 (List.getElem_mem hk))
theorem turned_perm (xs : List ByteArray) (m : Nat) : (xs.drop m ++ xs.take m).Perm xs := by
  have h := List.perm_append_comm (l₁ := xs.drop m) (l₂ := xs.take m)
  rwa [List.take_append_drop] at h
end Go.Proofs.YtffobmiacinngaaDoor
