/- Sizes of tables: the reference's SizeError, the landed checkSize. -/
import Derived.Test.YtedbhahkldfmiaaDoorOwn
import Derived.Test.YtedbhahkldfmiaaDoorTPrime
namespace Go.Proofs.YtedbhahkldfmiaaDoor
open Go.RowKit

set_option maxHeartbeats 1000000 in
theorem sizeError_out (n : Int) (w : World) (h : n < 2 ∨ 503 < n) (hn : -9223372036854775808 ≤ n ∧ n ≤ 9223372036854775807) :
    Calls Tryd.prog 35 #[.int .i64 n] w fun r w' => r = .returned (.int .i64 2) ∧ w' = w := by
  by_cases h2 : n < 2
  · have d1 : decide (n < 2) = true := by simp; omega
    go_enter Tryd.func35, Tryd.ntmps35
    go_wp2
    go_ret
    exact ⟨rfl, rfl⟩
  · have d1 : decide (n < 2) = false := by simp; omega
    have d2 : decide (503 < n) = true := by simp; omega
    go_enter Tryd.func35, Tryd.ntmps35
    go_wp2
    go_ret
    exact ⟨rfl, rfl⟩

set_option maxHeartbeats 1000000 in
theorem sizeError_in (m e : Nat) (w : World) (h2 : 2 ≤ m) (h5 : m ≤ 503) (h : (¬ Lh.Prm m ∧ e = 3) ∨ (Lh.Prm m ∧ e = 0)) :
    Calls Tryd.prog 35 #[.int .i64 m] w fun r w' => r = .returned (.int .i64 e) ∧ w' = w := by
  have d1 : decide ((m : Int) < 2) = false := by simp; omega
  have d2 : decide (503 < (m : Int)) = false := by simp; omega
  have HH : Hid ((¬ Lh.Prm m ∧ e = 3) ∨ (Lh.Prm m ∧ e = 0)) := h
  clear h
  go_enter Tryd.func35, Tryd.ntmps35
  go_wp2
  go_loop [3] (fun t => ∃ k : Nat, 2 ≤ k ∧ k ≤ m ∧ t = .int .i64 k ∧ ∀ j, 2 ≤ j → j < k → m % j ≠ 0) (fun t => m - (intOf t).toNat)
  case atStart => exact ⟨2, Nat.le_refl _, h2, rfl, fun j h h' => absurd h (by omega)⟩
  case round =>
    obtain ⟨k, hk2, hkm, rfl, hpre⟩ := hrel
    have HP : Hid (∀ j, 2 ≤ j → j < k → m % j ≠ 0) := hpre
    clear hpre
    by_cases hlt : k < m
    · have hd : decide ((k : Int) < (m : Int)) = true := by simp; omega
      have hk0 : ((k : Int) == 0) = false := by simp; omega
      by_cases hz : m % k = 0
      · have hzz : ((m : Int) % (k : Int) == 0) = true := by rw [← Int.natCast_emod, hz]; rfl
        have HZ : Hid (m % k = 0) := hz
        clear hz
        go_wp2
        go_ret
        refine ⟨?_, rfl⟩
        rcases HH.out with ⟨_, e3⟩ | ⟨hp, _⟩
        · rw [e3]; rfl
        · exact absurd HZ.out (hp.2 k hk2 hlt)
      · have hzz : ((m : Int) % (k : Int) == 0) = false := by rw [← Int.natCast_emod, beq_eq_false_iff_ne]; omega
        have HZ : Hid (m % k ≠ 0) := hz
        clear hz
        go_wp2
        go_round
        case rel =>
          refine ⟨k + 1, by omega, by omega, by go_num, fun j h hj => ?_⟩
          by_cases e : j = k
          · subst e; exact HZ.out
          · exact HP.out j h (by omega)
        case measure => simp [intOf]; omega
    · have hd : decide ((k : Int) < (m : Int)) = false := by simp; omega
      go_wp2
      go_ret
      refine ⟨?_, rfl⟩
      have hp : Lh.Prm m := ⟨h2, fun j h hj => HP.out j h (by omega)⟩
      rcases HH.out with ⟨hn, _⟩ | ⟨_, e0⟩
      · exact absurd hp hn
      · rw [e0]; rfl

/-- SizeError of any number. -/
theorem sizeError_any (n : Int) (e : Nat) (w : World) (hn : -9223372036854775808 ≤ n ∧ n ≤ 9223372036854775807) (h : Lh.SizeIs n e) :
    Calls Tryd.prog 35 #[.int .i64 n] w fun r w' => r = .returned (.int .i64 e) ∧ w' = w := by
  rcases h with ⟨h, rfl⟩ | ⟨m, rfl, h2, h5, h⟩
  · exact sizeError_out n w h hn
  · exact sizeError_in m e w h2 h5 h

set_option maxHeartbeats 1000000 in
theorem checkSize_out (a : Nat → Addr) (n : Int) (w : World) (he : Errs a w) (h : n < 2 ∨ 503 < n) (hn : -9223372036854775808 ≤ n ∧ n ≤ 9223372036854775807) :
    Calls Tryd.prog 56 #[.int .i64 n] w fun r w' => r = .returned (.iface 84 (.pointer (some (a 1)))) ∧ w' = w := by
  have s1 := he.s1
  by_cases h2 : n < 2
  · have d1 : decide (n < 2) = true := by simp; omega
    go_enter Tryd.func56, Tryd.ntmps56
    go_wp2
    go_ret
    exact ⟨rfl, rfl⟩
  · have d1 : decide (n < 2) = false := by simp; omega
    have d2 : decide (503 < n) = true := by simp; omega
    go_enter Tryd.func56, Tryd.ntmps56
    go_wp2
    go_ret
    exact ⟨rfl, rfl⟩

theorem sq_cast (k : Nat) : (k : Int) * (k : Int) = ((k * k : Nat) : Int) := by simp

set_option maxHeartbeats 1000000 in
theorem checkSize_in (a : Nat → Addr) (m e : Nat) (w : World) (he : Errs a w) (h2 : 2 ≤ m) (h5 : m ≤ 503) (h : (¬ Lh.Prm m ∧ e = 3) ∨ (Lh.Prm m ∧ e = 0)) :
    Calls Tryd.prog 56 #[.int .i64 m] w fun r w' => ∃ ev, r = .returned ev ∧ ErrIs a w e (-1) ev ∧ w' = w := by
  have s2 := he.s2
  have d1 : decide ((m : Int) < 2) = false := by simp; omega
  have d2 : decide (503 < (m : Int)) = false := by simp; omega
  have HH : Hid ((¬ Lh.Prm m ∧ e = 3) ∨ (Lh.Prm m ∧ e = 0)) := h
  clear h
  go_enter Tryd.func56, Tryd.ntmps56
  go_wp2
  go_loop [3] (fun t => ∃ k : Nat, 2 ≤ k ∧ k ≤ 23 ∧ t = .int .i64 k ∧ ∀ j, 2 ≤ j → j < k → m % j ≠ 0) (fun t => 30 - (intOf t).toNat)
  case atStart => exact ⟨2, Nat.le_refl _, by omega, rfl, fun j h h' => absurd h (by omega)⟩
  case round =>
    obtain ⟨k, hk2, hk23, rfl, hpre⟩ := hrel
    have HP : Hid (∀ j, 2 ≤ j → j < k → m % j ≠ 0) := hpre
    clear hpre
    have hsq := Lh.sq_le hk23
    have hcast := sq_cast k
    by_cases hlt : k * k ≤ m
    · have hk22 := Lh.root_small h5 hlt
      have hkm := Lh.root_lt hk2 hlt
      generalize hqq : k * k = q at *
      have HQ : Hid (k * k = q) := hqq
      clear hqq
      have hd : decide ((q : Int) ≤ (m : Int)) = true := by simp; omega
      have hk0 : ((k : Int) == 0) = false := by simp; omega
      by_cases hz : m % k = 0
      · have hzz : ((m : Int) % (k : Int) == 0) = true := by rw [← Int.natCast_emod, hz]; rfl
        have HZ : Hid (m % k = 0) := hz
        clear hz
        go_wp2
        go_ret
        refine ⟨_, rfl, ?_, rfl⟩
        rcases HH.out with ⟨_, e3⟩ | ⟨hp, _⟩
        · exact Or.inr ⟨2, by decide, e3, Or.inl ⟨rfl, rfl⟩⟩
        · exact absurd HZ.out (hp.2 k hk2 hkm)
      · have hzz : ((m : Int) % (k : Int) == 0) = false := by rw [← Int.natCast_emod, beq_eq_false_iff_ne]; omega
        have HZ : Hid (m % k ≠ 0) := hz
        clear hz
        go_wp2
        go_round
        case rel =>
          refine ⟨k + 1, by omega, by omega, by go_num, fun j h hj => ?_⟩
          by_cases e : j = k
          · subst e; exact HZ.out
          · exact HP.out j h (by omega)
        case measure => simp [intOf]; omega
    · generalize hqq : k * k = q at *
      have HQ : Hid (k * k = q) := hqq
      clear hqq
      have hd : decide ((q : Int) ≤ (m : Int)) = false := by simp; omega
      have HL : Hid (¬ q ≤ m) := hlt
      go_wp2
      go_ret
      refine ⟨_, rfl, ?_, rfl⟩
      have hp : Lh.Prm m := Lh.prm_of_roots h2 (fun j h hj => HP.out j h (by
        rcases Nat.lt_or_ge j k with h' | h'
        · exact h'
        · have := Nat.mul_le_mul h' h'
          have := HQ.out
          have := HL.out
          omega))
      rcases HH.out with ⟨hn, _⟩ | ⟨_, e0⟩
      · exact absurd hp hn
      · exact Or.inl ⟨e0, rfl, rfl⟩

/-- checkSize of any number. -/
theorem checkSize_any (a : Nat → Addr) (n : Int) (e : Nat) (w : World) (he : Errs a w) (hn : -9223372036854775808 ≤ n ∧ n ≤ 9223372036854775807) (h : Lh.SizeIs n e) :
    Calls Tryd.prog 56 #[.int .i64 n] w fun r w' => ∃ ev, r = .returned ev ∧ ErrIs a w e (-1) ev ∧ w' = w := by
  rcases h with ⟨h, rfl⟩ | ⟨m, rfl, h2, h5, h⟩
  · exact (checkSize_out a n w he h hn).mono fun r w' ⟨h1, h2⟩ => ⟨_, h1, Or.inr ⟨1, by decide, rfl, Or.inl ⟨rfl, rfl⟩⟩, h2⟩
  · exact checkSize_in a m e w he h2 h5 h
end Go.Proofs.YtedbhahkldfmiaaDoor
