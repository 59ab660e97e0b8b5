/- Errors by number and place; the first text of a list. -/
import Derived.Test.YtijdaaghomclmabDoorHosts
namespace Go.Proofs.YtijdaaghomclmabDoor
open Go.RowKit

namespace Lh
def mem (s : ByteArray) (xs : List ByteArray) : Bool := xs.any fun x => decide (x = s)
theorem mem_true {s : ByteArray} {xs : List ByteArray} (h : s ∈ xs) : mem s xs = true := by
  unfold mem; rw [List.any_eq_true]; exact ⟨s, h, by simp⟩
theorem mem_false {s : ByteArray} {xs : List ByteArray} (h : ¬ s ∈ xs) : mem s xs = false := by
  unfold mem; rw [List.any_eq_false]; intro x hx; simp only [decide_eq_true_eq]; intro e; subst e; exact h hx
end Lh

/-- The value v is the error of number c (0: none) at the place pl (-1: bare). -/
def ErrIs (a : Nat → Addr) (W : World) (c : Nat) (pl : Int) (v : Value) : Prop :=
  (c = 0 ∧ pl = -1 ∧ v = .nilIface) ∨
  (∃ i, i < 9 ∧ c = i + 1 ∧ ((pl = -1 ∧ v = .iface 242 (.pointer (some (a i)))) ∨
    ∃ b, v = .iface 154 (.pointer (some ⟨b, 0, none⟩)) ∧ W.cell? ⟨b, 0, none⟩ = some (.int .i64 pl) ∧ W.cell? ⟨b, 1, none⟩ = some (.iface 242 (.pointer (some (a i))))))

theorem ErrIs.later {a : Nat → Addr} {W W' : World} {c : Nat} {pl : Int} {v : Value} (h : ErrIs a W c pl v) (hb : Below W.heap.size W W') : ErrIs a W' c pl v := by
  rcases h with h | ⟨i, hi, hc, h | ⟨b, hv, h0, h1⟩⟩
  · exact Or.inl h
  · exact Or.inr ⟨i, hi, hc, Or.inl h⟩
  · exact Or.inr ⟨i, hi, hc, Or.inr ⟨b, hv, below_cell hb h0, below_cell hb h1⟩⟩

theorem code_is {a : Nat → Addr} {W : World} {c : Nat} {pl : Int} {v : Value} (he : Errs a W) (h : ErrIs a W c pl v) :
    Calls Tryd.prog 56 #[v] W fun e w' => e = .returned (.tuple #[.int .i64 c, .int .i64 pl]) ∧ Below W.heap.size W w' := by
  rcases h with ⟨rfl, rfl, rfl⟩ | ⟨i, hi, rfl, ⟨rfl, rfl⟩ | ⟨b, rfl, h0, h1⟩⟩
  · exact (code_nil W).mono fun e w' ⟨h1, h2⟩ => ⟨h1, by rw [h2]; exact Below.refl _ _⟩
  · have := code_sent a i hi W he
    rw [codeNum_lt hi] at this
    exact this
  · have := code_fault a i hi pl b W he h0 h1
    rw [codeNum_lt hi] at this
    exact this

set_option maxHeartbeats 1000000 in
/-- faulted: the error is the one that the document asks. -/
theorem faulted_is {a : Nat → Addr} {W : World} {c : Nat} {pl : Int} {v : Value} (he : Errs a W) (h : ErrIs a W c pl v) :
    Calls Tryd.prog 24 #[v, .agg #[.int .i64 c, .int .i64 pl]] W fun e w' => e = .returned (.bool true) ∧ Below W.heap.size W w' := by
  have hba : Below W.heap.size W (W.alloc (.cells #[.int .i64 c, .int .i64 pl] 46)) := (Below.refl _ _).alloc (Nat.le_refl _) _
  have hc := code_is (he.later hba) (h.later hba)
  go_enter Tryd.func24, Tryd.ntmps24
  go_wp2_with fail
  refine hc.mono ?_
  rintro e w1 ⟨rfl, hb1⟩
  have c0 : w1.cell? ⟨W.heap.size, 0, none⟩ = some (.int .i64 c) := below_cell hb1 (by simp)
  have c1 : w1.cell? ⟨W.heap.size, 1, none⟩ = some (.int .i64 pl) := below_cell hb1 (by simp)
  have hbz : Below W.heap.size W w1 := hba.trans (hb1.mono (by simp))
  clear hb1 hba hc
  cases hz : ((c : Int) == 0) with
  | true =>
    go_wp2
    go_ret
    exact ⟨rfl, hbz⟩
  | false =>
    go_wp2
    go_ret
    exact ⟨by simp, hbz⟩

/- the first place of a text in a list -/
set_option maxHeartbeats 1000000 in
theorem contains_core (b o c : Nat) (xs : List ByteArray) (s : ByteArray) (w : World) (hx : ∀ k (h : k < xs.length), w.cell? ⟨b, o + k, none⟩ = some (.string xs[k])) (hm : xs.length < 1000000) :
    Calls Tryd.prog 133 #[.slice (some ⟨b, o, none⟩) xs.length c, .string s] w fun e w' => (∃ j : Int, e = .returned (.int .i64 j) ∧ decide (0 ≤ j) = Lh.mem s xs) ∧ w' = w := by
  have HX : Hid _ := hx
  clear hx
  go_enter Tryd.func133, Tryd.ntmps133
  go_wp2
  go_loop [8] (fun t => ∃ k : Nat, k ≤ xs.length ∧ t = .int .i64 k ∧ ∀ j (h : j < xs.length), j < k → xs[j] ≠ s) (fun t => xs.length - (intOf t).toNat)
  case atStart => exact ⟨0, Nat.zero_le _, rfl, fun j _ h => absurd h (by omega)⟩
  case round =>
    obtain ⟨k, hk, rfl, hpre⟩ := hrel
    have HP : Hid _ := hpre
    clear hpre
    by_cases hlt : k < xs.length
    · have cx := HX.out k hlt
      generalize hxk : xs[k] = xk at *
      have HXK : Hid _ := hxk
      clear hxk
      by_cases heq : s = xk
      · have hne : (s.toList == xk.toList) = true := bytes_same heq
        have HE : Hid _ := heq
        clear heq
        go_wp2
        go_ret
        refine ⟨⟨(k : Int), rfl, ?_⟩, rfl⟩
        rw [decide_eq_true (by omega), Lh.mem_true]
        rw [HE.out, ← HXK.out]
        exact List.getElem_mem _
      · have hne : (s.toList == xk.toList) = false := bytes_parts heq
        have HE : Hid _ := heq
        clear heq
        go_wp2
        go_round
        case rel =>
          refine ⟨k + 1, by omega, by go_num, fun j h hj => ?_⟩
          by_cases hjk : j = k
          · subst hjk; rw [HXK.out]; exact fun e => HE.out e.symm
          · exact HP.out j h (by omega)
        case measure => simp [intOf]; omega
    · go_wp2
      go_ret
      refine ⟨⟨-1, rfl, ?_⟩, rfl⟩
      rw [decide_eq_false (by omega), Lh.mem_false]
      intro hm
      obtain ⟨j, hj, e⟩ := List.getElem_of_mem hm
      exact HP.out j hj (by omega) e

set_option maxHeartbeats 1000000 in
theorem index_zero (p : Option Addr) (c : Nat) (s : ByteArray) (w : World) :
    Calls Tryd.prog 133 #[.slice p 0 c, .string s] w fun e w' => e = .returned (.int .i64 (-1)) ∧ w' = w := by
  go_enter Tryd.func133, Tryd.ntmps133
  go_wp2
  refine wp_loop_rounds 1 ?_
  rw [rounds_succ]
  go_wp2
  go_ret
  exact ⟨rfl, rfl⟩

/-- slices.Contains of a list of texts. -/
theorem contains_any (v : Value) (xs : List ByteArray) (s : ByteArray) (w : World) (hv : Strs w v xs) (hm : xs.length < 1000000) :
    Calls Tryd.prog 102 #[v, .string s] w fun e w' => e = .returned (.bool (Lh.mem s xs)) ∧ w' = w := by
  have key : Calls Tryd.prog 133 #[v, .string s] w fun e w' => (∃ j : Int, e = .returned (.int .i64 j) ∧ decide (0 ≤ j) = Lh.mem s xs) ∧ w' = w := by
    rcases hv with ⟨rfl, p, c, rfl⟩ | ⟨b, o, c, rfl, _, hc⟩
    · exact (index_zero p c s w).mono fun e w' ⟨h1, h2⟩ => ⟨⟨-1, h1, rfl⟩, h2⟩
    · exact contains_core b o c xs s w hc hm
  clear hv
  go_enter Tryd.func102, Tryd.ntmps102
  go_wp2_with fail
  refine key.mono ?_
  rintro e w1 ⟨⟨j, rfl, hj⟩, rfl⟩
  have HJ : Hid _ := hj
  clear hj key
  go_wp2
  go_ret
  exact ⟨ret_bool HJ.out, rfl⟩

set_option maxHeartbeats 1000000 in
/-- Index of the reference, at a text of the list itself: is it ahead? -/
theorem refIndex_any (b o c : Nat) (xs : List ByteArray) (i : Nat) (hi : i < xs.length) (w : World) (hx : ∀ k (h : k < xs.length), w.cell? ⟨b, o + k, none⟩ = some (.string xs[k])) (hm : xs.length < 1000000) :
    Calls Tryd.prog 65 #[.slice (some ⟨b, o, none⟩) xs.length c, .string xs[i]] w fun e w' => (∃ j : Int, e = .returned (.int .i64 j) ∧ decide (j < (i : Int)) = Lh.mem xs[i] (xs.take i)) ∧ w' = w := by
  have HX : Hid _ := hx
  clear hx
  obtain ⟨s, hs⟩ : ∃ s, s = xs[i] := ⟨_, rfl⟩
  rw [← hs]
  have HS : Hid _ := hs
  clear hs
  go_enter Tryd.func65, Tryd.ntmps65
  go_wp2
  go_loop [5] (fun t => ∃ k : Nat, k ≤ i ∧ t = .int .i64 k ∧ ∀ j (h : j < xs.length), j < k → xs[j] ≠ s) (fun t => xs.length - (intOf t).toNat)
  case atStart => exact ⟨0, Nat.zero_le _, rfl, fun j _ h => absurd h (by omega)⟩
  case round =>
    obtain ⟨k, hk, rfl, hpre⟩ := hrel
    have HP : Hid _ := hpre
    clear hpre
    have hlt : k < xs.length := by omega
    have cx := HX.out k hlt
    generalize hxk : xs[k] = xk at *
    have HXK : Hid _ := hxk
    clear hxk
    by_cases heq : xk = s
    · have hne : (xk.toList == s.toList) = true := bytes_same heq
      have HE : Hid _ := heq
      clear heq
      go_wp2
      go_ret
      refine ⟨⟨(k : Int), rfl, ?_⟩, rfl⟩
      by_cases hki : k < i
      · rw [decide_eq_true (by omega), Lh.mem_true]
        rw [List.mem_take_iff_getElem]
        exact ⟨k, by omega, by rw [HXK.out, HE.out]⟩
      · rw [decide_eq_false (by omega), Lh.mem_false]
        intro hmem
        rw [List.mem_take_iff_getElem] at hmem
        obtain ⟨j, hj, e⟩ := hmem
        exact HP.out j (by omega) (by omega) e
    · have hne : (xk.toList == s.toList) = false := bytes_parts heq
      have hki : k < i := by
        rcases Nat.lt_or_ge k i with h | h
        · exact h
        · exfalso
          have : k = i := by omega
          subst this
          exact heq (by rw [← HXK.out, HS.out])
      have HE : Hid _ := heq
      clear heq
      go_wp2
      go_round
      case rel =>
        refine ⟨k + 1, by omega, by go_num, fun j h hj => ?_⟩
        by_cases hjk : j = k
        · subst hjk; rw [HXK.out]; exact HE.out
        · exact HP.out j h (by omega)
      case measure => simp [intOf]; omega
end Go.Proofs.YtijdaaghomclmabDoor
