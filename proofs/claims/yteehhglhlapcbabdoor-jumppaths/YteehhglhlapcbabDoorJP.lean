/- JumpPaths: the walk. -/
import Derived.Test.YteehhglhlapcbabDoorJ1
namespace Go.Proofs.YteehhglhlapcbabDoor
open Go.RowKit

set_option maxRecDepth 100000 in
set_option maxHeartbeats 2000000 in
theorem jp_core (k n l : Nat) (w : World) (hn : n ≤ 1048576) (hl1 : 1 ≤ l) (hln : l ≤ n) (A : Nat → Nat) (m q : Nat) (P Q : List Int) (hm0 : 0 < m) (hq0 : 0 < q) (hqm : q ≤ m) (hmn : m ≤ n) (hlP : P.length = m) (hlQ : Q.length = q)
    (hP : ∀ j (h : j < P.length), P[j] = ((A j : Nat) : Int)) (hA0 : A 0 = 0) (hr : ∀ t, A t + 1 ≤ A (t + 1)) (hAn : ∀ t, t < m → A t < n) (hAl : l ≤ A q) (hQ : P.take q = Q)
    (hp : ∀ W, Calls Tryd.prog 10 #[.int .u64 (k : Nat), .int .i64 (n : Nat)] W fun e w' => ∃ v, e = .returned (.tuple #[v, .nilIface]) ∧ w'.ownsRow W.heap.size 3 1 v m (P.map (Value.int .i64)) ∧ Below W.heap.size W w')
    (hq : ∀ W, Calls Tryd.prog 10 #[.int .u64 (k : Nat), .int .i64 (l : Nat)] W fun e w' => ∃ v, e = .returned (.tuple #[v, .nilIface]) ∧ w'.ownsRow W.heap.size 3 1 v q (Q.map (Value.int .i64)) ∧ Below W.heap.size W w') :
    Calls Tryd.prog 5 #[.int .u64 (k : Nat), .int .i64 (n : Nat), .int .i64 (l : Nat)] w fun e w' => e = .returned (.bool true) ∧ Below w.heap.size w w' := by
  have HR : Hid (∀ t, A t + 1 ≤ A (t + 1)) := hr
  have HAN : Hid (∀ t, t < m → A t < n) := hAn
  have HAL : Hid (l ≤ A q) := hAl
  have HQ : Hid (P.take q = Q) := hQ
  have HLP : Hid (P.length = m) := hlP
  have HLQ : Hid (Q.length = q) := hlQ
  have HP : Hid (∀ j (h : j < P.length), P[j] = ((A j : Nat) : Int)) := hP
  have HA0 : Hid (A 0 = 0) := hA0
  clear hr hAn hAl hQ hlP hlQ hP hA0
  have d1 : decide ((l : Int) < 1) = false := by simp; omega
  have d2 : decide ((n : Int) < (l : Int)) = false := by simp; omega
  go_enter Tryd.func5, Tryd.ntmps5
  go_wp2_with fail
  refine (jumped_any _).mono ?_
  rintro e w1 ⟨rfl, hb1⟩
  go_wp2_with fail
  refine (hp _).mono ?_
  rintro e w2 ⟨v, rfl, hv, hb2⟩
  obtain ⟨g, c, rfl, hmc, hcell⟩ := owns_head hv hm0
  clear hv hp
  go_wp2_with fail
  refine (hq _).mono ?_
  rintro e w3 ⟨v, rfl, hv, hb3⟩
  have hI := ints_of_owns hv
  obtain ⟨g', c', rfl, -, -⟩ := owns_head hv hq0
  have HI : Hid (Ints w3 (.slice (some ⟨g', 0, none⟩) q c') Q) := hI
  have HC : Hid (∀ j, j < m → w3.cell? ⟨g, j, none⟩ = some (.int .i64 (A j : Nat))) := fun j hj => by
    have hj' : j < P.length := by rw [HLP.out]; exact hj
    rw [below_cell hb3 (hcell j hj'), HP.out j hj']
  have hbw : Below w.heap.size w w3 := below_then hb1 (below_then hb2 hb3)
  clear hv hq hI hcell hb1 hb2 hb3
  have c0 := HC.out 0 hm0
  rw [HA0.out] at c0
  have e1 : ((m : Int) == 0) = false := by rw [beq_eq_false_iff_ne]; omega
  have e2 : decide ((m : Int) < (q : Int)) = false := by simp; omega
  go_wp2_with fail
  clear c0
  go_loopw [11] (fun t W => Below w3.heap.size w3 W ∧ ∃ j : Nat, j + 1 ≤ m ∧ t = .int .i64 ((j + 1 : Nat) : Int)) (fun t _ => m - (intOf t).toNat)
  case atStart => exact ⟨Below.refl _ _, 0, by omega, rfl⟩
  case round =>
    obtain ⟨hb, j, hj, rfl⟩ := hrel
    by_cases hlt : j + 1 < m
    · have c1 := below_cell hb (HC.out (j + 1) hlt)
      have c2 := below_cell hb (HC.out j (by omega))
      have hr := HR.out j
      have hx := HAN.out (j + 1) hlt
      generalize A (j + 1) = y at *
      generalize A j = x at *
      have d3 : decide (y ≤ x) = false := by simp; omega
      have d4 : decide (n ≤ y) = false := by simp; omega
      have hji : (j : Int) + 1 < (m : Int) := by omega
      have hjm : (j : Int) < (m : Int) := by omega
      go_wp2_with fail
      go_quiet (fail)
      go_wp2
      refine ⟨⟨below_drewN hb nq, j + 1, by omega, by go_num⟩, by simp [intOf]; omega⟩
    · have hd : decide ((j : Int) + 1 < (m : Int)) = false := by simp; omega
      have hqc : q ≤ c := by omega
      have hQ : Ints wr (.slice (some ⟨g, 0, none⟩) q c) Q := by
        refine Or.inr ⟨g, 0, c, by rw [HLQ.out], fun t ht => ?_⟩
        have htq : t < q := by rw [← HLQ.out]; exact ht
        have htP : t < P.length := by rw [HLP.out]; omega
        rw [Nat.zero_add, below_cell hb (HC.out t (by omega)), ← HP.out t htP]
        simp [← HQ.out]
      have hs := sameIntsB_any _ _ _ _ wr hQ (HI.out.later hb) (by rw [HLQ.out]; omega) (by rw [HLQ.out]; omega)
      rw [decide_eq_true rfl] at hs
      clear hQ
      by_cases hqm2 : q < m
      · have cq := below_cell hb (HC.out q hqm2)
        have hal := HAL.out
        generalize A q = y at *
        have d5 : decide (y < l) = false := by simp; omega
        have hqi : (q : Int) < (m : Int) := by omega
        clear hal
        go_wp2_with fail
        refine hs.mono ?_
        rintro e w4 ⟨rfl, hb4⟩
        clear hs
        go_wp2
        go_ret
        exact ⟨rfl, below_then (below_then hbw hb) hb4⟩
      · have hqi : decide ((q : Int) < (m : Int)) = false := by simp; omega
        go_wp2_with fail
        refine hs.mono ?_
        rintro e w4 ⟨rfl, hb4⟩
        clear hs
        go_wp2
        go_ret
        exact ⟨rfl, below_then (below_then hbw hb) hb4⟩

set_option maxHeartbeats 1000000 in
theorem jp_out (k : Nat) (n l : Int) (w : World) (h : l < 1 ∨ n < l) :
    Calls Tryd.prog 5 #[.int .u64 (k : Nat), .int .i64 n, .int .i64 l] w fun e w' => e = .returned (.bool true) ∧ Below w.heap.size w w' := by
  by_cases h1 : l < 1
  · have d1 : decide (l < 1) = true := by simpa using h1
    clear h h1
    go_enter Tryd.func5, Tryd.ntmps5
    go_wp2_with fail
    refine (jumped_any _).mono ?_
    rintro e w1 ⟨rfl, hb1⟩
    go_wp2
    go_ret
    exact ⟨rfl, hb1⟩
  · have d1 : decide (l < 1) = false := by simp; omega
    have d2 : decide (n < l) = true := by simp; omega
    clear h h1
    go_enter Tryd.func5, Tryd.ntmps5
    go_wp2_with fail
    refine (jumped_any _).mono ?_
    rintro e w1 ⟨rfl, hb1⟩
    go_wp2
    go_ret
    exact ⟨rfl, hb1⟩
set_option maxHeartbeats 1000000 in
theorem jp_bad (a : Nat → Addr) (k : Nat) (n l : Int) (w : World) (he : Errs1 a w) (h1 : 1 ≤ l) (h2 : l ≤ n) (hn : 1048576 < n) :
    Calls Tryd.prog 5 #[.int .u64 (k : Nat), .int .i64 n, .int .i64 l] w fun e w' => e = .returned (.bool true) ∧ Below w.heap.size w w' := by
  have HE : Hid (Errs1 a w) := he
  have d1 : decide (l < 1) = false := by simp; omega
  have d2 : decide (n < l) = false := by simp; omega
  clear h1 h2 he
  go_enter Tryd.func5, Tryd.ntmps5
  go_wp2_with fail
  refine (jumped_any _).mono ?_
  rintro e w1 ⟨rfl, hb1⟩
  go_wp2_with fail
  refine (path_bad a k n _ (HE.out.later hb1) (Or.inr hn)).mono ?_
  rintro e w2 ⟨rfl, hb2⟩
  go_wp2
  go_ret
  exact ⟨rfl, below_then hb1 hb2⟩

theorem jpaths_any (a : Nat → Addr) (k : Nat) (x y : Int) (w : World) (he : Errs1 a w) :
    Calls Tryd.prog 5 #[.int .u64 (k : Nat), .int .i64 x, .int .i64 y] w fun e w' => e = .returned (.bool true) ∧ Below w.heap.size w w' := by
  by_cases h : y < 1 ∨ x < y
  · exact jp_out k x y w h
  · by_cases hx : 1048576 < x
    · exact jp_bad a k x y w he (by omega) (by omega) hx
    · obtain ⟨n, rfl⟩ := Int.eq_ofNat_of_zero_le (show 0 ≤ x by omega)
      obtain ⟨l, rfl⟩ := Int.eq_ofNat_of_zero_le (show 0 ≤ y by omega)
      have hq : Lh.jlen k l ≤ Lh.jlen k n := Lh.jlen_mono (by omega)
      exact jp_core k n l w (by omega) (by omega) (by omega) (Lh.jat k) (Lh.jlen k n) (Lh.jlen k l) (Lh.jp k (Lh.jlen k n)) (Lh.jp k (Lh.jlen k l)) (Lh.jlen_pos (by omega)) (Lh.jlen_pos (by omega)) hq (Lh.jlen_le k n) (Lh.jp_length _ _) (Lh.jp_length _ _)
        (fun j h => Lh.jp_get k _ h) (Lh.jat_zero k) (Lh.jat_rise k) (fun _ h => Lh.jlen_below.1 h) (Lh.jlen_spec k l).2 (Lh.jp_take k hq) (fun W => path_good k n W (by omega) (by omega)) (fun W => path_good k l W (by omega) (by omega))
end Go.Proofs.YteehhglhlapcbabDoor
