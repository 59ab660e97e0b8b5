/- Jumps: the landed next and last, Path. -/
import Derived.Test.YteehhglhlapcbabDoorJMath
import Derived.Test.YteehhglhlapcbabDoorJLists
import Derived.Test.YteehhglhlapcbabDoorBlkI
import Derived.Test.YteehhglhlapcbabDoorJ0
import Derived.Maps.AppendAt
namespace Go.Proofs.YteehhglhlapcbabDoor
open Go.RowKit

theorem jk_wrap (k : Nat) : IntKind.u64.wrap (IntKind.u64.wrap ((k : Int) * 2862933555777941757) + 1) = ((Lh.jk k : Nat) : Int) := by
  unfold Lh.jk
  simp [IntKind.wrap, IntKind.bits, IntKind.signed]

set_option maxHeartbeats 1000000 in
theorem jnext_any (k b : Nat) (w : World) (hb : b ≤ 1048576) :
    Calls Tryd.prog 16 #[.int .u64 (k : Nat), .int .u64 (b : Nat)] w fun e w' => e = .returned (.tuple #[.int .u64 (Lh.jk k : Nat), .int .u64 (Lh.jn (Lh.jk k) b : Nat)]) ∧ Below w.heap.size w w' := by
  go_enter Tryd.func16, Tryd.ntmps16
  go_wp2
  rw [jk_wrap]
  have hq := Lh.jk_lt k
  obtain ⟨q, hqe⟩ : ∃ q, Lh.jk k = q := ⟨_, rfl⟩
  rw [hqe] at hq
  rw [hqe]
  have HQ : Hid (Lh.jk k = q) := hqe
  clear hqe
  have e1 : IntKind.u64.wrap ((b : Int) + 1) = (b : Int) + 1 := by rw [IntKind.wrap_u64]; omega
  have e2 : IntKind.u64.wrap (((b : Int) + 1) * 2147483648) = ((b : Int) + 1) * 2147483648 := by rw [IntKind.wrap_u64]; omega
  have e3 : IntKind.u64.wrap ((q : Int) / 8589934592 + 1) = (q : Int) / 8589934592 + 1 := by rw [IntKind.wrap_u64]; omega
  have e4 : ((q : Int) / 8589934592 + 1 == 0) = false := by rw [beq_eq_false_iff_ne]; omega
  go_quiet (fail)
  go_wp2
  go_ret2
  refine ⟨?_, below_drewN (Below.refl _ _) nq⟩
  rw [HQ.out]
  unfold Lh.jn
  simp
set_option maxHeartbeats 1000000 in
theorem last_core (K A : Nat → Nat) (n m : Nat) (w : World) (hn : n ≤ 1048576) (h0 : A 0 = 0) (h1 : ∀ t, t < m → A t < n) (h2 : n ≤ A m) (hr : ∀ t, A t + 1 ≤ A (t + 1))
    (hnx : ∀ t W, t < m → Calls Tryd.prog 16 #[.int .u64 (K t : Nat), .int .u64 (A t : Nat)] W fun e w' => e = .returned (.tuple #[.int .u64 (K (t + 1) : Nat), .int .u64 (A (t + 1) : Nat)]) ∧ Below W.heap.size W w') :
    Calls Tryd.prog 15 #[.int .u64 (K 0 : Nat), .int .i64 (n : Nat)] w fun e w' => e = .returned (.int .i64 (A (m - 1) : Nat)) ∧ Below w.heap.size w w' := by
  have H1 : Hid (∀ t, t < m → A t < n) := h1
  have H2 : Hid (n ≤ A m) := h2
  have HR : Hid (∀ t, A t + 1 ≤ A (t + 1)) := hr
  have HN : Hid (∀ t W, t < m → Calls Tryd.prog 16 #[.int .u64 (K t : Nat), .int .u64 (A t : Nat)] W fun e w' => e = .returned (.tuple #[.int .u64 (K (t + 1) : Nat), .int .u64 (A (t + 1) : Nat)]) ∧ Below W.heap.size W w') := hnx
  have H0 : Hid (A 0 = 0) := h0
  clear h0 h1 h2 hr hnx
  go_enter Tryd.func15, Tryd.ntmps15
  go_wp2_with fail
  go_loopw [0, 5, 6] (fun ky bk a W => Below w.heap.size w W ∧ ∃ t : Nat, t ≤ m ∧ ky = .int .u64 (K t : Nat) ∧ bk = .int .u64 (A (t - 1) : Nat) ∧ a = .int .u64 (A t : Nat)) (fun _ _ a _ => n - (intOf a).toNat)
  case atStart => exact ⟨Below.refl _ _, 0, Nat.zero_le _, rfl, by rw [H0.out]; rfl, by rw [H0.out]; rfl⟩
  case round =>
    obtain ⟨hb, t, ht, rfl, rfl, rfl⟩ := hrel
    by_cases hlt : t < m
    · have hal := H1.out t hlt
      have hd : decide (A t < n) = true := by simpa using hal
      have hrt := HR.out t
      go_wp2_with fail
      refine (HN.out t _ hlt).mono ?_
      rintro e w1 ⟨rfl, hb1⟩
      go_wp2_with fail
      refine ⟨⟨below_then hb hb1, t + 1, by omega, rfl, rfl, rfl⟩, ?_⟩
      simp [intOf]
      omega
    · obtain rfl : t = m := by omega
      have h2 := H2.out
      have hd : decide (A t < n) = false := by simpa using h2
      have hfin : A (t - 1) ≤ 1048576 := by
        cases t with
        | zero => have := H0.out; simp; omega
        | succ t => have := H1.out t (by omega); simp; omega
      clear h2
      go_wp2
      go_ret
      exact ⟨rfl, hb⟩

set_option maxHeartbeats 1000000 in
theorem from_true (x y : Int) (w : World) (h1 : 1 ≤ x) (h2 : x ≤ y) :
    Calls Tryd.prog 14 #[.int .i64 x, .int .i64 y] w fun e w' => e = .returned (.bool true) ∧ w' = w := by
  have d1 : decide (1 ≤ x) = true := by simpa using h1
  have d2 : decide (x ≤ y) = true := by simpa using h2
  clear h1 h2
  go_enter Tryd.func14, Tryd.ntmps14
  go_wp2
  go_ret
  exact ⟨rfl, rfl⟩
set_option maxHeartbeats 1000000 in
theorem from_false (x y : Int) (w : World) (h : x < 1 ∨ y < x) :
    Calls Tryd.prog 14 #[.int .i64 x, .int .i64 y] w fun e w' => e = .returned (.bool false) ∧ w' = w := by
  by_cases h1 : x < 1
  · have d1 : decide (1 ≤ x) = false := by simp; omega
    clear h h1
    go_enter Tryd.func14, Tryd.ntmps14
    go_wp2
    go_ret
    exact ⟨rfl, rfl⟩
  · have d1 : decide (1 ≤ x) = true := by simp; omega
    have d2 : decide (x ≤ y) = false := by simp; omega
    clear h h1
    go_enter Tryd.func14, Tryd.ntmps14
    go_wp2
    go_ret
    exact ⟨rfl, rfl⟩

set_option maxHeartbeats 2000000 in
theorem path_core (K A : Nat → Nat) (n m : Nat) (w : World) (hn1 : 1 ≤ n) (hn : n ≤ 1048576) (h0 : A 0 = 0) (hmn : m ≤ n) (h1 : ∀ t, t < m → A t < n) (h2 : n ≤ A m) (hr : ∀ t, A t + 1 ≤ A (t + 1))
    (hnx : ∀ t W, t < m → Calls Tryd.prog 16 #[.int .u64 (K t : Nat), .int .u64 (A t : Nat)] W fun e w' => e = .returned (.tuple #[.int .u64 (K (t + 1) : Nat), .int .u64 (A (t + 1) : Nat)]) ∧ Below W.heap.size W w')
    (P : Nat → List Int) (hp0 : P 0 = []) (hps : ∀ t, P (t + 1) = P t ++ [((A t : Nat) : Int)]) :
    Calls Tryd.prog 10 #[.int .u64 (K 0 : Nat), .int .i64 (n : Nat)] w fun e w' => ∃ v, e = .returned (.tuple #[v, .nilIface]) ∧ w'.ownsRow w.heap.size 3 1 v m ((P m).map (Value.int .i64)) ∧ Below w.heap.size w w' := by
  obtain ⟨i, hi, hz0, hz1, hz2⟩ := info_parts infoI
  have H1 : Hid (∀ t, t < m → A t < n) := h1
  have H2 : Hid (n ≤ A m) := h2
  have HR : Hid (∀ t, A t + 1 ≤ A (t + 1)) := hr
  have HN : Hid (∀ t W, t < m → Calls Tryd.prog 16 #[.int .u64 (K t : Nat), .int .u64 (A t : Nat)] W fun e w' => e = .returned (.tuple #[.int .u64 (K (t + 1) : Nat), .int .u64 (A (t + 1) : Nat)]) ∧ Below W.heap.size W w') := hnx
  have H0 : Hid (A 0 = 0) := h0
  have HP0 : Hid (P 0 = []) := hp0
  have HPS : Hid (∀ t, P (t + 1) = P t ++ [((A t : Nat) : Int)]) := hps
  clear h0 h1 h2 hr hnx hp0 hps
  go_enter Tryd.func10, Tryd.ntmps10
  go_wp2_with fail
  refine (from_true (n : Nat) 1048576 _ (by omega) (by omega)).mono ?_
  rintro e w' ⟨rfl, rfl⟩
  go_wp2_with fail
  go_loopw [0, 6, 7] (fun ky v a W => Below w'.heap.size w' W ∧ ∃ t : Nat, t ≤ m ∧ ky = .int .u64 (K t : Nat) ∧ a = .int .u64 (A t : Nat) ∧ W.ownsRow w'.heap.size 3 1 v t ((P t).map (Value.int .i64))) (fun _ _ a _ => n - (intOf a).toNat)
  case atStart => exact ⟨Below.refl _ _, 0, Nat.zero_le _, rfl, by rw [H0.out]; rfl, by rw [HP0.out]; exact World.ownsRow_nil _ _ _ _⟩
  case round =>
    obtain ⟨hb, t, ht, rfl, rfl, hown⟩ := hrel
    by_cases hlt : t < m
    · have hal := H1.out t hlt
      have hd : decide (A t < n) = true := by simpa using hal
      have hrt := HR.out t
      have hps := HPS.out t
      have hmx : t + 1 ≤ maxLen := by unfold maxLen; omega
      have hbs : ∀ q, w'.heap.size ≤ (wr.alloc q).heap.size := fun q => by
        have h1 : (wr.alloc q).heap.size = wr.heap.size + 1 := by simp
        have := hb.size
        omega
      have hnew := cell_one_new wr (.int .i64 (A t : Nat)) 3
      have HO : Hid (wr.ownsRow w'.heap.size 3 1 u6 t ((P t).map (Value.int .i64))) := hown
      have HPT : Hid (P (t + 1) = P t ++ [((A t : Nat) : Int)]) := hps
      clear hown hps
      go_wp2_with (at_builtin; refine wpList_append_own _ rfl _ _ 24 rfl w'.heap.size 3 i _ 1 8 Tryd.underlying24 hi hz0 hz1 hz2 rfl (by decide) _ t _ rfl (HO.out.alloc _) ⟨wr.heap.size, 0, none⟩ 1 1 [.int .i64 (A t : Nat)] rfl rfl hnew (ints_oneCell1 _) hmx (by omega) (hbs _) ?_)
      intro v2 w3 hown2 hg2 _
      have hb3 : Below w'.heap.size w' w3 := (hb.alloc hb.size _).grown hg2 (hbs _) (fun k h => (HO.out.lt k h).1)
      have HO2 : Hid (w3.ownsRow w'.heap.size 3 1 v2 (t + 1) ((P (t + 1)).map (Value.int .i64))) := by
        have h1 := hown2
        rw [HPT.out, List.map_append]
        exact h1
      clear hown2 hg2 hnew hbs
      go_wp2_with fail
      refine (HN.out t _ hlt).mono ?_
      rintro e w4 ⟨rfl, hb4⟩
      go_wp2_with fail
      refine ⟨⟨hb3.trans (hb4.mono hb3.size), t + 1, by omega, rfl, rfl, ownsRow_below HO2.out hb4⟩, ?_⟩
      simp [intOf]
      omega
    · obtain rfl : t = m := by omega
      have h2 := H2.out
      have hd : decide (A t < n) = false := by simpa using h2
      clear h2
      have HO : Hid (wr.ownsRow w'.heap.size 3 1 u6 t ((P t).map (Value.int .i64))) := hown
      clear hown
      go_wp2
      go_ret2
      exact ⟨_, rfl, HO.out, hb⟩

theorem last_any (k n : Nat) (w : World) (hn1 : 1 ≤ n) (hn : n ≤ 1048576) :
    Calls Tryd.prog 15 #[.int .u64 (k : Nat), .int .i64 (n : Nat)] w fun e w' => e = .returned (.int .i64 (Lh.jb k n : Nat)) ∧ Below w.heap.size w w' :=
  last_core (Lh.jky k) (Lh.jat k) n (Lh.jlen k n) w hn (Lh.jat_zero k) (fun _ h => Lh.jlen_below.1 h) (Lh.jlen_spec k n).2 (Lh.jat_rise k)
    (fun t W h => jnext_any (Lh.jky k t) (Lh.jat k t) W (by have := Lh.jlen_below.1 h; omega))
theorem path_good (k n : Nat) (w : World) (hn1 : 1 ≤ n) (hn : n ≤ 1048576) :
    Calls Tryd.prog 10 #[.int .u64 (k : Nat), .int .i64 (n : Nat)] w fun e w' => ∃ v, e = .returned (.tuple #[v, .nilIface]) ∧ w'.ownsRow w.heap.size 3 1 v (Lh.jlen k n) ((Lh.jp k (Lh.jlen k n)).map (Value.int .i64)) ∧ Below w.heap.size w w' :=
  path_core (Lh.jky k) (Lh.jat k) n (Lh.jlen k n) w hn1 hn (Lh.jat_zero k) (Lh.jlen_le k n) (fun _ h => Lh.jlen_below.1 h) (Lh.jlen_spec k n).2 (Lh.jat_rise k)
    (fun t W h => jnext_any (Lh.jky k t) (Lh.jat k t) W (by have := Lh.jlen_below.1 h; omega)) (Lh.jp k) (Lh.jp_zero k) (Lh.jp_snoc k)
set_option maxHeartbeats 1000000 in
theorem path_bad (a : Nat → Addr) (k : Nat) (x : Int) (w : World) (he : Errs1 a w) (h : x < 1 ∨ 1048576 < x) :
    Calls Tryd.prog 10 #[.int .u64 (k : Nat), .int .i64 x] w fun e w' => e = .returned (.tuple #[.slice none 0 0, .iface 84 (.pointer (some (a 1)))]) ∧ Below w.heap.size w w' := by
  have s1 := he.s1
  go_enter Tryd.func10, Tryd.ntmps10
  go_wp2_with fail
  refine (from_false x 1048576 _ h).mono ?_
  rintro e w' ⟨rfl, rfl⟩
  clear h
  go_wp2_with fail
  go_quiet (fail)
  go_wp2
  go_ret2
  exact ⟨rfl, below_drewN (Below.refl _ _) nq⟩
set_option maxHeartbeats 1000000 in
theorem bucket_bad (a : Nat → Addr) (k : Nat) (x : Int) (w : World) (he : Errs1 a w) (h : x < 1 ∨ 1048576 < x) :
    Calls Tryd.prog 9 #[.int .u64 (k : Nat), .int .i64 x] w fun e w' => e = .returned (.tuple #[.int .i64 0, .iface 84 (.pointer (some (a 1)))]) ∧ Below w.heap.size w w' := by
  have s1 := he.s1
  go_enter Tryd.func9, Tryd.ntmps9
  go_wp2_with fail
  refine (from_false x 1048576 _ h).mono ?_
  rintro e w' ⟨rfl, rfl⟩
  clear h
  go_wp2_with fail
  go_quiet (fail)
  go_wp2
  go_ret2
  exact ⟨rfl, below_drewN (Below.refl _ _) nq⟩
set_option maxHeartbeats 1000000 in
theorem bucket_good (k n : Nat) (w : World) (hn1 : 1 ≤ n) (hn : n ≤ 1048576) :
    Calls Tryd.prog 9 #[.int .u64 (k : Nat), .int .i64 (n : Nat)] w fun e w' => e = .returned (.tuple #[.int .i64 (Lh.jb k n : Nat), .nilIface]) ∧ Below w.heap.size w w' := by
  go_enter Tryd.func9, Tryd.ntmps9
  go_wp2_with fail
  refine (from_true (n : Nat) 1048576 _ (by omega) (by omega)).mono ?_
  rintro e w' ⟨rfl, rfl⟩
  go_wp2_with fail
  refine (last_any k n _ hn1 hn).mono ?_
  rintro e w1 ⟨rfl, hb1⟩
  go_wp2
  go_ret2
  exact ⟨rfl, hb1⟩
set_option maxHeartbeats 1000000 in
theorem jumped_any (w : World) :
    Calls Tryd.prog 6 #[] w fun e w' => e = .returned (.bool true) ∧ Below w.heap.size w w' := by
  have hq : Lh.jb 7 1 = 0 := by
    have := Lh.jb_lt (k := 7) (n := 1) (Nat.le_refl _)
    omega
  have hc := fun W => bucket_good 7 1 W (by decide) (by decide)
  rw [hq] at hc
  clear hq
  go_enter Tryd.func6, Tryd.ntmps6
  go_wp2_with fail
  refine (hc _).mono ?_
  rintro e w1 ⟨rfl, hb1⟩
  clear hc
  go_wp2
  go_ret
  exact ⟨rfl, hb1⟩
end Go.Proofs.YteehhglhlapcbabDoor
