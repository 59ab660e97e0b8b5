/- JumpGrows: the walk. -/
import Derived.Test.YteehhglhlapcbabDoorJ1
namespace Go.Proofs.YteehhglhlapcbabDoor
open Go.RowKit

set_option maxRecDepth 100000 in
set_option maxHeartbeats 2000000 in
theorem jg_core (k n : Nat) (w : World) (hn1 : 1 ≤ n) (hn : n ≤ 300) (B : Nat → Nat) (X : Nat → Int) (P : Nat → List Int) (hX1 : X 1 = -1) (hP1 : P 1 = []) (hXs : ∀ J, 1 ≤ J → X (J + 1) = ((B J : Nat) : Int)) (hB : ∀ J, 1 ≤ J → B J < J)
    (hst : ∀ J, 1 ≤ J → (((B J : Nat) : Int) = X J ∧ P (J + 1) = P J) ∨ (((B J : Nat) : Int) ≠ X J ∧ B J + 1 = J ∧ P (J + 1) = P J ++ [((B J : Nat) : Int)])) (hlp : ∀ J, (P J).length ≤ J)
    (hbk : ∀ J W, 1 ≤ J → J ≤ 300 → Calls Tryd.prog 9 #[.int .u64 (k : Nat), .int .i64 (J : Nat)] W fun e w' => e = .returned (.tuple #[.int .i64 (B J : Nat), .nilIface]) ∧ Below W.heap.size W w')
    (hpa : ∀ W, Calls Tryd.prog 10 #[.int .u64 (k : Nat), .int .i64 (n : Nat)] W fun e w' => ∃ v, e = .returned (.tuple #[v, .nilIface]) ∧ Ints w' v (P (n + 1)) ∧ Below W.heap.size W w') :
    Calls Tryd.prog 4 #[.int .u64 (k : Nat), .int .i64 (n : Nat)] w fun e w' => e = .returned (.bool true) ∧ Below w.heap.size w w' := by
  obtain ⟨i, hi, hz0, hz1, hz2⟩ := info_parts infoI
  have HX1 : Hid (X 1 = -1) := hX1
  have HP1 : Hid (P 1 = []) := hP1
  have HXS : Hid (∀ J, 1 ≤ J → X (J + 1) = ((B J : Nat) : Int)) := hXs
  have HB : Hid (∀ J, 1 ≤ J → B J < J) := hB
  have HST : Hid (∀ J, 1 ≤ J → (((B J : Nat) : Int) = X J ∧ P (J + 1) = P J) ∨ (((B J : Nat) : Int) ≠ X J ∧ B J + 1 = J ∧ P (J + 1) = P J ++ [((B J : Nat) : Int)])) := hst
  have HLP : Hid (∀ J, (P J).length ≤ J) := hlp
  have HBK : Hid (∀ J W, 1 ≤ J → J ≤ 300 → Calls Tryd.prog 9 #[.int .u64 (k : Nat), .int .i64 (J : Nat)] W fun e w' => e = .returned (.tuple #[.int .i64 (B J : Nat), .nilIface]) ∧ Below W.heap.size W w') := hbk
  have HPA : Hid (∀ W, Calls Tryd.prog 10 #[.int .u64 (k : Nat), .int .i64 (n : Nat)] W fun e w' => ∃ v, e = .returned (.tuple #[v, .nilIface]) ∧ Ints w' v (P (n + 1)) ∧ Below W.heap.size W w') := hpa
  clear hX1 hP1 hXs hB hst hlp hbk hpa
  have d1 : decide ((n : Int) < 1) = false := by simp; omega
  have d2 : decide (300 < (n : Int)) = false := by simp; omega
  go_enter Tryd.func4, Tryd.ntmps4
  go_wp2_with fail
  refine (jumped_any _).mono ?_
  rintro e w1 ⟨rfl, hb1⟩
  go_wp2_with fail
  go_loopw [6, 7, 8] (fun v l t W => Below w1.heap.size w1 W ∧ ∃ J : Nat, 1 ≤ J ∧ J ≤ n + 1 ∧ t = .int .i64 (J : Nat) ∧ l = .int .i64 (X J) ∧ W.ownsRow w1.heap.size 3 1 v (P J).length ((P J).map (Value.int .i64))) (fun _ _ t _ => n + 1 - (intOf t).toNat)
  case atStart => exact ⟨Below.refl _ _, 1, Nat.le_refl _, by omega, rfl, by rw [HX1.out], by rw [HP1.out]; exact World.ownsRow_nil _ _ _ _⟩
  case round =>
    obtain ⟨hb, J, hJ1, hJn, rfl, rfl, hown⟩ := hrel
    by_cases hlt : J ≤ n
    · have hd : decide ((J : Int) ≤ (n : Int)) = true := by simp; omega
      have hq := HB.out J hJ1
      have HX : Hid (X (J + 1) = ((B J : Nat) : Int)) := HXS.out J hJ1
      have hst := HST.out J hJ1
      have hcall := HBK.out J
      have hlp := HLP.out J
      have HO : Hid (wr.ownsRow w1.heap.size 3 1 u6 (P J).length ((P J).map (Value.int .i64))) := hown
      clear hown
      generalize B J = q at *
      generalize X J = x at *
      generalize P J = L at *
      have e1 : decide ((q : Int) < 0) = false := by simp
      have e2 : decide ((J : Int) ≤ (q : Int)) = false := by simp; omega
      rcases hst with ⟨hqx, hPn⟩ | ⟨hqx, hq1, hPn⟩
      · have e3 : ((q : Int) != x) = false := by simp [hqx]
        have HPN : Hid (P (J + 1) = L) := hPn
        clear hqx hPn
        go_wp2_with fail
        refine (hcall _ hJ1 (by omega)).mono ?_
        rintro e w2 ⟨rfl, hb2⟩
        clear hcall
        go_wp2_with fail
        go_roundw
        case rel =>
          refine ⟨hb.trans (hb2.mono hb.size), J + 1, by omega, by omega, by go_num, by rw [HX.out], ?_⟩
          rw [HPN.out]
          exact ownsRow_below HO.out hb2
        case measure => simp [intOf]; omega
      · have e3 : ((q : Int) != x) = true := by rw [bne_iff_ne]; exact hqx
        have e4 : ((q : Int) != (J : Int) - 1) = false := by simp; omega
        have HPN : Hid (P (J + 1) = L ++ [((q : Nat) : Int)]) := hPn
        have hmx : L.length + 1 ≤ maxLen := by unfold maxLen; omega
        clear hqx hPn hq1
        go_wp2_with fail
        refine (hcall _ hJ1 (by omega)).mono ?_
        rintro e w2 ⟨rfl, hb2⟩
        clear hcall
        have hb12 : Below w1.heap.size w1 w2 := hb.trans (hb2.mono hb.size)
        have hbs : ∀ q, w1.heap.size ≤ (w2.alloc q).heap.size := fun q => by
          have h1 : (w2.alloc q).heap.size = w2.heap.size + 1 := by simp
          have := hb12.size
          omega
        have hnew := cell_one_new w2 (.int .i64 (q : Nat)) 3
        have HO2 : Hid (w2.ownsRow w1.heap.size 3 1 u6 L.length (L.map (Value.int .i64))) := ownsRow_below HO.out hb2
        go_wp2_with (at_builtin; refine wpList_append_own _ rfl _ _ 24 rfl w1.heap.size 3 i _ 1 8 Tryd.underlying24 hi hz0 hz1 hz2 rfl (by decide) _ L.length _ rfl (HO2.out.alloc _) ⟨w2.heap.size, 0, none⟩ 1 1 [.int .i64 (q : Nat)] rfl rfl hnew (ints_oneCell1 _) hmx (by omega) (hbs _) ?_)
        intro v2 w3 hown2 hg2 _
        have hb3 : Below w1.heap.size w1 w3 := (hb12.alloc hb12.size _).grown hg2 (hbs _) (fun k h => (HO2.out.lt k h).1)
        have HO3 : Hid (w3.ownsRow w1.heap.size 3 1 v2 (P (J + 1)).length ((P (J + 1)).map (Value.int .i64))) := by
          have h1 := hown2
          rw [HPN.out, List.map_append, List.length_append]
          exact h1
        clear hown2 hg2 hnew hbs
        go_wp2_with fail
        go_roundw
        case rel => exact ⟨hb3, J + 1, by omega, by omega, by go_num, by rw [HX.out], HO3.out⟩
        case measure => simp [intOf]; omega
    · obtain rfl : J = n + 1 := by omega
      have hd : decide (((n : Int) + 1) ≤ (n : Int)) = false := by simp; omega
      have hI : Ints wr u6 (P (n + 1)) := ints_of_owns hown
      have HI : Hid (Ints wr u6 (P (n + 1))) := hI
      have hl := HLP.out (n + 1)
      clear hI hown
      go_wp2_with fail
      refine (HPA.out _).mono ?_
      rintro e w2 ⟨v, rfl, hv, hb2⟩
      have hs := sameIntsB_any v u6 _ _ w2 hv (HI.out.later hb2) (by omega) (by omega)
      rw [decide_eq_true rfl] at hs
      clear hv
      go_wp2_with fail
      refine hs.mono ?_
      rintro e w3 ⟨rfl, hb3⟩
      clear hs
      go_wp2
      go_ret
      exact ⟨rfl, below_then (below_then hb1 hb) (below_then hb2 hb3)⟩

/-- where a key was with one bucket less -/
def lastX (k J : Nat) : Int := if J = 1 then -1 else ((Lh.jb k (J - 1) : Nat) : Int)
theorem grows_step (k J : Nat) (hJ : 1 ≤ J) : (((Lh.jb k J : Nat) : Int) = lastX k J ∧ Lh.jp k (Lh.jlen k (J + 1 - 1)) = Lh.jp k (Lh.jlen k (J - 1))) ∨
    (((Lh.jb k J : Nat) : Int) ≠ lastX k J ∧ Lh.jb k J + 1 = J ∧ Lh.jp k (Lh.jlen k (J + 1 - 1)) = Lh.jp k (Lh.jlen k (J - 1)) ++ [((Lh.jb k J : Nat) : Int)]) := by
  obtain ⟨n, rfl⟩ : ∃ n, J = n + 1 := ⟨J - 1, by omega⟩
  simp only [Nat.add_sub_cancel]
  rcases Lh.jlen_step k n with ⟨h1, h2⟩ | ⟨h1, h2⟩
  · have hn : n ≠ 0 := fun e => by
      subst e
      rw [Lh.jlen_one] at h1
      simp [Lh.jlen] at h1
    refine Or.inl ⟨?_, by rw [h1]⟩
    unfold lastX
    rw [if_neg (by omega), Nat.add_sub_cancel]
    unfold Lh.jb
    rw [h1]
  · have hb : Lh.jb k (n + 1) = n := by
      unfold Lh.jb
      rw [h1, Nat.add_sub_cancel, h2]
    refine Or.inr ⟨?_, by rw [hb], ?_⟩
    · rw [hb]
      unfold lastX
      by_cases e : n = 0
      · subst e; simp
      · rw [if_neg (by omega), Nat.add_sub_cancel]
        have := Lh.jb_lt (k := k) (n := n) (by omega)
        omega
    · rw [h1, Lh.jp_snoc, h2, hb]

set_option maxHeartbeats 1000000 in
theorem jg_out (k : Nat) (x : Int) (w : World) (h : x < 1 ∨ 300 < x) :
    Calls Tryd.prog 4 #[.int .u64 (k : Nat), .int .i64 x] w fun e w' => e = .returned (.bool true) ∧ Below w.heap.size w w' := by
  by_cases h1 : x < 1
  · have d1 : decide (x < 1) = true := by simpa using h1
    clear h h1
    go_enter Tryd.func4, Tryd.ntmps4
    go_wp2_with fail
    refine (jumped_any _).mono ?_
    rintro e w1 ⟨rfl, hb1⟩
    go_wp2
    go_ret
    exact ⟨rfl, hb1⟩
  · have d1 : decide (x < 1) = false := by simp; omega
    have d2 : decide (300 < x) = true := by simp; omega
    clear h h1
    go_enter Tryd.func4, Tryd.ntmps4
    go_wp2_with fail
    refine (jumped_any _).mono ?_
    rintro e w1 ⟨rfl, hb1⟩
    go_wp2
    go_ret
    exact ⟨rfl, hb1⟩

theorem jgrows_any (k : Nat) (x : Int) (w : World) :
    Calls Tryd.prog 4 #[.int .u64 (k : Nat), .int .i64 x] w fun e w' => e = .returned (.bool true) ∧ Below w.heap.size w w' := by
  by_cases h : x < 1 ∨ 300 < x
  · exact jg_out k x w h
  · obtain ⟨n, rfl⟩ := Int.eq_ofNat_of_zero_le (show 0 ≤ x by omega)
    exact jg_core k n w (by omega) (by omega) (Lh.jb k) (lastX k) (fun J => Lh.jp k (Lh.jlen k (J - 1))) rfl rfl (fun J hJ => by unfold lastX; rw [if_neg (by omega), Nat.add_sub_cancel]) (fun J hJ => Lh.jb_lt hJ)
      (grows_step k) (fun J => by rw [Lh.jp_length]; exact Nat.le_trans (Lh.jlen_le k _) (by omega)) (fun J W h1 h2 => bucket_good k J W h1 (by omega))
      (fun W => (path_good k n W (by omega) (by omega)).mono fun e w' ⟨v, h1, h2, h3⟩ => ⟨v, h1, ints_of_owns h2, h3⟩)
end Go.Proofs.YteehhglhlapcbabDoor
