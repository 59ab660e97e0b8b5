/- The reference's PathOf; the landed Shares. -/
import Derived.Test.YteehhglhlapcbabDoorJ1
import Derived.Test.YteehhglhlapcbabDoorKeysI
namespace Go.Proofs.YteehhglhlapcbabDoor
open Go.RowKit

set_option maxHeartbeats 2000000 in
theorem pathOf_core (K A : Nat → Nat) (n m : Nat) (w : World) (hn1 : 1 ≤ n) (hn : n ≤ 1048576) (h0 : A 0 = 0) (hmn : m ≤ n) (h1 : ∀ t, t < m → A t < n) (h2 : n ≤ A m) (hr : ∀ t, A t + 1 ≤ A (t + 1)) (hkl : ∀ t, K (t + 1) < 18446744073709551616)
    (hk : ∀ t, IntKind.u64.wrap (IntKind.u64.wrap ((K t : Int) * 2862933555777941757) + 1) = ((K (t + 1) : Nat) : Int)) (ha : ∀ t, A (t + 1) = (A t + 1) * 2147483648 / (K (t + 1) / 8589934592 + 1))
    (P : Nat → List Int) (hp0 : P 0 = []) (hps : ∀ t, P (t + 1) = P t ++ [((A t : Nat) : Int)]) :
    Calls Tryd.prog 11 #[.int .u64 (K 0 : Nat), .int .i64 (n : Nat)] w fun e w' => ∃ v, e = .returned (.tuple #[v, .int .i64 0]) ∧ w'.ownsRow w.heap.size 3 1 v m ((P m).map (Value.int .i64)) ∧ Below w.heap.size w w' := by
  obtain ⟨i, hi, hz0, hz1, hz2⟩ := info_parts infoI
  have d1 : decide ((n : Int) < 1) = false := by simp; omega
  have d2 : decide (1048576 < (n : Int)) = false := by simp; omega
  have H1 : Hid (∀ t, t < m → A t < n) := h1
  have H2 : Hid (n ≤ A m) := h2
  have HR : Hid (∀ t, A t + 1 ≤ A (t + 1)) := hr
  have HKL : Hid (∀ t, K (t + 1) < 18446744073709551616) := hkl
  have HK : Hid (∀ t, IntKind.u64.wrap (IntKind.u64.wrap ((K t : Int) * 2862933555777941757) + 1) = ((K (t + 1) : Nat) : Int)) := hk
  have HA : Hid (∀ t, A (t + 1) = (A t + 1) * 2147483648 / (K (t + 1) / 8589934592 + 1)) := ha
  have H0 : Hid (A 0 = 0) := h0
  have HP0 : Hid (P 0 = []) := hp0
  have HPS : Hid (∀ t, P (t + 1) = P t ++ [((A t : Nat) : Int)]) := hps
  clear h0 h1 h2 hr hkl hk ha hp0 hps
  go_enter Tryd.func11, Tryd.ntmps11
  go_wp2_with fail
  go_loopw [0, 6, 8] (fun ky v a W => Below w.heap.size w W ∧ ∃ t : Nat, t ≤ m ∧ ky = .int .u64 (K t : Nat) ∧ a = .int .i64 (A t : Nat) ∧ W.ownsRow w.heap.size 3 1 v t ((P t).map (Value.int .i64))) (fun _ _ a _ => n - (intOf a).toNat)
  case atStart => exact ⟨Below.refl _ _, 0, Nat.zero_le _, rfl, by rw [H0.out]; rfl, by rw [HP0.out]; exact World.ownsRow_nil _ _ _ _⟩
  case round =>
    obtain ⟨hb, t, ht, rfl, rfl, hown⟩ := hrel
    by_cases hlt : t < m
    · have hal := H1.out t hlt
      have hd : decide (A t < n) = true := by simpa using hal
      have hrt := HR.out t
      have hkq := HKL.out t
      have hkw := HK.out t
      have HAT : Hid (A (t + 1) = (A t + 1) * 2147483648 / (K (t + 1) / 8589934592 + 1)) := HA.out t
      have HPT : Hid (P (t + 1) = P t ++ [((A t : Nat) : Int)]) := HPS.out t
      have hmx : t + 1 ≤ maxLen := by unfold maxLen; omega
      have hbs : ∀ q, w.heap.size ≤ (wr.alloc q).heap.size := fun q => by
        have h1 : (wr.alloc q).heap.size = wr.heap.size + 1 := by simp
        have := hb.size
        omega
      have hnew := cell_one_new wr (.int .i64 (A t : Nat)) 3
      have HO : Hid (wr.ownsRow w.heap.size 3 1 u6 t ((P t).map (Value.int .i64))) := hown
      clear hown
      have hx : A t ≤ 1048576 := by omega
      have e4 : (((K (t + 1) : Nat) : Int) / 8589934592 + 1 == 0) = false := by rw [beq_eq_false_iff_ne]; omega
      go_wp2_with (at_builtin; refine wpList_append_own _ rfl _ _ 24 rfl w.heap.size 3 i _ 1 8 Tryd.underlying24 hi hz0 hz1 hz2 rfl (by decide) _ t _ rfl (HO.out.alloc _) ⟨wr.heap.size, 0, none⟩ 1 1 [.int .i64 (A t : Nat)] rfl rfl hnew (ints_oneCell1 _) hmx (by omega) (hbs _) ?_)
      intro v2 w3 hown2 hg2 _
      have hb3 : Below w.heap.size w w3 := (hb.alloc hb.size _).grown hg2 (hbs _) (fun k h => (HO.out.lt k h).1)
      have HO2 : Hid (w3.ownsRow w.heap.size 3 1 v2 (t + 1) ((P (t + 1)).map (Value.int .i64))) := by
        have h1 := hown2
        rw [HPT.out, List.map_append]
        exact h1
      clear hown2 hg2 hnew hbs
      go_wp2_with fail
      have hAI : ((A t : Int) + 1) * 2147483648 / ((K (t + 1) : Int) / 8589934592 + 1) = ((A (t + 1) : Nat) : Int) := by rw [HAT.out]; simp
      rw [hAI]
      refine ⟨⟨hb3, t + 1, by omega, rfl, rfl, HO2.out⟩, ?_⟩
      simp [intOf]
      omega
    · obtain rfl : t = m := by omega
      have h2 := H2.out
      have hd : decide (A t < n) = false := by simpa using h2
      clear h2
      have HO : Hid (wr.ownsRow w.heap.size 3 1 u6 t ((P t).map (Value.int .i64))) := hown
      clear hown
      go_wp2
      go_ret2
      exact ⟨_, rfl, HO.out, hb⟩
theorem pathOf_good (k n : Nat) (w : World) (hn1 : 1 ≤ n) (hn : n ≤ 1048576) :
    Calls Tryd.prog 11 #[.int .u64 (k : Nat), .int .i64 (n : Nat)] w fun e w' => ∃ v, e = .returned (.tuple #[v, .int .i64 0]) ∧ w'.ownsRow w.heap.size 3 1 v (Lh.jlen k n) ((Lh.jp k (Lh.jlen k n)).map (Value.int .i64)) ∧ Below w.heap.size w w' :=
  pathOf_core (Lh.jky k) (Lh.jat k) n (Lh.jlen k n) w hn1 hn (Lh.jat_zero k) (Lh.jlen_le k n) (fun _ h => Lh.jlen_below.1 h) (Lh.jlen_spec k n).2 (Lh.jat_rise k) (fun t => by rw [Lh.jky_succ]; exact Lh.jk_lt _)
    (fun t => by rw [jk_wrap, Lh.jky_succ]) (fun t => by rw [Lh.jat_succ]; rfl) (Lh.jp k) (Lh.jp_zero k) (Lh.jp_snoc k)
set_option maxHeartbeats 1000000 in
theorem pathOf_bad (k : Nat) (x : Int) (w : World) (h : x < 1 ∨ 1048576 < x) :
    Calls Tryd.prog 11 #[.int .u64 (k : Nat), .int .i64 x] w fun e w' => e = .returned (.tuple #[.slice none 0 0, .int .i64 2]) ∧ w' = w := by
  by_cases h1 : x < 1
  · have d1 : decide (x < 1) = true := by simpa using h1
    clear h h1
    go_enter Tryd.func11, Tryd.ntmps11
    go_wp2
    go_ret2
    exact ⟨rfl, rfl⟩
  · have d1 : decide (x < 1) = false := by simp; omega
    have d2 : decide (1048576 < x) = true := by simp; omega
    clear h h1
    go_enter Tryd.func11, Tryd.ntmps11
    go_wp2
    go_ret2
    exact ⟨rfl, rfl⟩

set_option maxRecDepth 100000 in
set_option maxHeartbeats 2000000 in
theorem shares_good (b o c : Nat) (ks : List Nat) (n : Nat) (w : World) (hx : ∀ k (h : k < ks.length), w.cell? ⟨b, o + k, none⟩ = some (.int .u64 (ks[k] : Nat))) (hl : ks.length ≤ 500) (hn1 : 1 ≤ n) (hn : n ≤ 500) :
    Calls Tryd.prog 7 #[.slice (some ⟨b, o, none⟩) ks.length c, .int .i64 (n : Nat)] w fun e w' => ∃ g, e = .returned (.tuple #[.slice (some ⟨g, 0, none⟩) n n, .nilIface]) ∧ w.heap.size ≤ g ∧ IntRow w' g (Lh.jsh ks n) ∧ Below w.heap.size w w' := by
  obtain ⟨i, hi, hz0, hz1, hz2⟩ := info_parts infoI
  have HL : Hid (∀ k (h : k < ks.length), w.cell? ⟨b, o + k, none⟩ = some (.int .u64 (ks[k] : Nat))) := hx
  clear hx
  have d1 : decide (500 < (ks.length : Int)) = false := by simp; omega
  have hbyt : i.bytes * n ≤ 281474976710656 := by rw [hz2]; omega
  have hmax : n ≤ maxLen := by unfold maxLen; omega
  go_enter Tryd.func7, Tryd.ntmps7
  go_wp2_with fail
  refine (from_true (n : Nat) 500 _ (by omega) (by omega)).mono ?_
  rintro e w' ⟨rfl, rfl⟩
  go_wp2_with (at_make; refine wpList_make_full _ rfl _ _ 24 rfl w'.heap.size 3 i _ 1 Tryd.underlying24 hi hz0 hz1 _ _ _ _ n rfl rfl rfl rfl hbyt hmax (Nat.le_refl _) ?_)
  intro w2 hown hgrow
  have hb2 : Below w'.heap.size w' w2 := below_grown hgrow (fun k h => by cases h)
  rw [made_ints2, ← Lh.jsh_nil] at hown
  have hrow0 := IntRow.of_owns hown
  clear hown hgrow
  obtain ⟨g, hgg⟩ : ∃ g, w'.heap.size = g := ⟨_, rfl⟩
  rw [hgg] at hrow0
  rw [hgg]
  have hgle : w'.heap.size ≤ g := by omega
  clear hgg
  go_wp2_with fail
  go_loopw [22] (fun t W => Below w'.heap.size w' W ∧ ∃ k : Nat, k ≤ ks.length ∧ t = .int .i64 k ∧ IntRow W g (Lh.jsh (ks.take k) n)) (fun t _ => ks.length - (intOf t).toNat)
  case atStart => exact ⟨hb2, 0, Nat.zero_le _, rfl, hrow0⟩
  case round =>
    obtain ⟨hb, k, hk, rfl, hrow⟩ := hrel
    have HR : Hid (IntRow wr g (Lh.jsh (ks.take k) n)) := hrow
    clear hrow0 hb2 hrow
    by_cases hlt : k < ks.length
    · have cx := below_cell hb (HL.out k hlt)
      have hd : decide ((k : Int) < (ks.length : Int)) = true := by simp; omega
      have HS : Hid (Lh.jsh (ks.take (k + 1)) n = (Lh.jsh (ks.take k) n).set (Lh.jb ks[k] n) ((((ks.take k).map fun k => Lh.jb k n).count (Lh.jb ks[k] n) : Nat) + 1 : Int)) := by
        have h1 := Lh.jsh_snoc (ks.take k) n ks[k]
        rw [← List.take_succ_eq_append_getElem hlt] at h1
        exact h1
      have hcl : ((ks.take k).map fun k => Lh.jb k n).count (Lh.jb ks[k] n) ≤ 500 := Nat.le_trans List.count_le_length (by simp; omega)
      have hy := Lh.jb_lt (k := ks[k]) hn1
      have hlast := fun W => last_any ks[k] n W hn1 (by omega)
      have hget : ∀ (h : Lh.jb ks[k] n < (Lh.jsh (ks.take k) n).length), (Lh.jsh (ks.take k) n)[Lh.jb ks[k] n] = ((((ks.take k).map fun k => Lh.jb k n).count (Lh.jb ks[k] n) : Nat) : Int) := fun h => Lh.jsh_get _ _ h
      have hlen : (Lh.jsh (ks.take k) n).length = n := Lh.jsh_length _ _
      generalize ((ks.take k).map fun k => Lh.jb k n).count (Lh.jb ks[k] n) = q at *
      generalize Lh.jb ks[k] n = y at *
      generalize ks[k] = kk at *
      generalize Lh.jsh (ks.take k) n = S at *
      have HG : Hid (∀ (h : y < S.length), S[y] = ((q : Nat) : Int)) := hget
      have HLE : Hid (S.length = n) := hlen
      clear hget hlen
      have hyi : (y : Int) < (n : Int) := by omega
      go_wp2_with fail
      refine (hlast _).mono ?_
      rintro e w3 ⟨rfl, hb3⟩
      have hrow3 := HR.out.later hb3
      have hyl : y < S.length := by rw [HLE.out]; exact hy
      have cy := hrow3.cell hyl
      rw [HG.out hyl] at cy
      have fy := hrow3.frozen y
      have HR3 : Hid (IntRow w3 g S) := hrow3
      have hbw3 : Below w'.heap.size w' w3 := hb.trans (hb3.mono hb.size)
      clear hrow3 hlast hyl cx
      go_wp2_with fail
      go_roundw
      case rel =>
        refine ⟨hbw3.setCell hgle _, k + 1, by omega, by go_num, ?_⟩
        rw [HS.out]
        exact HR3.out.set y _
      case measure => simp [intOf]; omega
    · have hd : decide ((k : Int) < (ks.length : Int)) = false := by simp; omega
      have HFI : Hid (IntRow wr g (Lh.jsh ks n)) := by
        have h1 := HR.out
        rw [List.take_of_length_le (by omega)] at h1
        exact h1
      go_wp2
      go_ret2
      exact ⟨g, rfl, hgle, HFI.out, hb⟩
set_option maxRecDepth 100000 in
set_option maxHeartbeats 2000000 in
theorem shares_zero (p : Option Addr) (c : Nat) (n : Nat) (w : World) (hn1 : 1 ≤ n) (hn : n ≤ 500) :
    Calls Tryd.prog 7 #[.slice p 0 c, .int .i64 (n : Nat)] w fun e w' => ∃ g, e = .returned (.tuple #[.slice (some ⟨g, 0, none⟩) n n, .nilIface]) ∧ w.heap.size ≤ g ∧ IntRow w' g (Lh.jsh [] n) ∧ Below w.heap.size w w' := by
  obtain ⟨i, hi, hz0, hz1, hz2⟩ := info_parts infoI
  have hbyt : i.bytes * n ≤ 281474976710656 := by rw [hz2]; omega
  have hmax : n ≤ maxLen := by unfold maxLen; omega
  go_enter Tryd.func7, Tryd.ntmps7
  go_wp2_with fail
  refine (from_true (n : Nat) 500 _ (by omega) (by omega)).mono ?_
  rintro e w' ⟨rfl, rfl⟩
  go_wp2_with (at_make; refine wpList_make_full _ rfl _ _ 24 rfl w'.heap.size 3 i _ 1 Tryd.underlying24 hi hz0 hz1 _ _ _ _ n rfl rfl rfl rfl hbyt hmax (Nat.le_refl _) ?_)
  intro w2 hown hgrow
  have hb2 : Below w'.heap.size w' w2 := below_grown hgrow (fun k h => by cases h)
  rw [made_ints2, ← Lh.jsh_nil] at hown
  have HR : Hid (IntRow w2 w'.heap.size (Lh.jsh [] n)) := IntRow.of_owns hown
  clear hown hgrow
  go_wp2_with fail
  refine wp_loop_rounds 1 ?_
  rw [rounds_succ]
  go_wp2
  go_ret2
  exact ⟨_, rfl, Nat.le_refl _, HR.out, hb2⟩
/-- Shares where all is right. -/
theorem shares_fine (v : Value) (ks : List Nat) (n : Nat) (w : World) (hv : Keys1 w v ks) (hl : ks.length ≤ 500) (hn1 : 1 ≤ n) (hn : n ≤ 500) :
    Calls Tryd.prog 7 #[v, .int .i64 (n : Nat)] w fun e w' => ∃ g, e = .returned (.tuple #[.slice (some ⟨g, 0, none⟩) n n, .nilIface]) ∧ w.heap.size ≤ g ∧ IntRow w' g (Lh.jsh ks n) ∧ Below w.heap.size w w' := by
  rcases hv with ⟨rfl, rfl | ⟨a, c, rfl⟩⟩ | ⟨b, o, c, rfl, _, hx⟩
  · exact shares_zero none 0 n w hn1 hn
  · exact shares_zero (some a) c n w hn1 hn
  · exact shares_good b o c ks n w hx hl hn1 hn
set_option maxHeartbeats 2000000 in
theorem shares_bad (a : Nat → Addr) (p : Option Addr) (m c : Nat) (x : Int) (w : World) (he : Errs1 a w) (hm : m < 1000000) (h : 500 < m ∨ x < 1 ∨ 500 < x) :
    Calls Tryd.prog 7 #[.slice p m c, .int .i64 x] w fun e w' => e = .returned (.tuple #[.slice none 0 0, .iface 84 (.pointer (some (a 1)))]) ∧ Below w.heap.size w w' := by
  have s1 := he.s1
  by_cases h1 : 500 < m
  · have d1 : decide (500 < (m : Int)) = true := by simp; omega
    clear h h1
    go_enter Tryd.func7, Tryd.ntmps7
    go_wp2_with fail
    go_quiet (fail)
    go_wp2
    go_ret2
    exact ⟨rfl, below_drewN (Below.refl _ _) nq⟩
  · have d1 : decide (500 < (m : Int)) = false := by simp; omega
    have hf := fun W => from_false x 500 W (by omega)
    clear h h1
    go_enter Tryd.func7, Tryd.ntmps7
    go_wp2_with fail
    refine (hf _).mono ?_
    rintro e w' ⟨rfl, rfl⟩
    clear hf
    go_wp2_with fail
    go_quiet (fail)
    go_wp2
    go_ret2
    exact ⟨rfl, below_drewN (Below.refl _ _) nq⟩
end Go.Proofs.YteehhglhlapcbabDoor
