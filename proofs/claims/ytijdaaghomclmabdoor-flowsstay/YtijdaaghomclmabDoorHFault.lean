/- The reference's HostsFault, and LongHosts. -/
import Derived.Test.YtijdaaghomclmabDoorCheck
namespace Go.Proofs.YtijdaaghomclmabDoor
open Go.RowKit

theorem bare_any (n : Int) (w : World) : Calls Tryd.prog 62 #[.int .i64 n] w fun e w' => e = .returned (.agg #[.int .i64 n, .int .i64 (-1)]) ∧ Below w.heap.size w w' := by
  go_enter Tryd.func62, Tryd.ntmps62
  go_wp2
  exact bodyPost_ret (v := .agg #[.int .i64 n, .int .i64 (-1)]) (by simp [results, Tryd.results62, go_sem]) rfl ⟨rfl, (Below.refl _ _).alloc (Nat.le_refl _) _⟩
theorem fine_any (w : World) : Calls Tryd.prog 118 #[] w fun e w' => e = .returned (.agg #[.int .i64 0, .int .i64 (-1)]) ∧ Below w.heap.size w w' := by
  go_enter Tryd.func118, Tryd.ntmps118
  go_wp2
  exact bodyPost_ret (v := .agg #[.int .i64 0, .int .i64 (-1)]) (by simp [results, Tryd.results118, go_sem]) rfl ⟨rfl, (Below.refl _ _).alloc (Nat.le_refl _) _⟩

set_option maxHeartbeats 2000000 in
theorem hfault_core (b o cap : Nat) (xs : List ByteArray) (w : World) (c : Nat) (pl : Int) (hx : ∀ k (h : k < xs.length), w.cell? ⟨b, o + k, none⟩ = some (.string xs[k]))
    (hf : IsFault xs c pl) (h12 : ¬ 12 < xs.length) (hs : ∀ k (h : k < xs.length), (xs[k]).size ≤ 1000000) :
    Calls Tryd.prog 77 #[.slice (some ⟨b, o, none⟩) xs.length cap] w fun e w' => e = .returned (.agg #[.int .i64 c, .int .i64 pl]) ∧ Below w.heap.size w w' := by
  have HF : Hid _ := hf
  have HS : Hid _ := hs
  have e12 : decide (12 < (xs.length : Int)) = false := by simp; omega
  have hba : ∀ q, Below w.heap.size w (w.alloc q) := fun q => (Below.refl _ _).alloc (Nat.le_refl _) _
  have HX : Hid (∀ q k (h : k < xs.length), (w.alloc q).cell? ⟨b, o + k, none⟩ = some (.string xs[k])) := fun q k h => below_cell (hba q) (hx k h)
  clear hx hf hs hba
  go_enter Tryd.func77, Tryd.ntmps77
  go_wp2_with fail
  have hbW := (Below.refl w.heap.size w).alloc (Nat.le_refl _) (.cells #[.int .i64 0, .int .i64 0] 46)
  have HXW := HX.out (.cells #[.int .i64 0, .int .i64 0] 46)
  go_loopw [3] (fun t W => W = w.alloc (.cells #[.int .i64 0, .int .i64 0] 46) ∧ ∃ k : Nat, k ≤ xs.length ∧ t = .int .i64 k ∧ ∀ j, j < k → ∀ hj : j < xs.length, Good xs j hj) (fun t _ => xs.length - (intOf t).toNat)
  case atStart => exact ⟨rfl, 0, Nat.zero_le _, rfl, fun j h => absurd h (by omega)⟩
  case round =>
    obtain ⟨rfl, k, hk, rfl, hpre⟩ := hrel
    have HP : Hid _ := hpre
    clear hpre
    have HXX : Hid _ := HXW
    clear HXW
    by_cases hlt : k < xs.length
    · have cx := HXX.out k hlt
      have hsz := HS.out k hlt
      cases hn : Lh.isNm xs[k] with
      | false =>
        have HC : Hid _ := fault_name HF.out h12 hlt HP.out hn
        have HN : Hid _ := hn
        clear hn
        go_wp2_with fail
        refine (refName_any _ _ hsz).mono ?_
        rintro e w1 ⟨rfl, rfl⟩
        rw [HN.out]
        go_wp2
        exact bodyPost_ret (v := .agg #[.int .i64 c, .int .i64 pl]) (by rw [HC.out.1, HC.out.2]; simp [results, Tryd.results77, go_sem]) rfl ⟨rfl, (Below.refl _ _).alloc (Nat.le_refl _) _⟩
      | true =>
        have HN : Hid _ := hn
        cases hme : Lh.mem xs[k] (xs.take k) with
        | true =>
          have HC : Hid _ := fault_exist HF.out h12 hlt HP.out hn hme
          have HM : Hid _ := hme
          clear hn hme
          go_wp2_with fail
          refine (refName_any _ _ hsz).mono ?_
          rintro e w1 ⟨rfl, rfl⟩
          rw [HN.out]
          go_wp2_with fail
          refine (refIndex_any b o cap xs k hlt _ HXX.out (by omega)).mono ?_
          rintro e w2 ⟨⟨j, rfl, hj⟩, rfl⟩
          have hj' : decide (j < (k : Int)) = true := by rw [hj, HM.out]
          clear hj
          go_wp2
          exact bodyPost_ret (v := .agg #[.int .i64 c, .int .i64 pl]) (by rw [HC.out.1, HC.out.2]; simp [results, Tryd.results77, go_sem]) rfl ⟨rfl, (Below.refl _ _).alloc (Nat.le_refl _) _⟩
        | false =>
          have HM : Hid _ := hme
          clear hn hme
          go_wp2_with fail
          refine (refName_any _ _ hsz).mono ?_
          rintro e w1 ⟨rfl, rfl⟩
          rw [HN.out]
          go_wp2_with fail
          refine (refIndex_any b o cap xs k hlt _ HXX.out (by omega)).mono ?_
          rintro e w2 ⟨⟨j, rfl, hj⟩, rfl⟩
          have hj' : decide (j < (k : Int)) = false := by rw [hj, HM.out]
          clear hj
          go_wp2
          refine ⟨⟨by trivial, k + 1, by omega, by go_num, fun j hj hl => ?_⟩, by simp [intOf]; omega⟩
          by_cases e : j = k
          · subst e; exact ⟨HN.out, HM.out⟩
          · exact HP.out j (by omega) hl
    · have HC : Hid _ := fault_none HF.out h12 (fun j hj => HP.out j (by omega) hj)
      go_wp2_with fail
      refine (fine_any _).mono ?_
      rintro e w1 ⟨rfl, hb1⟩
      have c0 : w1.cell? ⟨w.heap.size, 0, none⟩ = some (.int .i64 0) := below_cell hb1 (by simp)
      have c1 : w1.cell? ⟨w.heap.size, 1, none⟩ = some (.int .i64 0) := below_cell hb1 (by simp)
      have f0 : w1.frozen? ⟨w.heap.size, 0, none⟩ = false := by rw [hb1.frozen (by simp)]; simp
      have f1 : w1.frozen? ⟨w.heap.size, 1, none⟩ = false := by rw [hb1.frozen (by simp)]; simp
      have hbz : Below w.heap.size w w1 := hbW.trans (hb1.mono (by simp))
      clear hb1 hbW
      go_wp2
      exact bodyPost_ret (v := .agg #[.int .i64 c, .int .i64 pl]) (by rw [HC.out.1, HC.out.2]; simp [results, Tryd.results77, go_sem, c0, c1]) rfl ⟨rfl, (hbz.setCell (Nat.le_refl _) _).setCell (Nat.le_refl _) _⟩

set_option maxHeartbeats 2000000 in
theorem hfault_long (p : Option Addr) (n cap : Nat) (w : World) (h12 : 12 < n) (_hm : n < 1000000) :
    Calls Tryd.prog 77 #[.slice p n cap] w fun e w' => e = .returned (.agg #[.int .i64 2, .int .i64 (-1)]) ∧ Below w.heap.size w w' := by
  have e12 : decide (12 < (n : Int)) = true := by simp; omega
  have hbW := (Below.refl w.heap.size w).alloc (Nat.le_refl _) (.cells #[.int .i64 0, .int .i64 0] 46)
  go_enter Tryd.func77, Tryd.ntmps77
  go_wp2_with fail
  refine (bare_any _ _).mono ?_
  rintro e w1 ⟨rfl, hb1⟩
  have c0 : w1.cell? ⟨w.heap.size, 0, none⟩ = some (.int .i64 0) := below_cell hb1 (by simp)
  have c1 : w1.cell? ⟨w.heap.size, 1, none⟩ = some (.int .i64 0) := below_cell hb1 (by simp)
  have f0 : w1.frozen? ⟨w.heap.size, 0, none⟩ = false := by rw [hb1.frozen (by simp)]; simp
  have f1 : w1.frozen? ⟨w.heap.size, 1, none⟩ = false := by rw [hb1.frozen (by simp)]; simp
  have hbz : Below w.heap.size w w1 := hbW.trans (hb1.mono (by simp))
  clear hb1 hbW
  go_wp2
  exact bodyPost_ret (v := .agg #[.int .i64 2, .int .i64 (-1)]) (by simp [results, Tryd.results77, go_sem, c0, c1]) rfl ⟨rfl, (hbz.setCell (Nat.le_refl _) _).setCell (Nat.le_refl _) _⟩

set_option maxHeartbeats 2000000 in
theorem hfault_zero (p : Option Addr) (cap : Nat) (w : World) :
    Calls Tryd.prog 77 #[.slice p 0 cap] w fun e w' => e = .returned (.agg #[.int .i64 0, .int .i64 (-1)]) ∧ Below w.heap.size w w' := by
  have hbW := (Below.refl w.heap.size w).alloc (Nat.le_refl _) (.cells #[.int .i64 0, .int .i64 0] 46)
  go_enter Tryd.func77, Tryd.ntmps77
  go_wp2_with fail
  refine wp_loop_rounds 1 ?_
  rw [rounds_succ]
  go_wp2_with fail
  refine (fine_any _).mono ?_
  rintro e w1 ⟨rfl, hb1⟩
  have c0 : w1.cell? ⟨w.heap.size, 0, none⟩ = some (.int .i64 0) := below_cell hb1 (by simp)
  have c1 : w1.cell? ⟨w.heap.size, 1, none⟩ = some (.int .i64 0) := below_cell hb1 (by simp)
  have f0 : w1.frozen? ⟨w.heap.size, 0, none⟩ = false := by rw [hb1.frozen (by simp)]; simp
  have f1 : w1.frozen? ⟨w.heap.size, 1, none⟩ = false := by rw [hb1.frozen (by simp)]; simp
  have hbz : Below w.heap.size w w1 := hbW.trans (hb1.mono (by simp))
  clear hb1 hbW
  go_wp2
  exact bodyPost_ret (v := .agg #[.int .i64 0, .int .i64 (-1)]) (by simp [results, Tryd.results77, go_sem, c0, c1]) rfl ⟨rfl, (hbz.setCell (Nat.le_refl _) _).setCell (Nat.le_refl _) _⟩

/-- HostsFault of any list of texts. -/
theorem hfault_any (v : Value) (xs : List ByteArray) (w : World) (c : Nat) (pl : Int) (hv : Strs w v xs) (hf : IsFault xs c pl) (hs : ∀ k (h : k < xs.length), (xs[k]).size ≤ 1000000) (hm : xs.length < 1000000) :
    Calls Tryd.prog 77 #[v] w fun e w' => e = .returned (.agg #[.int .i64 c, .int .i64 pl]) ∧ Below w.heap.size w w' := by
  by_cases h12 : 12 < xs.length
  · obtain ⟨rfl, rfl⟩ := fault_long hf h12
    obtain ⟨p, cap, rfl⟩ := hv.slice
    exact hfault_long p _ cap w h12 hm
  · rcases hv with ⟨rfl, p, cap, rfl⟩ | ⟨b, o, cap, rfl, hcap, hx⟩
    · obtain ⟨rfl, rfl⟩ := fault_none hf h12 (fun j hj => absurd hj (by simp))
      exact hfault_zero p cap w
    · exact hfault_core b o cap xs w c pl hx hf h12 hs

set_option maxHeartbeats 1000000 in
theorem long_core (b o cap : Nat) (xs : List ByteArray) (w : World) (hx : ∀ k (h : k < xs.length), w.cell? ⟨b, o + k, none⟩ = some (.string xs[k])) (hs : ∀ k (h : k < xs.length), (xs[k]).size ≤ maxLen) (h30 : ¬ 30 < xs.length) :
    Calls Tryd.prog 20 #[.slice (some ⟨b, o, none⟩) xs.length cap] w fun e w' => (e = .returned (.int .i64 1) ∨ (e = .returned (.int .i64 0) ∧ ∀ k (h : k < xs.length), (xs[k]).size ≤ 60)) ∧ w' = w := by
  have HX : Hid _ := hx
  have HS : Hid _ := hs
  have e30 : decide (30 < (xs.length : Int)) = false := by simp; omega
  clear hx hs
  go_enter Tryd.func20, Tryd.ntmps20
  go_wp2
  go_loop [3] (fun t => ∃ k : Nat, k ≤ xs.length ∧ t = .int .i64 k ∧ ∀ j (h : j < xs.length), j < k → (xs[j]).size ≤ 60) (fun t => xs.length - (intOf t).toNat)
  case atStart => exact ⟨0, Nat.zero_le _, rfl, fun j _ h => absurd h (by omega)⟩
  case round =>
    obtain ⟨k, hk, rfl, hpre⟩ := hrel
    have HP : Hid _ := hpre
    clear hpre
    by_cases hlt : k < xs.length
    · have cx := HX.out k hlt
      have hsz := HS.out k hlt
      unfold maxLen at hsz
      by_cases h60 : 60 < (xs[k]).size
      · have e60 : decide (60 < ((xs[k]).size : Int)) = true := by simp; omega
        go_wp2
        go_ret
        exact ⟨Or.inl rfl, rfl⟩
      · have e60 : decide (60 < ((xs[k]).size : Int)) = false := by simp; omega
        go_wp2
        go_round
        case rel =>
          refine ⟨k + 1, by omega, by go_num, fun j h hj => ?_⟩
          by_cases e : j = k
          · subst e; omega
          · exact HP.out j h (by omega)
        case measure => simp [intOf]; omega
    · go_wp2
      go_ret
      exact ⟨Or.inr ⟨rfl, fun j h => HP.out j h (by omega)⟩, rfl⟩
set_option maxHeartbeats 1000000 in
theorem long_zero (p : Option Addr) (cap : Nat) (w : World) :
    Calls Tryd.prog 20 #[.slice p 0 cap] w fun e w' => e = .returned (.int .i64 0) ∧ w' = w := by
  go_enter Tryd.func20, Tryd.ntmps20
  go_wp2
  refine wp_loop_rounds 1 ?_
  rw [rounds_succ]
  go_wp2
  go_ret
  exact ⟨rfl, rfl⟩
set_option maxHeartbeats 1000000 in
theorem long_long (p : Option Addr) (n cap : Nat) (w : World) (h30 : 30 < n) (hm : n ≤ maxLen) :
    Calls Tryd.prog 20 #[.slice p n cap] w fun e w' => e = .returned (.int .i64 1) ∧ w' = w := by
  unfold maxLen at hm
  have e30 : decide (30 < (n : Int)) = true := by simp; omega
  go_enter Tryd.func20, Tryd.ntmps20
  go_wp2
  go_ret
  exact ⟨rfl, rfl⟩
/-- LongHosts: 1, or 0, and then the list is short. -/
theorem long_any (v : Value) (xs : List ByteArray) (w : World) (hv : Strs w v xs) (hs : ∀ k (h : k < xs.length), (xs[k]).size ≤ maxLen) (hm : xs.length ≤ maxLen) :
    Calls Tryd.prog 20 #[v] w fun e w' => (e = .returned (.int .i64 1) ∨ (e = .returned (.int .i64 0) ∧ xs.length ≤ 30 ∧ ∀ k (h : k < xs.length), (xs[k]).size ≤ 60)) ∧ w' = w := by
  by_cases h30 : 30 < xs.length
  · obtain ⟨p, cap, rfl⟩ := hv.slice
    exact (long_long p _ cap w h30 hm).mono fun e w' ⟨h1, h2⟩ => ⟨Or.inl h1, h2⟩
  · rcases hv with ⟨rfl, p, cap, rfl⟩ | ⟨b, o, cap, rfl, hcap, hx⟩
    · exact (long_zero p cap w).mono fun e w' ⟨h1, h2⟩ => ⟨Or.inr ⟨h1, by simp, fun k h => absurd h (by simp)⟩, h2⟩
    · refine (long_core b o cap xs w hx hs h30).mono fun e w' ⟨h1, h2⟩ => ⟨?_, h2⟩
      rcases h1 with h1 | ⟨h1, h3⟩
      · exact Or.inl h1
      · exact Or.inr ⟨h1, by omega, h3⟩
end Go.Proofs.YtijdaaghomclmabDoor
