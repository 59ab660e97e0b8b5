/- The landed Moves. -/
import Derived.Test.YtedbhahkldfmiaaDoorMake
namespace Go.Proofs.YtedbhahkldfmiaaDoor
open Go.RowKit

/-- whose slot it is -/
def owner (xs : List ByteArray) (n i : Nat) : ByteArray := Lh.nameAt xs ((Lh.tab xs n n).getD i 0).toNat
/-- how many of the first k slots have hosts of unlike names -/
def mv (xs ys : List ByteArray) (n k : Nat) : Nat := (List.range k).countP fun i => decide (owner xs n i ≠ owner ys n i)
theorem mv_zero (xs ys : List ByteArray) (n : Nat) : mv xs ys n 0 = 0 := rfl
theorem mv_le (xs ys : List ByteArray) (n k : Nat) : mv xs ys n k ≤ k := by
  have := List.countP_le_length (p := fun i => decide (owner xs n i ≠ owner ys n i)) (l := List.range k)
  simpa [mv] using this
theorem mv_same {xs ys : List ByteArray} {n k : Nat} (h : owner xs n k = owner ys n k) : mv xs ys n (k + 1) = mv xs ys n k := by
  unfold mv
  rw [List.range_succ, List.countP_append]
  simp [h]
theorem mv_other {xs ys : List ByteArray} {n k : Nat} (h : owner xs n k ≠ owner ys n k) : mv xs ys n (k + 1) = mv xs ys n k + 1 := by
  unfold mv
  rw [List.range_succ, List.countP_append]
  simp [h]
/-- a slot's number and name in memory -/
theorem slot_of {xs : List ByteArray} {n g : Nat} {W : World} (hp : Lh.Prm n) (h0 : 0 < xs.length) (hr : IntRow W g (Lh.tab xs n n)) {i : Nat} (hi : i < n) : ∃ j, ∃ hj : j < xs.length, W.cell? ⟨g, i, none⟩ = some (.int .i64 (j : Nat)) ∧ xs[j] = owner xs n i := by
  obtain ⟨j, hj, e⟩ := Lh.tab_full hp h0 hi
  have hl : i < (Lh.tab xs n n).length := by rw [Lh.tab_length]; exact hi
  refine ⟨j, hj, ?_, ?_⟩
  · rw [hr.cell hl, ← getD_at hl, e]
  · unfold owner
    rw [e, Int.toNat_natCast, Lh.nameAt_lt hj]

set_option maxHeartbeats 1000000 in
theorem moves_bad1 (a : Nat → Addr) (va vb : Value) (xs : List ByteArray) (n : Int) (w : World) (c : Nat) (pl : Int) (he : Errs a w) (hv : Strs1 w va xs) (hf : TabFault xs n c pl) (hc : c ≠ 0) (hn : -9223372036854775808 ≤ n ∧ n ≤ 9223372036854775807) (hsz : ∀ k (h : k < xs.length), (xs[k]).size ≤ 1000000) (hm : xs.length < 1000000) :
    Calls Tryd.prog 41 #[va, vb, .int .i64 n] w fun e w' => ∃ ev, e = .returned (.tuple #[.int .i64 0, ev]) ∧ ErrIs a w' c pl ev ∧ Below w.heap.size w w' := by
  have hmk := make_bad a va xs n w c pl he hv hf hc hn hsz hm
  clear he hv hf hsz
  go_enter Tryd.func41, Tryd.ntmps41
  go_wp2_with fail
  refine hmk.mono ?_
  rintro e w1 ⟨ev, rfl, hev, hb1⟩
  have HEV : Hid (ErrIs a w1 c pl ev) := hev
  obtain ⟨t, x, rfl⟩ := errIs_pos hev hc
  clear hev hmk
  go_wp2
  go_ret2
  exact ⟨_, rfl, HEV.out, hb1⟩

set_option maxHeartbeats 1000000 in
theorem moves_bad2 (a : Nat → Addr) (va vb : Value) (xs ys : List ByteArray) (n : Nat) (w : World) (c : Nat) (pl : Int) (he : Errs a w) (hv : Strs1 w va xs) (hv2 : Strs1 w vb ys) (h0 : 0 < xs.length) (hf1 : IsFault xs 0 (-1)) (hp : Lh.Prm n) (h5 : n ≤ 503) (hsz1 : ∀ k (h : k < xs.length), (xs[k]).size ≤ 300) (hf : TabFault ys n c pl) (hc : c ≠ 0) (hsz : ∀ k (h : k < ys.length), (ys[k]).size ≤ 1000000) (hm : ys.length < 1000000) :
    Calls Tryd.prog 41 #[va, vb, .int .i64 n] w fun e w' => ∃ ev, e = .returned (.tuple #[.int .i64 0, ev]) ∧ ErrIs a w' c pl ev ∧ Below w.heap.size w w' := by
  have hmk := make_good a va xs n w he hv h0 hf1 hsz1 hp h5
  have HMK2 : Hid (∀ W, Below w.heap.size w W → Calls Tryd.prog 31 #[vb, .int .i64 n] W fun e w' => ∃ ev, e = .returned (.tuple #[.slice none 0 0, ev]) ∧ ErrIs a w' c pl ev ∧ Below W.heap.size W w') := fun W hW => make_bad a vb ys n W c pl (he.later hW) (hv2.later hW) hf hc (by omega) hsz hm
  clear he hv hv2 hf hsz hf1 hsz1 hp
  go_enter Tryd.func41, Tryd.ntmps41
  go_wp2_with fail
  refine hmk.mono ?_
  rintro e w1 ⟨g1, rfl, hg1, hr1, hb1⟩
  clear hr1 hmk
  go_wp2_with fail
  refine (HMK2.out w1 hb1).mono ?_
  rintro e w2 ⟨ev, rfl, hev, hb2⟩
  have HEV : Hid (ErrIs a w2 c pl ev) := hev
  obtain ⟨t, x, rfl⟩ := errIs_pos hev hc
  clear hev
  go_wp2
  go_ret2
  exact ⟨_, rfl, HEV.out, below_then hb1 hb2⟩

set_option maxRecDepth 100000 in
set_option maxHeartbeats 2000000 in
theorem moves_good (a : Nat → Addr) (va vb : Value) (xs ys : List ByteArray) (n : Nat) (w : World) (he : Errs a w) (hv : Strs1 w va xs) (hv2 : Strs1 w vb ys) (h0 : 0 < xs.length) (h0' : 0 < ys.length) (hf1 : IsFault xs 0 (-1)) (hf2 : IsFault ys 0 (-1)) (hp : Lh.Prm n) (h5 : n ≤ 503) (hsz1 : ∀ k (h : k < xs.length), (xs[k]).size ≤ 300) (hsz2 : ∀ k (h : k < ys.length), (ys[k]).size ≤ 300) :
    Calls Tryd.prog 41 #[va, vb, .int .i64 n] w fun e w' => e = .returned (.tuple #[.int .i64 (mv xs ys n n : Nat), .nilIface]) ∧ Below w.heap.size w w' := by
  have hmk := make_good a va xs n w he hv h0 hf1 hsz1 hp h5
  have HMK2 : Hid (∀ W, Below w.heap.size w W → Calls Tryd.prog 31 #[vb, .int .i64 n] W fun e w' => ∃ g, e = .returned (.tuple #[.slice (some ⟨g, 0, none⟩) n n, .nilIface]) ∧ W.heap.size ≤ g ∧ IntRow w' g (Lh.tab ys n n) ∧ Below W.heap.size W w') := fun W hW => make_good a vb ys n W (he.later hW) (hv2.later hW) h0' hf2 hsz2 hp h5
  have HP : Hid (Lh.Prm n) := hp
  obtain ⟨_, h12, _⟩ := fault_zero hf1
  obtain ⟨_, h12', _⟩ := fault_zero hf2
  obtain ⟨b1, o1, c1, rfl, hx⟩ := strs1_pos hv h0
  obtain ⟨b2, o2, c2, rfl, hy⟩ := strs1_pos hv2 h0'
  have HX : Hid (∀ k (h : k < xs.length), w.cell? ⟨b1, o1 + k, none⟩ = some (.string xs[k])) := hx
  have HY : Hid (∀ k (h : k < ys.length), w.cell? ⟨b2, o2 + k, none⟩ = some (.string ys[k])) := hy
  clear he hv hv2 hf1 hf2 hsz1 hsz2 hp hx hy
  go_enter Tryd.func41, Tryd.ntmps41
  go_wp2_with fail
  refine hmk.mono ?_
  rintro e w1 ⟨g1, rfl, hg1, hr1, hb1⟩
  have HR1 : Hid (IntRow w1 g1 (Lh.tab xs n n)) := hr1
  clear hr1 hmk
  go_wp2_with fail
  refine (HMK2.out w1 hb1).mono ?_
  rintro e w2 ⟨g2, rfl, hg2, hr2, hb2⟩
  have HS1 : Hid (∀ W, Below w2.heap.size w2 W → ∀ i, i < n → ∃ j, ∃ hj : j < xs.length, W.cell? ⟨g1, i, none⟩ = some (.int .i64 (j : Nat)) ∧ xs[j] = owner xs n i) := fun W hW i hi => slot_of HP.out h0 ((HR1.out.later hb2).later hW) hi
  have HS2 : Hid (∀ W, Below w2.heap.size w2 W → ∀ i, i < n → ∃ j, ∃ hj : j < ys.length, W.cell? ⟨g2, i, none⟩ = some (.int .i64 (j : Nat)) ∧ ys[j] = owner ys n i) := fun W hW i hi => slot_of HP.out h0' (hr2.later hW) hi
  have HB : Hid (Below w.heap.size w w2) := below_then hb1 hb2
  clear hr2 HMK2 HR1 hb1 hb2
  go_wp2_with fail
  go_loopw [11, 32] (fun vm t W => Below w2.heap.size w2 W ∧ ∃ i : Nat, i ≤ n ∧ t = .int .i64 i ∧ vm = .int .i64 (mv xs ys n i : Nat)) (fun _ t _ => n - (intOf t).toNat)
  case atStart => exact ⟨Below.refl _ _, 0, Nat.zero_le _, rfl, rfl⟩
  case round =>
    obtain ⟨hb, i, hi, rfl, rfl⟩ := hrel
    by_cases hlt : i < n
    · obtain ⟨j1, hj1, c1', e1⟩ := HS1.out wr hb i hlt
      obtain ⟨j2, hj2, c2', e2⟩ := HS2.out wr hb i hlt
      have d1 := below_cell (below_then HB.out hb) (HX.out j1 hj1)
      have d2 := below_cell (below_then HB.out hb) (HY.out j2 hj2)
      have hii : (i : Int) < (n : Int) := by omega
      have hj1i : (j1 : Int) < (xs.length : Int) := by omega
      have hj2i : (j2 : Int) < (ys.length : Int) := by omega
      have hmle := mv_le xs ys n i
      have hd : decide ((i : Int) < (n : Int)) = true := by simp; omega
      rw [e1] at d1
      rw [e2] at d2
      by_cases heq : owner xs n i = owner ys n i
      · have HM : Hid (mv xs ys n (i + 1) = mv xs ys n i) := mv_same heq
        have hne : ((owner xs n i).toList != (owner ys n i).toList) = false := by rw [heq]; simp
        have hne2 : ((owner xs n i).toList == (owner ys n i).toList) = true := bytes_same heq
        clear heq e1 e2
        generalize owner xs n i = s1 at *
        generalize owner ys n i = s2 at *
        generalize mv xs ys n i = q at *
        go_wp2_with fail
        go_quiet (fail)
        go_wp2_with fail
        go_roundw
        case rel => exact ⟨below_drewN hb nq, i + 1, by omega, by go_num, by rw [HM.out]⟩
        case measure => simp [intOf]; omega
      · have HM : Hid (mv xs ys n (i + 1) = mv xs ys n i + 1) := mv_other heq
        have hne2 : ((owner xs n i).toList == (owner ys n i).toList) = false := bytes_parts heq
        have hne : ((owner xs n i).toList != (owner ys n i).toList) = true := by unfold bne; rw [hne2]; rfl
        clear heq e1 e2
        generalize owner xs n i = s1 at *
        generalize owner ys n i = s2 at *
        generalize mv xs ys n i = q at *
        go_wp2_with fail
        go_quiet (fail)
        go_wp2_with fail
        go_roundw
        case rel => exact ⟨below_drewN hb nq, i + 1, by omega, by go_num, by rw [HM.out]; rfl⟩
        case measure => simp [intOf]; omega
    · have hd : decide ((i : Int) < (n : Int)) = false := by simp; omega
      have hie : i = n := by omega
      subst hie
      go_wp2
      go_ret2
      exact ⟨rfl, below_then HB.out hb⟩
end Go.Proofs.YtedbhahkldfmiaaDoor
