/- JumpBuckets, too many keys. -/
import Derived.Test.YteehhglhlapcbabDoorJB0
namespace Go.Proofs.YteehhglhlapcbabDoor
open Go.RowKit

set_option maxRecDepth 100000 in
set_option maxHeartbeats 4000000 in
theorem jb_long (a : Nat → Addr) (p : Option Addr) (c : Nat) (ks : List Nat) (n : Nat) (w : World) (he : Errs a w) (hv : Keys1 w (.slice p ks.length c) ks) (hp : KeysAt w p ks) (hl1 : 500 < ks.length) (hl : ks.length ≤ 600) (hn1 : 1 ≤ n) (hn : n ≤ 1048576) :
    Calls Tryd.prog 3 #[.slice p ks.length c, .int .i64 (n : Nat)] w fun e w' => e = .returned (.bool true) ∧ Below w.heap.size w w' := by
  obtain ⟨i, hi, hz0, hz1, hz2⟩ := info_parts infoI
  have HE : Hid (Errs a w) := he
  have HV : Hid (Keys1 w (.slice p ks.length c) ks) := hv
  have HP : Hid (KeysAt w p ks) := hp
  clear he hv hp
  obtain ⟨m, hm⟩ : ∃ m, ks.length = m := ⟨_, rfl⟩
  have HM : Hid (ks.length = m) := hm
  rw [hm]
  rw [hm] at hl1 hl HV
  clear hm
  have e1 : decide (60 < (m : Int)) = true := by simp; omega
  have e1' : decide ((m : Int) ≤ 500) = false := by simp; omega
  have e2 : decide (600 < (m : Int)) = false := by simp; omega
  have e3 : decide (500 < (m : Int)) = true := by simp; omega
  have hbyt : i.bytes * 500 ≤ 281474976710656 := by rw [hz2]; decide
  have hmax : 500 ≤ maxLen := by unfold maxLen; decide
  go_enter Tryd.func3, Tryd.ntmps3
  go_wp2_with fail
  refine (jumped_any _).mono ?_
  rintro e w1 ⟨rfl, hb1⟩
  go_wp2_with fail
  refine (ownKeys_any _ ks w1 (HV.out.later hb1) (by rw [HM.out]; omega)).mono ?_
  rintro e w2 ⟨v2, rfl, hv2, hb2⟩
  obtain ⟨p2, c2, rfl, -⟩ := hv2.at
  go_wp2_with fail
  refine (shares_bad a p2 _ c2 (n : Nat) w2 (HE.out.later (below_then hb1 hb2)).one (by rw [HM.out]; omega) (by rw [HM.out]; omega)).mono ?_
  rintro e w3 ⟨rfl, hb3⟩
  have hbw3 : Below w.heap.size w w3 := below_then hb1 (below_then hb2 hb3)
  clear hv2 hb1 hb2 hb3
  go_wp2_with (at_make; refine wpList_make_full _ rfl _ _ 24 rfl w3.heap.size 3 i _ 1 Tryd.underlying24 hi hz0 hz1 _ _ _ _ 500 rfl rfl rfl rfl hbyt hmax (Nat.le_refl _) ?_)
  intro w4 hown hgrow
  have hbw4 : Below w.heap.size w w4 := below_then hbw3 (below_grown hgrow (fun k h => by cases h))
  clear hown hgrow hbw3
  go_wp2_with fail
  go_loopw [10] (fun t W => Below w.heap.size w W ∧ ∃ j : Nat, j ≤ m ∧ j ≤ 60 ∧ t = .int .i64 j) (fun t _ => 60 - (intOf t).toNat)
  case atStart => exact ⟨hbw4, 0, Nat.zero_le _, by omega, rfl⟩
  case round =>
    obtain ⟨hbw, j, hj, hj6, rfl⟩ := hrel
    by_cases hlt : j < m ∧ j < 60
    · have hlt' : j < ks.length := by rw [HM.out]; exact hlt.1
      have hlm := hlt.1
      have hl6 := hlt.2
      obtain ⟨b, o, hpp, hc⟩ := HP.out j hlt'
      subst hpp
      have HC : Hid (∀ W, Below wr.heap.size wr W → W.cell? ⟨b, o + j, none⟩ = some (.int .u64 (ks[j] : Nat))) := fun W hW => below_cell hW (below_cell hbw hc)
      have hj60 : (j : Int) < 60 := by omega
      have hji : (j : Int) < (m : Int) := by omega
      have hbk := fun W => bucket_good ks[j] n W hn1 (by omega)
      have hpa := fun W => path_good ks[j] n W hn1 (by omega)
      have hpo := fun W => pathOf_good ks[j] n W hn1 (by omega)
      have hlp := Lh.jlen_pos (k := ks[j]) hn1
      have hle := Lh.jlen_le ks[j] n
      have hpl : (Lh.jp ks[j] (Lh.jlen ks[j] n)).length = Lh.jlen ks[j] n := Lh.jp_length _ _
      have hpg : ∀ (h : Lh.jlen ks[j] n - 1 < (Lh.jp ks[j] (Lh.jlen ks[j] n)).length), (Lh.jp ks[j] (Lh.jlen ks[j] n))[Lh.jlen ks[j] n - 1] = ((Lh.jb ks[j] n : Nat) : Int) := fun h => Lh.jp_get _ _ h
      generalize Lh.jb ks[j] n = y at *
      generalize Lh.jp ks[j] (Lh.jlen ks[j] n) = PP at *
      generalize Lh.jlen ks[j] n = L at *
      generalize ks[j] = kk at *
      obtain ⟨L, rfl⟩ : ∃ l, L = l + 1 := ⟨L - 1, by omega⟩
      simp only [Nat.add_sub_cancel] at hpg
      have HPG : Hid (∀ (h : L < PP.length), PP[L] = ((y : Nat) : Int)) := hpg
      have HPL : Hid (PP.length = L + 1) := hpl
      clear hpg hpl hc hlt
      have c1 := HC.out wr (Below.refl _ _)
      go_wp2_with fail
      refine (hbk _).mono ?_
      rintro e w5 ⟨rfl, hb5⟩
      clear c1 hbk
      have c2 := HC.out w5 hb5
      go_wp2_with fail
      refine (hpa _).mono ?_
      rintro e w6 ⟨vp, rfl, hvp, hb6⟩
      have hb6' := below_then hb5 hb6
      have HVP : Hid (Ints w6 vp PP) := ints_of_owns hvp
      clear c2 hpa hvp hb5 hb6
      have c3 := HC.out w6 hb6'
      go_wp2_with fail
      refine (hpo _).mono ?_
      rintro e w7 ⟨vq, rfl, hvq, hb7⟩
      have hb7' := below_then hb6' hb7
      have hiq := ints_of_owns hvq
      have HIQ : Hid (Ints w7 vq PP) := hiq
      have HIP : Hid (Ints w7 vp PP) := HVP.out.later hb7
      obtain ⟨gq, cq, rfl, -, hcq⟩ := owns_head hvq (by omega)
      have HCQ : Hid (w7.cell? ⟨gq, L, none⟩ = some (.int .i64 (y : Nat))) := by
        have h1 : L < PP.length := by rw [HPL.out]; omega
        have h2 := hcq L h1
        rw [HPG.out h1] at h2
        exact h2
      clear c3 hpo hvq hb6' hb7 hiq hcq HVP
      go_wp2_with fail
      refine (coded_nil _).mono ?_
      rintro e w8 ⟨rfl, hb8⟩
      go_wp2_with fail
      refine (coded_nil _).mono ?_
      rintro e w9 ⟨rfl, hb9⟩
      have hb9' := below_then hb8 hb9
      have hs := sameIntsB_any vp _ _ _ w9 (HIP.out.later hb9') (HIQ.out.later hb9') (by rw [HPL.out]; omega) (by rw [HPL.out]; omega)
      rw [decide_eq_true rfl] at hs
      go_wp2_with fail
      refine hs.mono ?_
      rintro e w10 ⟨rfl, hb10⟩
      have hbA := below_then hb7' (below_then hb9' hb10)
      have cL := below_cell (below_then hb9' hb10) HCQ.out
      have eL : (L : Int) + 1 - 1 = (L : Int) := by omega
      clear hs hb8 hb9 hb9' hb10 hb7'
      go_wp2_with fail
      go_roundw
      case rel => exact ⟨below_then hbw hbA, j + 1, by omega, by omega, by go_num⟩
      case measure => simp [intOf]; omega
    · have hd : decide ((j : Int) < 60) = false := by simp; omega
      have hd' : (j : Int) < (m : Int) := by omega
      have hcd := coded_bound a wr (HE.out.later hbw)
      go_wp2_with fail
      refine hcd.mono ?_
      rintro e w5 ⟨rfl, hb5⟩
      clear hcd
      go_wp2
      go_ret
      exact ⟨rfl, below_then hbw hb5⟩
end Go.Proofs.YteehhglhlapcbabDoor
