/- JumpBuckets, where all is right. -/
import Derived.Test.YteehhglhlapcbabDoorJB0
namespace Go.Proofs.YteehhglhlapcbabDoor
open Go.RowKit

set_option maxRecDepth 100000 in
set_option maxHeartbeats 4000000 in
theorem jb_good (a : Nat → Addr) (p : Option Addr) (c : Nat) (ks : List Nat) (n : Nat) (w : World) (he : Errs a w) (hv : Keys1 w (.slice p ks.length c) ks) (hp : KeysAt w p ks) (hl : ks.length ≤ 60) (hn1 : 1 ≤ n) (hn : n ≤ 500) :
    Calls Tryd.prog 3 #[.slice p ks.length c, .int .i64 (n : Nat)] w fun e w' => e = .returned (.bool true) ∧ Below w.heap.size w w' := by
  obtain ⟨i, hi, hz0, hz1, hz2⟩ := info_parts infoI
  have HE : Hid (Errs a w) := he
  have HV : Hid (Keys1 w (.slice p ks.length c) ks) := hv
  have HP : Hid (KeysAt w p ks) := hp
  clear he hv hp
  obtain ⟨m, hm⟩ : ∃ m, ks.length = m := ⟨_, rfl⟩
  have HM : Hid (ks.length = m) := hm
  rw [hm]
  rw [hm] at hl HV
  clear hm
  have e1 : decide (60 < (m : Int)) = false := by simp; omega
  have e2 : decide (600 < (m : Int)) = false := by simp; omega
  have e3 : decide (500 < (m : Int)) = false := by simp; omega
  have e4 : decide ((n : Int) < 1) = false := by simp; omega
  have e5 : decide (500 < (n : Int)) = false := by simp; omega
  have hbyt : i.bytes * 500 ≤ 281474976710656 := by rw [hz2]; decide
  have hmax : 500 ≤ maxLen := by unfold maxLen; decide
  go_enter Tryd.func3, Tryd.ntmps3
  go_wp2_with fail
  refine (jumped_any _).mono ?_
  rintro e w1 ⟨rfl, hb1⟩
  go_wp2_with fail
  refine (ownKeys_any _ ks w1 (HV.out.later hb1) (by rw [HM.out]; omega)).mono ?_
  rintro e w2 ⟨v2, rfl, hv2, hb2⟩
  go_wp2_with fail
  refine (shares_fine v2 ks n w2 hv2 (by rw [HM.out]; omega) hn1 hn).mono ?_
  rintro e w3 ⟨g, rfl, -, hrow, hb3⟩
  have HG : Hid (IntRow w3 g (Lh.jsh ks n)) := hrow
  have hbw3 : Below w.heap.size w w3 := below_then hb1 (below_then hb2 hb3)
  clear hrow hv2 hb1 hb2 hb3
  go_wp2_with (at_make; refine wpList_make_full _ rfl _ _ 24 rfl w3.heap.size 3 i _ 1 Tryd.underlying24 hi hz0 hz1 _ _ _ _ 500 rfl rfl rfl rfl hbyt hmax (Nat.le_refl _) ?_)
  intro w4 hown hgrow
  have hb4 : Below w3.heap.size w3 w4 := below_grown hgrow (fun k h => by cases h)
  rw [made_ints2, ← Lh.jsm_nil n 500] at hown
  have hrow0 := IntRow.of_owns hown
  clear hown hgrow
  obtain ⟨r, hr⟩ : ∃ r, w3.heap.size = r := ⟨_, rfl⟩
  rw [hr] at hrow0
  rw [hr]
  have hrle : w3.heap.size ≤ r := by omega
  clear hr
  go_wp2_with fail
  go_loopw [10] (fun t W => Below w3.heap.size w3 W ∧ ∃ j : Nat, j ≤ m ∧ t = .int .i64 j ∧ IntRow W r (Lh.jsm (ks.take j) n 500)) (fun t _ => m - (intOf t).toNat)
  case atStart => exact ⟨hb4, 0, Nat.zero_le _, rfl, hrow0⟩
  case round =>
    obtain ⟨hb, j, hj, rfl, hrow⟩ := hrel
    have HR : Hid (IntRow wr r (Lh.jsm (ks.take j) n 500)) := hrow
    have hbw : Below w.heap.size w wr := below_then hbw3 hb
    clear hrow0 hrow
    by_cases hlt : j < m
    · have hlt' : j < ks.length := by rw [HM.out]; exact hlt
      obtain ⟨b, o, hpp, hc⟩ := HP.out j hlt'
      subst hpp
      have HC : Hid (∀ W, Below wr.heap.size wr W → W.cell? ⟨b, o + j, none⟩ = some (.int .u64 (ks[j] : Nat))) := fun W hW => below_cell hW (below_cell hbw hc)
      have hj60 : (j : Int) < 60 := by omega
      have hji : (j : Int) < (m : Int) := by omega
      have HS : Hid (Lh.jsm (ks.take (j + 1)) n 500 = (Lh.jsm (ks.take j) n 500).set (Lh.jb ks[j] n) ((((ks.take j).map fun k => Lh.jb k n).count (Lh.jb ks[j] n) : Nat) + 1 : Int)) := by
        have h1 := Lh.jsm_snoc (ks.take j) n 500 ks[j]
        rw [← List.take_succ_eq_append_getElem hlt'] at h1
        exact h1
      have hcl : ((ks.take j).map fun k => Lh.jb k n).count (Lh.jb ks[j] n) ≤ 500 := Nat.le_trans List.count_le_length (by simp; omega)
      have hy := Lh.jb_lt (k := ks[j]) hn1
      have hbk := fun W => bucket_good ks[j] n W hn1 (by omega)
      have hpa := fun W => path_good ks[j] n W hn1 (by omega)
      have hpo := fun W => pathOf_good ks[j] n W hn1 (by omega)
      have hlp := Lh.jlen_pos (k := ks[j]) hn1
      have hle := Lh.jlen_le ks[j] n
      have hpl : (Lh.jp ks[j] (Lh.jlen ks[j] n)).length = Lh.jlen ks[j] n := Lh.jp_length _ _
      have hpg : ∀ (h : Lh.jlen ks[j] n - 1 < (Lh.jp ks[j] (Lh.jlen ks[j] n)).length), (Lh.jp ks[j] (Lh.jlen ks[j] n))[Lh.jlen ks[j] n - 1] = ((Lh.jb ks[j] n : Nat) : Int) := fun h => Lh.jp_get _ _ h
      have hget : ∀ (h : Lh.jb ks[j] n < (Lh.jsm (ks.take j) n 500).length), (Lh.jsm (ks.take j) n 500)[Lh.jb ks[j] n] = ((((ks.take j).map fun k => Lh.jb k n).count (Lh.jb ks[j] n) : Nat) : Int) := fun h => Lh.jsm_get _ _ _ h
      have hlen : (Lh.jsm (ks.take j) n 500).length = 500 := Lh.jsm_length _ _ _
      generalize ((ks.take j).map fun k => Lh.jb k n).count (Lh.jb ks[j] n) = q at *
      generalize Lh.jb ks[j] n = y at *
      generalize Lh.jp ks[j] (Lh.jlen ks[j] n) = PP at *
      generalize Lh.jlen ks[j] n = L at *
      generalize ks[j] = kk at *
      generalize Lh.jsm (ks.take j) n 500 = S at *
      obtain ⟨L, rfl⟩ : ∃ l, L = l + 1 := ⟨L - 1, by omega⟩
      simp only [Nat.add_sub_cancel] at hpg
      have HPG : Hid (∀ (h : L < PP.length), PP[L] = ((y : Nat) : Int)) := hpg
      have HPL : Hid (PP.length = L + 1) := hpl
      have HGT : Hid (∀ (h : y < S.length), S[y] = ((q : Nat) : Int)) := hget
      have HLE : Hid (S.length = 500) := hlen
      clear hget hlen hpg hpl hc
      have hyi : (y : Int) < 500 := by omega
      have c1 := HC.out wr (Below.refl _ _)
      go_wp2_with fail
      refine (hbk _).mono ?_
      rintro e w5 ⟨rfl, hb5⟩
      clear c1 hbk
      have c2 := HC.out w5 hb5
      go_wp2_with fail
      refine (hpa _).mono ?_
      rintro e w6 ⟨vp, rfl, hvp, hb6⟩
      have hb6' := below_then hb5 hb6
      have HVP : Hid (Ints w6 vp PP) := ints_of_owns hvp
      clear c2 hpa hvp hb5 hb6
      have c3 := HC.out w6 hb6'
      go_wp2_with fail
      refine (hpo _).mono ?_
      rintro e w7 ⟨vq, rfl, hvq, hb7⟩
      have hb7' := below_then hb6' hb7
      have hiq := ints_of_owns hvq
      have HIQ : Hid (Ints w7 vq PP) := hiq
      have HIP : Hid (Ints w7 vp PP) := HVP.out.later hb7
      obtain ⟨gq, cq, rfl, -, hcq⟩ := owns_head hvq (by omega)
      have HCQ : Hid (w7.cell? ⟨gq, L, none⟩ = some (.int .i64 (y : Nat))) := by
        have h1 : L < PP.length := by rw [HPL.out]; omega
        have h2 := hcq L h1
        rw [HPG.out h1] at h2
        exact h2
      clear c3 hpo hvq hb6' hb7 hiq hcq HVP
      go_wp2_with fail
      refine (coded_nil _).mono ?_
      rintro e w8 ⟨rfl, hb8⟩
      go_wp2_with fail
      refine (coded_nil _).mono ?_
      rintro e w9 ⟨rfl, hb9⟩
      have hb9' := below_then hb8 hb9
      have hs := sameIntsB_any vp _ _ _ w9 (HIP.out.later hb9') (HIQ.out.later hb9') (by rw [HPL.out]; omega) (by rw [HPL.out]; omega)
      rw [decide_eq_true rfl] at hs
      go_wp2_with fail
      refine hs.mono ?_
      rintro e w10 ⟨rfl, hb10⟩
      have hbA := below_then hb7' (below_then hb9' hb10)
      have cL := below_cell (below_then hb9' hb10) HCQ.out
      have hrow := HR.out.later hbA
      have hyl : y < S.length := by rw [HLE.out]; omega
      have cy := hrow.cell hyl
      rw [HGT.out hyl] at cy
      have fy := hrow.frozen y
      have HRA : Hid (IntRow w10 r S) := hrow
      have hbB : Below w3.heap.size w3 w10 := hb.trans (hbA.mono hb.size)
      have eL : (L : Int) + 1 - 1 = (L : Int) := by omega
      clear hs hb8 hb9 hb9' hb10 hb7' hrow hyl hbA
      go_wp2_with fail
      go_roundw
      case rel =>
        refine ⟨hbB.setCell hrle _, j + 1, by omega, by go_num, ?_⟩
        rw [HS.out]
        exact HRA.out.set y _
      case measure => simp [intOf]; omega
    · have hd : decide ((j : Int) < (m : Int)) = false := by simp; omega
      have hall : ks.take j = ks := List.take_of_length_le (by rw [HM.out]; omega)
      have hR := HR.out
      rw [hall] at hR
      have hS : Ints wr (.slice (some ⟨r, 0, none⟩) n 500) (Lh.jsh ks n) := by
        refine Or.inr ⟨r, 0, 500, by rw [Lh.jsh_length], fun t ht => ?_⟩
        have htn : t < n := by rw [← Lh.jsh_length ks n]; exact ht
        have ht5 : t < (Lh.jsm ks n 500).length := by rw [Lh.jsm_length]; omega
        rw [Nat.zero_add, hR.cell ht5, Lh.jsm_get, Lh.jsh_get]
      have hT : Ints wr (.slice (some ⟨g, 0, none⟩) n n) (Lh.jsh ks n) := by
        have h1 := (HG.out.later hb).ints n
        rw [Lh.jsh_length] at h1
        exact h1
      have hs := sameIntsB_any _ _ _ _ wr hT hS (by rw [Lh.jsh_length]; omega) (by rw [Lh.jsh_length]; omega)
      rw [decide_eq_true rfl] at hs
      clear hall hR hS hT
      have hni : (n : Int) ≤ 500 := by omega
      go_wp2_with fail
      refine hs.mono ?_
      rintro e w5 ⟨rfl, hb5⟩
      clear hs
      go_wp2
      go_ret
      exact ⟨rfl, below_then hbw hb5⟩
end Go.Proofs.YteehhglhlapcbabDoor
