/- The law FlowsActs, where the time is right. -/
import Derived.Test.YtijdaaghomclmabGreatDoorFA1
import Derived.Test.YtijdaaghomclmabGreatDoorFA2
import Derived.Test.YtijdaaghomclmabGreatDoorFlW
import Derived.Test.YtijdaaghomclmabGreatDoorFAd
import Derived.Deep.RegionHeld3
namespace Go.Proofs.YtijdaaghomclmabGreatDoor
open Go.RowKit

set_option maxRecDepth 100000 in
set_option maxHeartbeats 4000000 in
theorem facts_good (hC : FlowsC) (a : Nat → Addr) (t : Nat) (lp : Option Addr) (lc : Nat) (l : List Fa) (w : World) (he : Errs a w) (h1 : 1 ≤ t) (h2 : t ≤ 1000) (hl : l.length ≤ 80) (hla : FActsAt w lp l) (hlo : ∀ x ∈ l, FaOk x) :
    Calls Tryz.prog 3 #[.int .i64 (t : Nat), .slice lp l.length lc] w fun e w' => e = .returned (.bool true) ∧ Below w.heap.size w w' := by
  have HE : Hid (Errs a w) := he
  have HLA : Hid (FActsAt w lp l) := hla
  have HLO : Hid (∀ x ∈ l, FaOk x) := hlo
  have hfl := flowed_any hC a w (hC.eOf he)
  have d1 : decide (80 < (l.length : Int)) = false := by simp; omega
  have d2 : decide ((t : Int) < 1) = false := by simp; omega
  have d3 : decide (1000 < (t : Int)) = false := by simp; omega
  clear he hla hlo
  go_enter Tryz.func3, Tryz.ntmps3
  go_wp2_with fail
  refine hfl.mono ?_
  rintro e w1 ⟨rfl, hb1⟩
  clear hfl
  have hnew := hC.newG t w1 h1 h2
  go_wp2_with fail
  refine hnew.mono ?_
  rintro e w3 ⟨p, F, rfl, hR, hF, hb3⟩
  have hbw3 : Below w.heap.size w w3 := below_then hb1 hb3
  have HR : Hid (hC.Rep t 0 [] F p w3) := hR
  have HF : Hid (∀ b, F b → w.heap.size ≤ b) := fun b hb => Nat.le_trans hb1.size (hF b hb)
  clear hnew hR hF hb3 hb1
  go_wp2_with fail
  have HB0 : Hid (BothF hC w t p w3.heap.size 0 [] F (.slice none 0 0) (w3.alloc (.cells #[.int .i64 (t : Nat), .int .i64 0, .slice none 0 0] 33))) := by
    have hba : Below w3.heap.size w3 (w3.alloc (.cells #[.int .i64 (t : Nat), .int .i64 0, .slice none 0 0] 33)) := (Below.refl _ _).alloc (Nat.le_refl _) _
    have hlt := hC.lt HR.out
    have hs3 := hbw3.size
    have hft : ∀ b, FFoot w3.heap.size (.slice none 0 0) b → b = w3.heap.size := fun b hb => by
      rcases hb with h | h
      · exact h
      · cases h
    refine ⟨hC.later HR.out hba, ⟨by simp, by simp, by simp, fun k => by simp, World.ownsRow_nil _ _ _ _⟩, Lh.FlOk.nil, by omega, HF.out, fun b hb => ?_, fun b hb hm => ?_, below_then hbw3 hba⟩
    · rw [hft b hb]; exact hs3
    · have h1 := hft b hm
      have h2 := hlt b hb
      omega
  generalize w3.alloc (.cells #[.int .i64 (t : Nat), .int .i64 0, .slice none 0 0] 33) = w4 at *
  generalize w3.heap.size = m at *
  clear hbw3 HR HF
  go_loopw [9, 10] (fun u v W => ∃ (cr i : Nat) (la : Int) (L : List Lh.Fl) (F : Nat → Prop) (lv : Value), i ≤ l.length ∧ cr ≤ 3 ∧ v = .int .i64 (i : Nat) ∧ u = .int .i64 (cr : Nat) ∧ BothF hC w t p m la L F lv W) (fun _ v _ => l.length - (intOf v).toNat)
  case atStart => exact ⟨0, 0, 0, _, F, _, Nat.zero_le _, by omega, rfl, rfl, HB0.out⟩
  case round =>
    clear HB0
    obtain ⟨cr, i, la, L, F', lv, hi, hcr, rfl, rfl, hB⟩ := hrel
    obtain ⟨wo, hwo⟩ : ∃ wo, wo = wr := ⟨_, rfl⟩
    subst hwo
    by_cases hlt : i < l.length
    · obtain ⟨lb, lo, rfl, hk0, hk1, hk2, hk3, hk4, hkf⟩ := HLA.out i hlt
      have c0 := below_cell hB.below hk0
      have c1 := below_cell hB.below hk1
      have c2 := below_cell hB.below hk2
      have c3 := below_cell hB.below hk3
      have c4 := below_cell hB.below hk4
      have HFO : Hid (FaOk l[i]) := HLO.out _ (List.getElem_mem hlt)
      have HFL : Hid (Flows1 w l[i].val l[i].l) := hkf
      have hii : (i : Int) < (l.length : Int) := by omega
      generalize l[i] = x at *
      obtain ⟨kd, s, key, now, val, fl⟩ := x
      dsimp only at c0 c1 c2 c3 c4 HFL
      have hs64 : s.size ≤ 9223372036854775807 := by have := HFO.out.host; unfold maxLen at this; dsimp only at this; omega
      have HBo : Hid (BothF hC w t p m la L F' lv wo) := hB
      obtain ⟨fp, fc, hval⟩ := HFL.out.shape
      subst hval
      obtain ⟨ab, hab⟩ : ∃ ab, wo.heap.size = ab := ⟨_, rfl⟩
      clear hk0 hk1 hk2 hk3 hk4 hkf hB
      by_cases hbig : 60 < s.size
      · have hd : decide (60 < (s.size : Int)) = true := by simp; omega
        clear hab
        go_wp2
        go_ret
        exact ⟨rfl, HBo.out.below.alloc HBo.out.below.size _⟩
      · have hd : decide (60 < (s.size : Int)) = false := by simp; omega
        have hs3 : s.size ≤ 300 := by omega
        have hBa : BothF hC w t p m la L F' lv (wo.alloc (.cells #[.string kd, .string s, .int .u64 (key : Nat), .int .i64 now, .slice fp fl.length fc] 36)) := HBo.out.later ((Below.refl _ _).alloc (Nat.le_refl _) _)
        have x0 : (wo.alloc (.cells #[.string kd, .string s, .int .u64 (key : Nat), .int .i64 now, .slice fp fl.length fc] 36)).cell? ⟨ab, 0, none⟩ = some (.string kd) := by rw [← hab]; simp
        have x1 : (wo.alloc (.cells #[.string kd, .string s, .int .u64 (key : Nat), .int .i64 now, .slice fp fl.length fc] 36)).cell? ⟨ab, 1, none⟩ = some (.string s) := by rw [← hab]; simp
        have x2 : (wo.alloc (.cells #[.string kd, .string s, .int .u64 (key : Nat), .int .i64 now, .slice fp fl.length fc] 36)).cell? ⟨ab, 2, none⟩ = some (.int .u64 (key : Nat)) := by rw [← hab]; simp
        have x3 : (wo.alloc (.cells #[.string kd, .string s, .int .u64 (key : Nat), .int .i64 now, .slice fp fl.length fc] 36)).cell? ⟨ab, 3, none⟩ = some (.int .i64 now) := by rw [← hab]; simp
        have x4 : (wo.alloc (.cells #[.string kd, .string s, .int .u64 (key : Nat), .int .i64 now, .slice fp fl.length fc] 36)).cell? ⟨ab, 4, none⟩ = some (.slice fp fl.length fc) := by rw [← hab]; simp
        have HNF : Hid (¬ F' ab) := fun h => by
          have := hC.lt HBo.out.rep ab h
          omega
        have HNM : Hid (¬ FFoot m lv ab) := fun h => by
          have := (HBo.out.mf.lt ab h).1
          omega
        have HBA : Hid _ := hBa
        have hlong := longF_any _ fl _ (HFL.out.later hBa.below) HFO.out.len (fun y hy => (HFO.out.fl y hy).2.1)
        clear hBa
        go_wp2_with fail
        clear c0 c1 c2 c3 c4
        try rw [hab]
        generalize wo.alloc (.cells #[.string kd, .string s, .int .u64 (key : Nat), .int .i64 now, .slice fp fl.length fc] 36) = wa at *
        clear hab
        refine hlong.mono ?_
        rintro e wl ⟨⟨rfl, hsh⟩ | rfl, rfl⟩
        · clear hlong
          have HSH : Hid (FShort fl) := hsh
          clear hsh
          cases hqA : (kd.toList == [112, 117, 116]) with
          | true =>
            as_aux_lemma =>
              go_wp2_with fail
              have H1 : Hid (∀ W, Below wl.heap.size wl W → Calls Tryz.prog 8 #[.pointer (some ⟨p, 0, none⟩), .int .u64 (key : Nat), .string s, .int .i64 now] W fun e W1 => ∃ ev c la2 L2 F2, e = .returned ev ∧ ResP t la L key s now la2 L2 c ∧ MidF hC w t p m la L F' lv la2 L2 F2 W1 ∧ (∀ W, ErrIs a W c (-1) ev) ∧ W1.cell? ⟨ab, 1, none⟩ = some (.string s) ∧ W1.cell? ⟨ab, 2, none⟩ = some (.int .u64 (key : Nat)) ∧ W1.cell? ⟨ab, 3, none⟩ = some (.int .i64 now)) := fun W hW => ((HBA.out.later hW).put1 HE.out h1 h2 key HFO.out.key s hs3 now HNF.out).mono fun _ _ ⟨ev, c, la2, L2, F2, q1, q2, q3, q4, q5⟩ => ⟨ev, c, la2, L2, F2, q1, q2, q3, q4, q5 _ _ (below_cell hW x1), q5 _ _ (below_cell hW x2), q5 _ _ (below_cell hW x3)⟩
              have H2 : Hid (∀ W1 c la2 L2 F2, ResP t la L key s now la2 L2 c → MidF hC w t p m la L F' lv la2 L2 F2 W1 → (W1.cell? ⟨ab, 1, none⟩ = some (.string s) ∧ W1.cell? ⟨ab, 2, none⟩ = some (.int .u64 (key : Nat)) ∧ W1.cell? ⟨ab, 3, none⟩ = some (.int .i64 now)) → Calls Tryz.prog 9 #[.pointer (some ⟨m, 0, none⟩), .int .u64 (key : Nat), .string s, .int .i64 now] W1 fun e W2 => e = .returned (.int .i64 (c : Nat)) ∧ (∃ lv2, BothF hC w t p m la2 L2 F2 lv2 W2) ∧ W2.cell? ⟨ab, 1, none⟩ = some (.string s) ∧ W2.cell? ⟨ab, 2, none⟩ = some (.int .u64 (key : Nat)) ∧ W2.cell? ⟨ab, 3, none⟩ = some (.int .i64 now)) := fun W1 c la2 L2 F2 hr hm hk => (hm.put2 h2 key s hs3 now hr HNM.out).mono fun _ _ ⟨q1, q2, q3⟩ => ⟨q1, q2, q3 _ _ hk.1, q3 _ _ hk.2.1, q3 _ _ hk.2.2⟩
              have H3 : Hid (∀ W2 ev c la2 L2 F2, (∃ lv2, BothF hC w t p m la2 L2 F2 lv2 W2) → (∀ W, ErrIs a W c (-1) ev) → (W2.cell? ⟨ab, 1, none⟩ = some (.string s) ∧ W2.cell? ⟨ab, 2, none⟩ = some (.int .u64 (key : Nat)) ∧ W2.cell? ⟨ab, 3, none⟩ = some (.int .i64 now)) → Calls Tryz.prog 6 #[ev, .int .i64 (c : Nat)] W2 fun e W3 => e = .returned (.bool true) ∧ (∃ lv2, BothF hC w t p m la2 L2 F2 lv2 W3) ∧ W3.cell? ⟨ab, 1, none⟩ = some (.string s) ∧ W3.cell? ⟨ab, 2, none⟩ = some (.int .u64 (key : Nat)) ∧ W3.cell? ⟨ab, 3, none⟩ = some (.int .i64 now)) := fun W2 ev c la2 L2 F2 ⟨lv2, hb2⟩ herr hk => (codedF_is (HE.out.later hb2.below) (herr W2)).mono fun _ _ ⟨q1, q2⟩ => ⟨q1, ⟨lv2, hb2.later q2⟩, below_cell q2 hk.1, below_cell q2 hk.2.1, below_cell q2 hk.2.2⟩
              have hks0 : wl.cell? ⟨ab, 1, none⟩ = some (.string s) ∧ wl.cell? ⟨ab, 2, none⟩ = some (.int .u64 (key : Nat)) ∧ wl.cell? ⟨ab, 3, none⟩ = some (.int .i64 now) := ⟨x1, x2, x3⟩
              clear HBA x0 x4 hqA
              go_region_held3 (fun w' => w'.cell? ⟨ab, 1, none⟩ = some (.string s) ∧ w'.cell? ⟨ab, 2, none⟩ = some (.int .u64 (key : Nat)) ∧ w'.cell? ⟨ab, 3, none⟩ = some (.int .i64 now))
                (first | assumption | exact hks0)
                (first
                  | (go_at_call 8; refine (H1.out _ (by first | exact Below.refl _ _ | exact below_drewN (Below.refl _ _) 1)).mono ?_; rintro e w7 ⟨ev, c, la2, L2, F2, rfl, hres, hmid, herr, hks7⟩)
                  | (go_at_call 9; refine (H2.out _ _ _ _ _ hres hmid (by assumption)).mono ?_; rintro e w8 ⟨rfl, hbb, hks8⟩)
                  | (go_at_call 6; refine (H3.out _ _ _ _ _ _ hbb herr (by assumption)).mono ?_; rintro e w9 ⟨rfl, hb9, hks9⟩))
              all_goals
                obtain ⟨lv2, hB9⟩ := hb9
                have HB9 : Hid (BothF hC w t p m la2 L2 F2 lv2 w9) := hB9
                clear hB9 hks0 hks7 hks8 hks9 hbb hmid hres herr H1 H2 H3 x1 x2 x3
                go_wp2_with fail
                obtain ⟨q2, cq2, hlv2, _⟩ := HB9.out.mf.row
                subst hlv2
                have HLI : Hid (∀ W, Below w9.heap.size w9 W → Calls Tryz.prog 21 #[.pointer (some ⟨p, 0, none⟩)] W fun e w' => ∃ v, e = .returned v ∧ Flows1 w' v L2 ∧ Below w9.heap.size w9 w') := fun W hW => (hC.list t la2 L2 F2 p W (hC.later HB9.out.rep hW) HB9.out.ok).mono fun _ _ ⟨v, q1, q2, q3⟩ => ⟨v, q1, q2, below_then hW q3⟩
                have HSF : Hid (∀ W v, Below w9.heap.size w9 W → Flows1 W v L2 → Calls Tryz.prog 20 #[v, .slice q2 L2.length cq2] W fun e w' => e = .returned (.bool true) ∧ Below w9.heap.size w9 w') := fun W v hW hv => (sameFlows_same v _ L2 W hv (flows_of_owns (HB9.out.mf.later hW).own).1 (by have := HB9.out.ok.len; omega)).mono fun _ _ ⟨q1, q2⟩ => ⟨q1, below_then hW q2⟩
                have k2 : w9.cell? ⟨m, 2, none⟩ = some (.slice q2 L2.length cq2) := HB9.out.mf.c2
                have HKC : Hid (∀ W, Below w9.heap.size w9 W → Below w9.heap.size w9 W ∧ W.cell? ⟨m, 2, none⟩ = some (.slice q2 L2.length cq2)) := fun W hW => ⟨hW, below_cell hW k2⟩
                have d200 : decide (200 < (L2.length : Int)) = false := by have := HB9.out.ok.len; simp; omega
                go_region_held3 (fun w' => Below w9.heap.size w9 w' ∧ w'.cell? ⟨m, 2, none⟩ = some (.slice q2 L2.length cq2))
                  (first | exact HKC.out _ (by assumption) | exact HKC.out _ (below_drewN (Below.refl _ _) 1) | exact HKC.out _ (Below.refl _ _))
                  (first
                    | (go_at_call 21; refine (HLI.out _ (by first | assumption | exact Below.refl _ _ | exact below_drewN (Below.refl _ _) 1)).mono ?_; rintro e w10 ⟨v10, rfl, hv10, hb10⟩)
                    | (go_at_call 20; refine (HSF.out _ _ (by assumption) (by assumption)).mono ?_; rintro e w11 ⟨rfl, hb11⟩))
                all_goals
                  go_wp2
                  exact ⟨⟨cr, i + 1, la2, L2, F2, _, by omega, by omega, by go_num, rfl, HB9.out.later (by assumption)⟩, by simp [intOf]; omega⟩
          | false =>
            cases hqB : (kd.toList == [103, 101, 116]) with
            | true =>
              as_aux_lemma =>
                go_wp2_with fail
                refine (HBA.out.get1 HE.out key HFO.out.key now HNF.out).mono ?_
                rintro e w7 ⟨sv, is, ev, c, la2, F2, rfl, hres, hmid, herr, hkp7⟩
                have x2' := hkp7 _ _ x2
                have x3' := hkp7 _ _ x3
                have HRES : Hid (ResG la L key now la2 sv is c) := hres
                have HMID : Hid (MidF hC w t p m la L F' lv la2 L F2 w7) := hmid
                have HERR : Hid (∀ W, ErrIs a W c (-1) ev) := herr
                clear HBA x0 x1 x2 x3 x4 hres hmid herr hkp7 hqA hqB
                go_wp2_with fail
                refine (HMID.out.get2 key now HRES.out HNM.out).mono ?_
                rintro e w8 ⟨rfl, ⟨lv2, hB8⟩, _⟩
                have HB8 : Hid (BothF hC w t p m la2 L F2 lv2 w8) := hB8
                have hss : (sv.toList == sv.toList) = true := bytes_same rfl
                have hii2 : (is != is) = false := by simp
                clear hB8 x2' x3' HMID HRES
                go_wp2_with fail
                refine (codedF_is (HE.out.later HB8.out.below) (HERR.out w8)).mono ?_
                rintro e w9 ⟨rfl, hb9⟩
                obtain ⟨L2, hL2⟩ : ∃ L2, L2 = L := ⟨_, rfl⟩
                subst hL2
                have HB9 : Hid (BothF hC w t p m la2 L2 F2 lv2 w9) := HB8.out.later hb9
                clear hb9 HB8 HERR
                go_wp2_with fail
                obtain ⟨q2, cq2, hlv2, _⟩ := HB9.out.mf.row
                subst hlv2
                have HLI : Hid (∀ W, Below w9.heap.size w9 W → Calls Tryz.prog 21 #[.pointer (some ⟨p, 0, none⟩)] W fun e w' => ∃ v, e = .returned v ∧ Flows1 w' v L2 ∧ Below w9.heap.size w9 w') := fun W hW => (hC.list t la2 L2 F2 p W (hC.later HB9.out.rep hW) HB9.out.ok).mono fun _ _ ⟨v, q1, q2, q3⟩ => ⟨v, q1, q2, below_then hW q3⟩
                have HSF : Hid (∀ W v, Below w9.heap.size w9 W → Flows1 W v L2 → Calls Tryz.prog 20 #[v, .slice q2 L2.length cq2] W fun e w' => e = .returned (.bool true) ∧ Below w9.heap.size w9 w') := fun W v hW hv => (sameFlows_same v _ L2 W hv (flows_of_owns (HB9.out.mf.later hW).own).1 (by have := HB9.out.ok.len; omega)).mono fun _ _ ⟨q1, q2⟩ => ⟨q1, below_then hW q2⟩
                have k2 : w9.cell? ⟨m, 2, none⟩ = some (.slice q2 L2.length cq2) := HB9.out.mf.c2
                have HKC : Hid (∀ W, Below w9.heap.size w9 W → Below w9.heap.size w9 W ∧ W.cell? ⟨m, 2, none⟩ = some (.slice q2 L2.length cq2)) := fun W hW => ⟨hW, below_cell hW k2⟩
                have d200 : decide (200 < (L2.length : Int)) = false := by have := HB9.out.ok.len; simp; omega
                go_region_held3 (fun w' => Below w9.heap.size w9 w' ∧ w'.cell? ⟨m, 2, none⟩ = some (.slice q2 L2.length cq2))
                  (first | exact HKC.out _ (by assumption) | exact HKC.out _ (below_drewN (Below.refl _ _) 1) | exact HKC.out _ (Below.refl _ _))
                  (first
                    | (go_at_call 21; refine (HLI.out _ (by first | assumption | exact Below.refl _ _ | exact below_drewN (Below.refl _ _) 1)).mono ?_; rintro e w10 ⟨v10, rfl, hv10, hb10⟩)
                    | (go_at_call 20; refine (HSF.out _ _ (by assumption) (by assumption)).mono ?_; rintro e w11 ⟨rfl, hb11⟩))
                all_goals
                  go_wp2
                  exact ⟨⟨cr, i + 1, la2, L2, F2, _, by omega, by omega, by go_num, rfl, HB9.out.later (by assumption)⟩, by simp [intOf]; omega⟩
            | false =>
              cases hqC : (kd.toList == [101, 120, 112, 105, 114, 101]) with
              | true =>
                as_aux_lemma =>
                  go_wp2_with fail
                  refine (HBA.out.expire1 HE.out now HNF.out).mono ?_
                  rintro e w7 ⟨n, ev, c, la2, L2, F2, rfl, hres, hmid, herr, hkp7⟩
                  have x3' := hkp7 _ _ x3
                  have HRES : Hid (ResX la L now la2 L2 n c) := hres
                  have HMID : Hid (MidF hC w t p m la L F' lv la2 L2 F2 w7) := hmid
                  have HERR : Hid (∀ W, ErrIs a W c (-1) ev) := herr
                  clear HBA x0 x1 x2 x3 x4 hres hmid herr hkp7 hqA hqB hqC
                  go_wp2_with fail
                  refine (HMID.out.expire2 now HRES.out HNM.out).mono ?_
                  rintro e w8 ⟨rfl, ⟨lv2, hB8⟩, _⟩
                  have HB8 : Hid (BothF hC w t p m la2 L2 F2 lv2 w8) := hB8
                  have hnn : ((n : Int) != (n : Int)) = false := by simp
                  clear hB8 x3' HMID HRES
                  go_wp2_with fail
                  refine (codedF_is (HE.out.later HB8.out.below) (HERR.out w8)).mono ?_
                  rintro e w9 ⟨rfl, hb9⟩
                  have HB9 : Hid (BothF hC w t p m la2 L2 F2 lv2 w9) := HB8.out.later hb9
                  clear hb9 HB8 HERR
                  go_wp2_with fail
                  obtain ⟨q2, cq2, hlv2, _⟩ := HB9.out.mf.row
                  subst hlv2
                  have HLI : Hid (∀ W, Below w9.heap.size w9 W → Calls Tryz.prog 21 #[.pointer (some ⟨p, 0, none⟩)] W fun e w' => ∃ v, e = .returned v ∧ Flows1 w' v L2 ∧ Below w9.heap.size w9 w') := fun W hW => (hC.list t la2 L2 F2 p W (hC.later HB9.out.rep hW) HB9.out.ok).mono fun _ _ ⟨v, q1, q2, q3⟩ => ⟨v, q1, q2, below_then hW q3⟩
                  have HSF : Hid (∀ W v, Below w9.heap.size w9 W → Flows1 W v L2 → Calls Tryz.prog 20 #[v, .slice q2 L2.length cq2] W fun e w' => e = .returned (.bool true) ∧ Below w9.heap.size w9 w') := fun W v hW hv => (sameFlows_same v _ L2 W hv (flows_of_owns (HB9.out.mf.later hW).own).1 (by have := HB9.out.ok.len; omega)).mono fun _ _ ⟨q1, q2⟩ => ⟨q1, below_then hW q2⟩
                  have k2 : w9.cell? ⟨m, 2, none⟩ = some (.slice q2 L2.length cq2) := HB9.out.mf.c2
                  have HKC : Hid (∀ W, Below w9.heap.size w9 W → Below w9.heap.size w9 W ∧ W.cell? ⟨m, 2, none⟩ = some (.slice q2 L2.length cq2)) := fun W hW => ⟨hW, below_cell hW k2⟩
                  have d200 : decide (200 < (L2.length : Int)) = false := by have := HB9.out.ok.len; simp; omega
                  go_region_held3 (fun w' => Below w9.heap.size w9 w' ∧ w'.cell? ⟨m, 2, none⟩ = some (.slice q2 L2.length cq2))
                    (first | exact HKC.out _ (by assumption) | exact HKC.out _ (below_drewN (Below.refl _ _) 1) | exact HKC.out _ (Below.refl _ _))
                    (first
                      | (go_at_call 21; refine (HLI.out _ (by first | assumption | exact Below.refl _ _ | exact below_drewN (Below.refl _ _) 1)).mono ?_; rintro e w10 ⟨v10, rfl, hv10, hb10⟩)
                      | (go_at_call 20; refine (HSF.out _ _ (by assumption) (by assumption)).mono ?_; rintro e w11 ⟨rfl, hb11⟩))
                  all_goals
                    go_wp2
                    exact ⟨⟨cr, i + 1, la2, L2, F2, _, by omega, by omega, by go_num, rfl, HB9.out.later (by assumption)⟩, by simp [intOf]; omega⟩
              | false =>
                cases hqD : (kd.toList == [100, 114, 111, 112]) with
                | true =>
                  as_aux_lemma =>
                    go_wp2_with fail
                    have H1 : Hid (∀ W, Below wl.heap.size wl W → Calls Tryz.prog 14 #[.pointer (some ⟨p, 0, none⟩), .string s] W fun e W1 => ∃ F2, e = .returned (.int .i64 ((L.length - (Lh.fdrop L s).length : Nat) : Int)) ∧ MidF hC w t p m la L F' lv la (Lh.fdrop L s) F2 W1 ∧ W1.cell? ⟨ab, 1, none⟩ = some (.string s)) := fun W hW => ((HBA.out.later hW).drop1 s hs3 HNF.out).mono fun _ _ ⟨F2, q1, q3, q5⟩ => ⟨F2, q1, q3, q5 _ _ (below_cell hW x1)⟩
                    have H2 : Hid (∀ W1 F2, MidF hC w t p m la L F' lv la (Lh.fdrop L s) F2 W1 → W1.cell? ⟨ab, 1, none⟩ = some (.string s) → Calls Tryz.prog 15 #[.pointer (some ⟨m, 0, none⟩), .string s] W1 fun e W2 => e = .returned (.int .i64 ((L.length - (Lh.fdrop L s).length : Nat) : Int)) ∧ (∃ lv2, BothF hC w t p m la (Lh.fdrop L s) F2 lv2 W2) ∧ W2.cell? ⟨ab, 1, none⟩ = some (.string s)) := fun W1 F2 hm hk => (hm.drop2 HNM.out).mono fun _ _ ⟨q1, q2, q3⟩ => ⟨q1, q2, q3 _ _ hk⟩
                    clear HBA x0 x2 x3 x4 hqA hqB hqC hqD
                    obtain ⟨la2, hla2⟩ : ∃ la2, la2 = la := ⟨_, rfl⟩
                    subst hla2
                    generalize Lh.fdrop L s = L2 at *
                    generalize L.length - L2.length = nn at *
                    have hnn : ((nn : Int) != (nn : Int)) = false := by simp
                    go_region_held3 (fun w' => w'.cell? ⟨ab, 1, none⟩ = some (.string s))
                      (first | assumption | exact x1)
                      (first
                        | (go_at_call 14; refine (H1.out _ (by first | exact Below.refl _ _ | exact below_drewN (Below.refl _ _) 1)).mono ?_; rintro e w7 ⟨F2, rfl, hmid, hks7⟩)
                        | (go_at_call 15; refine (H2.out _ _ hmid (by assumption)).mono ?_; rintro e w9 ⟨rfl, hb9, hks9⟩))
                    all_goals
                      obtain ⟨lv2, hB9⟩ := hb9
                      have HB9 : Hid (BothF hC w t p m la2 L2 F2 lv2 w9) := hB9
                      clear hB9 hks7 hks9 hmid H1 H2 x1
                      go_wp2_with fail
                      obtain ⟨q2, cq2, hlv2, _⟩ := HB9.out.mf.row
                      subst hlv2
                      have HLI : Hid (∀ W, Below w9.heap.size w9 W → Calls Tryz.prog 21 #[.pointer (some ⟨p, 0, none⟩)] W fun e w' => ∃ v, e = .returned v ∧ Flows1 w' v L2 ∧ Below w9.heap.size w9 w') := fun W hW => (hC.list t la2 L2 F2 p W (hC.later HB9.out.rep hW) HB9.out.ok).mono fun _ _ ⟨v, q1, q2, q3⟩ => ⟨v, q1, q2, below_then hW q3⟩
                      have HSF : Hid (∀ W v, Below w9.heap.size w9 W → Flows1 W v L2 → Calls Tryz.prog 20 #[v, .slice q2 L2.length cq2] W fun e w' => e = .returned (.bool true) ∧ Below w9.heap.size w9 w') := fun W v hW hv => (sameFlows_same v _ L2 W hv (flows_of_owns (HB9.out.mf.later hW).own).1 (by have := HB9.out.ok.len; omega)).mono fun _ _ ⟨q1, q2⟩ => ⟨q1, below_then hW q2⟩
                      have k2 : w9.cell? ⟨m, 2, none⟩ = some (.slice q2 L2.length cq2) := HB9.out.mf.c2
                      have HKC : Hid (∀ W, Below w9.heap.size w9 W → Below w9.heap.size w9 W ∧ W.cell? ⟨m, 2, none⟩ = some (.slice q2 L2.length cq2)) := fun W hW => ⟨hW, below_cell hW k2⟩
                      have d200 : decide (200 < (L2.length : Int)) = false := by have := HB9.out.ok.len; simp; omega
                      go_region_held3 (fun w' => Below w9.heap.size w9 w' ∧ w'.cell? ⟨m, 2, none⟩ = some (.slice q2 L2.length cq2))
                        (first | exact HKC.out _ (by assumption) | exact HKC.out _ (below_drewN (Below.refl _ _) 1) | exact HKC.out _ (Below.refl _ _))
                        (first
                          | (go_at_call 21; refine (HLI.out _ (by first | assumption | exact Below.refl _ _ | exact below_drewN (Below.refl _ _) 1)).mono ?_; rintro e w10 ⟨v10, rfl, hv10, hb10⟩)
                          | (go_at_call 20; refine (HSF.out _ _ (by assumption) (by assumption)).mono ?_; rintro e w11 ⟨rfl, hb11⟩))
                      all_goals
                        go_wp2
                        exact ⟨⟨cr, i + 1, la2, L2, F2, _, by omega, by omega, by go_num, rfl, HB9.out.later (by assumption)⟩, by simp [intOf]; omega⟩
                | false =>
                  cases hqE : (kd.toList == [109, 97, 110, 121]) with
                  | true =>
                    as_aux_lemma =>
                      have hcr1 : (cr : Int) + 1 ≤ 4 := by omega
                      by_cases hc3 : 3 < cr + 1
                      · have dc : decide (3 < (cr : Int) + 1) = true := by simp; omega
                        go_wp2
                        go_ret
                        exact ⟨rfl, HBA.out.below⟩
                      · have dc : decide (3 < (cr : Int) + 1) = false := by simp; omega
                        have HKY : Hid (key < 18446744073709551616) := HFO.out.key
                        have HX : Hid (wl.cell? ⟨ab, 1, none⟩ = some (.string s) ∧ wl.cell? ⟨ab, 2, none⟩ = some (.int .u64 (key : Nat)) ∧ wl.cell? ⟨ab, 3, none⟩ = some (.int .i64 now)) := ⟨x1, x2, x3⟩
                        go_wp2_with fail
                        clear x0 x1 x2 x3 x4 hqA hqB hqC hqD hqE
                        go_loopw [22] (fun u W => ∃ (kk : Nat) (la : Int) (L : List Lh.Fl) (F : Nat → Prop) (lv : Value), kk ≤ 120 ∧ u = .int .u64 (kk : Nat) ∧ BothF hC w t p m la L F lv W ∧ (¬ F ab ∧ ¬ FFoot m lv ab) ∧ W.cell? ⟨ab, 1, none⟩ = some (.string s) ∧ W.cell? ⟨ab, 2, none⟩ = some (.int .u64 (key : Nat)) ∧ W.cell? ⟨ab, 3, none⟩ = some (.int .i64 now)) (fun u _ => 120 - (intOf u).toNat)
                        case atStart => exact ⟨0, la, L, F', lv, Nat.zero_le _, rfl, HBA.out, ⟨HNF.out, HNM.out⟩, HX.out⟩
                        case round =>
                          clear HBA HX HNF HNM
                          obtain ⟨kk, la3, L3, F3, lv3, hkk, rfl, hB, hnn, hks0⟩ := hrel
                          obtain ⟨wm, hwm⟩ : ∃ wm, wm = wr := ⟨_, rfl⟩
                          subst hwm
                          by_cases hk2 : kk < 120
                          · have hki : (kk : Int) < 120 := by omega
                            have dk : decide ((kk : Int) < 120) = true := decide_eq_true hki
                            obtain ⟨z, hz⟩ : ∃ z, z = (key + kk) % 18446744073709551616 := ⟨_, rfl⟩
                            have hzl : z < 18446744073709551616 := by rw [hz]; exact Nat.mod_lt _ (by decide)
                            have hwz : IntKind.u64.wrap ((key : Int) + (kk : Int)) = (z : Int) := by rw [IntKind.wrap_u64, hz]; omega
                            have hw1 : IntKind.u64.wrap ((kk : Int) + 1) = (kk : Int) + 1 := by rw [IntKind.wrap_u64]; omega
                            have habl : ab < wm.heap.size := World.block_lt_of_cell? wm ⟨ab, 1, none⟩ hks0.1
                            have HZL : Hid (z < 18446744073709551616) := hzl
                            have HBM : Hid (BothF hC w t p m la3 L3 F3 lv3 wm) := hB
                            have HNN : Hid (¬ F3 ab ∧ ¬ FFoot m lv3 ab) := hnn
                            have H1 : Hid (∀ W, Below wm.heap.size wm W → Calls Tryz.prog 8 #[.pointer (some ⟨p, 0, none⟩), .int .u64 (z : Nat), .string s, .int .i64 now] W fun e W1 => ∃ ev c la2 L2 F2, e = .returned ev ∧ ResP t la3 L3 z s now la2 L2 c ∧ MidF hC w t p m la3 L3 F3 lv3 la2 L2 F2 W1 ∧ ((∀ W, ErrIs a W c (-1) ev) ∧ ¬ F2 ab) ∧ W1.cell? ⟨ab, 1, none⟩ = some (.string s) ∧ W1.cell? ⟨ab, 2, none⟩ = some (.int .u64 (key : Nat)) ∧ W1.cell? ⟨ab, 3, none⟩ = some (.int .i64 now)) := fun W hW => ((HBM.out.later hW).put1n HE.out h1 h2 z HZL.out s hs3 now HNN.out.1 (Nat.lt_of_lt_of_le habl hW.size)).mono fun _ _ ⟨ev, c, la2, L2, F2, q1, q2, q3, q4, q5, q6⟩ => ⟨ev, c, la2, L2, F2, q1, q2, q3, ⟨q4, q6⟩, q5 _ _ (below_cell hW hks0.1), q5 _ _ (below_cell hW hks0.2.1), q5 _ _ (below_cell hW hks0.2.2)⟩
                            have H2 : Hid (∀ W1 c la2 L2 F2, ResP t la3 L3 z s now la2 L2 c → MidF hC w t p m la3 L3 F3 lv3 la2 L2 F2 W1 → (W1.cell? ⟨ab, 1, none⟩ = some (.string s) ∧ W1.cell? ⟨ab, 2, none⟩ = some (.int .u64 (key : Nat)) ∧ W1.cell? ⟨ab, 3, none⟩ = some (.int .i64 now)) → Calls Tryz.prog 9 #[.pointer (some ⟨m, 0, none⟩), .int .u64 (z : Nat), .string s, .int .i64 now] W1 fun e W2 => e = .returned (.int .i64 (c : Nat)) ∧ (∃ lv2, BothF hC w t p m la2 L2 F2 lv2 W2 ∧ ¬ FFoot m lv2 ab) ∧ W2.cell? ⟨ab, 1, none⟩ = some (.string s) ∧ W2.cell? ⟨ab, 2, none⟩ = some (.int .u64 (key : Nat)) ∧ W2.cell? ⟨ab, 3, none⟩ = some (.int .i64 now)) := fun W1 c la2 L2 F2 hr hm hk => (hm.put2n h2 z s hs3 now hr HNN.out.2 (World.block_lt_of_cell? W1 ⟨ab, 1, none⟩ hk.1)).mono fun _ _ ⟨q1, q2, q3⟩ => ⟨q1, q2, q3 _ _ hk.1, q3 _ _ hk.2.1, q3 _ _ hk.2.2⟩
                            have H3 : Hid (∀ W2 ev c la2 L2 F2, (∃ lv2, BothF hC w t p m la2 L2 F2 lv2 W2 ∧ ¬ FFoot m lv2 ab) → ((∀ W, ErrIs a W c (-1) ev) ∧ ¬ F2 ab) → (W2.cell? ⟨ab, 1, none⟩ = some (.string s) ∧ W2.cell? ⟨ab, 2, none⟩ = some (.int .u64 (key : Nat)) ∧ W2.cell? ⟨ab, 3, none⟩ = some (.int .i64 now)) → Calls Tryz.prog 6 #[ev, .int .i64 (c : Nat)] W2 fun e W3 => e = .returned (.bool true) ∧ (∃ lv2, BothF hC w t p m la2 L2 F2 lv2 W3 ∧ ¬ F2 ab ∧ ¬ FFoot m lv2 ab) ∧ W3.cell? ⟨ab, 1, none⟩ = some (.string s) ∧ W3.cell? ⟨ab, 2, none⟩ = some (.int .u64 (key : Nat)) ∧ W3.cell? ⟨ab, 3, none⟩ = some (.int .i64 now)) := fun W2 ev c la2 L2 F2 ⟨lv2, hb2, hf2⟩ herr hk => (codedF_is (HE.out.later hb2.below) (herr.1 W2)).mono fun _ _ ⟨q1, q2⟩ => ⟨q1, ⟨lv2, hb2.later q2, herr.2, hf2⟩, below_cell q2 hk.1, below_cell q2 hk.2.1, below_cell q2 hk.2.2⟩
                            clear hB hnn hz hzl habl
                            go_wp2_with fail
                            go_region_held3 (fun w' => w'.cell? ⟨ab, 1, none⟩ = some (.string s) ∧ w'.cell? ⟨ab, 2, none⟩ = some (.int .u64 (key : Nat)) ∧ w'.cell? ⟨ab, 3, none⟩ = some (.int .i64 now))
                              (first | assumption | exact hks0)
                              (first
                                | (go_at_call 8; refine (H1.out _ (by first | exact Below.refl _ _ | exact below_drewN (Below.refl _ _) 1)).mono ?_; rintro e w7 ⟨ev, c, la2, L2, F2, rfl, hres, hmid, herr, hks7⟩)
                                | (go_at_call 9; refine (H2.out _ _ _ _ _ hres hmid (by assumption)).mono ?_; rintro e w8 ⟨rfl, hbb, hks8⟩)
                                | (go_at_call 6; refine (H3.out _ _ _ _ _ _ hbb herr (by assumption)).mono ?_; rintro e w9 ⟨rfl, hb9, hks9⟩))
                            all_goals
                              obtain ⟨lv2, hB9, hn9⟩ := hb9
                              have HB9 : Hid (BothF hC w t p m la2 L2 F2 lv2 w9) := hB9
                              have HN9 : Hid (¬ F2 ab ∧ ¬ FFoot m lv2 ab) := hn9
                              have HK9 : Hid (w9.cell? ⟨ab, 1, none⟩ = some (.string s) ∧ w9.cell? ⟨ab, 2, none⟩ = some (.int .u64 (key : Nat)) ∧ w9.cell? ⟨ab, 3, none⟩ = some (.int .i64 now)) := hks9
                              clear hB9 hn9 hks0 hks7 hks8 hks9 hbb hmid hres herr H1 H2 H3
                              go_wp2
                              exact ⟨⟨kk + 1, la2, L2, F2, lv2, by omega, by simp, HB9.out, HN9.out, HK9.out⟩, by simp [intOf]; omega⟩
                          · have dk : decide ((kk : Int) < 120) = false := by simp; omega
                            obtain ⟨w9, hw9⟩ : ∃ w9, w9 = wm := ⟨_, rfl⟩
                            subst hw9
                            have HB9 : Hid (BothF hC w t p m la3 L3 F3 lv3 w9) := hB
                            obtain ⟨la2, hla2⟩ : ∃ la2, la2 = la3 := ⟨_, rfl⟩
                            subst hla2
                            obtain ⟨L2, hL2⟩ : ∃ L2, L2 = L3 := ⟨_, rfl⟩
                            subst hL2
                            obtain ⟨F2, hF2⟩ : ∃ F2, F2 = F3 := ⟨_, rfl⟩
                            subst hF2
                            obtain ⟨lv2, hlv3⟩ : ∃ lv2, lv2 = lv3 := ⟨_, rfl⟩
                            subst hlv3
                            clear hB hnn hks0
                            go_wp2_with fail
                            obtain ⟨q2, cq2, hlv2, _⟩ := HB9.out.mf.row
                            subst hlv2
                            have HLI : Hid (∀ W, Below w9.heap.size w9 W → Calls Tryz.prog 21 #[.pointer (some ⟨p, 0, none⟩)] W fun e w' => ∃ v, e = .returned v ∧ Flows1 w' v L2 ∧ Below w9.heap.size w9 w') := fun W hW => (hC.list t la2 L2 F2 p W (hC.later HB9.out.rep hW) HB9.out.ok).mono fun _ _ ⟨v, q1, q2, q3⟩ => ⟨v, q1, q2, below_then hW q3⟩
                            have HSF : Hid (∀ W v, Below w9.heap.size w9 W → Flows1 W v L2 → Calls Tryz.prog 20 #[v, .slice q2 L2.length cq2] W fun e w' => e = .returned (.bool true) ∧ Below w9.heap.size w9 w') := fun W v hW hv => (sameFlows_same v _ L2 W hv (flows_of_owns (HB9.out.mf.later hW).own).1 (by have := HB9.out.ok.len; omega)).mono fun _ _ ⟨q1, q2⟩ => ⟨q1, below_then hW q2⟩
                            have k2 : w9.cell? ⟨m, 2, none⟩ = some (.slice q2 L2.length cq2) := HB9.out.mf.c2
                            have HKC : Hid (∀ W, Below w9.heap.size w9 W → Below w9.heap.size w9 W ∧ W.cell? ⟨m, 2, none⟩ = some (.slice q2 L2.length cq2)) := fun W hW => ⟨hW, below_cell hW k2⟩
                            have d200 : decide (200 < (L2.length : Int)) = false := by have := HB9.out.ok.len; simp; omega
                            go_region_held3 (fun w' => Below w9.heap.size w9 w' ∧ w'.cell? ⟨m, 2, none⟩ = some (.slice q2 L2.length cq2))
                              (first | exact HKC.out _ (by assumption) | exact HKC.out _ (below_drewN (Below.refl _ _) 1) | exact HKC.out _ (Below.refl _ _))
                              (first
                                | (go_at_call 21; refine (HLI.out _ (by first | assumption | exact Below.refl _ _ | exact below_drewN (Below.refl _ _) 1)).mono ?_; rintro e w10 ⟨v10, rfl, hv10, hb10⟩)
                                | (go_at_call 20; refine (HSF.out _ _ (by assumption) (by assumption)).mono ?_; rintro e w11 ⟨rfl, hb11⟩))
                            all_goals
                              go_wp2
                              exact ⟨⟨cr + 1, i + 1, la2, L2, F2, _, by omega, by omega, by go_num, by go_num, HB9.out.later (by assumption)⟩, by simp [intOf]; omega⟩
                  | false =>
                    as_aux_lemma =>
                      go_wp2_with fail
                      have HIN : Hid (FlIn fl) := fun y hy => ⟨(HFO.out.fl y hy).1, Nat.le_trans (HSH.out.2 y hy) (by decide), (HFO.out.fl y hy).2.2⟩
                      have hfl2 : fl.length ≤ 201 := by rcases HSH.out.1 with h | h <;> omega
                      have HO : Hid (∀ W, Below wl.heap.size wl W → Calls Tryz.prog 17 #[.slice fp fl.length fc] W fun e W1 => ∃ v5, e = .returned v5 ∧ (Flows1 W1 v5 fl ∧ (∀ b o n c, v5 = .slice (some ⟨b, o, none⟩) n c → wl.heap.size ≤ b) ∧ Below wl.heap.size wl W1) ∧ W1.cell? ⟨ab, 3, none⟩ = some (.int .i64 now) ∧ W1.cell? ⟨ab, 4, none⟩ = some (.slice fp fl.length fc)) := fun W hW => (ownF_any _ fl W (HFL.out.later (below_then HBA.out.below hW)) hfl2).mono fun _ _ ⟨v5, q1, q2, q3, q4⟩ => ⟨v5, q1, ⟨q2, fun b o n c e => Nat.le_trans hW.size (q4 b o n c e), below_then hW q3⟩, below_cell (below_then hW q3) x3, below_cell (below_then hW q3) x4⟩
                      have HAD : Hid (∀ W v5, (Flows1 W v5 fl ∧ (∀ b o n c, v5 = .slice (some ⟨b, o, none⟩) n c → wl.heap.size ≤ b) ∧ Below wl.heap.size wl W) → Calls Tryz.prog 16 #[.pointer (some ⟨p, 0, none⟩), v5, .int .i64 now] W fun e W1 => ∃ n ev c pl la2 L2 F2, e = .returned (.tuple #[.int .i64 (n : Nat), ev]) ∧ ResD la L fl now la2 L2 n c pl ∧ MidF hC w t p m la L F' lv la2 L2 F2 W1 ∧ (ErrIs a W1 c pl ev ∧ ∀ b, ev = .iface 76 (.pointer (some ⟨b, 0, none⟩)) → wl.heap.size ≤ b) ∧ W1.cell? ⟨ab, 3, none⟩ = some (.int .i64 now) ∧ W1.cell? ⟨ab, 4, none⟩ = some (.slice fp fl.length fc)) := fun W v5 hv => ((HBA.out.later hv.2.2).add1 HE.out h1 h2 v5 fl hv.1 (fun b o n c e hf => by have h3 := hC.lt HBA.out.rep b hf; have h4 := hv.2.1 b o n c e; omega) hfl2 HIN.out now HNF.out).mono fun _ _ ⟨n, ev, c, pl, la2, L2, F2, q1, q2, q3, q4, q5, q6⟩ => ⟨n, ev, c, pl, la2, L2, F2, q1, q2, q3, ⟨q4, fun b e => Nat.le_trans hv.2.2.size (q5 b e)⟩, q6 _ _ (below_cell hv.2.2 x3), q6 _ _ (below_cell hv.2.2 x4)⟩
                      have hks0 : wl.cell? ⟨ab, 3, none⟩ = some (.int .i64 now) ∧ wl.cell? ⟨ab, 4, none⟩ = some (.slice fp fl.length fc) := ⟨x3, x4⟩
                      have HML : Hid (∀ b, FFoot m lv b → b < wl.heap.size) := fun b hb => (HBA.out.mf.lt b hb).1
                      have HMW : Hid (w.heap.size ≤ m) := HBA.out.mw m (Or.inl rfl)
                      clear HBA x0 x1 x2 hqA hqB hqC hqD hqE
                      go_region_held3 (fun w' => w'.cell? ⟨ab, 3, none⟩ = some (.int .i64 now) ∧ w'.cell? ⟨ab, 4, none⟩ = some (.slice fp fl.length fc))
                        (first | assumption | exact hks0)
                        (first
                          | (go_at_call 17; refine (HO.out _ (by first | exact Below.refl _ _ | exact below_drewN (Below.refl _ _) 1)).mono ?_; rintro e w6 ⟨v5, rfl, hv5, hks6⟩)
                          | (go_at_call 16; refine (HAD.out _ _ hv5).mono ?_; rintro e w7 ⟨n, ev, c, pl, la2, L2, F2, rfl, hres, hmid, herr, hks7⟩))
                      all_goals
                        have HRES : Hid (ResD la L fl now la2 L2 n c pl) := hres
                        have HMID : Hid (MidF hC w t p m la L F' lv la2 L2 F2 w7) := hmid
                        have HERR : Hid (ErrIs a w7 c pl ev ∧ ∀ b, ev = .iface 76 (.pointer (some ⟨b, 0, none⟩)) → wl.heap.size ≤ b) := herr
                        obtain ⟨y3, y4⟩ := hks7
                        clear hres hmid herr hks6 hv5 HO HAD hks0 x3 x4
                        go_wp2_with fail
                        refine (HMID.out.add2 _ fl (HFL.out.later HMID.out.below) (fun h0 b o nn cc e => by
                          rcases HFL.out with ⟨h, _⟩ | ⟨b2, o2, c2, e2, _, hcells⟩
                          · rw [h] at h0; cases h0
                          · rw [e2] at e
                            cases e
                            have := World.block_lt_of_cell? w ⟨b, o + 0 * 3, none⟩ (hcells 0 h0).1
                            have h5 := HMW.out
                            exact Nat.lt_of_lt_of_le this h5) hfl2 HIN.out now HRES.out HERR.out.1 (fun b e hf => by have h3 := HML.out b hf; have h4 := HERR.out.2 b e; omega) HNM.out).mono ?_
                        rintro e w8 ⟨rfl, ⟨lv2, hB8⟩, herr8, _⟩
                        have HB8 : Hid (BothF hC w t p m la2 L2 F2 lv2 w8) := hB8
                        have HERR8 : Hid (ErrIs a w8 c pl ev) := herr8
                        clear hB8 herr8 y3 y4
                        go_wp2_with fail
                        have hb8 : Below w8.heap.size w8 (w8.alloc (.cells #[.int .i64 (c : Nat), .int .i64 pl] 52)) := (Below.refl _ _).alloc (Nat.le_refl _) _
                        refine (faultedF_is ((HE.out.later HB8.out.below).later hb8) (HERR8.out.later hb8)).mono ?_
                        rintro e w9 ⟨rfl, hb9⟩
                        have HB9 : Hid (BothF hC w t p m la2 L2 F2 lv2 w9) := (HB8.out.later hb8).later hb9
                        have hnn : ((n : Int) != (n : Int)) = false := by simp
                        clear hb8 hb9 HB8 HERR8 HMID HRES HERR
                        go_wp2_with fail
                        obtain ⟨q2, cq2, hlv2, _⟩ := HB9.out.mf.row
                        subst hlv2
                        have HLI : Hid (∀ W, Below w9.heap.size w9 W → Calls Tryz.prog 21 #[.pointer (some ⟨p, 0, none⟩)] W fun e w' => ∃ v, e = .returned v ∧ Flows1 w' v L2 ∧ Below w9.heap.size w9 w') := fun W hW => (hC.list t la2 L2 F2 p W (hC.later HB9.out.rep hW) HB9.out.ok).mono fun _ _ ⟨v, q1, q2, q3⟩ => ⟨v, q1, q2, below_then hW q3⟩
                        have HSF : Hid (∀ W v, Below w9.heap.size w9 W → Flows1 W v L2 → Calls Tryz.prog 20 #[v, .slice q2 L2.length cq2] W fun e w' => e = .returned (.bool true) ∧ Below w9.heap.size w9 w') := fun W v hW hv => (sameFlows_same v _ L2 W hv (flows_of_owns (HB9.out.mf.later hW).own).1 (by have := HB9.out.ok.len; omega)).mono fun _ _ ⟨q1, q2⟩ => ⟨q1, below_then hW q2⟩
                        have k2 : w9.cell? ⟨m, 2, none⟩ = some (.slice q2 L2.length cq2) := HB9.out.mf.c2
                        have HKC : Hid (∀ W, Below w9.heap.size w9 W → Below w9.heap.size w9 W ∧ W.cell? ⟨m, 2, none⟩ = some (.slice q2 L2.length cq2)) := fun W hW => ⟨hW, below_cell hW k2⟩
                        have d200 : decide (200 < (L2.length : Int)) = false := by have := HB9.out.ok.len; simp; omega
                        go_region_held3 (fun w' => Below w9.heap.size w9 w' ∧ w'.cell? ⟨m, 2, none⟩ = some (.slice q2 L2.length cq2))
                          (first | exact HKC.out _ (by assumption) | exact HKC.out _ (below_drewN (Below.refl _ _) 1) | exact HKC.out _ (Below.refl _ _))
                          (first
                            | (go_at_call 21; refine (HLI.out _ (by first | assumption | exact Below.refl _ _ | exact below_drewN (Below.refl _ _) 1)).mono ?_; rintro e w10 ⟨v10, rfl, hv10, hb10⟩)
                            | (go_at_call 20; refine (HSF.out _ _ (by assumption) (by assumption)).mono ?_; rintro e w11 ⟨rfl, hb11⟩))
                        all_goals
                          go_wp2
                          exact ⟨⟨cr, i + 1, la2, L2, F2, _, by omega, by omega, by go_num, rfl, HB9.out.later (by assumption)⟩, by simp [intOf]; omega⟩
        · clear hlong
          go_wp2
          go_ret
          exact ⟨rfl, HBA.out.below⟩
    · have hii : decide ((i : Int) < (l.length : Int)) = false := by simp; omega
      have HBW : Hid (Below w.heap.size w wo) := hB.below
      clear hB
      go_wp2
      go_ret
      exact ⟨rfl, HBW.out⟩
end Go.Proofs.YtijdaaghomclmabGreatDoor
