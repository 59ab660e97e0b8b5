/- The law HealthActs, where hosts and edges are right. -/
import Derived.Test.YtkpjecpaejdgaabDoorHA3
import Derived.Deep.RegionHeld3
import Derived.Test.YtkpjecpaejdgaabDoorTexts
namespace Go.Proofs.YtkpjecpaejdgaabDoor
open Go.RowKit

/-- an act: its kind, its host, well -/
structure Ac where
  kind : ByteArray
  host : ByteArray
  well : Bool
/-- acts in memory, where they are read -/
def ActsAt (w : World) (p : Option Addr) (l : List Ac) : Prop := ∀ k (h : k < l.length), ∃ b o, p = some ⟨b, o, none⟩ ∧ w.cell? ⟨b, o + k * 3, none⟩ = some (.string l[k].kind) ∧ w.cell? ⟨b, o + k * 3 + 1, none⟩ = some (.string l[k].host) ∧ w.cell? ⟨b, o + k * 3 + 2, none⟩ = some (.bool l[k].well)
theorem ActsAt.later {w w' : World} {p : Option Addr} {l : List Ac} (h : ActsAt w p l) (hb : Below w.heap.size w w') : ActsAt w' p l := fun k hk => by
  obtain ⟨b, o, e, h1, h2, h3⟩ := h k hk
  exact ⟨b, o, e, below_cell hb h1, below_cell hb h2, below_cell hb h3⟩

set_option maxRecDepth 100000 in
set_option maxHeartbeats 4000000 in
theorem acts_good (hC : HealthC) (a : Nat → Addr) (hv : Value) (xs : List ByteArray) (f r : Nat) (lp : Option Addr) (lc : Nat) (l : List Ac) (w : World) (he : Errs a w) (hst1 : Strs1 w hv xs) (hsh : Short xs) (hf0 : IsFault xs 0 (-1)) (hf1 : 1 ≤ f) (hf : f ≤ 10) (hr1 : 1 ≤ r) (hr : r ≤ 10) (hl : l.length ≤ 100) (hla : ActsAt w lp l) (hls : ∀ x ∈ l, x.kind.size ≤ maxLen ∧ x.host.size ≤ maxLen) :
    Calls Tryd.prog 9 #[hv, .int .i64 (f : Nat), .int .i64 (r : Nat), .slice lp l.length lc] w fun e w' => e = .returned (.bool true) ∧ Below w.heap.size w w' := by
  have HE : Hid (Errs a w) := he
  have HV : Hid (Strs1 w hv xs) := hst1
  have HSH : Hid (Short xs) := hsh
  have HF0 : Hid (IsFault xs 0 (-1)) := hf0
  have HLA : Hid (ActsAt w lp l) := hla
  have HLS : Hid (∀ x ∈ l, x.kind.size ≤ maxLen ∧ x.host.size ≤ maxLen) := hls
  have hwt := watched_any hC a w he.four
  have h12 := (fault0 hf0).2.1
  have d1 : decide (100 < (l.length : Int)) = false := by simp; omega
  obtain ⟨hp, hcp, rfl, hxc⟩ : ∃ hp hcp, hv = .slice hp xs.length hcp ∧ ∀ k (h : k < xs.length), ∃ b o, hp = some ⟨b, o, none⟩ ∧ w.cell? ⟨b, o + k, none⟩ = some (.string xs[k]) := by
    rcases hst1 with ⟨rfl, rfl | ⟨ad, c, rfl⟩⟩ | ⟨b, o, c, rfl, _, hc⟩
    · exact ⟨_, _, rfl, fun k h => absurd h (by simp)⟩
    · exact ⟨_, _, rfl, fun k h => absurd h (by simp)⟩
    · exact ⟨_, _, rfl, fun k h => ⟨b, o, rfl, hc k h⟩⟩
  have HXC : Hid (∀ k (h : k < xs.length), ∃ b o, hp = some ⟨b, o, none⟩ ∧ w.cell? ⟨b, o + k, none⟩ = some (.string xs[k])) := hxc
  clear he hst1 hsh hf0 hla hls hxc
  go_enter Tryd.func9, Tryd.ntmps9
  go_wp2_with fail
  refine hwt.mono ?_
  rintro e w1 ⟨rfl, hb1⟩
  clear hwt
  go_wp2_with fail
  refine (long_short _ xs w1 (HV.out.later hb1).strs HSH.out).mono ?_
  rintro e w1' ⟨rfl, rfl⟩
  go_wp2_with fail
  refine (ownTexts_any _ xs w1' (HV.out.later hb1) (by omega)).mono ?_
  rintro e w2 ⟨v2, rfl, hv2, hb2⟩
  have hbw2 : Below w.heap.size w w2 := below_then hb1 hb2
  have hnew := hC.newG a v2 xs f r w2 (HE.out.later hbw2).four hv2 HF0.out (fun s hs => by
    obtain ⟨k, hk, rfl⟩ := List.getElem_of_mem hs
    exact Nat.le_trans (HSH.out.2 k hk) (by decide)) hf1 hf hr1 hr
  clear hb1 hb2 hv2
  go_wp2_with fail
  refine hnew.mono ?_
  rintro e w3 ⟨p, F, rfl, hR, hF, hb3⟩
  have hbw3 : Below w.heap.size w w3 := below_then hbw2 hb3
  have HR : Hid (hC.Rep f r (Lh.hnew xs) F p w3) := hR
  have HF : Hid (∀ b, F b → w.heap.size ≤ b) := fun b hb => Nat.le_trans hbw2.size (hF b hb)
  clear hnew hR hF hbw2 hb3
  go_wp2_with fail
  refine (healthFault_any _ xs f r w3 0 (-1) (Or.inr ⟨HF0.out, by omega, by omega, by omega, by omega, rfl, rfl⟩) (HV.out.later hbw3).strs (fun k h => Nat.le_trans (HSH.out.2 k h) (by decide)) (by omega)).mono ?_
  rintro e w4 ⟨rfl, hb4⟩
  have hb5 : Below w3.heap.size w3 (w4.alloc (.cells #[.int .i64 0, .int .i64 (-1)] 46)) := hb4.alloc hb4.size _
  have hbw5 : Below w.heap.size w (w4.alloc (.cells #[.int .i64 0, .int .i64 (-1)] 46)) := below_then hbw3 hb5
  have hnh := newHealth_any hp hcp xs f r _ (fun k h => by
    obtain ⟨b, o, e, hc⟩ := HXC.out k h
    exact ⟨b, o, e, below_cell hbw5 hc⟩) h12 hf hr
  clear hb4
  go_wp2_with fail
  refine hnh.mono ?_
  rintro e w6 ⟨m, lv, rfl, hmh, hm5, hb6⟩
  have HB0 : Hid (Both hC w f r p m 0 (Lh.hnew xs) F (newM xs) lv w6) := by
    have hb36 : Below w3.heap.size w3 w6 := below_then hb5 hb6
    have hlt := hC.lt HR.out
    have h5s := hb5.size
    refine ⟨hC.later HR.out hb36, hmh, newM_hst xs, Lh.hnew_ok hf1 hf hr1 hr h12 (fault0 HF0.out).2.2 (fun s hs => ?_), fun x hx => ?_, HF.out, fun b hb => ?_, fun b hb hm => ?_, fun x hx => ?_, below_then hbw5 hb6⟩
    · obtain ⟨k, hk, rfl⟩ := List.getElem_of_mem hs
      exact Nat.le_trans (HSH.out.2 k hk) (by decide)
    · obtain ⟨s, hs, rfl⟩ := List.mem_map.1 hx
      exact fault_nm HF0.out s hs
    · have := (hmh.lt b hb).2
      have := hbw5.size
      omega
    · have := (hmh.lt b hm).2
      have := hlt b hb
      omega
    · obtain ⟨s, hs, rfl⟩ := List.mem_map.1 hx
      simp
  clear hnh hmh hm5 hb6 hbw5 hb5 hbw3 HR HF
  go_wp2_with fail
  go_loopw [14] (fun t W => ∃ (i : Nat) (l' : List Lh.Hh) (F : Nat → Prop) (L : List Mh) (lv : Value), i ≤ l.length ∧ t = .int .i64 (i : Nat) ∧ Both hC w f r p m i l' F L lv W) (fun t _ => l.length - (intOf t).toNat)
  case atStart => exact ⟨0, _, F, _, lv, Nat.zero_le _, rfl, HB0.out⟩
  case round =>
    clear HB0
    obtain ⟨i, l', F', L, lv', hi, rfl, hB⟩ := hrel
    obtain ⟨wo, hwo⟩ : ∃ wo, wo = wr := ⟨_, rfl⟩
    subst hwo
    by_cases hlt : i < l.length
    · obtain ⟨lb, lo, rfl, hk0, hk1, hk2⟩ := HLA.out i hlt
      have ck := below_cell hB.below hk0
      have ch := below_cell hB.below hk1
      have cw := below_cell hB.below hk2
      have hsz := HLS.out _ (List.getElem_mem hlt)
      have hii : (i : Int) < (l.length : Int) := by omega
      generalize l[i] = x at *
      obtain ⟨kd, s, well⟩ := x
      dsimp only at ck ch cw hsz
      obtain ⟨hsz1, hsz2⟩ := hsz
      have hs64 : s.size ≤ 9223372036854775807 := by unfold maxLen at hsz2; omega
      have HK1 : Hid (kd.size ≤ maxLen) := hsz1
      have HBo : Hid (Both hC w f r p m i l' F' L lv' wo) := hB
      obtain ⟨ab, hab⟩ : ∃ ab, wo.heap.size = ab := ⟨_, rfl⟩
      have HAB : Hid (wo.heap.size = ab) := hab
      clear hk0 hk1 hk2 hsz1 hsz2 hB
      by_cases hbig : 60 < s.size
      · have hd : decide (60 < (s.size : Int)) = true := by simp; omega
        clear hab
        go_wp2
        go_ret
        exact ⟨rfl, HBo.out.below.alloc HBo.out.below.size _⟩
      · have hd : decide (60 < (s.size : Int)) = false := by simp; omega
        have hs3 : s.size ≤ 300 := by omega
        have hBa : Both hC w f r p m i l' F' L lv' (wo.alloc (.cells #[.string kd, .string s, .bool well] 71)) := HBo.out.later ((Below.refl _ _).alloc (Nat.le_refl _) _)
        have x0 : (wo.alloc (.cells #[.string kd, .string s, .bool well] 71)).cell? ⟨ab, 0, none⟩ = some (.string kd) := by rw [← hab]; simp
        have x1 : (wo.alloc (.cells #[.string kd, .string s, .bool well] 71)).cell? ⟨ab, 1, none⟩ = some (.string s) := by rw [← hab]; simp
        have x2 : (wo.alloc (.cells #[.string kd, .string s, .bool well] 71)).cell? ⟨ab, 2, none⟩ = some (.bool well) := by rw [← hab]; simp
        have HNF : Hid (¬ F' ab) := fun h => by
          have := hC.lt HBo.out.rep ab h
          omega
        have HNM : Hid (¬ MFoot m L lv' ab) := fun h => by
          have := (HBo.out.mh.lt ab h).1
          omega
        have HBA : Hid (Both hC w f r p m i l' F' L lv' (wo.alloc (.cells #[.string kd, .string s, .bool well] 71))) := hBa
        clear hBa
        cases hq1 : (kd.toList == [97, 100, 100]) with
        | true =>
          go_wp2_with fail
          try rw [hab]
          generalize wo.alloc (.cells #[.string kd, .string s, .bool well] 71) = wa at *
          have H1 : Hid (∀ W, Below wa.heap.size wa W → Calls Tryd.prog 36 #[.pointer (some ⟨p, 0, none⟩), .string s] W fun e W1 => ∃ ev c l2 F2, e = .returned ev ∧ ResA l' s l2 c ∧ Mid hC a w f r p m i l' F' L lv' l2 F2 ev c W1 ∧ W1.cell? ⟨ab, 1, none⟩ = some (.string s)) := fun W hW => (HBA.out.later hW).add1 HE.out s hs3 (below_cell hW x1) HNF.out
          have H2 : Hid (∀ W1 ev c l2 F2, ResA l' s l2 c → Mid hC a w f r p m i l' F' L lv' l2 F2 ev c W1 → W1.cell? ⟨ab, 1, none⟩ = some (.string s) → Calls Tryd.prog 37 #[.pointer (some ⟨m, 0, none⟩), .string s] W1 fun e W2 => e = .returned (.int .i64 (c : Nat)) ∧ ((∃ L2 lv2, Both hC w f r p m i l2 F2 L2 lv2 W2) ∧ ∀ W, ErrIs a W c (-1) ev) ∧ W2.cell? ⟨ab, 1, none⟩ = some (.string s)) := fun W1 ev c l2 F2 hr hm hc => (hm.add2 hs3 hr hc HNM.out).mono fun _ _ ⟨q1, q2, q3⟩ => ⟨q1, ⟨q2, hm.err⟩, q3⟩
          have H3 : Hid (∀ W2 ev c l2 F2, ((∃ L2 lv2, Both hC w f r p m i l2 F2 L2 lv2 W2) ∧ ∀ W, ErrIs a W c (-1) ev) → W2.cell? ⟨ab, 1, none⟩ = some (.string s) → Calls Tryd.prog 35 #[ev, .int .i64 (c : Nat)] W2 fun e W3 => e = .returned (.bool true) ∧ (∃ L2 lv2, Both hC w f r p m i l2 F2 L2 lv2 W3) ∧ W3.cell? ⟨ab, 1, none⟩ = some (.string s)) := fun W2 ev c l2 F2 ⟨⟨L2, lv2, hb2⟩, herr⟩ hc => (coded2_is (HE.out.later hb2.below) (herr W2)).mono fun _ _ ⟨q1, q2⟩ => ⟨q1, ⟨L2, lv2, hb2.later q2⟩, below_cell q2 hc⟩
          clear HBA x0 x2 ck ch cw hab
          go_region_held3 (fun w' => w'.cell? ⟨ab, 1, none⟩ = some (.string s))
            (first | assumption | exact x1)
            (first
              | (go_at_call 36; refine (H1.out _ (by first | exact Below.refl _ _ | exact below_drewN (Below.refl _ _) 1)).mono ?_; rintro e w7 ⟨ev, c, l2, F2, rfl, hres, hmid, hcab⟩)
              | (go_at_call 37; refine (H2.out _ _ _ _ _ hres hmid (by assumption)).mono ?_; rintro e w8 ⟨rfl, hbb, hcab2⟩)
              | (go_at_call 35; refine (H3.out _ _ _ _ _ hbb (by assumption)).mono ?_; rintro e w9 ⟨rfl, hb9, hcab3⟩))
          all_goals
            obtain ⟨L2, lv2, hB9⟩ := hb9
            have HB9 : Hid (Both hC w f r p m (i + 1) l2 F2 L2 lv2 w9) := hB9.mono (Nat.le_succ i)
            have hx9 : w9.cell? ⟨ab, 1, none⟩ = some (.string s) := hcab3
            clear hB9 hcab hcab2 hcab3 hbb hmid hres H1 H2 H3
            have hsm := HB9.out.same
            have HI : Hid (∀ W, Below w9.heap.size w9 W → Calls Tryd.prog 31 #[.pointer (some ⟨p, 0, none⟩), .string s] W fun e w' => e = .returned (.bool (Lh.hup l2 s)) ∧ Below w9.heap.size w9 w') := fun W hW => (hC.is f r l2 F2 p s W (hC.later HB9.out.rep hW) HB9.out.ok hs3).mono fun _ _ ⟨q1, q2⟩ => ⟨q1, below_then hW q2⟩
            have HIU : Hid (∀ W, Below w9.heap.size w9 W → Calls Tryd.prog 41 #[.pointer (some ⟨m, 0, none⟩), .string s] W fun e w' => e = .returned (.bool (Lh.hup l2 s)) ∧ Below w9.heap.size w9 w') := fun W hW => (isUp_any (HB9.out.mh.later hW) (by rw [hsm]; exact HB9.out.ok) s).mono fun _ _ ⟨q1, q2⟩ => ⟨by rw [q1, hsm], by rw [q2]; exact hW⟩
            have HU : Hid (∀ W, Below w9.heap.size w9 W → Calls Tryd.prog 43 #[.pointer (some ⟨p, 0, none⟩)] W fun e w' => ∃ v, e = .returned v ∧ (∀ W', Below w'.heap.size w' W' → Strs1 W' v (Lh.hups l2)) ∧ Below w9.heap.size w9 w') := fun W hW => (hC.up f r l2 F2 p W (hC.later HB9.out.rep hW) HB9.out.ok).mono fun _ _ ⟨v, q1, q2, q3⟩ => ⟨v, q1, fun W' hW' => q2.later hW', below_then hW q3⟩
            have HUM : Hid (∀ W v0, Below w9.heap.size w9 W → (∀ W', Below W.heap.size W W' → Strs1 W' v0 (Lh.hups l2)) → Calls Tryd.prog 44 #[.pointer (some ⟨m, 0, none⟩)] W fun e w' => ∃ v, e = .returned v ∧ (Strs1 w' v0 (Lh.hups l2) ∧ Strs1 w' v (Lh.hups l2)) ∧ Below w9.heap.size w9 w') := fun W v0 hW hv0 => (ups_any (HB9.out.mh.later hW) HB9.out.size).mono fun _ _ ⟨v, q1, q2, q3⟩ => ⟨v, q1, ⟨hv0 _ q3, by rw [← hsm]; exact q2⟩, below_then hW q3⟩
            have hul : (Lh.hups l2).length < 1000000 := by
              have h1 := HB9.out.ok.len
              unfold Lh.hups
              rw [List.length_map]
              have := List.length_filter_le (fun x : Lh.Hh => x.2.1) l2
              omega
            have HSM : Hid (∀ W v v', Below w9.heap.size w9 W → (Strs1 W v (Lh.hups l2) ∧ Strs1 W v' (Lh.hups l2)) → Calls Tryd.prog 42 #[v, v'] W fun e w' => e = .returned (.bool true) ∧ Below w9.heap.size w9 w') := fun W v v' hW hv => (sameTexts_any v v' _ _ W hv.1.strs hv.2.strs hul hul).mono fun _ _ ⟨q1, q2⟩ => ⟨by rw [q1, decide_eq_true rfl], below_then hW q2⟩
            have HKC : Hid (∀ W, Below w9.heap.size w9 W → Below w9.heap.size w9 W ∧ W.cell? ⟨ab, 1, none⟩ = some (.string s)) := fun W hW => ⟨hW, below_cell hW hx9⟩
            generalize Lh.hups l2 = T at *
            generalize Lh.hup l2 s = q at *
            have hqq : (q != q) = false := by simp
            clear hsm hul
            go_wp2_with fail
            go_region_held3 (fun w' => Below w9.heap.size w9 w' ∧ w'.cell? ⟨ab, 1, none⟩ = some (.string s))
              (first | exact HKC.out _ (by assumption) | exact HKC.out _ (below_drewN (Below.refl _ _) 1) | exact HKC.out _ (Below.refl _ _))
              (first
                | (go_at_call 31; refine (HI.out _ (by first | assumption | exact Below.refl _ _ | exact below_drewN (Below.refl _ _) 1)).mono ?_; rintro e w10 ⟨rfl, hb10⟩)
                | (go_at_call 41; refine (HIU.out _ (by assumption)).mono ?_; rintro e w11 ⟨rfl, hb11⟩)
                | (go_at_call 43; refine (HU.out _ (by assumption)).mono ?_; rintro e w12 ⟨v12, rfl, hv12, hb12⟩)
                | (go_at_call 44; refine (HUM.out _ _ (by assumption) (by assumption)).mono ?_; rintro e w13 ⟨v13, rfl, hv13, hb13⟩)
                | (go_at_call 42; refine (HSM.out _ _ _ (by assumption) (by assumption)).mono ?_; rintro e w14 ⟨rfl, hb14⟩))
            all_goals
              go_wp2
              exact ⟨⟨i + 1, l2, F2, L2, lv2, by omega, by go_num, HB9.out.later (by assumption)⟩, by simp [intOf]; omega⟩
        | false =>
          cases hq2 : (kd.toList == [114, 101, 109, 111, 118, 101]) with
          | true =>
            go_wp2_with fail
            try rw [hab]
            generalize wo.alloc (.cells #[.string kd, .string s, .bool well] 71) = wa at *
            have H1 : Hid (∀ W, Below wa.heap.size wa W → Calls Tryd.prog 38 #[.pointer (some ⟨p, 0, none⟩), .string s] W fun e W1 => ∃ ev c l2 F2, e = .returned ev ∧ ResR l' s l2 c ∧ Mid hC a w f r p m i l' F' L lv' l2 F2 ev c W1 ∧ W1.cell? ⟨ab, 1, none⟩ = some (.string s)) := fun W hW => (HBA.out.later hW).remove1 HE.out s hs3 (below_cell hW x1) HNF.out
            have H2 : Hid (∀ W1 ev c l2 F2, ResR l' s l2 c → Mid hC a w f r p m i l' F' L lv' l2 F2 ev c W1 → W1.cell? ⟨ab, 1, none⟩ = some (.string s) → Calls Tryd.prog 39 #[.pointer (some ⟨m, 0, none⟩), .string s] W1 fun e W2 => e = .returned (.int .i64 (c : Nat)) ∧ ((∃ L2 lv2, Both hC w f r p m i l2 F2 L2 lv2 W2) ∧ ∀ W, ErrIs a W c (-1) ev) ∧ W2.cell? ⟨ab, 1, none⟩ = some (.string s)) := fun W1 ev c l2 F2 hr hm hc => (hm.remove2 hr hc HNM.out).mono fun _ _ ⟨q1, q2, q3⟩ => ⟨q1, ⟨q2, hm.err⟩, q3⟩
            have H3 : Hid (∀ W2 ev c l2 F2, ((∃ L2 lv2, Both hC w f r p m i l2 F2 L2 lv2 W2) ∧ ∀ W, ErrIs a W c (-1) ev) → W2.cell? ⟨ab, 1, none⟩ = some (.string s) → Calls Tryd.prog 35 #[ev, .int .i64 (c : Nat)] W2 fun e W3 => e = .returned (.bool true) ∧ (∃ L2 lv2, Both hC w f r p m i l2 F2 L2 lv2 W3) ∧ W3.cell? ⟨ab, 1, none⟩ = some (.string s)) := fun W2 ev c l2 F2 ⟨⟨L2, lv2, hb2⟩, herr⟩ hc => (coded2_is (HE.out.later hb2.below) (herr W2)).mono fun _ _ ⟨q1, q2⟩ => ⟨q1, ⟨L2, lv2, hb2.later q2⟩, below_cell q2 hc⟩
            clear HBA x0 x2 ck ch cw hab
            go_region_held3 (fun w' => w'.cell? ⟨ab, 1, none⟩ = some (.string s))
              (first | assumption | exact x1)
              (first
                | (go_at_call 38; refine (H1.out _ (by first | exact Below.refl _ _ | exact below_drewN (Below.refl _ _) 1)).mono ?_; rintro e w7 ⟨ev, c, l2, F2, rfl, hres, hmid, hcab⟩)
                | (go_at_call 39; refine (H2.out _ _ _ _ _ hres hmid (by assumption)).mono ?_; rintro e w8 ⟨rfl, hbb, hcab2⟩)
                | (go_at_call 35; refine (H3.out _ _ _ _ _ hbb (by assumption)).mono ?_; rintro e w9 ⟨rfl, hb9, hcab3⟩))
            all_goals
              obtain ⟨L2, lv2, hB9⟩ := hb9
              have HB9 : Hid (Both hC w f r p m (i + 1) l2 F2 L2 lv2 w9) := hB9.mono (Nat.le_succ i)
              have hx9 : w9.cell? ⟨ab, 1, none⟩ = some (.string s) := hcab3
              clear hB9 hcab hcab2 hcab3 hbb hmid hres H1 H2 H3
              have hsm := HB9.out.same
              have HI : Hid (∀ W, Below w9.heap.size w9 W → Calls Tryd.prog 31 #[.pointer (some ⟨p, 0, none⟩), .string s] W fun e w' => e = .returned (.bool (Lh.hup l2 s)) ∧ Below w9.heap.size w9 w') := fun W hW => (hC.is f r l2 F2 p s W (hC.later HB9.out.rep hW) HB9.out.ok hs3).mono fun _ _ ⟨q1, q2⟩ => ⟨q1, below_then hW q2⟩
              have HIU : Hid (∀ W, Below w9.heap.size w9 W → Calls Tryd.prog 41 #[.pointer (some ⟨m, 0, none⟩), .string s] W fun e w' => e = .returned (.bool (Lh.hup l2 s)) ∧ Below w9.heap.size w9 w') := fun W hW => (isUp_any (HB9.out.mh.later hW) (by rw [hsm]; exact HB9.out.ok) s).mono fun _ _ ⟨q1, q2⟩ => ⟨by rw [q1, hsm], by rw [q2]; exact hW⟩
              have HU : Hid (∀ W, Below w9.heap.size w9 W → Calls Tryd.prog 43 #[.pointer (some ⟨p, 0, none⟩)] W fun e w' => ∃ v, e = .returned v ∧ (∀ W', Below w'.heap.size w' W' → Strs1 W' v (Lh.hups l2)) ∧ Below w9.heap.size w9 w') := fun W hW => (hC.up f r l2 F2 p W (hC.later HB9.out.rep hW) HB9.out.ok).mono fun _ _ ⟨v, q1, q2, q3⟩ => ⟨v, q1, fun W' hW' => q2.later hW', below_then hW q3⟩
              have HUM : Hid (∀ W v0, Below w9.heap.size w9 W → (∀ W', Below W.heap.size W W' → Strs1 W' v0 (Lh.hups l2)) → Calls Tryd.prog 44 #[.pointer (some ⟨m, 0, none⟩)] W fun e w' => ∃ v, e = .returned v ∧ (Strs1 w' v0 (Lh.hups l2) ∧ Strs1 w' v (Lh.hups l2)) ∧ Below w9.heap.size w9 w') := fun W v0 hW hv0 => (ups_any (HB9.out.mh.later hW) HB9.out.size).mono fun _ _ ⟨v, q1, q2, q3⟩ => ⟨v, q1, ⟨hv0 _ q3, by rw [← hsm]; exact q2⟩, below_then hW q3⟩
              have hul : (Lh.hups l2).length < 1000000 := by
                have h1 := HB9.out.ok.len
                unfold Lh.hups
                rw [List.length_map]
                have := List.length_filter_le (fun x : Lh.Hh => x.2.1) l2
                omega
              have HSM : Hid (∀ W v v', Below w9.heap.size w9 W → (Strs1 W v (Lh.hups l2) ∧ Strs1 W v' (Lh.hups l2)) → Calls Tryd.prog 42 #[v, v'] W fun e w' => e = .returned (.bool true) ∧ Below w9.heap.size w9 w') := fun W v v' hW hv => (sameTexts_any v v' _ _ W hv.1.strs hv.2.strs hul hul).mono fun _ _ ⟨q1, q2⟩ => ⟨by rw [q1, decide_eq_true rfl], below_then hW q2⟩
              have HKC : Hid (∀ W, Below w9.heap.size w9 W → Below w9.heap.size w9 W ∧ W.cell? ⟨ab, 1, none⟩ = some (.string s)) := fun W hW => ⟨hW, below_cell hW hx9⟩
              generalize Lh.hups l2 = T at *
              generalize Lh.hup l2 s = q at *
              have hqq : (q != q) = false := by simp
              clear hsm hul
              go_wp2_with fail
              go_region_held3 (fun w' => Below w9.heap.size w9 w' ∧ w'.cell? ⟨ab, 1, none⟩ = some (.string s))
                (first | exact HKC.out _ (by assumption) | exact HKC.out _ (below_drewN (Below.refl _ _) 1) | exact HKC.out _ (Below.refl _ _))
                (first
                  | (go_at_call 31; refine (HI.out _ (by first | assumption | exact Below.refl _ _ | exact below_drewN (Below.refl _ _) 1)).mono ?_; rintro e w10 ⟨rfl, hb10⟩)
                  | (go_at_call 41; refine (HIU.out _ (by assumption)).mono ?_; rintro e w11 ⟨rfl, hb11⟩)
                  | (go_at_call 43; refine (HU.out _ (by assumption)).mono ?_; rintro e w12 ⟨v12, rfl, hv12, hb12⟩)
                  | (go_at_call 44; refine (HUM.out _ _ (by assumption) (by assumption)).mono ?_; rintro e w13 ⟨v13, rfl, hv13, hb13⟩)
                  | (go_at_call 42; refine (HSM.out _ _ _ (by assumption) (by assumption)).mono ?_; rintro e w14 ⟨rfl, hb14⟩))
              all_goals
                go_wp2
                exact ⟨⟨i + 1, l2, F2, L2, lv2, by omega, by go_num, HB9.out.later (by assumption)⟩, by simp [intOf]; omega⟩
          | false =>
            go_wp2_with fail
            try rw [hab]
            generalize wo.alloc (.cells #[.string kd, .string s, .bool well] 71) = wa at *
            refine (HBA.out.look1 HE.out s well hs3 x1 x2 HNF.out).mono ?_
            rintro e w7 ⟨t, ev, c, l2, F2, rfl, hres, hmid, hc7, hc7'⟩
            have HRES : Hid (ResL f r l' s well l2 t c) := hres
            have HMID : Hid (Mid hC a w f r p m i l' F' L lv' l2 F2 ev c w7) := hmid
            clear HBA x0 x1 x2 ck ch cw hab hres hmid
            go_wp2_with fail
            refine (HMID.out.look2 (by omega) HRES.out hc7 HNM.out).mono ?_
            rintro e w8 ⟨rfl, ⟨L2, lv2, hB8⟩, hc8⟩
            have HB8 : Hid (Both hC w f r p m (i + 1) l2 F2 L2 lv2 w8) := hB8
            have htt : (t != t) = false := by simp
            clear hB8 hc7 hc7'
            go_wp2_with fail
            refine (coded2_is (HE.out.later HB8.out.below) (HMID.out.err w8)).mono ?_
            rintro e w9 ⟨rfl, hb9⟩
            have HB9 : Hid (Both hC w f r p m (i + 1) l2 F2 L2 lv2 w9) := HB8.out.later hb9
            have hx9 : w9.cell? ⟨ab, 1, none⟩ = some (.string s) := below_cell hb9 hc8
            clear hc8 hb9 HB8 HMID HRES
            have hsm := HB9.out.same
            have HI : Hid (∀ W, Below w9.heap.size w9 W → Calls Tryd.prog 31 #[.pointer (some ⟨p, 0, none⟩), .string s] W fun e w' => e = .returned (.bool (Lh.hup l2 s)) ∧ Below w9.heap.size w9 w') := fun W hW => (hC.is f r l2 F2 p s W (hC.later HB9.out.rep hW) HB9.out.ok hs3).mono fun _ _ ⟨q1, q2⟩ => ⟨q1, below_then hW q2⟩
            have HIU : Hid (∀ W, Below w9.heap.size w9 W → Calls Tryd.prog 41 #[.pointer (some ⟨m, 0, none⟩), .string s] W fun e w' => e = .returned (.bool (Lh.hup l2 s)) ∧ Below w9.heap.size w9 w') := fun W hW => (isUp_any (HB9.out.mh.later hW) (by rw [hsm]; exact HB9.out.ok) s).mono fun _ _ ⟨q1, q2⟩ => ⟨by rw [q1, hsm], by rw [q2]; exact hW⟩
            have HU : Hid (∀ W, Below w9.heap.size w9 W → Calls Tryd.prog 43 #[.pointer (some ⟨p, 0, none⟩)] W fun e w' => ∃ v, e = .returned v ∧ (∀ W', Below w'.heap.size w' W' → Strs1 W' v (Lh.hups l2)) ∧ Below w9.heap.size w9 w') := fun W hW => (hC.up f r l2 F2 p W (hC.later HB9.out.rep hW) HB9.out.ok).mono fun _ _ ⟨v, q1, q2, q3⟩ => ⟨v, q1, fun W' hW' => q2.later hW', below_then hW q3⟩
            have HUM : Hid (∀ W v0, Below w9.heap.size w9 W → (∀ W', Below W.heap.size W W' → Strs1 W' v0 (Lh.hups l2)) → Calls Tryd.prog 44 #[.pointer (some ⟨m, 0, none⟩)] W fun e w' => ∃ v, e = .returned v ∧ (Strs1 w' v0 (Lh.hups l2) ∧ Strs1 w' v (Lh.hups l2)) ∧ Below w9.heap.size w9 w') := fun W v0 hW hv0 => (ups_any (HB9.out.mh.later hW) HB9.out.size).mono fun _ _ ⟨v, q1, q2, q3⟩ => ⟨v, q1, ⟨hv0 _ q3, by rw [← hsm]; exact q2⟩, below_then hW q3⟩
            have hul : (Lh.hups l2).length < 1000000 := by
              have h1 := HB9.out.ok.len
              unfold Lh.hups
              rw [List.length_map]
              have := List.length_filter_le (fun x : Lh.Hh => x.2.1) l2
              omega
            have HSM : Hid (∀ W v v', Below w9.heap.size w9 W → (Strs1 W v (Lh.hups l2) ∧ Strs1 W v' (Lh.hups l2)) → Calls Tryd.prog 42 #[v, v'] W fun e w' => e = .returned (.bool true) ∧ Below w9.heap.size w9 w') := fun W v v' hW hv => (sameTexts_any v v' _ _ W hv.1.strs hv.2.strs hul hul).mono fun _ _ ⟨q1, q2⟩ => ⟨by rw [q1, decide_eq_true rfl], below_then hW q2⟩
            have HKC : Hid (∀ W, Below w9.heap.size w9 W → Below w9.heap.size w9 W ∧ W.cell? ⟨ab, 1, none⟩ = some (.string s)) := fun W hW => ⟨hW, below_cell hW hx9⟩
            generalize Lh.hups l2 = T at *
            generalize Lh.hup l2 s = q at *
            have hqq : (q != q) = false := by simp
            clear hsm hul
            go_wp2_with fail
            go_region_held3 (fun w' => Below w9.heap.size w9 w' ∧ w'.cell? ⟨ab, 1, none⟩ = some (.string s))
              (first | exact HKC.out _ (by assumption) | exact HKC.out _ (below_drewN (Below.refl _ _) 1) | exact HKC.out _ (Below.refl _ _))
              (first
                | (go_at_call 31; refine (HI.out _ (by first | assumption | exact Below.refl _ _ | exact below_drewN (Below.refl _ _) 1)).mono ?_; rintro e w10 ⟨rfl, hb10⟩)
                | (go_at_call 41; refine (HIU.out _ (by assumption)).mono ?_; rintro e w11 ⟨rfl, hb11⟩)
                | (go_at_call 43; refine (HU.out _ (by assumption)).mono ?_; rintro e w12 ⟨v12, rfl, hv12, hb12⟩)
                | (go_at_call 44; refine (HUM.out _ _ (by assumption) (by assumption)).mono ?_; rintro e w13 ⟨v13, rfl, hv13, hb13⟩)
                | (go_at_call 42; refine (HSM.out _ _ _ (by assumption) (by assumption)).mono ?_; rintro e w14 ⟨rfl, hb14⟩))
            all_goals
              go_wp2
              exact ⟨⟨i + 1, l2, F2, L2, lv2, by omega, by go_num, HB9.out.later (by assumption)⟩, by simp [intOf]; omega⟩
    · have hii : decide ((i : Int) < (l.length : Int)) = false := by simp; omega
      have HBW : Hid (Below w.heap.size w wo) := hB.below
      clear hB
      go_wp2
      go_ret
      exact ⟨rfl, HBW.out⟩

end Go.Proofs.YtkpjecpaejdgaabDoor
