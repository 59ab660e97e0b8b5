/- The landed Groups. -/
import Derived.Test.YtffobmiacinngaaDoorVGrp
namespace Go.Proofs.YtffobmiacinngaaDoor
open Go.RowKit

set_option maxRecDepth 100000 in
set_option maxHeartbeats 4000000 in
theorem groups_core (a : Nat → Addr) (b o c : Nat) (kp : Option Addr) (kc : Nat) (xs : List ByteArray) (ks : List Nat) (ow : Nat → Nat) (w : World) (he : Errs4 a w) (hcap : xs.length ≤ c) (hx : ∀ k (h : k < xs.length), w.cell? ⟨b, o + k, none⟩ = some (.string xs[k])) (hk : ∀ k (h : k < ks.length), ∃ kb ko, kp = some ⟨kb, ko, none⟩ ∧ w.cell? ⟨kb, ko + k, none⟩ = some (.int .u64 (ks[k] : Nat))) (h0 : 0 < xs.length) (hf : IsFault xs 0 (-1)) (hs : ∀ k (h : k < xs.length), (xs[k]).size ≤ 300) (hkl : ks.length ≤ 500) (hku : ∀ z ∈ ks, z < 18446744073709551616)
    (how : ∀ z ∈ ks, ∃ y T, Lh.order (Lh.score z) xs = y :: T ∧ ∃ h : ow z < xs.length, xs[ow z] = y) :
    Calls Tryd.prog 53 #[.slice (some ⟨b, o, none⟩) xs.length c, .slice kp ks.length kc] w fun e w' => ∃ gb cap V, e = .returned (.tuple #[.slice (some ⟨gb, 0, none⟩) xs.length cap, .nilIface]) ∧ Grp w' gb xs.length (fun j => ks.filter fun z => decide (ow z = j)) V ∧ Below w.heap.size w w' := by
  obtain ⟨i, hi, hz0, hz1, hz2⟩ := info_parts infoV
  obtain ⟨_, h12, hnd⟩ := fault0 hf
  have hv : Strs1 w (.slice (some ⟨b, o, none⟩) xs.length c) xs := Or.inr ⟨b, o, c, rfl, hcap, hx⟩
  have hchk := rcheck_any a _ xs w 0 (-1) he hv (Or.inr ⟨h0, hf⟩) (small_of hs (by decide)) (by omega)
  have HBY : Hid (∀ z ∈ ks, ∀ W, Below w.heap.size w W → ∃ y T, Lh.order (Lh.score z) xs = y :: T ∧ (∃ h : ow z < xs.length, xs[ow z] = y) ∧ Calls Tryd.prog 82 #[.slice (some ⟨b, o, none⟩) xs.length c, .int .u64 (z : Nat)] W fun e w' => ∃ v', e = .returned v' ∧ Strs1 w' v' (y :: T) ∧ Below W.heap.size W w') := fun z hz W hb => by
    obtain ⟨y, T, h1, h2⟩ := how z hz
    refine ⟨y, T, h1, h2, ?_⟩
    rw [← h1]
    exact byScore_any _ xs z (hku z hz) W (hv.later hb) h0 (by omega) (small_mem hs)
  have HIX : Hid (∀ q (h : q < xs.length) W, Below w.heap.size w W → Calls Tryd.prog 81 #[.slice (some ⟨b, o, none⟩) xs.length c, .string xs[q]] W fun e w' => e = .returned (.int .i64 (q : Nat)) ∧ w' = W) := fun q hq W hb =>
    sIndex_at b o c xs _ q W (fun k h => below_cell hb (hx k h)) (by omega) hq rfl (fun j hj hjq e => absurd (List.pairwise_iff_getElem.1 hnd j q hj hq hjq) (fun h => h e))
  have HK : Hid (∀ k (h : k < ks.length), ∃ kb ko, kp = some ⟨kb, ko, none⟩ ∧ w.cell? ⟨kb, ko + k, none⟩ = some (.int .u64 (ks[k] : Nat))) := hk
  have e500 : decide (500 < (ks.length : Int)) = false := by simp; omega
  have hmax : xs.length ≤ maxLen := by unfold maxLen; omega
  have hbyt : i.bytes * xs.length ≤ 281474976710656 := by rw [hz2]; omega
  clear he hx hk hf hs hku how hv hnd
  go_enter Tryd.func53, Tryd.ntmps53
  go_wp2_with fail
  refine hchk.mono ?_
  rintro e w1 ⟨ev, rfl, hev, hb1⟩
  obtain rfl := err0 hev
  clear hev hchk
  go_wp2_with (at_make; refine wpList_make_full w1 rfl _ _ 81 rfl w1.heap.size 70 i _ 1 Tryd.underlying81 hi hz0 hz1 _ _ _ _ xs.length rfl rfl rfl rfl hbyt hmax (Nat.le_refl _) ?_)
  intro w2 hown hgrow
  have hb2 : Below w.heap.size w w2 := hb1.trans ((below_grown hgrow (fun k h => by cases h)).mono hb1.size)
  rw [toList_madeCells_one] at hown
  obtain ⟨gb, cp, hgv, hgb, hG⟩ := grp_made hown h0
  obtain ⟨rfl, rfl⟩ : w1.heap.size = gb ∧ xs.length = cp := by
    simp only [Value.slice.injEq, Option.some.injEq, Addr.mk.injEq] at hgv
    exact ⟨hgv.1.1, hgv.2.2⟩
  have hlo : w.heap.size ≤ w1.heap.size := hb1.size
  clear hgv hown hgrow hb1 hgb
  generalize w1.heap.size = gb at *
  obtain ⟨iU, hiU, hu0, hu1, hu2⟩ := info_parts infoU
  have HG0 : Hid (Grp w2 gb xs.length (fun _ => []) (fun _ => .slice none 0 0)) := hG
  clear hG hmax hbyt
  go_wp2_with fail
  go_loopw [25] (fun t W => Below w.heap.size w W ∧ ∃ k : Nat, k ≤ ks.length ∧ t = .int .i64 k ∧ ∃ L V, (∀ j, j < xs.length → L j = (ks.take k).filter fun z => decide (ow z = j)) ∧ Grp W gb xs.length L V) (fun t _ => ks.length - (intOf t).toNat)
  case atStart => exact ⟨hb2, 0, Nat.zero_le _, rfl, _, _, fun j _ => rfl, HG0.out⟩
  case round =>
    clear hb2
    obtain ⟨hb, k, hk', rfl, L, V, hL, hG⟩ := hrel
    have HL : Hid (∀ j, j < xs.length → L j = (ks.take k).filter fun z => decide (ow z = j)) := hL
    have HG : Hid (Grp wr gb xs.length L V) := hG
    clear hL hG
    by_cases hlt : k < ks.length
    · obtain ⟨kb, ko, rfl, ck0⟩ := HK.out k hlt
      have ck := below_cell hb ck0
      clear ck0
      obtain ⟨y, T, _, ⟨hq, hy⟩, hby⟩ := HBY.out ks[k] (List.getElem_mem hlt) wr hb
      have HT : Hid (ks.take (k + 1) = ks.take k ++ [ks[k]]) := List.take_succ_eq_append_getElem hlt
      have hix := HIX.out (ow ks[k]) hq
      rw [hy] at hix
      clear hy
      generalize hzz : ks[k] = z at *
      generalize hqq : ow z = q at *
      have HQ : Hid (ow z = q) := hqq
      clear hqq hzz
      go_wp2_with fail
      refine hby.mono ?_
      rintro e w3 ⟨v', rfl, hv', hb3⟩
      have hbw3 : Below w.heap.size w w3 := below_then hb hb3
      have hG3 := HG.out.below hb3
      obtain ⟨b2, o2, c2, rfl, hc2⟩ := strsPos hv' (by simp)
      have d0 : w3.cell? ⟨b2, o2, none⟩ = some (.string y) := hc2 0 (by simp)
      have hpos : (0 : Int) < ((y :: T).length : Int) := by simp
      clear hby hv' hb3 hc2 hb ck HG
      generalize (y :: T).length = n2 at *
      go_wp2_with fail
      refine (hix w3 hbw3).mono ?_
      rintro e w3' ⟨rfl, rfl⟩
      clear hix d0 hpos
      have cq := hG3.cell q hq
      have hownq := (hG3.own q hq).alloc (.cells #[.int .u64 (z : Nat)] 36)
      have hnews := cell_one_new w3' (.int .u64 (z : Nat)) 36
      have hqi : (q : Int) < (xs.length : Int) := by omega
      have hLl : (L q).length ≤ 500 := by
        rw [HL.out q hq]
        refine Nat.le_trans (List.length_filter_le _ _) ?_
        rw [List.length_take]; omega
      have hmax : (L q).length + 1 ≤ maxLen := by unfold maxLen; omega
      have hgl := hG3.lt
      have hszA : (w3'.alloc (.cells #[.int .u64 (z : Nat)] 36)).heap.size = w3'.heap.size + 1 := by simp
      have HG3 : Hid (Grp w3' gb xs.length L V) := hG3
      clear hG3
      go_wp2_with (at_builtin; refine wpList_append_lies _ rfl _ _ 70 rfl (gb + 1) 36 iU _ 1 8 Tryd.underlying70 hiU hu0 hu1 hu2 rfl (by decide) (V q) (L q).length ((L q).map encU) rfl hownq ⟨w3'.heap.size, 0, none⟩ 1 1 [encU z] rfl rfl hnews (encU_one [z]) (by decide) hmax (by omega) (by omega) (w3'.heap.size + 1) (by simp) ?_)
      intro g cp w4 hown4 hgr4 hat4 hlt4
      have hne : some gb ≠ (V q).ownBlock := fun e => by
        have := ((HG3.out.own q hq).lt gb e.symm).1
        omega
      have hbk : w4.heap[gb]? = w3'.heap[gb]? := vfar_block (wr := w3') rfl hgr4 hne hgl
      have c4 : w4.cell? ⟨gb, q, none⟩ = some (V q) := by
        rw [World.cell?_of_block (w := w3') (w' := w4) (a := ⟨gb, q, none⟩) hbk]
        exact cq
      have f4 : w4.frozen? ⟨gb, q, none⟩ = false := by
        rw [World.frozen?_of_block (w := w3') (w' := w4) (a := ⟨gb, q, none⟩) hbk]
        exact HG3.out.frozen q
      have hGN := HG3.out.step (z := z) hq rfl hown4 hgr4 hat4
      have hbwN : Below w.heap.size w (w4.setCell ⟨gb, q, none⟩ (.slice (some ⟨g, 0, none⟩) ((L q).length + 1) cp)) := by
        refine Below.setCell ?_ hlo _
        refine (hbw3.alloc hbw3.size _).grown hgr4 (by simp; have := hbw3.size; omega) (fun x e => ?_)
        have := ((HG3.out.own q hq).lt x e).1
        omega
      have HGN : Hid (Grp (w4.setCell ⟨gb, q, none⟩ (.slice (some ⟨g, 0, none⟩) ((L q).length + 1) cp)) gb xs.length (upd L q (L q ++ [z])) (upd V q (.slice (some ⟨g, 0, none⟩) ((L q).length + 1) cp))) := hGN
      have HLN : Hid (∀ j, j < xs.length → upd L q (L q ++ [z]) j = (ks.take (k + 1)).filter fun z => decide (ow z = j)) := fun j hj => by
        rw [HT.out, List.filter_append]
        by_cases e : j = q
        · rw [e, upd_same, HL.out q hq]
          simp [HQ.out]
        · rw [upd_other _ _ e, HL.out j hj]
          have : ¬ q = j := fun e' => e e'.symm
          simp [HQ.out, this]
      clear hGN hown4 hgr4 hat4 hlt4 hne hbk hownq hnews cq hszA
      go_wp2_with fail
      exact ⟨⟨hbwN, k + 1, by omega, by go_num, _, _, HLN.out, HGN.out⟩, by simp [intOf]; omega⟩
    · have hkk : k = ks.length := by omega
      have HLL : Hid (∀ j, j < xs.length → L j = ks.filter fun z => decide (ow z = j)) := fun j hj => by
        rw [HL.out j hj, hkk, List.take_length]
      clear hkk
      go_wp2
      go_ret2
      exact ⟨gb, _, V, rfl, HG.out.congr (fun j hj => (HLL.out j hj).symm), hb⟩

set_option maxRecDepth 100000 in
set_option maxHeartbeats 2000000 in
theorem groups_bad (a : Nat → Addr) (v kv : Value) (xs : List ByteArray) (w : World) (c : Nat) (pl : Int) (he : Errs4 a w) (hv : Strs1 w v xs) (hf : SFault xs c pl) (hc : c ≠ 0) (hs : ∀ k (h : k < xs.length), (xs[k]).size ≤ 1000000) (hm : xs.length < 1000000) :
    Calls Tryd.prog 53 #[v, kv] w fun e w' => ∃ ev, e = .returned (.tuple #[.slice none 0 0, ev]) ∧ ErrIs a w' c pl ev ∧ Below w.heap.size w w' := by
  have hchk := rcheck_any a v xs w c pl he hv hf hs hm
  clear he hv hf hs
  go_enter Tryd.func53, Tryd.ntmps53
  go_wp2_with fail
  refine hchk.mono ?_
  rintro e w1 ⟨ev, rfl, hev, hb1⟩
  have HEV : Hid (ErrIs a w1 c pl ev) := hev
  obtain ⟨t, x, rfl⟩ := errPos hev hc
  clear hev hchk
  go_wp2
  go_ret2
  exact ⟨_, rfl, HEV.out, hb1⟩
set_option maxRecDepth 100000 in
set_option maxHeartbeats 2000000 in
theorem groups_many (a : Nat → Addr) (v : Value) (kp : Option Addr) (kn kc : Nat) (xs : List ByteArray) (w : World) (he : Errs4 a w) (hv : Strs1 w v xs) (h0 : 0 < xs.length) (hf : IsFault xs 0 (-1)) (hs : ∀ k (h : k < xs.length), (xs[k]).size ≤ 1000000) (hm : xs.length < 1000000) (hk : 500 < kn) (_hkm : kn ≤ maxLen) :
    Calls Tryd.prog 53 #[v, .slice kp kn kc] w fun e w' => ∃ ev, e = .returned (.tuple #[.slice none 0 0, ev]) ∧ ErrIs a w' 2 (-1) ev ∧ Below w.heap.size w w' := by
  have hchk := rcheck_any a v xs w 0 (-1) he hv (Or.inr ⟨h0, hf⟩) hs hm
  have HE : Hid (Errs4 a w) := he
  have e500 : decide (500 < (kn : Int)) = true := by simp; omega
  clear he hv hf hs
  go_enter Tryd.func53, Tryd.ntmps53
  go_wp2_with fail
  refine hchk.mono ?_
  rintro e w1 ⟨ev, rfl, hev, hb1⟩
  obtain rfl := err0 hev
  have s1 := (HE.out.later hb1).s1
  clear hev hchk
  go_wp2_with fail
  go_quiet (fail)
  go_wp2
  go_ret2
  exact ⟨_, rfl, Or.inr ⟨1, by decide, rfl, Or.inl ⟨rfl, rfl⟩⟩, below_drewN hb1 nq⟩
end Go.Proofs.YtffobmiacinngaaDoor
