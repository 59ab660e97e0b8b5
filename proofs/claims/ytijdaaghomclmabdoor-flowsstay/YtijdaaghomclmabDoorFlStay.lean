/- The law FlowsStay, over the landed package's contracts. -/
import Derived.Test.YtijdaaghomclmabDoorFlW
import Derived.Test.YtijdaaghomclmabDoorFlMath2
namespace Go.Proofs.YtijdaaghomclmabDoor
open Go.RowKit

def hostMine : ByteArray := ⟨#[109, 105, 110, 101]⟩
def hostOther : ByteArray := ⟨#[111, 116, 104, 101, 114]⟩
def hostWhat : ByteArray := ⟨#[119, 104, 97, 116]⟩
theorem mine_nm : Lh.isNm hostMine = true := by decide +kernel
theorem other_nm : Lh.isNm hostOther = true := by decide +kernel
theorem mine_len : hostMine.size ≤ 300 := by decide +kernel
theorem other_len : hostOther.size ≤ 300 := by decide +kernel
theorem what_len : hostWhat.size ≤ 300 := by decide +kernel
theorem mine_what : hostMine ≠ hostWhat := by decide +kernel
theorem other_what : hostOther ≠ hostWhat := by decide +kernel

set_option maxRecDepth 100000 in
set_option maxHeartbeats 4000000 in
theorem stay_core (hC : FlowsC) (a : Nat → Addr) (t key wait : Nat) (op : Option Addr) (oc : Nat) (os : List Nat) (w : World) (he : hC.E a w) (ht1 : 1 ≤ t) (ht : t ≤ 1000) (hk : key < 18446744073709551616) (hw : wait ≤ 2000) (hl : os.length ≤ 100) (ho : ∀ k (h : k < os.length), ∃ b o, op = some ⟨b, o, none⟩ ∧ w.cell? ⟨b, o + k, none⟩ = some (.int .u64 (os[k] : Nat))) (hoz : ∀ z ∈ os, z < 18446744073709551616) :
    Calls Tryd.prog 10 #[.int .i64 (t : Nat), .int .u64 (key : Nat), .slice op os.length oc, .int .i64 (wait : Nat)] w fun e w' => e = .returned (.bool true) ∧ Below w.heap.size w w' := by
  have HE : Hid (hC.E a w) := he
  have HO : Hid (∀ k (h : k < os.length), ∃ b o, op = some ⟨b, o, none⟩ ∧ w.cell? ⟨b, o + k, none⟩ = some (.int .u64 (os[k] : Nat))) := ho
  have HZ : Hid (∀ z ∈ os, z < 18446744073709551616) := hoz
  have hfl := flowed_any hC a w he
  have d1 : decide ((t : Int) < 1) = false := by simp; omega
  have d2 : decide (1000 < (t : Int)) = false := by simp; omega
  have d3 : decide (100 < (os.length : Int)) = false := by simp; omega
  have d4 : decide ((wait : Int) < 0) = false := by simp
  have d5 : decide (2000 < (wait : Int)) = false := by simp; omega
  clear he ho hoz
  go_enter Tryd.func10, Tryd.ntmps10
  go_wp2_with fail
  refine hfl.mono ?_
  rintro e w1 ⟨rfl, hb1⟩
  have hnew := hC.newG t w1 ht1 ht
  clear hfl
  go_wp2_with fail
  refine hnew.mono ?_
  rintro e w2 ⟨p, F, rfl, hR, hF, hb2⟩
  have hbw2 : Below w.heap.size w w2 := below_then hb1 hb2
  have hF2 : ∀ b, F b → w.heap.size ≤ b := fun b hb => Nat.le_trans hb1.size (hF b hb)
  have hput := fput_ok hC (hC.eLater HE.out hbw2) hR Lh.FlOk.nil ht1 ht (by decide) hF2 hbw2.size key hk hostMine mine_len mine_nm 10 ⟨by decide, by decide, by decide⟩
  rw [fput_one] at hput
  clear hnew hR hF hF2 hb1 hb2
  go_wp2_with fail
  refine hput.mono ?_
  rintro e w3 ⟨F3, rfl, hR3, hF3, hb3⟩
  have hbw3 : Below w.heap.size w w3 := hbw2.trans hb3
  have HP3 : Hid (Lh.Puts [(key, hostMine, 10 + (t : Int))] key (10 + (t : Int)) hostMine hostOther 1) := Lh.Puts.one hk mine_len (by omega) (by omega)
  have HR3 : Hid (hC.Rep t 10 [(key, hostMine, 10 + (t : Int))] F3 p w3) := hR3
  have HF3 : Hid (∀ b, F3 b → w.heap.size ≤ b) := hF3
  clear hput hR3 hF3 hb3 hbw2
  go_wp2_with fail
  go_loopw [12] (fun u W => Below w.heap.size w W ∧ ∃ (i : Nat) (L : List Lh.Fl) (F : Nat → Prop), i ≤ os.length ∧ u = .int .i64 (i : Nat) ∧ hC.Rep t 10 L F p W ∧ Lh.Puts L key (10 + (t : Int)) hostMine hostOther (i + 1) ∧ ∀ b, F b → w.heap.size ≤ b) (fun u _ => os.length - (intOf u).toNat)
  case atStart => exact ⟨hbw3, 0, _, F3, Nat.zero_le _, rfl, HR3.out, HP3.out, HF3.out⟩
  case round =>
    clear HR3 HF3 HP3 hbw3
    obtain ⟨hb, i, L, F, hi, rfl, hR, hP, hF⟩ := hrel
    obtain ⟨wo, hwo⟩ : ∃ wo, wo = wr := ⟨_, rfl⟩
    subst hwo
    have HP : Hid (Lh.Puts L key (10 + (t : Int)) hostMine hostOther (i + 1)) := hP
    have HR : Hid (hC.Rep t 10 L F p wo) := hR
    have HF : Hid (∀ b, F b → w.heap.size ≤ b) := hF
    clear hP hR hF
    by_cases hlt : i < os.length
    · obtain ⟨ob, oo, rfl, hck⟩ := HO.out i hlt
      have cx := below_cell hb hck
      have hii : (i : Int) < (os.length : Int) := by omega
      have hz := HZ.out _ (List.getElem_mem hlt)
      generalize os[i] = z at *
      by_cases hzk : z = key
      · have hq : ((z : Int) != (key : Int)) = false := by simp [hzk]
        have hq2 : ((z : Int) == (key : Int)) = true := by simp [hzk]
        clear hzk
        go_wp2_with fail
        exact ⟨⟨hb, i + 1, L, F, by omega, by go_num, HR.out, HP.out.mono (by omega), HF.out⟩, by simp [intOf]; omega⟩
      · have hq : ((z : Int) != (key : Int)) = true := by simp; omega
        have hq2 : ((z : Int) == (key : Int)) = false := by rw [beq_eq_false_iff_ne]; omega
        have HZK : Hid (z ≠ key) := hzk
        clear hzk
        go_wp2_with fail
        refine (fput_ok hC (hC.eLater HE.out hb) HR.out HP.out.ok ht1 ht (by decide) HF.out hb.size z hz hostOther other_len other_nm 10 ⟨by decide, by decide, by decide⟩).mono ?_
        rintro e w5 ⟨F5, rfl, hR5, hF5, hb5⟩
        have HR5 : Hid (hC.Rep t 10 (Lh.fput t L z hostOther 10) F5 p w5) := hR5
        have HF5 : Hid (∀ b, F5 b → w.heap.size ≤ b) := hF5
        have hbw5 : Below w.heap.size w w5 := hb.trans hb5
        clear hR5 hF5 hb5 hb cx hck
        go_wp2_with fail
        exact ⟨⟨hbw5, i + 1, _, F5, by omega, by go_num, HR5.out, HP.out.step (by omega) hz HZK.out other_len (by decide) (by decide) ht, HF5.out⟩, by simp [intOf]; omega⟩
    · have hii : decide ((i : Int) < (os.length : Int)) = false := by simp; omega
      go_wp2_with fail
      refine (fdrop_ok hC HR.out HP.out.ok HF.out hb.size hostWhat what_len).mono ?_
      rintro e w6 ⟨F6, rfl, hR6, hF6, hb6⟩
      rw [HP.out.drop mine_what other_what] at hR6
      rw [HP.out.drop mine_what other_what]
      have hbw6 : Below w.heap.size w w6 := hb.trans hb6
      have HR6 : Hid (hC.Rep t 10 L F6 p w6) := hR6
      have HF6 : Hid (∀ b, F6 b → w.heap.size ≤ b) := hF6
      obtain ⟨hx, hm, hu⟩ := HP.out.at
      clear hR6 hF6 hb6 HR HF hb
      by_cases hwt : wait < t
      · have hg := fget_hit hC (hC.eLater HE.out hbw6) HR6.out HP.out.ok (by decide) HF6.out hbw6.size key hk (10 + (wait : Int)) ⟨by omega, by omega, by omega⟩ hx (by rw [hu]; omega)
        rw [hm] at hg
        have dw : decide ((wait : Int) < (t : Int)) = true := by simp; omega
        have hq1 : (hostMine.toList == [109, 105, 110, 101]) = true := by decide +kernel
        have hq3 : (hostMine.toList != [109, 105, 110, 101]) = false := by decide +kernel
        go_wp2_with fail
        refine hg.mono ?_
        rintro e w7 ⟨F7, rfl, hR7, hF7, hb7⟩
        have hbw7 : Below w.heap.size w w7 := hbw6.trans hb7
        have HR7 : Hid (hC.Rep t (10 + (wait : Int)) L F7 p w7) := hR7
        have HF7 : Hid (∀ b, F7 b → w.heap.size ≤ b) := hF7
        have hls := hC.list _ _ _ F7 p w7 hR7 HP.out.ok
        clear hg hR7 hF7 hb7
        go_wp2_with fail
        refine hls.mono ?_
        rintro e w8 ⟨v8, rfl, hv8, hb8⟩
        obtain ⟨fb, fo, fc, rfl, _, hcl⟩ : ∃ b o c, v8 = .slice (some ⟨b, o, none⟩) L.length c ∧ L.length ≤ c ∧ ∀ i (h : i < L.length), w8.cell? ⟨b, o + i * 3, none⟩ = some (.int .u64 (L[i].1 : Nat)) ∧ w8.cell? ⟨b, o + i * 3 + 1, none⟩ = some (.string L[i].2.1) ∧ w8.cell? ⟨b, o + i * 3 + 2, none⟩ = some (.int .i64 L[i].2.2) := by
          rcases hv8 with ⟨e, _⟩ | h
          · rw [e] at hx
            simp at hx
          · exact h
        have HCL : Hid (∀ i (h : i < L.length), w8.cell? ⟨fb, fo + i * 3, none⟩ = some (.int .u64 (L[i].1 : Nat))) := fun i h => (hcl i h).1
        have hl1 : 1 ≤ L.length := by omega
        have hl200 := HP.out.ok.len
        clear hls hv8 hcl
        go_wp2_with fail
        go_loopw [16] (fun u W' => Below w8.heap.size w8 W' ∧ ∃ k : Nat, 1 ≤ k ∧ k ≤ L.length ∧ u = .int .i64 (k : Nat)) (fun u _ => L.length - (intOf u).toNat)
        case atStart => exact ⟨Below.refl _ _, 1, Nat.le_refl _, hl1, rfl⟩
        case round =>
          obtain ⟨hb9, k, hk1, hkl, rfl⟩ := hrel
          obtain ⟨w9, hw9⟩ : ∃ w9, w9 = wr := ⟨_, rfl⟩
          subst hw9
          by_cases hkk : k < L.length
          · have c1 := below_cell hb9 (HCL.out k hkk)
            obtain ⟨j, rfl⟩ : ∃ j, k = j + 1 := ⟨k - 1, by omega⟩
            have c0 := below_cell hb9 (HCL.out j (by omega))
            have hrise := List.pairwise_iff_getElem.1 HP.out.ok.rise j (j + 1) (by omega) hkk (by omega)
            have hkd : decide (((j + 1 : Nat) : Int) < (L.length : Int)) = true := by simp; omega
            have hjd : ((j + 1 : Nat) : Int) - 1 = (j : Int) := by omega
            generalize (L[j + 1]).1 = ka at *
            generalize (L[j]'(by omega)).1 = kb at *
            have hle : decide (ka ≤ kb) = false := by simp; omega
            have hji : (j : Int) < (L.length : Int) := by omega
            go_wp2_with fail
            go_quiet (fail)
            go_wp2
            exact ⟨⟨below_drewN hb9 nq, j + 1 + 1, by omega, by omega, by go_num⟩, by simp [intOf]; omega⟩
          · have hkd : decide ((k : Int) < (L.length : Int)) = false := by simp; omega
            have hbw9 : Below w.heap.size w w9 := below_then (below_then hbw7 hb8) hb9
            have hex := fexp_ok hC (hC.eLater HE.out hbw9) (hC.later HR7.out (below_then hb8 hb9)) HP.out.ok (by omega) HF7.out hbw9.size (10 + (wait : Int)) ⟨by omega, by omega, by omega⟩
            rw [HP.out.exp_all (by omega), Nat.sub_self] at hex
            go_wp2_with fail
            refine hex.mono ?_
            rintro e w10 ⟨F10, rfl, hR10, hF10, hb10⟩
            have hbw10 : Below w.heap.size w w10 := hbw9.trans hb10
            have hls2 := hC.list _ _ _ F10 p w10 hR10 HP.out.ok
            clear hex hR10 hF10 hb10
            go_wp2_with fail
            refine hls2.mono ?_
            rintro e w11 ⟨v11, rfl, hv11, hb11⟩
            obtain ⟨p11, c11, rfl⟩ := hv11.shape
            clear hls2 hv11
            go_wp2
            go_ret
            exact ⟨rfl, below_then hbw10 hb11⟩
      · have hg := fget_miss hC (hC.eLater HE.out hbw6) HR6.out HP.out.ok (by decide) HF6.out hbw6.size key hk (10 + (wait : Int)) ⟨by omega, by omega, by omega⟩ (fun _ => by rw [hu]; omega)
        have dw : decide ((wait : Int) < (t : Int)) = false := by simp; omega
        go_wp2_with fail
        refine hg.mono ?_
        rintro e w7 ⟨F7, rfl, hR7, hF7, hb7⟩
        have hbw7 : Below w.heap.size w w7 := hbw6.trans hb7
        have HR7 : Hid (hC.Rep t (10 + (wait : Int)) L F7 p w7) := hR7
        have HF7 : Hid (∀ b, F7 b → w.heap.size ≤ b) := hF7
        have hls := hC.list _ _ _ F7 p w7 hR7 HP.out.ok
        clear hg hR7 hF7 hb7
        go_wp2_with fail
        refine hls.mono ?_
        rintro e w8 ⟨v8, rfl, hv8, hb8⟩
        obtain ⟨fb, fo, fc, rfl, _, hcl⟩ : ∃ b o c, v8 = .slice (some ⟨b, o, none⟩) L.length c ∧ L.length ≤ c ∧ ∀ i (h : i < L.length), w8.cell? ⟨b, o + i * 3, none⟩ = some (.int .u64 (L[i].1 : Nat)) ∧ w8.cell? ⟨b, o + i * 3 + 1, none⟩ = some (.string L[i].2.1) ∧ w8.cell? ⟨b, o + i * 3 + 2, none⟩ = some (.int .i64 L[i].2.2) := by
          rcases hv8 with ⟨e, _⟩ | h
          · rw [e] at hx
            simp at hx
          · exact h
        have HCL : Hid (∀ i (h : i < L.length), w8.cell? ⟨fb, fo + i * 3, none⟩ = some (.int .u64 (L[i].1 : Nat))) := fun i h => (hcl i h).1
        have hl1 : 1 ≤ L.length := by omega
        have hl200 := HP.out.ok.len
        clear hls hv8 hcl
        go_wp2_with fail
        go_loopw [16] (fun u W' => Below w8.heap.size w8 W' ∧ ∃ k : Nat, 1 ≤ k ∧ k ≤ L.length ∧ u = .int .i64 (k : Nat)) (fun u _ => L.length - (intOf u).toNat)
        case atStart => exact ⟨Below.refl _ _, 1, Nat.le_refl _, hl1, rfl⟩
        case round =>
          obtain ⟨hb9, k, hk1, hkl, rfl⟩ := hrel
          obtain ⟨w9, hw9⟩ : ∃ w9, w9 = wr := ⟨_, rfl⟩
          subst hw9
          by_cases hkk : k < L.length
          · have c1 := below_cell hb9 (HCL.out k hkk)
            obtain ⟨j, rfl⟩ : ∃ j, k = j + 1 := ⟨k - 1, by omega⟩
            have c0 := below_cell hb9 (HCL.out j (by omega))
            have hrise := List.pairwise_iff_getElem.1 HP.out.ok.rise j (j + 1) (by omega) hkk (by omega)
            have hkd : decide (((j + 1 : Nat) : Int) < (L.length : Int)) = true := by simp; omega
            have hjd : ((j + 1 : Nat) : Int) - 1 = (j : Int) := by omega
            generalize (L[j + 1]).1 = ka at *
            generalize (L[j]'(by omega)).1 = kb at *
            have hle : decide (ka ≤ kb) = false := by simp; omega
            have hji : (j : Int) < (L.length : Int) := by omega
            go_wp2_with fail
            go_quiet (fail)
            go_wp2
            exact ⟨⟨below_drewN hb9 nq, j + 1 + 1, by omega, by omega, by go_num⟩, by simp [intOf]; omega⟩
          · have hkd : decide ((k : Int) < (L.length : Int)) = false := by simp; omega
            have hbw9 : Below w.heap.size w w9 := below_then (below_then hbw7 hb8) hb9
            have hex := fexp_ok hC (hC.eLater HE.out hbw9) (hC.later HR7.out (below_then hb8 hb9)) HP.out.ok (by omega) HF7.out hbw9.size (10 + (wait : Int)) ⟨by omega, by omega, by omega⟩
            rw [HP.out.exp_none (by omega), List.length_nil, Nat.sub_zero] at hex
            go_wp2_with fail
            refine hex.mono ?_
            rintro e w10 ⟨F10, rfl, hR10, hF10, hb10⟩
            have hbw10 : Below w.heap.size w w10 := hbw9.trans hb10
            have hls2 := hC.list _ _ _ F10 p w10 hR10 Lh.FlOk.nil
            clear hex hR10 hF10 hb10
            go_wp2_with fail
            refine hls2.mono ?_
            rintro e w11 ⟨v11, rfl, hv11, hb11⟩
            obtain ⟨p11, c11, rfl⟩ := hv11.shape
            clear hls2 hv11
            go_wp2
            go_ret
            exact ⟨rfl, below_then hbw10 hb11⟩
end Go.Proofs.YtijdaaghomclmabDoor
