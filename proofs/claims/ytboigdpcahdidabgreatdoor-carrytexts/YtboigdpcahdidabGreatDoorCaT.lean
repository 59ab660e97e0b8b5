/- The law CarryTexts, over the landed package's contracts: all inputs. -/
import Derived.Test.YtboigdpcahdidabGreatDoorCaCon
import Derived.Test.YtboigdpcahdidabGreatDoorFlM
namespace Go.Proofs.YtboigdpcahdidabGreatDoor
open Go.RowKit

/-- flows as they are given -/
def FlGiven (l : List Lh.Fl) : Prop := ∀ x ∈ l, x.1 < 18446744073709551616 ∧ x.2.1.size ≤ maxLen ∧ -9223372036854775808 ≤ x.2.2 ∧ x.2.2 ≤ 9223372036854775807
theorem FlGiven.inn {l : List Lh.Fl} (h : FlGiven l) (hs : FShort l) : FlIn l := fun x hx => ⟨(h x hx).1, by have := hs.2 x hx; omega, (h x hx).2.2⟩
theorem FShort.len {l : List Lh.Fl} (h : FShort l) : l.length ≤ 201 := by have := h.1; omega

set_option maxRecDepth 100000 in
set_option maxHeartbeats 2000000 in
theorem ctexts_any (hC : CarryC) (a : Nat → Addr) (e : Int) (he1 : -9223372036854775808 ≤ e) (he2 : e ≤ 9223372036854775807) (v : Value) (l : List Lh.Fl) (W : World) (he : Errs a W) (hee : hC.E a W) (hv : Flows1 W v l) (hl : l.length ≤ maxLen) (hg : FlGiven l) :
    Calls Tryz.prog 4 #[.int .i64 e, v] W fun r w' => r = .returned (.bool true) ∧ Below W.heap.size W w' := by
  have HE : Hid (Errs a W) := he
  have HEE : Hid (hC.E a W) := hee
  have HV : Hid (Flows1 W v l) := hv
  have HG : Hid (FlGiven l) := hg
  have HL : Hid (l.length ≤ maxLen) := hl
  have HC := carried_any hC a W hee
  have HER : Hid (-9223372036854775808 ≤ e ∧ e ≤ 9223372036854775807) := ⟨he1, he2⟩
  clear he hee hv hg hl he1 he2
  obtain ⟨p, cp, rfl⟩ := HV.out.shape
  go_enter Tryz.func4, Tryz.ntmps4
  go_wp2_with fail
  refine HC.mono ?_
  rintro r w1 ⟨rfl, hb1⟩
  dsimp only
  have HLO := longF_any _ l w1 (HV.out.later hb1) HL.out (fun x hx => (HG.out x hx).2.1)
  clear HC
  go_wp2_with fail
  refine HLO.mono ?_
  rintro r w2 ⟨⟨rfl, hsh⟩ | rfl, rfl⟩
  case inr =>
    dsimp only
    go_wp2
    go_ret
    exact ⟨rfl, hb1⟩
  clear HLO
  have HSH : Hid (FShort l) := hsh
  clear hsh
  dsimp only
  have HOW := ownF_any _ l w2 (HV.out.later hb1) HSH.out.len
  go_wp2_with fail
  refine HOW.mono ?_
  rintro r w3 ⟨v3, rfl, hv3, hb3, _⟩
  dsimp only
  have hb13 := below_then hb1 hb3
  have HTX := hC.text a e v3 l w3 (hC.eLater HEE.out hb13) hv3 HSH.out.len (HG.out.inn HSH.out) HER.out.1 HER.out.2
  clear HOW hv3 hb1 hb3
  go_wp2_with fail
  refine HTX.mono ?_
  rintro r w4 ⟨c, pl, hcf, hb4, hcase⟩
  have hb14 := below_then hb13 hb4
  have HCF : Hid (CaF e l c pl) := hcf
  have HM := caFaultM_any e _ l w4 (HV.out.later hb14) (by have := HSH.out.len; omega) (fun x hx => by have := HSH.out.2 x hx; omega)
  clear HTX hb13 hb4 hcf
  rcases hcase with ⟨hc0, rfl⟩ | ⟨hc0, ev, rfl, herr, hnil⟩
  · subst hc0
    dsimp only
    go_wp2_with fail
    refine HM.mono ?_
    rintro r w5 ⟨c', pl', rfl, hcf', hb5⟩
    obtain ⟨rfl, rfl⟩ := caF_one hcf' HCF.out
    have hb15 := below_then hb14 hb5
    have hbA : Below w5.heap.size w5 (w5.alloc (.cells #[.int .i64 ((0 : Nat) : Int), .int .i64 pl'] 52)) := (Below.refl _ _).alloc (Nat.le_refl _) _
    have hb16 := below_then hb15 hbA
    have hk : KeyIn l := fun x hx => (HG.out x hx).1
    obtain ⟨hw, hcan, he14, hee⟩ := caF_word HCF.out hk
    have HRD : Hid (∀ W, hC.E a W → Calls Tryz.prog 27 #[.string (Lh.bt (Lh.textL e.toNat l))] W fun r w' => ∃ q cq, Flows1 w' (.slice q l.length cq) l ∧ Below W.heap.size W w' ∧ r = .returned (.tuple #[.int .i64 e, .slice q l.length cq, .nilIface])) := fun W hE => (hC.read a _ W hE (by have := text_len HCF.out hk; omega)).mono (by
      rintro r w' ⟨n, v, l', c, pl2, hrf, hb, hfl, hcase⟩
      obtain ⟨rfl, rfl, rfl, rfl⟩ := readF_one hrf (read_text HCF.out hk)
      rcases hcase with ⟨_, rfl⟩ | ⟨h, _⟩
      · obtain ⟨q, cq, rfl⟩ := hfl.shape
        exact ⟨q, cq, hfl, hb, rfl⟩
      · exact absurd rfl h)
    have HTM : Hid (∀ W, Flows1 W (.slice p l.length cp) l → Calls Tryz.prog 28 #[.int .i64 e, .slice p l.length cp] W fun r w' => r = .returned (.string (Lh.bt (Lh.textL e.toNat l))) ∧ Below W.heap.size W w') := fun W hW => by
      have := textM_any e.toNat he14 _ l W hW HSH.out.len hcan
      rw [hee] at this
      exact this
    clear HM hb5 hbA hcf' hw hcan he14 hee hk
    simp only [Int.cast_ofNat_Int] at hb16 ⊢
    generalize Lh.bt (Lh.textL e.toNat l) = tx at *
    have hyy : (tx.toList == tx.toList) = true := bytes_same rfl
    go_wp2_with fail
    refine (HRD.out _ (hC.eLater HEE.out hb16)).mono ?_
    rintro r w7 ⟨q, cq, hfl, hb7, rfl⟩
    have hb17 := below_then hb16 hb7
    have HFL : Hid (Flows1 w7 (.slice q l.length cq) l) := hfl
    clear hfl hb16 hb7
    dsimp only
    go_wp2_with fail
    refine (HTM.out _ (HV.out.later hb17)).mono ?_
    rintro r w8 ⟨rfl, hb8⟩
    have hb18 := below_then hb17 hb8
    have HSA := sameFlows_same _ _ l w8 (HFL.out.later hb8) (HV.out.later hb18) (by have := HSH.out.len; omega)
    clear hb17 hb8
    dsimp only
    go_wp2_with fail
    refine HSA.mono ?_
    rintro r w9 ⟨rfl, hb9⟩
    have hb19 := below_then hb18 hb9
    clear hb18 hb9 HSA
    dsimp only
    go_wp2
    go_ret
    exact ⟨rfl, hb19⟩
  · have HERR : Hid (ErrIs a w4 c pl ev) := herr
    have dC : decide (0 < (c : Int)) = true := by simp; omega
    have dC2 : 0 < c := by omega
    clear hc0 herr hnil
    dsimp only
    go_wp2_with fail
    refine HM.mono ?_
    rintro r w5 ⟨c', pl', rfl, hcf', hb5⟩
    obtain ⟨rfl, rfl⟩ := caF_one hcf' HCF.out
    have hb15 := below_then hb14 hb5
    have hbA : Below w5.heap.size w5 (w5.alloc (.cells #[.int .i64 (c' : Nat), .int .i64 pl'] 52)) := (Below.refl _ _).alloc (Nat.le_refl _) _
    have hb16 := below_then hb15 hbA
    have HFD := faultedC_is (HE.out.later hb16) (HERR.out.later (below_then hb5 hbA))
    clear HM hb5 hbA hcf' hb15 hb14
    dsimp only
    go_wp2_with fail
    refine HFD.mono ?_
    rintro r w7 ⟨rfl, hb7⟩
    have hb17 := below_then hb16 hb7
    clear HFD hb16 hb7
    dsimp only
    go_wp2
    go_ret
    exact ⟨rfl, hb17⟩
end Go.Proofs.YtboigdpcahdidabGreatDoor
