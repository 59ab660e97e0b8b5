/- The law CarryReads, over the landed package's contracts: all inputs. -/
import Derived.Test.YtboigdpcahdidabGreatDoorCaT
namespace Go.Proofs.YtboigdpcahdidabGreatDoor
open Go.RowKit

theorem read_len {s : List UInt8} {n : Int} {l : List Lh.Fl} {c : Nat} {pl : Int} (h : ReadF s n l c pl) : l.length ≤ 200 := by
  by_cases hc : c = 0
  · subst hc
    exact (caF_good (read_good h).2.1).1.2.2
  · rw [(read_none h hc).2]
    simp
theorem caF_in {e : Int} {l : List Lh.Fl} {pl : Int} (h : CaF e l 0 pl) (hk : KeyIn l) : FlIn l := fun x hx => by
  obtain ⟨_, hc, _, _⟩ := caF_word h hk
  obtain ⟨_, hg, _⟩ := caF_good h
  obtain ⟨j, hj, rfl⟩ := List.getElem_of_mem hx
  obtain ⟨g1, g2, g3, _⟩ := hg j hj
  have := (hc _ hx).2.1
  exact ⟨hk _ hx, by omega, by omega, by omega⟩

set_option maxRecDepth 100000 in
set_option maxHeartbeats 2000000 in
theorem creads_any (hC : CarryC) (a : Nat → Addr) (s : List UInt8) (sl : Bool) (hl : s.length ≤ maxLen) (W : World) (he : Errs a W) (hee : hC.E a W) :
    Calls Tryz.prog 5 #[.string (Lh.bt s), .bool sl] W fun r w' => r = .returned (.bool true) ∧ Below W.heap.size W w' := by
  have HE : Hid (Errs a W) := he
  have HEE : Hid (hC.E a W) := hee
  have HC := carried_any hC a W hee
  have hsz := Lh.bt_size s
  have hln : s.length ≤ 9223372036854775807 := by unfold maxLen at hl; omega
  clear he hee hl
  by_cases h3 : 3000 < s.length
  · have d0 : decide (3000 < (s.length : Int)) = true := by simp; omega
    go_enter Tryz.func5, Tryz.ntmps5
    go_wp2_with fail
    refine HC.mono ?_
    rintro r w1 ⟨rfl, hb1⟩
    dsimp only
    go_wp2
    go_ret
    exact ⟨rfl, hb1⟩
  have d0 : decide (3000 < (s.length : Int)) = false := by simp; omega
  have hl3 : s.length ≤ 3000 := by omega
  have HSE := sealM_any s (by omega)
  have hlt : (s ++ Lh.sumL s ++ [10]).length ≤ 3013 := by
    have h4 : (Lh.sumL s).length = 12 := by simp [Lh.sumL, Lh.joinL, Lh.sumW, Lh.hexL_len]
    rw [List.length_append, List.length_append, h4]
    simp
    omega
  have hls : s.length ≤ 3013 := by omega
  clear h3 hln
  generalize s ++ Lh.sumL s ++ [10] = s2 at *
  go_enter Tryz.func5, Tryz.ntmps5
  go_wp2_with fail
  refine HC.mono ?_
  rintro r w1 ⟨rfl, hb1⟩
  dsimp only
  clear HC
  cases sl with
  | true =>
    go_wp2_with fail
    refine (HSE _).mono ?_
    rintro r w2 ⟨rfl, rfl⟩
    dsimp only
    clear HSE hls hl3 d0 hsz
    go_wp2_with fail
    refine (hC.read a s2 w2 (hC.eLater HEE.out hb1) (by omega)).mono ?_
    rintro r w3 ⟨n, v, l, c, pl, hrf, hb3, hfl, hcase⟩
    have hb13 := below_then hb1 hb3
    have HRF : Hid (ReadF s2 n l c pl) := hrf
    have HFL : Hid (Flows1 w3 v l) := hfl
    obtain ⟨ev, herr, rfl⟩ : ∃ ev, ErrIs a w3 c pl ev ∧ r = .returned (.tuple #[.int .i64 n, v, ev]) := by
      rcases hcase with ⟨h0, h⟩ | ⟨h0, ev, h, h1, _⟩
      · subst h0
        exact ⟨.nilIface, Or.inl ⟨rfl, (caF_good (read_good hrf).2.1).2.2, rfl⟩, h⟩
      · exact ⟨ev, h1, h⟩
    have HOF := carryOf_any s2 (by omega) w3
    have HERR : Hid (ErrIs a w3 c pl ev) := herr
    clear hrf hfl hcase hb1 hb3 herr
    dsimp only
    go_wp2_with fail
    refine HOF.mono ?_
    rintro r w4 ⟨n', v', l', c', pl', rfl, hrf', hfl', hb4⟩
    obtain ⟨rfl, rfl, rfl, rfl⟩ := readF_one HRF.out hrf'
    have hb14 := below_then hb13 hb4
    have hbA : Below w4.heap.size w4 (w4.alloc (.cells #[.int .i64 (c : Nat), .int .i64 pl] 52)) := (Below.refl _ _).alloc (Nat.le_refl _) _
    have hb15 := below_then hb14 hbA
    have HFD := faultedC_is (HE.out.later hb15) (HERR.out.later (below_then hb4 hbA))
    have p0 : (w4.alloc (.cells #[.int .i64 (c : Nat), .int .i64 pl] 52)).cell? ⟨w4.heap.size, 0, none⟩ = some (.int .i64 (c : Nat)) := by simp
    have p1 : (w4.alloc (.cells #[.int .i64 (c : Nat), .int .i64 pl] 52)).cell? ⟨w4.heap.size, 1, none⟩ = some (.int .i64 pl) := by simp
    have HF1 : Hid (Flows1 (w4.alloc (.cells #[.int .i64 (c : Nat), .int .i64 pl] 52)) v l) := HFL.out.later (below_then hb4 hbA)
    have HF2 : Hid (Flows1 (w4.alloc (.cells #[.int .i64 (c : Nat), .int .i64 pl] 52)) v' l) := hfl'.later hbA
    clear HOF hrf' hfl' hb4 hbA hb14 hb13
    dsimp only
    go_wp2_with fail
    generalize w4.alloc (.cells #[.int .i64 (c : Nat), .int .i64 pl] 52) = w5 at *
    generalize w4.heap.size = fb at *
    refine HFD.mono ?_
    rintro r w6 ⟨rfl, hb6⟩
    have hb16 := below_then hb15 hb6
    have HSA := sameFlows_same v v' l w6 (HF1.out.later hb6) (HF2.out.later hb6) (by have := read_len HRF.out; omega)
    have p0' := below_cell hb6 p0
    have HF1' : Hid (Flows1 w6 v l) := HF1.out.later hb6
    clear HFD p0 p1 hb15 hb6 HF1 HF2
    dsimp only
    go_wp2_with fail
    refine HSA.mono ?_
    rintro r w7 ⟨rfl, hb7⟩
    have hb17 := below_then hb16 hb7
    have p07 := below_cell hb7 p0'
    have HF7 : Hid (Flows1 w7 v l) := HF1'.out.later hb7
    clear HSA p0' hb16 hb7 HF1'
    dsimp only
    by_cases hc0 : c = 0
    · subst hc0
      obtain ⟨hst, hcf, hkk, _⟩ := read_good HRF.out
      obtain ⟨⟨g1, g2, g3⟩, _, _⟩ := caF_good hcf
      have HTX := hC.text a n v l w7 (hC.eLater HEE.out hb17) HF7.out (by omega) (caF_in hcf hkk) (by omega) (by omega)
      rw [← hst] at HTX
      have HCF : Hid (CaF n l 0 pl) := hcf
      have hyy : ((Lh.bt s2).toList == (Lh.bt s2).toList) = true := bytes_same rfl
      clear hst hcf hkk g1 g2 g3 HF7 HRF HERR HFL
      simp only [Int.cast_ofNat_Int] at p07 ⊢
      go_wp2_with fail
      refine HTX.mono ?_
      rintro r w8 ⟨c2, pl2, hcf2, hb8, hcase⟩
      obtain ⟨rfl, rfl⟩ := caF_one hcf2 HCF.out
      rcases hcase with ⟨_, rfl⟩ | ⟨h, _⟩
      case inr => exact absurd rfl h
      have hb18 := below_then hb17 hb8
      clear HTX hb17 hb8 hcf2
      dsimp only
      go_wp2
      go_ret
      exact ⟨rfl, hb18⟩
    · have dC : decide (0 < (c : Int)) = true := by simp; omega
      have dC2 : 0 < c := by omega
      clear hc0
      go_wp2
      go_ret
      exact ⟨rfl, hb17⟩
  | false =>
    clear HSE hlt hl3
    go_wp2_with fail
    refine (hC.read a s w1 (hC.eLater HEE.out hb1) (by omega)).mono ?_
    rintro r w3 ⟨n, v, l, c, pl, hrf, hb3, hfl, hcase⟩
    have hb13 := below_then hb1 hb3
    have HRF : Hid (ReadF s n l c pl) := hrf
    have HFL : Hid (Flows1 w3 v l) := hfl
    obtain ⟨ev, herr, rfl⟩ : ∃ ev, ErrIs a w3 c pl ev ∧ r = .returned (.tuple #[.int .i64 n, v, ev]) := by
      rcases hcase with ⟨h0, h⟩ | ⟨h0, ev, h, h1, _⟩
      · subst h0
        exact ⟨.nilIface, Or.inl ⟨rfl, (caF_good (read_good hrf).2.1).2.2, rfl⟩, h⟩
      · exact ⟨ev, h1, h⟩
    have HOF := carryOf_any s (by omega) w3
    have HERR : Hid (ErrIs a w3 c pl ev) := herr
    clear hrf hfl hcase hb1 hb3 herr
    dsimp only
    go_wp2_with fail
    refine HOF.mono ?_
    rintro r w4 ⟨n', v', l', c', pl', rfl, hrf', hfl', hb4⟩
    obtain ⟨rfl, rfl, rfl, rfl⟩ := readF_one HRF.out hrf'
    have hb14 := below_then hb13 hb4
    have hbA : Below w4.heap.size w4 (w4.alloc (.cells #[.int .i64 (c : Nat), .int .i64 pl] 52)) := (Below.refl _ _).alloc (Nat.le_refl _) _
    have hb15 := below_then hb14 hbA
    have HFD := faultedC_is (HE.out.later hb15) (HERR.out.later (below_then hb4 hbA))
    have p0 : (w4.alloc (.cells #[.int .i64 (c : Nat), .int .i64 pl] 52)).cell? ⟨w4.heap.size, 0, none⟩ = some (.int .i64 (c : Nat)) := by simp
    have p1 : (w4.alloc (.cells #[.int .i64 (c : Nat), .int .i64 pl] 52)).cell? ⟨w4.heap.size, 1, none⟩ = some (.int .i64 pl) := by simp
    have HF1 : Hid (Flows1 (w4.alloc (.cells #[.int .i64 (c : Nat), .int .i64 pl] 52)) v l) := HFL.out.later (below_then hb4 hbA)
    have HF2 : Hid (Flows1 (w4.alloc (.cells #[.int .i64 (c : Nat), .int .i64 pl] 52)) v' l) := hfl'.later hbA
    clear HOF hrf' hfl' hb4 hbA hb14 hb13
    dsimp only
    go_wp2_with fail
    generalize w4.alloc (.cells #[.int .i64 (c : Nat), .int .i64 pl] 52) = w5 at *
    generalize w4.heap.size = fb at *
    refine HFD.mono ?_
    rintro r w6 ⟨rfl, hb6⟩
    have hb16 := below_then hb15 hb6
    have HSA := sameFlows_same v v' l w6 (HF1.out.later hb6) (HF2.out.later hb6) (by have := read_len HRF.out; omega)
    have p0' := below_cell hb6 p0
    have HF1' : Hid (Flows1 w6 v l) := HF1.out.later hb6
    clear HFD p0 p1 hb15 hb6 HF1 HF2
    dsimp only
    go_wp2_with fail
    refine HSA.mono ?_
    rintro r w7 ⟨rfl, hb7⟩
    have hb17 := below_then hb16 hb7
    have p07 := below_cell hb7 p0'
    have HF7 : Hid (Flows1 w7 v l) := HF1'.out.later hb7
    clear HSA p0' hb16 hb7 HF1'
    dsimp only
    by_cases hc0 : c = 0
    · subst hc0
      obtain ⟨hst, hcf, hkk, _⟩ := read_good HRF.out
      obtain ⟨⟨g1, g2, g3⟩, _, _⟩ := caF_good hcf
      have HTX := hC.text a n v l w7 (hC.eLater HEE.out hb17) HF7.out (by omega) (caF_in hcf hkk) (by omega) (by omega)
      rw [← hst] at HTX
      have HCF : Hid (CaF n l 0 pl) := hcf
      have hyy : ((Lh.bt s).toList == (Lh.bt s).toList) = true := bytes_same rfl
      clear hst hcf hkk g1 g2 g3 HF7 HRF HERR HFL
      simp only [Int.cast_ofNat_Int] at p07 ⊢
      go_wp2_with fail
      refine HTX.mono ?_
      rintro r w8 ⟨c2, pl2, hcf2, hb8, hcase⟩
      obtain ⟨rfl, rfl⟩ := caF_one hcf2 HCF.out
      rcases hcase with ⟨_, rfl⟩ | ⟨h, _⟩
      case inr => exact absurd rfl h
      have hb18 := below_then hb17 hb8
      clear HTX hb17 hb8 hcf2
      dsimp only
      go_wp2
      go_ret
      exact ⟨rfl, hb18⟩
    · have dC : decide (0 < (c : Int)) = true := by simp; omega
      have dC2 : 0 < c := by omega
      clear hc0
      go_wp2
      go_ret
      exact ⟨rfl, hb17⟩
end Go.Proofs.YtboigdpcahdidabGreatDoor
