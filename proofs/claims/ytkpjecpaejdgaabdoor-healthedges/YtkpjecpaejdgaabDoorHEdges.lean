/- The law HealthEdges, over the landed package's contracts. -/
import Derived.Test.YtkpjecpaejdgaabDoorHW
namespace Go.Proofs.YtkpjecpaejdgaabDoor
open Go.RowKit

def hostX : ByteArray := ⟨#[120]⟩
theorem hostX_nm : Lh.isNm hostX = true := by decide +kernel
theorem faultsX : IsFault [hostX] 0 (-1) := fault_of (by simp) (fun s hs => by simp at hs; subst hs; exact hostX_nm) (by simp)
theorem lenX : hostX.size ≤ 300 := by decide +kernel
theorem strsX (w : World) : Strs1 (w.alloc (.cells #[.string hostX] 9)) (.slice (some ⟨w.heap.size, 0, none⟩) 1 1) [hostX] :=
  Or.inr ⟨_, _, _, rfl, by simp, fun k h => by
    have : k = 0 := by simp at h; omega
    subst this
    simp⟩
set_option maxRecDepth 100000 in
set_option maxHeartbeats 4000000 in
theorem edges_core (hC : HealthC) (a : Nat → Addr) (f r : Nat) (rp : Option Addr) (rc : Nat) (l : List Int) (w : World) (he : Errs4 a w) (hf1 : 1 ≤ f) (hf : f ≤ 10) (hr1 : 1 ≤ r) (hr : r ≤ 10) (hl : l.length ≤ 30) (hx : ∀ k (h : k < l.length), ∃ b o, rp = some ⟨b, o, none⟩ ∧ w.cell? ⟨b, o + k, none⟩ = some (.int .i64 l[k])) :
    Calls Tryd.prog 8 #[.int .i64 (f : Nat), .int .i64 (r : Nat), .slice rp l.length rc] w fun e w' => e = .returned (.bool true) ∧ Below w.heap.size w w' := by
  have HE : Hid (Errs4 a w) := he
  have HX : Hid (∀ k (h : k < l.length), ∃ b o, rp = some ⟨b, o, none⟩ ∧ w.cell? ⟨b, o + k, none⟩ = some (.int .i64 l[k])) := hx
  have hwt := watched_any hC a w he
  have d1 : decide ((f : Int) < 1) = false := by simp; omega
  have d2 : decide (10 < (f : Int)) = false := by simp; omega
  have d3 : decide ((r : Int) < 1) = false := by simp; omega
  have d4 : decide (10 < (r : Int)) = false := by simp; omega
  have d5 : decide (30 < (l.length : Int)) = false := by simp; omega
  clear he hx
  go_enter Tryd.func8, Tryd.ntmps8
  go_wp2_with fail
  refine hwt.mono ?_
  rintro e w1 ⟨rfl, hb1⟩
  have hb0 : Below w.heap.size w (w1.alloc (.cells #[.string hostX] 9)) := below_then hb1 ((Below.refl _ _).alloc (Nat.le_refl _) _)
  have hnew := hC.newG a _ [hostX] f r _ (HE.out.later hb0) (strsX w1) faultsX (fun s hs => by simp at hs; subst hs; exact lenX) hf1 hf hr1 hr
  clear hwt
  go_wp2_with fail
  refine hnew.mono ?_
  rintro e w2 ⟨p, F, rfl, hR, hF, hb2⟩
  have hbw2 : Below w.heap.size w w2 := below_then hb0 hb2
  have hF2 : ∀ b, F b → w.heap.size ≤ b := fun b h => Nat.le_trans hb0.size (hF b h)
  have HR2 : Hid (hC.Rep f r [(hostX, true, 0)] F p w2) := hR
  have HF2 : Hid (∀ b, F b → w.heap.size ≤ b) := hF2
  clear hnew hR hF hF2 hb0 hb1 hb2
  go_wp2_with fail
  go_loopw [10, 11] (fun u t W => Below w.heap.size w W ∧ ∃ (i : Nat) (up : Bool) (F : Nat → Prop), i ≤ l.length ∧ t = .int .i64 (i : Nat) ∧ u = .bool up ∧ hC.Rep f r [(hostX, up, 0)] F p W ∧ ∀ b, F b → w.heap.size ≤ b) (fun _ t _ => l.length - (intOf t).toNat)
  case atStart => exact ⟨hbw2, 0, true, F, Nat.zero_le _, rfl, rfl, HR2.out, HF2.out⟩
  case round =>
    clear HR2 HF2 hbw2
    obtain ⟨hb, i, up, F, hi, rfl, rfl, hR, hF⟩ := hrel
    obtain ⟨wo, hwo⟩ : ∃ wo, wo = wr := ⟨_, rfl⟩
    subst hwo
    have HR : Hid (hC.Rep f r [(hostX, up, 0)] F p wo) := hR
    have HF : Hid (∀ b, F b → w.heap.size ≤ b) := hF
    clear hR hF
    by_cases hlt : i < l.length
    · obtain ⟨bk, ok, rfl, hck⟩ := HX.out i hlt
      have cx := below_cell hb hck
      have hii : (i : Int) < (l.length : Int) := by omega
      generalize l[i] = run at *
      by_cases hin : 0 ≤ run ∧ run ≤ 10
      · obtain ⟨n, rfl⟩ := Int.eq_ofNat_of_zero_le hin.1
        have hn10 : n ≤ 10 := by omega
        have q1 : decide ((n : Int) < 0) = false := by simp
        have q2 : decide (10 < (n : Int)) = false := by simp; omega
        have HCK : Hid (w.cell? ⟨bk, ok + i, none⟩ = some (.int .i64 (n : Nat))) := hck
        clear hck hin
        cases up with
        | true =>
          have hed : Lh.hedge f r true = f := rfl
          have HED : Hid (Lh.hedge f r true = f) := hed
          clear hed
          go_wp2_with fail
          go_loopw [10, 13] (fun u t W => Below w.heap.size w W ∧ u = .bool true ∧ ∃ (k : Nat) (F' : Nat → Prop), 1 ≤ k ∧ k ≤ n + 1 ∧ t = .int .i64 (k : Nat) ∧ k - 1 < f ∧ hC.Rep f r [(hostX, true, k - 1)] F' p W ∧ ∀ b, F' b → w.heap.size ≤ b) (fun _ t _ => n + 1 - (intOf t).toNat)
          case atStart => exact ⟨hb, rfl, 1, F, Nat.le_refl _, by omega, rfl, by omega, HR.out, HF.out⟩
          case round =>
            obtain ⟨hbi, rfl, k, Fi, hk1, hkn, rfl, hke, hRi, hFi⟩ := hrel
            obtain ⟨wi, hwi⟩ : ∃ wi, wi = wr := ⟨_, rfl⟩
            subst hwi
            have HRi : Hid (hC.Rep f r [(hostX, true, k - 1)] Fi p wi) := hRi
            have HFi : Hid (∀ b, Fi b → w.heap.size ≤ b) := hFi
            have HKE : Hid (k - 1 < Lh.hedge f r true) := by
              have h1 := HED.out
              show k - 1 < Lh.hedge f r true
              omega
            have ci := below_cell hbi HCK.out
            clear hRi hFi hb cx
            by_cases hkl : k ≤ n
            · have hd : decide ((k : Int) ≤ (n : Int)) = true := by simp; omega
              by_cases hE : k = f
              · have hlk := look_one hC hf1 hf hr1 hr lenX HKE.out false (HE.out.later hbi) HRi.out HFi.out hbi.size (hostX, false, 0) true (by
                  have h1 := HED.out
                  unfold Lh.hlook
                  rw [if_neg (by simp), if_pos (by show Lh.hedge f r true ≤ k - 1 + 1; omega)]
                  rfl)
                have hq : ((k : Int) == (f : Int)) = true := by simp; omega
                have HEK : Hid (k = f) := hE
                clear hE
                go_wp2_with fail
                refine hlk.mono ?_
                rintro e w6 ⟨F6, rfl, hR6, hF6, hb6⟩
                have hbw6 : Below w.heap.size w w6 := hbi.trans hb6
                have HR6 : Hid (hC.Rep f r [(hostX, false, 0)] F6 p w6) := hR6
                have HF6 : Hid (∀ b, F6 b → w.heap.size ≤ b) := hF6
                clear hlk hR6 hF6 hb6
                have his := hC.is f r _ F6 p hostX w6 HR6.out (hok_one hf1 hf hr1 hr lenX (Lh.hedge_pos hf1 hr1 _)) lenX
                have e1 : Lh.hup [(hostX, false, 0)] hostX = false := by simp [Lh.hup]
                rw [e1] at his
                clear e1
                go_wp2_with fail
                refine his.mono ?_
                rintro e w7 ⟨rfl, hb7⟩
                have hbw7 : Below w.heap.size w w7 := below_then hbw6 hb7
                have hlk := look_one hC hf1 hf hr1 hr lenX (Lh.hedge_pos hf1 hr1 _) false (HE.out.later hbw7) (hC.later HR6.out hb7) HF6.out hbw7.size (hostX, false, 0) false (by simp [Lh.hlook])
                clear his
                go_wp2_with fail
                refine hlk.mono ?_
                rintro e w8 ⟨F8, rfl, hR8, hF8, hb8⟩
                have HR8 : Hid (hC.Rep f r [(hostX, false, 0)] F8 p w8) := hR8
                have HF8 : Hid (∀ b, F8 b → w.heap.size ≤ b) := hF8
                clear hlk hR8 hF8
                go_wp2_with fail
                exact ⟨⟨hbw7.trans hb8, i + 1, false, F8, by omega, by go_num, rfl, HR8.out, HF8.out⟩, by simp [intOf]; omega⟩
              · have hlk := look_one hC hf1 hf hr1 hr lenX HKE.out false (HE.out.later hbi) HRi.out HFi.out hbi.size (hostX, true, k) false (by
                  have h1 := HED.out
                  unfold Lh.hlook
                  rw [if_neg (by simp), if_neg (by show ¬ Lh.hedge f r true ≤ k - 1 + 1; omega)]
                  have h2 : k - 1 + 1 = k := by omega
                  show ((hostX, true, k - 1 + 1), false) = _
                  rw [h2])
                have hq : ((k : Int) == (f : Int)) = false := by rw [beq_eq_false_iff_ne]; omega
                go_wp2_with fail
                refine hlk.mono ?_
                rintro e w6 ⟨F6, rfl, hR6, hF6, hb6⟩
                have HR6 : Hid (hC.Rep f r [(hostX, true, k)] F6 p w6) := hR6
                have HF6 : Hid (∀ b, F6 b → w.heap.size ≤ b) := hF6
                have hbw6 : Below w.heap.size w w6 := hbi.trans hb6
                clear hlk hR6 hF6 hb6
                go_wp2_with fail
                exact ⟨⟨hbw6, rfl, k + 1, F6, by omega, by omega, by go_num, by omega, by simpa using HR6.out, HF6.out⟩, by simp [intOf]; omega⟩
            · have hd : decide ((k : Int) ≤ (n : Int)) = false := by simp; omega
              have his := hC.is f r _ Fi p hostX wi HRi.out (hok_one hf1 hf hr1 hr lenX HKE.out) lenX
              have e1 : Lh.hup [(hostX, true, k - 1)] hostX = true := by simp [Lh.hup]
              rw [e1] at his
              clear e1
              go_wp2_with fail
              refine his.mono ?_
              rintro e w7 ⟨rfl, hb7⟩
              have hbw7 : Below w.heap.size w w7 := below_then hbi hb7
              have hlk := look_one hC hf1 hf hr1 hr lenX HKE.out true (HE.out.later hbw7) (hC.later HRi.out hb7) HFi.out hbw7.size (hostX, true, 0) false (by simp [Lh.hlook])
              clear his
              go_wp2_with fail
              refine hlk.mono ?_
              rintro e w8 ⟨F8, rfl, hR8, hF8, hb8⟩
              have HR8 : Hid (hC.Rep f r [(hostX, true, 0)] F8 p w8) := hR8
              have HF8 : Hid (∀ b, F8 b → w.heap.size ≤ b) := hF8
              clear hlk hR8 hF8
              go_wp2_with fail
              exact ⟨⟨hbw7.trans hb8, i + 1, true, F8, by omega, by go_num, rfl, HR8.out, HF8.out⟩, by simp [intOf]; omega⟩
        | false =>
          have hed : Lh.hedge f r false = r := rfl
          have HED : Hid (Lh.hedge f r false = r) := hed
          clear hed
          go_wp2_with fail
          go_loopw [10, 13] (fun u t W => Below w.heap.size w W ∧ u = .bool false ∧ ∃ (k : Nat) (F' : Nat → Prop), 1 ≤ k ∧ k ≤ n + 1 ∧ t = .int .i64 (k : Nat) ∧ k - 1 < r ∧ hC.Rep f r [(hostX, false, k - 1)] F' p W ∧ ∀ b, F' b → w.heap.size ≤ b) (fun _ t _ => n + 1 - (intOf t).toNat)
          case atStart => exact ⟨hb, rfl, 1, F, Nat.le_refl _, by omega, rfl, by omega, HR.out, HF.out⟩
          case round =>
            obtain ⟨hbi, rfl, k, Fi, hk1, hkn, rfl, hke, hRi, hFi⟩ := hrel
            obtain ⟨wi, hwi⟩ : ∃ wi, wi = wr := ⟨_, rfl⟩
            subst hwi
            have HRi : Hid (hC.Rep f r [(hostX, false, k - 1)] Fi p wi) := hRi
            have HFi : Hid (∀ b, Fi b → w.heap.size ≤ b) := hFi
            have HKE : Hid (k - 1 < Lh.hedge f r false) := by
              have h1 := HED.out
              show k - 1 < Lh.hedge f r false
              omega
            have ci := below_cell hbi HCK.out
            clear hRi hFi hb cx
            by_cases hkl : k ≤ n
            · have hd : decide ((k : Int) ≤ (n : Int)) = true := by simp; omega
              by_cases hE : k = r
              · have hlk := look_one hC hf1 hf hr1 hr lenX HKE.out true (HE.out.later hbi) HRi.out HFi.out hbi.size (hostX, true, 0) true (by
                  have h1 := HED.out
                  unfold Lh.hlook
                  rw [if_neg (by simp), if_pos (by show Lh.hedge f r false ≤ k - 1 + 1; omega)]
                  rfl)
                have hq : ((k : Int) == (r : Int)) = true := by simp; omega
                have HEK : Hid (k = r) := hE
                clear hE
                go_wp2_with fail
                refine hlk.mono ?_
                rintro e w6 ⟨F6, rfl, hR6, hF6, hb6⟩
                have hbw6 : Below w.heap.size w w6 := hbi.trans hb6
                have HR6 : Hid (hC.Rep f r [(hostX, true, 0)] F6 p w6) := hR6
                have HF6 : Hid (∀ b, F6 b → w.heap.size ≤ b) := hF6
                clear hlk hR6 hF6 hb6
                have his := hC.is f r _ F6 p hostX w6 HR6.out (hok_one hf1 hf hr1 hr lenX (Lh.hedge_pos hf1 hr1 _)) lenX
                have e1 : Lh.hup [(hostX, true, 0)] hostX = true := by simp [Lh.hup]
                rw [e1] at his
                clear e1
                go_wp2_with fail
                refine his.mono ?_
                rintro e w7 ⟨rfl, hb7⟩
                have hbw7 : Below w.heap.size w w7 := below_then hbw6 hb7
                have hlk := look_one hC hf1 hf hr1 hr lenX (Lh.hedge_pos hf1 hr1 _) true (HE.out.later hbw7) (hC.later HR6.out hb7) HF6.out hbw7.size (hostX, true, 0) false (by simp [Lh.hlook])
                clear his
                go_wp2_with fail
                refine hlk.mono ?_
                rintro e w8 ⟨F8, rfl, hR8, hF8, hb8⟩
                have HR8 : Hid (hC.Rep f r [(hostX, true, 0)] F8 p w8) := hR8
                have HF8 : Hid (∀ b, F8 b → w.heap.size ≤ b) := hF8
                clear hlk hR8 hF8
                go_wp2_with fail
                exact ⟨⟨hbw7.trans hb8, i + 1, true, F8, by omega, by go_num, rfl, HR8.out, HF8.out⟩, by simp [intOf]; omega⟩
              · have hlk := look_one hC hf1 hf hr1 hr lenX HKE.out true (HE.out.later hbi) HRi.out HFi.out hbi.size (hostX, false, k) false (by
                  have h1 := HED.out
                  unfold Lh.hlook
                  rw [if_neg (by simp), if_neg (by show ¬ Lh.hedge f r false ≤ k - 1 + 1; omega)]
                  have h2 : k - 1 + 1 = k := by omega
                  show ((hostX, false, k - 1 + 1), false) = _
                  rw [h2])
                have hq : ((k : Int) == (r : Int)) = false := by rw [beq_eq_false_iff_ne]; omega
                go_wp2_with fail
                refine hlk.mono ?_
                rintro e w6 ⟨F6, rfl, hR6, hF6, hb6⟩
                have HR6 : Hid (hC.Rep f r [(hostX, false, k)] F6 p w6) := hR6
                have HF6 : Hid (∀ b, F6 b → w.heap.size ≤ b) := hF6
                have hbw6 : Below w.heap.size w w6 := hbi.trans hb6
                clear hlk hR6 hF6 hb6
                go_wp2_with fail
                exact ⟨⟨hbw6, rfl, k + 1, F6, by omega, by omega, by go_num, by omega, by simpa using HR6.out, HF6.out⟩, by simp [intOf]; omega⟩
            · have hd : decide ((k : Int) ≤ (n : Int)) = false := by simp; omega
              have his := hC.is f r _ Fi p hostX wi HRi.out (hok_one hf1 hf hr1 hr lenX HKE.out) lenX
              have e1 : Lh.hup [(hostX, false, k - 1)] hostX = false := by simp [Lh.hup]
              rw [e1] at his
              clear e1
              go_wp2_with fail
              refine his.mono ?_
              rintro e w7 ⟨rfl, hb7⟩
              have hbw7 : Below w.heap.size w w7 := below_then hbi hb7
              have hlk := look_one hC hf1 hf hr1 hr lenX HKE.out false (HE.out.later hbw7) (hC.later HRi.out hb7) HFi.out hbw7.size (hostX, false, 0) false (by simp [Lh.hlook])
              clear his
              go_wp2_with fail
              refine hlk.mono ?_
              rintro e w8 ⟨F8, rfl, hR8, hF8, hb8⟩
              have HR8 : Hid (hC.Rep f r [(hostX, false, 0)] F8 p w8) := hR8
              have HF8 : Hid (∀ b, F8 b → w.heap.size ≤ b) := hF8
              clear hlk hR8 hF8
              go_wp2_with fail
              exact ⟨⟨hbw7.trans hb8, i + 1, false, F8, by omega, by go_num, rfl, HR8.out, HF8.out⟩, by simp [intOf]; omega⟩
      · clear hck
        by_cases hneg : run < 0
        · have q1 : decide (run < 0) = true := by simpa using hneg
          clear hin
          cases up with
          | true =>
            go_wp2_with fail
            exact ⟨⟨hb, i + 1, true, F, by omega, by go_num, rfl, HR.out, HF.out⟩, by simp [intOf]; omega⟩
          | false =>
            go_wp2_with fail
            exact ⟨⟨hb, i + 1, false, F, by omega, by go_num, rfl, HR.out, HF.out⟩, by simp [intOf]; omega⟩
        · have q1 : decide (run < 0) = false := by simpa using hneg
          have q2 : decide (10 < run) = true := by simp; omega
          clear hin hneg
          cases up with
          | true =>
            go_wp2_with fail
            exact ⟨⟨hb, i + 1, true, F, by omega, by go_num, rfl, HR.out, HF.out⟩, by simp [intOf]; omega⟩
          | false =>
            go_wp2_with fail
            exact ⟨⟨hb, i + 1, false, F, by omega, by go_num, rfl, HR.out, HF.out⟩, by simp [intOf]; omega⟩
    · have hii : decide ((i : Int) < (l.length : Int)) = false := by simp; omega
      go_wp2
      go_ret
      exact ⟨rfl, hb⟩
end Go.Proofs.YtkpjecpaejdgaabDoor
