/- The model of flows: Add. -/
import Derived.Test.YtmdckddenelneaaGreatDoorM44
import Derived.Test.YtmdckddenelneaaGreatDoorM3
import Derived.Deep.RegionHeld3
import Derived.Test.YtmdckddenelneaaGreatDoorHRef4
import Derived.Test.YtmdckddenelneaaGreatDoorM5
import Derived.Test.YtmdckddenelneaaGreatDoorM8
import Derived.Test.YtmdckddenelneaaGreatDoorM25
import Derived.Test.YtmdckddenelneaaGreatDoorM24
namespace Go.Proofs.YtmdckddenelneaaGreatDoor
open Go.RowKit

/-- a block of two numbers -/
structure RB (w : World) (b : Nat) (x y : Int) : Prop where
  c0 : w.cell? ⟨b, 0, none⟩ = some (.int .i64 x)
  c1 : w.cell? ⟨b, 1, none⟩ = some (.int .i64 y)
  f0 : w.frozen? ⟨b, 0, none⟩ = false
  f1 : w.frozen? ⟨b, 1, none⟩ = false
theorem RB.made (w : World) (x y : Int) (t : TypeId) : RB (w.alloc (.cells #[.int .i64 x, .int .i64 y] t)) w.heap.size x y := ⟨by simp, by simp, by simp, by simp⟩
theorem RB.same {w w' : World} {b : Nat} {x y : Int} (h : RB w b x y) (e : w'.heap[b]? = w.heap[b]?) : RB w' b x y :=
  ⟨(World.cell?_of_block (w := w) (w' := w') (a := ⟨b, 0, none⟩) e).trans h.c0, (World.cell?_of_block (w := w) (w' := w') (a := ⟨b, 1, none⟩) e).trans h.c1, (World.frozen?_of_block (w := w) (w' := w') (a := ⟨b, 0, none⟩) e).trans h.f0, (World.frozen?_of_block (w := w) (w' := w') (a := ⟨b, 1, none⟩) e).trans h.f1⟩
theorem RB.lt {w : World} {b : Nat} {x y : Int} (h : RB w b x y) : b < w.heap.size := World.block_lt_of_cell? w ⟨b, 0, none⟩ h.c0
theorem RB.later {w w' : World} {b : Nat} {x y : Int} (h : RB w b x y) (hb : Below w.heap.size w w') : RB w' b x y := h.same (hb.block b h.lt)
theorem fcell {F : Nat → Prop} {W W1 : World} (h : Tur F W W1) {x k : Nat} {v : Value} (hc : W.cell? ⟨x, k, none⟩ = some v) (hx : ¬ F x) : W1.cell? ⟨x, k, none⟩ = some v := by
  have hlt : x < W.heap.size := World.block_lt_of_cell? W ⟨x, k, none⟩ hc
  exact (World.cell?_of_block (w := W) (w' := W1) (a := ⟨x, k, none⟩) (h.block x hlt hx)).trans hc
theorem Tur.put {F : Nat → Prop} {w w' : World} (h : Tur F w w') {x : Nat} (k : Nat) (hx : F x ∨ w.heap.size ≤ x) (v : Value) : Tur F w (w'.setCell ⟨x, k, none⟩ v) :=
  ⟨h.os, h.tape, h.output, by simpa [World.setCell] using h.size, fun j hj hf => (heap_setCell_other w' ⟨x, k, none⟩ j v (fun e => by
    rcases hx with h1 | h1
    · exact hf (e ▸ h1)
    · have : j = x := e
      omega)).trans (h.block j hj hf)⟩
section
variable {W : World} {m t : Nat} {la : Int} {L : List Lh.Fl} {lv : Value}

set_option maxHeartbeats 1000000 in
theorem faddM_tick (h : MF W m t la L lv) (v : Value) {now : Int} {j : Nat} (ht : TickF la now j) :
    Calls Tryz.prog 98 #[.pointer (some ⟨m, 0, none⟩), v, .int .i64 now] W fun e w' => e = .returned (.tuple #[.int .i64 0, .agg #[.int .i64 ((j + 1 : Nat) : Int), .int .i64 (-1)]]) ∧ Below W.heap.size W w' := by
  have hb0 : Below W.heap.size W (W.alloc (.cells #[.int .i64 0, .int .i64 0] 37)) := (Below.refl _ _).alloc (Nat.le_refl _) _
  have h1 := ftick_bad (h.later hb0) ht
  have hR := RB.made W 0 0 37
  have hj := ht.num
  clear h ht
  rcases hj with rfl | rfl
  all_goals
    go_enter Tryz.func98, Tryz.ntmps98
    go_wp2_with fail
    refine h1.mono ?_
    rintro e w1 ⟨rfl, rfl⟩
    clear h1
    generalize W.alloc (.cells #[.int .i64 0, .int .i64 0] 37) = w1 at *
    go_wp2_with fail
    refine (bare_any _ _).mono ?_
    rintro e w3 ⟨rfl, hb3⟩
    have hbz : Below W.heap.size W w3 := below_then hb0 hb3
    obtain ⟨q0, q1, g0, g1⟩ := hR.later hb3
    clear hb3 hb0 hR
    go_wp2
    exact bodyPost_ret (v := .tuple #[.int .i64 0, .agg #[.int .i64 _, .int .i64 (-1)]]) (by simp [results, Tryz.results98, go_sem, q0, q1]) rfl ⟨rfl, (hbz.setCell (Nat.le_refl _) _).setCell (Nat.le_refl _) _⟩

set_option maxRecDepth 100000 in
set_option maxHeartbeats 2000000 in
theorem faddM_name (h : MF W m t la L lv) (q : Option Addr) (c : Nat) (l : List Lh.Fl) (hl : l.length ≤ 201) (hc : ∀ i (hi : i < l.length), ∃ b o, q = some ⟨b, o, none⟩ ∧ W.cell? ⟨b, o + i * 3 + 1, none⟩ = some (.string (l[i]).2.1)) (hin : FlIn l) {now : Int} (ht : TickOk la now) (k : Nat) (hk : NmAt l k) :
    Calls Tryz.prog 98 #[.pointer (some ⟨m, 0, none⟩), .slice q l.length c, .int .i64 now] W fun e w' => e = .returned (.tuple #[.int .i64 0, .agg #[.int .i64 4, .int .i64 (k : Nat)]]) ∧ Below W.heap.size W w' := by
  have hb0 : Below W.heap.size W (W.alloc (.cells #[.int .i64 0, .int .i64 0] 37)) := (Below.refl _ _).alloc (Nat.le_refl _) _
  have h1 := ftick_ok (h.later hb0) ht
  have hR := RB.made W 0 0 37
  have HC : Hid (∀ i (hi : i < l.length), ∃ b o, q = some ⟨b, o, none⟩ ∧ W.cell? ⟨b, o + i * 3 + 1, none⟩ = some (.string (l[i]).2.1)) := hc
  have HIN : Hid (FlIn l) := hin
  have HK : Hid (NmAt l k) := hk
  clear h ht hc hin hk
  go_enter Tryz.func98, Tryz.ntmps98
  go_wp2_with fail
  refine h1.mono ?_
  rintro e w1 ⟨rfl, rfl⟩
  clear h1
  generalize W.alloc (.cells #[.int .i64 0, .int .i64 0] 37) = w1 at *
  obtain ⟨q0, q1, g0, g1⟩ := hR
  go_wp2_with fail
  go_loop [9, 10] (fun u _ => ∃ i : Nat, i ≤ k ∧ u = .int .i64 (i : Nat)) (fun u _ => k + 1 - (intOf u).toNat)
  case atStart => exact ⟨0, Nat.zero_le _, rfl⟩
  case round =>
    obtain ⟨i, hi, rfl⟩ := hrel
    obtain ⟨hkl, hkf, hkp⟩ := HK.out
    have hil : i < l.length := by omega
    have hii : (i : Int) < (l.length : Int) := by omega
    obtain ⟨b, o, rfl, cx⟩ := HC.out i hil
    have cx' := below_cell hb0 cx
    have hsz := (HIN.out _ (List.getElem_mem hil)).2.1
    have hnm := refName_any (l[i]).2.1 w1 (Nat.le_trans hsz (by decide))
    by_cases hik : i = k
    · subst hik
      rw [hkf] at hnm
      clear hkp hkf cx hsz
      generalize (l[i]).2.1 = s at *
      go_wp2_with fail
      refine hnm.mono ?_
      rintro e w2 ⟨rfl, rfl⟩
      clear hnm
      go_wp2
      exact bodyPost_ret (v := .tuple #[.int .i64 0, .agg #[.int .i64 4, .int .i64 (i : Nat)]]) (by simp [results, Tryz.results98, go_sem, q0, q1]) rfl ⟨rfl, (hb0.setCell (Nat.le_refl _) _).setCell (Nat.le_refl _) _⟩
    · rw [hkp i hil (by omega)] at hnm
      clear hkp hkf cx hsz
      generalize (l[i]).2.1 = s at *
      go_wp2_with fail
      refine hnm.mono ?_
      rintro e w2 ⟨rfl, rfl⟩
      clear hnm
      go_wp2
      go_round
      case rel => exact ⟨i + 1, by omega, by go_num⟩
      case measure => simp [intOf]; omega

set_option maxRecDepth 100000 in
set_option maxHeartbeats 2000000 in
theorem faddM_good (h : MF W m t la L lv) (hok : Lh.FlOk L) (q : Option Addr) (c : Nat) (l : List Lh.Fl) (hl : l.length ≤ 201) (hqm : 0 < l.length → ∀ b o, q = some ⟨b, o, none⟩ → ¬ FFoot m lv b) (hc : ∀ i (hi : i < l.length), ∃ b o, q = some ⟨b, o, none⟩ ∧ W.cell? ⟨b, o + i * 3, none⟩ = some (.int .u64 ((l[i]).1 : Nat)) ∧ W.cell? ⟨b, o + i * 3 + 1, none⟩ = some (.string (l[i]).2.1) ∧ W.cell? ⟨b, o + i * 3 + 2, none⟩ = some (.int .i64 (l[i]).2.2)) (hin : FlIn l) {now : Int} (ht : TickOk la now) (hn : ∀ x ∈ l, Lh.isNm x.2.1 = true) :
    Calls Tryz.prog 98 #[.pointer (some ⟨m, 0, none⟩), .slice q l.length c, .int .i64 now] W fun e w' => e = .returned (.tuple #[.int .i64 (((Lh.fadd now L l).length - L.length : Nat) : Int), .agg #[.int .i64 0, .int .i64 (-1)]]) ∧ ∃ lv', MF w' m t now (Lh.fadd now L l) lv' ∧ Tur (FFoot m lv) W w' ∧ ∀ b, FFoot m lv' b → FFoot m lv b ∨ W.heap.size ≤ b := by
  have hb0 : Below W.heap.size W (W.alloc (.cells #[.int .i64 0, .int .i64 0] 37)) := (Below.refl _ _).alloc (Nat.le_refl _) _
  have h0 := h.later hb0
  have h1 := ftick_ok h0 ht
  have hR := RB.made W 0 0 37
  have hsz1 : (W.alloc (.cells #[.int .i64 0, .int .i64 0] 37)).heap.size = W.heap.size + 1 := by simp
  have HC : Hid (∀ i (hi : i < l.length), ∃ b o, q = some ⟨b, o, none⟩ ∧ W.cell? ⟨b, o + i * 3, none⟩ = some (.int .u64 ((l[i]).1 : Nat)) ∧ W.cell? ⟨b, o + i * 3 + 1, none⟩ = some (.string (l[i]).2.1) ∧ W.cell? ⟨b, o + i * 3 + 2, none⟩ = some (.int .i64 (l[i]).2.2)) := hc
  have HIN : Hid (FlIn l) := hin
  have HQM : Hid (0 < l.length → ∀ b o, q = some ⟨b, o, none⟩ → ¬ FFoot m lv b) := hqm
  have HNM : Hid (∀ x ∈ l, Lh.isNm x.2.1 = true) := hn
  have HOK : Hid (Lh.FlOk L) := hok
  have HTK : Hid (TickOk la now) := ht
  have HM0 : Hid _ := h0
  have HLT : Hid (∀ b, FFoot m lv b → b < W.heap.size ∧ m ≤ b) := h.lt
  obtain ⟨c1, f1⟩ : (W.alloc (.cells #[.int .i64 0, .int .i64 0] 37)).cell? ⟨m, 1, none⟩ = some (.int .i64 la) ∧ (W.alloc (.cells #[.int .i64 0, .int .i64 0] 37)).frozen? ⟨m, 1, none⟩ = false := ⟨h0.c1, h0.fz 1⟩
  clear h ht hc hin hqm hn hok h0
  go_enter Tryz.func98, Tryz.ntmps98
  go_wp2_with fail
  refine h1.mono ?_
  rintro e w1 ⟨rfl, rfl⟩
  clear h1
  generalize W.alloc (.cells #[.int .i64 0, .int .i64 0] 37) = w1 at *
  have HSZ : Hid (w1.heap.size = W.heap.size + 1) := hsz1
  have HRB : Hid (RB w1 W.heap.size 0 0) := hR
  have HB0 : Hid (Below W.heap.size W w1) := hb0
  clear hsz1 hR hb0
  go_wp2_with fail
  go_loop [9, 10] (fun u _ => ∃ i : Nat, i ≤ l.length ∧ u = .int .i64 (i : Nat)) (fun u _ => l.length - (intOf u).toNat)
  case atStart => exact ⟨0, Nat.zero_le _, rfl⟩
  case round =>
    obtain ⟨i, hi, rfl⟩ := hrel
    by_cases hil : i < l.length
    · have hii : (i : Int) < (l.length : Int) := by omega
      obtain ⟨b, o, rfl, _, cx, _⟩ := HC.out i hil
      have cx' := below_cell HB0.out cx
      have hsz := (HIN.out _ (List.getElem_mem hil)).2.1
      have hnm := refName_any (l[i]).2.1 w1 (Nat.le_trans hsz (by decide))
      rw [HNM.out _ (List.getElem_mem hil)] at hnm
      clear cx hsz
      generalize (l[i]).2.1 = s at *
      go_wp2_with fail
      refine hnm.mono ?_
      rintro e w2 ⟨rfl, rfl⟩
      clear hnm
      go_wp2
      go_round
      case rel => exact ⟨i + 1, by omega, by go_num⟩
      case measure => simp [intOf]; omega
    · have hii : decide ((i : Int) < (l.length : Int)) = false := by simp; omega
      obtain ⟨hM2, hT2⟩ := HM0.out.tick now
      have HM2 : Hid _ := hM2
      have HT2 : Hid _ := hT2
      clear hM2 hT2
      go_wp2_with fail
      have HRB2 : Hid (RB (w1.setCell ⟨m, 1, none⟩ (.int .i64 now)) W.heap.size 0 0) := HRB.out.same (HT2.out.block _ HRB.out.lt (fun hf => by have := (HLT.out _ hf).1; omega))
      generalize w1.setCell ⟨m, 1, none⟩ (.int .i64 now) = w2 at *
      clear c1 f1
      go_loopw [11, 12] (fun u v w' => ∃ (k : Nat) (lv' : Value), k ≤ l.length ∧ v = .int .i64 (k : Nat) ∧ u = .int .i64 (((Lh.fadd now L (l.take k)).length - L.length : Nat) : Int) ∧ MF w' m t now (Lh.fadd now L (l.take k)) lv' ∧ Tur (FFoot m lv) w1 w' ∧ ∀ b, FFoot m lv' b → FFoot m lv b ∨ w1.heap.size ≤ b) (fun _ v _ => l.length - (intOf v).toNat)
      case atStart => exact ⟨0, lv, Nat.zero_le _, rfl, by simp [Lh.fadd], HM2.out, HT2.out, fun b hb => Or.inl hb⟩
      case round =>
        obtain ⟨k, lv', hk, rfl, rfl, hM, hT, hF⟩ := hrel
        have HTT : Hid (Tur (FFoot m lv) w1 wr) := hT
        have HFF : Hid (∀ b, FFoot m lv' b → FFoot m lv b ∨ w1.heap.size ≤ b) := hF
        have HLL : Hid (L.length ≤ (Lh.fadd now L (l.take k)).length) := Lh.fadd_len now _ _
        have hok2 : (Lh.fadd now L (l.take k)).length ≤ 200 := (Lh.FlOk.add HTK.out.1 HTK.out.2.1 (l.take k) HOK.out (fun x hx => ⟨(HIN.out x (List.mem_of_mem_take hx)).1, (HIN.out x (List.mem_of_mem_take hx)).2.1⟩)).len
        clear hT hF
        by_cases hkl : k < l.length
        · have hki : (k : Int) < (l.length : Int) := by omega
          obtain ⟨b, o, rfl, x0, x1, x2⟩ := HC.out k hkl
          have hbf : ¬ FFoot m lv b := HQM.out (by omega) b o rfl
          have x0' := fcell HTT.out (below_cell HB0.out x0) hbf
          have x1' := fcell HTT.out (below_cell HB0.out x1) hbf
          have x2' := fcell HTT.out (below_cell HB0.out x2) hbf
          have HFA : Hid (Lh.fadd now L (l.take (k + 1)) = Lh.fadd1 now (Lh.fadd now L (l.take k)) l[k]) := by
            show _ = _
            rw [List.take_succ_eq_append_getElem hkl, Lh.fadd_snoc]
          have hbd := (HIN.out _ (List.getElem_mem hkl)).2.2
          generalize Lh.fadd now L (l.take k) = M at *
          obtain ⟨⟨z, s, y⟩, hx⟩ : ∃ x, l[k] = x := ⟨_, rfl⟩
          rw [hx] at x0' x1' x2' HFA hbd
          have HMM : Hid (MF wr m t now M lv') := hM
          have hfd := ffind_any hM (by omega) z
          have HLY : Hid (Calls Tryz.prog 137 #[.pointer (some ⟨m, 0, none⟩), .agg #[.int .u64 (z : Nat), .string s, .int .i64 y]] wr fun e w' => ∃ lv9, e = .returned (.tuple #[]) ∧ MF w' m t now (Lh.flay (z, s, y) M) lv9 ∧ Tur (FFoot m lv') wr w' ∧ ∀ b, FFoot m lv9 b → FFoot m lv' b ∨ wr.heap.size ≤ b) := flay_any hM (by omega) (z, s, y)
          obtain ⟨p9, c9, hlv, _⟩ := hM.row
          subst hlv
          have c2 := hM.c2
          have hn0 : 0 ≤ now := HTK.out.1
          clear hM x0 x1 x2 hx
          dsimp only at x0' x1' x2' hbd
          by_cases g1 : Lh.fix M z < M.length
          · have e1 : ffi M z = (Lh.fix M z : Nat) := by unfold ffi; rw [if_pos g1]
            rw [e1] at hfd
            have d1 : decide (0 ≤ ((Lh.fix M z : Nat) : Int)) = true := by simp
            clear e1 hbd
            have HFE : Hid (Lh.fadd now L (l.take (k + 1)) = M) := by
              show _ = M
              rw [HFA.out]
              unfold Lh.fadd1
              rw [if_pos (Or.inl g1)]
            clear HFA HLY g1
            generalize Lh.fix M z = f9 at *
            go_wp2_with (first | (go_at_call 136; refine hfd.mono ?_; rintro e w9 ⟨rfl, rfl⟩))
            exact ⟨⟨k + 1, _, by omega, by go_num, by rw [HFE.out], by rw [HFE.out]; exact HMM.out, HTT.out, HFF.out⟩, by simp [intOf]; omega⟩
          · have e1 : ffi M z = -1 := by unfold ffi; rw [if_neg g1]
            rw [e1] at hfd
            clear e1
            by_cases g2 : y ≤ now
            · have d2 : decide (y ≤ now) = true := decide_eq_true g2
              clear hbd
              have HFE : Hid (Lh.fadd now L (l.take (k + 1)) = M) := by
                show _ = M
                rw [HFA.out]
                unfold Lh.fadd1
                rw [if_pos (Or.inr (Or.inl g2))]
              clear HFA HLY
              go_wp2_with (first | (go_at_call 136; refine hfd.mono ?_; rintro e w9 ⟨rfl, rfl⟩))
              exact ⟨⟨k + 1, _, by omega, by go_num, by rw [HFE.out], by rw [HFE.out]; exact HMM.out, HTT.out, HFF.out⟩, by simp [intOf]; omega⟩
            · have d2 : decide (y ≤ now) = false := decide_eq_false g2
              have hwr : IntKind.i64.wrap (y - now) = y - now := by
                rw [IntKind.wrap_i64]
                omega
              clear hbd
              by_cases g3 : 1000 < y - now
              · have d3 : decide (1000 < y - now) = true := decide_eq_true g3
                have HFE : Hid (Lh.fadd now L (l.take (k + 1)) = M) := by
                  show _ = M
                  rw [HFA.out]
                  unfold Lh.fadd1
                  rw [if_pos (Or.inr (Or.inr (Or.inl g3)))]
                clear HFA HLY
                go_wp2_with (first | (go_at_call 136; refine hfd.mono ?_; rintro e w9 ⟨rfl, rfl⟩))
                exact ⟨⟨k + 1, _, by omega, by go_num, by rw [HFE.out], by rw [HFE.out]; exact HMM.out, HTT.out, HFF.out⟩, by simp [intOf]; omega⟩
              · have d3 : decide (1000 < y - now) = false := decide_eq_false g3
                by_cases g4 : 200 ≤ M.length
                · have d4 : decide (200 ≤ (M.length : Int)) = true := by simp; omega
                  have HFE : Hid (Lh.fadd now L (l.take (k + 1)) = M) := by
                    show _ = M
                    rw [HFA.out]
                    unfold Lh.fadd1
                    rw [if_pos (Or.inr (Or.inr (Or.inr g4)))]
                  clear HFA HLY
                  go_wp2_with (first | (go_at_call 136; refine hfd.mono ?_; rintro e w9 ⟨rfl, rfl⟩))
                  exact ⟨⟨k + 1, _, by omega, by go_num, by rw [HFE.out], by rw [HFE.out]; exact HMM.out, HTT.out, HFF.out⟩, by simp [intOf]; omega⟩
                · have d4 : decide (200 ≤ (M.length : Int)) = false := by simp; omega
                  have HFE : Hid (Lh.fadd now L (l.take (k + 1)) = Lh.flay (z, s, y) M) := by
                    show _ = _
                    rw [HFA.out]
                    unfold Lh.fadd1
                    rw [if_neg (by rintro (h | h | h | h); exact g1 h; exact g2 h; exact g3 h; exact g4 h)]
                  clear HFA
                  go_wp2_with (first | (go_at_call 136; refine hfd.mono ?_; rintro e w9 ⟨rfl, rfl⟩; clear hfd))
                  refine HLY.out.mono ?_
                  rintro e w10 ⟨lv9, rfl, hM9, hT9, hF9⟩
                  have HM9 : Hid _ := hM9
                  have HT9 : Hid _ := hT9
                  have HF9 : Hid _ := hF9
                  clear hM9 hT9 hF9 HLY
                  go_wp2
                  refine ⟨⟨k + 1, lv9, by omega, by go_num, ?_, by rw [HFE.out]; exact HM9.out, HTT.out.trans HT9.out HFF.out, fun b hb => ?_⟩, by simp [intOf]; omega⟩
                  · have h1 := HLL.out
                    rw [HFE.out, Lh.flay_len]
                    congr 1
                    omega
                  · rcases HF9.out b hb with h | h
                    · exact HFF.out b h
                    · exact Or.inr (Nat.le_trans HTT.out.size h)
        · have hke : k = l.length := by omega
          have hki : decide ((k : Int) < (l.length : Int)) = false := by simp; omega
          have HR9 : Hid (RB wr W.heap.size 0 0) := HRB.out.same (HTT.out.block _ HRB.out.lt (fun hf => by have := (HLT.out _ hf).1; omega))
          have HMM : Hid (MF wr m t now (Lh.fadd now L l) lv') := by
            rw [hke, List.take_length] at hM
            exact hM
          have HNN : Hid ((Lh.fadd now L (l.take k)).length = (Lh.fadd now L l).length) := by
            show _ = _
            rw [hke, List.take_length]
          clear hM
          generalize (Lh.fadd now L (l.take k)).length = n9 at *
          clear hke
          go_wp2_with fail
          refine (fine_any _).mono ?_
          rintro e w8 ⟨rfl, hb8⟩
          obtain ⟨q0, q1, g0, g1⟩ := HR9.out.later hb8
          have HB8 : Hid (Below wr.heap.size wr w8) := hb8
          clear hb8
          go_wp2
          have hrbf : ¬ FFoot m lv' W.heap.size := fun hf => by
            rcases HFF.out _ hf with h | h
            · have := (HLT.out _ h).1
              omega
            · have := HSZ.out
              omega
          refine bodyPost_ret (v := .tuple #[.int .i64 ((n9 - L.length : Nat) : Int), .agg #[.int .i64 0, .int .i64 (-1)]]) (by simp [results, Tryz.results98, go_sem, q0, q1]) rfl ⟨by rw [HNN.out], lv', ?_, ?_, fun b hb => ?_⟩
          · refine (HMM.out.later HB8.out).stay fun b hb => ?_
            have hne : b ≠ W.heap.size := fun e => hrbf (e ▸ hb)
            rw [heap_setCell_other _ ⟨W.heap.size, 1, none⟩ b _ hne, heap_setCell_other _ ⟨W.heap.size, 0, none⟩ b _ hne]
          · exact ((below_tur ((Tur.of_below HB0.out).trans HTT.out (fun b hb => Or.inl hb)) HB8.out).put 0 (Or.inr (Nat.le_refl _)) _).put 1 (Or.inr (Nat.le_refl _)) _
          · rcases HFF.out b hb with h | h
            · exact Or.inl h
            · exact Or.inr (Nat.le_trans HB0.out.size h)

/-- Add. -/
theorem faddM_any (h : MF W m t la L lv) (hok : Lh.FlOk L) (v : Value) (l : List Lh.Fl) (hv : Flows1 W v l) (hvm : 0 < l.length → ∀ b o n c, v = .slice (some ⟨b, o, none⟩) n c → ¬ FFoot m lv b) (hl : l.length ≤ 201) (hin : FlIn l) (now : Int) :
    Calls Tryz.prog 98 #[.pointer (some ⟨m, 0, none⟩), v, .int .i64 now] W fun e w' => ∃ lv', Tur (FFoot m lv) W w' ∧ (∀ b, FFoot m lv' b → FFoot m lv b ∨ W.heap.size ≤ b) ∧
      ((TickOk la now ∧ (∀ x ∈ l, Lh.isNm x.2.1 = true) ∧ e = .returned (.tuple #[.int .i64 (((Lh.fadd now L l).length - L.length : Nat) : Int), .agg #[.int .i64 0, .int .i64 (-1)]]) ∧ MF w' m t now (Lh.fadd now L l) lv') ∨
       (∃ i, TickOk la now ∧ NmAt l i ∧ e = .returned (.tuple #[.int .i64 0, .agg #[.int .i64 4, .int .i64 (i : Nat)]]) ∧ MF w' m t la L lv') ∨
       (∃ j, TickF la now j ∧ e = .returned (.tuple #[.int .i64 0, .agg #[.int .i64 ((j + 1 : Nat) : Int), .int .i64 (-1)]]) ∧ MF w' m t la L lv')) := by
  rcases tick_ex la now with ht | ⟨j, ht⟩
  · obtain ⟨q, c, rfl, hqm, hc⟩ : ∃ q c, v = .slice q l.length c ∧ (0 < l.length → ∀ b o, q = some ⟨b, o, none⟩ → ¬ FFoot m lv b) ∧ ∀ i (hi : i < l.length), ∃ b o, q = some ⟨b, o, none⟩ ∧ W.cell? ⟨b, o + i * 3, none⟩ = some (.int .u64 ((l[i]).1 : Nat)) ∧ W.cell? ⟨b, o + i * 3 + 1, none⟩ = some (.string (l[i]).2.1) ∧ W.cell? ⟨b, o + i * 3 + 2, none⟩ = some (.int .i64 (l[i]).2.2) := by
      rcases hv with ⟨rfl, rfl | ⟨ad, c, rfl⟩⟩ | ⟨b, o, c, rfl, _, h⟩
      · exact ⟨_, _, rfl, fun h => absurd h (by simp), fun i hi => absurd hi (by simp)⟩
      · exact ⟨_, c, rfl, fun h => absurd h (by simp), fun i hi => absurd hi (by simp)⟩
      · exact ⟨_, c, rfl, fun h0 b' o' e => by cases e; exact hvm h0 b o _ c rfl, fun i hi => ⟨b, o, rfl, h i hi⟩⟩
    rcases nmAt_ex l with hn | ⟨k, hk⟩
    · refine (faddM_good h hok q c l hl hqm hc hin ht hn).mono ?_
      rintro e w' ⟨rfl, lv', h1, h2, h3⟩
      exact ⟨lv', h2, h3, Or.inl ⟨ht, hn, rfl, h1⟩⟩
    · refine (faddM_name h q c l hl (fun i hi => by obtain ⟨b, o, e, _, h1, _⟩ := hc i hi; exact ⟨b, o, e, h1⟩) hin ht k hk).mono ?_
      rintro e w' ⟨rfl, hb⟩
      exact ⟨lv, Tur.of_below hb, fun b hb => Or.inl hb, Or.inr (Or.inl ⟨k, ht, hk, rfl, h.later hb⟩)⟩
  · refine (faddM_tick h v ht).mono ?_
    rintro e w' ⟨rfl, hb⟩
    exact ⟨lv, Tur.of_below hb, fun b hb => Or.inl hb, Or.inr (Or.inr ⟨j, ht, rfl, h.later hb⟩)⟩
end
end Go.Proofs.YtmdckddenelneaaGreatDoor

/- The model's balance in memory: a block, a health, flows, a row of those that are drained. -/
namespace Go.Proofs.YtmdckddenelneaaGreatDoor
open Go.RowKit

/-- Block m is the model's balance: its health is block hm (hosts L, their row lv), its flows are block fm (their row fv), those that are drained are the row dv; no host has more than B looks. -/
structure MB (W : World) (m hm fm : Nat) (L : List Mh) (lv fv dv : Value) (B : Nat) (S : Lh.Bl) : Prop where
  c0 : W.cell? ⟨m, 0, none⟩ = some (.pointer (some ⟨hm, 0, none⟩))
  c1 : W.cell? ⟨m, 1, none⟩ = some (.pointer (some ⟨fm, 0, none⟩))
  c2 : W.cell? ⟨m, 2, none⟩ = some (.int .i64 (S.size : Nat))
  c3 : W.cell? ⟨m, 3, none⟩ = some dv
  c4 : W.cell? ⟨m, 4, none⟩ = some (.int .i64 S.ep)
  fz : ∀ k, W.frozen? ⟨m, k, none⟩ = false
  h : MH W hm S.f S.r L lv
  hs : hst L = S.hs
  lk : ∀ x ∈ L, x.looks.length ≤ B
  f : MF W fm S.t S.la S.L fv
  d : W.ownsRow 0 9 1 dv S.dr.length (S.dr.map Value.string)
  dn : S.dr.Nodup
  dh : ∀ s ∈ S.dr, Lh.hix S.hs s < S.hs.length
  mh : ¬ MFoot hm L lv m
  mf : ¬ FFoot fm fv m
  md : dv.ownBlock ≠ some m
  hf : ∀ b, MFoot hm L lv b → ¬ FFoot fm fv b
  hd : ∀ b, dv.ownBlock = some b → ¬ MFoot hm L lv b
  fd : ∀ b, dv.ownBlock = some b → ¬ FFoot fm fv b
/-- the blocks that it is made of -/
def MBt (m hm fm : Nat) (L : List Mh) (lv fv dv : Value) (b : Nat) : Prop := b = m ∨ MFoot hm L lv b ∨ FFoot fm fv b ∨ dv.ownBlock = some b
section
variable {W W' : World} {m hm fm : Nat} {L : List Mh} {lv fv dv : Value} {B : Nat} {S : Lh.Bl}
theorem MB.mlt (h : MB W m hm fm L lv fv dv B S) : m < W.heap.size := World.block_lt_of_cell? W ⟨m, 0, none⟩ h.c0
theorem MB.lt (h : MB W m hm fm L lv fv dv B S) : ∀ b, MBt m hm fm L lv fv dv b → b < W.heap.size := by
  rintro b (rfl | hb | hb | hb)
  · exact h.mlt
  · exact (h.h.lt b hb).1
  · exact (h.f.lt b hb).1
  · exact (h.d.lt b hb).2
theorem MB.cells (h : MB W m hm fm L lv fv dv B S) (e : W'.heap[m]? = W.heap[m]?) : W'.cell? ⟨m, 0, none⟩ = some (.pointer (some ⟨hm, 0, none⟩)) ∧ W'.cell? ⟨m, 1, none⟩ = some (.pointer (some ⟨fm, 0, none⟩)) ∧ W'.cell? ⟨m, 2, none⟩ = some (.int .i64 (S.size : Nat)) ∧ W'.cell? ⟨m, 3, none⟩ = some dv ∧ W'.cell? ⟨m, 4, none⟩ = some (.int .i64 S.ep) ∧ ∀ k, W'.frozen? ⟨m, k, none⟩ = false :=
  ⟨(World.cell?_of_block (w := W) (w' := W') (a := ⟨m, 0, none⟩) e).trans h.c0, (World.cell?_of_block (w := W) (w' := W') (a := ⟨m, 1, none⟩) e).trans h.c1, (World.cell?_of_block (w := W) (w' := W') (a := ⟨m, 2, none⟩) e).trans h.c2, (World.cell?_of_block (w := W) (w' := W') (a := ⟨m, 3, none⟩) e).trans h.c3, (World.cell?_of_block (w := W) (w' := W') (a := ⟨m, 4, none⟩) e).trans h.c4, fun k => (World.frozen?_of_block (w := W) (w' := W') (a := ⟨m, k, none⟩) e).trans (h.fz k)⟩
theorem MB.stay (h : MB W m hm fm L lv fv dv B S) (hs : ∀ b, MBt m hm fm L lv fv dv b → W'.heap[b]? = W.heap[b]?) : MB W' m hm fm L lv fv dv B S := by
  obtain ⟨a0, a1, a2, a3, a4, a5⟩ := h.cells (hs m (Or.inl rfl))
  exact ⟨a0, a1, a2, a3, a4, a5, h.h.stay fun b hb => hs b (Or.inr (Or.inl hb)), h.hs, h.lk, h.f.stay fun b hb => hs b (Or.inr (Or.inr (Or.inl hb))), owns_same h.d fun g e => hs g (Or.inr (Or.inr (Or.inr e))), h.dn, h.dh, h.mh, h.mf, h.md, h.hf, h.hd, h.fd⟩
theorem MB.later (h : MB W m hm fm L lv fv dv B S) (hb : Below W.heap.size W W') : MB W' m hm fm L lv fv dv B S := h.stay fun b hf => hb.block b (h.lt b hf)
theorem MB.more (h : MB W m hm fm L lv fv dv B S) {B' : Nat} (hB : B ≤ B') : MB W m hm fm L lv fv dv B' S := ⟨h.c0, h.c1, h.c2, h.c3, h.c4, h.fz, h.h, h.hs, fun x hx => Nat.le_trans (h.lk x hx) hB, h.f, h.d, h.dn, h.dh, h.mh, h.mf, h.md, h.hf, h.hd, h.fd⟩
theorem MB.drLen (h : MB W m hm fm L lv fv dv B S) (hl : S.hs.length ≤ 12) : S.dr.length ≤ 12 := by
  refine Nat.le_trans (nodup_le (m := S.hs.map fun x => x.1) h.dn fun x hx => ?_) (by rw [List.length_map]; exact hl)
  obtain ⟨y, hy, rfl⟩ := Lh.hix_lt.1 (h.dh x hx)
  exact List.mem_map_of_mem hy
/-- all but its flows is as it was -/
theorem MB.flows (h : MB W m hm fm L lv fv dv B S) (hT : Tur (FFoot fm fv) W W') {la : Int} {M : List Lh.Fl} {fv' : Value} (hF : MF W' fm S.t la M fv') (hN : ∀ b, FFoot fm fv' b → FFoot fm fv b ∨ W.heap.size ≤ b) : MB W' m hm fm L lv fv' dv B { S with la := la, L := M } ∧ Tur (MBt m hm fm L lv fv dv) W W' ∧ ∀ b, MBt m hm fm L lv fv' dv b → MBt m hm fm L lv fv dv b ∨ W.heap.size ≤ b := by
  obtain ⟨a0, a1, a2, a3, a4, a5⟩ := h.cells (hT.block m h.mlt h.mf)
  refine ⟨⟨a0, a1, a2, a3, a4, a5, h.h.stay fun b hb => hT.block b (h.h.lt b hb).1 (h.hf b hb), h.hs, h.lk, hF, owns_same h.d fun g e => hT.block g (h.d.lt g e).2 (h.fd g e), h.dn, h.dh, h.mh, fun hq => ?_, h.md, fun b hb hq => ?_, h.hd, fun b hb hq => ?_⟩, ⟨hT.os, hT.tape, hT.output, hT.size, fun b hb hq => hT.block b hb fun hf => hq (Or.inr (Or.inr (Or.inl hf)))⟩, ?_⟩
  · rcases hN m hq with h1 | h1
    · exact h.mf h1
    · have := h.mlt; omega
  · rcases hN b hq with h1 | h1
    · exact h.hf b hb h1
    · have := (h.h.lt b hb).1; omega
  · rcases hN b hq with h1 | h1
    · exact h.fd b hb h1
    · have := (h.d.lt b hb).2; omega
  · rintro b (rfl | hb | hb | hb)
    · exact Or.inl (Or.inl rfl)
    · exact Or.inl (Or.inr (Or.inl hb))
    · rcases hN b hb with h1 | h1
      · exact Or.inl (Or.inr (Or.inr (Or.inl h1)))
      · exact Or.inr h1
    · exact Or.inl (Or.inr (Or.inr (Or.inr hb)))
/-- all but its health is as it was -/
theorem MB.health (h : MB W m hm fm L lv fv dv B S) (hT : Tur (MFoot hm L lv) W W') {L' : List Mh} {lv' : Value} {l : List Lh.Hh} {B' : Nat} (hH : MH W' hm S.f S.r L' lv') (hl : hst L' = l) (hk : ∀ x ∈ L', x.looks.length ≤ B') (hd : ∀ s ∈ S.dr, Lh.hix l s < l.length) (hN : ∀ b, MFoot hm L' lv' b → MFoot hm L lv b ∨ W.heap.size ≤ b) : MB W' m hm fm L' lv' fv dv B' { S with hs := l } ∧ Tur (MBt m hm fm L lv fv dv) W W' ∧ ∀ b, MBt m hm fm L' lv' fv dv b → MBt m hm fm L lv fv dv b ∨ W.heap.size ≤ b := by
  obtain ⟨a0, a1, a2, a3, a4, a5⟩ := h.cells (hT.block m h.mlt h.mh)
  refine ⟨⟨a0, a1, a2, a3, a4, a5, hH, hl, hk, h.f.stay fun b hb => hT.block b (h.f.lt b hb).1 fun hg => h.hf b hg hb, owns_same h.d fun g e => hT.block g (h.d.lt g e).2 (h.hd g e), h.dn, hd, fun hq => ?_, h.mf, h.md, fun b hb hq => ?_, fun b hb hq => ?_, h.fd⟩, ⟨hT.os, hT.tape, hT.output, hT.size, fun b hb hq => hT.block b hb fun hf => hq (Or.inr (Or.inl hf))⟩, ?_⟩
  · rcases hN m hq with h1 | h1
    · exact h.mh h1
    · have := h.mlt; omega
  · rcases hN b hb with h1 | h1
    · exact h.hf b h1 hq
    · have := (h.f.lt b hq).1; omega
  · rcases hN b hq with h1 | h1
    · exact h.hd b hb h1
    · have := (h.d.lt b hb).2; omega
  · rintro b (rfl | hb | hb | hb)
    · exact Or.inl (Or.inl rfl)
    · rcases hN b hb with h1 | h1
      · exact Or.inl (Or.inr (Or.inl h1))
      · exact Or.inr h1
    · exact Or.inl (Or.inr (Or.inr (Or.inl hb)))
    · exact Or.inl (Or.inr (Or.inr (Or.inr hb)))
/-- a cell of its own block is turned -/
theorem MB.other (h : MB W m hm fm L lv fv dv B S) (k : Nat) (v : Value) : MH (W.setCell ⟨m, k, none⟩ v) hm S.f S.r L lv ∧ MF (W.setCell ⟨m, k, none⟩ v) fm S.t S.la S.L fv ∧ (W.setCell ⟨m, k, none⟩ v).ownsRow 0 9 1 dv S.dr.length (S.dr.map Value.string) := by
  have ho : ∀ b, b ≠ m → (W.setCell ⟨m, k, none⟩ v).heap[b]? = W.heap[b]? := fun b hb => Below.heap_setCell _ _ _ b hb
  exact ⟨h.h.stay fun b hb => ho b fun e => h.mh (e ▸ hb), h.f.stay fun b hb => ho b fun e => h.mf (e ▸ hb), owns_same h.d fun g e => ho g fun e1 => h.md (e1 ▸ e)⟩
theorem MB.epoch (h : MB W m hm fm L lv fv dv B S) (e : Int) : MB (W.setCell ⟨m, 4, none⟩ (.int .i64 e)) m hm fm L lv fv dv B { S with ep := e } ∧ Tur (MBt m hm fm L lv fv dv) W (W.setCell ⟨m, 4, none⟩ (.int .i64 e)) := by
  obtain ⟨h1, h2, h3⟩ := h.other 4 (.int .i64 e)
  refine ⟨⟨?_, ?_, ?_, ?_, World.cell?_setCell_same' _ _ _ (by rw [h.c4]; rfl), fun k => by rw [World.frozen?_setCell]; exact h.fz k, h1, h.hs, h.lk, h2, h3, h.dn, h.dh, h.mh, h.mf, h.md, h.hf, h.hd, h.fd⟩, ⟨rfl, rfl, rfl, by simp, fun b _ hq => Below.heap_setCell _ _ _ b fun e => hq (Or.inl e)⟩⟩
  · rw [World.cell?_setCell_other _ _ _ _ (by simp)]; exact h.c0
  · rw [World.cell?_setCell_other _ _ _ _ (by simp)]; exact h.c1
  · rw [World.cell?_setCell_other _ _ _ _ (by simp)]; exact h.c2
  · rw [World.cell?_setCell_other _ _ _ _ (by simp)]; exact h.c3
/-- another row of those that are drained -/
theorem MB.drained (h : MB W m hm fm L lv fv dv B S) {v : Value} {dr : List ByteArray} (hd : W.ownsRow 0 9 1 v dr.length (dr.map Value.string)) (hn : dr.Nodup) (hh : ∀ s ∈ dr, Lh.hix S.hs s < S.hs.length) (hv : ∀ b, v.ownBlock = some b → ¬ MBt m hm fm L lv fv dv b) : MB (W.setCell ⟨m, 3, none⟩ v) m hm fm L lv fv v B { S with dr := dr } ∧ Tur (MBt m hm fm L lv fv dv) W (W.setCell ⟨m, 3, none⟩ v) := by
  obtain ⟨h1, h2, h3⟩ := h.other 3 v
  have ho : ∀ b, b ≠ m → (W.setCell ⟨m, 3, none⟩ v).heap[b]? = W.heap[b]? := fun b hb => Below.heap_setCell _ _ _ b hb
  refine ⟨⟨?_, ?_, ?_, World.cell?_setCell_same' _ _ _ (by rw [h.c3]; rfl), ?_, fun k => by rw [World.frozen?_setCell]; exact h.fz k, h1, h.hs, h.lk, h2, owns_same hd fun g e => ho g fun e1 => hv g e (Or.inl e1), hn, hh, h.mh, h.mf, fun e => hv m e (Or.inl rfl), h.hf, fun b e hq => hv b e (Or.inr (Or.inl hq)), fun b e hq => hv b e (Or.inr (Or.inr (Or.inl hq)))⟩, ⟨rfl, rfl, rfl, by simp, fun b _ hq => Below.heap_setCell _ _ _ b fun e => hq (Or.inl e)⟩⟩
  · rw [World.cell?_setCell_other _ _ _ _ (by simp)]; exact h.c0
  · rw [World.cell?_setCell_other _ _ _ _ (by simp)]; exact h.c1
  · rw [World.cell?_setCell_other _ _ _ _ (by simp)]; exact h.c2
  · rw [World.cell?_setCell_other _ _ _ _ (by simp)]; exact h.c4
end
end Go.Proofs.YtmdckddenelneaaGreatDoor

/- The model's balance: NewBalance. -/
namespace Go.Proofs.YtmdckddenelneaaGreatDoor
open Go.RowKit

set_option maxRecDepth 100000 in
set_option maxHeartbeats 2000000 in
theorem mnew (p : Option Addr) (cap : Nat) (xs : List ByteArray) (n t f r : Nat) (W : World) (hx : ∀ k (h : k < xs.length), ∃ b o, p = some ⟨b, o, none⟩ ∧ W.cell? ⟨b, o + k, none⟩ = some (.string xs[k])) (hl : xs.length ≤ 12) (hf : f ≤ 10) (hr : r ≤ 10) :
    Calls Tryz.prog 39 #[.slice p xs.length cap, .int .i64 (n : Nat), .int .i64 (t : Nat), .int .i64 (f : Nat), .int .i64 (r : Nat)] W fun e w' => ∃ m hm fm lv, e = .returned (.pointer (some ⟨m, 0, none⟩)) ∧ MB w' m hm fm (newM xs) lv (.slice none 0 0) (.slice none 0 0) 0 ⟨f, r, n, t, Lh.hnew xs, [], 0, 0, []⟩ ∧ (∀ b, MBt m hm fm (newM xs) lv (.slice none 0 0) (.slice none 0 0) b → W.heap.size ≤ b) ∧ Below W.heap.size W w' := by
  have hnh := newHealth_any p cap xs f r W hx hl hf hr
  clear hx
  go_enter Tryz.func39, Tryz.ntmps39
  go_wp2_with fail
  refine hnh.mono ?_
  rintro e w1 ⟨hm, lv, rfl, hM, hms, hb1⟩
  have HM : Hid (MH w1 hm f r (newM xs) lv) := hM
  clear hnh hM
  go_wp2
  go_ret
  have s1 := hb1.size
  have hHl := HM.out.lt
  have hbA : ∀ o : Obj, Below w1.heap.size w1 (w1.alloc o) := fun o => (Below.refl _ _).alloc (Nat.le_refl _) o
  refine ⟨w1.heap.size + 1, hm, w1.heap.size, lv, rfl, ⟨by simp, by simp, by simp, by simp, by simp, fun k => by simp, ?_, newM_hst xs, ?_, ⟨by simp, by simp, by simp, fun k => by simp, ?_⟩, ?_, List.nodup_nil, (fun s hs => absurd hs (by simp)), (fun hq => ?_), ?_, (by simp [Value.ownBlock]), ?_, (fun b e => by simp [Value.ownBlock] at e), fun b e => by simp [Value.ownBlock] at e⟩, ?_, ?_⟩
  · exact (HM.out.later (hbA _)).later ((Below.refl _ _).alloc (Nat.le_refl _) _)
  · intro x hx
    obtain ⟨s, _, rfl⟩ := List.mem_map.1 hx
    simp
  · exact World.ownsRow_nil _ _ _ _
  · exact World.ownsRow_nil _ _ _ _
  · have := (hHl _ hq).1
    omega
  · rintro (e | e)
    · omega
    · simp [Value.ownBlock] at e
  · rintro b hq (rfl | e)
    · have := (hHl _ hq).1
      omega
    · simp [Value.ownBlock] at e
  · rintro b (rfl | hq | (rfl | e) | e)
    · omega
    · have := (hHl b hq).2
      omega
    · omega
    · simp [Value.ownBlock] at e
    · simp [Value.ownBlock] at e
  · exact (hb1.alloc hb1.size _).alloc (by simp; omega) _
end Go.Proofs.YtmdckddenelneaaGreatDoor

/- The reference's Index of any text in any row. -/
namespace Go.Proofs.YtmdckddenelneaaGreatDoor
open Go.RowKit

set_option maxHeartbeats 1000000 in
theorem idx_none (p : Option Addr) (c : Nat) (s : ByteArray) (w : World) :
    Calls Tryz.prog 35 #[.slice p 0 c, .string s] w fun e w' => e = .returned (.int .i64 (-1)) ∧ w' = w := by
  go_enter Tryz.func35, Tryz.ntmps35
  go_wp2_with fail
  go_loop [5] (fun t => t = .int .i64 0) (fun _ => 0)
  case atStart => rfl
  case round =>
    subst hrel
    go_wp2
    go_ret
    exact ⟨rfl, rfl⟩
set_option maxRecDepth 100000 in
set_option maxHeartbeats 1000000 in
theorem idx_some (b o c : Nat) (xs : List ByteArray) (s : ByteArray) (w : World) (hx : ∀ k (h : k < xs.length), w.cell? ⟨b, o + k, none⟩ = some (.string xs[k])) (hm : xs.length < 1000000) :
    Calls Tryz.prog 35 #[.slice (some ⟨b, o, none⟩) xs.length c, .string s] w fun e w' => (∃ j : Int, e = .returned (.int .i64 j) ∧ decide (j < 0) = !decide (s ∈ xs)) ∧ w' = w := by
  have HX : Hid (∀ k (h : k < xs.length), w.cell? ⟨b, o + k, none⟩ = some (.string xs[k])) := hx
  clear hx
  go_enter Tryz.func35, Tryz.ntmps35
  go_wp2_with fail
  go_loop [5] (fun t => ∃ k : Nat, k ≤ xs.length ∧ t = .int .i64 (k : Nat) ∧ ∀ j (h : j < xs.length), j < k → xs[j] ≠ s) (fun t => xs.length + 1 - (intOf t).toNat)
  case atStart => exact ⟨0, Nat.zero_le _, rfl, fun j _ h => absurd h (by omega)⟩
  case round =>
    obtain ⟨k, hk, rfl, hp⟩ := hrel
    have HP : Hid (∀ j (h : j < xs.length), j < k → xs[j] ≠ s) := hp
    clear hp
    by_cases hlt : k < xs.length
    · have cx := HX.out k hlt
      have hki : (k : Int) < (xs.length : Int) := by omega
      by_cases he : xs[k]'hlt = s
      · have hq := bytes_same he
        have HE : Hid (xs[k]'hlt = s) := he
        clear he
        generalize hz : xs[k]'hlt = z at *
        go_wp2
        go_ret
        refine ⟨⟨k, rfl, ?_⟩, rfl⟩
        have hm2 : s ∈ xs := by rw [← HE.out, ← hz]; exact List.getElem_mem hlt
        rw [decide_eq_true hm2]
        simp
      · have hq := bytes_parts he
        have HN : Hid (∀ j (h : j < xs.length), j < k + 1 → xs[j] ≠ s) := fun j hj hjk => by
          by_cases e : j = k
          · subst e; exact he
          · exact HP.out j hj (by omega)
        clear he
        generalize xs[k]'hlt = z at *
        go_wp2
        go_round
        case rel => exact ⟨k + 1, by omega, by go_num, HN.out⟩
        case measure => simp [intOf]; omega
    · have hki : decide ((k : Int) < (xs.length : Int)) = false := by simp; omega
      have HN : Hid (s ∉ xs) := fun hm => by
        obtain ⟨j, hj, e⟩ := List.getElem_of_mem hm
        exact HP.out j hj (by omega) e
      go_wp2
      go_ret
      refine ⟨⟨-1, rfl, ?_⟩, rfl⟩
      rw [decide_eq_false HN.out]
      rfl
theorem Strs1.shape1 {w : World} {v : Value} {xs : List ByteArray} (h : Strs1 w v xs) : ∃ p c, v = .slice p xs.length c := by
  rcases h with ⟨rfl, rfl | ⟨ad, c, rfl⟩⟩ | ⟨b, o, c, rfl, _⟩
  · exact ⟨_, _, rfl⟩
  · exact ⟨_, _, rfl⟩
  · exact ⟨_, _, rfl⟩
theorem Strs1.cell1 {w : World} {p : Option Addr} {c : Nat} {xs : List ByteArray} (h : Strs1 w (.slice p xs.length c) xs) {i : Nat} (hi : i < xs.length) : ∃ g o, p = some ⟨g, o, none⟩ ∧ w.cell? ⟨g, o + i, none⟩ = some (.string xs[i]) := by
  rcases h with ⟨rfl, _⟩ | ⟨b, o, c', e, _, hc⟩
  · simp at hi
  · cases e
    exact ⟨b, o, rfl, hc i hi⟩
theorem idx_any (v : Value) (xs : List ByteArray) (s : ByteArray) (w : World) (hv : Strs1 w v xs) (hm : xs.length < 1000000) :
    Calls Tryz.prog 35 #[v, .string s] w fun e w' => (∃ j : Int, e = .returned (.int .i64 j) ∧ decide (j < 0) = !decide (s ∈ xs)) ∧ w' = w := by
  rcases hv with ⟨rfl, rfl | ⟨ad, c, rfl⟩⟩ | ⟨b, o, c, rfl, _, hc⟩
  · exact (idx_none _ _ s w).mono fun e w' ⟨h1, h2⟩ => ⟨⟨-1, h1, by simp⟩, h2⟩
  · exact (idx_none _ _ s w).mono fun e w' ⟨h1, h2⟩ => ⟨⟨-1, h1, by simp⟩, h2⟩
  · exact idx_some b o c xs s w hc hm
end Go.Proofs.YtmdckddenelneaaGreatDoor

/- The model's balance: Look, Drain. -/
namespace Go.Proofs.YtmdckddenelneaaGreatDoor
open Go.RowKit

section
variable {W W' : World} {m hm fm : Nat} {L : List Mh} {lv fv dv : Value} {B : Nat} {S : Lh.Bl}
/-- what a look of the model leaves -/
def LPost (m hm fm : Nat) (L : List Mh) (lv fv dv : Value) (B : Nat) (W : World) (S' : Lh.Bl) (w' : World) : Prop := ∃ L' lv' fv', MB w' m hm fm L' lv' fv' dv B S' ∧ Tur (MBt m hm fm L lv fv dv) W w' ∧ ∀ b, MBt m hm fm L' lv' fv' dv b → MBt m hm fm L lv fv dv b ∨ W.heap.size ≤ b

set_option maxHeartbeats 2000000 in
theorem mlook_any (h : MB W m hm fm L lv fv dv B S) (hk : Lh.BOk S) (hB : B ≤ 99999) (s : ByteArray) (well : Bool) :
    Calls Tryz.prog 60 #[.pointer (some ⟨m, 0, none⟩), .string s, .bool well] W fun e w' => ∃ S' t c, e = .returned (.tuple #[.bool t, .int .i64 ((c : Nat) : Int)]) ∧ LookR S s well S' t c ∧ LPost m hm fm L lv fv dv (B + 1) W S' w' := by
  have hok : Lh.HOk S.f S.r (hst L) := by rw [h.hs]; exact hk.h
  have hlk := lookM_any h.h hok s well B (by omega) h.lk
  have c0 := h.c0
  have HH : Hid (MB W m hm fm L lv fv dv B S) := h
  have HK : Hid (Lh.BOk S) := hk
  clear h hk hok
  go_enter Tryz.func60, Tryz.ntmps60
  go_wp2_with fail
  refine hlk.mono ?_
  rintro e w1 ⟨L', lv', hM, hT, hN, hlk', hcase⟩
  rcases hcase with ⟨hx0, rfl, hset0⟩ | ⟨hx0, rfl, hset0⟩
  · have hx : Lh.hix S.hs s < S.hs.length := by rw [← HH.out.hs]; exact hx0
    have hset : hst L' = S.hs.set (Lh.hix S.hs s) (Lh.hlook S.f S.r (S.hs[Lh.hix S.hs s]'hx) well).1 := by rw [hset0]; simp only [HH.out.hs]
    have htu : (Lh.hlook S.f S.r ((hst L)[Lh.hix (hst L) s]'hx0) well).2 = (Lh.hlook S.f S.r (S.hs[Lh.hix S.hs s]'hx) well).2 := by simp only [HH.out.hs]
    rw [htu]
    have hy : (Lh.hlook S.f S.r (S.hs[Lh.hix S.hs s]'hx) well).1.1 = s := by rw [Lh.hlook_name, Lh.hix_get hx]
    have hdr : ∀ z ∈ S.dr, Lh.hix (hst L') z < (hst L').length := fun z hz => by
      rw [hset, hix_set hx hy, List.length_set]
      exact HH.out.dh z hz
    have HLR : Hid (LookR S s well (Lh.blook S s well (S.hs[Lh.hix S.hs s]'hx)) (Lh.hlook S.f S.r (S.hs[Lh.hix S.hs s]'hx) well).2 0) := Or.inl ⟨hx, rfl, rfl, rfl⟩
    have hup : Lh.hup (hst L') s = (Lh.hlook S.f S.r (S.hs[Lh.hix S.hs s]'hx) well).1.2.1 := by rw [hset]; exact hup_set HK.out.h.nodup hx hy
    have hok' : Lh.HOk S.f S.r (hst L') := by rw [hset]; exact HK.out.h.look hx well
    obtain ⟨q1, q2, q3⟩ := HH.out.health hT hM rfl hlk' hdr hN
    have HB1 : Hid (MB w1 m hm fm L' lv' fv dv (B + 1) { S with hs := hst L' }) := q1
    have HT1 : Hid (Tur (MBt m hm fm L lv fv dv) W w1) := q2
    have HN1 : Hid (∀ b, MBt m hm fm L' lv' fv dv b → MBt m hm fm L lv fv dv b ∨ W.heap.size ≤ b) := q3
    have HSET : Hid (hst L' = S.hs.set (Lh.hix S.hs s) (Lh.hlook S.f S.r (S.hs[Lh.hix S.hs s]'hx) well).1) := hset
    have c0' := q1.c0
    have his := isUp_any q1.h hok' s
    rw [hup] at his
    have HBL : Hid (Lh.blook S s well (S.hs[Lh.hix S.hs s]'hx) = { S with hs := hst L', L := if (Lh.hlook S.f S.r (S.hs[Lh.hix S.hs s]'hx) well).2 = true ∧ (Lh.hlook S.f S.r (S.hs[Lh.hix S.hs s]'hx) well).1.2.1 = false then Lh.fdrop S.L s else S.L }) := by
      show _ = _
      unfold Lh.blook
      rw [hset]
    clear hlk c0 hM hT hN hlk' hset0 hset htu hy hdr hup hok' q1 q2 q3
    generalize Lh.blook S s well (S.hs[Lh.hix S.hs s]'hx) = S' at *
    obtain ⟨⟨⟨y1, y2, y3⟩, t⟩, hyt⟩ : ∃ yt, Lh.hlook S.f S.r (S.hs[Lh.hix S.hs s]'hx) well = yt := ⟨_, rfl⟩
    rw [hyt] at HLR HBL his ⊢
    simp only at HLR HBL his ⊢
    clear hyt HSET
    go_wp2_with fail
    refine his.mono ?_
    rintro e w2 ⟨rfl, rfl⟩
    clear his c0'
    cases t with
    | false =>
      have HP : Hid (LPost m hm fm L lv fv dv (B + 1) W S' w2) := by
        refine ⟨L', lv', fv, ?_, HT1.out, HN1.out⟩
        rw [HBL.out, if_neg (by simp)]
        exact HB1.out
      clear HB1 HT1 HN1 HBL
      go_wp2
      go_ret2
      exact ⟨S', false, 0, rfl, HLR.out, HP.out⟩
    | true =>
      cases y2 with
      | true =>
        have HP : Hid (LPost m hm fm L lv fv dv (B + 1) W S' w2) := by
          refine ⟨L', lv', fv, ?_, HT1.out, HN1.out⟩
          rw [HBL.out, if_neg (by simp)]
          exact HB1.out
        clear HB1 HT1 HN1 HBL
        go_wp2
        go_ret2
        exact ⟨S', true, 0, rfl, HLR.out, HP.out⟩
      | false =>
        have c1' := HB1.out.c1
        have hdp := fdropM_any HB1.out.f HK.out.ok.len s
        go_wp2_with fail
        refine hdp.mono ?_
        rintro e w3 ⟨rfl, fv', hF3, hT3, hN3⟩
        obtain ⟨q1, q2, q3⟩ := HB1.out.flows hT3 hF3 hN3
        have HP : Hid (LPost m hm fm L lv fv dv (B + 1) W S' w3) := by
          refine ⟨L', lv', fv', ?_, HT1.out.trans q2 HN1.out, fun b hb => ?_⟩
          · rw [HBL.out, if_pos (by simp)]
            exact q1
          · rcases q3 b hb with h1 | h1
            · exact HN1.out b h1
            · exact Or.inr (Nat.le_trans HT1.out.size h1)
        clear hdp hF3 hT3 hN3 q1 q2 q3 c1' HB1 HT1 HN1 HBL
        go_wp2
        go_ret2
        exact ⟨S', true, 0, rfl, HLR.out, HP.out⟩
  · have hx : ¬ Lh.hix S.hs s < S.hs.length := by rw [← HH.out.hs]; exact hx0
    have hset : hst L' = S.hs := hset0.trans HH.out.hs
    obtain ⟨q1, q2, q3⟩ := HH.out.health hT hM hset hlk' HH.out.dh hN
    have HP : Hid (LPost m hm fm L lv fv dv (B + 1) W S w1) := ⟨L', lv', fv, q1, q2, q3⟩
    have HLR : Hid (LookR S s well S false 5) := Or.inr ⟨hx, rfl, rfl, rfl⟩
    have c0' := q1.c0
    have his := isUp_any q1.h (by rw [hset]; exact HK.out.h) s
    clear hlk c0 hM hT hN hlk' hset0 hset q1 q2 q3 hx
    generalize Lh.hup (hst L') s = u at *
    go_wp2_with fail
    refine his.mono ?_
    rintro e w2 ⟨rfl, rfl⟩
    clear his c0'
    go_wp2
    go_ret2
    exact ⟨S, false, 5, rfl, HLR.out, HP.out⟩
end
end Go.Proofs.YtmdckddenelneaaGreatDoor
