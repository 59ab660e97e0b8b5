/- The model of flows: Add. -/
import Derived.Test.YtijdaaghomclmabGreatDoorFlRef6
import Derived.Test.YtijdaaghomclmabGreatDoorOwM
import Derived.Deep.RegionHeld3
namespace Go.Proofs.YtijdaaghomclmabGreatDoor
open Go.RowKit

/-- a block of two numbers -/
structure RB (w : World) (b : Nat) (x y : Int) : Prop where
  c0 : w.cell? ⟨b, 0, none⟩ = some (.int .i64 x)
  c1 : w.cell? ⟨b, 1, none⟩ = some (.int .i64 y)
  f0 : w.frozen? ⟨b, 0, none⟩ = false
  f1 : w.frozen? ⟨b, 1, none⟩ = false
theorem RB.made (w : World) (x y : Int) (t : TypeId) : RB (w.alloc (.cells #[.int .i64 x, .int .i64 y] t)) w.heap.size x y := ⟨by simp, by simp, by simp, by simp⟩
theorem RB.same {w w' : World} {b : Nat} {x y : Int} (h : RB w b x y) (e : w'.heap[b]? = w.heap[b]?) : RB w' b x y :=
  ⟨(World.cell?_of_block (w := w) (w' := w') (a := ⟨b, 0, none⟩) e).trans h.c0, (World.cell?_of_block (w := w) (w' := w') (a := ⟨b, 1, none⟩) e).trans h.c1, (World.frozen?_of_block (w := w) (w' := w') (a := ⟨b, 0, none⟩) e).trans h.f0, (World.frozen?_of_block (w := w) (w' := w') (a := ⟨b, 1, none⟩) e).trans h.f1⟩
theorem RB.lt {w : World} {b : Nat} {x y : Int} (h : RB w b x y) : b < w.heap.size := World.block_lt_of_cell? w ⟨b, 0, none⟩ h.c0
theorem RB.later {w w' : World} {b : Nat} {x y : Int} (h : RB w b x y) (hb : Below w.heap.size w w') : RB w' b x y := h.same (hb.block b h.lt)
theorem fcell {F : Nat → Prop} {W W1 : World} (h : Tur F W W1) {x k : Nat} {v : Value} (hc : W.cell? ⟨x, k, none⟩ = some v) (hx : ¬ F x) : W1.cell? ⟨x, k, none⟩ = some v := by
  have hlt : x < W.heap.size := World.block_lt_of_cell? W ⟨x, k, none⟩ hc
  exact (World.cell?_of_block (w := W) (w' := W1) (a := ⟨x, k, none⟩) (h.block x hlt hx)).trans hc
theorem Tur.put {F : Nat → Prop} {w w' : World} (h : Tur F w w') {x : Nat} (k : Nat) (hx : F x ∨ w.heap.size ≤ x) (v : Value) : Tur F w (w'.setCell ⟨x, k, none⟩ v) :=
  ⟨h.os, h.tape, h.output, by simpa [World.setCell] using h.size, fun j hj hf => (heap_setCell_other w' ⟨x, k, none⟩ j v (fun e => by
    rcases hx with h1 | h1
    · exact hf (e ▸ h1)
    · have : j = x := e
      omega)).trans (h.block j hj hf)⟩
section
variable {W : World} {m t : Nat} {la : Int} {L : List Lh.Fl} {lv : Value}

set_option maxHeartbeats 1000000 in
theorem faddM_tick (h : MF W m t la L lv) (v : Value) {now : Int} {j : Nat} (ht : TickF la now j) :
    Calls Tryz.prog 18 #[.pointer (some ⟨m, 0, none⟩), v, .int .i64 now] W fun e w' => e = .returned (.tuple #[.int .i64 0, .agg #[.int .i64 ((j + 1 : Nat) : Int), .int .i64 (-1)]]) ∧ Below W.heap.size W w' := by
  have hb0 : Below W.heap.size W (W.alloc (.cells #[.int .i64 0, .int .i64 0] 52)) := (Below.refl _ _).alloc (Nat.le_refl _) _
  have h1 := ftick_bad (h.later hb0) ht
  have hR := RB.made W 0 0 52
  have hj := ht.num
  clear h ht
  rcases hj with rfl | rfl
  all_goals
    go_enter Tryz.func18, Tryz.ntmps18
    go_wp2_with fail
    refine h1.mono ?_
    rintro e w1 ⟨rfl, rfl⟩
    clear h1
    generalize W.alloc (.cells #[.int .i64 0, .int .i64 0] 52) = w1 at *
    go_wp2_with fail
    refine (bare_any _ _).mono ?_
    rintro e w3 ⟨rfl, hb3⟩
    have hbz : Below W.heap.size W w3 := below_then hb0 hb3
    obtain ⟨q0, q1, g0, g1⟩ := hR.later hb3
    clear hb3 hb0 hR
    go_wp2
    exact bodyPost_ret (v := .tuple #[.int .i64 0, .agg #[.int .i64 _, .int .i64 (-1)]]) (by simp [results, Tryz.results18, go_sem, q0, q1]) rfl ⟨rfl, (hbz.setCell (Nat.le_refl _) _).setCell (Nat.le_refl _) _⟩

set_option maxRecDepth 100000 in
set_option maxHeartbeats 2000000 in
theorem faddM_name (h : MF W m t la L lv) (q : Option Addr) (c : Nat) (l : List Lh.Fl) (hl : l.length ≤ 201) (hc : ∀ i (hi : i < l.length), ∃ b o, q = some ⟨b, o, none⟩ ∧ W.cell? ⟨b, o + i * 3 + 1, none⟩ = some (.string (l[i]).2.1)) (hin : FlIn l) {now : Int} (ht : TickOk la now) (k : Nat) (hk : NmAt l k) :
    Calls Tryz.prog 18 #[.pointer (some ⟨m, 0, none⟩), .slice q l.length c, .int .i64 now] W fun e w' => e = .returned (.tuple #[.int .i64 0, .agg #[.int .i64 4, .int .i64 (k : Nat)]]) ∧ Below W.heap.size W w' := by
  have hb0 : Below W.heap.size W (W.alloc (.cells #[.int .i64 0, .int .i64 0] 52)) := (Below.refl _ _).alloc (Nat.le_refl _) _
  have h1 := ftick_ok (h.later hb0) ht
  have hR := RB.made W 0 0 52
  have HC : Hid (∀ i (hi : i < l.length), ∃ b o, q = some ⟨b, o, none⟩ ∧ W.cell? ⟨b, o + i * 3 + 1, none⟩ = some (.string (l[i]).2.1)) := hc
  have HIN : Hid (FlIn l) := hin
  have HK : Hid (NmAt l k) := hk
  clear h ht hc hin hk
  go_enter Tryz.func18, Tryz.ntmps18
  go_wp2_with fail
  refine h1.mono ?_
  rintro e w1 ⟨rfl, rfl⟩
  clear h1
  generalize W.alloc (.cells #[.int .i64 0, .int .i64 0] 52) = w1 at *
  obtain ⟨q0, q1, g0, g1⟩ := hR
  go_wp2_with fail
  go_loop [9, 10] (fun u _ => ∃ i : Nat, i ≤ k ∧ u = .int .i64 (i : Nat)) (fun u _ => k + 1 - (intOf u).toNat)
  case atStart => exact ⟨0, Nat.zero_le _, rfl⟩
  case round =>
    obtain ⟨i, hi, rfl⟩ := hrel
    obtain ⟨hkl, hkf, hkp⟩ := HK.out
    have hil : i < l.length := by omega
    have hii : (i : Int) < (l.length : Int) := by omega
    obtain ⟨b, o, rfl, cx⟩ := HC.out i hil
    have cx' := below_cell hb0 cx
    have hsz := (HIN.out _ (List.getElem_mem hil)).2.1
    have hnm := refName_any (l[i]).2.1 w1 (Nat.le_trans hsz (by decide))
    by_cases hik : i = k
    · subst hik
      rw [hkf] at hnm
      clear hkp hkf cx hsz
      generalize (l[i]).2.1 = s at *
      go_wp2_with fail
      refine hnm.mono ?_
      rintro e w2 ⟨rfl, rfl⟩
      clear hnm
      go_wp2
      exact bodyPost_ret (v := .tuple #[.int .i64 0, .agg #[.int .i64 4, .int .i64 (i : Nat)]]) (by simp [results, Tryz.results18, go_sem, q0, q1]) rfl ⟨rfl, (hb0.setCell (Nat.le_refl _) _).setCell (Nat.le_refl _) _⟩
    · rw [hkp i hil (by omega)] at hnm
      clear hkp hkf cx hsz
      generalize (l[i]).2.1 = s at *
      go_wp2_with fail
      refine hnm.mono ?_
      rintro e w2 ⟨rfl, rfl⟩
      clear hnm
      go_wp2
      go_round
      case rel => exact ⟨i + 1, by omega, by go_num⟩
      case measure => simp [intOf]; omega

set_option maxRecDepth 100000 in
set_option maxHeartbeats 2000000 in
theorem faddM_good (h : MF W m t la L lv) (hok : Lh.FlOk L) (q : Option Addr) (c : Nat) (l : List Lh.Fl) (hl : l.length ≤ 201) (hqm : 0 < l.length → ∀ b o, q = some ⟨b, o, none⟩ → b < m) (hc : ∀ i (hi : i < l.length), ∃ b o, q = some ⟨b, o, none⟩ ∧ W.cell? ⟨b, o + i * 3, none⟩ = some (.int .u64 ((l[i]).1 : Nat)) ∧ W.cell? ⟨b, o + i * 3 + 1, none⟩ = some (.string (l[i]).2.1) ∧ W.cell? ⟨b, o + i * 3 + 2, none⟩ = some (.int .i64 (l[i]).2.2)) (hin : FlIn l) {now : Int} (ht : TickOk la now) (hn : ∀ x ∈ l, Lh.isNm x.2.1 = true) :
    Calls Tryz.prog 18 #[.pointer (some ⟨m, 0, none⟩), .slice q l.length c, .int .i64 now] W fun e w' => e = .returned (.tuple #[.int .i64 (((Lh.fadd now L l).length - L.length : Nat) : Int), .agg #[.int .i64 0, .int .i64 (-1)]]) ∧ ∃ lv', MF w' m t now (Lh.fadd now L l) lv' ∧ Tur (FFoot m lv) W w' ∧ ∀ b, FFoot m lv' b → FFoot m lv b ∨ W.heap.size ≤ b := by
  have hb0 : Below W.heap.size W (W.alloc (.cells #[.int .i64 0, .int .i64 0] 52)) := (Below.refl _ _).alloc (Nat.le_refl _) _
  have h0 := h.later hb0
  have h1 := ftick_ok h0 ht
  have hR := RB.made W 0 0 52
  have hsz1 : (W.alloc (.cells #[.int .i64 0, .int .i64 0] 52)).heap.size = W.heap.size + 1 := by simp
  have HC : Hid (∀ i (hi : i < l.length), ∃ b o, q = some ⟨b, o, none⟩ ∧ W.cell? ⟨b, o + i * 3, none⟩ = some (.int .u64 ((l[i]).1 : Nat)) ∧ W.cell? ⟨b, o + i * 3 + 1, none⟩ = some (.string (l[i]).2.1) ∧ W.cell? ⟨b, o + i * 3 + 2, none⟩ = some (.int .i64 (l[i]).2.2)) := hc
  have HIN : Hid (FlIn l) := hin
  have HQM : Hid (0 < l.length → ∀ b o, q = some ⟨b, o, none⟩ → b < m) := hqm
  have HNM : Hid (∀ x ∈ l, Lh.isNm x.2.1 = true) := hn
  have HOK : Hid (Lh.FlOk L) := hok
  have HTK : Hid (TickOk la now) := ht
  have HM0 : Hid _ := h0
  have HLT : Hid (∀ b, FFoot m lv b → b < W.heap.size ∧ m ≤ b) := h.lt
  obtain ⟨c1, f1⟩ : (W.alloc (.cells #[.int .i64 0, .int .i64 0] 52)).cell? ⟨m, 1, none⟩ = some (.int .i64 la) ∧ (W.alloc (.cells #[.int .i64 0, .int .i64 0] 52)).frozen? ⟨m, 1, none⟩ = false := ⟨h0.c1, h0.fz 1⟩
  clear h ht hc hin hqm hn hok h0
  go_enter Tryz.func18, Tryz.ntmps18
  go_wp2_with fail
  refine h1.mono ?_
  rintro e w1 ⟨rfl, rfl⟩
  clear h1
  generalize W.alloc (.cells #[.int .i64 0, .int .i64 0] 52) = w1 at *
  have HSZ : Hid (w1.heap.size = W.heap.size + 1) := hsz1
  have HRB : Hid (RB w1 W.heap.size 0 0) := hR
  have HB0 : Hid (Below W.heap.size W w1) := hb0
  clear hsz1 hR hb0
  go_wp2_with fail
  go_loop [9, 10] (fun u _ => ∃ i : Nat, i ≤ l.length ∧ u = .int .i64 (i : Nat)) (fun u _ => l.length - (intOf u).toNat)
  case atStart => exact ⟨0, Nat.zero_le _, rfl⟩
  case round =>
    obtain ⟨i, hi, rfl⟩ := hrel
    by_cases hil : i < l.length
    · have hii : (i : Int) < (l.length : Int) := by omega
      obtain ⟨b, o, rfl, _, cx, _⟩ := HC.out i hil
      have cx' := below_cell HB0.out cx
      have hsz := (HIN.out _ (List.getElem_mem hil)).2.1
      have hnm := refName_any (l[i]).2.1 w1 (Nat.le_trans hsz (by decide))
      rw [HNM.out _ (List.getElem_mem hil)] at hnm
      clear cx hsz
      generalize (l[i]).2.1 = s at *
      go_wp2_with fail
      refine hnm.mono ?_
      rintro e w2 ⟨rfl, rfl⟩
      clear hnm
      go_wp2
      go_round
      case rel => exact ⟨i + 1, by omega, by go_num⟩
      case measure => simp [intOf]; omega
    · have hii : decide ((i : Int) < (l.length : Int)) = false := by simp; omega
      obtain ⟨hM2, hT2⟩ := HM0.out.tick now
      have HM2 : Hid _ := hM2
      have HT2 : Hid _ := hT2
      clear hM2 hT2
      go_wp2_with fail
      have HRB2 : Hid (RB (w1.setCell ⟨m, 1, none⟩ (.int .i64 now)) W.heap.size 0 0) := HRB.out.same (HT2.out.block _ HRB.out.lt (fun hf => by have := (HLT.out _ hf).1; omega))
      generalize w1.setCell ⟨m, 1, none⟩ (.int .i64 now) = w2 at *
      clear c1 f1
      go_loopw [11, 12] (fun u v w' => ∃ (k : Nat) (lv' : Value), k ≤ l.length ∧ v = .int .i64 (k : Nat) ∧ u = .int .i64 (((Lh.fadd now L (l.take k)).length - L.length : Nat) : Int) ∧ MF w' m t now (Lh.fadd now L (l.take k)) lv' ∧ Tur (FFoot m lv) w1 w' ∧ ∀ b, FFoot m lv' b → FFoot m lv b ∨ w1.heap.size ≤ b) (fun _ v _ => l.length - (intOf v).toNat)
      case atStart => exact ⟨0, lv, Nat.zero_le _, rfl, by simp [Lh.fadd], HM2.out, HT2.out, fun b hb => Or.inl hb⟩
      case round =>
        obtain ⟨k, lv', hk, rfl, rfl, hM, hT, hF⟩ := hrel
        have HTT : Hid (Tur (FFoot m lv) w1 wr) := hT
        have HFF : Hid (∀ b, FFoot m lv' b → FFoot m lv b ∨ w1.heap.size ≤ b) := hF
        have HLL : Hid (L.length ≤ (Lh.fadd now L (l.take k)).length) := Lh.fadd_len now _ _
        have hok2 : (Lh.fadd now L (l.take k)).length ≤ 200 := (Lh.FlOk.add HTK.out.1 HTK.out.2.1 (l.take k) HOK.out (fun x hx => ⟨(HIN.out x (List.mem_of_mem_take hx)).1, (HIN.out x (List.mem_of_mem_take hx)).2.1⟩)).len
        clear hT hF
        by_cases hkl : k < l.length
        · have hki : (k : Int) < (l.length : Int) := by omega
          obtain ⟨b, o, rfl, x0, x1, x2⟩ := HC.out k hkl
          have hbm := HQM.out (by omega) b o rfl
          have hbf : ¬ FFoot m lv b := fun hf => by have := (HLT.out _ hf).2; omega
          have x0' := fcell HTT.out (below_cell HB0.out x0) hbf
          have x1' := fcell HTT.out (below_cell HB0.out x1) hbf
          have x2' := fcell HTT.out (below_cell HB0.out x2) hbf
          have HFA : Hid (Lh.fadd now L (l.take (k + 1)) = Lh.fadd1 now (Lh.fadd now L (l.take k)) l[k]) := by
            show _ = _
            rw [List.take_succ_eq_append_getElem hkl, Lh.fadd_snoc]
          have hbd := (HIN.out _ (List.getElem_mem hkl)).2.2
          generalize Lh.fadd now L (l.take k) = M at *
          obtain ⟨⟨z, s, y⟩, hx⟩ : ∃ x, l[k] = x := ⟨_, rfl⟩
          rw [hx] at x0' x1' x2' HFA hbd
          have HMM : Hid (MF wr m t now M lv') := hM
          have hfd := ffind_any hM (by omega) z
          have HLY : Hid (Calls Tryz.prog 32 #[.pointer (some ⟨m, 0, none⟩), .agg #[.int .u64 (z : Nat), .string s, .int .i64 y]] wr fun e w' => ∃ lv9, e = .returned (.tuple #[]) ∧ MF w' m t now (Lh.flay (z, s, y) M) lv9 ∧ Tur (FFoot m lv') wr w' ∧ ∀ b, FFoot m lv9 b → FFoot m lv' b ∨ wr.heap.size ≤ b) := flay_any hM (by omega) (z, s, y)
          obtain ⟨p9, c9, hlv, _⟩ := hM.row
          subst hlv
          have c2 := hM.c2
          have hn0 : 0 ≤ now := HTK.out.1
          clear hM x0 x1 x2 hx
          dsimp only at x0' x1' x2' hbd
          by_cases g1 : Lh.fix M z < M.length
          · have e1 : ffi M z = (Lh.fix M z : Nat) := by unfold ffi; rw [if_pos g1]
            rw [e1] at hfd
            have d1 : decide (0 ≤ ((Lh.fix M z : Nat) : Int)) = true := by simp
            clear e1 hbd
            have HFE : Hid (Lh.fadd now L (l.take (k + 1)) = M) := by
              show _ = M
              rw [HFA.out]
              unfold Lh.fadd1
              rw [if_pos (Or.inl g1)]
            clear HFA HLY g1
            generalize Lh.fix M z = f9 at *
            go_wp2_with (first | (go_at_call 30; refine hfd.mono ?_; rintro e w9 ⟨rfl, rfl⟩))
            exact ⟨⟨k + 1, _, by omega, by go_num, by rw [HFE.out], by rw [HFE.out]; exact HMM.out, HTT.out, HFF.out⟩, by simp [intOf]; omega⟩
          · have e1 : ffi M z = -1 := by unfold ffi; rw [if_neg g1]
            rw [e1] at hfd
            clear e1
            by_cases g2 : y ≤ now
            · have d2 : decide (y ≤ now) = true := decide_eq_true g2
              clear hbd
              have HFE : Hid (Lh.fadd now L (l.take (k + 1)) = M) := by
                show _ = M
                rw [HFA.out]
                unfold Lh.fadd1
                rw [if_pos (Or.inr (Or.inl g2))]
              clear HFA HLY
              go_wp2_with (first | (go_at_call 30; refine hfd.mono ?_; rintro e w9 ⟨rfl, rfl⟩))
              exact ⟨⟨k + 1, _, by omega, by go_num, by rw [HFE.out], by rw [HFE.out]; exact HMM.out, HTT.out, HFF.out⟩, by simp [intOf]; omega⟩
            · have d2 : decide (y ≤ now) = false := decide_eq_false g2
              have hwr : IntKind.i64.wrap (y - now) = y - now := by
                rw [IntKind.wrap_i64]
                omega
              clear hbd
              by_cases g3 : 1000 < y - now
              · have d3 : decide (1000 < y - now) = true := decide_eq_true g3
                have HFE : Hid (Lh.fadd now L (l.take (k + 1)) = M) := by
                  show _ = M
                  rw [HFA.out]
                  unfold Lh.fadd1
                  rw [if_pos (Or.inr (Or.inr (Or.inl g3)))]
                clear HFA HLY
                go_wp2_with (first | (go_at_call 30; refine hfd.mono ?_; rintro e w9 ⟨rfl, rfl⟩))
                exact ⟨⟨k + 1, _, by omega, by go_num, by rw [HFE.out], by rw [HFE.out]; exact HMM.out, HTT.out, HFF.out⟩, by simp [intOf]; omega⟩
              · have d3 : decide (1000 < y - now) = false := decide_eq_false g3
                by_cases g4 : 200 ≤ M.length
                · have d4 : decide (200 ≤ (M.length : Int)) = true := by simp; omega
                  have HFE : Hid (Lh.fadd now L (l.take (k + 1)) = M) := by
                    show _ = M
                    rw [HFA.out]
                    unfold Lh.fadd1
                    rw [if_pos (Or.inr (Or.inr (Or.inr g4)))]
                  clear HFA HLY
                  go_wp2_with (first | (go_at_call 30; refine hfd.mono ?_; rintro e w9 ⟨rfl, rfl⟩))
                  exact ⟨⟨k + 1, _, by omega, by go_num, by rw [HFE.out], by rw [HFE.out]; exact HMM.out, HTT.out, HFF.out⟩, by simp [intOf]; omega⟩
                · have d4 : decide (200 ≤ (M.length : Int)) = false := by simp; omega
                  have HFE : Hid (Lh.fadd now L (l.take (k + 1)) = Lh.flay (z, s, y) M) := by
                    show _ = _
                    rw [HFA.out]
                    unfold Lh.fadd1
                    rw [if_neg (by rintro (h | h | h | h); exact g1 h; exact g2 h; exact g3 h; exact g4 h)]
                  clear HFA
                  go_wp2_with (first | (go_at_call 30; refine hfd.mono ?_; rintro e w9 ⟨rfl, rfl⟩; clear hfd))
                  refine HLY.out.mono ?_
                  rintro e w10 ⟨lv9, rfl, hM9, hT9, hF9⟩
                  have HM9 : Hid _ := hM9
                  have HT9 : Hid _ := hT9
                  have HF9 : Hid _ := hF9
                  clear hM9 hT9 hF9 HLY
                  go_wp2
                  refine ⟨⟨k + 1, lv9, by omega, by go_num, ?_, by rw [HFE.out]; exact HM9.out, HTT.out.trans HT9.out HFF.out, fun b hb => ?_⟩, by simp [intOf]; omega⟩
                  · have h1 := HLL.out
                    rw [HFE.out, Lh.flay_len]
                    congr 1
                    omega
                  · rcases HF9.out b hb with h | h
                    · exact HFF.out b h
                    · exact Or.inr (Nat.le_trans HTT.out.size h)
        · have hke : k = l.length := by omega
          have hki : decide ((k : Int) < (l.length : Int)) = false := by simp; omega
          have HR9 : Hid (RB wr W.heap.size 0 0) := HRB.out.same (HTT.out.block _ HRB.out.lt (fun hf => by have := (HLT.out _ hf).1; omega))
          have HMM : Hid (MF wr m t now (Lh.fadd now L l) lv') := by
            rw [hke, List.take_length] at hM
            exact hM
          have HNN : Hid ((Lh.fadd now L (l.take k)).length = (Lh.fadd now L l).length) := by
            show _ = _
            rw [hke, List.take_length]
          clear hM
          generalize (Lh.fadd now L (l.take k)).length = n9 at *
          clear hke
          go_wp2_with fail
          refine (fine_any _).mono ?_
          rintro e w8 ⟨rfl, hb8⟩
          obtain ⟨q0, q1, g0, g1⟩ := HR9.out.later hb8
          have HB8 : Hid (Below wr.heap.size wr w8) := hb8
          clear hb8
          go_wp2
          have hrbf : ¬ FFoot m lv' W.heap.size := fun hf => by
            rcases HFF.out _ hf with h | h
            · have := (HLT.out _ h).1
              omega
            · have := HSZ.out
              omega
          refine bodyPost_ret (v := .tuple #[.int .i64 ((n9 - L.length : Nat) : Int), .agg #[.int .i64 0, .int .i64 (-1)]]) (by simp [results, Tryz.results18, go_sem, q0, q1]) rfl ⟨by rw [HNN.out], lv', ?_, ?_, fun b hb => ?_⟩
          · refine (HMM.out.later HB8.out).stay fun b hb => ?_
            have hne : b ≠ W.heap.size := fun e => hrbf (e ▸ hb)
            rw [heap_setCell_other _ ⟨W.heap.size, 1, none⟩ b _ hne, heap_setCell_other _ ⟨W.heap.size, 0, none⟩ b _ hne]
          · exact ((below_tur ((Tur.of_below HB0.out).trans HTT.out (fun b hb => Or.inl hb)) HB8.out).put 0 (Or.inr (Nat.le_refl _)) _).put 1 (Or.inr (Nat.le_refl _)) _
          · rcases HFF.out b hb with h | h
            · exact Or.inl h
            · exact Or.inr (Nat.le_trans HB0.out.size h)

/-- Add. -/
theorem faddM_any (h : MF W m t la L lv) (hok : Lh.FlOk L) (v : Value) (l : List Lh.Fl) (hv : Flows1 W v l) (hvm : 0 < l.length → ∀ b o n c, v = .slice (some ⟨b, o, none⟩) n c → b < m) (hl : l.length ≤ 201) (hin : FlIn l) (now : Int) :
    Calls Tryz.prog 18 #[.pointer (some ⟨m, 0, none⟩), v, .int .i64 now] W fun e w' => ∃ lv', Tur (FFoot m lv) W w' ∧ (∀ b, FFoot m lv' b → FFoot m lv b ∨ W.heap.size ≤ b) ∧
      ((TickOk la now ∧ (∀ x ∈ l, Lh.isNm x.2.1 = true) ∧ e = .returned (.tuple #[.int .i64 (((Lh.fadd now L l).length - L.length : Nat) : Int), .agg #[.int .i64 0, .int .i64 (-1)]]) ∧ MF w' m t now (Lh.fadd now L l) lv') ∨
       (∃ i, TickOk la now ∧ NmAt l i ∧ e = .returned (.tuple #[.int .i64 0, .agg #[.int .i64 4, .int .i64 (i : Nat)]]) ∧ MF w' m t la L lv') ∨
       (∃ j, TickF la now j ∧ e = .returned (.tuple #[.int .i64 0, .agg #[.int .i64 ((j + 1 : Nat) : Int), .int .i64 (-1)]]) ∧ MF w' m t la L lv')) := by
  rcases tick_ex la now with ht | ⟨j, ht⟩
  · obtain ⟨q, c, rfl, hqm, hc⟩ : ∃ q c, v = .slice q l.length c ∧ (0 < l.length → ∀ b o, q = some ⟨b, o, none⟩ → b < m) ∧ ∀ i (hi : i < l.length), ∃ b o, q = some ⟨b, o, none⟩ ∧ W.cell? ⟨b, o + i * 3, none⟩ = some (.int .u64 ((l[i]).1 : Nat)) ∧ W.cell? ⟨b, o + i * 3 + 1, none⟩ = some (.string (l[i]).2.1) ∧ W.cell? ⟨b, o + i * 3 + 2, none⟩ = some (.int .i64 (l[i]).2.2) := by
      rcases hv with ⟨rfl, rfl | ⟨ad, c, rfl⟩⟩ | ⟨b, o, c, rfl, _, h⟩
      · exact ⟨_, _, rfl, fun h => absurd h (by simp), fun i hi => absurd hi (by simp)⟩
      · exact ⟨_, c, rfl, fun h => absurd h (by simp), fun i hi => absurd hi (by simp)⟩
      · exact ⟨_, c, rfl, fun h0 b' o' e => by cases e; exact hvm h0 b o _ c rfl, fun i hi => ⟨b, o, rfl, h i hi⟩⟩
    rcases nmAt_ex l with hn | ⟨k, hk⟩
    · refine (faddM_good h hok q c l hl hqm hc hin ht hn).mono ?_
      rintro e w' ⟨rfl, lv', h1, h2, h3⟩
      exact ⟨lv', h2, h3, Or.inl ⟨ht, hn, rfl, h1⟩⟩
    · refine (faddM_name h q c l hl (fun i hi => by obtain ⟨b, o, e, _, h1, _⟩ := hc i hi; exact ⟨b, o, e, h1⟩) hin ht k hk).mono ?_
      rintro e w' ⟨rfl, hb⟩
      exact ⟨lv, Tur.of_below hb, fun b hb => Or.inl hb, Or.inr (Or.inl ⟨k, ht, hk, rfl, h.later hb⟩)⟩
  · refine (faddM_tick h v ht).mono ?_
    rintro e w' ⟨rfl, hb⟩
    exact ⟨lv, Tur.of_below hb, fun b hb => Or.inl hb, Or.inr (Or.inr ⟨j, ht, rfl, h.later hb⟩)⟩
end
end Go.Proofs.YtijdaaghomclmabGreatDoor
