/- The model's cut of a text by a byte. -/
import Derived.Test.YtmdckddenelneaaGreatDoorM19
import Derived.Test.YtmdckddenelneaaGreatDoorM3
import Derived.BigQuiet
import Derived.Deep.QuietTactic
import Derived.Laws.AppendOwnNone
import Derived.Test.YtmdckddenelneaaGreatDoorM6
import Derived.Laws.StructEq
namespace Go.Proofs.YtmdckddenelneaaGreatDoor
open Go.RowKit

namespace Lh
/-- A word's bytes ahead of the first of some words. -/
def glue (w : List UInt8) : List (List UInt8) → List (List UInt8)
  | [] => [w]
  | x :: xs => (w ++ x) :: xs
theorem glue_nil {z : List (List UInt8)} (h : z ≠ []) : glue [] z = z := by
  cases z with
  | nil => exact absurd rfl h
  | cons x xs => rfl
theorem glue_hit (y : UInt8) (w r : List UInt8) : glue w (cutL y (y :: r)) = [w] ++ glue [] (cutL y r) := by
  rw [cutL_cons, if_pos rfl, glue_nil (cutL_ne y r)]
  simp [glue]
theorem glue_miss {y c : UInt8} (h : c ≠ y) (w r : List UInt8) : glue w (cutL y (c :: r)) = glue (w ++ [c]) (cutL y r) := by
  obtain ⟨x, xs, e⟩ := cutL_some y r
  rw [cutL_cons, if_neg h, e]
  simp [glue]
end Lh
def wordsV (ws : List (List UInt8)) : List Value := ws.map fun w => .string (Lh.bt w)

set_option maxRecDepth 100000 in
set_option maxHeartbeats 2000000 in
theorem cutM_any (l : List UInt8) (hl : l.length ≤ 100000) (y : UInt8) (W : World) :
    Calls Tryz.prog 130 #[.string (Lh.bt l), .int .u8 (y.toNat : Nat)] W fun e w' => ∃ v, e = .returned v ∧ w'.ownsRow W.heap.size 9 1 v (Lh.cutL y l).length (wordsV (Lh.cutL y l)) ∧ Below W.heap.size W w' := by
  obtain ⟨i0, hi0, hz0, hz1, hz2⟩ := info_parts infoS
  have hsz := Lh.bt_size l
  go_enter Tryz.func130, Tryz.ntmps130
  go_wp2_with fail
  go_loopw [5, 6, 7] (fun v u6 u7 w' => Below W.heap.size W w' ∧ ∃ (i : Nat) (out : List (List UInt8)) (word : List UInt8), i ≤ l.length ∧ out.length ≤ i ∧ word.length ≤ i ∧ u7 = .int .i64 (i : Nat) ∧ u6 = .string (Lh.bt word) ∧ w'.ownsRow W.heap.size 9 1 v out.length (wordsV out) ∧ Lh.cutL y l = out ++ Lh.glue word (Lh.cutL y (l.drop i))) (fun _ _ u7 _ => l.length - (intOf u7).toNat)
  case atStart => exact ⟨Below.refl _ _, 0, [], [], Nat.zero_le _, Nat.le_refl _, Nat.le_refl _, rfl, rfl, World.ownsRow_nil _ _ _ _, by rw [List.drop_zero, Lh.glue_nil (Lh.cutL_ne y l)]; rfl⟩
  case round =>
    obtain ⟨hb, i, out, word, hi, ho, hw, rfl, rfl, hown, heq⟩ := hrel
    obtain ⟨wo, hwo⟩ : ∃ wo, wo = wr := ⟨_, rfl⟩
    subst hwo
    obtain ⟨vo, hvo⟩ : ∃ vo, vo = u5 := ⟨_, rfl⟩
    subst hvo
    have hsw := Lh.bt_size word
    by_cases hil : i < l.length
    · have hii : (i : Int) < (l.length : Int) := by omega
      have hbs : i < (Lh.bt l).size := by rw [hsz]; exact hil
      have hdr : l.drop i = l[i] :: l.drop (i + 1) := List.drop_eq_getElem_cons hil
      have hbb : (Lh.bt l)[i] = l[i] := rfl
      by_cases hc : l[i] = y
      · have d1 : (((Lh.bt l)[i].toNat : Int) == (y.toNat : Int)) = true := by rw [hbb, hc]; simp
        have HEQ : Hid (Lh.cutL y l = (out ++ [word]) ++ Lh.glue [] (Lh.cutL y (l.drop (i + 1)))) := by
          show _ = _
          rw [heq, hdr, hc, Lh.glue_hit, List.append_assoc]
        have hown3 := hown.alloc (.cells #[.string (Lh.bt word)] 9)
        have hnews := cells_one (w := wo) (t := 9) (Lh.bt word)
        have hbw3 : Below W.heap.size W (wo.alloc (.cells #[.string (Lh.bt word)] 9)) := hb.alloc hb.size _
        have hmax : out.length + 1 ≤ maxLen := by unfold maxLen; omega
        clear hown heq hdr hbb hc
        go_wp2_with (at_builtin; refine wpList_append_own _ rfl _ _ 22 rfl W.heap.size 9 i0 _ 1 16 Tryz.underlying22 hi0 hz0 hz1 hz2 rfl (by decide) vo out.length (wordsV out) rfl hown3 ⟨wo.heap.size, 0, none⟩ 1 1 [.string (Lh.bt word)] rfl rfl hnews (fun u hu => by simp at hu; subst hu; rfl) hmax (by omega) hbw3.size ?_)
        intro v' w4 hown4 hg4 _
        have hlo := hown3.lt
        have hb4 : Below W.heap.size W w4 := hbw3.grown hg4 hbw3.size (fun k hk => (hlo k hk).1)
        have HOUT : Hid (w4.ownsRow W.heap.size 9 1 v' (out ++ [word]).length (wordsV (out ++ [word]))) := by
          show World.ownsRow _ _ _ _ _ _ _
          rw [List.length_append]
          unfold wordsV at hown4 ⊢
          rw [List.map_append]
          exact hown4
        clear hown3 hnews hlo hg4 hbw3 hmax hown4
        go_wp2
        exact ⟨⟨hb4, i + 1, out ++ [word], [], by omega, by rw [List.length_append]; simp; omega, by simp, by go_num, rfl, HOUT.out, HEQ.out⟩, by simp [intOf]; omega⟩
      · have d1 : (((Lh.bt l)[i].toNat : Int) == (y.toNat : Int)) = false := by
          rw [hbb]
          have : ¬ (l[i]).toNat = y.toNat := fun e => hc (UInt8.toNat_inj.1 e)
          simp
          omega
        have HEQ : Hid (Lh.cutL y l = out ++ Lh.glue (word ++ [l[i]]) (Lh.cutL y (l.drop (i + 1)))) := by
          show _ = _
          rw [heq, hdr, Lh.glue_miss hc]
        have HBX : Hid (Lh.bt word ++ (Lh.bt l).extract i (i + 1) = Lh.bt (word ++ [l[i]])) := by
          show _ = _
          rw [Lh.bt_extract, Lh.bt_append, hdr]
          congr 2
          simp
        clear heq hdr hbb hc
        go_wp2
        exact ⟨⟨hb, i + 1, out, word ++ [l[i]], by omega, by omega, by rw [List.length_append]; simp; omega, by go_num, congrArg Value.string HBX.out, hown, HEQ.out⟩, by simp [intOf]; omega⟩
    · have hii : decide ((i : Int) < (l.length : Int)) = false := by simp; omega
      have hdr : l.drop i = [] := List.drop_eq_nil_of_le (by omega)
      have HEQ : Hid (Lh.cutL y l = out ++ [word]) := by
        show _ = _
        rw [heq, hdr]
        simp [Lh.cutL, Lh.glue]
      have hown3 := hown.alloc (.cells #[.string (Lh.bt word)] 9)
      have hnews := cells_one (w := wo) (t := 9) (Lh.bt word)
      have hbw3 : Below W.heap.size W (wo.alloc (.cells #[.string (Lh.bt word)] 9)) := hb.alloc hb.size _
      have hmax : out.length + 1 ≤ maxLen := by unfold maxLen; omega
      clear hown heq hdr
      go_wp2_with (at_builtin; refine wpList_append_own _ rfl _ _ 22 rfl W.heap.size 9 i0 _ 1 16 Tryz.underlying22 hi0 hz0 hz1 hz2 rfl (by decide) vo out.length (wordsV out) rfl hown3 ⟨wo.heap.size, 0, none⟩ 1 1 [.string (Lh.bt word)] rfl rfl hnews (fun u hu => by simp at hu; subst hu; rfl) hmax (by omega) hbw3.size ?_)
      intro v' w4 hown4 hg4 _
      have hlo := hown3.lt
      have hb4 : Below W.heap.size W w4 := hbw3.grown hg4 hbw3.size (fun k hk => (hlo k hk).1)
      have HOUT : Hid (w4.ownsRow W.heap.size 9 1 v' (out ++ [word]).length (wordsV (out ++ [word]))) := by
        show World.ownsRow _ _ _ _ _ _ _
        rw [List.length_append]
        unfold wordsV at hown4 ⊢
        rw [List.map_append]
        exact hown4
      clear hown3 hnews hlo hg4 hbw3 hmax hown4
      go_wp2
      go_ret
      exact ⟨_, rfl, by rw [HEQ.out]; exact HOUT.out, hb4⟩
end Go.Proofs.YtmdckddenelneaaGreatDoor

/- Flows that are the same. -/
namespace Go.Proofs.YtmdckddenelneaaGreatDoor
open Go.RowKit

theorem Flows1.cells {w : World} {v : Value} {L : List Lh.Fl} (h : Flows1 w v L) : ∃ p c, v = .slice p L.length c ∧ ∀ i (hi : i < L.length), ∃ b o, p = some ⟨b, o, none⟩ ∧ w.cell? ⟨b, o + i * 3, none⟩ = some (.int .u64 (L[i].1 : Nat)) ∧ w.cell? ⟨b, o + i * 3 + 1, none⟩ = some (.string L[i].2.1) ∧ w.cell? ⟨b, o + i * 3 + 2, none⟩ = some (.int .i64 L[i].2.2) := by
  rcases h with ⟨rfl, rfl | ⟨ad, c, rfl⟩⟩ | ⟨b, o, c, rfl, _, h⟩
  · exact ⟨_, _, rfl, fun i hi => absurd hi (by simp)⟩
  · exact ⟨_, c, rfl, fun i hi => absurd hi (by simp)⟩
  · exact ⟨_, c, rfl, fun i hi => ⟨b, o, rfl, h i hi⟩⟩

theorem neqFl (k : Nat) (s : ByteArray) (u : Int) (w : World) : (binOp .neq 82 (.agg #[.int .u64 (k : Nat), .string s, .int .i64 u]) (.agg #[.int .u64 (k : Nat), .string s, .int .i64 u])).run Tryz.prog w = .ok (.bool false) w := by
  have hS : Tryz.prog.underlying 82 = some (.struct (Tryz.prog.fieldsOf 82)) := by kernel_rfl
  have hp : Tryz.prog.stoodInHeld 82 = false := by kernel_rfl
  have u1 := Tryz.underlying27
  have a1 := Tryz.isAgg27
  have z1 := Tryz.sizeOf27
  have u2 := Tryz.underlying9
  have a2 := Tryz.isAgg9
  have z2 := Tryz.sizeOf9
  have u3 := Tryz.underlying3
  have a3 := Tryz.isAgg3
  have z3 := Tryz.sizeOf3
  rw [run_neq_struct, show (10000 : Nat) = 9999 + 1 from rfl, run_equalIn_agg w 9999 82 _ _ hS hp]
  simp only [Program.fieldsOf, Tryz.underlying82]
  go_simp

set_option maxRecDepth 100000 in
set_option maxHeartbeats 2000000 in
theorem sameFlows_same (va vb : Value) (L : List Lh.Fl) (W : World) (ha : Flows1 W va L) (hb : Flows1 W vb L) (hl : L.length ≤ 1000) :
    Calls Tryz.prog 20 #[va, vb] W fun e w' => e = .returned (.bool true) ∧ Below W.heap.size W w' := by
  obtain ⟨pa, ca, rfl, hca⟩ := ha.cells
  obtain ⟨pb, cb, rfl, hcb⟩ := hb.cells
  have HA : Hid _ := hca
  have HB : Hid _ := hcb
  clear ha hb hca hcb
  go_enter Tryz.func20, Tryz.ntmps20
  go_wp2_with fail
  go_loopw [5] (fun u w' => Below W.heap.size W w' ∧ ∃ i : Nat, i ≤ L.length ∧ u = .int .i64 (i : Nat)) (fun u _ => L.length - (intOf u).toNat)
  case atStart => exact ⟨Below.refl _ _, 0, Nat.zero_le _, rfl⟩
  case round =>
    obtain ⟨hb, i, hi, rfl⟩ := hrel
    by_cases hil : i < L.length
    · have hii : (i : Int) < (L.length : Int) := by omega
      obtain ⟨ba, oa, rfl, a0, a1, a2⟩ := HA.out i hil
      obtain ⟨bb, ob, rfl, b0, b1, b2⟩ := HB.out i hil
      have a0' := below_cell hb a0
      have a1' := below_cell hb a1
      have a2' := below_cell hb a2
      have b0' := below_cell hb b0
      have b1' := below_cell hb b1
      have b2' := below_cell hb b2
      clear a0 a1 a2 b0 b1 b2
      generalize (L[i]).1 = k at *
      generalize (L[i]).2.1 = s at *
      generalize (L[i]).2.2 = u at *
      have hne := neqFl k s u
      go_wp2_with fail
      go_quiet (fail)
      go_wp2
      exact ⟨⟨below_drewN hb nq, i + 1, by omega, by go_num⟩, by simp [intOf]; omega⟩
    · have hii : decide ((i : Int) < (L.length : Int)) = false := by simp; omega
      go_wp2
      go_ret
      exact ⟨rfl, hb⟩
end Go.Proofs.YtmdckddenelneaaGreatDoor

/- The model's CarryFault. -/
namespace Go.Proofs.YtmdckddenelneaaGreatDoor
open Go.RowKit

def GoodF (l : List Lh.Fl) (i : Nat) (h : i < l.length) : Prop := Lh.isNm (l[i]).2.1 = true ∧ 0 ≤ (l[i]).2.2 ∧ (l[i]).2.2 ≤ 1099511628776 ∧ ∀ j (hj : j < l.length), j < i → (l[j]).1 ≠ (l[i]).1
/-- What is wrong with a flow. -/
def FlawF (l : List Lh.Fl) (i : Nat) (h : i < l.length) (c : Nat) : Prop := (Lh.isNm (l[i]).2.1 = false ∧ c = 4) ∨ (Lh.isNm (l[i]).2.1 = true ∧ ((l[i]).2.2 < 0 ∨ 1099511628776 < (l[i]).2.2) ∧ c = 2) ∨ (Lh.isNm (l[i]).2.1 = true ∧ 0 ≤ (l[i]).2.2 ∧ (l[i]).2.2 ≤ 1099511628776 ∧ (∃ j, ∃ hj : j < l.length, j < i ∧ (l[j]).1 = (l[i]).1) ∧ c = 6)
/-- What is wrong with flows that are to be carried. -/
def CaF (e : Int) (l : List Lh.Fl) (c : Nat) (pl : Int) : Prop :=
  ((e < 0 ∨ 1099511627776 < e ∨ 200 < l.length) ∧ c = 2 ∧ pl = -1) ∨
  ((0 ≤ e ∧ e ≤ 1099511627776 ∧ l.length ≤ 200) ∧ ∃ i, ∃ h : i < l.length, (∀ j, j < i → ∀ hj : j < l.length, GoodF l j hj) ∧ pl = i ∧ FlawF l i h c) ∨
  ((0 ≤ e ∧ e ≤ 1099511627776 ∧ l.length ≤ 200) ∧ (∀ j, ∀ hj : j < l.length, GoodF l j hj) ∧ c = 0 ∧ pl = -1)
theorem flaw_good {l : List Lh.Fl} {i : Nat} {h : i < l.length} {c : Nat} (hf : FlawF l i h c) : ¬ GoodF l i h := by
  rintro ⟨g1, g2, g3, g4⟩
  rcases hf with ⟨h1, _⟩ | ⟨_, h2, _⟩ | ⟨_, _, _, ⟨j, hj, h3, h4⟩, _⟩
  · rw [g1] at h1; cases h1
  · omega
  · exact g4 j hj h3 h4
theorem flaw_one {l : List Lh.Fl} {i : Nat} {h : i < l.length} {c c' : Nat} (hf : FlawF l i h c) (hf' : FlawF l i h c') : c = c' := by
  rcases hf with ⟨h1, e1⟩ | ⟨h1, h2, e1⟩ | ⟨h1, h2, h3, h4, e1⟩ <;> rcases hf' with ⟨g1, e2⟩ | ⟨g1, g2, e2⟩ | ⟨g1, g2, g3, g4, e2⟩ <;> first | omega | (rw [h1] at g1; cases g1)
theorem caF_one {e : Int} {l : List Lh.Fl} {c c' : Nat} {pl pl' : Int} (hf : CaF e l c pl) (hf' : CaF e l c' pl') : c = c' ∧ pl = pl' := by
  rcases hf with ⟨h1, e1, e2⟩ | ⟨h1, i, hi, h2, e2, h3⟩ | ⟨h1, h2, e1, e2⟩ <;> rcases hf' with ⟨g1, d1, d2⟩ | ⟨g1, k, hk, g2, d2, g3⟩ | ⟨g1, g2, d1, d2⟩
  · omega
  · omega
  · omega
  · omega
  · have : i = k := by
      rcases Nat.lt_trichotomy i k with h | h | h
      · exact absurd (g2 i h hi) (flaw_good h3)
      · exact h
      · exact absurd (h2 k h hk) (flaw_good g3)
    subst this
    exact ⟨flaw_one h3 g3, by omega⟩
  · exact absurd (g2 i hi) (flaw_good h3)
  · omega
  · exact absurd (h2 k hk) (flaw_good g3)
  · omega

set_option maxRecDepth 100000 in
set_option maxHeartbeats 2000000 in
theorem caFaultM_any (e : Int) (v : Value) (l : List Lh.Fl) (W : World) (hv : Flows1 W v l) (hl : l.length ≤ 100000) (hs : ∀ x ∈ l, x.2.1.size ≤ 1000000) :
    Calls Tryz.prog 134 #[.int .i64 e, v] W fun r w' => ∃ c pl, r = .returned (.agg #[.int .i64 (c : Nat), .int .i64 pl]) ∧ CaF e l c pl ∧ Below W.heap.size W w' := by
  obtain ⟨p, cp, rfl, hc⟩ := hv.cells
  have HC : Hid _ := hc
  have HS : Hid (∀ x ∈ l, x.2.1.size ≤ 1000000) := hs
  have hbW := (Below.refl W.heap.size W).alloc (Nat.le_refl _) (.cells #[.int .i64 0, .int .i64 0] 37)
  clear hv hc hs
  by_cases hg : 0 ≤ e ∧ e ≤ 1099511627776 ∧ l.length ≤ 200
  · have d1 : decide (e < 0) = false := by simp; omega
    have d2 : decide (1099511627776 < e) = false := by simp; omega
    have d3 : decide (200 < (l.length : Int)) = false := by simp; omega
    have HG : Hid (0 ≤ e ∧ e ≤ 1099511627776 ∧ l.length ≤ 200) := hg
    have hl2 : l.length ≤ 200 := hg.2.2
    clear hg hl
    go_enter Tryz.func134, Tryz.ntmps134
    have HR0 : Hid (∀ w', Below (W.alloc (.cells #[.int .i64 0, .int .i64 0] 37)).heap.size (W.alloc (.cells #[.int .i64 0, .int .i64 0] 37)) w' → w'.cell? ⟨W.heap.size, 0, none⟩ = some (.int .i64 0) ∧ w'.cell? ⟨W.heap.size, 1, none⟩ = some (.int .i64 0) ∧ w'.frozen? ⟨W.heap.size, 0, none⟩ = false ∧ w'.frozen? ⟨W.heap.size, 1, none⟩ = false ∧ Below W.heap.size W w') := fun w' hb => ⟨below_cell hb (by simp), below_cell hb (by simp), by rw [hb.frozen (by simp)]; simp, by rw [hb.frozen (by simp)]; simp, below_then hbW hb⟩
    clear hbW
    go_wp2_with fail
    generalize W.alloc (.cells #[.int .i64 0, .int .i64 0] 37) = W0 at *
    go_loopw [5, 6, 7] (fun u5 _ _ w' => Below W0.heap.size W0 w' ∧ ∃ i : Nat, i ≤ l.length ∧ u5 = .int .i64 (i : Nat) ∧ ∀ j, j < i → ∀ hj : j < l.length, GoodF l j hj) (fun u5 _ _ _ => l.length - (intOf u5).toNat)
    case atStart => exact ⟨Below.refl _ _, 0, Nat.zero_le _, rfl, fun j h => absurd h (by omega)⟩
    case round =>
      obtain ⟨hb, i, hi, rfl, hp⟩ := hrel
      obtain ⟨wo, hwo⟩ : ∃ wo, wo = wr := ⟨_, rfl⟩
      subst hwo
      have HP : Hid (∀ j, j < i → ∀ hj : j < l.length, GoodF l j hj) := hp
      clear hp
      obtain ⟨c0, c1, f0, f1, hbz⟩ := HR0.out _ hb
      by_cases hil : i < l.length
      · have hii : (i : Int) < (l.length : Int) := by omega
        obtain ⟨b, o, rfl, x0, x1, x2⟩ := HC.out i hil
        have x0' := below_cell hbz x0
        have x1' := below_cell hbz x1
        have x2' := below_cell hbz x2
        have hsz := HS.out _ (List.getElem_mem hil)
        have HNM := refName_any (l[i]).2.1
        cases hn : Lh.isNm (l[i]).2.1 with
        | false =>
          have HF : Hid (CaF e l 4 i) := Or.inr (Or.inl ⟨HG.out, i, hil, HP.out, rfl, Or.inl ⟨hn, rfl⟩⟩)
          rw [hn] at HNM
          clear x0 x1 x2 hn
          generalize (l[i]).2.1 = s at *
          generalize (l[i]).1 = k at *
          generalize (l[i]).2.2 = u at *
          go_wp2_with fail
          refine (HNM _ hsz).mono ?_
          rintro r w1 ⟨rfl, rfl⟩
          dsimp only
          go_wp2
          exact bodyPost_ret (v := .agg #[.int .i64 4, .int .i64 i]) (by simp [results, Tryz.results134, go_sem, c0, c1]) rfl ⟨4, i, rfl, HF.out, (hbz.setCell (Nat.le_refl _) _).setCell (Nat.le_refl _) _⟩
        | true =>
          rw [hn] at HNM
          have HN : Hid (Lh.isNm (l[i]).2.1 = true) := hn
          clear hn
          by_cases hu0 : (l[i]).2.2 < 0
          · have HF : Hid (CaF e l 2 i) := Or.inr (Or.inl ⟨HG.out, i, hil, HP.out, rfl, Or.inr (Or.inl ⟨HN.out, Or.inl hu0, rfl⟩)⟩)
            have q1 : decide ((l[i]).2.2 < 0) = true := by simp; omega
            clear x0 x1 x2 HN hu0
            generalize (l[i]).2.1 = s at *
            generalize (l[i]).1 = k at *
            generalize (l[i]).2.2 = u at *
            go_wp2_with fail
            refine (HNM _ hsz).mono ?_
            rintro r w1 ⟨rfl, rfl⟩
            dsimp only
            go_wp2
            exact bodyPost_ret (v := .agg #[.int .i64 2, .int .i64 i]) (by simp [results, Tryz.results134, go_sem, c0, c1]) rfl ⟨2, i, rfl, HF.out, (hbz.setCell (Nat.le_refl _) _).setCell (Nat.le_refl _) _⟩
          · have q1 : decide ((l[i]).2.2 < 0) = false := by simp; omega
            by_cases hu1 : 1099511628776 < (l[i]).2.2
            · have HF : Hid (CaF e l 2 i) := Or.inr (Or.inl ⟨HG.out, i, hil, HP.out, rfl, Or.inr (Or.inl ⟨HN.out, Or.inr hu1, rfl⟩)⟩)
              have q2 : decide (1099511628776 < (l[i]).2.2) = true := by simp; omega
              clear x0 x1 x2 HN hu0 hu1
              generalize (l[i]).2.1 = s at *
              generalize (l[i]).1 = k at *
              generalize (l[i]).2.2 = u at *
              go_wp2_with fail
              refine (HNM _ hsz).mono ?_
              rintro r w1 ⟨rfl, rfl⟩
              dsimp only
              go_wp2
              exact bodyPost_ret (v := .agg #[.int .i64 2, .int .i64 i]) (by simp [results, Tryz.results134, go_sem, c0, c1]) rfl ⟨2, i, rfl, HF.out, (hbz.setCell (Nat.le_refl _) _).setCell (Nat.le_refl _) _⟩
            · have q2 : decide (1099511628776 < (l[i]).2.2) = false := by simp; omega
              have HSAME : Hid (∀ j (hj : j < l.length), j < i → (l[j]).1 = (l[i]).1 → CaF e l 6 i) := fun j hj h1 h2 => Or.inr (Or.inl ⟨HG.out, i, hil, HP.out, rfl, Or.inr (Or.inr ⟨HN.out, by omega, by omega, ⟨j, hj, h1, h2⟩, rfl⟩)⟩)
              have HGO : Hid ((∀ j (hj : j < l.length), j < i → (l[j]).1 ≠ (l[i]).1) → ∀ j, j < i + 1 → ∀ hj : j < l.length, GoodF l j hj) := fun h j hj hjl => by
                by_cases ej : j = i
                · subst ej; exact ⟨HN.out, by omega, by omega, h⟩
                · exact HP.out j (by omega) hjl
              clear HN hu0 hu1 HP
              generalize (l[i]).2.1 = s at *
              generalize (l[i]).1 = k at *
              generalize (l[i]).2.2 = u at *
              go_wp2_with fail
              refine (HNM _ hsz).mono ?_
              rintro r w1 ⟨rfl, rfl⟩
              dsimp only
              clear c0 c1 f0 f1
              go_wp2_with fail
              go_loopw [7] (fun u7 w' => Below W0.heap.size W0 w' ∧ ∃ q : Nat, q ≤ i ∧ u7 = .int .i64 (q : Nat) ∧ ∀ j (hj : j < l.length), j < q → (l[j]).1 ≠ k) (fun u7 _ => i - (intOf u7).toNat)
              case atStart => exact ⟨hb, 0, Nat.zero_le _, rfl, fun j _ h => absurd h (by omega)⟩
              case round =>
                obtain ⟨hbi, q, hq, rfl, hpq⟩ := hrel
                have HPQ : Hid (∀ j (hj : j < l.length), j < q → (l[j]).1 ≠ k) := hpq
                clear hpq
                obtain ⟨wi, hwi⟩ : ∃ wi, wi = wr := ⟨_, rfl⟩
                subst hwi
                obtain ⟨c0, c1, f0, f1, hbzi⟩ := HR0.out _ hbi
                have z0 := below_cell hbzi x0
                clear x0' x1' x2'
                by_cases hqi : q < i
                · have hqii : (q : Int) < (i : Int) := by omega
                  have hql : q < l.length := by omega
                  obtain ⟨b', o', e', y0, _, _⟩ := HC.out q hql
                  cases e'
                  have y0' := below_cell hbzi y0
                  clear y0
                  by_cases hsame : (l[q]).1 = k
                  · have HF : Hid (CaF e l 6 i) := HSAME.out q hql hqi hsame
                    have q3 : ((((l[q]).1 : Nat) : Int) == (k : Int)) = true := by rw [hsame]; simp
                    clear hsame
                    generalize (l[q]).1 = kk at *
                    go_wp2_with fail
                    go_quiet (fail)
                    obtain ⟨c0n, c1n, f0n, f1n, hbn⟩ := HR0.out _ (below_drewN hbi nq)
                    clear c0 c1 f0 f1
                    generalize wi.drewN nq = wn at *
                    go_wp2
                    exact bodyPost_ret (v := .agg #[.int .i64 6, .int .i64 i]) (by simp [results, Tryz.results134, go_sem, c0n, c1n]) rfl ⟨6, i, rfl, HF.out, (hbn.setCell (Nat.le_refl _) _).setCell (Nat.le_refl _) _⟩
                  · have q3 : ((((l[q]).1 : Nat) : Int) == (k : Int)) = false := by
                      rw [beq_eq_false_iff_ne]; omega
                    have HPN : Hid (∀ j (hj : j < l.length), j < q + 1 → (l[j]).1 ≠ k) := fun j hj hjq => by
                      by_cases ej : j = q
                      · subst ej; exact hsame
                      · exact HPQ.out j hj (by omega)
                    clear hsame
                    generalize (l[q]).1 = kk at *
                    go_wp2_with fail
                    go_quiet (fail)
                    go_wp2
                    exact ⟨⟨below_drewN hbi nq, q + 1, by omega, by go_num, HPN.out⟩, by simp [intOf]; omega⟩
                · have hqii : decide ((q : Int) < (i : Int)) = false := by simp; omega
                  have HNX : Hid (∀ j, j < i + 1 → ∀ hj : j < l.length, GoodF l j hj) := HGO.out fun j hj h => HPQ.out j hj (by omega)
                  go_wp2
                  exact ⟨⟨hbi, i + 1, by omega, by go_num, HNX.out⟩, by simp [intOf]; omega⟩
      · have hii : decide ((i : Int) < (l.length : Int)) = false := by simp; omega
        have HF : Hid (CaF e l 0 (-1)) := Or.inr (Or.inr ⟨HG.out, fun j hj => HP.out j (by omega) hj, rfl, rfl⟩)
        clear HP
        go_wp2_with fail
        refine (fine_any _).mono ?_
        rintro r w1 ⟨rfl, hb1⟩
        obtain ⟨c0', c1', f0', f1', hbz'⟩ := HR0.out _ (below_then hb hb1)
        clear c0 c1 f0 f1 hb1
        dsimp only
        go_wp2
        exact bodyPost_ret (v := .agg #[.int .i64 0, .int .i64 (-1)]) (by simp [results, Tryz.results134, go_sem, c0', c1']) rfl ⟨0, -1, rfl, HF.out, (hbz'.setCell (Nat.le_refl _) _).setCell (Nat.le_refl _) _⟩
  · have HF : Hid (CaF e l 2 (-1)) := Or.inl ⟨by omega, rfl, rfl⟩
    have HQ : Hid (∀ W, Calls Tryz.prog 14 #[.int .i64 2] W fun e w' => e = .returned (.agg #[.int .i64 2, .int .i64 (-1)]) ∧ Below W.heap.size W w') := fun W => bare_any 2 W
    have HEND : (decide (e < 0) = true ∧ (0 : Int) = 0 ∧ (1 : Int) = 1) ∨ (decide (e < 0) = false ∧ decide (1099511627776 < e) = true ∧ (1 : Int) = 1) ∨ (decide (e < 0) = false ∧ decide (1099511627776 < e) = false ∧ decide (200 < (l.length : Int)) = true) := by
      by_cases h1 : e < 0
      · exact Or.inl ⟨by simp; omega, rfl, rfl⟩
      · by_cases h2 : 1099511627776 < e
        · exact Or.inr (Or.inl ⟨by simp; omega, by simp; omega, rfl⟩)
        · exact Or.inr (Or.inr ⟨by simp; omega, by simp; omega, by simp; omega⟩)
    clear hg
    go_enter Tryz.func134, Tryz.ntmps134
    rcases HEND with ⟨d1, d2, d3⟩ | ⟨d1, d2, d3⟩ | ⟨d1, d2, d3⟩
    all_goals
      go_wp2_with fail
      refine (HQ.out _).mono ?_
      rintro r w1 ⟨rfl, hb1⟩
      have c0 : w1.cell? ⟨W.heap.size, 0, none⟩ = some (.int .i64 0) := below_cell hb1 (by simp)
      have c1 : w1.cell? ⟨W.heap.size, 1, none⟩ = some (.int .i64 0) := below_cell hb1 (by simp)
      have f0 : w1.frozen? ⟨W.heap.size, 0, none⟩ = false := by rw [hb1.frozen (by simp)]; simp
      have f1 : w1.frozen? ⟨W.heap.size, 1, none⟩ = false := by rw [hb1.frozen (by simp)]; simp
      have hbz : Below W.heap.size W w1 := hbW.trans (hb1.mono (by simp))
      clear hb1 hbW
      dsimp only
      go_wp2
      exact bodyPost_ret (v := .agg #[.int .i64 2, .int .i64 (-1)]) (by simp [results, Tryz.results134, go_sem, c0, c1]) rfl ⟨2, -1, rfl, HF.out, (hbz.setCell (Nat.le_refl _) _).setCell (Nat.le_refl _) _⟩
end Go.Proofs.YtmdckddenelneaaGreatDoor
