/- The landed readHead, readFlow, cutSum. -/
import Derived.Test.YtmdckddenelneaaGreatDoorM36
import Derived.Test.YtmdckddenelneaaGreatDoorM37
namespace Go.Proofs.YtmdckddenelneaaGreatDoor
open Go.RowKit
set_option maxRecDepth 100000 in
set_option maxHeartbeats 2000000 in
/-- readHead -/
theorem readHead_any {a : Nat → Addr} (s : List UInt8) (hs : s.length ≤ 30000) (w : World) (he : EC a w) :
    Calls Tryz.prog 211 #[.string (Lh.bt s)] w fun e w' => Below w.heap.size w w' ∧
      ((∃ m n : Nat, Lh.firstL s = some (m, n) ∧ e = .returned (.tuple #[.int .i64 (m : Nat), .int .i64 (n : Nat), .bool true])) ∨ (Lh.firstL s = none ∧ ∃ x y, e = .returned (.tuple #[.int .i64 x, .int .i64 y, .bool false]))) := by
  have hsp := split_any s 32 (by omega) w he
  have hcl := Lh.cut_len 32 s
  have hcw := Lh.cut_word 32 s
  have HE : Hid (EC a w) := he
  clear he
  go_enter Tryz.func211, Tryz.ntmps211
  go_wp2_with fail
  refine hsp.mono ?_
  rintro r w1 ⟨rfl, hb1, hlt, hcell⟩
  clear hsp
  by_cases h3 : (Lh.cutL 32 s).length = 3
  · obtain ⟨x, y, z, e3⟩ := len3 h3
    rw [e3] at hcell
    have c0 : w1.cell? ⟨w.heap.size, 0, none⟩ = some (.string (Lh.bt x)) := hcell 0 (by simp)
    have c1 : w1.cell? ⟨w.heap.size, 1, none⟩ = some (.string (Lh.bt y)) := hcell 1 (by simp)
    have c2 : w1.cell? ⟨w.heap.size, 2, none⟩ = some (.string (Lh.bt z)) := hcell 2 (by simp)
    have hly : y.length ≤ 30000 := Nat.le_trans (hcw y (by rw [e3]; simp)) hs
    have hlz : z.length ≤ 30000 := Nat.le_trans (hcw z (by rw [e3]; simp)) hs
    have HE3 : Hid (Lh.cutL 32 s = [x, y, z]) := e3
    rw [h3]
    clear hcell hcw hcl h3 e3
    by_cases hx : x = Lh.flowsW
    · have hxb : ((Lh.bt x).toList == [102, 108, 111, 119, 115]) = true := Lh.bt_is hx
      have HX : Hid (x = Lh.flowsW) := hx
      have hd1 := readDec_any y (by omega) w1 (HE.out.later hb1)
      clear hx
      dsimp only
      go_wp2_with fail
      refine hd1.mono ?_
      rintro r w2 ⟨hb2, hc1⟩
      have c2' := below_cell hb2 c2
      have hd2 := readDec_any z (by omega) w2 (HE.out.later (below_then hb1 hb2))
      have hb12 := below_then hb1 hb2
      clear hd1 c0 c1 c2 hb1
      rcases hc1 with ⟨m, hm, rfl⟩ | ⟨hm, x1, rfl⟩
      · have HM : Hid (Lh.numL y = some m) := hm
        clear hm
        dsimp only
        go_wp2_with fail
        refine hd2.mono ?_
        rintro r w3 ⟨hb3, hc2⟩
        have hb13 := below_then hb12 hb3
        clear hd2 hb12 hb3 hb2
        rcases hc2 with ⟨n, hn, rfl⟩ | ⟨hn, x2, rfl⟩
        · have HN : Hid (Lh.numL z = some n) := hn
          clear hn
          dsimp only
          go_wp2
          go_ret3
          exact ⟨hb13, Or.inl ⟨m, n, Lh.first_some HE3.out HX.out HM.out HN.out, rfl⟩⟩
        · have HN : Hid (Lh.numL z = none) := hn
          clear hn
          dsimp only
          go_wp2
          go_ret3
          exact ⟨hb13, Or.inr ⟨Lh.first_num HE3.out (Or.inr HN.out), _, _, rfl⟩⟩
      · have HM : Hid (Lh.numL y = none) := hm
        clear hm
        dsimp only
        go_wp2_with fail
        refine hd2.mono ?_
        rintro r w3 ⟨hb3, hc2⟩
        have hb13 := below_then hb12 hb3
        obtain ⟨x2, b2, rfl⟩ : ∃ x2 b2, r = .returned (.tuple #[.int .i64 x2, .bool b2]) := by
          rcases hc2 with ⟨n, hn, rfl⟩ | ⟨hn, x2, rfl⟩
          · exact ⟨_, _, rfl⟩
          · exact ⟨_, _, rfl⟩
        clear hd2 hb12 hb3 hb2 hc2
        dsimp only
        go_wp2
        go_ret3
        exact ⟨hb13, Or.inr ⟨Lh.first_num HE3.out (Or.inl HM.out), _, _, rfl⟩⟩
    · have hxb : ((Lh.bt x).toList == [102, 108, 111, 119, 115]) = false := Lh.bt_not hx
      have HX : Hid (x ≠ Lh.flowsW) := hx
      clear hx
      dsimp only
      go_wp2
      go_ret3
      exact ⟨hb1, Or.inr ⟨Lh.first_word HE3.out HX.out, _, _, rfl⟩⟩
  · have HL : Hid ((Lh.cutL 32 s).length ≠ 3) := h3
    have h3i : ¬ ((Lh.cutL 32 s).length : Int) = 3 := by omega
    clear hcell h3 hcw
    dsimp only
    go_wp2
    go_ret3
    exact ⟨hb1, Or.inr ⟨Lh.first_len HL.out, _, _, rfl⟩⟩
end Go.Proofs.YtmdckddenelneaaGreatDoor

/- The landed readFlow and cutSum. -/
namespace Go.Proofs.YtmdckddenelneaaGreatDoor
open Go.RowKit
theorem resF {W : World} {b : Nat} {k : Nat} {s : ByteArray} {u : Int} (h : W.heap[b]? = some (.cells #[.int .u64 (k : Nat), .string s, .int .i64 u] 82)) : W.cell? ⟨b, 0, none⟩ = some (.int .u64 (k : Nat)) ∧ W.cell? ⟨b, 1, none⟩ = some (.string s) ∧ W.cell? ⟨b, 2, none⟩ = some (.int .i64 u) ∧ W.frozen? ⟨b, 0, none⟩ = false ∧ W.frozen? ⟨b, 1, none⟩ = false ∧ W.frozen? ⟨b, 2, none⟩ = false :=
  ⟨by rw [Lib.cell_of_heap h]; rfl, by rw [Lib.cell_of_heap h]; rfl, by rw [Lib.cell_of_heap h]; rfl, Lib.frozen_of_heap h _, Lib.frozen_of_heap h _, Lib.frozen_of_heap h _⟩
set_option maxRecDepth 100000 in
set_option maxHeartbeats 2000000 in
/-- readFlow -/
theorem readFlow_any {a : Nat → Addr} (s : List UInt8) (hs : s.length ≤ 30000) (w : World) (he : EC a w) :
    Calls Tryz.prog 212 #[.string (Lh.bt s)] w fun e w' => Below w.heap.size w w' ∧
      ((∃ x, Lh.lineV s = some x ∧ e = .returned (.tuple #[flV x, .bool true])) ∨ (Lh.lineV s = none ∧ ∃ x, e = .returned (.tuple #[flV x, .bool false]))) := by
  have hb0 := (Below.refl w.heap.size w).alloc (Nat.le_refl _) (.cells #[.int .u64 0, .string ⟨#[]⟩, .int .i64 0] 82)
  have hh0 := heap_newC w (.cells #[.int .u64 0, .string ⟨#[]⟩, .int .i64 0] 82)
  have hcw := Lh.cut_word 32 s
  have HE0 : Hid (EC a w) := he
  clear he
  go_enter Tryz.func212, Tryz.ntmps212
  go_wp2_with fail
  generalize w.alloc (.cells #[.int .u64 0, .string ⟨#[]⟩, .int .i64 0] 82) = w0 at *
  have HE : Hid (EC a w0) := HE0.out.later hb0
  have HRB : Hid (∀ W', Below w0.heap.size w0 W' → W'.heap[w.heap.size]? = some (.cells #[.int .u64 0, .string ⟨#[]⟩, .int .i64 0] 82)) := fun W' h => (h.block _ (block_lt hh0)).trans hh0
  clear HE0 hh0
  refine (split_any s 32 (by omega) w0 HE.out).mono ?_
  rintro r w1 ⟨rfl, hb1, hlt, hcell⟩
  by_cases h3 : (Lh.cutL 32 s).length = 3
  · obtain ⟨x, y, z, e3⟩ := len3 h3
    rw [e3] at hcell
    have c0 : w1.cell? ⟨w0.heap.size, 0, none⟩ = some (.string (Lh.bt x)) := hcell 0 (by simp)
    have c1 : w1.cell? ⟨w0.heap.size, 1, none⟩ = some (.string (Lh.bt y)) := hcell 1 (by simp)
    have c2 : w1.cell? ⟨w0.heap.size, 2, none⟩ = some (.string (Lh.bt z)) := hcell 2 (by simp)
    have hlx : x.length ≤ 30000 := Nat.le_trans (hcw x (by rw [e3]; simp)) hs
    have hlz : z.length ≤ 30000 := Nat.le_trans (hcw z (by rw [e3]; simp)) hs
    have HE3 : Hid (Lh.cutL 32 s = [x, y, z]) := e3
    rw [h3]
    clear hcell hcw h3 e3
    by_cases hy : y = []
    · have hyb : (Lh.bt y).toList.isEmpty = true := Lh.bt_void hy
      have HY : Hid (y = []) := hy
      clear hy
      obtain ⟨r0, r1, r2, f0, f1, f2⟩ := resF (k := 0) (HRB.out _ hb1)
      dsimp only
      go_wp2
      exact bodyPost_ret (v := .tuple #[.agg #[.int .u64 ((0 : Nat) : Int), .string ⟨#[]⟩, .int .i64 0], .bool false]) (by simp [results, Tryz.results212, go_sem, r0, r1, r2]) rfl ⟨((((below_then hb0 hb1).setCell (p := ⟨w.heap.size, 0, none⟩) (Nat.le_refl _) _).setCell (p := ⟨w.heap.size, 1, none⟩) (Nat.le_refl _) _).setCell (p := ⟨w.heap.size, 2, none⟩) (Nat.le_refl _) _), Or.inr ⟨Lh.line_word HE3.out (Or.inl HY.out), (0, ⟨#[]⟩, 0), rfl⟩⟩
    · have hyb : (Lh.bt y).toList.isEmpty = false := Lh.bt_some hy
      have HY : Hid (y ≠ []) := hy
      clear hy
      have hd1 := readHex_any x (by omega) 16 (by decide) (by decide) w1 (HE.out.later hb1)
      dsimp only
      go_wp2_with fail
      refine hd1.mono ?_
      rintro r w2 ⟨hb2, hc1⟩
      have c1' := below_cell hb2 c1
      have c2' := below_cell hb2 c2
      have hd2 := readDec_any z (by omega) w2 (HE.out.later (below_then hb1 hb2))
      have hb12 := below_then hb1 hb2
      clear hd1 c0 c1 c2 hb1
      obtain ⟨k, b1, rfl⟩ : ∃ (k : Nat) (b1 : Bool), r = .returned (.tuple #[.int .u64 (k : Nat), .bool b1]) := by
        rcases hc1 with ⟨n, _, _, _, rfl⟩ | ⟨_, n, _, rfl⟩
        · exact ⟨_, _, rfl⟩
        · exact ⟨_, _, rfl⟩
      have HC1 : Hid _ := hc1
      clear hc1
      dsimp only
      go_wp2_with fail
      refine hd2.mono ?_
      rintro r w3 ⟨hb3, hc2⟩
      have c1 := below_cell hb3 c1'
      obtain ⟨u, b2, rfl⟩ : ∃ u b2, r = .returned (.tuple #[.int .i64 u, .bool b2]) := by
        rcases hc2 with ⟨n, _, rfl⟩ | ⟨_, x, rfl⟩
        · exact ⟨_, _, rfl⟩
        · exact ⟨_, _, rfl⟩
      have hb13 := below_then hb12 hb3
      have HLV : Hid ((b1 && b2) = true → ∃ m : Nat, u = (m : Int) ∧ Lh.lineV s = some (k, Lh.bt y, u)) := by
        have key : (b1 && b2) = true → ∃ m : Nat, u = (m : Int) ∧ Lh.lineV s = some (k, Lh.bt y, u) := by
          intro hbb
          rcases HC1.out with ⟨n, h1, h2, _, e1⟩ | ⟨_, n, _, e1⟩
          · rcases hc2 with ⟨m, h3, e2⟩ | ⟨_, x', e2⟩
            · simp only [Ending.returned.injEq, Value.tuple.injEq, Array.mk.injEq, List.cons.injEq, Value.int.injEq, true_and, Value.bool.injEq, and_true, Int.natCast_inj] at e1 e2
              obtain ⟨rfl, _⟩ := e1
              obtain ⟨rfl, _⟩ := e2
              exact ⟨m, rfl, Lh.line_some HE3.out HY.out h1 h2 h3⟩
            · simp only [Ending.returned.injEq, Value.tuple.injEq, Array.mk.injEq, List.cons.injEq, Value.int.injEq, true_and, Value.bool.injEq, and_true] at e2
              rw [e2.2] at hbb
              simp at hbb
          · simp only [Ending.returned.injEq, Value.tuple.injEq, Array.mk.injEq, List.cons.injEq, Value.int.injEq, true_and, Value.bool.injEq, and_true] at e1
            rw [e1.2] at hbb
            simp at hbb
        exact key
      have HLN : Hid ((b1 && b2) = false → Lh.lineV s = none) := by
        have key : (b1 && b2) = false → Lh.lineV s = none := by
          intro hbb
          rcases HC1.out with ⟨n, h1, h2, _, e1⟩ | ⟨h1, n, _, e1⟩
          · rcases hc2 with ⟨m, h3, e2⟩ | ⟨h3, x', e2⟩
            · simp only [Ending.returned.injEq, Value.tuple.injEq, Array.mk.injEq, List.cons.injEq, Value.int.injEq, true_and, Value.bool.injEq, and_true] at e1 e2
              rw [e1.2, e2.2] at hbb
              simp at hbb
            · exact Lh.line_num HE3.out (Or.inr h3)
          · rcases h1 with h1 | h1
            · exact Lh.line_word HE3.out (Or.inr h1)
            · exact Lh.line_num HE3.out (Or.inl h1)
        exact key
      clear hd2 hb12 hb3 hb2 hc2 c1' c2' HC1
      obtain ⟨r0, r1, r2, f0, f1, f2⟩ := resF (k := 0) (HRB.out _ hb13)
      cases b1 <;> cases b2
      all_goals
        dsimp only
        go_wp2_with fail
      · exact bodyPost_ret (v := .tuple #[.agg #[.int .u64 (k : Nat), .string (Lh.bt y), .int .i64 u], .bool false]) (by simp [results, Tryz.results212, go_sem, r0, r1, r2]) rfl ⟨((((below_then hb0 hb13).setCell (p := ⟨w.heap.size, 0, none⟩) (Nat.le_refl _) _).setCell (p := ⟨w.heap.size, 1, none⟩) (Nat.le_refl _) _).setCell (p := ⟨w.heap.size, 2, none⟩) (Nat.le_refl _) _), Or.inr ⟨HLN.out rfl, (k, Lh.bt y, u), rfl⟩⟩
      · exact bodyPost_ret (v := .tuple #[.agg #[.int .u64 (k : Nat), .string (Lh.bt y), .int .i64 u], .bool false]) (by simp [results, Tryz.results212, go_sem, r0, r1, r2]) rfl ⟨((((below_then hb0 hb13).setCell (p := ⟨w.heap.size, 0, none⟩) (Nat.le_refl _) _).setCell (p := ⟨w.heap.size, 1, none⟩) (Nat.le_refl _) _).setCell (p := ⟨w.heap.size, 2, none⟩) (Nat.le_refl _) _), Or.inr ⟨HLN.out rfl, (k, Lh.bt y, u), rfl⟩⟩
      · exact bodyPost_ret (v := .tuple #[.agg #[.int .u64 (k : Nat), .string (Lh.bt y), .int .i64 u], .bool false]) (by simp [results, Tryz.results212, go_sem, r0, r1, r2]) rfl ⟨((((below_then hb0 hb13).setCell (p := ⟨w.heap.size, 0, none⟩) (Nat.le_refl _) _).setCell (p := ⟨w.heap.size, 1, none⟩) (Nat.le_refl _) _).setCell (p := ⟨w.heap.size, 2, none⟩) (Nat.le_refl _) _), Or.inr ⟨HLN.out rfl, (k, Lh.bt y, u), rfl⟩⟩
      · obtain ⟨m, _, hlv⟩ := HLV.out rfl
        exact bodyPost_ret (v := .tuple #[.agg #[.int .u64 (k : Nat), .string (Lh.bt y), .int .i64 u], .bool true]) (by simp [results, Tryz.results212, go_sem, r0, r1, r2]) rfl ⟨((((below_then hb0 hb13).setCell (p := ⟨w.heap.size, 0, none⟩) (Nat.le_refl _) _).setCell (p := ⟨w.heap.size, 1, none⟩) (Nat.le_refl _) _).setCell (p := ⟨w.heap.size, 2, none⟩) (Nat.le_refl _) _), Or.inl ⟨(k, Lh.bt y, u), hlv, rfl⟩⟩
  · have HL : Hid ((Lh.cutL 32 s).length ≠ 3) := h3
    have h3i : ¬ ((Lh.cutL 32 s).length : Int) = 3 := by omega
    clear hcell h3 hcw
    obtain ⟨r0, r1, r2, f0, f1, f2⟩ := resF (k := 0) (HRB.out _ hb1)
    dsimp only
    go_wp2
    exact bodyPost_ret (v := .tuple #[.agg #[.int .u64 ((0 : Nat) : Int), .string ⟨#[]⟩, .int .i64 0], .bool false]) (by simp [results, Tryz.results212, go_sem, r0, r1, r2]) rfl ⟨((((below_then hb0 hb1).setCell (p := ⟨w.heap.size, 0, none⟩) (Nat.le_refl _) _).setCell (p := ⟨w.heap.size, 1, none⟩) (Nat.le_refl _) _).setCell (p := ⟨w.heap.size, 2, none⟩) (Nat.le_refl _) _), Or.inr ⟨Lh.line_len HL.out, (0, ⟨#[]⟩, 0), rfl⟩⟩
end Go.Proofs.YtmdckddenelneaaGreatDoor
