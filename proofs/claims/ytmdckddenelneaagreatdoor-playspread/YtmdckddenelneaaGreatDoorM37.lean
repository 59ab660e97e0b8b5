/- The landed readHead, readFlow, cutSum. -/
import Derived.Test.YtmdckddenelneaaGreatDoorM35
import Derived.Test.YtmdckddenelneaaGreatDoorM36
import Derived.Test.YtmdckddenelneaaGreatDoorM26
namespace Go.Proofs.YtmdckddenelneaaGreatDoor
open Go.RowKit
set_option maxRecDepth 100000 in
set_option maxHeartbeats 2000000 in
/-- readHead -/
theorem readHead_any {a : Nat → Addr} (s : List UInt8) (hs : s.length ≤ 30000) (w : World) (he : EC a w) :
    Calls Tryz.prog 211 #[.string (Lh.bt s)] w fun e w' => Below w.heap.size w w' ∧
      ((∃ m n : Nat, Lh.firstL s = some (m, n) ∧ e = .returned (.tuple #[.int .i64 (m : Nat), .int .i64 (n : Nat), .bool true])) ∨ (Lh.firstL s = none ∧ ∃ x y, e = .returned (.tuple #[.int .i64 x, .int .i64 y, .bool false]))) := by
  have hsp := split_any s 32 (by omega) w he
  have hcl := Lh.cut_len 32 s
  have hcw := Lh.cut_word 32 s
  have HE : Hid (EC a w) := he
  clear he
  go_enter Tryz.func211, Tryz.ntmps211
  go_wp2_with fail
  refine hsp.mono ?_
  rintro r w1 ⟨rfl, hb1, hlt, hcell⟩
  clear hsp
  by_cases h3 : (Lh.cutL 32 s).length = 3
  · obtain ⟨x, y, z, e3⟩ := len3 h3
    rw [e3] at hcell
    have c0 : w1.cell? ⟨w.heap.size, 0, none⟩ = some (.string (Lh.bt x)) := hcell 0 (by simp)
    have c1 : w1.cell? ⟨w.heap.size, 1, none⟩ = some (.string (Lh.bt y)) := hcell 1 (by simp)
    have c2 : w1.cell? ⟨w.heap.size, 2, none⟩ = some (.string (Lh.bt z)) := hcell 2 (by simp)
    have hly : y.length ≤ 30000 := Nat.le_trans (hcw y (by rw [e3]; simp)) hs
    have hlz : z.length ≤ 30000 := Nat.le_trans (hcw z (by rw [e3]; simp)) hs
    have HE3 : Hid (Lh.cutL 32 s = [x, y, z]) := e3
    rw [h3]
    clear hcell hcw hcl h3 e3
    by_cases hx : x = Lh.flowsW
    · have hxb : ((Lh.bt x).toList == [102, 108, 111, 119, 115]) = true := Lh.bt_is hx
      have HX : Hid (x = Lh.flowsW) := hx
      have hd1 := readDec_any y (by omega) w1 (HE.out.later hb1)
      clear hx
      dsimp only
      go_wp2_with fail
      refine hd1.mono ?_
      rintro r w2 ⟨hb2, hc1⟩
      have c2' := below_cell hb2 c2
      have hd2 := readDec_any z (by omega) w2 (HE.out.later (below_then hb1 hb2))
      have hb12 := below_then hb1 hb2
      clear hd1 c0 c1 c2 hb1
      rcases hc1 with ⟨m, hm, rfl⟩ | ⟨hm, x1, rfl⟩
      · have HM : Hid (Lh.numL y = some m) := hm
        clear hm
        dsimp only
        go_wp2_with fail
        refine hd2.mono ?_
        rintro r w3 ⟨hb3, hc2⟩
        have hb13 := below_then hb12 hb3
        clear hd2 hb12 hb3 hb2
        rcases hc2 with ⟨n, hn, rfl⟩ | ⟨hn, x2, rfl⟩
        · have HN : Hid (Lh.numL z = some n) := hn
          clear hn
          dsimp only
          go_wp2
          go_ret3
          exact ⟨hb13, Or.inl ⟨m, n, Lh.first_some HE3.out HX.out HM.out HN.out, rfl⟩⟩
        · have HN : Hid (Lh.numL z = none) := hn
          clear hn
          dsimp only
          go_wp2
          go_ret3
          exact ⟨hb13, Or.inr ⟨Lh.first_num HE3.out (Or.inr HN.out), _, _, rfl⟩⟩
      · have HM : Hid (Lh.numL y = none) := hm
        clear hm
        dsimp only
        go_wp2_with fail
        refine hd2.mono ?_
        rintro r w3 ⟨hb3, hc2⟩
        have hb13 := below_then hb12 hb3
        obtain ⟨x2, b2, rfl⟩ : ∃ x2 b2, r = .returned (.tuple #[.int .i64 x2, .bool b2]) := by
          rcases hc2 with ⟨n, hn, rfl⟩ | ⟨hn, x2, rfl⟩
          · exact ⟨_, _, rfl⟩
          · exact ⟨_, _, rfl⟩
        clear hd2 hb12 hb3 hb2 hc2
        dsimp only
        go_wp2
        go_ret3
        exact ⟨hb13, Or.inr ⟨Lh.first_num HE3.out (Or.inl HM.out), _, _, rfl⟩⟩
    · have hxb : ((Lh.bt x).toList == [102, 108, 111, 119, 115]) = false := Lh.bt_not hx
      have HX : Hid (x ≠ Lh.flowsW) := hx
      clear hx
      dsimp only
      go_wp2
      go_ret3
      exact ⟨hb1, Or.inr ⟨Lh.first_word HE3.out HX.out, _, _, rfl⟩⟩
  · have HL : Hid ((Lh.cutL 32 s).length ≠ 3) := h3
    have h3i : ¬ ((Lh.cutL 32 s).length : Int) = 3 := by omega
    clear hcell h3 hcw
    dsimp only
    go_wp2
    go_ret3
    exact ⟨hb1, Or.inr ⟨Lh.first_len HL.out, _, _, rfl⟩⟩
end Go.Proofs.YtmdckddenelneaaGreatDoor

/- The landed readFlow and cutSum. -/
namespace Go.Proofs.YtmdckddenelneaaGreatDoor
open Go.RowKit
theorem resF {W : World} {b : Nat} {k : Nat} {s : ByteArray} {u : Int} (h : W.heap[b]? = some (.cells #[.int .u64 (k : Nat), .string s, .int .i64 u] 82)) : W.cell? ⟨b, 0, none⟩ = some (.int .u64 (k : Nat)) ∧ W.cell? ⟨b, 1, none⟩ = some (.string s) ∧ W.cell? ⟨b, 2, none⟩ = some (.int .i64 u) ∧ W.frozen? ⟨b, 0, none⟩ = false ∧ W.frozen? ⟨b, 1, none⟩ = false ∧ W.frozen? ⟨b, 2, none⟩ = false :=
  ⟨by rw [Lib.cell_of_heap h]; rfl, by rw [Lib.cell_of_heap h]; rfl, by rw [Lib.cell_of_heap h]; rfl, Lib.frozen_of_heap h _, Lib.frozen_of_heap h _, Lib.frozen_of_heap h _⟩
set_option maxRecDepth 100000 in
set_option maxHeartbeats 2000000 in
/-- readFlow -/
theorem readFlow_any {a : Nat → Addr} (s : List UInt8) (hs : s.length ≤ 30000) (w : World) (he : EC a w) :
    Calls Tryz.prog 212 #[.string (Lh.bt s)] w fun e w' => Below w.heap.size w w' ∧
      ((∃ x, Lh.lineV s = some x ∧ e = .returned (.tuple #[flV x, .bool true])) ∨ (Lh.lineV s = none ∧ ∃ x, e = .returned (.tuple #[flV x, .bool false]))) := by
  have hb0 := (Below.refl w.heap.size w).alloc (Nat.le_refl _) (.cells #[.int .u64 0, .string ⟨#[]⟩, .int .i64 0] 82)
  have hh0 := heap_newC w (.cells #[.int .u64 0, .string ⟨#[]⟩, .int .i64 0] 82)
  have hcw := Lh.cut_word 32 s
  have HE0 : Hid (EC a w) := he
  clear he
  go_enter Tryz.func212, Tryz.ntmps212
  go_wp2_with fail
  generalize w.alloc (.cells #[.int .u64 0, .string ⟨#[]⟩, .int .i64 0] 82) = w0 at *
  have HE : Hid (EC a w0) := HE0.out.later hb0
  have HRB : Hid (∀ W', Below w0.heap.size w0 W' → W'.heap[w.heap.size]? = some (.cells #[.int .u64 0, .string ⟨#[]⟩, .int .i64 0] 82)) := fun W' h => (h.block _ (block_lt hh0)).trans hh0
  clear HE0 hh0
  refine (split_any s 32 (by omega) w0 HE.out).mono ?_
  rintro r w1 ⟨rfl, hb1, hlt, hcell⟩
  by_cases h3 : (Lh.cutL 32 s).length = 3
  · obtain ⟨x, y, z, e3⟩ := len3 h3
    rw [e3] at hcell
    have c0 : w1.cell? ⟨w0.heap.size, 0, none⟩ = some (.string (Lh.bt x)) := hcell 0 (by simp)
    have c1 : w1.cell? ⟨w0.heap.size, 1, none⟩ = some (.string (Lh.bt y)) := hcell 1 (by simp)
    have c2 : w1.cell? ⟨w0.heap.size, 2, none⟩ = some (.string (Lh.bt z)) := hcell 2 (by simp)
    have hlx : x.length ≤ 30000 := Nat.le_trans (hcw x (by rw [e3]; simp)) hs
    have hlz : z.length ≤ 30000 := Nat.le_trans (hcw z (by rw [e3]; simp)) hs
    have HE3 : Hid (Lh.cutL 32 s = [x, y, z]) := e3
    rw [h3]
    clear hcell hcw h3 e3
    by_cases hy : y = []
    · have hyb : (Lh.bt y).toList.isEmpty = true := Lh.bt_void hy
      have HY : Hid (y = []) := hy
      clear hy
      obtain ⟨r0, r1, r2, f0, f1, f2⟩ := resF (k := 0) (HRB.out _ hb1)
      dsimp only
      go_wp2
      exact bodyPost_ret (v := .tuple #[.agg #[.int .u64 ((0 : Nat) : Int), .string ⟨#[]⟩, .int .i64 0], .bool false]) (by simp [results, Tryz.results212, go_sem, r0, r1, r2]) rfl ⟨((((below_then hb0 hb1).setCell (p := ⟨w.heap.size, 0, none⟩) (Nat.le_refl _) _).setCell (p := ⟨w.heap.size, 1, none⟩) (Nat.le_refl _) _).setCell (p := ⟨w.heap.size, 2, none⟩) (Nat.le_refl _) _), Or.inr ⟨Lh.line_word HE3.out (Or.inl HY.out), (0, ⟨#[]⟩, 0), rfl⟩⟩
    · have hyb : (Lh.bt y).toList.isEmpty = false := Lh.bt_some hy
      have HY : Hid (y ≠ []) := hy
      clear hy
      have hd1 := readHex_any x (by omega) 16 (by decide) (by decide) w1 (HE.out.later hb1)
      dsimp only
      go_wp2_with fail
      refine hd1.mono ?_
      rintro r w2 ⟨hb2, hc1⟩
      have c1' := below_cell hb2 c1
      have c2' := below_cell hb2 c2
      have hd2 := readDec_any z (by omega) w2 (HE.out.later (below_then hb1 hb2))
      have hb12 := below_then hb1 hb2
      clear hd1 c0 c1 c2 hb1
      obtain ⟨k, b1, rfl⟩ : ∃ (k : Nat) (b1 : Bool), r = .returned (.tuple #[.int .u64 (k : Nat), .bool b1]) := by
        rcases hc1 with ⟨n, _, _, _, rfl⟩ | ⟨_, n, _, rfl⟩
        · exact ⟨_, _, rfl⟩
        · exact ⟨_, _, rfl⟩
      have HC1 : Hid _ := hc1
      clear hc1
      dsimp only
      go_wp2_with fail
      refine hd2.mono ?_
      rintro r w3 ⟨hb3, hc2⟩
      have c1 := below_cell hb3 c1'
      obtain ⟨u, b2, rfl⟩ : ∃ u b2, r = .returned (.tuple #[.int .i64 u, .bool b2]) := by
        rcases hc2 with ⟨n, _, rfl⟩ | ⟨_, x, rfl⟩
        · exact ⟨_, _, rfl⟩
        · exact ⟨_, _, rfl⟩
      have hb13 := below_then hb12 hb3
      have HLV : Hid ((b1 && b2) = true → ∃ m : Nat, u = (m : Int) ∧ Lh.lineV s = some (k, Lh.bt y, u)) := by
        have key : (b1 && b2) = true → ∃ m : Nat, u = (m : Int) ∧ Lh.lineV s = some (k, Lh.bt y, u) := by
          intro hbb
          rcases HC1.out with ⟨n, h1, h2, _, e1⟩ | ⟨_, n, _, e1⟩
          · rcases hc2 with ⟨m, h3, e2⟩ | ⟨_, x', e2⟩
            · simp only [Ending.returned.injEq, Value.tuple.injEq, Array.mk.injEq, List.cons.injEq, Value.int.injEq, true_and, Value.bool.injEq, and_true, Int.natCast_inj] at e1 e2
              obtain ⟨rfl, _⟩ := e1
              obtain ⟨rfl, _⟩ := e2
              exact ⟨m, rfl, Lh.line_some HE3.out HY.out h1 h2 h3⟩
            · simp only [Ending.returned.injEq, Value.tuple.injEq, Array.mk.injEq, List.cons.injEq, Value.int.injEq, true_and, Value.bool.injEq, and_true] at e2
              rw [e2.2] at hbb
              simp at hbb
          · simp only [Ending.returned.injEq, Value.tuple.injEq, Array.mk.injEq, List.cons.injEq, Value.int.injEq, true_and, Value.bool.injEq, and_true] at e1
            rw [e1.2] at hbb
            simp at hbb
        exact key
      have HLN : Hid ((b1 && b2) = false → Lh.lineV s = none) := by
        have key : (b1 && b2) = false → Lh.lineV s = none := by
          intro hbb
          rcases HC1.out with ⟨n, h1, h2, _, e1⟩ | ⟨h1, n, _, e1⟩
          · rcases hc2 with ⟨m, h3, e2⟩ | ⟨h3, x', e2⟩
            · simp only [Ending.returned.injEq, Value.tuple.injEq, Array.mk.injEq, List.cons.injEq, Value.int.injEq, true_and, Value.bool.injEq, and_true] at e1 e2
              rw [e1.2, e2.2] at hbb
              simp at hbb
            · exact Lh.line_num HE3.out (Or.inr h3)
          · rcases h1 with h1 | h1
            · exact Lh.line_word HE3.out (Or.inr h1)
            · exact Lh.line_num HE3.out (Or.inl h1)
        exact key
      clear hd2 hb12 hb3 hb2 hc2 c1' c2' HC1
      obtain ⟨r0, r1, r2, f0, f1, f2⟩ := resF (k := 0) (HRB.out _ hb13)
      cases b1 <;> cases b2
      all_goals
        dsimp only
        go_wp2_with fail
      · exact bodyPost_ret (v := .tuple #[.agg #[.int .u64 (k : Nat), .string (Lh.bt y), .int .i64 u], .bool false]) (by simp [results, Tryz.results212, go_sem, r0, r1, r2]) rfl ⟨((((below_then hb0 hb13).setCell (p := ⟨w.heap.size, 0, none⟩) (Nat.le_refl _) _).setCell (p := ⟨w.heap.size, 1, none⟩) (Nat.le_refl _) _).setCell (p := ⟨w.heap.size, 2, none⟩) (Nat.le_refl _) _), Or.inr ⟨HLN.out rfl, (k, Lh.bt y, u), rfl⟩⟩
      · exact bodyPost_ret (v := .tuple #[.agg #[.int .u64 (k : Nat), .string (Lh.bt y), .int .i64 u], .bool false]) (by simp [results, Tryz.results212, go_sem, r0, r1, r2]) rfl ⟨((((below_then hb0 hb13).setCell (p := ⟨w.heap.size, 0, none⟩) (Nat.le_refl _) _).setCell (p := ⟨w.heap.size, 1, none⟩) (Nat.le_refl _) _).setCell (p := ⟨w.heap.size, 2, none⟩) (Nat.le_refl _) _), Or.inr ⟨HLN.out rfl, (k, Lh.bt y, u), rfl⟩⟩
      · exact bodyPost_ret (v := .tuple #[.agg #[.int .u64 (k : Nat), .string (Lh.bt y), .int .i64 u], .bool false]) (by simp [results, Tryz.results212, go_sem, r0, r1, r2]) rfl ⟨((((below_then hb0 hb13).setCell (p := ⟨w.heap.size, 0, none⟩) (Nat.le_refl _) _).setCell (p := ⟨w.heap.size, 1, none⟩) (Nat.le_refl _) _).setCell (p := ⟨w.heap.size, 2, none⟩) (Nat.le_refl _) _), Or.inr ⟨HLN.out rfl, (k, Lh.bt y, u), rfl⟩⟩
      · obtain ⟨m, _, hlv⟩ := HLV.out rfl
        exact bodyPost_ret (v := .tuple #[.agg #[.int .u64 (k : Nat), .string (Lh.bt y), .int .i64 u], .bool true]) (by simp [results, Tryz.results212, go_sem, r0, r1, r2]) rfl ⟨((((below_then hb0 hb13).setCell (p := ⟨w.heap.size, 0, none⟩) (Nat.le_refl _) _).setCell (p := ⟨w.heap.size, 1, none⟩) (Nat.le_refl _) _).setCell (p := ⟨w.heap.size, 2, none⟩) (Nat.le_refl _) _), Or.inl ⟨(k, Lh.bt y, u), hlv, rfl⟩⟩
  · have HL : Hid ((Lh.cutL 32 s).length ≠ 3) := h3
    have h3i : ¬ ((Lh.cutL 32 s).length : Int) = 3 := by omega
    clear hcell h3 hcw
    obtain ⟨r0, r1, r2, f0, f1, f2⟩ := resF (k := 0) (HRB.out _ hb1)
    dsimp only
    go_wp2
    exact bodyPost_ret (v := .tuple #[.agg #[.int .u64 ((0 : Nat) : Int), .string ⟨#[]⟩, .int .i64 0], .bool false]) (by simp [results, Tryz.results212, go_sem, r0, r1, r2]) rfl ⟨((((below_then hb0 hb1).setCell (p := ⟨w.heap.size, 0, none⟩) (Nat.le_refl _) _).setCell (p := ⟨w.heap.size, 1, none⟩) (Nat.le_refl _) _).setCell (p := ⟨w.heap.size, 2, none⟩) (Nat.le_refl _) _), Or.inr ⟨Lh.line_len HL.out, (0, ⟨#[]⟩, 0), rfl⟩⟩
end Go.Proofs.YtmdckddenelneaaGreatDoor

/- The landed cutSum. -/
namespace Go.Proofs.YtmdckddenelneaaGreatDoor
open Go.RowKit
namespace Lh
/-- the end of a text that has a sum's line -/
theorem sum_tail {s b d : List UInt8} (h : s = b ++ sumD d ++ [10]) (hd : d.length = 8) : 13 ≤ s.length ∧ s.drop (s.length - 13) = sumW ++ [32] ++ d ++ [10] ∧ s.take (s.length - 13) = b := by
  have hl : s.length = b.length + 13 := by rw [h]; simp [sumD, sumW, hd]
  have e : s = b ++ (sumW ++ [32] ++ d ++ [10]) := by rw [h]; simp [sumD]
  refine ⟨by omega, ?_, ?_⟩
  · rw [show s.length - 13 = b.length by omega, e, List.drop_left]
  · rw [show s.length - 13 = b.length by omega, e, List.take_left]
theorem pre_sum (d : List UInt8) : ([115, 117, 109, 32] : List UInt8).isPrefixOf (sumW ++ [32] ++ d ++ [10]) = true := by
  simp [sumW, List.isPrefixOf]
theorem sum_head {s : List UInt8} (hp : ([115, 117, 109, 32] : List UInt8).isPrefixOf s = true) : s = sumW ++ [32] ++ s.drop 4 := by
  obtain ⟨t, ht⟩ := List.isPrefixOf_iff_prefix.1 hp
  rw [← ht]
  rfl
theorem suf_line {s : List UInt8} (hp : ([10] : List UInt8).isSuffixOf s = true) : s = s.take (s.length - 1) ++ [10] := by
  obtain ⟨t, ht⟩ := List.isSuffixOf_iff_suffix.1 hp
  rw [← ht]
  simp
end Lh
set_option maxRecDepth 100000 in
set_option maxHeartbeats 2000000 in
/-- cutSum -/
theorem cutSum_any {a : Nat → Addr} (s : List UInt8) (hs : s.length ≤ 30000) (w : World) (he : EC a w) :
    Calls Tryz.prog 188 #[.string (Lh.bt s)] w fun e w' => Below w.heap.size w w' ∧
      ((∃ b d k, s = b ++ Lh.sumD d ++ [10] ∧ d.length = 8 ∧ Lh.hexV d = some k ∧ k < 2 ^ 32 ∧ e = .returned (.tuple #[.string (Lh.bt b), .int .u32 (k : Nat), .bool true])) ∨
       ((∀ b d, s = b ++ Lh.sumD d ++ [10] → d.length = 8 → Lh.hexV d = none) ∧ ∃ x y, e = .returned (.tuple #[.string x, .int .u32 y, .bool false]))) := by
  have hsz := Lh.bt_size s
  have HE : Hid (EC a w) := he
  clear he
  by_cases h13 : s.length < 13
  · have HN : Hid (∀ b d, s = b ++ Lh.sumD d ++ [10] → d.length = 8 → Lh.hexV d = none) := fun b d h hd => by
      have := (Lh.sum_tail h hd).1
      omega
    have hlt : (s.length : Int) - 13 < 0 := by omega
    go_enter Tryz.func188, Tryz.ntmps188
    go_wp2
    go_ret3
    exact ⟨Below.refl _ _, Or.inr ⟨HN.out, _, _, rfl⟩⟩
  · obtain ⟨m, hm⟩ : ∃ m, s.length = m + 13 := ⟨s.length - 13, by omega⟩
    have hsub : (s.length : Int) - 13 = (m : Nat) := by omega
    have hle : (m : Int) ≤ (s.length : Int) := by omega
    have hex1 : (Lh.bt s).extract m (m + 13) = Lh.bt (s.drop m) := by
      rw [Lh.bt_extract, List.take_of_length_le (by rw [List.length_drop]; omega)]
    have hex2 : (Lh.bt s).extract 0 m = Lh.bt (s.take m) := by
      rw [Lh.bt_extract]
      simp
    have hdl : (s.drop m).length = 13 := by rw [List.length_drop]; omega
    have HT : Hid (∀ b d, s = b ++ Lh.sumD d ++ [10] → d.length = 8 → s.drop m = Lh.sumW ++ [32] ++ d ++ [10]) := fun b d h hd => by
      have := (Lh.sum_tail h hd).2.1
      rw [show s.length - 13 = m by omega] at this
      exact this
    have hcp := cutPre_any (s.drop m) [115, 117, 109, 32] w
    cases hp : ([115, 117, 109, 32] : List UInt8).isPrefixOf (s.drop m) with
    | false =>
      have HN : Hid (∀ b d, s = b ++ Lh.sumD d ++ [10] → d.length = 8 → Lh.hexV d = none) := fun b d h hd => by
        have := HT.out b d h hd
        rw [this, Lh.pre_sum] at hp
        cases hp
      rw [hp] at hcp
      simp only [Bool.false_eq_true, if_false] at hcp
      clear hp HT
      go_enter Tryz.func188, Tryz.ntmps188
      go_wp2_with fail
      refine hcp.mono ?_
      rintro r w1 ⟨rfl, rfl⟩
      clear hcp
      dsimp only
      go_wp2
      go_ret3
      exact ⟨Below.refl _ _, Or.inr ⟨HN.out, _, _, rfl⟩⟩
    | true =>
      have hh := Lh.sum_head hp
      obtain ⟨t, ht⟩ : ∃ t, (s.drop m).drop 4 = t := ⟨_, rfl⟩
      have htl : t.length = 9 := by rw [← ht, List.length_drop]; omega
      rw [hp] at hcp
      simp only [if_true, List.length_cons, List.length_nil, Nat.zero_add, Nat.reduceAdd, ht] at hcp
      rw [ht] at hh
      have hcs := cutSuf_any t [10] (by omega) w
      cases hq : ([10] : List UInt8).isSuffixOf t with
      | false =>
        have HN : Hid (∀ b d, s = b ++ Lh.sumD d ++ [10] → d.length = 8 → Lh.hexV d = none) := fun b d h hd => by
          have h1 := HT.out b d h hd
          rw [h1] at ht
          have h2 : t = d ++ [10] := by rw [← ht]; rfl
          rw [h2] at hq
          have h3 : ([10] : List UInt8).isSuffixOf (d ++ [10]) = true := List.isSuffixOf_iff_suffix.2 ⟨d, rfl⟩
          rw [h3] at hq
          cases hq
        rw [hq] at hcs
        simp only [Bool.false_eq_true, if_false] at hcs
        clear hp hq HT hh ht
        go_enter Tryz.func188, Tryz.ntmps188
        go_wp2_with fail
        refine hcp.mono ?_
        rintro r w1 ⟨rfl, rfl⟩
        clear hcp
        dsimp only
        go_wp2_with fail
        refine hcs.mono ?_
        rintro r w2 ⟨rfl, rfl⟩
        clear hcs
        dsimp only
        go_wp2
        go_ret3
        exact ⟨Below.refl _ _, Or.inr ⟨HN.out, _, _, rfl⟩⟩
      | true =>
        have hg := Lh.suf_line hq
        obtain ⟨d, hd⟩ : ∃ d, t.take (t.length - 1) = d := ⟨_, rfl⟩
        have hdl8 : d.length = 8 := by rw [← hd, List.length_take]; omega
        rw [hq] at hcs
        simp only [if_true, List.length_cons, List.length_nil, Nat.zero_add, hd] at hcs
        rw [hd] at hg
        have HS : Hid (s = s.take m ++ Lh.sumD d ++ [10]) := by
          have e1 : s = s.take m ++ Lh.sumD d ++ [10] := by
            conv => lhs; rw [← List.take_append_drop m s, hh, hg]
            simp [Lh.sumD]
          exact e1
        have HU : Hid (∀ b d', s = b ++ Lh.sumD d' ++ [10] → d'.length = 8 → d' = d) := fun b d' h h8 => by
          rw [HS.out] at h
          exact (Lh.sum_one hdl8 h8 h).2.symm
        have hrh := readHex_any d (by omega) 8 (by decide) (by decide) w HE.out
        clear hp hq HT hh ht hg hd
        go_enter Tryz.func188, Tryz.ntmps188
        go_wp2_with fail
        refine hcp.mono ?_
        rintro r w1 ⟨rfl, rfl⟩
        clear hcp
        dsimp only
        go_wp2_with fail
        refine hcs.mono ?_
        rintro r w2 ⟨rfl, rfl⟩
        clear hcs
        dsimp only
        go_wp2_with fail
        refine hrh.mono ?_
        rintro r w3 ⟨hb3, ⟨k, h1, h2, h3, rfl⟩ | ⟨h1, k, h2, rfl⟩⟩
        · have HK : Hid (Lh.hexV d = some k ∧ k < 2 ^ 32) := ⟨h2, by have : (16 : Nat) ^ 8 = 2 ^ 32 := by decide
                                                                     omega⟩
          have hw32 : IntKind.u32.wrap (k : Int) = (k : Int) := by
            rw [IntKind.wrap_u32]
            have : (16 : Nat) ^ 8 = 4294967296 := by decide
            omega
          clear hrh h1 h2 h3
          dsimp only
          go_wp2
          go_ret3
          exact ⟨hb3, Or.inl ⟨s.take m, d, k, HS.out, hdl8, HK.out.1, HK.out.2, rfl⟩⟩
        · have HN : Hid (∀ b d, s = b ++ Lh.sumD d ++ [10] → d.length = 8 → Lh.hexV d = none) := fun b d' h h8 => by
            rw [HU.out b d' h h8]
            rcases h1 with h1 | h1
            · exact absurd hdl8 h1
            · exact h1
          clear hrh h1 h2
          dsimp only
          go_wp2
          go_ret3
          exact ⟨hb3, Or.inr ⟨HN.out, _, _, rfl⟩⟩
end Go.Proofs.YtmdckddenelneaaGreatDoor

/- The landed readBody. -/
namespace Go.Proofs.YtmdckddenelneaaGreatDoor
open Go.RowKit
namespace Lh
theorem lineV_all {w : List UInt8} {x : Fl} (h : lineV w = some x) : x.1 < 18446744073709551616 ∧ x.2.1.size ≤ w.length ∧ 0 ≤ x.2.2 ∧ x.2.2 < 100000000000000 := by
  have hk := lineV_key h
  have hi := lineV_inv h
  refine ⟨hk.1, ?_, hk.2, ?_⟩
  · have := congrArg List.length hi
    simp only [lineF, joinL, List.length_append, List.length_cons] at this
    have e : x.2.1.data.toList.length = x.2.1.size := rfl
    omega
  · unfold lineV at h
    split at h
    · split at h
      · cases h
      · split at h
        · rename_i k u _ hu
          cases h
          have := (atoi_num hu).2.2.2
          show (u : Int) < _
          omega
        · cases h
    · cases h
theorem rowsL_all : ∀ {ws : List (List UInt8)} {L : List Fl}, rowsL ws = some L → (∀ w ∈ ws, w.length ≤ 30000) → ∀ x ∈ L, x.1 < 18446744073709551616 ∧ x.2.1.size ≤ 1000000 ∧ -9223372036854775808 ≤ x.2.2 ∧ x.2.2 ≤ 9223372036854775807
  | [], L, h, _, x, hx => by
    cases h
    cases hx
  | w :: ws, L, h, hw, x, hx => by
    unfold rowsL at h
    split at h
    · rename_i y l h1 h2
      cases h
      rcases List.mem_cons.1 hx with rfl | hx
      · obtain ⟨a1, a2, a3, a4⟩ := lineV_all h1
        have := hw w (by simp)
        exact ⟨a1, by omega, by omega, by omega⟩
      · exact rowsL_all h2 (fun v hv => hw v (by simp [hv])) x hx
    · cases h
end Lh
/-- a row of flows of the callee's own making -/
theorem new_of_owns {w : World} {base : Nat} {v : Value} {l : List Lh.Fl} (h : w.ownsRow base 82 3 v l.length (flatF l)) : FlowsNew base w v l := by
  rcases h with ⟨hl, ⟨rfl, h0⟩ | ⟨g, cap, cur, rfl, h2, h3, h4, h5, h6, h7⟩⟩
  · exact Or.inl ⟨List.eq_nil_of_length_eq_zero h0, Or.inl rfl⟩
  · have hown : w.ownsRow base 82 3 (.slice (some ⟨g, 0, none⟩) l.length cap) l.length (flatF l) := ⟨hl, Or.inr ⟨g, cap, cur, rfl, h2, h3, h4, h5, h6, h7⟩⟩
    refine Or.inr ⟨g, cap, rfl, h4, h2, fun i hi => ?_, fun k _ => by simp [World.frozen?, h3]⟩
    obtain ⟨g0, g1, g2⟩ := flatF_get l i hi
    exact ⟨frow_cells hown _ _ g0, frow_cells hown _ _ g1, frow_cells hown _ _ g2⟩
/-- what readBody asks of the lines -/
def BadB (ls : List (List UInt8)) : Prop := Lh.firstL (ls.getD 0 []) = none ∨ Lh.rowsL (ls.drop 1) = none ∨ ∃ m n, Lh.firstL (ls.getD 0 []) = some (m, n) ∧ n + 1 ≠ ls.length
set_option maxRecDepth 100000 in
set_option maxHeartbeats 2000000 in
/-- readBody -/
theorem readBody_any {a : Nat → Addr} (b : List UInt8) (hb : b.length ≤ 20000) (w : World) (he : EC a w) :
    Calls Tryz.prog 189 #[.string (Lh.bt b)] w fun e w' => Below w.heap.size w w' ∧
      ((∃ t m n L v, b = t ++ [10] ∧ Lh.firstL ((Lh.cutL 10 t).getD 0 []) = some (m, n) ∧ n + 1 = (Lh.cutL 10 t).length ∧ Lh.rowsL ((Lh.cutL 10 t).drop 1) = some L ∧ FlowsNew w.heap.size w' v L ∧ e = .returned (.tuple #[.int .i64 (m : Nat), v, .bool true])) ∨
       ((∀ t, b = t ++ [10] → BadB (Lh.cutL 10 t)) ∧ e = .returned (.tuple #[.int .i64 0, .slice none 0 0, .bool false]))) := by
  obtain ⟨iF, hiF, hz0, hz1, hz2⟩ := info_parts infoFl
  have HE : Hid (EC a w) := he
  clear he
  have hcs := cutSuf_any b [10] (by omega) w
  cases hq : ([10] : List UInt8).isSuffixOf b with
  | false =>
    have HN : Hid (∀ t, b = t ++ [10] → BadB (Lh.cutL 10 t)) := fun t ht => by
      have h3 : ([10] : List UInt8).isSuffixOf (t ++ [10]) = true := List.isSuffixOf_iff_suffix.2 ⟨t, rfl⟩
      rw [ht, h3] at hq
      cases hq
    rw [hq] at hcs
    simp only [Bool.false_eq_true, if_false] at hcs
    clear hq hiF hz0 hz1 hz2
    go_enter Tryz.func189, Tryz.ntmps189
    go_wp2_with fail
    refine hcs.mono ?_
    rintro r w1 ⟨rfl, rfl⟩
    clear hcs
    dsimp only
    go_wp2
    go_ret3
    exact ⟨Below.refl _ _, Or.inr ⟨HN.out, rfl⟩⟩
  | true =>
    have hg := Lh.suf_line hq
    obtain ⟨t, ht⟩ : ∃ t, b.take (b.length - 1) = t := ⟨_, rfl⟩
    rw [hq] at hcs
    simp only [if_true, List.length_cons, List.length_nil, Nat.zero_add, ht] at hcs
    rw [ht] at hg
    have htl : t.length ≤ 20000 := by rw [← ht, List.length_take]; omega
    have HB : Hid (b = t ++ [10]) := hg
    have HU : Hid (BadB (Lh.cutL 10 t) → ∀ t', b = t' ++ [10] → BadB (Lh.cutL 10 t')) := fun hbad t' h' => by
      rw [HB.out] at h'
      rw [← List.append_cancel_right h']
      exact hbad
    clear hq hg ht
    have hsp := split_any t 10 (by omega) w HE.out
    have HCW : Hid (∀ v ∈ Lh.cutL 10 t, v.length ≤ 30000) := fun v hv => Nat.le_trans (Lh.cut_word 10 t v hv) (by omega)
    have hcl := Lh.cut_len 10 t
    have hcp := Lh.cut_pos 10 t
    obtain ⟨ls, hls⟩ : ∃ ls, Lh.cutL 10 t = ls := ⟨_, rfl⟩
    rw [hls] at hsp HCW hcl hcp HU
    have HLS : Hid (Lh.cutL 10 t = ls) := hls
    clear hls
    obtain ⟨l0, lr, rfl⟩ : ∃ l0 lr, ls = l0 :: lr := by
      match ls, hcp with
      | l0 :: lr, _ => exact ⟨l0, lr, rfl⟩
    simp only [List.length_cons] at hsp hcl hcp
    go_enter Tryz.func189, Tryz.ntmps189
    go_wp2_with fail
    refine hcs.mono ?_
    rintro r wz ⟨rfl, rfl⟩
    clear hcs
    dsimp only
    go_wp2_with fail
    refine hsp.mono ?_
    rintro r w1 ⟨rfl, hb1, hlt, hcell⟩
    clear hsp
    dsimp only
    have c0 : w1.cell? ⟨wz.heap.size, 0, none⟩ = some (.string (Lh.bt l0)) := hcell 0 (by simp)
    have HCE : Hid (∀ j (hj : j < lr.length), w1.cell? ⟨wz.heap.size, 1 + j, none⟩ = some (.string (Lh.bt lr[j]))) := fun j hj => by
      have := hcell (j + 1) (by simp; omega)
      rw [Nat.add_comm 1 j]
      exact this
    have hrh := readHead_any l0 (HCW.out l0 (by simp)) w1 (HE.out.later hb1)
    clear hcell
    go_wp2_with fail
    refine hrh.mono ?_
    rintro r w2 ⟨hb2, hcase⟩
    have hb12 := below_then hb1 hb2
    clear hrh c0
    rcases hcase with ⟨m, n, hf, rfl⟩ | ⟨hf, x, y, rfl⟩
    case inr =>
      have HN : Hid (∀ t, b = t ++ [10] → BadB (Lh.cutL 10 t)) := HU.out (Or.inl hf)
      clear hf
      dsimp only
      go_wp2
      go_ret3
      exact ⟨hb12, Or.inr ⟨HN.out, rfl⟩⟩
    have HF : Hid (Lh.firstL l0 = some (m, n)) := hf
    clear hf
    by_cases hn : n = lr.length
    case neg =>
      have HN : Hid (∀ t, b = t ++ [10] → BadB (Lh.cutL 10 t)) := HU.out (Or.inr (Or.inr ⟨m, n, HF.out, by simp; omega⟩))
      have hni : ¬ (n : Int) = (lr.length : Int) := by omega
      dsimp only
      go_wp2
      go_ret3
      exact ⟨hb12, Or.inr ⟨HN.out, rfl⟩⟩
    subst hn
    have HKC : Hid (∀ W' j (hj : j < lr.length), Below w2.heap.size w2 W' → W'.cell? ⟨wz.heap.size, 1 + j, none⟩ = some (.string (Lh.bt lr[j]))) := fun W' j hj h => below_cell (below_then hb2 h) (HCE.out j hj)
    have HE2 : Hid (EC a w2) := HE.out.later hb12
    clear HCE hb1 hb2
    rcases Nat.eq_zero_or_pos lr.length with hz | hpos
    · obtain rfl := List.eq_nil_of_length_eq_zero hz
      clear hz HKC hiF hz0 hz1 hz2
      simp only [List.length_nil, Nat.zero_add] at *
      go_wp2_with fail
      go_loopw [2, 3, 41] (fun u2 u3 u41 W' => W' = w2 ∧ u2 = .int .i64 (m : Nat) ∧ u3 = .slice none 0 0 ∧ u41 = .int .i64 0) (fun _ _ u41 _ => 0)
      case atStart => exact ⟨rfl, rfl, rfl, rfl⟩
      case round =>
        obtain ⟨rfl, rfl, rfl, rfl⟩ := hrel
        go_wp2
        go_ret3
        exact ⟨hb12, Or.inl ⟨t, m, 0, [], _, HB.out, by rw [HLS.out]; exact HF.out, by rw [HLS.out]; rfl, by rw [HLS.out]; rfl, Or.inl ⟨rfl, Or.inl rfl⟩, rfl⟩⟩
    · have hnil : ¬ lr = [] := fun e => by rw [e] at hpos; cases hpos
      have hl0 : ¬ lr.length = 0 := by omega
      have hl1 : ¬ lr.length + 1 = 1 := by omega
      dsimp only
      go_wp2_with fail
      go_loopw [2, 3, 41] (fun u2 u3 u41 W' => Below w2.heap.size w2 W' ∧ u2 = .int .i64 (m : Nat) ∧ ∃ (i : Nat) (L : List Lh.Fl), i ≤ lr.length ∧ u41 = .int .i64 (i : Nat) ∧ L.length = i ∧ W'.ownsRow w2.heap.size 82 3 u3 L.length (flatF L) ∧ Lh.rowsL (lr.take i) = some L) (fun _ _ u41 _ => lr.length - (intOf u41).toNat)
      case atStart => exact ⟨Below.refl _ _, rfl, 0, [], Nat.zero_le _, rfl, rfl, World.ownsRow_nil _ _ _ _, rfl⟩
      case round =>
        obtain ⟨hbr, rfl, i, L, hi, rfl, hLi, hown, hrows⟩ := hrel
        have HR : Hid (Lh.rowsL (lr.take i) = some L) := hrows
        clear hrows
        by_cases hil : i < lr.length
        · have hii : (i : Int) < (lr.length : Int) := by omega
          have cl := HKC.out wr i hil hbr
          have hrf := readFlow_any (lr[i]'hil) (HCW.out _ (by simp)) wr (HE2.out.later hbr)
          have HSN : Hid (∀ x, Lh.lineV (lr[i]'hil) = some x → Lh.rowsL (lr.take (i + 1)) = some (L ++ [x])) := fun x hx => by
            rw [List.take_succ_eq_append_getElem hil]
            exact Lh.rows_snoc HR.out hx
          have HSB : Hid (Lh.lineV (lr[i]'hil) = none → ∀ t, b = t ++ [10] → BadB (Lh.cutL 10 t)) := fun hx => HU.out (Or.inr (Or.inl (Lh.rows_bad (List.getElem_mem hil) hx)))
          obtain ⟨ln, hln⟩ : ∃ ln, lr[i]'hil = ln := ⟨_, rfl⟩
          rw [hln] at cl hrf HSN HSB
          clear hln
          go_wp2_with fail
          refine hrf.mono ?_
          rintro r w3 ⟨hb3, hcase⟩
          have hb23 := below_then hbr hb3
          have hown3 := ownsRow_below hown hb3
          clear hrf hown
          rcases hcase with ⟨⟨k, sx, ux⟩, hx, rfl⟩ | ⟨hx, ⟨k, sx, ux⟩, rfl⟩
          · have HS : Hid (Lh.rowsL (lr.take (i + 1)) = some (L ++ [(k, sx, ux)])) := HSN.out _ hx
            clear hx
            unfold flV
            dsimp only
            obtain ⟨w4, hw4⟩ : ∃ w4, w4 = w3.alloc (.cells #[.int .u64 (k : Nat), .string sx, .int .i64 ux] 82) := ⟨_, rfl⟩
            have hs4 : w4.heap.size = w3.heap.size + 1 := by rw [hw4]; simp
            have hown4 := (hown3.alloc (.cells #[.int .u64 (k : Nat), .string sx, .int .i64 ux] 82)).alloc (.cells #[.int .u64 (k : Nat), .string sx, .int .i64 ux] 82)
            have hnews : ∀ j u, (encF (k, sx, ux))[j]? = some u → ((w3.alloc (.cells #[.int .u64 (k : Nat), .string sx, .int .i64 ux] 82)).alloc (.cells #[.int .u64 (k : Nat), .string sx, .int .i64 ux] 82)).cell? ((⟨w3.heap.size + 1, 0, none⟩ : Addr).add j) = some u := by
              have h := cellsX (w := w4) (t := 82) (k, sx, ux)
              rw [hs4, hw4] at h
              exact h
            have hbw4 : Below w2.heap.size w2 ((w3.alloc (.cells #[.int .u64 (k : Nat), .string sx, .int .i64 ux] 82)).alloc (.cells #[.int .u64 (k : Nat), .string sx, .int .i64 ux] 82)) := (hb23.alloc hb23.size _).alloc (hb23.alloc hb23.size _).size _
            have hmax : L.length + 1 ≤ maxLen := by unfold maxLen; omega
            obtain ⟨vo, hvo⟩ : ∃ vo, vo = u3 := ⟨_, rfl⟩
            subst hvo
            clear hown3 hw4 hs4 cl
            go_wp2_with (at_builtin; refine wpList_append_own _ rfl _ _ 48 rfl w2.heap.size 82 iF _ 3 32 Tryz.underlying48 hiF hz0 hz1 hz2 rfl (by decide) vo L.length (flatF L) rfl hown4 ⟨w3.heap.size + 1, 0, none⟩ 1 1 (encF (k, sx, ux)) rfl rfl hnews (encF_one _) hmax (by omega) hbw4.size ?_)
            intro v6 w6 hown6 hg6 _
            have hb6 : Below w2.heap.size w2 w6 := hbw4.grown hg6 hbw4.size (fun k h => (hown4.lt k h).1)
            have HOUT : Hid (w6.ownsRow w2.heap.size 82 3 v6 (L ++ [(k, sx, ux)]).length (flatF (L ++ [(k, sx, ux)]))) := by
              show World.ownsRow _ _ _ _ _ _ _
              have e2 : (L ++ [(k, sx, ux)]).length = i + 1 := by rw [List.length_append, hLi]; rfl
              have e1 : flatF [(k, sx, ux)] = encF (k, sx, ux) := by simp [flatF]
              rw [e2, flatF_append, e1]
              exact hown6
            clear hown4 hnews hbw4 hmax hg6 hown6
            go_wp2
            exact ⟨⟨hb6, rfl, i + 1, L ++ [(k, sx, ux)], by omega, by go_num, by rw [List.length_append]; simp; omega, HOUT.out, HS.out⟩, by simp [intOf]; omega⟩
          · have HN : Hid (∀ t, b = t ++ [10] → BadB (Lh.cutL 10 t)) := HSB.out hx
            clear hx
            unfold flV
            dsimp only
            go_wp2_with fail
            go_ret3
            exact ⟨(below_then hb12 hb23).alloc (below_then hb12 hb23).size _, Or.inr ⟨HN.out, rfl⟩⟩
        · have hii : decide ((i : Int) < (lr.length : Int)) = false := by simp; omega
          have hie : i = lr.length := by omega
          have hro : Lh.rowsL lr = some L := by
            have := HR.out
            rw [hie, List.take_length] at this
            exact this
          have HRO : Hid (Lh.rowsL lr = some L) := hro
          have HFL : Hid (FlowsNew wz.heap.size wr u3 L) := (new_of_owns hown).base hb12.size
          clear hie hro hown
          go_wp2
          go_ret3
          exact ⟨below_then hb12 hbr, Or.inl ⟨t, m, lr.length, L, _, HB.out, by rw [HLS.out]; exact HF.out, by rw [HLS.out]; rfl, by rw [HLS.out]; exact HRO.out, HFL.out, rfl⟩⟩
end Go.Proofs.YtmdckddenelneaaGreatDoor
