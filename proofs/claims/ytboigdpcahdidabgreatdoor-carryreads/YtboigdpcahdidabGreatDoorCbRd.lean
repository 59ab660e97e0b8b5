/- The landed readHead, readFlow, cutSum. -/
import Derived.Test.YtboigdpcahdidabGreatDoorCbTxt
import Derived.Test.YtboigdpcahdidabGreatDoorCbDec
import Derived.Test.YtboigdpcahdidabGreatDoorCbMath
namespace Go.Proofs.YtboigdpcahdidabGreatDoor
open Go.RowKit
set_option maxRecDepth 100000 in
set_option maxHeartbeats 2000000 in
/-- readHead -/
theorem readHead_any {a : Nat → Addr} (s : List UInt8) (hs : s.length ≤ 30000) (w : World) (he : EC a w) :
    Calls Tryz.prog 92 #[.string (Lh.bt s)] w fun e w' => Below w.heap.size w w' ∧
      ((∃ m n : Nat, Lh.firstL s = some (m, n) ∧ e = .returned (.tuple #[.int .i64 (m : Nat), .int .i64 (n : Nat), .bool true])) ∨ (Lh.firstL s = none ∧ ∃ x y, e = .returned (.tuple #[.int .i64 x, .int .i64 y, .bool false]))) := by
  have hsp := split_any s 32 (by omega) w he
  have hcl := Lh.cut_len 32 s
  have hcw := Lh.cut_word 32 s
  have HE : Hid (EC a w) := he
  clear he
  go_enter Tryz.func92, Tryz.ntmps92
  go_wp2_with fail
  refine hsp.mono ?_
  rintro r w1 ⟨rfl, hb1, hlt, hcell⟩
  clear hsp
  by_cases h3 : (Lh.cutL 32 s).length = 3
  · obtain ⟨x, y, z, e3⟩ := len3 h3
    rw [e3] at hcell
    have c0 : w1.cell? ⟨w.heap.size, 0, none⟩ = some (.string (Lh.bt x)) := hcell 0 (by simp)
    have c1 : w1.cell? ⟨w.heap.size, 1, none⟩ = some (.string (Lh.bt y)) := hcell 1 (by simp)
    have c2 : w1.cell? ⟨w.heap.size, 2, none⟩ = some (.string (Lh.bt z)) := hcell 2 (by simp)
    have hly : y.length ≤ 30000 := Nat.le_trans (hcw y (by rw [e3]; simp)) hs
    have hlz : z.length ≤ 30000 := Nat.le_trans (hcw z (by rw [e3]; simp)) hs
    have HE3 : Hid (Lh.cutL 32 s = [x, y, z]) := e3
    rw [h3]
    clear hcell hcw hcl h3 e3
    by_cases hx : x = Lh.flowsW
    · have hxb : ((Lh.bt x).toList == [102, 108, 111, 119, 115]) = true := Lh.bt_is hx
      have HX : Hid (x = Lh.flowsW) := hx
      have hd1 := readDec_any y (by omega) w1 (HE.out.later hb1)
      clear hx
      dsimp only
      go_wp2_with fail
      refine hd1.mono ?_
      rintro r w2 ⟨hb2, hc1⟩
      have c2' := below_cell hb2 c2
      have hd2 := readDec_any z (by omega) w2 (HE.out.later (below_then hb1 hb2))
      have hb12 := below_then hb1 hb2
      clear hd1 c0 c1 c2 hb1
      rcases hc1 with ⟨m, hm, rfl⟩ | ⟨hm, x1, rfl⟩
      · have HM : Hid (Lh.numL y = some m) := hm
        clear hm
        dsimp only
        go_wp2_with fail
        refine hd2.mono ?_
        rintro r w3 ⟨hb3, hc2⟩
        have hb13 := below_then hb12 hb3
        clear hd2 hb12 hb3 hb2
        rcases hc2 with ⟨n, hn, rfl⟩ | ⟨hn, x2, rfl⟩
        · have HN : Hid (Lh.numL z = some n) := hn
          clear hn
          dsimp only
          go_wp2
          go_ret3
          exact ⟨hb13, Or.inl ⟨m, n, Lh.first_some HE3.out HX.out HM.out HN.out, rfl⟩⟩
        · have HN : Hid (Lh.numL z = none) := hn
          clear hn
          dsimp only
          go_wp2
          go_ret3
          exact ⟨hb13, Or.inr ⟨Lh.first_num HE3.out (Or.inr HN.out), _, _, rfl⟩⟩
      · have HM : Hid (Lh.numL y = none) := hm
        clear hm
        dsimp only
        go_wp2_with fail
        refine hd2.mono ?_
        rintro r w3 ⟨hb3, hc2⟩
        have hb13 := below_then hb12 hb3
        obtain ⟨x2, b2, rfl⟩ : ∃ x2 b2, r = .returned (.tuple #[.int .i64 x2, .bool b2]) := by
          rcases hc2 with ⟨n, hn, rfl⟩ | ⟨hn, x2, rfl⟩
          · exact ⟨_, _, rfl⟩
          · exact ⟨_, _, rfl⟩
        clear hd2 hb12 hb3 hb2 hc2
        dsimp only
        go_wp2
        go_ret3
        exact ⟨hb13, Or.inr ⟨Lh.first_num HE3.out (Or.inl HM.out), _, _, rfl⟩⟩
    · have hxb : ((Lh.bt x).toList == [102, 108, 111, 119, 115]) = false := Lh.bt_not hx
      have HX : Hid (x ≠ Lh.flowsW) := hx
      clear hx
      dsimp only
      go_wp2
      go_ret3
      exact ⟨hb1, Or.inr ⟨Lh.first_word HE3.out HX.out, _, _, rfl⟩⟩
  · have HL : Hid ((Lh.cutL 32 s).length ≠ 3) := h3
    have h3i : ¬ ((Lh.cutL 32 s).length : Int) = 3 := by omega
    clear hcell h3 hcw
    dsimp only
    go_wp2
    go_ret3
    exact ⟨hb1, Or.inr ⟨Lh.first_len HL.out, _, _, rfl⟩⟩
end Go.Proofs.YtboigdpcahdidabGreatDoor
