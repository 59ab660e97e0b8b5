/- A page's line: words, with blanks between them, and a line break. -/
import Derived.Test.YtboigdpcahdidabGreatDoorCbPage
import Derived.Test.YtboigdpcahdidabGreatDoorCbLib
import Derived.Deep.RegionHeld3
namespace Go.Proofs.YtboigdpcahdidabGreatDoor
open Go.RowKit
theorem Pg.later {B b : Nat} {l : List UInt8} {w w' : World} (h : Pg B b l w) (hb : Below w.heap.size w w') : Pg B b l w' := by
  have key : ∀ p, Lib.BuilderAtF 106 5 B b p (Lib.byteCells l) w → Lib.BuilderAtF 106 5 B b p (Lib.byteCells l) w' := by
    rintro p ⟨hB, v, hbk, hown, hne⟩
    refine ⟨hB, v, (hb.block b (block_lt hbk)).trans hbk, ⟨hown.1, ?_⟩, hne⟩
    rcases hown.2 with h1 | ⟨g, cap, cur, fz, hv, hg, hgh, r⟩
    · exact Or.inl h1
    · exact Or.inr ⟨g, cap, cur, fz, hv, hg, (hb.block g (block_lt hgh)).trans hgh, r⟩
  exact h.elim (fun x => Or.inl (key _ x)) (fun x => Or.inr (key _ x))
theorem Pg.base {B b : Nat} {l : List UInt8} {w : World} (h : Pg B b l w) : B ≤ b ∧ b < w.heap.size := by
  rcases h with ⟨hB, v, hbk, _⟩ | ⟨hB, v, hbk, _⟩
  · exact ⟨hB, block_lt hbk⟩
  · exact ⟨hB, block_lt hbk⟩
theorem Pg.made (w : World) : Pg w.heap.size w.heap.size [] (w.alloc (.cells #[.pointer none, .slice none 0 0] 106)) :=
  Or.inl ⟨Nat.le_refl _, .slice none 0 0, heap_newC w _, ⟨rfl, Or.inl ⟨rfl, rfl⟩⟩, by simp [Value.ownBlock]⟩

set_option maxHeartbeats 2000000 in
set_option maxRecDepth 100000 in
theorem line_core (B b : Nat) (l j : List UInt8) (v : Value) (w : World) (h : Pg B b l w) (hBw : B ≤ w.heap.size) (hl : l.length ≤ 100000) (hj : j.length ≤ 100000)
    (hJ : ∀ W, Below w.heap.size w W → Calls Tryz.prog 83 #[v, .string (Lh.bt [32])] W fun e w' => e = .returned (.string (Lh.bt j)) ∧ Below W.heap.size W w') :
    Calls Tryz.prog 55 #[.pointer (some ⟨b, 0, none⟩), v] w fun e w' => e = .returned (.tuple #[]) ∧ Pg B b (l ++ (j ++ [10])) w' ∧ Below B w w' ∧ Lib.OthersKept 5 (some b) w w' := by
  have HJ : Hid (∀ W, Below w.heap.size w W → Calls Tryz.prog 83 #[v, .string (Lh.bt [32])] W fun e w' => e = .returned (.string (Lh.bt j)) ∧ Below w.heap.size w w' ∧ Below B w w') := fun W hW => (hJ W hW).mono fun _ _ ⟨q1, q2⟩ => ⟨q1, below_then hW q2, (below_then hW q2).mono hBw⟩
  have HW : Hid (∀ W, Below w.heap.size w W → Calls Tryz.prog 82 #[.pointer (some ⟨b, 0, none⟩), .string (Lh.bt j)] W fun e w' => e = .returned (.tuple #[.int .i64 (j.length : Nat), .nilIface]) ∧ Pg B b (l ++ j) w' ∧ Below B w w' ∧ Lib.OthersKept 5 (some b) w w') := fun W hW => (pgText B b l j W (h.later hW) (by omega) (Nat.le_trans hBw hW.size)).mono fun _ _ ⟨q1, q2, q3, q4⟩ => ⟨q1, q2, (hW.mono hBw).trans q3, (okept_of hW).trans q4⟩
  clear h hJ
  go_enter Tryz.func55, Tryz.ntmps55
  go_wp2_with fail
  go_region_held3 (fun w' => Below B w w')
    (first | assumption | exact Below.refl _ _ | exact below_drewN (Below.refl _ _) 1)
    (first
      | (go_at_call 83; refine (HJ.out _ (by first | assumption | exact Below.refl _ _ | exact below_drewN (Below.refl _ _) 1)).mono ?_; rintro e w1 ⟨rfl, hb1, hb1'⟩)
      | (go_at_call 82; refine (HW.out _ (by first | assumption | exact Below.refl _ _ | exact below_drewN (Below.refl _ _) 1)).mono ?_; rintro e w2 ⟨rfl, hp2, hb2, hk2⟩))
  all_goals
    have HB := pgByte B b (l ++ j) 10 w2 hp2 (by simp; omega) (Nat.le_trans hBw hb2.size)
    go_wp2_with fail
    refine HB.mono ?_
    rintro e w3 ⟨rfl, hp3, hb3, hk3⟩
    clear HB
    go_wp2
    go_end0
    refine ⟨rfl, by rw [← List.append_assoc]; exact hp3, hb2.trans hb3, hk2.trans hk3⟩
theorem line3_any (B b : Nat) (l x y z : List UInt8) (w : World) (h : Pg B b l w) (hBw : B ≤ w.heap.size) (hl : l.length ≤ 100000) (hj : (Lh.joinL 32 [x, y, z]).length ≤ 100000) :
    Calls Tryz.prog 55 #[.pointer (some ⟨b, 0, none⟩), .slice (some ⟨w.heap.size, 0, none⟩) 3 3] (w.alloc (.cells #[.string (Lh.bt x), .string (Lh.bt y), .string (Lh.bt z)] 9)) fun e w' => e = .returned (.tuple #[]) ∧ Pg B b (l ++ (Lh.joinL 32 [x, y, z] ++ [10])) w' ∧ Below B w w' ∧ Lib.OthersKept 5 (some b) w w' := by
  have hb0 := (Below.refl w.heap.size w).alloc (Nat.le_refl _) (.cells #[.string (Lh.bt x), .string (Lh.bt y), .string (Lh.bt z)] 9)
  refine (line_core B b l (Lh.joinL 32 [x, y, z]) _ _ (h.later hb0) (Nat.le_trans hBw hb0.size) hl hj fun W hW => ?_).mono fun e w' ⟨q1, q2, q3, q4⟩ => ⟨q1, q2, (hb0.mono hBw).trans q3, (okept_of hb0).trans q4⟩
  exact join3_any w.heap.size 3 x y z W (below_cell hW (by simp)) (below_cell hW (by simp)) (below_cell hW (by simp)) (by have := hW.size; simp at this; omega) (Nat.le_refl _) (by omega)
theorem line2_any (B b : Nat) (l x y : List UInt8) (w : World) (h : Pg B b l w) (hBw : B ≤ w.heap.size) (hl : l.length ≤ 100000) (hj : (Lh.joinL 32 [x, y]).length ≤ 100000) :
    Calls Tryz.prog 55 #[.pointer (some ⟨b, 0, none⟩), .slice (some ⟨w.heap.size, 0, none⟩) 2 2] (w.alloc (.cells #[.string (Lh.bt x), .string (Lh.bt y)] 9)) fun e w' => e = .returned (.tuple #[]) ∧ Pg B b (l ++ (Lh.joinL 32 [x, y] ++ [10])) w' ∧ Below B w w' ∧ Lib.OthersKept 5 (some b) w w' := by
  have hb0 := (Below.refl w.heap.size w).alloc (Nat.le_refl _) (.cells #[.string (Lh.bt x), .string (Lh.bt y)] 9)
  refine (line_core B b l (Lh.joinL 32 [x, y]) _ _ (h.later hb0) (Nat.le_trans hBw hb0.size) hl hj fun W hW => ?_).mono fun e w' ⟨q1, q2, q3, q4⟩ => ⟨q1, q2, (hb0.mono hBw).trans q3, (okept_of hb0).trans q4⟩
  exact join2_any w.heap.size 2 x y W (below_cell hW (by simp)) (below_cell hW (by simp)) (by have := hW.size; simp at this; omega) (Nat.le_refl _) (by omega)
end Go.Proofs.YtboigdpcahdidabGreatDoor
