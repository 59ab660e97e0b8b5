/- The reference's HealthFault. -/
import Derived.Test.YtkpjecpaejdgaabDoorHA0
namespace Go.Proofs.YtkpjecpaejdgaabDoor
open Go.RowKit

theorem hcells2 {W : World} {b : Nat} {x y x0 y0 : Value} (c0 : W.cell? ⟨b, 0, none⟩ = some x0) (c1 : W.cell? ⟨b, 1, none⟩ = some y0) (q : Obj) :
    (((W.setCell ⟨b, 0, none⟩ x).setCell ⟨b, 1, none⟩ y).alloc q).cell? ⟨b, 0, none⟩ = some x ∧ (((W.setCell ⟨b, 0, none⟩ x).setCell ⟨b, 1, none⟩ y).alloc q).cell? ⟨b, 1, none⟩ = some y := by
  have e0 : ((W.setCell ⟨b, 0, none⟩ x).setCell ⟨b, 1, none⟩ y).cell? ⟨b, 0, none⟩ = some x := by simp [go_sem, c0]
  have e1 : ((W.setCell ⟨b, 0, none⟩ x).setCell ⟨b, 1, none⟩ y).cell? ⟨b, 1, none⟩ = some y := by simp [go_sem, c1]
  exact ⟨below_cell ((Below.refl _ _).alloc (Nat.le_refl _) _) e0, below_cell ((Below.refl _ _).alloc (Nat.le_refl _) _) e1⟩

set_option maxHeartbeats 1000000 in
theorem healthFault_hosts (v : Value) (xs : List ByteArray) (x y : Int) (w : World) (c : Nat) (pl : Int) (hf : IsFault xs c pl) (hc : c ≠ 0) (hv : Strs w v xs) (hs : ∀ k (h : k < xs.length), (xs[k]).size ≤ 1000000) (hm : xs.length < 1000000) :
    Calls Tryd.prog 32 #[v, .int .i64 x, .int .i64 y] w fun e w' => e = .returned (.agg #[.int .i64 c, .int .i64 pl]) ∧ Below w.heap.size w w' := by
  have hz : ((c : Int) == 0) = false := by rw [beq_eq_false_iff_ne]; omega
  clear hc
  have hbW := (Below.refl w.heap.size w).alloc (Nat.le_refl _) (.cells #[.int .i64 0, .int .i64 0] 46)
  have hc2 := hfault_any v xs _ c pl (hv.later hbW) hf hs hm
  clear hv hf hs
  go_enter Tryd.func32, Tryd.ntmps32
  go_wp2_with fail
  refine hc2.mono ?_
  rintro e w1 ⟨rfl, hb1⟩
  have c0 : w1.cell? ⟨w.heap.size, 0, none⟩ = some (.int .i64 0) := below_cell hb1 (by simp)
  have c1 : w1.cell? ⟨w.heap.size, 1, none⟩ = some (.int .i64 0) := below_cell hb1 (by simp)
  have f0 : w1.frozen? ⟨w.heap.size, 0, none⟩ = false := by rw [hb1.frozen (by simp)]; simp
  have f1 : w1.frozen? ⟨w.heap.size, 1, none⟩ = false := by rw [hb1.frozen (by simp)]; simp
  have hsz : w.heap.size < w1.heap.size := by have := hb1.size; simp at this; omega
  have hbz : Below w.heap.size w w1 := hbW.trans (hb1.mono (by simp))
  clear hb1 hbW hc2
  go_wp2
  have hh := hcells2 (x := .int .i64 c) (y := .int .i64 pl) c0 c1 (.cells #[.int .i64 c, .int .i64 pl] 46)
  exact bodyPost_ret (v := .agg #[.int .i64 c, .int .i64 pl]) (by simp [results, Tryd.results32, go_sem, hh.1, hh.2]) rfl ⟨rfl, ((hbz.setCell (Nat.le_refl _) _).setCell (Nat.le_refl _) _).alloc (by have := hbz.size; simpa using this) _⟩

set_option maxHeartbeats 1000000 in
theorem healthFault_none (v : Value) (xs : List ByteArray) (x y : Int) (w : World) (hf : IsFault xs 0 (-1)) (h1 : 1 ≤ x) (h2 : x ≤ 10) (h3 : 1 ≤ y) (h4 : y ≤ 10) (hv : Strs w v xs) (hs : ∀ k (h : k < xs.length), (xs[k]).size ≤ 1000000) (hm : xs.length < 1000000) :
    Calls Tryd.prog 32 #[v, .int .i64 x, .int .i64 y] w fun e w' => e = .returned (.agg #[.int .i64 0, .int .i64 (-1)]) ∧ Below w.heap.size w w' := by
  have q1 : decide (x < 1) = false := by simp; omega
  have q2 : decide (10 < x) = false := by simp; omega
  have q3 : decide (y < 1) = false := by simp; omega
  have q4 : decide (10 < y) = false := by simp; omega
  clear h1 h2 h3 h4
  have hbW := (Below.refl w.heap.size w).alloc (Nat.le_refl _) (.cells #[.int .i64 0, .int .i64 0] 46)
  have hc2 := hfault_any v xs _ 0 (-1) (hv.later hbW) hf hs hm
  clear hv hf hs
  go_enter Tryd.func32, Tryd.ntmps32
  go_wp2_with fail
  refine hc2.mono ?_
  rintro e w1 ⟨rfl, hb1⟩
  have c0 : w1.cell? ⟨w.heap.size, 0, none⟩ = some (.int .i64 0) := below_cell hb1 (by simp)
  have c1 : w1.cell? ⟨w.heap.size, 1, none⟩ = some (.int .i64 0) := below_cell hb1 (by simp)
  have f0 : w1.frozen? ⟨w.heap.size, 0, none⟩ = false := by rw [hb1.frozen (by simp)]; simp
  have f1 : w1.frozen? ⟨w.heap.size, 1, none⟩ = false := by rw [hb1.frozen (by simp)]; simp
  have hsz : w.heap.size < w1.heap.size := by have := hb1.size; simp at this; omega
  have hbz : Below w.heap.size w w1 := hbW.trans (hb1.mono (by simp))
  clear hb1 hbW hc2
  go_wp2
  have hh := hcells2 (x := .int .i64 0) (y := .int .i64 (-1)) c0 c1 (.cells #[.int .i64 0, .int .i64 (-1)] 46)
  exact bodyPost_ret (v := .agg #[.int .i64 0, .int .i64 (-1)]) (by simp [results, Tryd.results32, go_sem, hh.1, hh.2]) rfl ⟨rfl, ((hbz.setCell (Nat.le_refl _) _).setCell (Nat.le_refl _) _).alloc (by have := hbz.size; simpa using this) _⟩

set_option maxHeartbeats 1000000 in
theorem healthFault_x0 (v : Value) (xs : List ByteArray) (x y : Int) (w : World) (hf : IsFault xs 0 (-1)) (h : x < 1) (hv : Strs w v xs) (hs : ∀ k (h : k < xs.length), (xs[k]).size ≤ 1000000) (hm : xs.length < 1000000) :
    Calls Tryd.prog 32 #[v, .int .i64 x, .int .i64 y] w fun e w' => e = .returned (.agg #[.int .i64 2, .int .i64 (-1)]) ∧ Below w.heap.size w w' := by
  have q1 : decide (x < 1) = true := by simpa using h
  clear h
  have hbW := (Below.refl w.heap.size w).alloc (Nat.le_refl _) (.cells #[.int .i64 0, .int .i64 0] 46)
  have hc2 := hfault_any v xs _ 0 (-1) (hv.later hbW) hf hs hm
  clear hv hf hs
  go_enter Tryd.func32, Tryd.ntmps32
  go_wp2_with fail
  refine hc2.mono ?_
  rintro e w1 ⟨rfl, hb1⟩
  have c0 : w1.cell? ⟨w.heap.size, 0, none⟩ = some (.int .i64 0) := below_cell hb1 (by simp)
  have c1 : w1.cell? ⟨w.heap.size, 1, none⟩ = some (.int .i64 0) := below_cell hb1 (by simp)
  have f0 : w1.frozen? ⟨w.heap.size, 0, none⟩ = false := by rw [hb1.frozen (by simp)]; simp
  have f1 : w1.frozen? ⟨w.heap.size, 1, none⟩ = false := by rw [hb1.frozen (by simp)]; simp
  have hsz : w.heap.size < w1.heap.size := by have := hb1.size; simp at this; omega
  have hbz : Below w.heap.size w w1 := hbW.trans (hb1.mono (by simp))
  clear hb1 hbW hc2
  go_wp2_with fail
  refine (bare_any _ _).mono ?_
  rintro e w3 ⟨rfl, hb3⟩
  have d0 : w3.cell? ⟨w.heap.size, 0, none⟩ = some (.int .i64 0) := below_cell hb3 (below_cell ((Below.refl _ _).alloc (Nat.le_refl _) _) c0)
  have d1 : w3.cell? ⟨w.heap.size, 1, none⟩ = some (.int .i64 0) := below_cell hb3 (below_cell ((Below.refl _ _).alloc (Nat.le_refl _) _) c1)
  have g0 : w3.frozen? ⟨w.heap.size, 0, none⟩ = false := by rw [hb3.frozen (by simp; omega), ((Below.refl w1.heap.size w1).alloc (Nat.le_refl _) _).frozen hsz]; exact f0
  have g1 : w3.frozen? ⟨w.heap.size, 1, none⟩ = false := by rw [hb3.frozen (by simp; omega), ((Below.refl w1.heap.size w1).alloc (Nat.le_refl _) _).frozen hsz]; exact f1
  have hby : Below w.heap.size w w3 := (hbz.alloc hbz.size _).trans (hb3.mono (by simp; omega))
  clear hb3 c0 c1 f0 f1
  go_wp2
  exact bodyPost_ret (v := .agg #[.int .i64 2, .int .i64 (-1)]) (by simp [results, Tryd.results32, go_sem, d0, d1]) rfl ⟨rfl, (hby.setCell (Nat.le_refl _) _).setCell (Nat.le_refl _) _⟩

set_option maxHeartbeats 1000000 in
theorem healthFault_x1 (v : Value) (xs : List ByteArray) (x y : Int) (w : World) (hf : IsFault xs 0 (-1)) (g1 : ¬ x < 1) (h : 10 < x) (hv : Strs w v xs) (hs : ∀ k (h : k < xs.length), (xs[k]).size ≤ 1000000) (hm : xs.length < 1000000) :
    Calls Tryd.prog 32 #[v, .int .i64 x, .int .i64 y] w fun e w' => e = .returned (.agg #[.int .i64 2, .int .i64 (-1)]) ∧ Below w.heap.size w w' := by
  have q1 : decide (x < 1) = false := by simpa using g1
  have q2 : decide (10 < x) = true := by simpa using h
  clear g1 h
  have hbW := (Below.refl w.heap.size w).alloc (Nat.le_refl _) (.cells #[.int .i64 0, .int .i64 0] 46)
  have hc2 := hfault_any v xs _ 0 (-1) (hv.later hbW) hf hs hm
  clear hv hf hs
  go_enter Tryd.func32, Tryd.ntmps32
  go_wp2_with fail
  refine hc2.mono ?_
  rintro e w1 ⟨rfl, hb1⟩
  have c0 : w1.cell? ⟨w.heap.size, 0, none⟩ = some (.int .i64 0) := below_cell hb1 (by simp)
  have c1 : w1.cell? ⟨w.heap.size, 1, none⟩ = some (.int .i64 0) := below_cell hb1 (by simp)
  have f0 : w1.frozen? ⟨w.heap.size, 0, none⟩ = false := by rw [hb1.frozen (by simp)]; simp
  have f1 : w1.frozen? ⟨w.heap.size, 1, none⟩ = false := by rw [hb1.frozen (by simp)]; simp
  have hsz : w.heap.size < w1.heap.size := by have := hb1.size; simp at this; omega
  have hbz : Below w.heap.size w w1 := hbW.trans (hb1.mono (by simp))
  clear hb1 hbW hc2
  go_wp2_with fail
  refine (bare_any _ _).mono ?_
  rintro e w3 ⟨rfl, hb3⟩
  have d0 : w3.cell? ⟨w.heap.size, 0, none⟩ = some (.int .i64 0) := below_cell hb3 (below_cell ((Below.refl _ _).alloc (Nat.le_refl _) _) c0)
  have d1 : w3.cell? ⟨w.heap.size, 1, none⟩ = some (.int .i64 0) := below_cell hb3 (below_cell ((Below.refl _ _).alloc (Nat.le_refl _) _) c1)
  have g0 : w3.frozen? ⟨w.heap.size, 0, none⟩ = false := by rw [hb3.frozen (by simp; omega), ((Below.refl w1.heap.size w1).alloc (Nat.le_refl _) _).frozen hsz]; exact f0
  have g1 : w3.frozen? ⟨w.heap.size, 1, none⟩ = false := by rw [hb3.frozen (by simp; omega), ((Below.refl w1.heap.size w1).alloc (Nat.le_refl _) _).frozen hsz]; exact f1
  have hby : Below w.heap.size w w3 := (hbz.alloc hbz.size _).trans (hb3.mono (by simp; omega))
  clear hb3 c0 c1 f0 f1
  go_wp2
  exact bodyPost_ret (v := .agg #[.int .i64 2, .int .i64 (-1)]) (by simp [results, Tryd.results32, go_sem, d0, d1]) rfl ⟨rfl, (hby.setCell (Nat.le_refl _) _).setCell (Nat.le_refl _) _⟩

set_option maxHeartbeats 1000000 in
theorem healthFault_y0 (v : Value) (xs : List ByteArray) (x y : Int) (w : World) (hf : IsFault xs 0 (-1)) (g1 : ¬ x < 1) (g2 : ¬ 10 < x) (h : y < 1) (hv : Strs w v xs) (hs : ∀ k (h : k < xs.length), (xs[k]).size ≤ 1000000) (hm : xs.length < 1000000) :
    Calls Tryd.prog 32 #[v, .int .i64 x, .int .i64 y] w fun e w' => e = .returned (.agg #[.int .i64 2, .int .i64 (-1)]) ∧ Below w.heap.size w w' := by
  have q1 : decide (x < 1) = false := by simpa using g1
  have q2 : decide (10 < x) = false := by simpa using g2
  have q3 : decide (y < 1) = true := by simpa using h
  clear g1 g2 h
  have hbW := (Below.refl w.heap.size w).alloc (Nat.le_refl _) (.cells #[.int .i64 0, .int .i64 0] 46)
  have hc2 := hfault_any v xs _ 0 (-1) (hv.later hbW) hf hs hm
  clear hv hf hs
  go_enter Tryd.func32, Tryd.ntmps32
  go_wp2_with fail
  refine hc2.mono ?_
  rintro e w1 ⟨rfl, hb1⟩
  have c0 : w1.cell? ⟨w.heap.size, 0, none⟩ = some (.int .i64 0) := below_cell hb1 (by simp)
  have c1 : w1.cell? ⟨w.heap.size, 1, none⟩ = some (.int .i64 0) := below_cell hb1 (by simp)
  have f0 : w1.frozen? ⟨w.heap.size, 0, none⟩ = false := by rw [hb1.frozen (by simp)]; simp
  have f1 : w1.frozen? ⟨w.heap.size, 1, none⟩ = false := by rw [hb1.frozen (by simp)]; simp
  have hsz : w.heap.size < w1.heap.size := by have := hb1.size; simp at this; omega
  have hbz : Below w.heap.size w w1 := hbW.trans (hb1.mono (by simp))
  clear hb1 hbW hc2
  go_wp2_with fail
  refine (bare_any _ _).mono ?_
  rintro e w3 ⟨rfl, hb3⟩
  have d0 : w3.cell? ⟨w.heap.size, 0, none⟩ = some (.int .i64 0) := below_cell hb3 (below_cell ((Below.refl _ _).alloc (Nat.le_refl _) _) c0)
  have d1 : w3.cell? ⟨w.heap.size, 1, none⟩ = some (.int .i64 0) := below_cell hb3 (below_cell ((Below.refl _ _).alloc (Nat.le_refl _) _) c1)
  have g0 : w3.frozen? ⟨w.heap.size, 0, none⟩ = false := by rw [hb3.frozen (by simp; omega), ((Below.refl w1.heap.size w1).alloc (Nat.le_refl _) _).frozen hsz]; exact f0
  have g1 : w3.frozen? ⟨w.heap.size, 1, none⟩ = false := by rw [hb3.frozen (by simp; omega), ((Below.refl w1.heap.size w1).alloc (Nat.le_refl _) _).frozen hsz]; exact f1
  have hby : Below w.heap.size w w3 := (hbz.alloc hbz.size _).trans (hb3.mono (by simp; omega))
  clear hb3 c0 c1 f0 f1
  go_wp2
  exact bodyPost_ret (v := .agg #[.int .i64 2, .int .i64 (-1)]) (by simp [results, Tryd.results32, go_sem, d0, d1]) rfl ⟨rfl, (hby.setCell (Nat.le_refl _) _).setCell (Nat.le_refl _) _⟩

set_option maxHeartbeats 1000000 in
theorem healthFault_y1 (v : Value) (xs : List ByteArray) (x y : Int) (w : World) (hf : IsFault xs 0 (-1)) (g1 : ¬ x < 1) (g2 : ¬ 10 < x) (g3 : ¬ y < 1) (h : 10 < y) (hv : Strs w v xs) (hs : ∀ k (h : k < xs.length), (xs[k]).size ≤ 1000000) (hm : xs.length < 1000000) :
    Calls Tryd.prog 32 #[v, .int .i64 x, .int .i64 y] w fun e w' => e = .returned (.agg #[.int .i64 2, .int .i64 (-1)]) ∧ Below w.heap.size w w' := by
  have q1 : decide (x < 1) = false := by simpa using g1
  have q2 : decide (10 < x) = false := by simpa using g2
  have q3 : decide (y < 1) = false := by simpa using g3
  have q4 : decide (10 < y) = true := by simpa using h
  clear g1 g2 g3 h
  have hbW := (Below.refl w.heap.size w).alloc (Nat.le_refl _) (.cells #[.int .i64 0, .int .i64 0] 46)
  have hc2 := hfault_any v xs _ 0 (-1) (hv.later hbW) hf hs hm
  clear hv hf hs
  go_enter Tryd.func32, Tryd.ntmps32
  go_wp2_with fail
  refine hc2.mono ?_
  rintro e w1 ⟨rfl, hb1⟩
  have c0 : w1.cell? ⟨w.heap.size, 0, none⟩ = some (.int .i64 0) := below_cell hb1 (by simp)
  have c1 : w1.cell? ⟨w.heap.size, 1, none⟩ = some (.int .i64 0) := below_cell hb1 (by simp)
  have f0 : w1.frozen? ⟨w.heap.size, 0, none⟩ = false := by rw [hb1.frozen (by simp)]; simp
  have f1 : w1.frozen? ⟨w.heap.size, 1, none⟩ = false := by rw [hb1.frozen (by simp)]; simp
  have hsz : w.heap.size < w1.heap.size := by have := hb1.size; simp at this; omega
  have hbz : Below w.heap.size w w1 := hbW.trans (hb1.mono (by simp))
  clear hb1 hbW hc2
  go_wp2_with fail
  refine (bare_any _ _).mono ?_
  rintro e w3 ⟨rfl, hb3⟩
  have d0 : w3.cell? ⟨w.heap.size, 0, none⟩ = some (.int .i64 0) := below_cell hb3 (below_cell ((Below.refl _ _).alloc (Nat.le_refl _) _) c0)
  have d1 : w3.cell? ⟨w.heap.size, 1, none⟩ = some (.int .i64 0) := below_cell hb3 (below_cell ((Below.refl _ _).alloc (Nat.le_refl _) _) c1)
  have g0 : w3.frozen? ⟨w.heap.size, 0, none⟩ = false := by rw [hb3.frozen (by simp; omega), ((Below.refl w1.heap.size w1).alloc (Nat.le_refl _) _).frozen hsz]; exact f0
  have g1 : w3.frozen? ⟨w.heap.size, 1, none⟩ = false := by rw [hb3.frozen (by simp; omega), ((Below.refl w1.heap.size w1).alloc (Nat.le_refl _) _).frozen hsz]; exact f1
  have hby : Below w.heap.size w w3 := (hbz.alloc hbz.size _).trans (hb3.mono (by simp; omega))
  clear hb3 c0 c1 f0 f1
  go_wp2
  exact bodyPost_ret (v := .agg #[.int .i64 2, .int .i64 (-1)]) (by simp [results, Tryd.results32, go_sem, d0, d1]) rfl ⟨rfl, (hby.setCell (Nat.le_refl _) _).setCell (Nat.le_refl _) _⟩

/-- HealthFault of any hosts and any edges. -/
theorem healthFault_any (v : Value) (xs : List ByteArray) (x y : Int) (w : World) (c : Nat) (pl : Int) (h : HlAny xs x y c pl) (hv : Strs w v xs) (hs : ∀ k (h : k < xs.length), (xs[k]).size ≤ 1000000) (hm : xs.length < 1000000) :
    Calls Tryd.prog 32 #[v, .int .i64 x, .int .i64 y] w fun e w' => e = .returned (.agg #[.int .i64 (c : Nat), .int .i64 pl]) ∧ Below w.heap.size w w' := by
  rcases h with (⟨hc, hf⟩ | ⟨hf, hr, rfl, rfl⟩) | ⟨hf, h1, h2, h3, h4, rfl, rfl⟩
  · exact healthFault_hosts v xs x y w c pl hf hc hv hs hm
  · by_cases g1 : x < 1
    · exact healthFault_x0 v xs x y w hf g1 hv hs hm
    · by_cases g2 : 10 < x
      · exact healthFault_x1 v xs x y w hf g1 g2 hv hs hm
      · by_cases g3 : y < 1
        · exact healthFault_y0 v xs x y w hf g1 g2 g3 hv hs hm
        · exact healthFault_y1 v xs x y w hf g1 g2 g3 (by omega) hv hs hm
  · exact healthFault_none v xs x y w hf h1 h2 h3 h4 hv hs hm
end Go.Proofs.YtkpjecpaejdgaabDoor
