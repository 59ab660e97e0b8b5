/- The reference's SomeFault. -/
import Derived.Test.YtepclafmkhphbabDoorFew
namespace Go.Proofs.YtepclafmkhphbabDoor
open Go.RowKit

set_option maxHeartbeats 1000000 in
theorem someF_none (p : Option Addr) (c : Nat) (w : World) :
    Calls Tryd.prog 52 #[.slice p 0 c] w fun e w' => e = .returned (.agg #[.int .i64 5, .int .i64 (-1)]) ∧ Below w.heap.size w w' := by
  have hbW := (Below.refl w.heap.size w).alloc (Nat.le_refl _) (.cells #[.int .i64 0, .int .i64 0] 46)
  go_enter Tryd.func52, Tryd.ntmps52
  go_wp2_with fail
  refine (bare_any _ _).mono ?_
  rintro e w1 ⟨rfl, hb1⟩
  have c0 : w1.cell? ⟨w.heap.size, 0, none⟩ = some (.int .i64 0) := below_cell hb1 (by simp)
  have c1 : w1.cell? ⟨w.heap.size, 1, none⟩ = some (.int .i64 0) := below_cell hb1 (by simp)
  have f0 : w1.frozen? ⟨w.heap.size, 0, none⟩ = false := by rw [hb1.frozen (by simp)]; simp
  have f1 : w1.frozen? ⟨w.heap.size, 1, none⟩ = false := by rw [hb1.frozen (by simp)]; simp
  have hbz : Below w.heap.size w w1 := hbW.trans (hb1.mono (by simp))
  clear hb1 hbW
  go_wp2
  exact bodyPost_ret (v := .agg #[.int .i64 5, .int .i64 (-1)]) (by simp [results, Tryd.results52, go_sem, c0, c1]) rfl ⟨rfl, (hbz.setCell (Nat.le_refl _) _).setCell (Nat.le_refl _) _⟩

set_option maxHeartbeats 1000000 in
theorem someF_some (v : Value) (xs : List ByteArray) (w : World) (c : Nat) (pl : Int) (hv : Strs1 w v xs) (h0 : 0 < xs.length) (hf : IsFault xs c pl) (hs : ∀ k (h : k < xs.length), (xs[k]).size ≤ 1000000) (hm : xs.length < 1000000) :
    Calls Tryd.prog 52 #[v] w fun e w' => e = .returned (.agg #[.int .i64 c, .int .i64 pl]) ∧ Below w.heap.size w w' := by
  have hbW := (Below.refl w.heap.size w).alloc (Nat.le_refl _) (.cells #[.int .i64 0, .int .i64 0] 46)
  have hcall := hfault_any v xs _ c pl (hv.later hbW).strs hf hs hm
  obtain ⟨b, o, cp, rfl, hx⟩ := strsPos hv h0
  have hl0 : ((xs.length : Int) == 0) = false := by rw [beq_eq_false_iff_ne]; omega
  clear hv hx hf hs
  go_enter Tryd.func52, Tryd.ntmps52
  go_wp2_with fail
  refine hcall.mono ?_
  rintro e w1 ⟨rfl, hb1⟩
  have c0 : w1.cell? ⟨w.heap.size, 0, none⟩ = some (.int .i64 0) := below_cell hb1 (by simp)
  have c1 : w1.cell? ⟨w.heap.size, 1, none⟩ = some (.int .i64 0) := below_cell hb1 (by simp)
  have f0 : w1.frozen? ⟨w.heap.size, 0, none⟩ = false := by rw [hb1.frozen (by simp)]; simp
  have f1 : w1.frozen? ⟨w.heap.size, 1, none⟩ = false := by rw [hb1.frozen (by simp)]; simp
  have hbz : Below w.heap.size w w1 := hbW.trans (hb1.mono (by simp))
  clear hb1 hbW hcall
  go_wp2
  exact bodyPost_ret (v := .agg #[.int .i64 c, .int .i64 pl]) (by simp [results, Tryd.results52, go_sem, c0, c1]) rfl ⟨rfl, (hbz.setCell (Nat.le_refl _) _).setCell (Nat.le_refl _) _⟩
theorem someF_any (v : Value) (xs : List ByteArray) (w : World) (c : Nat) (pl : Int) (hv : Strs1 w v xs) (hf : (xs = [] ∧ c = 5 ∧ pl = -1) ∨ (0 < xs.length ∧ IsFault xs c pl)) (hs : ∀ k (h : k < xs.length), (xs[k]).size ≤ 1000000) (hm : xs.length < 1000000) :
    Calls Tryd.prog 52 #[v] w fun e w' => e = .returned (.agg #[.int .i64 c, .int .i64 pl]) ∧ Below w.heap.size w w' := by
  rcases hf with ⟨rfl, rfl, rfl⟩ | ⟨h0, hf⟩
  · obtain ⟨p, cp, rfl⟩ := hv.strs.slice
    exact someF_none p cp w
  · exact someF_some v xs w c pl hv h0 hf hs hm

end Go.Proofs.YtepclafmkhphbabDoor
