/- plain.Code: the number and the place of an error. -/
import Derived.Test.YtmdckddenelneaaGreatDoorM1
namespace Go.Proofs.YtmdckddenelneaaGreatDoor
open Go.RowKit Go.Extern.Stop Go.Stop Go.Extern

/-- The package variables that plain.Code reads: the handle of the type error, and nine errors at different places. -/
structure Errs (a : Nat → Addr) (w : World) : Prop where
  handle : w.cell? ⟨9, 0, none⟩ = some (.iface 191 (.agg #[.pointer (some ⟨18, 31, none⟩)]))
  s0 : w.cell? ⟨2, 0, none⟩ = some (.iface 331 (.pointer (some (a 0))))
  s1 : w.cell? ⟨0, 0, none⟩ = some (.iface 331 (.pointer (some (a 1))))
  s2 : w.cell? ⟨3, 0, none⟩ = some (.iface 331 (.pointer (some (a 2))))
  s3 : w.cell? ⟨4, 0, none⟩ = some (.iface 331 (.pointer (some (a 3))))
  s4 : w.cell? ⟨1, 0, none⟩ = some (.iface 331 (.pointer (some (a 4))))
  s5 : w.cell? ⟨5, 0, none⟩ = some (.iface 331 (.pointer (some (a 5))))
  s6 : w.cell? ⟨6, 0, none⟩ = some (.iface 331 (.pointer (some (a 6))))
  s7 : w.cell? ⟨7, 0, none⟩ = some (.iface 331 (.pointer (some (a 7))))
  s8 : w.cell? ⟨8, 0, none⟩ = some (.iface 331 (.pointer (some (a 8))))
  row : ∀ i, i < 9 → ∃ c t, w.heap[(a i).block]? = some (.cells c t (0, 0))
  ne : ∀ i j, i < 9 → j < 9 → i ≠ j → a i ≠ a j

theorem below_cell {w w' : World} (hb : Below w.heap.size w w') {p : Addr} {v : Value} (h : w.cell? p = some v) : w'.cell? p = some v := by
  rw [hb.cell (lt_of_cell h)]; exact h

theorem Errs.later {a : Nat → Addr} {w w' : World} (h : Errs a w) (hb : Below w.heap.size w w') : Errs a w' where
  handle := below_cell hb h.handle
  s0 := below_cell hb h.s0
  s1 := below_cell hb h.s1
  s2 := below_cell hb h.s2
  s3 := below_cell hb h.s3
  s4 := below_cell hb h.s4
  s5 := below_cell hb h.s5
  s6 := below_cell hb h.s6
  s7 := below_cell hb h.s7
  s8 := below_cell hb h.s8
  row := fun i hi => by
    obtain ⟨c, t, hc⟩ := h.row i hi
    have hl : (a i).block < w.heap.size := by
      rcases Nat.lt_or_ge (a i).block w.heap.size with h' | h'
      · exact h'
      · rw [Array.getElem?_eq_none h'] at hc; cases hc
    exact ⟨c, t, by rw [hb.block _ hl]; exact hc⟩
  ne := h.ne

/-- the number of the i-th error; of another one -1 -/
def codeNum (i : Nat) : Int := if i < 9 then (i : Int) + 1 else -1
theorem codeNum_lt {i : Nat} (h : i < 9) : codeNum i = (i : Int) + 1 := if_pos h
theorem codeNum_ge {i : Nat} (h : ¬ i < 9) : codeNum i = -1 := if_neg h
theorem ret2 {a b c d : Int} (h1 : a = b) (h2 : c = d) : Ending.returned (.tuple #[.int .i64 a, .int .i64 c]) = .returned (.tuple #[.int .i64 b, .int .i64 d]) := by rw [h1, h2]

set_option maxHeartbeats 2000000 in
theorem code_core (a : Nat → Addr) (errT : TypeId) (errP : Value) (i : Nat) (pl : Int) (p : Addr) (w : World) (he : Errs a w)
    (hAs : Calls Tryz.prog 48 #[.iface errT errP, .iface 106 (.pointer (some ⟨w.heap.size, 0, none⟩))] (w.alloc (.cells #[.pointer none] 104)) fun ev w' => ev = .returned (.bool true) ∧ Below w.heap.size w w' ∧ w'.cell? ⟨w.heap.size, 0, none⟩ = some (.pointer (some p)) ∧ w.heap.size < w'.heap.size)
    (hat : w.cell? p = some (.int .i64 pl))
    (hIs : ∀ k, k < 9 → ∀ W, Below w.heap.size w W → Calls Tryz.prog 49 #[.iface errT errP, .iface 331 (.pointer (some (a k)))] W fun e w' => e = .returned (.bool (decide (k = i))) ∧ w' = W) :
    Calls Tryz.prog 32 #[.iface errT errP] w fun e w' => e = .returned (.tuple #[.int .i64 (codeNum i), .int .i64 pl]) ∧ Below w.heap.size w w' := by
  have HIs : Hid _ := hIs
  clear hIs
  go_enter Tryz.func32, Tryz.ntmps32
  go_wp2_with fail
  refine hAs.mono ?_
  rintro e w1 ⟨rfl, hb1, hc1, hz1⟩
  have hat1 := below_cell hb1 hat
  obtain ⟨hh, s0, s1, s2, s3, s4, s5, s6, s7, s8, hrow, hne⟩ := he.later hb1
  clear hh hrow hne hAs he hat
  go_wp2_with fail
  obtain ⟨W2, hW2⟩ : ∃ W2, W2 = w1.alloc (.cells #[.iface 331 (.pointer (some (a 0))), .iface 331 (.pointer (some (a 1))), .iface 331 (.pointer (some (a 2))), .iface 331 (.pointer (some (a 3))), .iface 331 (.pointer (some (a 4))), .iface 331 (.pointer (some (a 5))), .iface 331 (.pointer (some (a 6))), .iface 331 (.pointer (some (a 7))), .iface 331 (.pointer (some (a 8)))] 31) := ⟨_, rfl⟩
  rw [← hW2]
  have hwc : ∀ k, k < 9 → W2.cell? ⟨w1.heap.size, k, none⟩ = some (.iface 331 (.pointer (some (a k)))) := by
    intro k hk
    rw [hW2, World.cell?_alloc_at _ _ _ _ rfl]
    match k, hk with
    | 0, _ => rfl
    | 1, _ => rfl
    | 2, _ => rfl
    | 3, _ => rfl
    | 4, _ => rfl
    | 5, _ => rfl
    | 6, _ => rfl
    | 7, _ => rfl
    | 8, _ => rfl
  have hb2 : Below w.heap.size w W2 := by rw [hW2]; exact hb1.alloc (Nat.le_of_lt hz1) _
  clear hW2 s0 s1 s2 s3 s4 s5 s6 s7 s8 hat1 hc1
  have HC : Hid _ := hwc
  clear hwc
  go_loopw [3, 27] (fun t3 t W => W = W2 ∧ t3 = .int .i64 pl ∧ ∃ k : Nat, k ≤ 9 ∧ k ≤ i ∧ t = .int .i64 k) (fun _ t _ => 9 - (intOf t).toNat)
  case atStart => exact ⟨rfl, rfl, 0, by omega, by omega, rfl⟩
  case round =>
    obtain ⟨rfl, rfl, k, hk, hki, rfl⟩ := hrel
    by_cases hk9 : k < 9
    · have hck := HC.out k hk9
      go_wp2_with fail
      refine (HIs.out k hk9 _ hb2).mono ?_
      rintro e w' ⟨rfl, rfl⟩
      by_cases hki2 : k = i
      · have hdec : decide (k = i) = true := by simpa using hki2
        have HK : Hid (k = i) := hki2
        clear hki2
        rw [hdec]
        go_wp2
        go_ret2
        exact ⟨ret2 (by rw [codeNum_lt (by have := HK.out; omega), ← HK.out]) rfl, hb2⟩
      · have hdec : decide (k = i) = false := by simpa using hki2
        rw [hdec]
        go_wp2
        go_roundw
        case rel => exact ⟨by trivial, by trivial, k + 1, by omega, by omega, by go_num⟩
        case measure => simp [intOf]; omega
    · go_wp2
      go_ret2
      exact ⟨ret2 (codeNum_ge (by omega)).symm rfl, hb2⟩
set_option maxHeartbeats 2000000 in
theorem code_bare (a : Nat → Addr) (errT : TypeId) (errP : Value) (i : Nat) (w : World) (he : Errs a w)
    (hAs : Calls Tryz.prog 48 #[.iface errT errP, .iface 106 (.pointer (some ⟨w.heap.size, 0, none⟩))] (w.alloc (.cells #[.pointer none] 104)) fun ev w' => ev = .returned (.bool false) ∧ Below w.heap.size w w' ∧ w.heap.size < w'.heap.size)
    (hIs : ∀ k, k < 9 → ∀ W, Below w.heap.size w W → Calls Tryz.prog 49 #[.iface errT errP, .iface 331 (.pointer (some (a k)))] W fun e w' => e = .returned (.bool (decide (k = i))) ∧ w' = W) :
    Calls Tryz.prog 32 #[.iface errT errP] w fun e w' => e = .returned (.tuple #[.int .i64 (codeNum i), .int .i64 (-1)]) ∧ Below w.heap.size w w' := by
  have HIs : Hid _ := hIs
  clear hIs
  go_enter Tryz.func32, Tryz.ntmps32
  go_wp2_with fail
  refine hAs.mono ?_
  rintro e w1 ⟨rfl, hb1, hz1⟩
  obtain ⟨hh, s0, s1, s2, s3, s4, s5, s6, s7, s8, hrow, hne⟩ := he.later hb1
  clear hh hrow hne hAs he
  go_wp2_with fail
  obtain ⟨W2, hW2⟩ : ∃ W2, W2 = w1.alloc (.cells #[.iface 331 (.pointer (some (a 0))), .iface 331 (.pointer (some (a 1))), .iface 331 (.pointer (some (a 2))), .iface 331 (.pointer (some (a 3))), .iface 331 (.pointer (some (a 4))), .iface 331 (.pointer (some (a 5))), .iface 331 (.pointer (some (a 6))), .iface 331 (.pointer (some (a 7))), .iface 331 (.pointer (some (a 8)))] 31) := ⟨_, rfl⟩
  rw [← hW2]
  have hwc : ∀ k, k < 9 → W2.cell? ⟨w1.heap.size, k, none⟩ = some (.iface 331 (.pointer (some (a k)))) := by
    intro k hk
    rw [hW2, World.cell?_alloc_at _ _ _ _ rfl]
    match k, hk with
    | 0, _ => rfl
    | 1, _ => rfl
    | 2, _ => rfl
    | 3, _ => rfl
    | 4, _ => rfl
    | 5, _ => rfl
    | 6, _ => rfl
    | 7, _ => rfl
    | 8, _ => rfl
  have hb2 : Below w.heap.size w W2 := by rw [hW2]; exact hb1.alloc (Nat.le_of_lt hz1) _
  clear hW2 s0 s1 s2 s3 s4 s5 s6 s7 s8
  have HC : Hid _ := hwc
  clear hwc
  go_loopw [3, 27] (fun t3 t W => W = W2 ∧ t3 = .int .i64 (-1) ∧ ∃ k : Nat, k ≤ 9 ∧ k ≤ i ∧ t = .int .i64 k) (fun _ t _ => 9 - (intOf t).toNat)
  case atStart => exact ⟨rfl, rfl, 0, by omega, by omega, rfl⟩
  case round =>
    obtain ⟨rfl, rfl, k, hk, hki, rfl⟩ := hrel
    by_cases hk9 : k < 9
    · have hck := HC.out k hk9
      go_wp2_with fail
      refine (HIs.out k hk9 _ hb2).mono ?_
      rintro e w' ⟨rfl, rfl⟩
      by_cases hki2 : k = i
      · have hdec : decide (k = i) = true := by simpa using hki2
        have HK : Hid (k = i) := hki2
        clear hki2
        rw [hdec]
        go_wp2
        go_ret2
        exact ⟨ret2 (by rw [codeNum_lt (by have := HK.out; omega), ← HK.out]) rfl, hb2⟩
      · have hdec : decide (k = i) = false := by simpa using hki2
        rw [hdec]
        go_wp2
        go_roundw
        case rel => exact ⟨by trivial, by trivial, k + 1, by omega, by omega, by go_num⟩
        case measure => simp [intOf]; omega
    · go_wp2
      go_ret2
      exact ⟨ret2 (codeNum_ge (by omega)).symm rfl, hb2⟩

theorem code_nil (w : World) : Calls Tryz.prog 32 #[.nilIface] w fun e w' => e = .returned (.tuple #[.int .i64 0, .int .i64 (-1)]) ∧ w' = w := by
  go_enter Tryz.func32, Tryz.ntmps32
  go_wp2
  go_ret2
  exact ⟨rfl, rfl⟩

/-- An error of errors.New's make that is the i-th sentinel. -/
theorem code_sent (a : Nat → Addr) (i : Nat) (hi : i < 9) (w : World) (he : Errs a w) :
    Calls Tryz.prog 32 #[.iface 331 (.pointer (some (a i)))] w fun e w' => e = .returned (.tuple #[.int .i64 (codeNum i), .int .i64 (-1)]) ∧ Below w.heap.size w w' := by
  refine code_bare a 331 (.pointer (some (a i))) i w he ?_ ?_
  · refine (as_miss (a i) ⟨w.heap.size, 0, none⟩ (w.alloc (.cells #[.pointer none] 104)) (below_cell ((Below.refl _ _).alloc (Nat.le_refl _) _) he.handle)).mono ?_
    rintro ev w' ⟨rfl, rfl⟩
    exact ⟨rfl, ((((Below.refl _ _).alloc (Nat.le_refl _) _).alloc (by simp) _).alloc (by simp; omega) _).alloc (by simp; omega) _, by simp; omega⟩
  · intro k hk W hb
    have hW := he.later hb
    by_cases h : k = i
    · subst h
      rw [decide_eq_true rfl]
      exact is_same (a k) W
    · rw [decide_eq_false h]
      obtain ⟨c, t, hr⟩ := hW.row i hi
      obtain ⟨c', t', hr'⟩ := hW.row k hk
      exact is_other (a i) (a k) c c' t t' W (hW.ne i k hi hk (fun e => h e.symm)) hr hr'

/-- A Fault that wraps the i-th sentinel. -/
theorem code_fault (a : Nat → Addr) (i : Nat) (hi : i < 9) (pl : Int) (pb : Nat) (w : World) (he : Errs a w) (h0 : w.cell? ⟨pb, 0, none⟩ = some (.int .i64 pl)) (h1 : w.cell? ⟨pb, 1, none⟩ = some (.iface 331 (.pointer (some (a i))))) :
    Calls Tryz.prog 32 #[.iface 104 (.pointer (some ⟨pb, 0, none⟩))] w fun e w' => e = .returned (.tuple #[.int .i64 (codeNum i), .int .i64 pl]) ∧ Below w.heap.size w w' := by
  refine code_core a 104 (.pointer (some ⟨pb, 0, none⟩)) i pl ⟨pb, 0, none⟩ w he ?_ h0 ?_
  · refine (as_hit ⟨pb, 0, none⟩ ⟨w.heap.size, 0, none⟩ (.pointer none) (w.alloc (.cells #[.pointer none] 104)) (below_cell ((Below.refl _ _).alloc (Nat.le_refl _) _) he.handle) (by simp) (by simp)).mono ?_
    rintro ev w' ⟨rfl, rfl⟩
    refine ⟨rfl, (((((Below.refl _ _).alloc (Nat.le_refl _) _).alloc (by simp) _).alloc (by simp; omega) _).alloc (by simp; omega) _).alloc (by simp; omega) _ |>.setCell (Nat.le_refl _) _, ?_, by simp; omega⟩
    exact World.cell?_setCell_same' _ _ _ (by
      rw [World.cell?_alloc_lt _ _ _ (by simp; omega), World.cell?_alloc_lt _ _ _ (by simp; omega), World.cell?_alloc_lt _ _ _ (by simp; omega), World.cell?_alloc_lt _ _ _ (by simp)]; simp)
  · intro k hk W hb
    have hW := he.later hb
    by_cases h : k = i
    · subst h
      rw [decide_eq_true rfl]
      exact is_fault_same pb (a k) W (below_cell hb h1)
    · rw [decide_eq_false h]
      obtain ⟨c, t, hr⟩ := hW.row i hi
      obtain ⟨c', t', hr'⟩ := hW.row k hk
      exact is_fault_other pb (a k) (a i) c c' t t' W (below_cell hb h1) (hW.ne i k hi hk (fun e => h e.symm)) hr hr'
end Go.Proofs.YtmdckddenelneaaGreatDoor
