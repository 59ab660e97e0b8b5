/- The reference's SomeFault, TableFault, Index, TableOf. -/
import Derived.Test.YtedbhahkldfmiaaDoorMake
namespace Go.Proofs.YtedbhahkldfmiaaDoor
open Go.RowKit

set_option maxHeartbeats 1000000 in
/-- Index of the reference, at a text that is there. -/
theorem refIx_core (b o c : Nat) (xs : List ByteArray) (s : ByteArray) (hm : s ∈ xs) (w : World) (hx : ∀ k (h : k < xs.length), w.cell? ⟨b, o + k, none⟩ = some (.string xs[k])) (hl : xs.length < 1000000) :
    Calls Tryd.prog 52 #[.slice (some ⟨b, o, none⟩) xs.length c, .string s] w fun e w' => e = .returned (.int .i64 (Lh.ix xs s : Nat)) ∧ w' = w := by
  have HX : Hid (∀ k (h : k < xs.length), w.cell? ⟨b, o + k, none⟩ = some (.string xs[k])) := hx
  have HM : Hid (s ∈ xs) := hm
  clear hx hm
  go_enter Tryd.func52, Tryd.ntmps52
  go_wp2
  go_loop [5] (fun t => ∃ k : Nat, k ≤ xs.length ∧ t = .int .i64 k ∧ ∀ j (h : j < xs.length), j < k → xs[j] ≠ s) (fun t => xs.length - (intOf t).toNat)
  case atStart => exact ⟨0, Nat.zero_le _, rfl, fun j _ h => absurd h (by omega)⟩
  case round =>
    obtain ⟨k, hk, rfl, hpre⟩ := hrel
    have HP : Hid (∀ j (h : j < xs.length), j < k → xs[j] ≠ s) := hpre
    clear hpre
    by_cases hlt : k < xs.length
    · have cx := HX.out k hlt
      by_cases heq : xs[k] = s
      · have HI : Hid (Lh.ix xs s = k) := Lh.ix_first hlt heq HP.out
        generalize xs[k] = xk at *
        have hne : (xk.toList == s.toList) = true := bytes_same heq
        clear heq
        go_wp2
        go_ret
        exact ⟨congrArg (fun z : Nat => Ending.returned (.int .i64 (z : Int))) HI.out.symm, rfl⟩
      · have HE : Hid (xs[k] ≠ s) := heq
        generalize hxk : xs[k] = xk at *
        have HXK : Hid (xs[k] = xk) := hxk
        have hne : (xk.toList == s.toList) = false := bytes_parts heq
        clear heq hxk
        go_wp2
        go_round
        case rel =>
          refine ⟨k + 1, by omega, by go_num, fun j h hj => ?_⟩
          by_cases hjk : j = k
          · subst hjk; rw [HXK.out]; exact HE.out
          · exact HP.out j h (by omega)
        case measure => simp [intOf]; omega
    · exfalso
      obtain ⟨j, hj, e⟩ := List.getElem_of_mem HM.out
      exact HP.out j hj (by omega) e

set_option maxHeartbeats 1000000 in
theorem someFault_none (p : Option Addr) (c : Nat) (w : World) :
    Calls Tryd.prog 60 #[.slice p 0 c] w fun e w' => e = .returned (.agg #[.int .i64 5, .int .i64 (-1)]) ∧ Below w.heap.size w w' := by
  have hbW := (Below.refl w.heap.size w).alloc (Nat.le_refl _) (.cells #[.int .i64 0, .int .i64 0] 42)
  go_enter Tryd.func60, Tryd.ntmps60
  go_wp2_with fail
  refine (bare_any _ _).mono ?_
  rintro e w1 ⟨rfl, hb1⟩
  have c0 : w1.cell? ⟨w.heap.size, 0, none⟩ = some (.int .i64 0) := below_cell hb1 (by simp)
  have c1 : w1.cell? ⟨w.heap.size, 1, none⟩ = some (.int .i64 0) := below_cell hb1 (by simp)
  have f0 : w1.frozen? ⟨w.heap.size, 0, none⟩ = false := by rw [hb1.frozen (by simp)]; simp
  have f1 : w1.frozen? ⟨w.heap.size, 1, none⟩ = false := by rw [hb1.frozen (by simp)]; simp
  have hbz : Below w.heap.size w w1 := hbW.trans (hb1.mono (by simp))
  clear hb1 hbW
  go_wp2
  exact bodyPost_ret (v := .agg #[.int .i64 5, .int .i64 (-1)]) (by simp [results, Tryd.results60, go_sem, c0, c1]) rfl ⟨rfl, (hbz.setCell (Nat.le_refl _) _).setCell (Nat.le_refl _) _⟩

set_option maxHeartbeats 1000000 in
theorem someFault_some (v : Value) (xs : List ByteArray) (w : World) (c : Nat) (pl : Int) (hv : Strs1 w v xs) (h0 : 0 < xs.length) (hf : IsFault xs c pl) (hs : ∀ k (h : k < xs.length), (xs[k]).size ≤ 1000000) (hm : xs.length < 1000000) :
    Calls Tryd.prog 60 #[v] w fun e w' => e = .returned (.agg #[.int .i64 c, .int .i64 pl]) ∧ Below w.heap.size w w' := by
  have hbW := (Below.refl w.heap.size w).alloc (Nat.le_refl _) (.cells #[.int .i64 0, .int .i64 0] 42)
  have hcall := hfault_any v xs _ c pl (hv.later hbW).strs hf hs hm
  obtain ⟨b, o, cp, rfl, hx⟩ := strs1_pos hv h0
  have hl0 : ((xs.length : Int) == 0) = false := by rw [beq_eq_false_iff_ne]; omega
  clear hv hx hf hs
  go_enter Tryd.func60, Tryd.ntmps60
  go_wp2_with fail
  refine hcall.mono ?_
  rintro e w1 ⟨rfl, hb1⟩
  have c0 : w1.cell? ⟨w.heap.size, 0, none⟩ = some (.int .i64 0) := below_cell hb1 (by simp)
  have c1 : w1.cell? ⟨w.heap.size, 1, none⟩ = some (.int .i64 0) := below_cell hb1 (by simp)
  have f0 : w1.frozen? ⟨w.heap.size, 0, none⟩ = false := by rw [hb1.frozen (by simp)]; simp
  have f1 : w1.frozen? ⟨w.heap.size, 1, none⟩ = false := by rw [hb1.frozen (by simp)]; simp
  have hbz : Below w.heap.size w w1 := hbW.trans (hb1.mono (by simp))
  clear hb1 hbW hcall
  go_wp2
  exact bodyPost_ret (v := .agg #[.int .i64 c, .int .i64 pl]) (by simp [results, Tryd.results60, go_sem, c0, c1]) rfl ⟨rfl, (hbz.setCell (Nat.le_refl _) _).setCell (Nat.le_refl _) _⟩
theorem someFault_any (v : Value) (xs : List ByteArray) (w : World) (c : Nat) (pl : Int) (hv : Strs1 w v xs) (hf : (xs = [] ∧ c = 5 ∧ pl = -1) ∨ (0 < xs.length ∧ IsFault xs c pl)) (hs : ∀ k (h : k < xs.length), (xs[k]).size ≤ 1000000) (hm : xs.length < 1000000) :
    Calls Tryd.prog 60 #[v] w fun e w' => e = .returned (.agg #[.int .i64 c, .int .i64 pl]) ∧ Below w.heap.size w w' := by
  rcases hf with ⟨rfl, rfl, rfl⟩ | ⟨h0, hf⟩
  · obtain ⟨p, cp, rfl⟩ := hv.strs.slice
    exact someFault_none p cp w
  · exact someFault_some v xs w c pl hv h0 hf hs hm

theorem cells_two {W : World} {b : Nat} {x y x0 y0 : Value} (c0 : W.cell? ⟨b, 0, none⟩ = some x0) (c1 : W.cell? ⟨b, 1, none⟩ = some y0) (q : Obj) :
    (((W.setCell ⟨b, 0, none⟩ x).setCell ⟨b, 1, none⟩ y).alloc q).cell? ⟨b, 0, none⟩ = some x ∧ (((W.setCell ⟨b, 0, none⟩ x).setCell ⟨b, 1, none⟩ y).alloc q).cell? ⟨b, 1, none⟩ = some y := by
  have e0 : ((W.setCell ⟨b, 0, none⟩ x).setCell ⟨b, 1, none⟩ y).cell? ⟨b, 0, none⟩ = some x := by simp [go_sem, c0]
  have e1 : ((W.setCell ⟨b, 0, none⟩ x).setCell ⟨b, 1, none⟩ y).cell? ⟨b, 1, none⟩ = some y := by simp [go_sem, c1]
  exact ⟨below_cell ((Below.refl _ _).alloc (Nat.le_refl _) _) e0, below_cell ((Below.refl _ _).alloc (Nat.le_refl _) _) e1⟩
set_option maxHeartbeats 1000000 in
/-- TableFault where the hosts are wrong. -/
theorem tableFault_hosts (v : Value) (xs : List ByteArray) (n : Int) (w : World) (c : Nat) (pl : Int) (hv : Strs1 w v xs) (hf : (xs = [] ∧ c = 5 ∧ pl = -1) ∨ (0 < xs.length ∧ IsFault xs c pl)) (hc : c ≠ 0) (hs : ∀ k (h : k < xs.length), (xs[k]).size ≤ 1000000) (hm : xs.length < 1000000) :
    Calls Tryd.prog 33 #[v, .int .i64 n] w fun e w' => e = .returned (.agg #[.int .i64 c, .int .i64 pl]) ∧ Below w.heap.size w w' := by
  have hc0 : ((c : Int) == 0) = false := by rw [beq_eq_false_iff_ne]; omega
  have HV : Hid (Strs1 w v xs) := hv
  have HC : Hid (∀ W, Below w.heap.size w W → Calls Tryd.prog 60 #[v] W fun e w' => e = .returned (.agg #[.int .i64 c, .int .i64 pl]) ∧ Below W.heap.size W w') := fun W hW => someFault_any v xs W c pl (hv.later hW) hf hs hm
  clear hv hf hs
  go_enter Tryd.func33, Tryd.ntmps33
  go_wp2_with fail
  have hbW := (Below.refl w.heap.size w).alloc (Nat.le_refl _) (.cells #[.int .i64 0, .int .i64 0] 42)
  refine (HC.out _ hbW).mono ?_
  rintro e w1 ⟨rfl, hb1⟩
  have c0 : w1.cell? ⟨w.heap.size, 0, none⟩ = some (.int .i64 0) := below_cell hb1 (by simp)
  have c1 : w1.cell? ⟨w.heap.size, 1, none⟩ = some (.int .i64 0) := below_cell hb1 (by simp)
  have f0 : w1.frozen? ⟨w.heap.size, 0, none⟩ = false := by rw [hb1.frozen (by simp)]; simp
  have f1 : w1.frozen? ⟨w.heap.size, 1, none⟩ = false := by rw [hb1.frozen (by simp)]; simp
  have hsz : w.heap.size < w1.heap.size := by have := hb1.size; simp at this; omega
  have hbz : Below w.heap.size w w1 := hbW.trans (hb1.mono (by simp))
  clear hb1 hbW HC
  go_wp2
  have hh := cells_two (x := .int .i64 c) (y := .int .i64 pl) c0 c1 (.cells #[.int .i64 c, .int .i64 pl] 42)
  exact bodyPost_ret (v := .agg #[.int .i64 c, .int .i64 pl]) (by simp [results, Tryd.results33, go_sem, hh.1, hh.2]) rfl ⟨rfl, ((hbz.setCell (Nat.le_refl _) _).setCell (Nat.le_refl _) _).alloc (by have := hbz.size; simpa using this) _⟩

set_option maxHeartbeats 1000000 in
/-- TableFault where the hosts are right. -/
theorem tableFault_size (v : Value) (xs : List ByteArray) (n : Int) (w : World) (e0 : Nat) (hv : Strs1 w v xs) (h0 : 0 < xs.length) (hf : IsFault xs 0 (-1)) (hn : -9223372036854775808 ≤ n ∧ n ≤ 9223372036854775807) (hse : Lh.SizeIs n e0) (hs : ∀ k (h : k < xs.length), (xs[k]).size ≤ 1000000) (hm : xs.length < 1000000) :
    Calls Tryd.prog 33 #[v, .int .i64 n] w fun e w' => e = .returned (.agg #[.int .i64 e0, .int .i64 (-1)]) ∧ Below w.heap.size w w' := by
  have HV : Hid (Strs1 w v xs) := hv
  have HC : Hid (∀ W, Below w.heap.size w W → Calls Tryd.prog 60 #[v] W fun e w' => e = .returned (.agg #[.int .i64 0, .int .i64 (-1)]) ∧ Below W.heap.size W w') := fun W hW => someFault_any v xs W 0 (-1) (hv.later hW) (Or.inr ⟨h0, hf⟩) hs hm
  have HS : Hid (Lh.SizeIs n e0) := hse
  clear hv hf hs hse
  have hbW := (Below.refl w.heap.size w).alloc (Nat.le_refl _) (.cells #[.int .i64 0, .int .i64 0] 42)
  have hc2 := HC.out _ hbW
  go_enter Tryd.func33, Tryd.ntmps33
  go_wp2_with fail
  refine hc2.mono ?_
  rintro e w1 ⟨rfl, hb1⟩
  have c0 : w1.cell? ⟨w.heap.size, 0, none⟩ = some (.int .i64 0) := below_cell hb1 (by simp)
  have c1 : w1.cell? ⟨w.heap.size, 1, none⟩ = some (.int .i64 0) := below_cell hb1 (by simp)
  have f0 : w1.frozen? ⟨w.heap.size, 0, none⟩ = false := by rw [hb1.frozen (by simp)]; simp
  have f1 : w1.frozen? ⟨w.heap.size, 1, none⟩ = false := by rw [hb1.frozen (by simp)]; simp
  have hsz : w.heap.size < w1.heap.size := by have := hb1.size; simp at this; omega
  have hbz : Below w.heap.size w w1 := hbW.trans (hb1.mono (by simp))
  clear hb1 hbW HC hc2
  go_wp2_with fail
  refine (sizeError_any n e0 _ hn HS.out).mono ?_
  rintro e w2 ⟨rfl, rfl⟩
  by_cases he : e0 = 0
  · subst he
    go_wp2
    have hh := cells_two (x := .int .i64 0) (y := .int .i64 (-1)) c0 c1 (.cells #[.int .i64 0, .int .i64 (-1)] 42)
    exact bodyPost_ret (v := .agg #[.int .i64 0, .int .i64 (-1)]) (by simp [results, Tryd.results33, go_sem, hh.1, hh.2]) rfl ⟨rfl, ((hbz.setCell (Nat.le_refl _) _).setCell (Nat.le_refl _) _).alloc (by have := hbz.size; simpa using this) _⟩
  · have hd : decide (0 < (e0 : Int)) = true := by simp; omega
    go_wp2_with fail
    refine (bare_any _ _).mono ?_
    rintro e w3 ⟨rfl, hb3⟩
    have d0 : w3.cell? ⟨w.heap.size, 0, none⟩ = some (.int .i64 0) := below_cell hb3 (below_cell ((Below.refl _ _).alloc (Nat.le_refl _) _) c0)
    have d1 : w3.cell? ⟨w.heap.size, 1, none⟩ = some (.int .i64 0) := below_cell hb3 (below_cell ((Below.refl _ _).alloc (Nat.le_refl _) _) c1)
    have g0 : w3.frozen? ⟨w.heap.size, 0, none⟩ = false := by rw [hb3.frozen (by simp; omega), ((Below.refl w1.heap.size w1).alloc (Nat.le_refl _) _).frozen hsz]; exact f0
    have g1 : w3.frozen? ⟨w.heap.size, 1, none⟩ = false := by rw [hb3.frozen (by simp; omega), ((Below.refl w1.heap.size w1).alloc (Nat.le_refl _) _).frozen hsz]; exact f1
    have hby : Below w.heap.size w w3 := (hbz.alloc hbz.size _).trans (hb3.mono (by simp; omega))
    clear hb3 c0 c1 f0 f1
    go_wp2
    exact bodyPost_ret (v := .agg #[.int .i64 e0, .int .i64 (-1)]) (by simp [results, Tryd.results33, go_sem, d0, d1]) rfl ⟨rfl, (hby.setCell (Nat.le_refl _) _).setCell (Nat.le_refl _) _⟩
/-- TableFault of any hosts and any size. -/
theorem tableFault_any (v : Value) (xs : List ByteArray) (n : Int) (w : World) (c : Nat) (pl : Int) (hv : Strs1 w v xs) (hf : TabFault xs n c pl) (hn : -9223372036854775808 ≤ n ∧ n ≤ 9223372036854775807) (hs : ∀ k (h : k < xs.length), (xs[k]).size ≤ 1000000) (hm : xs.length < 1000000) :
    Calls Tryd.prog 33 #[v, .int .i64 n] w fun e w' => e = .returned (.agg #[.int .i64 c, .int .i64 pl]) ∧ Below w.heap.size w w' := by
  rcases hf with ⟨h, rfl, rfl⟩ | ⟨h0, hf, hc⟩ | ⟨h0, hf, hse, rfl⟩
  · exact tableFault_hosts v xs n w 5 (-1) hv (Or.inl ⟨h, rfl, rfl⟩) (by decide) hs hm
  · exact tableFault_hosts v xs n w c pl hv (Or.inr ⟨h0, hf⟩) hc hs hm
  · exact tableFault_size v xs n w c hv h0 hf hn hse hs hm
end Go.Proofs.YtedbhahkldfmiaaDoor
