/- The reference's less, Index, SomeFault and RingFault. -/
import Derived.Test.YtepclafmkhphbabDoorRBad
import Derived.Test.YtepclafmkhphbabDoorSomeF
import Derived.Shelf.SlSorted.Search
namespace Go.Proofs.YtepclafmkhphbabDoor
open Go.RowKit Go.Sort Go.Shelf Go.Lib

theorem lessF_val (f p1 q1 : Nat) (p2 q2 : ByteArray) : Lh.lessF f (p1, p2) (q1, q2) = if (!decide (p1 < f) == decide (q1 < f)) = true then decide (q1 < f) else if ((p1 : Int) != (q1 : Int)) = true then decide (p1 < q1) else Op.bytesLess p2.toList q2.toList := by
  unfold Lh.lessF
  rw [less_bl]
  by_cases h1 : p1 < f <;> by_cases h2 : q1 < f <;> by_cases h3 : p1 = q1 <;> simp [h1, h2, h3]
  all_goals omega
set_option maxRecDepth 100000 in
set_option maxHeartbeats 2000000 in
theorem less_any (f p1 q1 : Nat) (p2 q2 : ByteArray) (w : World) :
    Calls Tryd.prog 55 #[.int .u64 (f : Nat), .agg #[.int .u64 (p1 : Nat), .string p2], .agg #[.int .u64 (q1 : Nat), .string q2]] w fun e w' => e = .returned (.bool (Lh.lessF f (p1, p2) (q1, q2))) ∧ Below w.heap.size w w' := by
  have hb2 : ∀ x y, Below w.heap.size w ((w.alloc x).alloc y) := fun x y => ((Below.refl _ w).alloc (Nat.le_refl _) _).alloc (by simp) _
  rw [lessF_val]
  cases h1 : (!decide (p1 < f) == decide (q1 < f)) with
  | true =>
    rw [if_pos rfl]
    go_enter Tryd.func55, Tryd.ntmps55
    go_wp2
    go_ret
    exact ⟨rfl, hb2 _ _⟩
  | false =>
    rw [if_neg (by decide)]
    cases h2 : ((p1 : Int) != (q1 : Int)) with
    | true =>
      rw [if_pos rfl]
      go_enter Tryd.func55, Tryd.ntmps55
      go_wp2
      go_ret
      exact ⟨rfl, hb2 _ _⟩
    | false =>
      rw [if_neg (by decide)]
      go_enter Tryd.func55, Tryd.ntmps55
      go_wp2
      go_ret
      exact ⟨rfl, hb2 _ _⟩

set_option maxHeartbeats 1000000 in
theorem refMem_core (b o c : Nat) (xs : List ByteArray) (s : ByteArray) (w : World) (hx : ∀ k (h : k < xs.length), w.cell? ⟨b, o + k, none⟩ = some (.string xs[k])) (hl : xs.length < 1000000) :
    Calls Tryd.prog 38 #[.slice (some ⟨b, o, none⟩) xs.length c, .string s] w fun e w' => (∃ j : Int, e = .returned (.int .i64 j) ∧ decide (0 ≤ j) = Lh.mem s xs) ∧ w' = w := by
  have HX : Hid (∀ k (h : k < xs.length), w.cell? ⟨b, o + k, none⟩ = some (.string xs[k])) := hx
  clear hx
  go_enter Tryd.func38, Tryd.ntmps38
  go_wp2
  go_loop [5] (fun t => ∃ k : Nat, k ≤ xs.length ∧ t = .int .i64 k ∧ ∀ j (h : j < xs.length), j < k → xs[j] ≠ s) (fun t => xs.length - (intOf t).toNat)
  case atStart => exact ⟨0, Nat.zero_le _, rfl, fun j _ h => absurd h (by omega)⟩
  case round =>
    obtain ⟨k, hk, rfl, hpre⟩ := hrel
    have HP : Hid (∀ j (h : j < xs.length), j < k → xs[j] ≠ s) := hpre
    clear hpre
    by_cases hlt : k < xs.length
    · have cx := HX.out k hlt
      by_cases heq : xs[k] = s
      · have HI : Hid (Lh.mem s xs = true) := Lh.mem_true (heq ▸ List.getElem_mem hlt)
        generalize xs[k] = xk at *
        have hne : (xk.toList == s.toList) = true := bytes_same heq
        clear heq
        go_wp2
        go_ret
        exact ⟨⟨_, rfl, by rw [HI.out]; simp⟩, rfl⟩
      · have HE : Hid (xs[k] ≠ s) := heq
        generalize hxk : xs[k] = xk at *
        have HXK : Hid (xs[k] = xk) := hxk
        have hne : (xk.toList == s.toList) = false := bytes_parts heq
        clear heq hxk
        go_wp2
        go_round
        case rel =>
          refine ⟨k + 1, by omega, by go_num, fun j h hj => ?_⟩
          by_cases hjk : j = k
          · subst hjk; rw [HXK.out]; exact HE.out
          · exact HP.out j h (by omega)
        case measure => simp [intOf]; omega
    · have HI : Hid (Lh.mem s xs = false) := Lh.mem_false fun h => by
        obtain ⟨j, hj, e⟩ := List.getElem_of_mem h
        exact HP.out j hj (by omega) e
      go_wp2
      go_ret
      exact ⟨⟨_, rfl, by rw [HI.out]; rfl⟩, rfl⟩
set_option maxHeartbeats 1000000 in
theorem refMem_zero (p : Option Addr) (c : Nat) (s : ByteArray) (w : World) :
    Calls Tryd.prog 38 #[.slice p 0 c, .string s] w fun e w' => e = .returned (.int .i64 (-1)) ∧ w' = w := by
  go_enter Tryd.func38, Tryd.ntmps38
  go_wp2
  refine wp_loop_rounds 1 ?_
  rw [rounds_succ]
  go_wp2
  go_ret
  exact ⟨rfl, rfl⟩
/-- Index of the reference: is a text in a list? -/
theorem refMem_any (v : Value) (xs : List ByteArray) (s : ByteArray) (w : World) (hv : Strs w v xs) (hl : xs.length < 1000000) :
    Calls Tryd.prog 38 #[v, .string s] w fun e w' => (∃ j : Int, e = .returned (.int .i64 j) ∧ decide (0 ≤ j) = Lh.mem s xs) ∧ w' = w := by
  rcases hv with ⟨rfl, p, c, rfl⟩ | ⟨b, o, c, rfl, _, hc⟩
  · exact (refMem_zero p c s w).mono fun e w' ⟨h1, h2⟩ => ⟨⟨-1, h1, rfl⟩, h2⟩
  · exact refMem_core b o c xs s w hc hl
theorem cells2 {W : World} {b : Nat} {x y x0 y0 : Value} (c0 : W.cell? ⟨b, 0, none⟩ = some x0) (c1 : W.cell? ⟨b, 1, none⟩ = some y0) (q : Obj) :
    (((W.setCell ⟨b, 0, none⟩ x).setCell ⟨b, 1, none⟩ y).alloc q).cell? ⟨b, 0, none⟩ = some x ∧ (((W.setCell ⟨b, 0, none⟩ x).setCell ⟨b, 1, none⟩ y).alloc q).cell? ⟨b, 1, none⟩ = some y := by
  have e0 : ((W.setCell ⟨b, 0, none⟩ x).setCell ⟨b, 1, none⟩ y).cell? ⟨b, 0, none⟩ = some x := by simp [go_sem, c0]
  have e1 : ((W.setCell ⟨b, 0, none⟩ x).setCell ⟨b, 1, none⟩ y).cell? ⟨b, 1, none⟩ = some y := by simp [go_sem, c1]
  exact ⟨below_cell ((Below.refl _ _).alloc (Nat.le_refl _) _) e0, below_cell ((Below.refl _ _).alloc (Nat.le_refl _) _) e1⟩
set_option maxHeartbeats 1000000 in
/-- RingFault where the hosts are wrong. -/
theorem ringFault_hosts (v : Value) (xs : List ByteArray) (n : Int) (w : World) (c : Nat) (pl : Int) (hv : Strs1 w v xs) (hf : (xs = [] ∧ c = 5 ∧ pl = -1) ∨ (0 < xs.length ∧ IsFault xs c pl)) (hc : c ≠ 0) (hs : ∀ k (h : k < xs.length), (xs[k]).size ≤ 1000000) (hm : xs.length < 1000000) :
    Calls Tryd.prog 34 #[v, .int .i64 n] w fun e w' => e = .returned (.agg #[.int .i64 c, .int .i64 pl]) ∧ Below w.heap.size w w' := by
  have hc0 : ((c : Int) == 0) = false := by rw [beq_eq_false_iff_ne]; omega
  have HV : Hid (Strs1 w v xs) := hv
  have HC : Hid (∀ W, Below w.heap.size w W → Calls Tryd.prog 52 #[v] W fun e w' => e = .returned (.agg #[.int .i64 c, .int .i64 pl]) ∧ Below W.heap.size W w') := fun W hW => someF_any v xs W c pl (hv.later hW) hf hs hm
  clear hv hf hs
  go_enter Tryd.func34, Tryd.ntmps34
  go_wp2_with fail
  have hbW := (Below.refl w.heap.size w).alloc (Nat.le_refl _) (.cells #[.int .i64 0, .int .i64 0] 46)
  refine (HC.out _ hbW).mono ?_
  rintro e w1 ⟨rfl, hb1⟩
  have c0 : w1.cell? ⟨w.heap.size, 0, none⟩ = some (.int .i64 0) := below_cell hb1 (by simp)
  have c1 : w1.cell? ⟨w.heap.size, 1, none⟩ = some (.int .i64 0) := below_cell hb1 (by simp)
  have f0 : w1.frozen? ⟨w.heap.size, 0, none⟩ = false := by rw [hb1.frozen (by simp)]; simp
  have f1 : w1.frozen? ⟨w.heap.size, 1, none⟩ = false := by rw [hb1.frozen (by simp)]; simp
  have hsz : w.heap.size < w1.heap.size := by have := hb1.size; simp at this; omega
  have hbz : Below w.heap.size w w1 := hbW.trans (hb1.mono (by simp))
  clear hb1 hbW HC
  go_wp2
  have hh := cells2 (x := .int .i64 c) (y := .int .i64 pl) c0 c1 (.cells #[.int .i64 c, .int .i64 pl] 46)
  exact bodyPost_ret (v := .agg #[.int .i64 c, .int .i64 pl]) (by simp [results, Tryd.results34, go_sem, hh.1, hh.2]) rfl ⟨rfl, ((hbz.setCell (Nat.le_refl _) _).setCell (Nat.le_refl _) _).alloc (by have := hbz.size; simpa using this) _⟩

set_option maxHeartbeats 1000000 in
/-- RingFault where the hosts are right. -/
theorem ringFault_cop (v : Value) (xs : List ByteArray) (n : Int) (w : World) (e0 : Nat) (hv : Strs1 w v xs) (h0 : 0 < xs.length) (hf : IsFault xs 0 (-1)) (hse : CopIs n e0) (hs : ∀ k (h : k < xs.length), (xs[k]).size ≤ 1000000) (hm : xs.length < 1000000) :
    Calls Tryd.prog 34 #[v, .int .i64 n] w fun e w' => e = .returned (.agg #[.int .i64 e0, .int .i64 (-1)]) ∧ Below w.heap.size w w' := by
  have HV : Hid (Strs1 w v xs) := hv
  have HC : Hid (∀ W, Below w.heap.size w W → Calls Tryd.prog 52 #[v] W fun e w' => e = .returned (.agg #[.int .i64 0, .int .i64 (-1)]) ∧ Below W.heap.size W w') := fun W hW => someF_any v xs W 0 (-1) (hv.later hW) (Or.inr ⟨h0, hf⟩) hs hm
  have HS : Hid (CopIs n e0) := hse
  clear hv hf hs hse
  have hbW := (Below.refl w.heap.size w).alloc (Nat.le_refl _) (.cells #[.int .i64 0, .int .i64 0] 46)
  have hc2 := HC.out _ hbW
  go_enter Tryd.func34, Tryd.ntmps34
  go_wp2_with fail
  refine hc2.mono ?_
  rintro e w1 ⟨rfl, hb1⟩
  have c0 : w1.cell? ⟨w.heap.size, 0, none⟩ = some (.int .i64 0) := below_cell hb1 (by simp)
  have c1 : w1.cell? ⟨w.heap.size, 1, none⟩ = some (.int .i64 0) := below_cell hb1 (by simp)
  have f0 : w1.frozen? ⟨w.heap.size, 0, none⟩ = false := by rw [hb1.frozen (by simp)]; simp
  have f1 : w1.frozen? ⟨w.heap.size, 1, none⟩ = false := by rw [hb1.frozen (by simp)]; simp
  have hsz : w.heap.size < w1.heap.size := by have := hb1.size; simp at this; omega
  have hbz : Below w.heap.size w w1 := hbW.trans (hb1.mono (by simp))
  clear hb1 hbW HC hc2
  rcases HS.out with ⟨hnn, rfl⟩ | ⟨m, rfl, hm1, hm16, rfl⟩
  · by_cases hn1 : n < 1
    · have hd1 : decide (n < 1) = true := by simpa using hn1
      go_wp2_with fail
      refine (bare_any _ _).mono ?_
      rintro e w3 ⟨rfl, hb3⟩
      have d0 : w3.cell? ⟨w.heap.size, 0, none⟩ = some (.int .i64 0) := below_cell hb3 (below_cell ((Below.refl _ _).alloc (Nat.le_refl _) _) c0)
      have d1 : w3.cell? ⟨w.heap.size, 1, none⟩ = some (.int .i64 0) := below_cell hb3 (below_cell ((Below.refl _ _).alloc (Nat.le_refl _) _) c1)
      have g0 : w3.frozen? ⟨w.heap.size, 0, none⟩ = false := by rw [hb3.frozen (by simp; omega), ((Below.refl w1.heap.size w1).alloc (Nat.le_refl _) _).frozen hsz]; exact f0
      have g1 : w3.frozen? ⟨w.heap.size, 1, none⟩ = false := by rw [hb3.frozen (by simp; omega), ((Below.refl w1.heap.size w1).alloc (Nat.le_refl _) _).frozen hsz]; exact f1
      have hby : Below w.heap.size w w3 := (hbz.alloc hbz.size _).trans (hb3.mono (by simp; omega))
      clear hb3 c0 c1 f0 f1
      go_wp2
      exact bodyPost_ret (v := .agg #[.int .i64 2, .int .i64 (-1)]) (by simp [results, Tryd.results34, go_sem, d0, d1]) rfl ⟨rfl, (hby.setCell (Nat.le_refl _) _).setCell (Nat.le_refl _) _⟩
    · have hd1 : decide (n < 1) = false := by simpa using hn1
      have hd2 : decide (16 < n) = true := by simp; omega
      go_wp2_with fail
      refine (bare_any _ _).mono ?_
      rintro e w3 ⟨rfl, hb3⟩
      have d0 : w3.cell? ⟨w.heap.size, 0, none⟩ = some (.int .i64 0) := below_cell hb3 (below_cell ((Below.refl _ _).alloc (Nat.le_refl _) _) c0)
      have d1 : w3.cell? ⟨w.heap.size, 1, none⟩ = some (.int .i64 0) := below_cell hb3 (below_cell ((Below.refl _ _).alloc (Nat.le_refl _) _) c1)
      have g0 : w3.frozen? ⟨w.heap.size, 0, none⟩ = false := by rw [hb3.frozen (by simp; omega), ((Below.refl w1.heap.size w1).alloc (Nat.le_refl _) _).frozen hsz]; exact f0
      have g1 : w3.frozen? ⟨w.heap.size, 1, none⟩ = false := by rw [hb3.frozen (by simp; omega), ((Below.refl w1.heap.size w1).alloc (Nat.le_refl _) _).frozen hsz]; exact f1
      have hby : Below w.heap.size w w3 := (hbz.alloc hbz.size _).trans (hb3.mono (by simp; omega))
      clear hb3 c0 c1 f0 f1
      go_wp2
      exact bodyPost_ret (v := .agg #[.int .i64 2, .int .i64 (-1)]) (by simp [results, Tryd.results34, go_sem, d0, d1]) rfl ⟨rfl, (hby.setCell (Nat.le_refl _) _).setCell (Nat.le_refl _) _⟩
  · have hd1 : decide ((m : Int) < 1) = false := by simp; omega
    have hd2 : decide (16 < (m : Int)) = false := by simp; omega
    go_wp2
    have hh := cells2 (x := .int .i64 0) (y := .int .i64 (-1)) c0 c1 (.cells #[.int .i64 0, .int .i64 (-1)] 46)
    exact bodyPost_ret (v := .agg #[.int .i64 0, .int .i64 (-1)]) (by simp [results, Tryd.results34, go_sem, hh.1, hh.2]) rfl ⟨rfl, ((hbz.setCell (Nat.le_refl _) _).setCell (Nat.le_refl _) _).alloc (by have := hbz.size; simpa using this) _⟩
/-- RingFault of any hosts and any copies. -/
theorem ringFault_any (v : Value) (xs : List ByteArray) (n : Int) (w : World) (c : Nat) (pl : Int) (hv : Strs1 w v xs) (hf : RngFault xs n c pl) (hs : ∀ k (h : k < xs.length), (xs[k]).size ≤ 1000000) (hm : xs.length < 1000000) :
    Calls Tryd.prog 34 #[v, .int .i64 n] w fun e w' => e = .returned (.agg #[.int .i64 c, .int .i64 pl]) ∧ Below w.heap.size w w' := by
  rcases hf with ⟨h, rfl, rfl⟩ | ⟨h0, hf, hc⟩ | ⟨h0, hf, hse, rfl⟩
  · exact ringFault_hosts v xs n w 5 (-1) hv (Or.inl ⟨h, rfl, rfl⟩) (by decide) hs hm
  · exact ringFault_hosts v xs n w c pl hv (Or.inr ⟨h0, hf⟩) hc hs hm
  · exact ringFault_cop v xs n w c hv h0 hf hse hs hm
end Go.Proofs.YtepclafmkhphbabDoor
