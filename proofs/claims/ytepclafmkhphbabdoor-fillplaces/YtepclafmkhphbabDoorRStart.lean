/- The landed start: where a key's way begins. -/
import Derived.Test.YtepclafmkhphbabDoorRNew2
import Derived.Test.YtepclafmkhphbabDoorRSea
namespace Go.Proofs.YtepclafmkhphbabDoor
open Go.RowKit Go.Sort Go.Shelf Go.Lib
set_option maxHeartbeats 2000000 in
/-- the function handed to sort.Search -/
theorem closureS (br bf rb blk cap : Nat) (P : List Lh.Pt) (f : Nat) (i : Nat) (hi : i < P.length) (W : World) (hr : W.cell? ⟨br, 0, none⟩ = some (.pointer (some ⟨rb, 0, none⟩))) (hf : W.cell? ⟨bf, 0, none⟩ = some (.int .u64 (f : Nat))) (hR : RingBlk W rb blk cap P) :
    Calls Tryd.prog 64 (#[.int .i64 i] ++ #[.pointer (some ⟨br, 0, none⟩), .pointer (some ⟨bf, 0, none⟩)]) W fun e w' => e = .returned (.bool (decide (f ≤ P[i].1))) ∧ ∃ q, w' = W.drewN q := by
  obtain ⟨cr, hp⟩ := hR
  have ca := (hp i hi).1
  clear hp
  generalize P[i].1 = at1 at *
  generalize P.length = n at *
  have hiz : (i : Int) < (n : Int) := by omega
  go_enter Tryd.func64, Tryd.ntmps64
  go_wp2_with fail
  go_quiet (fail)
  go_wp2
  go_ret
  exact ⟨rfl, nq, rfl⟩
theorem entersS : ∀ args w, (callFunc 64 args).run Tryd.prog w = .ok (.enter 64 args) w := enters_of Tryd.func64 (by kernel_rfl) rfl
theorem mono_at {P : List Lh.Pt} (hs : P.Pairwise (Lh.leF 0)) {f a b : Nat} (hab : a ≤ b) (hb : b < P.length) (h : f ≤ (P[a]'(by omega)).1) : f ≤ P[b].1 := by
  rcases Nat.lt_or_ge a b with h' | h'
  · have := (List.pairwise_iff_getElem.1 hs a b (by omega) hb h').2 (fun h => absurd h (by omega))
    omega
  · have e : a = b := by omega
    subst e
    exact h
theorem cut_range (f : Nat) (P : List Lh.Pt) : (List.range P.length).countP (fun i => !decide (f ≤ (P.toArray[i]!).1)) = Lh.cut f P := by
  have := Lib.countP_range P.toArray (fun p : Lh.Pt => !decide (f ≤ p.1))
  simpa [Lh.cut] using this
/-- sort.Search over the points. -/
theorem searchPts (br bf rb blk cap : Nat) (P : List Lh.Pt) (hs : P.Pairwise (Lh.leF 0)) (hl : P.length < 1000000) (f : Nat) (W : World) (hr : W.cell? ⟨br, 0, none⟩ = some (.pointer (some ⟨rb, 0, none⟩))) (hf : W.cell? ⟨bf, 0, none⟩ = some (.int .u64 (f : Nat))) (hR : RingBlk W rb blk cap P) :
    Calls Tryd.prog 63 #[.int .i64 P.length, .func (.func 64) #[] #[.pointer (some ⟨br, 0, none⟩), .pointer (some ⟨bf, 0, none⟩)]] W fun e w' => e = .returned (.int .i64 (Lh.cut f P : Nat)) ∧ Below W.heap.size W w' := by
  have h := Any.sort_Search searchP 64 #[.pointer (some ⟨br, 0, none⟩), .pointer (some ⟨bf, 0, none⟩)] P.length (fun i => decide (f ≤ (P.toArray[i]!).1)) W entersS (by omega)
    (fun m os i hi => by
      have hb := below_grown_sl W.heap.size W m os (Nat.le_refl _)
      have hc := closureS br bf rb blk cap P f i hi _ (below_cell hb hr) (below_cell hb hf) (hR.later hb)
      have e : (P.toArray[i]!) = P[i] := by simp [hi]
      rw [e]
      exact hc.mono fun _ _ ⟨he, q, hq⟩ => ⟨he, q, #[], by rw [hq, grow_empty]⟩)
    (fun a b hab hb h => by
      have ha : a < P.length := by omega
      simp only [List.getElem!_toArray, decide_eq_true_eq] at h ⊢
      rw [getElem!_pos P a ha] at h
      rw [getElem!_pos P b hb]
      exact mono_at hs hab hb h)
  rw [cut_range] at h
  refine Calls.mono h ?_
  rintro e w' ⟨rfl, q, os, rfl⟩
  exact ⟨rfl, below_grown_sl W.heap.size W q os (Nat.le_refl _)⟩

set_option maxHeartbeats 2000000 in
theorem start_any (rb blk cap : Nat) (P : List Lh.Pt) (z : Nat) (W : World) (hR : RingBlk W rb blk cap P) (hs : P.Pairwise (Lh.leF 0)) (hl : P.length < 1000000) :
    Calls Tryd.prog 46 #[.pointer (some ⟨rb, 0, none⟩), .int .u64 (z : Nat)] W fun e w' => e = .returned (.int .i64 (Lh.start (Lh.turn z) P : Nat)) ∧ Below W.heap.size W w' := by
  have HT : Hid (∀ W', Calls Tryd.prog 62 #[.int .u64 z] W' fun e w' => e = .returned (.int .u64 (Lh.turn z : Nat)) ∧ Below W'.heap.size W' w') := fun W' => turn_any z W'
  generalize Lh.turn z = f at *
  have HR : Hid (RingBlk W rb blk cap P) := hR
  have hcl := Lh.cut_le f P
  obtain ⟨st, hst⟩ : ∃ st, Lh.start f P = st := ⟨_, rfl⟩
  have HST : Hid (st = if Lh.cut f P = P.length then 0 else Lh.cut f P) := hst.symm
  rw [hst]
  clear hst
  clear hR
  go_enter Tryd.func46, Tryd.ntmps46
  go_wp2_with fail
  refine (HT.out _).mono ?_
  rintro e w1 ⟨rfl, hb1⟩
  have hba : Below W.heap.size W w1 := ((Below.refl _ W).alloc (Nat.le_refl _) _).trans (hb1.mono (by simp))
  have hbw : Below w1.heap.size w1 (w1.alloc (.cells #[.int .u64 (f : Nat)] 32)) := (Below.refl _ w1).alloc (Nat.le_refl _) _
  have c1 : (w1.alloc (.cells #[.int .u64 (f : Nat)] 32)).cell? ⟨W.heap.size, 0, none⟩ = some (.pointer (some ⟨rb, 0, none⟩)) := below_cell hbw (below_cell hb1 (by simp))
  have c2 : (w1.alloc (.cells #[.int .u64 (f : Nat)] 32)).cell? ⟨w1.heap.size, 0, none⟩ = some (.int .u64 (f : Nat)) := by simp
  have hR2 : RingBlk (w1.alloc (.cells #[.int .u64 (f : Nat)] 32)) rb blk cap P := (HR.out.later hba).later hbw
  have hb2 : Below W.heap.size W (w1.alloc (.cells #[.int .u64 (f : Nat)] 32)) := below_then hba hbw
  have c3 := hR2.1
  have hse := searchPts W.heap.size w1.heap.size rb blk cap P hs hl f _ c1 c2 hR2
  clear hb1 hba hbw c2
  go_wp2_with fail
  refine hse.mono ?_
  rintro e w3 ⟨rfl, hb3⟩
  have d1 := below_cell hb3 c1
  have d3 := below_cell hb3 c3
  have hb4 : Below W.heap.size W w3 := below_then hb2 hb3
  clear hse hR2 c1 c3 hb2 hb3 hs
  generalize Lh.cut f P = k at *
  generalize P.length = n at *
  by_cases hk : k = n
  · have hke : ((k : Int) == (n : Int)) = true := by simp [hk]
    go_wp2
    go_ret
    refine ⟨?_, hb4⟩
    rw [HST.out, if_pos hk]
    rfl
  · have hke : ((k : Int) == (n : Int)) = false := by rw [beq_eq_false_iff_ne]; omega
    go_wp2
    go_ret
    refine ⟨?_, hb4⟩
    rw [HST.out, if_neg hk]
    rfl
end Go.Proofs.YtepclafmkhphbabDoor
