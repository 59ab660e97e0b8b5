/- The landed flows' values, one by one: maps.Values of a map of flows, in whatever order. -/
import Derived.Test.YtmkdpchodeckgaaDoorFlD
import Derived.Test.YtmkdpchodeckgaaDoorProg
import Derived.RangeFuncNested
import Derived.RangeFuncLeaves
import Derived.Shelf.Abstract
import Derived.Shelf.AbstractIn
import Derived.Sort.MapsRangeIn
import Derived.WalkKit
import Derived.OwnWalkIn
import Derived.TacticsInMore
import Derived.RegionIn
import Derived.LoopNIn
import Derived.LoopIn
namespace Go.Proofs.YtmkdpchodeckgaaDoor
open Go.RowKit Go.Maps Go.ChangeMaps Go.Shelf
attribute [local go_sem] Oper.semAt_some

/-- what has come out of the map so far -/
def Coll (L : List Lh.Fl) (left : Lit → Bool) (ps : List Lh.Fl) : Prop := ps.Nodup ∧ ∀ x, x ∈ ps ↔ (x ∈ L ∧ left (keyF x.1) = false)
theorem rise_inj {L : List Lh.Fl} (hp : L.Pairwise fun x y => x.1 < y.1) {x y : Lh.Fl} (hx : x ∈ L) (hy : y ∈ L) (e : x.1 = y.1) : x = y := by
  obtain ⟨i, hi, rfl⟩ := List.getElem_of_mem hx
  obtain ⟨j, hj, rfl⟩ := List.getElem_of_mem hy
  rcases Nat.lt_trichotomy i j with h | h | h
  · have := List.pairwise_iff_getElem.1 hp i j hi hj h
    omega
  · subst h; rfl
  · have := List.pairwise_iff_getElem.1 hp j i hj hi h
    omega
theorem rise_nodup {L : List Lh.Fl} (hp : L.Pairwise fun x y => x.1 < y.1) : L.Nodup := hp.imp fun h e => by subst e; omega
theorem Coll.start (L : List Lh.Fl) : Coll L (has (FD L)) [] := by
  refine ⟨List.nodup_nil, fun x => ?_⟩
  rw [FD_has]
  constructor
  · intro h; cases h
  · rintro ⟨h1, h2⟩
    have := Lh.fix_lt.2 ⟨x, h1, rfl⟩
    simp [this] at h2
theorem Coll.step {L : List Lh.Fl} {left : Lit → Bool} {ps : List Lh.Fl} (hp : L.Pairwise fun x y => x.1 < y.1) (h : Coll L left ps) {x : Lh.Fl} (hx : x ∈ L) (hl : left (keyF x.1) = true) : Coll L (fun z => left z && !z.sameKey (keyF x.1)) (ps ++ [x]) := by
  refine ⟨?_, fun y => ?_⟩
  · rw [List.nodup_append]
    refine ⟨h.1, by simp, fun a ha b hb e => ?_⟩
    simp at hb
    subst hb
    subst e
    have := ((h.2 a).1 ha).2
    rw [this] at hl
    cases hl
  · rw [List.mem_append, h.2 y, List.mem_singleton]
    simp only [same_keyF]
    constructor
    · rintro (⟨h1, h2⟩ | rfl)
      · exact ⟨h1, by rw [h2]; rfl⟩
      · exact ⟨hx, by simp⟩
    · rintro ⟨h1, h2⟩
      by_cases e : y.1 = x.1
      · exact Or.inr (rise_inj hp h1 hx e)
      · simp [e] at h2
        exact Or.inl ⟨h1, h2⟩
theorem Coll.perm {L : List Lh.Fl} {left : Lit → Bool} {ps : List Lh.Fl} (hp : L.Pairwise fun x y => x.1 < y.1) (h : Coll L left ps) (hl : ∀ kl, left kl = false) : ps.Perm L := by
  rw [List.perm_ext_iff_of_nodup h.1 (rise_nodup hp)]
  intro x
  rw [h.2 x, hl]
  simp
theorem FD_at_all {L : List Lh.Fl} {kl : Lit} {yd : DataW Unit} (h : ∀ zd, (FD L).atKey kl zd = yd) : ∃ x ∈ L, kl = keyF x.1 ∧ yd = datF x := by
  unfold FD DataW.atKey at h
  cases e : (L.map entF).find? (fun p => p.1.sameKey kl) with
  | none =>
    simp only [e] at h
    have h1 := h .nil
    have h2 := h (.map [])
    rw [← h1] at h2
    cases h2
  | some p =>
    simp only [e] at h
    obtain ⟨x, hx, rfl⟩ := List.mem_map.1 (List.mem_of_find?_eq_some e)
    have hk : (keyF x.1).sameKey kl = true := List.find?_some (p := fun p : Lit × DataW Unit => p.1.sameKey kl) e
    exact ⟨x, hx, (WideAt.sameKey_eq hk).symm, (h .nil).symm⟩
theorem u64Keyed : Keyed Tryd.prog 32 := int_keyed Tryd.underlying32

set_option maxRecDepth 100000 in
set_option maxHeartbeats 2000000 in
/-- maps.Values's iterator, for every loop body. -/
theorem valuesF_in (F : Fence) (n : Nat) (hf : F.fn 55) (hro : F.round = none) (_hn : 1 ≤ n) (l Bm b nn : Nat) (L : List Lh.Fl) (hp : L.Pairwise fun x y => x.1 < y.1) (J Jx : List Lh.Fl → World → Prop)
    (hY : ∀ pre x W, J pre W → pre.length < L.length → YieldAt F (n - 1) Tryd.prog l #[valF x] W fun e W' =>
      (e = .returned (.bool true) ∧ J (pre ++ [x]) W' ∧ KeepsWalks W W') ∨ (e = .returned (.bool false) ∧ Jx (pre ++ [x]) W'))
    (W : World) (hJ : AbidesFrom W.heap.size J) (hm : W.cell? ⟨Bm, 0, none⟩ = some (.map (some b))) (hown : W.ownsMap Tryd.prog 32 flElem b nn (FD L)) (h0 : J [] W) :
    CallsIn F n Tryd.prog 55 #[.func (.yield l) #[] #[], .pointer (some ⟨Bm, 0, none⟩)] W fun e W' => (∃ v, e = .returned v) ∧
      ((∃ xs, xs.Perm L ∧ J xs W') ∨ (∃ pre, True ∧ Jx pre W')) := by
  refine callsIn_of_wp Tryd.func55 rfl hf ?_ hro
  simp only [Tryd.ntmps55, List.size_toArray, List.length_cons, List.length_nil, Nat.reduceAdd, Nat.reduceSub, Array.replicate_succ, Array.replicate_zero, List.push_toArray, List.append_toArray, List.nil_append, List.cons_append]
  gi_wp2_with (first
    | (gi_at_range; refine wpListIn_range_own _ rfl _ 71 rfl 32 75 u64Keyed Tryd.underlying71 flElem b nn _ rfl hown ?_; intro w0 hrg0 hg0 hs0)
    | gi_in)
  go_frame
  gi_loopw [4] (fun _ wr => ∃ (left : Lit → Bool) (cnt : Nat) (ps : List Lh.Fl), wr.ranges Tryd.prog 32 flElem b W.heap.size nn (FD L) left cnt ∧ ps.length + cnt ≤ L.length ∧ Coll L left ps ∧ J ps wr)
    (fun _ wr => wr.rangeLeft b W.heap.size)
  case atStart =>
    exact ⟨_, _, [], hrg0, by rw [FD_size]; simp, Coll.start L, hJ [] W w0 none h0 hg0 (fun r e => by cases e)⟩
  case round =>
    obtain ⟨left, cnt, ps, hrg, hcs, hC, hJs⟩ := hrel
    gi_wp2_with (first
      | (gi_at_next; refine wpListIn_next_ranges _ rfl _ rfl 32 u64Keyed flElem id id (fun key _ _ => ⟨key, rfl⟩) (fun v _ _ => ⟨v, rfl⟩) b W.heap.size nn _ _ _ rfl hrg ?_ ?_)
      | gi_in)
    · intro hc0 hl0
      gi_wp2
      go_end0
      exact ⟨⟨_, rfl⟩, .inl ⟨ps, hC.perm hp hl0, hJs⟩⟩
    · intro key c kl yd yp w2 cnt2 hkey hlk hv hat hrg2 hlt hg2 hs2 hen
      obtain ⟨x, hx, rfl, rfl⟩ := FD_at_all hat
      obtain rfl : c = valF x := flElem_inv hv
      have hJ2 : J ps w2 := hJ ps wr w2 (some W.heap.size) hJs hg2 (fun r e => by cases e; exact ⟨Nat.le_refl _, hrg.iter_walk⟩)
      have hC2 := hC.step hp hx hlk
      have hlen : ps.length < L.length := by omega
      clear hs2 hv hat hkey hC hlk
      have hga := World.grownBy_alloc w2 (.cells #[.int .u64 (x.1 : Nat), .string x.2.1, .int .i64 x.2.2] 75) none
      obtain ⟨fn, tmps, assign, body, hy, hR⟩ := hY ps x _ (hJ ps w2 _ none hJ2 hga (fun r e => by cases e)) hlen
      have hrg3 := hrg2.kept hga (by simp) (by simp)
      clear hJ2 hY
      unfold valF at hen hy
      gi_wp2
      refine hR.mono ?_
      rintro e W3 (⟨rfl, hJ3, hk3⟩ | ⟨rfl, hJx3⟩)
      · gi_wp2
        have hrg4 := hrg3.of_walks hk3
        go_roundw
        case rel => exact ⟨_, cnt2, ps ++ [x], hrg4, by simp; omega, hC2, hJ3⟩
        case measure => rw [hrg4.left_eq, hrg.left_eq]; exact hlt
      · gi_wp2
        refine bodyPost_ret (results_none rfl _ _ _) rfl ?_
        exact ⟨⟨_, rfl⟩, .inr ⟨ps ++ [x], trivial, hJx3⟩⟩

/-- maps.Values hands back a value that gives all of them, in some order. -/
theorem valuesF_stops (F : Fence) (n : Nat) (hf : F.fn 55) (hro : F.round = none) (hn : 1 ≤ n) (Bm b nn : Nat) (L : List Lh.Fl) (hp : L.Pairwise fun x y => x.1 < y.1) (w : World) (hB : Bm < w.heap.size)
    (hm : w.cell? ⟨Bm, 0, none⟩ = some (.map (some b))) (hown : w.ownsMap Tryd.prog 32 flElem b nn (FD L)) :
    SeqStopsK F n Tryd.prog 55 #[.pointer (some ⟨Bm, 0, none⟩)] (fun x : Lh.Fl => #[valF x]) KeepsWalks (fun xs => xs.Perm L) (fun _ => True) L.length w := fun l J Jx W hW hJ _ hY h0 =>
  valuesF_in F n hf hro hn l Bm b nn L hp J Jx hY W hJ ((hW.cell (p := ⟨Bm, 0, none⟩) hB).trans hm) (by
    obtain ⟨es, clock, hb, Ft, hs, hD⟩ := hown
    exact ⟨es, clock, (hW.block b (Array.getElem?_eq_some_iff.1 hb).1).trans hb, Ft, hs, hD⟩) h0

set_option maxHeartbeats 1000000 in
theorem valuesF_call (F : Fence) (n : Nat) (hf : F.fn 36) (hro : F.round = none) (mb : Option Nat) (w : World) :
    CallsIn F n Tryd.prog 36 #[.map mb] w fun e w' => e = .returned (.func (.func 55) #[] #[.pointer (some ⟨w.heap.size, 0, none⟩)]) ∧ w' = w.alloc (.cells #[.map mb] 71) := by
  refine callsIn_of_wp Tryd.func36 rfl hf ?_ hro
  simp only [Tryd.ntmps36, List.size_toArray, List.length_cons, List.length_nil, Nat.reduceAdd, Nat.reduceSub, Array.replicate_succ, Array.replicate_zero, List.push_toArray, List.append_toArray, List.nil_append, List.cons_append]
  gi_wp2
  go_ret
  exact ⟨rfl, rfl⟩
end Go.Proofs.YtmkdpchodeckgaaDoor
