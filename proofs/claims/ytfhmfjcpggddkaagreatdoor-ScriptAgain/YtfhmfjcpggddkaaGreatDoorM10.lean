/- Flows in a map: what the map reads as, key by key. -/
import Derived.Test.YtfhmfjcpggddkaaGreatDoorM2
import Derived.Maps.OwnSet
import Derived.Maps.Ext
import Derived.Test.YtfhmfjcpggddkaaGreatDoorProg
import Derived.RangeFuncNested
import Derived.RangeFuncLeaves
import Derived.Shelf.Abstract
import Derived.Shelf.AbstractIn
import Derived.Sort.MapsRangeIn
import Derived.WalkKit
import Derived.OwnWalkIn
import Derived.TacticsInMore
import Derived.RegionIn
import Derived.LoopNIn
import Derived.LoopIn
namespace Go.Proofs.YtfhmfjcpggddkaaGreatDoor
open Go.RowKit Go.Maps Go.ChangeMaps

/-- a flow as a value, and as a datum -/
def valF (x : Lh.Fl) : Value := .agg #[.int .u64 (x.1 : Nat), .string x.2.1, .int .i64 x.2.2]
def datF (x : Lh.Fl) : DataW Unit := .agg [.lit (.int .u64 (x.1 : Nat)), .lit (.string x.2.1.data.toList), .lit (.int .i64 x.2.2)]
def keyF (k : Nat) : Lit := .int .u64 (k : Nat)
def entF (x : Lh.Fl) : Lit × DataW Unit := (keyF x.1, datF x)
def FD (L : List Lh.Fl) : DataW Unit := .map (L.map entF)
/-- how a flow in a map is read -/
def flElem (v : Value) : Option (DataW Unit × List MemPlace) :=
  match v with
  | .agg a =>
    match a.toList with
    | [.int .u64 k, .string s, .int .i64 u] => some (.agg [.lit (.int .u64 k), .lit (.string s.data.toList), .lit (.int .i64 u)], [])
    | _ => none
  | _ => none
theorem flElem_mk (x : Lh.Fl) : flElem (valF x) = some (datF x, []) := rfl
theorem flElem_any {v : Value} {z : DataW Unit × List MemPlace} (h : flElem v = some z) : ∃ k s u, v = .agg #[.int .u64 k, .string s, .int .i64 u] ∧ z = (.agg [.lit (.int .u64 k), .lit (.string s.data.toList), .lit (.int .i64 u)], []) := by
  unfold flElem at h
  split at h
  · split at h
    · rename_i a _ k s u e
      refine ⟨k, s, u, ?_, by injection h with h; exact h.symm⟩
      congr 1
      exact Array.toList_inj.1 e
    · cases h
  · cases h
theorem flElem_inv {v : Value} {x : Lh.Fl} {ps : List MemPlace} (h : flElem v = some (datF x, ps)) : v = valF x := by
  obtain ⟨k, s, u, rfl, hz⟩ := flElem_any h
  simp only [datF, Prod.mk.injEq, DataW.agg.injEq, List.cons.injEq, DataW.lit.injEq, Lit.int.injEq, Lit.string.injEq, true_and, and_true] at hz
  obtain ⟨⟨h1, h2, h3⟩, _⟩ := hz
  have h2' : s = x.2.1 := by
    obtain ⟨sd⟩ := s
    obtain ⟨a, ⟨td⟩, c⟩ := x
    simp only [ByteArray.mk.injEq]
    exact (Array.toList_inj.1 h2).symm
  rw [← h1, h2', ← h3]
  rfl
theorem same_keyF (a b : Nat) : (keyF a).sameKey (keyF b) = decide (a = b) := by
  simp only [keyF, Lit.sameKey, true_and]
  by_cases h : a = b
  · simp [h]
  · have : ¬ ((a : Nat) : Int) = (b : Nat) := by omega
    simp [h, this]
theorem before_keyF (a b : Nat) : (keyF a).before (keyF b) = decide (a < b) := by
  simp only [keyF, Lit.before]
  by_cases h : a < b
  · simp [h]
  · simp [h]
theorem FD_size (L : List Lh.Fl) : Maps.size (FD L) = L.length := by simp [FD, Maps.size]
theorem find_entF (k : Nat) : ∀ L : List Lh.Fl, (L.map entF).find? (fun p => p.1.sameKey (keyF k)) = (L.find? fun x => decide (x.1 = k)).map entF
  | [] => rfl
  | x :: L => by
    rw [List.map_cons, List.find?_cons, List.find?_cons, show (entF x).1 = keyF x.1 from rfl, same_keyF]
    by_cases h : x.1 = k
    · simp [h]
    · simp only [h, decide_false]
      exact find_entF k L
theorem find_fix {L : List Lh.Fl} {k : Nat} (h : Lh.fix L k < L.length) : (L.find? fun x => decide (x.1 = k)) = some (L[Lh.fix L k]) := by
  unfold Lh.fix at h ⊢
  rw [← List.getElem?_eq_getElem h]
  exact (List.find?_eq_getElem?_findIdx).trans rfl
theorem find_nofix {L : List Lh.Fl} {k : Nat} (h : ¬ Lh.fix L k < L.length) : (L.find? fun x => decide (x.1 = k)) = none := by
  rw [List.find?_eq_none]
  intro x hx he
  exact h (Lh.fix_lt.2 ⟨x, hx, by simpa using he⟩)
theorem FD_hit {L : List Lh.Fl} {k : Nat} (h : Lh.fix L k < L.length) (z : DataW Unit) : (FD L).atKey (keyF k) z = datF (L[Lh.fix L k]) := by
  simp only [FD, DataW.atKey]
  rw [find_entF, find_fix h]
  rfl
theorem FD_miss {L : List Lh.Fl} {k : Nat} (h : ¬ Lh.fix L k < L.length) (z : DataW Unit) : (FD L).atKey (keyF k) z = z := by
  simp only [FD, DataW.atKey]
  rw [find_entF, find_nofix h]
  rfl
theorem FD_has (L : List Lh.Fl) (k : Nat) : has (FD L) (keyF k) = decide (Lh.fix L k < L.length) := by
  simp only [FD, has]
  by_cases h : Lh.fix L k < L.length
  · rw [decide_eq_true h, List.any_eq_true]
    obtain ⟨x, hx, e⟩ := Lh.fix_lt.1 h
    exact ⟨entF x, List.mem_map.2 ⟨x, hx, rfl⟩, by rw [show (entF x).1 = keyF x.1 from rfl, same_keyF, e]; simp⟩
  · rw [decide_eq_false h, List.any_eq_false]
    intro p hp he
    obtain ⟨x, hx, rfl⟩ := List.mem_map.1 hp
    rw [show (entF x).1 = keyF x.1 from rfl, same_keyF] at he
    exact h (Lh.fix_lt.2 ⟨x, hx, by simpa using he⟩)
theorem filter_entF (p : Lh.Fl → Bool) (q : Lit × DataW Unit → Bool) (h : ∀ x, q (entF x) = p x) (L : List Lh.Fl) : (L.map entF).filter q = (L.filter p).map entF := by
  rw [List.filter_map]
  congr 1
  exact List.filter_congr fun x _ => h x
theorem FD_del (L : List Lh.Fl) (k : Nat) : (FD L).del (keyF k) = FD (L.filter fun x => !decide (x.1 = k)) := by
  simp only [FD, DataW.del]
  rw [filter_entF (fun x => !decide (x.1 = k)) _ (fun x => by rw [show (entF x).1 = keyF x.1 from rfl, same_keyF])]
theorem insert_entF (x : Lh.Fl) : ∀ L : List Lh.Fl, (∀ y ∈ L, y.1 ≠ x.1) → DataW.insert (entF x) (L.map entF) = (Lh.flay x L).map entF
  | [], _ => rfl
  | y :: L, h => by
    have hy := h y (by simp)
    rw [List.map_cons, DataW.insert, show (entF x).1 = keyF x.1 from rfl, show (entF y).1 = keyF y.1 from rfl, before_keyF]
    by_cases hlt : x.1 < y.1
    · have h2 : decide (y.1 < x.1) = false := by simp; omega
      rw [if_pos (by simpa using hlt)]
      simp [Lh.flay, h2]
    · have h2 : decide (y.1 < x.1) = true := by simp; omega
      rw [if_neg (by simpa using hlt), insert_entF x L fun z hz => h z (by simp [hz])]
      simp [Lh.flay, h2]
theorem FD_put (L : List Lh.Fl) (x : Lh.Fl) : (FD L).put (keyF x.1) (datF x) = FD (Lh.flay x (L.filter fun y => !decide (y.1 = x.1))) := by
  simp only [FD, DataW.put]
  rw [filter_entF (fun y => !decide (y.1 = x.1)) _ (fun y => by rw [show (entF y).1 = keyF y.1 from rfl, same_keyF]), show (keyF x.1, datF x) = entF x from rfl, insert_entF]
  intro y hy
  have := (List.mem_filter.1 hy).2
  simpa using this
/-- without the one at a place -/
theorem filter_erase : ∀ {L : List Lh.Fl} {i : Nat} (_ : L.Pairwise fun x y => x.1 < y.1) (hi : i < L.length), (L.filter fun y => !decide (y.1 = (L[i]).1)) = L.eraseIdx i
  | y :: L, 0, hp, hi => by
    rw [List.pairwise_cons] at hp
    simp only [List.getElem_cons_zero, List.eraseIdx_zero, List.tail_cons]
    rw [List.filter_cons_of_neg (by simp), List.filter_eq_self]
    intro z hz
    have := hp.1 z hz
    simp
    omega
  | y :: L, i + 1, hp, hi => by
    rw [List.pairwise_cons] at hp
    simp only [List.getElem_cons_succ, List.eraseIdx_cons_succ]
    have hi' : i < L.length := by simpa using hi
    have := hp.1 (L[i]) (List.getElem_mem hi')
    rw [List.filter_cons_of_pos (by simp; omega), filter_erase hp.2 hi']
theorem filter_none {L : List Lh.Fl} {k : Nat} (h : ¬ Lh.fix L k < L.length) : (L.filter fun y => !decide (y.1 = k)) = L := by
  rw [List.filter_eq_self]
  intro y hy
  have : y.1 ≠ k := fun e => h (Lh.fix_lt.2 ⟨y, hy, e⟩)
  simp [this]
theorem filter_fix {L : List Lh.Fl} {k : Nat} (hp : L.Pairwise fun x y => x.1 < y.1) (h : Lh.fix L k < L.length) : (L.filter fun y => !decide (y.1 = k)) = L.eraseIdx (Lh.fix L k) := by
  rw [← filter_erase hp h, Lh.fix_get h]
/-- what Put leaves: where the key has a flow, or there is room -/
theorem put_plain {L : List Lh.Fl} {k : Nat} (hp : L.Pairwise fun x y => x.1 < y.1) (h : Lh.fix L k < L.length ∨ L.length < 200) : (L.filter fun y => !decide (y.1 = k)) = Lh.frest L k := by
  unfold Lh.frest
  by_cases hf : Lh.fix L k < L.length
  · rw [if_pos hf, filter_fix hp hf]
  · rw [if_neg hf, if_neg (by omega), filter_none hf]
theorem put_full {L : List Lh.Fl} {k : Nat} (hf : ¬ Lh.fix L k < L.length) (h : 200 ≤ L.length) : ((L.eraseIdx (Lh.fleast L)).filter fun y => !decide (y.1 = k)) = Lh.frest L k := by
  unfold Lh.frest
  rw [if_neg hf, if_pos h, List.filter_eq_self]
  intro y hy
  have : y.1 ≠ k := fun e => hf (Lh.fix_lt.2 ⟨y, (List.eraseIdx_sublist _ _).mem hy, e⟩)
  simp [this]
/-- the first of the least tick, of the first i -/
def leastTo (L : List Lh.Fl) (i : Nat) : Nat := (List.range i).foldl (fun b i => if ((L.map fun x => x.2.2).getD i 0) < ((L.map fun x => x.2.2).getD b 0) then i else b) 0
theorem leastTo_all (L : List Lh.Fl) : leastTo L L.length = Lh.fleast L := rfl
theorem leastTo_one (L : List Lh.Fl) : leastTo L 1 = 0 := by simp [leastTo, List.range_succ]
theorem leastTo_succ (L : List Lh.Fl) (i : Nat) : leastTo L (i + 1) = if ((L.map fun x => x.2.2).getD i 0) < ((L.map fun x => x.2.2).getD (leastTo L i) 0) then i else leastTo L i := by
  simp [leastTo, List.range_succ, List.foldl_append]
theorem leastTo_lt (L : List Lh.Fl) {i : Nat} (h : 0 < i) : leastTo L i < i := by
  unfold leastTo
  refine Lh.foldl_lt _ (fun b i => ?_) _ _ h fun j hj => List.mem_range.1 hj
  split
  · exact Or.inr rfl
  · exact Or.inl rfl
theorem until_getD {L : List Lh.Fl} {i : Nat} (h : i < L.length) : (L.map fun x => x.2.2).getD i 0 = (L[i]).2.2 := by
  rw [List.getD_eq_getElem?_getD, List.getElem?_map, List.getElem?_eq_getElem h]
  rfl
end Go.Proofs.YtfhmfjcpggddkaaGreatDoor

/- The landed flows' values, one by one: maps.Values of a map of flows, in whatever order. -/
namespace Go.Proofs.YtfhmfjcpggddkaaGreatDoor
open Go.RowKit Go.Maps Go.ChangeMaps Go.Shelf
attribute [local go_sem] Oper.semAt_some

/-- what has come out of the map so far -/
def Coll (L : List Lh.Fl) (left : Lit → Bool) (ps : List Lh.Fl) : Prop := ps.Nodup ∧ ∀ x, x ∈ ps ↔ (x ∈ L ∧ left (keyF x.1) = false)
theorem rise_inj {L : List Lh.Fl} (hp : L.Pairwise fun x y => x.1 < y.1) {x y : Lh.Fl} (hx : x ∈ L) (hy : y ∈ L) (e : x.1 = y.1) : x = y := by
  obtain ⟨i, hi, rfl⟩ := List.getElem_of_mem hx
  obtain ⟨j, hj, rfl⟩ := List.getElem_of_mem hy
  rcases Nat.lt_trichotomy i j with h | h | h
  · have := List.pairwise_iff_getElem.1 hp i j hi hj h
    omega
  · subst h; rfl
  · have := List.pairwise_iff_getElem.1 hp j i hj hi h
    omega
theorem rise_nodup {L : List Lh.Fl} (hp : L.Pairwise fun x y => x.1 < y.1) : L.Nodup := hp.imp fun h e => by subst e; omega
theorem Coll.start (L : List Lh.Fl) : Coll L (has (FD L)) [] := by
  refine ⟨List.nodup_nil, fun x => ?_⟩
  rw [FD_has]
  constructor
  · intro h; cases h
  · rintro ⟨h1, h2⟩
    have := Lh.fix_lt.2 ⟨x, h1, rfl⟩
    simp [this] at h2
theorem Coll.step {L : List Lh.Fl} {left : Lit → Bool} {ps : List Lh.Fl} (hp : L.Pairwise fun x y => x.1 < y.1) (h : Coll L left ps) {x : Lh.Fl} (hx : x ∈ L) (hl : left (keyF x.1) = true) : Coll L (fun z => left z && !z.sameKey (keyF x.1)) (ps ++ [x]) := by
  refine ⟨?_, fun y => ?_⟩
  · rw [List.nodup_append]
    refine ⟨h.1, by simp, fun a ha b hb e => ?_⟩
    simp at hb
    subst hb
    subst e
    have := ((h.2 a).1 ha).2
    rw [this] at hl
    cases hl
  · rw [List.mem_append, h.2 y, List.mem_singleton]
    simp only [same_keyF]
    constructor
    · rintro (⟨h1, h2⟩ | rfl)
      · exact ⟨h1, by rw [h2]; rfl⟩
      · exact ⟨hx, by simp⟩
    · rintro ⟨h1, h2⟩
      by_cases e : y.1 = x.1
      · exact Or.inr (rise_inj hp h1 hx e)
      · simp [e] at h2
        exact Or.inl ⟨h1, h2⟩
theorem Coll.perm {L : List Lh.Fl} {left : Lit → Bool} {ps : List Lh.Fl} (hp : L.Pairwise fun x y => x.1 < y.1) (h : Coll L left ps) (hl : ∀ kl, left kl = false) : ps.Perm L := by
  rw [List.perm_ext_iff_of_nodup h.1 (rise_nodup hp)]
  intro x
  rw [h.2 x, hl]
  simp
theorem FD_at_all {L : List Lh.Fl} {kl : Lit} {yd : DataW Unit} (h : ∀ zd, (FD L).atKey kl zd = yd) : ∃ x ∈ L, kl = keyF x.1 ∧ yd = datF x := by
  unfold FD DataW.atKey at h
  cases e : (L.map entF).find? (fun p => p.1.sameKey kl) with
  | none =>
    simp only [e] at h
    have h1 := h .nil
    have h2 := h (.map [])
    rw [← h1] at h2
    cases h2
  | some p =>
    simp only [e] at h
    obtain ⟨x, hx, rfl⟩ := List.mem_map.1 (List.mem_of_find?_eq_some e)
    have hk : (keyF x.1).sameKey kl = true := List.find?_some (p := fun p : Lit × DataW Unit => p.1.sameKey kl) e
    exact ⟨x, hx, (WideAt.sameKey_eq hk).symm, (h .nil).symm⟩
theorem u64Keyed : Keyed Tryz.prog 63 := int_keyed Tryz.underlying63

set_option maxRecDepth 100000 in
set_option maxHeartbeats 2000000 in
/-- maps.Values's iterator, for every loop body. -/
theorem valuesF_in (F : Fence) (n : Nat) (hf : F.fn 247) (hro : F.round = none) (_hn : 1 ≤ n) (l Bm b nn : Nat) (L : List Lh.Fl) (hp : L.Pairwise fun x y => x.1 < y.1) (J Jx : List Lh.Fl → World → Prop)
    (hY : ∀ pre x W, J pre W → pre.length < L.length → YieldAt F (n - 1) Tryz.prog l #[valF x] W fun e W' =>
      (e = .returned (.bool true) ∧ J (pre ++ [x]) W' ∧ KeepsWalks W W') ∨ (e = .returned (.bool false) ∧ Jx (pre ++ [x]) W'))
    (W : World) (hJ : AbidesFrom W.heap.size J) (hm : W.cell? ⟨Bm, 0, none⟩ = some (.map (some b))) (hown : W.ownsMap Tryz.prog 63 flElem b nn (FD L)) (h0 : J [] W) :
    CallsIn F n Tryz.prog 247 #[.func (.yield l) #[] #[], .pointer (some ⟨Bm, 0, none⟩)] W fun e W' => (∃ v, e = .returned v) ∧
      ((∃ xs, xs.Perm L ∧ J xs W') ∨ (∃ pre, True ∧ Jx pre W')) := by
  refine callsIn_of_wp Tryz.func247 rfl hf ?_ hro
  simp only [Tryz.ntmps247, List.size_toArray, List.length_cons, List.length_nil, Nat.reduceAdd, Nat.reduceSub, Array.replicate_succ, Array.replicate_zero, List.push_toArray, List.append_toArray, List.nil_append, List.cons_append]
  gi_wp2_with (first
    | (gi_at_range; refine wpListIn_range_own _ rfl _ 251 rfl 63 80 u64Keyed Tryz.underlying251 flElem b nn _ rfl hown ?_; intro w0 hrg0 hg0 hs0)
    | gi_in)
  go_frame
  gi_loopw [4] (fun _ wr => ∃ (left : Lit → Bool) (cnt : Nat) (ps : List Lh.Fl), wr.ranges Tryz.prog 63 flElem b W.heap.size nn (FD L) left cnt ∧ ps.length + cnt ≤ L.length ∧ Coll L left ps ∧ J ps wr)
    (fun _ wr => wr.rangeLeft b W.heap.size)
  case atStart =>
    exact ⟨_, _, [], hrg0, by rw [FD_size]; simp, Coll.start L, hJ [] W w0 none h0 hg0 (fun r e => by cases e)⟩
  case round =>
    obtain ⟨left, cnt, ps, hrg, hcs, hC, hJs⟩ := hrel
    gi_wp2_with (first
      | (gi_at_next; refine wpListIn_next_ranges _ rfl _ rfl 63 u64Keyed flElem id id (fun key _ _ => ⟨key, rfl⟩) (fun v _ _ => ⟨v, rfl⟩) b W.heap.size nn _ _ _ rfl hrg ?_ ?_)
      | gi_in)
    · intro hc0 hl0
      gi_wp2
      go_end0
      exact ⟨⟨_, rfl⟩, .inl ⟨ps, hC.perm hp hl0, hJs⟩⟩
    · intro key c kl yd yp w2 cnt2 hkey hlk hv hat hrg2 hlt hg2 hs2 hen
      obtain ⟨x, hx, rfl, rfl⟩ := FD_at_all hat
      obtain rfl : c = valF x := flElem_inv hv
      have hJ2 : J ps w2 := hJ ps wr w2 (some W.heap.size) hJs hg2 (fun r e => by cases e; exact ⟨Nat.le_refl _, hrg.iter_walk⟩)
      have hC2 := hC.step hp hx hlk
      have hlen : ps.length < L.length := by omega
      clear hs2 hv hat hkey hC hlk
      have hga := World.grownBy_alloc w2 (.cells #[.int .u64 (x.1 : Nat), .string x.2.1, .int .i64 x.2.2] 80) none
      obtain ⟨fn, tmps, assign, body, hy, hR⟩ := hY ps x _ (hJ ps w2 _ none hJ2 hga (fun r e => by cases e)) hlen
      have hrg3 := hrg2.kept hga (by simp) (by simp)
      clear hJ2 hY
      unfold valF at hen hy
      gi_wp2
      refine hR.mono ?_
      rintro e W3 (⟨rfl, hJ3, hk3⟩ | ⟨rfl, hJx3⟩)
      · gi_wp2
        have hrg4 := hrg3.of_walks hk3
        go_roundw
        case rel => exact ⟨_, cnt2, ps ++ [x], hrg4, by simp; omega, hC2, hJ3⟩
        case measure => rw [hrg4.left_eq, hrg.left_eq]; exact hlt
      · gi_wp2
        refine bodyPost_ret (results_none rfl _ _ _) rfl ?_
        exact ⟨⟨_, rfl⟩, .inr ⟨ps ++ [x], trivial, hJx3⟩⟩

/-- maps.Values hands back a value that gives all of them, in some order. -/
theorem valuesF_stops (F : Fence) (n : Nat) (hf : F.fn 247) (hro : F.round = none) (hn : 1 ≤ n) (Bm b nn : Nat) (L : List Lh.Fl) (hp : L.Pairwise fun x y => x.1 < y.1) (w : World) (hB : Bm < w.heap.size)
    (hm : w.cell? ⟨Bm, 0, none⟩ = some (.map (some b))) (hown : w.ownsMap Tryz.prog 63 flElem b nn (FD L)) :
    SeqStopsK F n Tryz.prog 247 #[.pointer (some ⟨Bm, 0, none⟩)] (fun x : Lh.Fl => #[valF x]) KeepsWalks (fun xs => xs.Perm L) (fun _ => True) L.length w := fun l J Jx W hW hJ _ hY h0 =>
  valuesF_in F n hf hro hn l Bm b nn L hp J Jx hY W hJ ((hW.cell (p := ⟨Bm, 0, none⟩) hB).trans hm) (by
    obtain ⟨es, clock, hb, Ft, hs, hD⟩ := hown
    exact ⟨es, clock, (hW.block b (Array.getElem?_eq_some_iff.1 hb).1).trans hb, Ft, hs, hD⟩) h0

set_option maxHeartbeats 1000000 in
theorem valuesF_call (F : Fence) (n : Nat) (hf : F.fn 201) (hro : F.round = none) (mb : Option Nat) (w : World) :
    CallsIn F n Tryz.prog 201 #[.map mb] w fun e w' => e = .returned (.func (.func 247) #[] #[.pointer (some ⟨w.heap.size, 0, none⟩)]) ∧ w' = w.alloc (.cells #[.map mb] 251) := by
  refine callsIn_of_wp Tryz.func201 rfl hf ?_ hro
  simp only [Tryz.ntmps201, List.size_toArray, List.length_cons, List.length_nil, Nat.reduceAdd, Nat.reduceSub, Array.replicate_succ, Array.replicate_zero, List.push_toArray, List.append_toArray, List.nil_append, List.cons_append]
  gi_wp2
  go_ret
  exact ⟨rfl, rfl⟩
end Go.Proofs.YtfhmfjcpggddkaaGreatDoor
