/- What the laws of flows ask of the landed package. -/
import Derived.Test.YtmdckddenelneaaGreatDoorM7
import Derived.Test.YtmdckddenelneaaGreatDoorM0
import Derived.Test.YtmdckddenelneaaGreatDoorM4
import Derived.Maps.OwnOps
import Derived.BigQuiet
import Derived.Deep.RegionHeld3
import Derived.Test.YtmdckddenelneaaGreatDoorProg
import Derived.RangeFuncNested
import Derived.RangeFuncLeaves
import Derived.Shelf.Abstract
import Derived.Shelf.AbstractIn
import Derived.Sort.MapsRangeIn
import Derived.WalkKit
import Derived.OwnWalkIn
import Derived.TacticsInMore
import Derived.RegionIn
import Derived.LoopNIn
import Derived.LoopIn
namespace Go.Proofs.YtmdckddenelneaaGreatDoor
open Go.RowKit

/-- What is wrong with a tick: the error. -/
def TickF (last now : Int) (k : Nat) : Prop := ((now < 0 ∨ 1099511627776 < now) ∧ k = 1) ∨ (0 ≤ now ∧ now ≤ 1099511627776 ∧ now < last ∧ k = 7)
def TickOk (last now : Int) : Prop := 0 ≤ now ∧ now ≤ 1099511627776 ∧ last ≤ now
theorem tick_ex (last now : Int) : TickOk last now ∨ ∃ k, TickF last now k := by
  by_cases h : now < 0 ∨ 1099511627776 < now
  · exact Or.inr ⟨1, Or.inl ⟨h, rfl⟩⟩
  · by_cases h2 : now < last
    · exact Or.inr ⟨7, Or.inr ⟨by omega, by omega, h2, rfl⟩⟩
    · exact Or.inl ⟨by omega, by omega, by omega⟩
/-- A list of flows in memory. -/
def Flows1 (w : World) (v : Value) (L : List Lh.Fl) : Prop :=
  (L = [] ∧ (v = .slice none 0 0 ∨ ∃ ad c, v = .slice (some ad) 0 c)) ∨ ∃ b o c, v = .slice (some ⟨b, o, none⟩) L.length c ∧ L.length ≤ c ∧ ∀ i (h : i < L.length), w.cell? ⟨b, o + i * 3, none⟩ = some (.int .u64 (L[i].1 : Nat)) ∧ w.cell? ⟨b, o + i * 3 + 1, none⟩ = some (.string L[i].2.1) ∧ w.cell? ⟨b, o + i * 3 + 2, none⟩ = some (.int .i64 L[i].2.2)
theorem Flows1.later {w w' : World} {v : Value} {L : List Lh.Fl} (h : Flows1 w v L) (hb : Below w.heap.size w w') : Flows1 w' v L := by
  rcases h with h | ⟨b, o, c, e, hc, h⟩
  · exact Or.inl h
  · exact Or.inr ⟨b, o, c, e, hc, fun i hi => ⟨below_cell hb (h i hi).1, below_cell hb (h i hi).2.1, below_cell hb (h i hi).2.2⟩⟩
theorem Flows1.shape {w : World} {v : Value} {L : List Lh.Fl} (h : Flows1 w v L) : ∃ p c, v = .slice p L.length c := by
  rcases h with ⟨rfl, rfl | ⟨ad, c, rfl⟩⟩ | ⟨b, o, c, rfl, _⟩
  · exact ⟨_, _, rfl⟩
  · exact ⟨_, c, rfl⟩
  · exact ⟨_, _, rfl⟩
/-- a new list of flows, of the callee's own making -/
def FlowsNew (B : Nat) (w : World) (v : Value) (L : List Lh.Fl) : Prop := (L = [] ∧ (v = .slice none 0 0 ∨ ∃ ad c, v = .slice (some ad) 0 c)) ∨ ∃ g c, v = .slice (some ⟨g, 0, none⟩) L.length c ∧ L.length ≤ c ∧ B ≤ g ∧ (∀ i (h : i < L.length), w.cell? ⟨g, i * 3, none⟩ = some (.int .u64 (L[i].1 : Nat)) ∧ w.cell? ⟨g, i * 3 + 1, none⟩ = some (.string L[i].2.1) ∧ w.cell? ⟨g, i * 3 + 2, none⟩ = some (.int .i64 L[i].2.2)) ∧ ∀ k, k < L.length * 3 → w.frozen? ⟨g, k, none⟩ = false
theorem FlowsNew.flows {B : Nat} {W : World} {v : Value} {L : List Lh.Fl} (h : FlowsNew B W v L) : Flows1 W v L := by
  rcases h with h | ⟨g, c, h1, h2, _, h3, _⟩
  · exact Or.inl h
  · exact Or.inr ⟨g, 0, c, h1, h2, by simpa only [Nat.zero_add] using h3⟩
theorem FlowsNew.later {B : Nat} {W W' : World} {v : Value} {L : List Lh.Fl} (h : FlowsNew B W v L) (hb : Below W.heap.size W W') : FlowsNew B W' v L := by
  rcases h with h | ⟨g, c, h1, h2, hg, h3, h4⟩
  · exact Or.inl h
  · refine Or.inr ⟨g, c, h1, h2, hg, fun i hi => ⟨below_cell hb (h3 i hi).1, below_cell hb (h3 i hi).2.1, below_cell hb (h3 i hi).2.2⟩, fun k hk => ?_⟩
    have hlt : g < W.heap.size := World.block_lt_of_cell? W ⟨g, 0 * 3, none⟩ (h3 0 (by omega)).1
    exact (World.frozen?_of_block (w := W) (w' := W') (a := ⟨g, k, none⟩) (hb.block g hlt)).trans (h4 k hk)
theorem FlowsNew.base {B B' : Nat} {W : World} {v : Value} {L : List Lh.Fl} (h : FlowsNew B W v L) (hb : B' ≤ B) : FlowsNew B' W v L := by
  rcases h with h | ⟨g, c, h1, h2, hg, h3⟩
  · exact Or.inl h
  · exact Or.inr ⟨g, c, h1, h2, Nat.le_trans hb hg, h3⟩
/-- The first flow whose host is no name. -/
def NmAt (l : List Lh.Fl) (i : Nat) : Prop := ∃ h : i < l.length, Lh.isNm (l[i]).2.1 = false ∧ ∀ j (hj : j < l.length), j < i → Lh.isNm (l[j]).2.1 = true
/-- flows as they come: keys and ticks that a machine has, hosts not too long -/
def FlIn (l : List Lh.Fl) : Prop := ∀ x ∈ l, x.1 < 18446744073709551616 ∧ x.2.1.size ≤ 300 ∧ -9223372036854775808 ≤ x.2.2 ∧ x.2.2 ≤ 9223372036854775807
end Go.Proofs.YtmdckddenelneaaGreatDoor

/- The landed flows in memory: a block and a map; New, checkNow, has, isFull. -/
namespace Go.Proofs.YtmdckddenelneaaGreatDoor
open Go.RowKit Go.Maps Go.ChangeMaps

/-- Block p is the landed flows, its map is block mb. -/
structure FR (W : World) (p mb t : Nat) (la : Int) (L : List Lh.Fl) : Prop where
  c0 : W.cell? ⟨p, 0, none⟩ = some (.int .i64 (t : Nat))
  c1 : W.cell? ⟨p, 1, none⟩ = some (.int .i64 la)
  c2 : W.cell? ⟨p, 2, none⟩ = some (.map (some mb))
  fz : ∀ k, W.frozen? ⟨p, k, none⟩ = false
  own : W.ownsMap Tryz.prog 27 flElem mb L.length (FD L)
  ne : p ≠ mb
def FFt (p mb : Nat) (b : Nat) : Prop := b = p ∨ b = mb
section
variable {W W' : World} {p mb t : Nat} {la : Int} {L : List Lh.Fl}
theorem FR.plt (h : FR W p mb t la L) : p < W.heap.size := World.block_lt_of_cell? W ⟨p, 0, none⟩ h.c0
theorem FR.mlt (h : FR W p mb t la L) : mb < W.heap.size := h.own.lt
theorem FR.lt (h : FR W p mb t la L) : ∀ b, FFt p mb b → b < W.heap.size := by
  rintro b (rfl | rfl)
  · exact h.plt
  · exact h.mlt
theorem FR.stay (h : FR W p mb t la L) (hs : ∀ b, FFt p mb b → W'.heap[b]? = W.heap[b]?) : FR W' p mb t la L := by
  have hm := hs p (Or.inl rfl)
  have hn := hs mb (Or.inr rfl)
  refine ⟨?_, ?_, ?_, fun k => ?_, ?_, h.ne⟩
  · rw [World.cell?_of_block (w := W) (w' := W') (a := ⟨p, 0, none⟩) hm]; exact h.c0
  · rw [World.cell?_of_block (w := W) (w' := W') (a := ⟨p, 1, none⟩) hm]; exact h.c1
  · rw [World.cell?_of_block (w := W) (w' := W') (a := ⟨p, 2, none⟩) hm]; exact h.c2
  · rw [World.frozen?_of_block (w := W) (w' := W') (a := ⟨p, k, none⟩) hm]; exact h.fz k
  · obtain ⟨es, clock, hb, r⟩ := h.own
    exact ⟨es, clock, hn.trans hb, r⟩
theorem FR.later (h : FR W p mb t la L) (hb : Below W.heap.size W W') : FR W' p mb t la L := h.stay fun b hf => hb.block b (h.lt b hf)
theorem FR.tick (h : FR W p mb t la L) (now : Int) : FR (W.setCell ⟨p, 1, none⟩ (.int .i64 now)) p mb t now L := by
  refine ⟨?_, ?_, ?_, fun k => ?_, ?_, h.ne⟩
  · rw [World.cell?_setCell_other _ _ _ _ (by simp)]; exact h.c0
  · exact World.cell?_setCell_same' _ _ _ (by rw [h.c1]; rfl)
  · rw [World.cell?_setCell_other _ _ _ _ (by simp)]; exact h.c2
  · rw [World.frozen?_setCell]; exact h.fz k
  · exact h.own.setCell (fun e => h.ne e.symm) _
theorem ownsMap_tight {w : World} {P : Program} {k : TypeId} {R : Value → Option (DataW Unit × List MemPlace)} {b n : Nat} {D : DataW Unit} (h : w.ownsMap P k R b n D) : w.ownsMap P k R b (Maps.size D) D := by
  obtain ⟨es, clock, hb, F, hs, rfl⟩ := h
  refine ⟨es, clock, hb, F, ?_, rfl⟩
  simp [Maps.size, length_sorted]
theorem Tur.ticked (now : Int) : Tur (FFt p mb) W (W.setCell ⟨p, 1, none⟩ (.int .i64 now)) :=
  ⟨rfl, rfl, rfl, by simp, fun k _ hf => Below.heap_setCell _ _ _ k (fun e => hf (Or.inl e))⟩

/-- what the package asks of the variables -/
structure EF (a : Nat → Addr) (w : World) : Prop where
  e4 : Errs4 a w
  s7 : w.cell? ⟨7, 0, none⟩ = some (.iface 331 (.pointer (some (a 7))))
theorem EF.later {a : Nat → Addr} {w w' : World} (h : EF a w) (hb : Below w.heap.size w w') : EF a w' := ⟨h.e4.later hb, below_cell hb h.s7⟩
theorem EF.of {a : Nat → Addr} {w : World} (h : Errs a w) : EF a w := ⟨h.four, h.s7⟩

set_option maxHeartbeats 2000000 in
theorem newF_good (t : Nat) (W : World) (h1 : 1 ≤ t) (h2 : t ≤ 1000) :
    Calls Tryz.prog 79 #[.int .i64 (t : Nat)] W fun e W' => ∃ p mb, e = .returned (.tuple #[.pointer (some ⟨p, 0, none⟩), .nilIface]) ∧ FR W' p mb t 0 [] ∧ W.heap.size ≤ p ∧ W.heap.size ≤ mb ∧ Below W.heap.size W W' := by
  have d1 : decide ((t : Int) < 1) = false := by simp; omega
  have d2 : decide (1000 < (t : Int)) = false := by simp; omega
  have hmm := @run_makeMap Tryz.prog
  go_enter Tryz.func79, Tryz.ntmps79
  go_wp2
  go_ret2
  refine ⟨W.heap.size + 1, W.heap.size, rfl, ⟨by simp, by simp, by simp, fun k => by simp, ?_, by omega⟩, by omega, Nat.le_refl _, ((Below.refl _ _).alloc (Nat.le_refl _) _).alloc (by simp) _⟩
  exact (World.ownsMap_made W _ _ _).alloc _

set_option maxHeartbeats 2000000 in
theorem checkF_ok (h : FR W p mb t la L) (now : Int) (hok : TickOk la now) :
    Calls Tryz.prog 162 #[.pointer (some ⟨p, 0, none⟩), .int .i64 now] W fun e W' => e = .returned .nilIface ∧ Below W.heap.size W W' := by
  obtain ⟨h1, h2, h3⟩ := hok
  have c1 := h.c1
  have d1 : decide (now < 0) = false := by simp; omega
  have d2 : decide (1099511627776 < now) = false := by simp; omega
  have d3 : decide (now < la) = false := by simp; omega
  clear h h1 h2 h3
  go_enter Tryz.func162, Tryz.ntmps162
  go_wp2
  go_ret
  exact ⟨rfl, Below.refl _ _⟩
set_option maxHeartbeats 2000000 in
theorem checkF_bad (a : Nat → Addr) (he : EF a W) (h : FR W p mb t la L) (now : Int) (j : Nat) (hf : TickF la now j) :
    Calls Tryz.prog 162 #[.pointer (some ⟨p, 0, none⟩), .int .i64 now] W fun e W' => e = .returned (.iface 331 (.pointer (some (a j)))) ∧ Below W.heap.size W W' := by
  have c1 := h.c1
  have s1 := he.e4.s1
  have s7 := he.s7
  clear h he
  rcases hf with ⟨hf, rfl⟩ | ⟨h1, h2, h3, rfl⟩
  · by_cases h0 : now < 0
    · have d1 : decide (now < 0) = true := by simpa using h0
      clear hf h0
      go_enter Tryz.func162, Tryz.ntmps162
      go_wp2
      go_ret
      exact ⟨rfl, Below.refl _ _⟩
    · have d1 : decide (now < 0) = false := by simpa using h0
      have d2 : decide (1099511627776 < now) = true := by simp; omega
      clear hf h0
      go_enter Tryz.func162, Tryz.ntmps162
      go_wp2
      go_ret
      exact ⟨rfl, Below.refl _ _⟩
  · have d1 : decide (now < 0) = false := by simp; omega
    have d2 : decide (1099511627776 < now) = false := by simp; omega
    have d3 : decide (now < la) = true := by simpa using h3
    clear h1 h2 h3
    go_enter Tryz.func162, Tryz.ntmps162
    go_wp2
    go_ret
    exact ⟨rfl, Below.refl _ _⟩
end
end Go.Proofs.YtmdckddenelneaaGreatDoor

/- The landed flows' values, one by one: maps.Values of a map of flows, in whatever order. -/
namespace Go.Proofs.YtmdckddenelneaaGreatDoor
open Go.RowKit Go.Maps Go.ChangeMaps Go.Shelf
attribute [local go_sem] Oper.semAt_some

/-- what has come out of the map so far -/
def Coll (L : List Lh.Fl) (left : Lit → Bool) (ps : List Lh.Fl) : Prop := ps.Nodup ∧ ∀ x, x ∈ ps ↔ (x ∈ L ∧ left (keyF x.1) = false)
theorem rise_inj {L : List Lh.Fl} (hp : L.Pairwise fun x y => x.1 < y.1) {x y : Lh.Fl} (hx : x ∈ L) (hy : y ∈ L) (e : x.1 = y.1) : x = y := by
  obtain ⟨i, hi, rfl⟩ := List.getElem_of_mem hx
  obtain ⟨j, hj, rfl⟩ := List.getElem_of_mem hy
  rcases Nat.lt_trichotomy i j with h | h | h
  · have := List.pairwise_iff_getElem.1 hp i j hi hj h
    omega
  · subst h; rfl
  · have := List.pairwise_iff_getElem.1 hp j i hj hi h
    omega
theorem rise_nodup {L : List Lh.Fl} (hp : L.Pairwise fun x y => x.1 < y.1) : L.Nodup := hp.imp fun h e => by subst e; omega
theorem Coll.start (L : List Lh.Fl) : Coll L (has (FD L)) [] := by
  refine ⟨List.nodup_nil, fun x => ?_⟩
  rw [FD_has]
  constructor
  · intro h; cases h
  · rintro ⟨h1, h2⟩
    have := Lh.fix_lt.2 ⟨x, h1, rfl⟩
    simp [this] at h2
theorem Coll.step {L : List Lh.Fl} {left : Lit → Bool} {ps : List Lh.Fl} (hp : L.Pairwise fun x y => x.1 < y.1) (h : Coll L left ps) {x : Lh.Fl} (hx : x ∈ L) (hl : left (keyF x.1) = true) : Coll L (fun z => left z && !z.sameKey (keyF x.1)) (ps ++ [x]) := by
  refine ⟨?_, fun y => ?_⟩
  · rw [List.nodup_append]
    refine ⟨h.1, by simp, fun a ha b hb e => ?_⟩
    simp at hb
    subst hb
    subst e
    have := ((h.2 a).1 ha).2
    rw [this] at hl
    cases hl
  · rw [List.mem_append, h.2 y, List.mem_singleton]
    simp only [same_keyF]
    constructor
    · rintro (⟨h1, h2⟩ | rfl)
      · exact ⟨h1, by rw [h2]; rfl⟩
      · exact ⟨hx, by simp⟩
    · rintro ⟨h1, h2⟩
      by_cases e : y.1 = x.1
      · exact Or.inr (rise_inj hp h1 hx e)
      · simp [e] at h2
        exact Or.inl ⟨h1, h2⟩
theorem Coll.perm {L : List Lh.Fl} {left : Lit → Bool} {ps : List Lh.Fl} (hp : L.Pairwise fun x y => x.1 < y.1) (h : Coll L left ps) (hl : ∀ kl, left kl = false) : ps.Perm L := by
  rw [List.perm_ext_iff_of_nodup h.1 (rise_nodup hp)]
  intro x
  rw [h.2 x, hl]
  simp
theorem FD_at_all {L : List Lh.Fl} {kl : Lit} {yd : DataW Unit} (h : ∀ zd, (FD L).atKey kl zd = yd) : ∃ x ∈ L, kl = keyF x.1 ∧ yd = datF x := by
  unfold FD DataW.atKey at h
  cases e : (L.map entF).find? (fun p => p.1.sameKey kl) with
  | none =>
    simp only [e] at h
    have h1 := h .nil
    have h2 := h (.map [])
    rw [← h1] at h2
    cases h2
  | some p =>
    simp only [e] at h
    obtain ⟨x, hx, rfl⟩ := List.mem_map.1 (List.mem_of_find?_eq_some e)
    have hk : (keyF x.1).sameKey kl = true := List.find?_some (p := fun p : Lit × DataW Unit => p.1.sameKey kl) e
    exact ⟨x, hx, (WideAt.sameKey_eq hk).symm, (h .nil).symm⟩
theorem u64Keyed : Keyed Tryz.prog 27 := int_keyed Tryz.underlying27

set_option maxRecDepth 100000 in
set_option maxHeartbeats 2000000 in
/-- maps.Values's iterator, for every loop body. -/
theorem valuesF_in (F : Fence) (n : Nat) (hf : F.fn 89) (hro : F.round = none) (_hn : 1 ≤ n) (l Bm b nn : Nat) (L : List Lh.Fl) (hp : L.Pairwise fun x y => x.1 < y.1) (J Jx : List Lh.Fl → World → Prop)
    (hY : ∀ pre x W, J pre W → pre.length < L.length → YieldAt F (n - 1) Tryz.prog l #[valF x] W fun e W' =>
      (e = .returned (.bool true) ∧ J (pre ++ [x]) W' ∧ KeepsWalks W W') ∨ (e = .returned (.bool false) ∧ Jx (pre ++ [x]) W'))
    (W : World) (hJ : AbidesFrom W.heap.size J) (hm : W.cell? ⟨Bm, 0, none⟩ = some (.map (some b))) (hown : W.ownsMap Tryz.prog 27 flElem b nn (FD L)) (h0 : J [] W) :
    CallsIn F n Tryz.prog 89 #[.func (.yield l) #[] #[], .pointer (some ⟨Bm, 0, none⟩)] W fun e W' => (∃ v, e = .returned v) ∧
      ((∃ xs, xs.Perm L ∧ J xs W') ∨ (∃ pre, True ∧ Jx pre W')) := by
  refine callsIn_of_wp Tryz.func89 rfl hf ?_ hro
  simp only [Tryz.ntmps89, List.size_toArray, List.length_cons, List.length_nil, Nat.reduceAdd, Nat.reduceSub, Array.replicate_succ, Array.replicate_zero, List.push_toArray, List.append_toArray, List.nil_append, List.cons_append]
  gi_wp2_with (first
    | (gi_at_range; refine wpListIn_range_own _ rfl _ 119 rfl 27 82 u64Keyed Tryz.underlying119 flElem b nn _ rfl hown ?_; intro w0 hrg0 hg0 hs0)
    | gi_in)
  go_frame
  gi_loopw [4] (fun _ wr => ∃ (left : Lit → Bool) (cnt : Nat) (ps : List Lh.Fl), wr.ranges Tryz.prog 27 flElem b W.heap.size nn (FD L) left cnt ∧ ps.length + cnt ≤ L.length ∧ Coll L left ps ∧ J ps wr)
    (fun _ wr => wr.rangeLeft b W.heap.size)
  case atStart =>
    exact ⟨_, _, [], hrg0, by rw [FD_size]; simp, Coll.start L, hJ [] W w0 none h0 hg0 (fun r e => by cases e)⟩
  case round =>
    obtain ⟨left, cnt, ps, hrg, hcs, hC, hJs⟩ := hrel
    gi_wp2_with (first
      | (gi_at_next; refine wpListIn_next_ranges _ rfl _ rfl 27 u64Keyed flElem id id (fun key _ _ => ⟨key, rfl⟩) (fun v _ _ => ⟨v, rfl⟩) b W.heap.size nn _ _ _ rfl hrg ?_ ?_)
      | gi_in)
    · intro hc0 hl0
      gi_wp2
      go_end0
      exact ⟨⟨_, rfl⟩, .inl ⟨ps, hC.perm hp hl0, hJs⟩⟩
    · intro key c kl yd yp w2 cnt2 hkey hlk hv hat hrg2 hlt hg2 hs2 hen
      obtain ⟨x, hx, rfl, rfl⟩ := FD_at_all hat
      obtain rfl : c = valF x := flElem_inv hv
      have hJ2 : J ps w2 := hJ ps wr w2 (some W.heap.size) hJs hg2 (fun r e => by cases e; exact ⟨Nat.le_refl _, hrg.iter_walk⟩)
      have hC2 := hC.step hp hx hlk
      have hlen : ps.length < L.length := by omega
      clear hs2 hv hat hkey hC hlk
      have hga := World.grownBy_alloc w2 (.cells #[.int .u64 (x.1 : Nat), .string x.2.1, .int .i64 x.2.2] 82) none
      obtain ⟨fn, tmps, assign, body, hy, hR⟩ := hY ps x _ (hJ ps w2 _ none hJ2 hga (fun r e => by cases e)) hlen
      have hrg3 := hrg2.kept hga (by simp) (by simp)
      clear hJ2 hY
      unfold valF at hen hy
      gi_wp2
      refine hR.mono ?_
      rintro e W3 (⟨rfl, hJ3, hk3⟩ | ⟨rfl, hJx3⟩)
      · gi_wp2
        have hrg4 := hrg3.of_walks hk3
        go_roundw
        case rel => exact ⟨_, cnt2, ps ++ [x], hrg4, by simp; omega, hC2, hJ3⟩
        case measure => rw [hrg4.left_eq, hrg.left_eq]; exact hlt
      · gi_wp2
        refine bodyPost_ret (results_none rfl _ _ _) rfl ?_
        exact ⟨⟨_, rfl⟩, .inr ⟨ps ++ [x], trivial, hJx3⟩⟩

/-- maps.Values hands back a value that gives all of them, in some order. -/
theorem valuesF_stops (F : Fence) (n : Nat) (hf : F.fn 89) (hro : F.round = none) (hn : 1 ≤ n) (Bm b nn : Nat) (L : List Lh.Fl) (hp : L.Pairwise fun x y => x.1 < y.1) (w : World) (hB : Bm < w.heap.size)
    (hm : w.cell? ⟨Bm, 0, none⟩ = some (.map (some b))) (hown : w.ownsMap Tryz.prog 27 flElem b nn (FD L)) :
    SeqStopsK F n Tryz.prog 89 #[.pointer (some ⟨Bm, 0, none⟩)] (fun x : Lh.Fl => #[valF x]) KeepsWalks (fun xs => xs.Perm L) (fun _ => True) L.length w := fun l J Jx W hW hJ _ hY h0 =>
  valuesF_in F n hf hro hn l Bm b nn L hp J Jx hY W hJ ((hW.cell (p := ⟨Bm, 0, none⟩) hB).trans hm) (by
    obtain ⟨es, clock, hb, Ft, hs, hD⟩ := hown
    exact ⟨es, clock, (hW.block b (Array.getElem?_eq_some_iff.1 hb).1).trans hb, Ft, hs, hD⟩) h0

set_option maxHeartbeats 1000000 in
theorem valuesF_call (F : Fence) (n : Nat) (hf : F.fn 55) (hro : F.round = none) (mb : Option Nat) (w : World) :
    CallsIn F n Tryz.prog 55 #[.map mb] w fun e w' => e = .returned (.func (.func 89) #[] #[.pointer (some ⟨w.heap.size, 0, none⟩)]) ∧ w' = w.alloc (.cells #[.map mb] 119) := by
  refine callsIn_of_wp Tryz.func55 rfl hf ?_ hro
  simp only [Tryz.ntmps55, List.size_toArray, List.length_cons, List.length_nil, Nat.reduceAdd, Nat.reduceSub, Array.replicate_succ, Array.replicate_zero, List.push_toArray, List.append_toArray, List.nil_append, List.cons_append]
  gi_wp2
  go_ret
  exact ⟨rfl, rfl⟩
end Go.Proofs.YtmdckddenelneaaGreatDoor
