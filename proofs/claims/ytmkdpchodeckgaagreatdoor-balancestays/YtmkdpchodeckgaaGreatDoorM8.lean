/- The landed flows' values, one by one: maps.Values of a map of flows, in whatever order. -/
import Derived.Test.YtmkdpchodeckgaaGreatDoorM7
import Derived.Test.YtmkdpchodeckgaaGreatDoorProg
import Derived.RangeFuncNested
import Derived.RangeFuncLeaves
import Derived.Shelf.Abstract
import Derived.Shelf.AbstractIn
import Derived.Sort.MapsRangeIn
import Derived.WalkKit
import Derived.OwnWalkIn
import Derived.TacticsInMore
import Derived.RegionIn
import Derived.LoopNIn
import Derived.LoopIn
import Derived.Maps.RangeWalk
import Derived.Laws.IdiomRangeMap
import Derived.Deep.LoopGhost
namespace Go.Proofs.YtmkdpchodeckgaaGreatDoor
open Go.RowKit Go.Maps Go.ChangeMaps Go.Shelf
attribute [local go_sem] Oper.semAt_some

/-- what has come out of the map so far -/
def Coll (L : List Lh.Fl) (left : Lit → Bool) (ps : List Lh.Fl) : Prop := ps.Nodup ∧ ∀ x, x ∈ ps ↔ (x ∈ L ∧ left (keyF x.1) = false)
theorem rise_inj {L : List Lh.Fl} (hp : L.Pairwise fun x y => x.1 < y.1) {x y : Lh.Fl} (hx : x ∈ L) (hy : y ∈ L) (e : x.1 = y.1) : x = y := by
  obtain ⟨i, hi, rfl⟩ := List.getElem_of_mem hx
  obtain ⟨j, hj, rfl⟩ := List.getElem_of_mem hy
  rcases Nat.lt_trichotomy i j with h | h | h
  · have := List.pairwise_iff_getElem.1 hp i j hi hj h
    omega
  · subst h; rfl
  · have := List.pairwise_iff_getElem.1 hp j i hj hi h
    omega
theorem rise_nodup {L : List Lh.Fl} (hp : L.Pairwise fun x y => x.1 < y.1) : L.Nodup := hp.imp fun h e => by subst e; omega
theorem Coll.start (L : List Lh.Fl) : Coll L (has (FD L)) [] := by
  refine ⟨List.nodup_nil, fun x => ?_⟩
  rw [FD_has]
  constructor
  · intro h; cases h
  · rintro ⟨h1, h2⟩
    have := Lh.fix_lt.2 ⟨x, h1, rfl⟩
    simp [this] at h2
theorem Coll.step {L : List Lh.Fl} {left : Lit → Bool} {ps : List Lh.Fl} (hp : L.Pairwise fun x y => x.1 < y.1) (h : Coll L left ps) {x : Lh.Fl} (hx : x ∈ L) (hl : left (keyF x.1) = true) : Coll L (fun z => left z && !z.sameKey (keyF x.1)) (ps ++ [x]) := by
  refine ⟨?_, fun y => ?_⟩
  · rw [List.nodup_append]
    refine ⟨h.1, by simp, fun a ha b hb e => ?_⟩
    simp at hb
    subst hb
    subst e
    have := ((h.2 a).1 ha).2
    rw [this] at hl
    cases hl
  · rw [List.mem_append, h.2 y, List.mem_singleton]
    simp only [same_keyF]
    constructor
    · rintro (⟨h1, h2⟩ | rfl)
      · exact ⟨h1, by rw [h2]; rfl⟩
      · exact ⟨hx, by simp⟩
    · rintro ⟨h1, h2⟩
      by_cases e : y.1 = x.1
      · exact Or.inr (rise_inj hp h1 hx e)
      · simp [e] at h2
        exact Or.inl ⟨h1, h2⟩
theorem Coll.perm {L : List Lh.Fl} {left : Lit → Bool} {ps : List Lh.Fl} (hp : L.Pairwise fun x y => x.1 < y.1) (h : Coll L left ps) (hl : ∀ kl, left kl = false) : ps.Perm L := by
  rw [List.perm_ext_iff_of_nodup h.1 (rise_nodup hp)]
  intro x
  rw [h.2 x, hl]
  simp
theorem FD_at_all {L : List Lh.Fl} {kl : Lit} {yd : DataW Unit} (h : ∀ zd, (FD L).atKey kl zd = yd) : ∃ x ∈ L, kl = keyF x.1 ∧ yd = datF x := by
  unfold FD DataW.atKey at h
  cases e : (L.map entF).find? (fun p => p.1.sameKey kl) with
  | none =>
    simp only [e] at h
    have h1 := h .nil
    have h2 := h (.map [])
    rw [← h1] at h2
    cases h2
  | some p =>
    simp only [e] at h
    obtain ⟨x, hx, rfl⟩ := List.mem_map.1 (List.mem_of_find?_eq_some e)
    have hk : (keyF x.1).sameKey kl = true := List.find?_some (p := fun p : Lit × DataW Unit => p.1.sameKey kl) e
    exact ⟨x, hx, (WideAt.sameKey_eq hk).symm, (h .nil).symm⟩
theorem u64Keyed : Keyed Tryz.prog 32 := int_keyed Tryz.underlying32

set_option maxRecDepth 100000 in
set_option maxHeartbeats 2000000 in
/-- maps.Values's iterator, for every loop body. -/
theorem valuesF_in (F : Fence) (n : Nat) (hf : F.fn 90) (hro : F.round = none) (_hn : 1 ≤ n) (l Bm b nn : Nat) (L : List Lh.Fl) (hp : L.Pairwise fun x y => x.1 < y.1) (J Jx : List Lh.Fl → World → Prop)
    (hY : ∀ pre x W, J pre W → pre.length < L.length → YieldAt F (n - 1) Tryz.prog l #[valF x] W fun e W' =>
      (e = .returned (.bool true) ∧ J (pre ++ [x]) W' ∧ KeepsWalks W W') ∨ (e = .returned (.bool false) ∧ Jx (pre ++ [x]) W'))
    (W : World) (hJ : AbidesFrom W.heap.size J) (hm : W.cell? ⟨Bm, 0, none⟩ = some (.map (some b))) (hown : W.ownsMap Tryz.prog 32 flElem b nn (FD L)) (h0 : J [] W) :
    CallsIn F n Tryz.prog 90 #[.func (.yield l) #[] #[], .pointer (some ⟨Bm, 0, none⟩)] W fun e W' => (∃ v, e = .returned v) ∧
      ((∃ xs, xs.Perm L ∧ J xs W') ∨ (∃ pre, True ∧ Jx pre W')) := by
  refine callsIn_of_wp Tryz.func90 rfl hf ?_ hro
  simp only [Tryz.ntmps90, List.size_toArray, List.length_cons, List.length_nil, Nat.reduceAdd, Nat.reduceSub, Array.replicate_succ, Array.replicate_zero, List.push_toArray, List.append_toArray, List.nil_append, List.cons_append]
  gi_wp2_with (first
    | (gi_at_range; refine wpListIn_range_own _ rfl _ 90 rfl 32 48 u64Keyed Tryz.underlying90 flElem b nn _ rfl hown ?_; intro w0 hrg0 hg0 hs0)
    | gi_in)
  go_frame
  gi_loopw [4] (fun _ wr => ∃ (left : Lit → Bool) (cnt : Nat) (ps : List Lh.Fl), wr.ranges Tryz.prog 32 flElem b W.heap.size nn (FD L) left cnt ∧ ps.length + cnt ≤ L.length ∧ Coll L left ps ∧ J ps wr)
    (fun _ wr => wr.rangeLeft b W.heap.size)
  case atStart =>
    exact ⟨_, _, [], hrg0, by rw [FD_size]; simp, Coll.start L, hJ [] W w0 none h0 hg0 (fun r e => by cases e)⟩
  case round =>
    obtain ⟨left, cnt, ps, hrg, hcs, hC, hJs⟩ := hrel
    gi_wp2_with (first
      | (gi_at_next; refine wpListIn_next_ranges _ rfl _ rfl 32 u64Keyed flElem id id (fun key _ _ => ⟨key, rfl⟩) (fun v _ _ => ⟨v, rfl⟩) b W.heap.size nn _ _ _ rfl hrg ?_ ?_)
      | gi_in)
    · intro hc0 hl0
      gi_wp2
      go_end0
      exact ⟨⟨_, rfl⟩, .inl ⟨ps, hC.perm hp hl0, hJs⟩⟩
    · intro key c kl yd yp w2 cnt2 hkey hlk hv hat hrg2 hlt hg2 hs2 hen
      obtain ⟨x, hx, rfl, rfl⟩ := FD_at_all hat
      obtain rfl : c = valF x := flElem_inv hv
      have hJ2 : J ps w2 := hJ ps wr w2 (some W.heap.size) hJs hg2 (fun r e => by cases e; exact ⟨Nat.le_refl _, hrg.iter_walk⟩)
      have hC2 := hC.step hp hx hlk
      have hlen : ps.length < L.length := by omega
      clear hs2 hv hat hkey hC hlk
      have hga := World.grownBy_alloc w2 (.cells #[.int .u64 (x.1 : Nat), .string x.2.1, .int .i64 x.2.2] 48) none
      obtain ⟨fn, tmps, assign, body, hy, hR⟩ := hY ps x _ (hJ ps w2 _ none hJ2 hga (fun r e => by cases e)) hlen
      have hrg3 := hrg2.kept hga (by simp) (by simp)
      clear hJ2 hY
      unfold valF at hen hy
      gi_wp2
      refine hR.mono ?_
      rintro e W3 (⟨rfl, hJ3, hk3⟩ | ⟨rfl, hJx3⟩)
      · gi_wp2
        have hrg4 := hrg3.of_walks hk3
        go_roundw
        case rel => exact ⟨_, cnt2, ps ++ [x], hrg4, by simp; omega, hC2, hJ3⟩
        case measure => rw [hrg4.left_eq, hrg.left_eq]; exact hlt
      · gi_wp2
        refine bodyPost_ret (results_none rfl _ _ _) rfl ?_
        exact ⟨⟨_, rfl⟩, .inr ⟨ps ++ [x], trivial, hJx3⟩⟩

/-- maps.Values hands back a value that gives all of them, in some order. -/
theorem valuesF_stops (F : Fence) (n : Nat) (hf : F.fn 90) (hro : F.round = none) (hn : 1 ≤ n) (Bm b nn : Nat) (L : List Lh.Fl) (hp : L.Pairwise fun x y => x.1 < y.1) (w : World) (hB : Bm < w.heap.size)
    (hm : w.cell? ⟨Bm, 0, none⟩ = some (.map (some b))) (hown : w.ownsMap Tryz.prog 32 flElem b nn (FD L)) :
    SeqStopsK F n Tryz.prog 90 #[.pointer (some ⟨Bm, 0, none⟩)] (fun x : Lh.Fl => #[valF x]) KeepsWalks (fun xs => xs.Perm L) (fun _ => True) L.length w := fun l J Jx W hW hJ _ hY h0 =>
  valuesF_in F n hf hro hn l Bm b nn L hp J Jx hY W hJ ((hW.cell (p := ⟨Bm, 0, none⟩) hB).trans hm) (by
    obtain ⟨es, clock, hb, Ft, hs, hD⟩ := hown
    exact ⟨es, clock, (hW.block b (Array.getElem?_eq_some_iff.1 hb).1).trans hb, Ft, hs, hD⟩) h0

set_option maxHeartbeats 1000000 in
theorem valuesF_call (F : Fence) (n : Nat) (hf : F.fn 58) (hro : F.round = none) (mb : Option Nat) (w : World) :
    CallsIn F n Tryz.prog 58 #[.map mb] w fun e w' => e = .returned (.func (.func 90) #[] #[.pointer (some ⟨w.heap.size, 0, none⟩)]) ∧ w' = w.alloc (.cells #[.map mb] 90) := by
  refine callsIn_of_wp Tryz.func58 rfl hf ?_ hro
  simp only [Tryz.ntmps58, List.size_toArray, List.length_cons, List.length_nil, Nat.reduceAdd, Nat.reduceSub, Array.replicate_succ, Array.replicate_zero, List.push_toArray, List.append_toArray, List.nil_append, List.cons_append]
  gi_wp2
  go_ret
  exact ⟨rfl, rfl⟩
end Go.Proofs.YtmkdpchodeckgaaGreatDoor

/- The landed flows: has, isFull, isName. -/
namespace Go.Proofs.YtmkdpchodeckgaaGreatDoor
open Go.RowKit Go.Maps Go.ChangeMaps
section
variable {W W' : World} {p mb t : Nat} {la : Int} {L : List Lh.Fl}

theorem zeroFl (w : World) : (zeroValue 48).run Tryz.prog w = .ok (valF (0, ⟨#[]⟩, 0)) w := Tryz.zeroValue48 w
theorem wfK {z : Nat} (h : z < 18446744073709551616) : (Lit.int .u64 (z : Nat)).wf = true := by
  simp [Lit.wf, IntKind.min, IntKind.max, IntKind.signed, IntKind.bits]
  omega
theorem keyK (z : Nat) (h : z < 18446744073709551616) : keyOf Tryz.prog 32 (.int .u64 (z : Nat)) = some (keyF z) := keyOf_int_mk Tryz.underlying32 (wfK h)
/-- 'v, ok := m[k]' -/
theorem FR.look (h : FR W p mb t la L) (k : Nat) (hk : k < 18446744073709551616) : (∃ hx : Lh.fix L k < L.length, (Instr.lookup 90 (.map (some mb)) (.int .u64 (k : Nat)) true).run Tryz.prog W = .ok (.tuple #[.agg #[.int .u64 ((L[Lh.fix L k]).1 : Nat), .string (L[Lh.fix L k]).2.1, .int .i64 (L[Lh.fix L k]).2.2], .bool true]) W) ∨
    (¬ Lh.fix L k < L.length ∧ (Instr.lookup 90 (.map (some mb)) (.int .u64 (k : Nat)) true).run Tryz.prog W = .ok (.tuple #[.agg #[.int .u64 0, .string ⟨#[]⟩, .int .i64 0], .bool false]) W) := by
  obtain ⟨v, ps, hrun, hv⟩ := h.own.look_ok u64Keyed Tryz.underlying90 (zeroFl W) (flElem_mk _) (keyK k hk)
  rw [FD_has] at hrun
  by_cases hx : Lh.fix L k < L.length
  · rw [FD_hit hx] at hv
    obtain rfl := flElem_inv hv
    rw [decide_eq_true hx] at hrun
    exact Or.inl ⟨hx, hrun⟩
  · rw [FD_miss hx] at hv
    obtain rfl := flElem_inv hv
    rw [decide_eq_false hx] at hrun
    exact Or.inr ⟨hx, hrun⟩

set_option maxHeartbeats 2000000 in
theorem hasF_any (h : FR W p mb t la L) (k : Nat) (hk : k < 18446744073709551616) :
    Calls Tryz.prog 45 #[.pointer (some ⟨p, 0, none⟩), .int .u64 (k : Nat)] W fun e W' => e = .returned (.bool (decide (Lh.fix L k < L.length))) ∧ Below W.heap.size W W' := by
  have c2 := h.c2
  rcases h.look k hk with ⟨hx, hrun⟩ | ⟨hx, hrun⟩
  · rw [decide_eq_true hx]
    generalize (L[Lh.fix L k]) = z at hrun
    clear h hx
    go_enter Tryz.func45, Tryz.ntmps45
    go_wp2
    go_ret
    exact ⟨rfl, (Below.refl _ _).alloc (Nat.le_refl _) _⟩
  · rw [decide_eq_false hx]
    clear h hx
    go_enter Tryz.func45, Tryz.ntmps45
    go_wp2
    go_ret
    exact ⟨rfl, (Below.refl _ _).alloc (Nat.le_refl _) _⟩

set_option maxHeartbeats 2000000 in
theorem fullF_any (h : FR W p mb t la L) :
    Calls Tryz.prog 46 #[.pointer (some ⟨p, 0, none⟩)] W fun e W' => e = .returned (.bool (decide (200 ≤ L.length))) ∧ Below W.heap.size W W' := by
  have c2 := h.c2
  have hlen := fun ty => h.own.len Tryz.underlying90 ty
  rw [FD_size] at hlen
  clear h
  have d : decide ((200 : Int) ≤ (L.length : Int)) = decide (200 ≤ L.length) := decide_eq_decide.2 (by omega)
  go_enter Tryz.func46, Tryz.ntmps46
  go_wp2
  go_ret
  exact ⟨rfl, Below.refl _ _⟩

theorem fault_lone {s : ByteArray} {c : Nat} {pl : Int} (h : IsFault [s] c pl) : (Lh.isNm s = true ∧ c = 0) ∨ (Lh.isNm s = false ∧ c ≠ 0) := by
  rcases h with ⟨h, _⟩ | ⟨_, i, hi, _, _, hc⟩ | ⟨_, h, hc, _⟩
  · simp at h
  · have : i = 0 := by simp at hi; omega
    subst this
    rcases hc with ⟨h, rfl⟩ | ⟨_, h, _⟩
    · exact Or.inr ⟨h, by decide⟩
    · simp [Lh.mem] at h
  · exact Or.inl ⟨(h 0 (by simp)).1, hc⟩
set_option maxHeartbeats 2000000 in
theorem isNameF_any (a : Nat → Addr) (he : EF a W) (s : ByteArray) (hs : s.size ≤ 300) :
    Calls Tryz.prog 44 #[.string s] W fun e W' => e = .returned (.bool (Lh.isNm s)) ∧ Below W.heap.size W W' := by
  have hb0 : Below W.heap.size W (W.alloc (.cells #[.string s] 9)) := (Below.refl _ _).alloc (Nat.le_refl _) _
  obtain ⟨c, pl, hf⟩ := isFault_ex [s]
  have hchk := check_any4 a (.slice (some ⟨W.heap.size, 0, none⟩) 1 1) [s] (W.alloc (.cells #[.string s] 9)) c pl (he.e4.later hb0) (Or.inr ⟨_, _, _, rfl, Nat.le_refl _, fun k h => by
    have : k = 0 := by simp at h; omega
    subst this
    simp⟩) hf (fun k h => by
    have : k = 0 := by simp at h; omega
    subst this
    simp; omega) (by simp)
  have HF : Hid ((Lh.isNm s = true ∧ c = 0) ∨ (Lh.isNm s = false ∧ c ≠ 0)) := fault_lone hf
  clear he hf
  go_enter Tryz.func44, Tryz.ntmps44
  go_wp2_with fail
  refine hchk.mono ?_
  rintro e w1 ⟨ev, rfl, hev, hb1⟩
  have hb : Below W.heap.size W w1 := below_then hb0 hb1
  clear hchk
  rcases HF.out with ⟨h1, rfl⟩ | ⟨h1, h2⟩
  · obtain rfl := err0 hev
    have H1 : Hid (_ = _) := h1
    clear hev h1 HF
    go_wp2
    go_ret
    exact ⟨by rw [H1.out]; rfl, hb⟩
  · obtain ⟨t, x, rfl⟩ := errPos hev h2
    have H1 : Hid (_ = _) := h1
    clear hev h1 HF
    go_wp2
    go_ret
    exact ⟨by rw [H1.out]; rfl, hb⟩
end
end Go.Proofs.YtmkdpchodeckgaaGreatDoor

/- maps.DeleteFunc of a map of flows. -/
namespace Go.Proofs.YtmkdpchodeckgaaGreatDoor
open Go.RowKit Go.Maps Go.ChangeMaps Go.Shelf

/-- those that stay, and those that are still to come -/
def stayF (L : List Lh.Fl) (pd : Lh.Fl → Bool) (left : Lit → Bool) : List Lh.Fl := L.filter fun x => left (keyF x.1) || !pd x
theorem stayF_start (L : List Lh.Fl) (pd : Lh.Fl → Bool) : stayF L pd (has (FD L)) = L := by
  unfold stayF
  rw [List.filter_eq_self]
  intro x hx
  rw [FD_has, decide_eq_true (Lh.fix_lt.2 ⟨x, hx, rfl⟩)]
  rfl
theorem stayF_end {L : List Lh.Fl} {pd : Lh.Fl → Bool} {left : Lit → Bool} (h : ∀ kl, left kl = false) : stayF L pd left = L.filter fun x => !pd x := by
  unfold stayF
  exact List.filter_congr fun x _ => by rw [h]; rfl
theorem stayF_no {L : List Lh.Fl} {pd : Lh.Fl → Bool} {left : Lit → Bool} (hp : L.Pairwise fun x y => x.1 < y.1) {x : Lh.Fl} (hx : x ∈ L) (hl : left (keyF x.1) = true) (hd : pd x = false) : stayF L pd (fun z => left z && !z.sameKey (keyF x.1)) = stayF L pd left := by
  unfold stayF
  refine List.filter_congr fun y hy => ?_
  simp only [same_keyF]
  by_cases e : y.1 = x.1
  · obtain rfl := rise_inj hp hy hx e
    simp [hl, hd]
  · simp [e]
theorem stayF_yes {L : List Lh.Fl} {pd : Lh.Fl → Bool} {left : Lit → Bool} (hp : L.Pairwise fun x y => x.1 < y.1) {x : Lh.Fl} (hx : x ∈ L) (hd : pd x = true) : stayF L pd (fun z => left z && !z.sameKey (keyF x.1)) = (stayF L pd left).filter fun y => !decide (y.1 = x.1) := by
  unfold stayF
  rw [List.filter_filter]
  refine List.filter_congr fun y hy => ?_
  simp only [same_keyF]
  by_cases e : y.1 = x.1
  · obtain rfl := rise_inj hp hy hx e
    simp [hd]
  · simp [e]
theorem key_of_lit {key : Value} {k : Nat} (h : keyOf Tryz.prog 32 key = some (keyF k)) : key = .int .u64 (k : Nat) := by
  obtain ⟨x, rfl, e, _⟩ := keyOf_int_inv Tryz.underlying32 h
  simp only [keyF, Lit.int.injEq, true_and] at e
  rw [← e]

set_option maxHeartbeats 4000000 in
set_option maxRecDepth 100000 in
theorem delFuncF (pd : Lh.Fl → Bool) (g : Nat) (cb : Array Value) (b nn : Nat) (L : List Lh.Fl) (hp : L.Pairwise fun x y => x.1 < y.1) (w : World)
    (eg : ∀ args w, (callFunc g args).run Tryz.prog w = .ok (.enter g args) w) (hown : w.ownsMap Tryz.prog 32 flElem b nn (FD L))
    (hdel : ∀ (W : World) (x : Lh.Fl), w.grownBy W (some b) → x ∈ L → Calls Tryz.prog g (#[.int .u64 (x.1 : Nat), valF x] ++ cb) W fun e w' => e = .returned (.bool (pd x)) ∧ W.grownBy w' none) :
    Calls Tryz.prog 80 #[.map (some b), .func (.func g) #[] cb] w fun e w' => e = .returned (.tuple #[]) ∧ w'.ownsMap Tryz.prog 32 flElem b nn (FD (L.filter fun x => !pd x)) ∧ w.grownBy w' (some b) := by
  have HD : Aside _ := hdel
  clear hdel
  go_enter Tryz.func80, Tryz.ntmps80
  go_wp2_with (first
    | (at_range; refine wpList_range_own _ rfl _ 90 rfl 32 48 u64Keyed Tryz.underlying90 flElem b nn _ rfl hown ?_; intro w0 hrg0 hg0 hs0)
    | go_in)
  go_frame
  go_loopw [8] (fun _ wr => ∃ (left : Lit → Bool) (cnt : Nat), wr.ranges Tryz.prog 32 flElem b w.heap.size nn (FD (stayF L pd left)) left cnt ∧ w.grownBy wr (some b))
    (fun _ wr => wr.rangeLeft b w.heap.size)
  case atStart => exact ⟨_, _, by rw [stayF_start]; exact hrg0, hg0.but _⟩
  case round =>
    obtain ⟨left, cnt, hrg, hgw⟩ := hrel
    go_wp2_with (first
      | (at_next; refine wpList_next_ranges _ rfl _ rfl 32 u64Keyed flElem id id (fun key _ _ => ⟨key, rfl⟩) (fun v _ _ => ⟨v, rfl⟩) b w.heap.size nn _ _ _ rfl hrg ?_ ?_)
      | go_in)
    · intro _ hl0
      go_wp2
      go_end0
      exact ⟨rfl, by rw [← stayF_end hl0]; exact hrg.owns, hgw⟩
    · intro key c kl yd yp w1 cnt1 hkey hlx hv hat hrg1 hlt hg1 hs1 hen
      obtain ⟨x, hx', rfl, rfl⟩ := FD_at_all hat
      obtain rfl : c = valF x := flElem_inv hv
      obtain rfl := key_of_lit hkey
      have hx : x ∈ L := (List.mem_filter.1 hx').1
      have hgw1 := hgw.andThen hg1 (fun j hj => by cases hj; exact Or.inl (Nat.le_refl _))
      have hga := World.grownBy_alloc w1 (.cells #[.int .u64 (x.1 : Nat), .string x.2.1, .int .i64 x.2.2] 48) none
      have hgw2 := hgw1.andThen hga (fun j hj => by cases hj)
      have hrg2 := hrg1.kept hga (by simp) (by simp)
      have hc := HD.out _ x hgw2 hx
      have hbl := hrg1.owns.lt
      have hrl := hrg1.lt
      clear hv hat hx' hs1
      unfold valF at hen hc
      cases hpd : pd x <;> rw [hpd] at hc
      · go_wp2_with fail
        refine hc.mono ?_
        rintro e w2 ⟨rfl, hg2⟩
        have hrg3 := hrg2.kept hg2 (by simp) (by simp)
        go_wp2
        go_roundw
        case rel => exact ⟨_, cnt1, by rw [stayF_no hp hx hlx hpd]; exact hrg3, hgw2.andThen hg2 (fun j hj => by cases hj)⟩
        case measure => rw [hrg3.left_eq, hrg.left_eq]; exact hlt
      · go_wp2_with fail
        refine hc.mono ?_
        rintro e w2 ⟨rfl, hg2⟩
        have hrg3 := hrg2.kept hg2 (by simp) (by simp)
        go_wp2_with (first
          | (at_delete; refine wpList_delete_ranges _ rfl _ _ 90 32 rfl 48 u64Keyed Tryz.underlying90 flElem b w.heap.size nn _ _ _ rfl hrg3 _ _ rfl hkey ?_; intro w3 cnt3 hrg4 hle hturn; go_frame)
          | go_in)
        rw [strike_twice, FD_del, ← stayF_yes hp hx hpd] at hrg4
        go_roundw
        case rel => exact ⟨_, cnt3, hrg4, (hgw2.andThen hg2 (fun j hj => by cases hj)).andThen hturn.grown (fun j hj => by cases hj; exact Or.inr rfl)⟩
        case measure => rw [hrg4.left_eq, hrg.left_eq]; omega
end Go.Proofs.YtmkdpchodeckgaaGreatDoor
