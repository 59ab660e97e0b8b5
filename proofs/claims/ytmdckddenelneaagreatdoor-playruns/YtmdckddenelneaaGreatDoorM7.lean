/- The landed flows' values, one by one: maps.Values of a map of flows, in whatever order. -/
import Derived.Test.YtmdckddenelneaaGreatDoorM6
import Derived.Test.YtmdckddenelneaaGreatDoorProg
import Derived.RangeFuncNested
import Derived.RangeFuncLeaves
import Derived.Shelf.Abstract
import Derived.Shelf.AbstractIn
import Derived.Sort.MapsRangeIn
import Derived.WalkKit
import Derived.OwnWalkIn
import Derived.TacticsInMore
import Derived.RegionIn
import Derived.LoopNIn
import Derived.LoopIn
import Derived.Maps.RangeWalk
import Derived.Laws.IdiomRangeMap
import Derived.Deep.LoopGhost
import Derived.Test.YtmdckddenelneaaGreatDoorM0
import Derived.Test.YtmdckddenelneaaGreatDoorM1
import Derived.Maps.OwnOps
import Derived.Maps.OwnSet
import Derived.Carry
namespace Go.Proofs.YtmdckddenelneaaGreatDoor
open Go.RowKit Go.Maps Go.ChangeMaps Go.Shelf
attribute [local go_sem] Oper.semAt_some

/-- what has come out of the map so far -/
def Coll (L : List Lh.Fl) (left : Lit → Bool) (ps : List Lh.Fl) : Prop := ps.Nodup ∧ ∀ x, x ∈ ps ↔ (x ∈ L ∧ left (keyF x.1) = false)
theorem rise_inj {L : List Lh.Fl} (hp : L.Pairwise fun x y => x.1 < y.1) {x y : Lh.Fl} (hx : x ∈ L) (hy : y ∈ L) (e : x.1 = y.1) : x = y := by
  obtain ⟨i, hi, rfl⟩ := List.getElem_of_mem hx
  obtain ⟨j, hj, rfl⟩ := List.getElem_of_mem hy
  rcases Nat.lt_trichotomy i j with h | h | h
  · have := List.pairwise_iff_getElem.1 hp i j hi hj h
    omega
  · subst h; rfl
  · have := List.pairwise_iff_getElem.1 hp j i hj hi h
    omega
theorem rise_nodup {L : List Lh.Fl} (hp : L.Pairwise fun x y => x.1 < y.1) : L.Nodup := hp.imp fun h e => by subst e; omega
theorem Coll.start (L : List Lh.Fl) : Coll L (has (FD L)) [] := by
  refine ⟨List.nodup_nil, fun x => ?_⟩
  rw [FD_has]
  constructor
  · intro h; cases h
  · rintro ⟨h1, h2⟩
    have := Lh.fix_lt.2 ⟨x, h1, rfl⟩
    simp [this] at h2
theorem Coll.step {L : List Lh.Fl} {left : Lit → Bool} {ps : List Lh.Fl} (hp : L.Pairwise fun x y => x.1 < y.1) (h : Coll L left ps) {x : Lh.Fl} (hx : x ∈ L) (hl : left (keyF x.1) = true) : Coll L (fun z => left z && !z.sameKey (keyF x.1)) (ps ++ [x]) := by
  refine ⟨?_, fun y => ?_⟩
  · rw [List.nodup_append]
    refine ⟨h.1, by simp, fun a ha b hb e => ?_⟩
    simp at hb
    subst hb
    subst e
    have := ((h.2 a).1 ha).2
    rw [this] at hl
    cases hl
  · rw [List.mem_append, h.2 y, List.mem_singleton]
    simp only [same_keyF]
    constructor
    · rintro (⟨h1, h2⟩ | rfl)
      · exact ⟨h1, by rw [h2]; rfl⟩
      · exact ⟨hx, by simp⟩
    · rintro ⟨h1, h2⟩
      by_cases e : y.1 = x.1
      · exact Or.inr (rise_inj hp h1 hx e)
      · simp [e] at h2
        exact Or.inl ⟨h1, h2⟩
theorem Coll.perm {L : List Lh.Fl} {left : Lit → Bool} {ps : List Lh.Fl} (hp : L.Pairwise fun x y => x.1 < y.1) (h : Coll L left ps) (hl : ∀ kl, left kl = false) : ps.Perm L := by
  rw [List.perm_ext_iff_of_nodup h.1 (rise_nodup hp)]
  intro x
  rw [h.2 x, hl]
  simp
theorem FD_at_all {L : List Lh.Fl} {kl : Lit} {yd : DataW Unit} (h : ∀ zd, (FD L).atKey kl zd = yd) : ∃ x ∈ L, kl = keyF x.1 ∧ yd = datF x := by
  unfold FD DataW.atKey at h
  cases e : (L.map entF).find? (fun p => p.1.sameKey kl) with
  | none =>
    simp only [e] at h
    have h1 := h .nil
    have h2 := h (.map [])
    rw [← h1] at h2
    cases h2
  | some p =>
    simp only [e] at h
    obtain ⟨x, hx, rfl⟩ := List.mem_map.1 (List.mem_of_find?_eq_some e)
    have hk : (keyF x.1).sameKey kl = true := List.find?_some (p := fun p : Lit × DataW Unit => p.1.sameKey kl) e
    exact ⟨x, hx, (WideAt.sameKey_eq hk).symm, (h .nil).symm⟩
theorem u64Keyed : Keyed Tryz.prog 27 := int_keyed Tryz.underlying27

set_option maxRecDepth 100000 in
set_option maxHeartbeats 2000000 in
/-- maps.Values's iterator, for every loop body. -/
theorem valuesF_in (F : Fence) (n : Nat) (hf : F.fn 89) (hro : F.round = none) (_hn : 1 ≤ n) (l Bm b nn : Nat) (L : List Lh.Fl) (hp : L.Pairwise fun x y => x.1 < y.1) (J Jx : List Lh.Fl → World → Prop)
    (hY : ∀ pre x W, J pre W → pre.length < L.length → YieldAt F (n - 1) Tryz.prog l #[valF x] W fun e W' =>
      (e = .returned (.bool true) ∧ J (pre ++ [x]) W' ∧ KeepsWalks W W') ∨ (e = .returned (.bool false) ∧ Jx (pre ++ [x]) W'))
    (W : World) (hJ : AbidesFrom W.heap.size J) (hm : W.cell? ⟨Bm, 0, none⟩ = some (.map (some b))) (hown : W.ownsMap Tryz.prog 27 flElem b nn (FD L)) (h0 : J [] W) :
    CallsIn F n Tryz.prog 89 #[.func (.yield l) #[] #[], .pointer (some ⟨Bm, 0, none⟩)] W fun e W' => (∃ v, e = .returned v) ∧
      ((∃ xs, xs.Perm L ∧ J xs W') ∨ (∃ pre, True ∧ Jx pre W')) := by
  refine callsIn_of_wp Tryz.func89 rfl hf ?_ hro
  simp only [Tryz.ntmps89, List.size_toArray, List.length_cons, List.length_nil, Nat.reduceAdd, Nat.reduceSub, Array.replicate_succ, Array.replicate_zero, List.push_toArray, List.append_toArray, List.nil_append, List.cons_append]
  gi_wp2_with (first
    | (gi_at_range; refine wpListIn_range_own _ rfl _ 119 rfl 27 82 u64Keyed Tryz.underlying119 flElem b nn _ rfl hown ?_; intro w0 hrg0 hg0 hs0)
    | gi_in)
  go_frame
  gi_loopw [4] (fun _ wr => ∃ (left : Lit → Bool) (cnt : Nat) (ps : List Lh.Fl), wr.ranges Tryz.prog 27 flElem b W.heap.size nn (FD L) left cnt ∧ ps.length + cnt ≤ L.length ∧ Coll L left ps ∧ J ps wr)
    (fun _ wr => wr.rangeLeft b W.heap.size)
  case atStart =>
    exact ⟨_, _, [], hrg0, by rw [FD_size]; simp, Coll.start L, hJ [] W w0 none h0 hg0 (fun r e => by cases e)⟩
  case round =>
    obtain ⟨left, cnt, ps, hrg, hcs, hC, hJs⟩ := hrel
    gi_wp2_with (first
      | (gi_at_next; refine wpListIn_next_ranges _ rfl _ rfl 27 u64Keyed flElem id id (fun key _ _ => ⟨key, rfl⟩) (fun v _ _ => ⟨v, rfl⟩) b W.heap.size nn _ _ _ rfl hrg ?_ ?_)
      | gi_in)
    · intro hc0 hl0
      gi_wp2
      go_end0
      exact ⟨⟨_, rfl⟩, .inl ⟨ps, hC.perm hp hl0, hJs⟩⟩
    · intro key c kl yd yp w2 cnt2 hkey hlk hv hat hrg2 hlt hg2 hs2 hen
      obtain ⟨x, hx, rfl, rfl⟩ := FD_at_all hat
      obtain rfl : c = valF x := flElem_inv hv
      have hJ2 : J ps w2 := hJ ps wr w2 (some W.heap.size) hJs hg2 (fun r e => by cases e; exact ⟨Nat.le_refl _, hrg.iter_walk⟩)
      have hC2 := hC.step hp hx hlk
      have hlen : ps.length < L.length := by omega
      clear hs2 hv hat hkey hC hlk
      have hga := World.grownBy_alloc w2 (.cells #[.int .u64 (x.1 : Nat), .string x.2.1, .int .i64 x.2.2] 82) none
      obtain ⟨fn, tmps, assign, body, hy, hR⟩ := hY ps x _ (hJ ps w2 _ none hJ2 hga (fun r e => by cases e)) hlen
      have hrg3 := hrg2.kept hga (by simp) (by simp)
      clear hJ2 hY
      unfold valF at hen hy
      gi_wp2
      refine hR.mono ?_
      rintro e W3 (⟨rfl, hJ3, hk3⟩ | ⟨rfl, hJx3⟩)
      · gi_wp2
        have hrg4 := hrg3.of_walks hk3
        go_roundw
        case rel => exact ⟨_, cnt2, ps ++ [x], hrg4, by simp; omega, hC2, hJ3⟩
        case measure => rw [hrg4.left_eq, hrg.left_eq]; exact hlt
      · gi_wp2
        refine bodyPost_ret (results_none rfl _ _ _) rfl ?_
        exact ⟨⟨_, rfl⟩, .inr ⟨ps ++ [x], trivial, hJx3⟩⟩

/-- maps.Values hands back a value that gives all of them, in some order. -/
theorem valuesF_stops (F : Fence) (n : Nat) (hf : F.fn 89) (hro : F.round = none) (hn : 1 ≤ n) (Bm b nn : Nat) (L : List Lh.Fl) (hp : L.Pairwise fun x y => x.1 < y.1) (w : World) (hB : Bm < w.heap.size)
    (hm : w.cell? ⟨Bm, 0, none⟩ = some (.map (some b))) (hown : w.ownsMap Tryz.prog 27 flElem b nn (FD L)) :
    SeqStopsK F n Tryz.prog 89 #[.pointer (some ⟨Bm, 0, none⟩)] (fun x : Lh.Fl => #[valF x]) KeepsWalks (fun xs => xs.Perm L) (fun _ => True) L.length w := fun l J Jx W hW hJ _ hY h0 =>
  valuesF_in F n hf hro hn l Bm b nn L hp J Jx hY W hJ ((hW.cell (p := ⟨Bm, 0, none⟩) hB).trans hm) (by
    obtain ⟨es, clock, hb, Ft, hs, hD⟩ := hown
    exact ⟨es, clock, (hW.block b (Array.getElem?_eq_some_iff.1 hb).1).trans hb, Ft, hs, hD⟩) h0

set_option maxHeartbeats 1000000 in
theorem valuesF_call (F : Fence) (n : Nat) (hf : F.fn 55) (hro : F.round = none) (mb : Option Nat) (w : World) :
    CallsIn F n Tryz.prog 55 #[.map mb] w fun e w' => e = .returned (.func (.func 89) #[] #[.pointer (some ⟨w.heap.size, 0, none⟩)]) ∧ w' = w.alloc (.cells #[.map mb] 119) := by
  refine callsIn_of_wp Tryz.func55 rfl hf ?_ hro
  simp only [Tryz.ntmps55, List.size_toArray, List.length_cons, List.length_nil, Nat.reduceAdd, Nat.reduceSub, Array.replicate_succ, Array.replicate_zero, List.push_toArray, List.append_toArray, List.nil_append, List.cons_append]
  gi_wp2
  go_ret
  exact ⟨rfl, rfl⟩
end Go.Proofs.YtmdckddenelneaaGreatDoor

/- The landed flows: has, isFull, isName. -/
namespace Go.Proofs.YtmdckddenelneaaGreatDoor
open Go.RowKit Go.Maps Go.ChangeMaps
section
variable {W W' : World} {p mb t : Nat} {la : Int} {L : List Lh.Fl}

theorem zeroFl (w : World) : (zeroValue 82).run Tryz.prog w = .ok (valF (0, ⟨#[]⟩, 0)) w := Tryz.zeroValue82 w
theorem wfK {z : Nat} (h : z < 18446744073709551616) : (Lit.int .u64 (z : Nat)).wf = true := by
  simp [Lit.wf, IntKind.min, IntKind.max, IntKind.signed, IntKind.bits]
  omega
theorem keyK (z : Nat) (h : z < 18446744073709551616) : keyOf Tryz.prog 27 (.int .u64 (z : Nat)) = some (keyF z) := keyOf_int_mk Tryz.underlying27 (wfK h)
/-- 'v, ok := m[k]' -/
theorem FR.look (h : FR W p mb t la L) (k : Nat) (hk : k < 18446744073709551616) : (∃ hx : Lh.fix L k < L.length, (Instr.lookup 119 (.map (some mb)) (.int .u64 (k : Nat)) true).run Tryz.prog W = .ok (.tuple #[.agg #[.int .u64 ((L[Lh.fix L k]).1 : Nat), .string (L[Lh.fix L k]).2.1, .int .i64 (L[Lh.fix L k]).2.2], .bool true]) W) ∨
    (¬ Lh.fix L k < L.length ∧ (Instr.lookup 119 (.map (some mb)) (.int .u64 (k : Nat)) true).run Tryz.prog W = .ok (.tuple #[.agg #[.int .u64 0, .string ⟨#[]⟩, .int .i64 0], .bool false]) W) := by
  obtain ⟨v, ps, hrun, hv⟩ := h.own.look_ok u64Keyed Tryz.underlying119 (zeroFl W) (flElem_mk _) (keyK k hk)
  rw [FD_has] at hrun
  by_cases hx : Lh.fix L k < L.length
  · rw [FD_hit hx] at hv
    obtain rfl := flElem_inv hv
    rw [decide_eq_true hx] at hrun
    exact Or.inl ⟨hx, hrun⟩
  · rw [FD_miss hx] at hv
    obtain rfl := flElem_inv hv
    rw [decide_eq_false hx] at hrun
    exact Or.inr ⟨hx, hrun⟩

set_option maxHeartbeats 2000000 in
theorem hasF_any (h : FR W p mb t la L) (k : Nat) (hk : k < 18446744073709551616) :
    Calls Tryz.prog 165 #[.pointer (some ⟨p, 0, none⟩), .int .u64 (k : Nat)] W fun e W' => e = .returned (.bool (decide (Lh.fix L k < L.length))) ∧ Below W.heap.size W W' := by
  have c2 := h.c2
  rcases h.look k hk with ⟨hx, hrun⟩ | ⟨hx, hrun⟩
  · rw [decide_eq_true hx]
    generalize (L[Lh.fix L k]) = z at hrun
    clear h hx
    go_enter Tryz.func165, Tryz.ntmps165
    go_wp2
    go_ret
    exact ⟨rfl, (Below.refl _ _).alloc (Nat.le_refl _) _⟩
  · rw [decide_eq_false hx]
    clear h hx
    go_enter Tryz.func165, Tryz.ntmps165
    go_wp2
    go_ret
    exact ⟨rfl, (Below.refl _ _).alloc (Nat.le_refl _) _⟩

set_option maxHeartbeats 2000000 in
theorem fullF_any (h : FR W p mb t la L) :
    Calls Tryz.prog 166 #[.pointer (some ⟨p, 0, none⟩)] W fun e W' => e = .returned (.bool (decide (200 ≤ L.length))) ∧ Below W.heap.size W W' := by
  have c2 := h.c2
  have hlen := fun ty => h.own.len Tryz.underlying119 ty
  rw [FD_size] at hlen
  clear h
  have d : decide ((200 : Int) ≤ (L.length : Int)) = decide (200 ≤ L.length) := decide_eq_decide.2 (by omega)
  go_enter Tryz.func166, Tryz.ntmps166
  go_wp2
  go_ret
  exact ⟨rfl, Below.refl _ _⟩

theorem fault_lone {s : ByteArray} {c : Nat} {pl : Int} (h : IsFault [s] c pl) : (Lh.isNm s = true ∧ c = 0) ∨ (Lh.isNm s = false ∧ c ≠ 0) := by
  rcases h with ⟨h, _⟩ | ⟨_, i, hi, _, _, hc⟩ | ⟨_, h, hc, _⟩
  · simp at h
  · have : i = 0 := by simp at hi; omega
    subst this
    rcases hc with ⟨h, rfl⟩ | ⟨_, h, _⟩
    · exact Or.inr ⟨h, by decide⟩
    · simp [Lh.mem] at h
  · exact Or.inl ⟨(h 0 (by simp)).1, hc⟩
set_option maxHeartbeats 2000000 in
theorem isNameF_any (a : Nat → Addr) (he : EF a W) (s : ByteArray) (hs : s.size ≤ 300) :
    Calls Tryz.prog 164 #[.string s] W fun e W' => e = .returned (.bool (Lh.isNm s)) ∧ Below W.heap.size W W' := by
  have hb0 : Below W.heap.size W (W.alloc (.cells #[.string s] 9)) := (Below.refl _ _).alloc (Nat.le_refl _) _
  obtain ⟨c, pl, hf⟩ := isFault_ex [s]
  have hchk := check_any4 a (.slice (some ⟨W.heap.size, 0, none⟩) 1 1) [s] (W.alloc (.cells #[.string s] 9)) c pl (he.e4.later hb0) (Or.inr ⟨_, _, _, rfl, Nat.le_refl _, fun k h => by
    have : k = 0 := by simp at h; omega
    subst this
    simp⟩) hf (fun k h => by
    have : k = 0 := by simp at h; omega
    subst this
    simp; omega) (by simp)
  have HF : Hid ((Lh.isNm s = true ∧ c = 0) ∨ (Lh.isNm s = false ∧ c ≠ 0)) := fault_lone hf
  clear he hf
  go_enter Tryz.func164, Tryz.ntmps164
  go_wp2_with fail
  refine hchk.mono ?_
  rintro e w1 ⟨ev, rfl, hev, hb1⟩
  have hb : Below W.heap.size W w1 := below_then hb0 hb1
  clear hchk
  rcases HF.out with ⟨h1, rfl⟩ | ⟨h1, h2⟩
  · obtain rfl := err0 hev
    have H1 : Hid (_ = _) := h1
    clear hev h1 HF
    go_wp2
    go_ret
    exact ⟨by rw [H1.out]; rfl, hb⟩
  · obtain ⟨t, x, rfl⟩ := errPos hev h2
    have H1 : Hid (_ = _) := h1
    clear hev h1 HF
    go_wp2
    go_ret
    exact ⟨by rw [H1.out]; rfl, hb⟩
end
end Go.Proofs.YtmdckddenelneaaGreatDoor

/- maps.DeleteFunc of a map of flows. -/
namespace Go.Proofs.YtmdckddenelneaaGreatDoor
open Go.RowKit Go.Maps Go.ChangeMaps Go.Shelf

/-- those that stay, and those that are still to come -/
def stayF (L : List Lh.Fl) (pd : Lh.Fl → Bool) (left : Lit → Bool) : List Lh.Fl := L.filter fun x => left (keyF x.1) || !pd x
theorem stayF_start (L : List Lh.Fl) (pd : Lh.Fl → Bool) : stayF L pd (has (FD L)) = L := by
  unfold stayF
  rw [List.filter_eq_self]
  intro x hx
  rw [FD_has, decide_eq_true (Lh.fix_lt.2 ⟨x, hx, rfl⟩)]
  rfl
theorem stayF_end {L : List Lh.Fl} {pd : Lh.Fl → Bool} {left : Lit → Bool} (h : ∀ kl, left kl = false) : stayF L pd left = L.filter fun x => !pd x := by
  unfold stayF
  exact List.filter_congr fun x _ => by rw [h]; rfl
theorem stayF_no {L : List Lh.Fl} {pd : Lh.Fl → Bool} {left : Lit → Bool} (hp : L.Pairwise fun x y => x.1 < y.1) {x : Lh.Fl} (hx : x ∈ L) (hl : left (keyF x.1) = true) (hd : pd x = false) : stayF L pd (fun z => left z && !z.sameKey (keyF x.1)) = stayF L pd left := by
  unfold stayF
  refine List.filter_congr fun y hy => ?_
  simp only [same_keyF]
  by_cases e : y.1 = x.1
  · obtain rfl := rise_inj hp hy hx e
    simp [hl, hd]
  · simp [e]
theorem stayF_yes {L : List Lh.Fl} {pd : Lh.Fl → Bool} {left : Lit → Bool} (hp : L.Pairwise fun x y => x.1 < y.1) {x : Lh.Fl} (hx : x ∈ L) (hd : pd x = true) : stayF L pd (fun z => left z && !z.sameKey (keyF x.1)) = (stayF L pd left).filter fun y => !decide (y.1 = x.1) := by
  unfold stayF
  rw [List.filter_filter]
  refine List.filter_congr fun y hy => ?_
  simp only [same_keyF]
  by_cases e : y.1 = x.1
  · obtain rfl := rise_inj hp hy hx e
    simp [hd]
  · simp [e]
theorem key_of_lit {key : Value} {k : Nat} (h : keyOf Tryz.prog 27 key = some (keyF k)) : key = .int .u64 (k : Nat) := by
  obtain ⟨x, rfl, e, _⟩ := keyOf_int_inv Tryz.underlying27 h
  simp only [keyF, Lit.int.injEq, true_and] at e
  rw [← e]

set_option maxHeartbeats 4000000 in
set_option maxRecDepth 100000 in
theorem delFuncF (pd : Lh.Fl → Bool) (g : Nat) (cb : Array Value) (b nn : Nat) (L : List Lh.Fl) (hp : L.Pairwise fun x y => x.1 < y.1) (w : World)
    (eg : ∀ args w, (callFunc g args).run Tryz.prog w = .ok (.enter g args) w) (hown : w.ownsMap Tryz.prog 27 flElem b nn (FD L))
    (hdel : ∀ (W : World) (x : Lh.Fl), w.grownBy W (some b) → x ∈ L → Calls Tryz.prog g (#[.int .u64 (x.1 : Nat), valF x] ++ cb) W fun e w' => e = .returned (.bool (pd x)) ∧ W.grownBy w' none) :
    Calls Tryz.prog 180 #[.map (some b), .func (.func g) #[] cb] w fun e w' => e = .returned (.tuple #[]) ∧ w'.ownsMap Tryz.prog 27 flElem b nn (FD (L.filter fun x => !pd x)) ∧ w.grownBy w' (some b) := by
  have HD : Aside _ := hdel
  clear hdel
  go_enter Tryz.func180, Tryz.ntmps180
  go_wp2_with (first
    | (at_range; refine wpList_range_own _ rfl _ 119 rfl 27 82 u64Keyed Tryz.underlying119 flElem b nn _ rfl hown ?_; intro w0 hrg0 hg0 hs0)
    | go_in)
  go_frame
  go_loopw [8] (fun _ wr => ∃ (left : Lit → Bool) (cnt : Nat), wr.ranges Tryz.prog 27 flElem b w.heap.size nn (FD (stayF L pd left)) left cnt ∧ w.grownBy wr (some b))
    (fun _ wr => wr.rangeLeft b w.heap.size)
  case atStart => exact ⟨_, _, by rw [stayF_start]; exact hrg0, hg0.but _⟩
  case round =>
    obtain ⟨left, cnt, hrg, hgw⟩ := hrel
    go_wp2_with (first
      | (at_next; refine wpList_next_ranges _ rfl _ rfl 27 u64Keyed flElem id id (fun key _ _ => ⟨key, rfl⟩) (fun v _ _ => ⟨v, rfl⟩) b w.heap.size nn _ _ _ rfl hrg ?_ ?_)
      | go_in)
    · intro _ hl0
      go_wp2
      go_end0
      exact ⟨rfl, by rw [← stayF_end hl0]; exact hrg.owns, hgw⟩
    · intro key c kl yd yp w1 cnt1 hkey hlx hv hat hrg1 hlt hg1 hs1 hen
      obtain ⟨x, hx', rfl, rfl⟩ := FD_at_all hat
      obtain rfl : c = valF x := flElem_inv hv
      obtain rfl := key_of_lit hkey
      have hx : x ∈ L := (List.mem_filter.1 hx').1
      have hgw1 := hgw.andThen hg1 (fun j hj => by cases hj; exact Or.inl (Nat.le_refl _))
      have hga := World.grownBy_alloc w1 (.cells #[.int .u64 (x.1 : Nat), .string x.2.1, .int .i64 x.2.2] 82) none
      have hgw2 := hgw1.andThen hga (fun j hj => by cases hj)
      have hrg2 := hrg1.kept hga (by simp) (by simp)
      have hc := HD.out _ x hgw2 hx
      have hbl := hrg1.owns.lt
      have hrl := hrg1.lt
      clear hv hat hx' hs1
      unfold valF at hen hc
      cases hpd : pd x <;> rw [hpd] at hc
      · go_wp2_with fail
        refine hc.mono ?_
        rintro e w2 ⟨rfl, hg2⟩
        have hrg3 := hrg2.kept hg2 (by simp) (by simp)
        go_wp2
        go_roundw
        case rel => exact ⟨_, cnt1, by rw [stayF_no hp hx hlx hpd]; exact hrg3, hgw2.andThen hg2 (fun j hj => by cases hj)⟩
        case measure => rw [hrg3.left_eq, hrg.left_eq]; exact hlt
      · go_wp2_with fail
        refine hc.mono ?_
        rintro e w2 ⟨rfl, hg2⟩
        have hrg3 := hrg2.kept hg2 (by simp) (by simp)
        go_wp2_with (first
          | (at_delete; refine wpList_delete_ranges _ rfl _ _ 119 27 rfl 82 u64Keyed Tryz.underlying119 flElem b w.heap.size nn _ _ _ rfl hrg3 _ _ rfl hkey ?_; intro w3 cnt3 hrg4 hle hturn; go_frame)
          | go_in)
        rw [strike_twice, FD_del, ← stayF_yes hp hx hpd] at hrg4
        go_roundw
        case rel => exact ⟨_, cnt3, hrg4, (hgw2.andThen hg2 (fun j hj => by cases hj)).andThen hturn.grown (fun j hj => by cases hj; exact Or.inr rfl)⟩
        case measure => rw [hrg4.left_eq, hrg.left_eq]; omega
end Go.Proofs.YtmdckddenelneaaGreatDoor

/- The landed flows: drop, Expire, Drop. -/
namespace Go.Proofs.YtmdckddenelneaaGreatDoor
open Go.RowKit Go.Maps Go.ChangeMaps Go.Shelf
section
variable {W W' : World} {p mb t : Nat} {la : Int} {L : List Lh.Fl}

theorem grown_of_below (h : Below W.heap.size W W') : W.grownBy W' none := ⟨h.os, h.tape, h.output, h.size, fun k hk _ => h.block k hk⟩
theorem beqT (u s : ByteArray) : (u.toList == s.toList) = decide (u = s) := by
  by_cases h : u = s
  · rw [bytes_same h, decide_eq_true h]
  · rw [bytes_parts h, decide_eq_false h]
set_option maxHeartbeats 2000000 in
theorem dropIn (g B : Nat) (cb : Array Value) (k : Nat) (x : Lh.Fl) (bo : Bool) (eg : ∀ args w, (callFunc g args).run Tryz.prog w = .ok (.enter g args) w) (hB : W.cell? ⟨B, 0, none⟩ = some (.func (.func g) #[] cb))
    (hw : ∀ W', Below W.heap.size W W' → Calls Tryz.prog g (#[valF x] ++ cb) W' fun e w' => e = .returned (.bool bo) ∧ Below W'.heap.size W' w') :
    Calls Tryz.prog 181 #[.int .u64 (k : Nat), valF x, .pointer (some ⟨B, 0, none⟩)] W fun e W' => e = .returned (.bool bo) ∧ Below W.heap.size W W' := by
  have hb0 : Below W.heap.size W (W.alloc (.cells #[.int .u64 (x.1 : Nat), .string x.2.1, .int .i64 x.2.2] 82)) := (Below.refl _ _).alloc (Nat.le_refl _) _
  have hc := hw _ hb0
  have hB' := below_cell hb0 hB
  clear hw
  unfold valF at hc ⊢
  go_enter Tryz.func181, Tryz.ntmps181
  go_wp2_with fail
  refine hc.mono ?_
  rintro e w1 ⟨rfl, hb1⟩
  clear hc
  go_wp2
  go_ret
  exact ⟨rfl, below_then hb0 hb1⟩

set_option maxHeartbeats 2000000 in
theorem dropC (B : Nat) (s : ByteArray) (x : Lh.Fl) (hB : W.cell? ⟨B, 0, none⟩ = some (.string s)) :
    Calls Tryz.prog 156 #[valF x, .pointer (some ⟨B, 0, none⟩)] W fun e W' => e = .returned (.bool (decide (x.2.1 = s))) ∧ Below W.heap.size W W' := by
  have hb0 : Below W.heap.size W (W.alloc (.cells #[.int .u64 (x.1 : Nat), .string x.2.1, .int .i64 x.2.2] 82)) := (Below.refl _ _).alloc (Nat.le_refl _) _
  have hB' := below_cell hb0 hB
  unfold valF
  generalize x.2.1 = u at *
  go_enter Tryz.func156, Tryz.ntmps156
  go_wp2
  go_ret
  exact ⟨by rw [← beqT u s]; rfl, hb0⟩

set_option maxHeartbeats 4000000 in
/-- drop: those go of whom which says so. -/
theorem dropF (h : FR W p mb t la L) (hp : L.Pairwise fun x y => x.1 < y.1) (hl : L.length ≤ 1000) (pd : Lh.Fl → Bool) (g : Nat) (cb : Array Value) (eg : ∀ args w, (callFunc g args).run Tryz.prog w = .ok (.enter g args) w)
    (hw : ∀ W' x, Tur (fun b => b = mb) W W' → x ∈ L → Calls Tryz.prog g (#[valF x] ++ cb) W' fun e w' => e = .returned (.bool (pd x)) ∧ Below W'.heap.size W' w') :
    Calls Tryz.prog 155 #[.pointer (some ⟨p, 0, none⟩), .func (.func g) #[] cb] W fun e W' => e = .returned (.int .i64 ((L.length - (L.filter fun x => !pd x).length : Nat) : Int)) ∧ FR W' p mb t la (L.filter fun x => !pd x) ∧ Tur (fun b => b = mb) W W' := by
  obtain ⟨M, hM⟩ : ∃ M, (L.filter fun x => !pd x) = M := ⟨_, rfl⟩
  rw [hM]
  have hb0 : Below W.heap.size W (W.alloc (.cells #[.func (.func g) #[] cb] 175)) := (Below.refl _ _).alloc (Nat.le_refl _) _
  have h0 := h.later hb0
  have hbox : (W.alloc (.cells #[.func (.func g) #[] cb] 175)).cell? ⟨W.heap.size, 0, none⟩ = some (.func (.func g) #[] cb) := by simp
  have hlen0 := fun ty => h0.own.len Tryz.underlying119 ty
  rw [FD_size] at hlen0
  have hmlt := h.mlt
  have hle : M.length ≤ L.length := by rw [← hM]; exact List.length_filter_le _ _
  have hdel := delFuncF pd 181 #[.pointer (some ⟨W.heap.size, 0, none⟩)] mb L.length L hp (W.alloc (.cells #[.func (.func g) #[] cb] 175)) (enters_of Tryz.func181 (by kernel_rfl) rfl) h0.own (fun W1 x hg hx => by
    have hb1 : W1.cell? ⟨W.heap.size, 0, none⟩ = some (.func (.func g) #[] cb) := by
      rw [World.cell?_of_block (w := W.alloc (.cells #[.func (.func g) #[] cb] 175)) (w' := W1) (a := ⟨W.heap.size, 0, none⟩) (hg.block _ (by simp) (fun e => by cases e; exact absurd hmlt (Nat.lt_irrefl _)))]
      exact hbox
    refine (dropIn g W.heap.size cb x.1 x (pd x) eg hb1 fun W2 hb2 => hw W2 x ?_ hx).mono fun e w' ⟨q1, q2⟩ => ⟨q1, grown_of_below q2⟩
    refine ⟨hb2.os.trans (hg.os.trans hb0.os), hb2.tape.trans (hg.tape.trans hb0.tape), hb2.output.trans (hg.output.trans hb0.output), Nat.le_trans hb0.size (Nat.le_trans hg.size hb2.size), fun k hk hne => ?_⟩
    exact (hb2.block k (Nat.lt_of_lt_of_le hk (Nat.le_trans hb0.size hg.size))).trans ((hg.block k (Nat.lt_of_lt_of_le hk hb0.size) (fun e => hne (by cases e; rfl))).trans (hb0.block k hk)))
  rw [hM] at hdel
  have c2 := h0.c2
  have H : Hid (FR W p mb t la L) := h
  have HB0 : Hid (Below W.heap.size W (W.alloc (.cells #[.func (.func g) #[] cb] 175))) := hb0
  clear hw h hbox hb0 h0 hM
  go_enter Tryz.func155, Tryz.ntmps155
  go_wp2_with fail
  refine hdel.mono ?_
  rintro e w1 ⟨rfl, hown, hg⟩
  have hT : Tur (fun b => b = mb) W w1 := ⟨hg.os.trans HB0.out.os, hg.tape.trans HB0.out.tape, hg.output.trans HB0.out.output, Nat.le_trans HB0.out.size hg.size, fun k hk hne => (hg.block k (Nat.lt_of_lt_of_le hk HB0.out.size) (fun e => hne (by cases e; rfl))).trans (HB0.out.block k hk)⟩
  have hpb : w1.heap[p]? = W.heap[p]? := hT.block p H.out.plt H.out.ne
  have own2 := ownsMap_tight hown
  rw [FD_size] at own2
  have hlen1 := fun ty => own2.len Tryz.underlying119 ty
  rw [FD_size] at hlen1
  have hfin : FR w1 p mb t la M := ⟨(World.cell?_of_block (w := W) (w' := w1) (a := ⟨p, 0, none⟩) hpb).trans H.out.c0, (World.cell?_of_block (w := W) (w' := w1) (a := ⟨p, 1, none⟩) hpb).trans H.out.c1, (World.cell?_of_block (w := W) (w' := w1) (a := ⟨p, 2, none⟩) hpb).trans H.out.c2, fun k => (World.frozen?_of_block (w := W) (w' := w1) (a := ⟨p, k, none⟩) hpb).trans (H.out.fz k), own2, H.out.ne⟩
  have HFIN : Hid (FR w1 p mb t la M) := hfin
  have HT : Hid (Tur (fun b => b = mb) W w1) := hT
  have k2 := hfin.c2
  clear hdel hown hg hT hpb own2 hfin c2 hlen0
  have hsub : IntKind.i64.wrap ((L.length : Int) - (M.length : Int)) = ((L.length - M.length : Nat) : Int) := by
    rw [IntKind.wrap_i64]; omega
  have HR : Hid (∀ r : Int, IntKind.i64.wrap ((L.length : Int) - (M.length : Int)) = r → r = ((L.length - M.length : Nat) : Int)) := fun r e => e.symm.trans hsub
  clear hsub
  generalize hr : IntKind.i64.wrap ((L.length : Int) - (M.length : Int)) = r at *
  have HE : Hid (r = ((L.length - M.length : Nat) : Int)) := HR.out r rfl
  clear HR hle
  go_wp2
  go_ret
  exact ⟨by rw [← HE.out]; rfl, HFIN.out, HT.out⟩
end
end Go.Proofs.YtmdckddenelneaaGreatDoor

/- The landed flows: Expire, Drop, Get. -/
namespace Go.Proofs.YtmdckddenelneaaGreatDoor
open Go.RowKit Go.Maps Go.ChangeMaps Go.Shelf
section
variable {W W' : World} {p mb t : Nat} {la : Int} {L : List Lh.Fl}

theorem Tur.behind {F : Nat → Prop} {w w1 w2 : World} (h : Tur F w w1) (hb : Below w1.heap.size w1 w2) : Tur F w w2 :=
  ⟨hb.os.trans h.os, hb.tape.trans h.tape, hb.output.trans h.output, Nat.le_trans h.size hb.size, fun j hj hf => (hb.block j (Nat.lt_of_lt_of_le hj h.size)).trans (h.block j hj hf)⟩
theorem Tur.wide {F G : Nat → Prop} {w w1 : World} (h : Tur F w w1) (hG : ∀ b, F b → G b) : Tur G w w1 := ⟨h.os, h.tape, h.output, h.size, fun k hk hf => h.block k hk fun hb => hf (hG k hb)⟩
/-- the world behind 'f.latest = now', where only new blocks were laid ahead -/
theorem FR.ticked {W1 : World} (h : FR W p mb t la L) (hb : Below W.heap.size W W1) (now : Int) : FR (W1.setCell ⟨p, 1, none⟩ (.int .i64 now)) p mb t now L ∧ Tur (FFt p mb) W (W1.setCell ⟨p, 1, none⟩ (.int .i64 now)) :=
  ⟨(h.later hb).tick now, (Tur.of_below hb).trans (Tur.ticked now) fun _ hg => Or.inl hg⟩

set_option maxHeartbeats 4000000 in
theorem dropF_any (h : FR W p mb t la L) (hk : Lh.FlOk L) (s : ByteArray) :
    Calls Tryz.prog 112 #[.pointer (some ⟨p, 0, none⟩), .string s] W fun e W' => e = .returned (.int .i64 ((L.length - (Lh.fdrop L s).length : Nat) : Int)) ∧ FR W' p mb t la (Lh.fdrop L s) ∧ Tur (FFt p mb) W W' := by
  have hb0 : Below W.heap.size W (W.alloc (.cells #[.string s] 9)) := (Below.refl _ _).alloc (Nat.le_refl _) _
  have hbox : (W.alloc (.cells #[.string s] 9)).cell? ⟨W.heap.size, 0, none⟩ = some (.string s) := by simp
  have hmlt := h.mlt
  have hdr := dropF (h.later hb0) hk.rise (Nat.le_trans hk.len (by omega)) (fun x => decide (x.2.1 = s)) 156 #[.pointer (some ⟨W.heap.size, 0, none⟩)] (enters_of Tryz.func156 (by kernel_rfl) rfl) (fun W3 x hT _ => dropC W.heap.size s x (by
    rw [World.cell?_of_block (w := W.alloc (.cells #[.string s] 9)) (w' := W3) (a := ⟨W.heap.size, 0, none⟩) (hT.block _ (by simp) (fun e => by simp at e; omega))]
    exact hbox))
  clear hmlt hbox h
  go_enter Tryz.func112, Tryz.ntmps112
  go_wp2_with fail
  refine hdr.mono ?_
  rintro e w2 ⟨rfl, hF, hT⟩
  have HF : Hid (FR w2 p mb t la (Lh.fdrop L s)) := hF
  have HTT : Hid (Tur (FFt p mb) W w2) := (Tur.of_below hb0).trans hT fun b hb => Or.inl (Or.inr hb)
  clear hdr hF hT
  go_wp2
  go_ret
  exact ⟨rfl, HF.out, HTT.out⟩

set_option maxHeartbeats 2000000 in
theorem getF_bad (a : Nat → Addr) (he : EF a W) (h : FR W p mb t la L) (k : Nat) (now : Int) (j : Nat) (hf : TickF la now j) :
    Calls Tryz.prog 116 #[.pointer (some ⟨p, 0, none⟩), .int .u64 (k : Nat), .int .i64 now] W fun e W' => e = .returned (.tuple #[.string ByteArray.empty, .bool false, .iface 331 (.pointer (some (a j)))]) ∧ Below W.heap.size W W' := by
  have hchk := checkF_bad a he h now j hf
  clear h he
  go_enter Tryz.func116, Tryz.ntmps116
  go_wp2_with fail
  refine hchk.mono ?_
  rintro e w1 ⟨rfl, hb1⟩
  clear hchk
  go_wp2
  go_ret3
  exact ⟨rfl, hb1⟩

set_option maxHeartbeats 4000000 in
theorem getF_ok (h : FR W p mb t la L) (k : Nat) (hk : k < 18446744073709551616) (now : Int) (hok : TickOk la now) :
    Calls Tryz.prog 116 #[.pointer (some ⟨p, 0, none⟩), .int .u64 (k : Nat), .int .i64 now] W fun e W' => FR W' p mb t now L ∧ Tur (FFt p mb) W W' ∧
      ((∃ h : Lh.fix L k < L.length, now < (L[Lh.fix L k]).2.2 ∧ e = .returned (.tuple #[.string (L[Lh.fix L k]).2.1, .bool true, .nilIface])) ∨ ((∀ h : Lh.fix L k < L.length, (L[Lh.fix L k]).2.2 ≤ now) ∧ e = .returned (.tuple #[.string ByteArray.empty, .bool false, .nilIface]))) := by
  have hchk := checkF_ok h now hok
  have H : Hid (FR W p mb t la L) := h
  clear h
  go_enter Tryz.func116, Tryz.ntmps116
  go_wp2_with fail
  refine hchk.mono ?_
  rintro e w1 ⟨rfl, hb1⟩
  have h1 := H.out.later hb1
  obtain ⟨h2, hT2⟩ := H.out.ticked hb1 now
  have f1 := h1.fz 1
  have c1 := h1.c1
  have H2 : Hid (FR (w1.setCell ⟨p, 1, none⟩ (.int .i64 now)) p mb t now L) := h2
  have HT2 : Hid (Tur (FFt p mb) W (w1.setCell ⟨p, 1, none⟩ (.int .i64 now))) := hT2
  have HLK := h2.look k hk
  have k2 := h2.c2
  clear hchk h1 h2 hT2 hb1
  rcases HLK with ⟨hx, hrun⟩ | ⟨hx, hrun⟩
  · obtain ⟨z, hz⟩ : ∃ z, L[Lh.fix L k] = z := ⟨_, rfl⟩
    rw [hz] at hrun
    have HZ : Hid (L[Lh.fix L k] = z) := hz
    have HX : Hid (Lh.fix L k < L.length) := hx
    clear hz
    by_cases hu : z.2.2 ≤ now
    · have d : decide (z.2.2 ≤ now) = true := by simpa using hu
      go_wp2
      go_ret3
      refine ⟨H2.out.later ((Below.refl _ _).alloc (Nat.le_refl _) _), HT2.out.behind ((Below.refl _ _).alloc (Nat.le_refl _) _), Or.inr ⟨fun _ => ?_, rfl⟩⟩
      rw [HZ.out]
      exact hu
    · have d : decide (z.2.2 ≤ now) = false := by simpa using hu
      go_wp2
      go_ret3
      refine ⟨H2.out.later ((Below.refl _ _).alloc (Nat.le_refl _) _), HT2.out.behind ((Below.refl _ _).alloc (Nat.le_refl _) _), Or.inl ⟨HX.out, ?_, ?_⟩⟩
      · rw [HZ.out]
        omega
      · rw [HZ.out]
        rfl
  · have HX : Hid (¬ Lh.fix L k < L.length) := hx
    go_wp2
    go_ret3
    exact ⟨H2.out.later ((Below.refl _ _).alloc (Nat.le_refl _) _), HT2.out.behind ((Below.refl _ _).alloc (Nat.le_refl _) _), Or.inr ⟨fun hx' => absurd hx' HX.out, rfl⟩⟩
end
end Go.Proofs.YtmdckddenelneaaGreatDoor

/- Filling evenly, as numbers: how many keys a host may have, the first one that has fewer, where all keys go. -/
namespace Go.Proofs.YtmdckddenelneaaGreatDoor
namespace Lh

/-- one key more: it goes to the first of its hosts that has fewer than may be -/
def put1 (most : Nat) (out : List Nat) (o : List Nat) : List Nat :=
  match o.find? fun h => decide (out.count h < most) with
  | some h => out ++ [h]
  | none => out
/-- where all go -/
def places (most : Nat) (os : List (List Nat)) : List Nat := os.foldl (put1 most) []
end Lh
end Go.Proofs.YtmdckddenelneaaGreatDoor

/- Maps of the call's own: numbers by name, and keys that were seen. -/
namespace Go.Proofs.YtmdckddenelneaaGreatDoor
open Go.RowKit Go.Maps Go.ChangeMaps

theorem fkeyS (s : ByteArray) (hs : s.size ≤ 300) : keyOf Tryz.prog 9 (.string s) = some (.string s.data.toList) := Go.WideMaps.keyOf_string_mk Tryz.underlying9 (Nat.le_trans hs (by unfold maxLen; omega))
theorem wfU {z : Nat} (h : z < 18446744073709551616) : (Lit.int .u64 (z : Nat)).wf = true := by
  simp [Lit.wf, IntKind.min, IntKind.max, IntKind.signed, IntKind.bits]
  omega
theorem fkeyU (z : Nat) (h : z < 18446744073709551616) : keyOf Tryz.prog 27 (.int .u64 (z : Nat)) = some (.int .u64 (z : Nat)) := keyOf_int_mk Tryz.underlying27 (wfU h)
theorem wfI {n : Nat} (h : n ≤ 1000000) : (Lit.int .i64 (n : Nat)).wf = true := by
  simp [Lit.wf, IntKind.min, IntKind.max, IntKind.signed, IntKind.bits]
  omega
theorem strs_lit_ne {s t : ByteArray} (h : s ≠ t) : Lit.string s.data.toList ≠ Lit.string t.data.toList := by
  intro e
  simp only [Lit.string.injEq] at e
  apply h
  cases s
  cases t
  simpa using e
theorem ownsMap_later {k : TypeId} {R : Value → Option (DataW Unit × List MemPlace)} {w w' : World} {b n : Nat} {D : DataW Unit} (h : w.ownsMap Tryz.prog k R b n D) (he : w'.heap[b]? = w.heap[b]?) : w'.ownsMap Tryz.prog k R b n D := by
  obtain ⟨es, clock, hb, r⟩ := h
  exact ⟨es, clock, he.trans hb, r⟩

end Go.Proofs.YtmdckddenelneaaGreatDoor

/- Plain facts on tables of turns: a row meets each slot once; while a slot is free each row has a free one; each host has as many slots as turns. -/
namespace Go.Proofs.YtmdckddenelneaaGreatDoor
namespace Lh
/-- no prime is divided by a number between -/
def Prm (n : Nat) : Prop := 2 ≤ n ∧ ∀ k, 2 ≤ k → k < n → n % k ≠ 0
def rowAt (A B n j : Nat) : Nat := (A % n + j * (B % (n - 1) + 1)) % n

theorem prm_coprime {n s : Nat} (hp : Prm n) (h0 : 0 < s) (hs : s < n) : Nat.Coprime n s := by
  have h1 := Nat.gcd_dvd_left n s
  have h2 := Nat.gcd_dvd_right n s
  have hle := Nat.le_of_dvd h0 h2
  have hpos : 0 < Nat.gcd n s := Nat.gcd_pos_of_pos_right _ h0
  rcases Nat.lt_or_ge (Nat.gcd n s) 2 with h | h
  · show Nat.gcd n s = 1
    omega
  · exact absurd (Nat.mod_eq_zero_of_dvd h1) (hp.2 _ h (by omega))

theorem skip_lt {n B : Nat} (h : 2 ≤ n) : B % (n - 1) + 1 < n := by
  have := Nat.mod_lt B (show n - 1 > 0 by omega)
  omega

theorem rowAt_lt {A B n j : Nat} (h : 2 ≤ n) : rowAt A B n j < n := Nat.mod_lt _ (by omega)

theorem rowAt_inj_le {A B n i j : Nat} (hp : Prm n) (hij : i ≤ j) (hj : j < n) (h : rowAt A B n j = rowAt A B n i) : i = j := by
  unfold rowAt at h
  have hs := skip_lt (B := B) hp.1
  have h0 : 0 < B % (n - 1) + 1 := Nat.succ_pos _
  generalize B % (n - 1) + 1 = s at h hs h0
  have h1 := Nat.sub_mod_eq_zero_of_mod_eq h
  have h2 : A % n + j * s - (A % n + i * s) = s * (j - i) := by
    rw [Nat.add_sub_add_left, ← Nat.sub_mul, Nat.mul_comm]
  rw [h2] at h1
  have hd := Nat.Coprime.dvd_of_dvd_mul_left (prm_coprime hp h0 hs) (Nat.dvd_of_mod_eq_zero h1)
  rcases Nat.eq_zero_or_pos (j - i) with hz | hz
  · omega
  · have := Nat.le_of_dvd hz hd
    omega
theorem rowAt_inj {A B n i j : Nat} (hp : Prm n) (hi : i < n) (hj : j < n) (h : rowAt A B n i = rowAt A B n j) : i = j := by
  rcases Nat.le_total i j with hle | hle
  · exact rowAt_inj_le hp hle hj h.symm
  · exact (rowAt_inj_le hp hle hi h).symm

/-- what goes into so many places, each to another one, meets each -/
theorem inj_surj (n : Nat) (f : Nat → Nat) (hlt : ∀ i, i < n → f i < n) (hinj : ∀ i j, i < n → j < n → f i = f j → i = j) (x : Nat) (hx : x < n) : ∃ i, i < n ∧ f i = x := by
  refine Decidable.byContradiction fun hno => ?_
  have hnd : ((List.range n).map f).Nodup := by
    refine List.pairwise_map.2 ?_
    refine List.Pairwise.imp_of_mem ?_ (List.nodup_range (n := n))
    intro a b ha hb hab e
    exact hab (hinj a b (List.mem_range.1 ha) (List.mem_range.1 hb) e)
  have hsub : (List.range n).map f ⊆ (List.range n).erase x := by
    intro y hy
    obtain ⟨i, hi, rfl⟩ := List.mem_map.1 hy
    have hi' := List.mem_range.1 hi
    refine (List.mem_erase_of_ne ?_).2 (List.mem_range.2 (hlt i hi'))
    intro e
    exact hno ⟨i, hi', e⟩
  have := hnd.length_le_of_subset hsub
  rw [List.length_erase_of_mem (List.mem_range.2 hx)] at this
  simp at this
  omega

/-- the first place of a row that is free (a number below 0) -/
def pick (out : List Int) (r : Nat → Nat) (n : Nat) : Nat := ((List.range n).find? fun j => decide (out.getD (r j) 0 < 0)).getD 0
theorem pick_spec {out : List Int} {r : Nat → Nat} {n : Nat} (h : ∃ j, j < n ∧ out.getD (r j) 0 < 0) : pick out r n < n ∧ out.getD (r (pick out r n)) 0 < 0 ∧ ∀ i, i < pick out r n → 0 ≤ out.getD (r i) 0 := by
  unfold pick
  cases hf : (List.range n).find? fun j => decide (out.getD (r j) 0 < 0) with
  | none =>
    obtain ⟨j, hj, hlt⟩ := h
    have := List.find?_eq_none.1 hf j (List.mem_range.2 hj)
    exact absurd (decide_eq_true hlt) this
  | some j =>
    obtain ⟨h1, h2, h3⟩ := List.find?_range_eq_some.1 hf
    refine ⟨List.mem_range.1 h2, of_decide_eq_true h1, fun i hi => ?_⟩
    have := h3 i hi
    simp at this
    simpa using this

/-- a first free place is the only one with all ahead taken -/
theorem pick_unique {out : List Int} {r : Nat → Nat} {n j : Nat} (hj : j < n) (hf : out.getD (r j) 0 < 0) (hb : ∀ i, i < j → 0 ≤ out.getD (r i) 0) : pick out r n = j := by
  obtain ⟨h1, h2, h3⟩ := pick_spec ⟨j, hj, hf⟩
  rcases Nat.lt_trichotomy (pick out r n) j with h | h | h
  · have := hb _ h; omega
  · exact h
  · have := h3 _ h; omega

/-- one turn: host number t mod m takes the first free slot of its row, and writes its value there -/
def step1 (n m : Nat) (rows : Nat → Nat → Nat) (vals : Nat → Int) (t : Nat) (out : List Int) : List Int := out.set (rows (t % m) (pick out (rows (t % m)) n)) (vals (t % m))
def fill (n m : Nat) (rows : Nat → Nat → Nat) (vals : Nat → Int) : Nat → List Int
  | 0 => List.replicate n (-1)
  | t + 1 => step1 n m rows vals t (fill n m rows vals t)

/-- what is asked of the rows and the values -/
structure RowsOk (n m : Nat) (rows : Nat → Nat → Nat) (vals : Nat → Int) : Prop where
  pos : 0 < m
  lt : ∀ k, k < m → ∀ j, j < n → rows k j < n
  inj : ∀ k, k < m → ∀ i j, i < n → j < n → rows k i = rows k j → i = j
  val : ∀ k, k < m → 0 ≤ vals k

theorem fill_length (n m : Nat) (rows : Nat → Nat → Nat) (vals : Nat → Int) : ∀ t, (fill n m rows vals t).length = n
  | 0 => by simp [fill]
  | t + 1 => by simp [fill, step1, fill_length n m rows vals t]

theorem getD_lt {out : List Int} {x : Nat} (h : x < out.length) : out.getD x 0 = out[x] := by
  rw [List.getD_eq_getElem?_getD, List.getElem?_eq_getElem h]; rfl

theorem fill_free {n m : Nat} {rows : Nat → Nat → Nat} {vals : Nat → Int} (hr : RowsOk n m rows vals) : ∀ t, t ≤ n → (fill n m rows vals t).countP (fun v => decide (v < 0)) = n - t
  | 0, _ => by simp [fill, List.countP_replicate]
  | t + 1, ht => by
    have ih := fill_free hr t (by omega)
    have hl := fill_length n m rows vals t
    have hk : t % m < m := Nat.mod_lt _ hr.pos
    have hex : ∃ j, j < n ∧ (fill n m rows vals t).getD (rows (t % m) j) 0 < 0 := by
      have hpos : 0 < (fill n m rows vals t).countP (fun v => decide (v < 0)) := by omega
      obtain ⟨v, hv, hv0⟩ := List.countP_pos_iff.1 hpos
      obtain ⟨x, hx, rfl⟩ := List.getElem_of_mem hv
      obtain ⟨j, hj, e⟩ := inj_surj n (rows (t % m)) (hr.lt _ hk) (hr.inj _ hk) x (by omega)
      refine ⟨j, hj, ?_⟩
      rw [e, getD_lt hx]
      exact of_decide_eq_true hv0
    obtain ⟨h1, h2, _⟩ := pick_spec hex
    have hlt : rows (t % m) (pick (fill n m rows vals t) (rows (t % m)) n) < (fill n m rows vals t).length := by rw [hl]; exact hr.lt _ hk _ h1
    rw [getD_lt hlt] at h2
    show (step1 n m rows vals t (fill n m rows vals t)).countP _ = _
    unfold step1
    rw [List.countP_set hlt, ih]
    have hv := hr.val _ hk
    simp only [decide_eq_true h2, if_true]
    rw [if_neg (by simp; omega)]
    omega

/-- while a slot is free, each row has a free place -/
theorem fill_pick {n m : Nat} {rows : Nat → Nat → Nat} {vals : Nat → Int} (hr : RowsOk n m rows vals) {t : Nat} (ht : t < n) {k : Nat} (hk : k < m) : ∃ j, j < n ∧ (fill n m rows vals t).getD (rows k j) 0 < 0 := by
  have h := fill_free hr t (by omega)
  have hl := fill_length n m rows vals t
  have hpos : 0 < (fill n m rows vals t).countP (fun v => decide (v < 0)) := by omega
  obtain ⟨v, hv, hv0⟩ := List.countP_pos_iff.1 hpos
  obtain ⟨x, hx, rfl⟩ := List.getElem_of_mem hv
  obtain ⟨j, hj, e⟩ := inj_surj n (rows k) (hr.lt _ hk) (hr.inj _ hk) x (by omega)
  refine ⟨j, hj, ?_⟩
  rw [e, getD_lt hx]
  exact of_decide_eq_true hv0

/-- how many turns each host has -/
def turns (n m k : Nat) : Nat := (List.range n).countP fun t => decide (t % m = k)
theorem fill_vals {n m : Nat} {rows : Nat → Nat → Nat} {vals : Nat → Int} (hm : 0 < m) : ∀ t v, v ∈ fill n m rows vals t → v = -1 ∨ ∃ k, k < m ∧ v = vals k
  | 0, v, h => Or.inl (List.eq_of_mem_replicate h)
  | t + 1, v, h => by
    rcases List.mem_or_eq_of_mem_set h with h | h
    · exact fill_vals hm t v h
    · exact Or.inr ⟨t % m, Nat.mod_lt _ hm, h⟩

theorem pick_congr {o1 o2 : List Int} {r : Nat → Nat} {n : Nat} (h : ∀ j, j < n → (o1.getD (r j) 0 < 0 ↔ o2.getD (r j) 0 < 0)) : pick o1 r n = pick o2 r n := by
  unfold pick
  have : (List.range n).find? (fun j => decide (o1.getD (r j) 0 < 0)) = (List.range n).find? (fun j => decide (o2.getD (r j) 0 < 0)) := by
    have : ∀ l : List Nat, (∀ j ∈ l, j < n) → l.find? (fun j => decide (o1.getD (r j) 0 < 0)) = l.find? (fun j => decide (o2.getD (r j) 0 < 0)) := by
      intro l
      induction l with
      | nil => intro _; rfl
      | cons a t ih =>
        intro hl
        have e : decide (o1.getD (r a) 0 < 0) = decide (o2.getD (r a) 0 < 0) := decide_eq_decide.2 (h a (hl a (List.mem_cons_self ..)))
        rw [List.find?_cons, List.find?_cons, e, ih (fun j hj => hl j (List.mem_cons_of_mem _ hj))]
    exact this _ (fun j hj => List.mem_range.1 hj)
  rw [this]

/-- which host has a slot hangs on the rows alone -/
def over (vals : Nat → Int) (v : Int) : Int := if v < 0 then -1 else vals v.toNat
theorem fill_over {n m : Nat} {rows : Nat → Nat → Nat} {vals : Nat → Int} (hr : RowsOk n m rows vals) : ∀ t, t ≤ n → fill n m rows vals t = (fill n m rows (fun k => (k : Int)) t).map (over vals)
  | 0, _ => by simp [fill, over]
  | t + 1, ht => by
    have ih := fill_over hr t (by omega)
    have hkt : t % m < m := Nat.mod_lt _ hr.pos
    have hl0 := fill_length n m rows (fun k => (k : Int)) t
    have key : ∀ x, x < n → ((fill n m rows vals t).getD x 0 < 0 ↔ (fill n m rows (fun k => (k : Int)) t).getD x 0 < 0) := by
      intro x hx
      have hx0 : x < (fill n m rows (fun k => (k : Int)) t).length := by rw [hl0]; exact hx
      rw [ih, getD_lt (by simpa using hx0), getD_lt hx0, List.getElem_map]
      rcases fill_vals hr.pos t _ (List.getElem_mem hx0) with e | ⟨k, hk, e⟩
      · rw [e]; simp [over]
      · have := hr.val k hk
        have e' : over vals (fill n m rows (fun k => (k : Int)) t)[x] = vals k := by
          rw [e]; simp only [over]; rw [if_neg (by omega)]; simp
        rw [e', e]
        omega
    have hp := pick_congr (o1 := fill n m rows vals t) (o2 := fill n m rows (fun k => (k : Int)) t) (r := rows (t % m)) (n := n) (fun j hj => key _ (hr.lt _ hkt j hj))
    show step1 n m rows vals t (fill n m rows vals t) = (step1 n m rows (fun k => (k : Int)) t (fill n m rows (fun k => (k : Int)) t)).map (over vals)
    unfold step1
    rw [hp, List.map_set, ih]
    congr 1

/-- the whole table: each slot has a host -/
theorem fill_full {n m : Nat} {rows : Nat → Nat → Nat} {vals : Nat → Int} (hr : RowsOk n m rows vals) {x : Nat} (hx : x < n) : ∃ k, k < m ∧ (fill n m rows (fun k => (k : Int)) n).getD x 0 = k ∧ (fill n m rows vals n).getD x 0 = vals k := by
  have hr0 : RowsOk n m rows (fun k => (k : Int)) := ⟨hr.pos, hr.lt, hr.inj, fun k _ => by omega⟩
  have hl0 := fill_length n m rows (fun k => (k : Int)) n
  have hx0 : x < (fill n m rows (fun k => (k : Int)) n).length := by rw [hl0]; exact hx
  have hfree := fill_free hr0 n (Nat.le_refl _)
  rw [Nat.sub_self] at hfree
  have hge := List.countP_eq_zero.1 hfree _ (List.getElem_mem hx0)
  rcases fill_vals hr.pos n _ (List.getElem_mem hx0) with e | ⟨k, hk, e⟩
  · rw [e] at hge; simp at hge
  · refine ⟨k, hk, by rw [getD_lt hx0, e], ?_⟩
    rw [fill_over hr n (Nat.le_refl _), getD_lt (by simpa using hx0), List.getElem_map, e]
    simp only [over]
    rw [if_neg (by omega)]
    simp
end Lh
end Go.Proofs.YtmdckddenelneaaGreatDoor
