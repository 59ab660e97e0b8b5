/- The landed play: keys to play with. -/
import Derived.Test.YtmdckddenelneaaGreatDoorM36
import Derived.Test.YtmdckddenelneaaGreatDoorM11
import Derived.Test.YtmdckddenelneaaGreatDoorM38
import Derived.Test.YtmdckddenelneaaGreatDoorM3
import Derived.Test.YtmdckddenelneaaGreatDoorRows
import Derived.Test.YtmdckddenelneaaGreatDoorM1
import Derived.ProofKit
import Derived.LaidMore
import Derived.OpenShut
import Derived.Stop.Joined
import Derived.Stop.LaidErr
import Derived.LaidLaws
import Derived.LaidHandle
import Derived.Test.YtmdckddenelneaaGreatDoorM35
import Derived.Lib.LaidTab
import Derived.Lib.TrailingZeros
import Derived.Shelf.Vars
import Derived.Test.YtmdckddenelneaaGreatDoorM37
import Derived.HandedShaped
namespace Go.Proofs.YtmdckddenelneaaGreatDoor
open Go.RowKit

/-- Block g of w is a row of keys, whole. -/
def KeyRow (w : World) (g : Nat) (xs : List Nat) : Prop := w.heap[g]? = some (.cells (xs.map fun x => Value.int .u64 ((x : Nat) : Int)).toArray 27 (0, 0))
section
variable {w w' : World} {g : Nat} {xs : List Nat}
theorem KeyRow.cell (h : KeyRow w g xs) {k : Nat} (hk : k < xs.length) : w.cell? ⟨g, k, none⟩ = some (.int .u64 (xs[k] : Nat)) := by
  rw [cell_of_row w g k _ _ _ h]
  simp [hk]
theorem KeyRow.frozen (h : KeyRow w g xs) (k : Nat) : w.frozen? ⟨g, k, none⟩ = false := frozen_of_row w g k _ _ h
theorem KeyRow.set (h : KeyRow w g xs) (k v : Nat) : KeyRow (w.setCell ⟨g, k, none⟩ (.int .u64 (v : Nat))) g (xs.set k v) := by
  have := heap_setCell_same w g k _ _ (.int .u64 (v : Nat)) h
  unfold KeyRow
  rw [this]
  simp [List.map_set]
theorem KeyRow.same (h : KeyRow w g xs) (he : w'.heap[g]? = w.heap[g]?) : KeyRow w' g xs := by
  unfold KeyRow
  rw [he]
  exact h
theorem KeyRow.lt (h : KeyRow w g xs) : g < w.heap.size := (Array.getElem?_eq_some_iff.1 h).1
theorem KeyRow.later (h : KeyRow w g xs) (hb : Below w.heap.size w w') : KeyRow w' g xs := h.same (hb.block g h.lt)
theorem KeyRow.keys (h : KeyRow w g xs) (c : Nat) : U64s w (.slice (some ⟨g, 0, none⟩) xs.length c) xs := ⟨_, c, rfl, fun k hk => ⟨g, 0, rfl, by rw [Nat.zero_add]; exact h.cell hk⟩⟩
theorem KeyRow.of_owns {base n : Nat} (h : w.ownsRow base 27 1 (.slice (some ⟨g, 0, none⟩) n n) n (xs.map fun x => Value.int .u64 ((x : Nat) : Int))) : KeyRow w g xs := by
  rcases h.2 with ⟨h', _⟩ | ⟨g', cap', cur, h', _, hg, _, _, hcs, ht⟩
  · simp at h'
  · simp only [Value.slice.injEq, Option.some.injEq, Addr.mk.injEq, and_true, true_and] at h'
    obtain ⟨rfl, rfl⟩ := h'
    unfold KeyRow
    rw [hg, ← ht, List.take_of_length_le (by simp; omega)]
end
theorem made_keys (n : Nat) : (madeCells #[Value.int .u64 0] n).toList = (List.replicate n (0 : Nat)).map fun x => Value.int .u64 ((x : Nat) : Int) := by
  rw [toList_madeCells_one]
  simp
theorem turns_set {N j : Nat} (h : j < N) : (((List.range j).map Lh.turn) ++ List.replicate (N - j) 0).set j (Lh.turn j) = ((List.range (j + 1)).map Lh.turn) ++ List.replicate (N - (j + 1)) 0 := by
  have e1 : N - j = (N - (j + 1)) + 1 := by omega
  rw [e1, List.replicate_succ, List.set_append, if_neg (by simp), List.length_map, List.length_range, Nat.sub_self, List.range_succ, List.map_append]
  simp
set_option maxRecDepth 100000 in
set_option maxHeartbeats 2000000 in
theorem keys_a (n : Int) (W : World) (hn : n < 0) :
    Calls Tryz.prog 8 #[.int .i64 n] W fun e W' => ∃ g, e = .returned (.slice (some ⟨g, 0, none⟩) 0 0) ∧ W.heap.size ≤ g ∧ KeyRow W' g ((List.range 0).map Lh.turn) ∧ Below W.heap.size W W' := by
  obtain ⟨i, hi, hz0, hz1, hz2⟩ := info_parts infoU
  have hbyt : i.bytes * 0 ≤ 281474976710656 := by rw [hz2]; omega
  have hmax : 0 ≤ maxLen := by unfold maxLen; omega
  have d1 : decide (n < 0) = true := by simpa using hn
  have m1 : max n 0 = 0 := by omega
  have m2 : min (0 : Int) 500 = 0 := by decide
  go_enter Tryz.func8, Tryz.ntmps8
  go_wp2_with (at_make; refine wpList_make_full _ rfl _ _ 23 rfl W.heap.size 27 i _ 1 Tryz.underlying23 hi hz0 hz1 _ _ _ _ 0 rfl rfl rfl rfl hbyt hmax (Nat.le_refl _) ?_)
  intro w2 hown hgrow
  have hb2 : Below W.heap.size W w2 := below_grown hgrow (fun k h => by cases h)
  rw [made_keys] at hown
  have hrow0 := KeyRow.of_owns hown
  clear hown hgrow
  obtain ⟨q, hqq⟩ : ∃ q, W.heap.size = q := ⟨_, rfl⟩
  rw [hqq] at hrow0
  rw [hqq]
  have hql : W.heap.size ≤ q := by omega
  clear hqq
  go_wp2_with fail
  go_loopw [4, 11] (fun _ u11 w' => Below W.heap.size W w' ∧ ∃ k : Nat, k ≤ 0 ∧ u11 = .int .i64 (k : Nat) ∧ KeyRow w' q (((List.range k).map Lh.turn) ++ List.replicate (0 - k) 0)) (fun _ u11 _ => 0 - (intOf u11).toNat)
  case atStart => exact ⟨hb2, 0, Nat.zero_le _, rfl, by simpa using hrow0⟩
  case round =>
    obtain ⟨hbr, k, hk, rfl, hrow⟩ := hrel
    obtain ⟨wo, hwo⟩ : ∃ wo, wo = wr := ⟨_, rfl⟩
    subst hwo
    clear hb2 hrow0
    by_cases hlt : k < 0
    · exact absurd hlt (Nat.not_lt_zero _)
    · have hd : decide ((k : Int) < 0) = false := by simp
      have HFI : Hid (KeyRow wo q ((List.range 0).map Lh.turn)) := by
        obtain rfl : k = 0 := by omega
        show KeyRow _ _ _
        simpa using hrow
      clear hrow
      go_wp2
      go_ret
      exact ⟨q, rfl, hql, HFI.out, hbr⟩
set_option maxRecDepth 100000 in
set_option maxHeartbeats 2000000 in
theorem keys_b (N : Nat) (W : World) (hN : N ≤ 500) :
    Calls Tryz.prog 8 #[.int .i64 (N : Nat)] W fun e W' => ∃ g, e = .returned (.slice (some ⟨g, 0, none⟩) N N) ∧ W.heap.size ≤ g ∧ KeyRow W' g ((List.range N).map Lh.turn) ∧ Below W.heap.size W W' := by
  obtain ⟨i, hi, hz0, hz1, hz2⟩ := info_parts infoU
  have hbyt : i.bytes * N ≤ 281474976710656 := by rw [hz2]; omega
  have hmax : N ≤ maxLen := by unfold maxLen; omega
  have d1 : decide ((N : Int) < 0) = false := by simp
  have m1 : max (N : Int) 0 = (N : Int) := by omega
  have m2 : min (N : Int) 500 = (N : Int) := by omega
  go_enter Tryz.func8, Tryz.ntmps8
  go_wp2_with (at_make; refine wpList_make_full _ rfl _ _ 23 rfl W.heap.size 27 i _ 1 Tryz.underlying23 hi hz0 hz1 _ _ _ _ N rfl rfl rfl rfl hbyt hmax (Nat.le_refl _) ?_)
  intro w2 hown hgrow
  have hb2 : Below W.heap.size W w2 := below_grown hgrow (fun k h => by cases h)
  rw [made_keys] at hown
  have hrow0 := KeyRow.of_owns hown
  clear hown hgrow
  obtain ⟨q, hqq⟩ : ∃ q, W.heap.size = q := ⟨_, rfl⟩
  rw [hqq] at hrow0
  rw [hqq]
  have hql : W.heap.size ≤ q := by omega
  clear hqq
  go_wp2_with fail
  go_loopw [4, 11] (fun _ u11 w' => Below W.heap.size W w' ∧ ∃ k : Nat, k ≤ N ∧ u11 = .int .i64 (k : Nat) ∧ KeyRow w' q (((List.range k).map Lh.turn) ++ List.replicate (N - k) 0)) (fun _ u11 _ => N - (intOf u11).toNat)
  case atStart => exact ⟨hb2, 0, Nat.zero_le _, rfl, by simpa using hrow0⟩
  case round =>
    obtain ⟨hbr, k, hk, rfl, hrow⟩ := hrel
    obtain ⟨wo, hwo⟩ : ∃ wo, wo = wr := ⟨_, rfl⟩
    subst hwo
    clear hb2 hrow0
    by_cases hlt : k < N
    · have hki : (k : Int) < (N : Int) := by omega
      have hku : IntKind.u64.wrap (k : Int) = (k : Int) := by simp [IntKind.wrap, IntKind.signed, IntKind.bits]; omega
      have HR : Hid (KeyRow wo q (((List.range k).map Lh.turn) ++ List.replicate (N - k) 0)) := hrow
      have HT : Hid (Calls Tryz.prog 28 #[.int .u64 (k : Nat)] wo fun e w' => e = .returned (.int .u64 (Lh.turn k : Nat)) ∧ Below wo.heap.size wo w') := (turn_gr k wo).mono fun e w' ⟨h1, h2⟩ => ⟨h1, h2.below⟩
      clear hrow
      go_wp2_with fail
      refine HT.out.mono ?_
      rintro e w4 ⟨rfl, hb4⟩
      have hrow4 := HR.out.later hb4
      have fy4 := hrow4.frozen k
      have cy4 := hrow4.cell (k := k) (by simp; omega)
      have HN4 : Hid (KeyRow (w4.setCell ⟨q, k, none⟩ (.int .u64 (Lh.turn k : Nat))) q (((List.range (k + 1)).map Lh.turn) ++ List.replicate (N - (k + 1)) 0)) := by
        have h1 := hrow4.set k (Lh.turn k)
        rw [turns_set hlt] at h1
        exact h1
      have hb14 : Below W.heap.size W w4 := below_then hbr hb4
      clear HT hrow4 hbr hb4
      generalize Lh.turn k = z at *
      go_wp2_with fail
      go_roundw
      case rel => exact ⟨hb14.setCell hql _, k + 1, by omega, by go_num, HN4.out⟩
      case measure => simp [intOf]; omega
    · have hd : decide ((k : Int) < (N : Int)) = false := by simp; omega
      have HFI : Hid (KeyRow wo q ((List.range N).map Lh.turn)) := by
        obtain rfl : k = N := by omega
        show KeyRow _ _ _
        simpa using hrow
      clear hrow
      go_wp2
      go_ret
      exact ⟨q, rfl, hql, HFI.out, hbr⟩
set_option maxRecDepth 100000 in
set_option maxHeartbeats 2000000 in
theorem keys_c (n : Int) (W : World) (hn : 500 < n) :
    Calls Tryz.prog 8 #[.int .i64 n] W fun e W' => ∃ g, e = .returned (.slice (some ⟨g, 0, none⟩) 500 500) ∧ W.heap.size ≤ g ∧ KeyRow W' g ((List.range 500).map Lh.turn) ∧ Below W.heap.size W W' := by
  obtain ⟨i, hi, hz0, hz1, hz2⟩ := info_parts infoU
  have hbyt : i.bytes * 500 ≤ 281474976710656 := by rw [hz2]; omega
  have hmax : 500 ≤ maxLen := by unfold maxLen; omega
  have d1 : decide (n < 0) = false := by simp; omega
  have m1 : max n 0 = n := by omega
  have m2 : min n 500 = 500 := by omega
  go_enter Tryz.func8, Tryz.ntmps8
  go_wp2_with (at_make; refine wpList_make_full _ rfl _ _ 23 rfl W.heap.size 27 i _ 1 Tryz.underlying23 hi hz0 hz1 _ _ _ _ 500 rfl rfl rfl rfl hbyt hmax (Nat.le_refl _) ?_)
  intro w2 hown hgrow
  have hb2 : Below W.heap.size W w2 := below_grown hgrow (fun k h => by cases h)
  rw [made_keys] at hown
  have hrow0 := KeyRow.of_owns hown
  clear hown hgrow
  obtain ⟨q, hqq⟩ : ∃ q, W.heap.size = q := ⟨_, rfl⟩
  rw [hqq] at hrow0
  rw [hqq]
  have hql : W.heap.size ≤ q := by omega
  clear hqq
  go_wp2_with fail
  go_loopw [4, 11] (fun _ u11 w' => Below W.heap.size W w' ∧ ∃ k : Nat, k ≤ 500 ∧ u11 = .int .i64 (k : Nat) ∧ KeyRow w' q (((List.range k).map Lh.turn) ++ List.replicate (500 - k) 0)) (fun _ u11 _ => 500 - (intOf u11).toNat)
  case atStart => exact ⟨hb2, 0, Nat.zero_le _, rfl, by simpa using hrow0⟩
  case round =>
    obtain ⟨hbr, k, hk, rfl, hrow⟩ := hrel
    obtain ⟨wo, hwo⟩ : ∃ wo, wo = wr := ⟨_, rfl⟩
    subst hwo
    clear hb2 hrow0
    by_cases hlt : k < 500
    · have hki : (k : Int) < 500 := by omega
      have hku : IntKind.u64.wrap (k : Int) = (k : Int) := by simp [IntKind.wrap, IntKind.signed, IntKind.bits]; omega
      have HR : Hid (KeyRow wo q (((List.range k).map Lh.turn) ++ List.replicate (500 - k) 0)) := hrow
      have HT : Hid (Calls Tryz.prog 28 #[.int .u64 (k : Nat)] wo fun e w' => e = .returned (.int .u64 (Lh.turn k : Nat)) ∧ Below wo.heap.size wo w') := (turn_gr k wo).mono fun e w' ⟨h1, h2⟩ => ⟨h1, h2.below⟩
      clear hrow
      go_wp2_with fail
      refine HT.out.mono ?_
      rintro e w4 ⟨rfl, hb4⟩
      have hrow4 := HR.out.later hb4
      have fy4 := hrow4.frozen k
      have cy4 := hrow4.cell (k := k) (by simp; omega)
      have HN4 : Hid (KeyRow (w4.setCell ⟨q, k, none⟩ (.int .u64 (Lh.turn k : Nat))) q (((List.range (k + 1)).map Lh.turn) ++ List.replicate (500 - (k + 1)) 0)) := by
        have h1 := hrow4.set k (Lh.turn k)
        rw [turns_set hlt] at h1
        exact h1
      have hb14 : Below W.heap.size W w4 := below_then hbr hb4
      clear HT hrow4 hbr hb4
      generalize Lh.turn k = z at *
      go_wp2_with fail
      go_roundw
      case rel => exact ⟨hb14.setCell hql _, k + 1, by omega, by go_num, HN4.out⟩
      case measure => simp [intOf]; omega
    · have hd : decide ((k : Int) < 500) = false := by simp; omega
      have HFI : Hid (KeyRow wo q ((List.range 500).map Lh.turn)) := by
        obtain rfl : k = 500 := by omega
        show KeyRow _ _ _
        simpa using hrow
      clear hrow
      go_wp2
      go_ret
      exact ⟨q, rfl, hql, HFI.out, hbr⟩
theorem keys_any (n : Int) (W : World) :
    Calls Tryz.prog 8 #[.int .i64 n] W fun e W' => ∃ v, e = .returned v ∧ U64s W' v ((List.range (min n.toNat 500)).map Lh.turn) ∧ Below W.heap.size W W' := by
  have key : ∀ (N : Nat), min n.toNat 500 = N → (Calls Tryz.prog 8 #[.int .i64 n] W fun e W' => ∃ g, e = .returned (.slice (some ⟨g, 0, none⟩) N N) ∧ W.heap.size ≤ g ∧ KeyRow W' g ((List.range N).map Lh.turn) ∧ Below W.heap.size W W') → Calls Tryz.prog 8 #[.int .i64 n] W fun e W' => ∃ v, e = .returned v ∧ U64s W' v ((List.range (min n.toNat 500)).map Lh.turn) ∧ Below W.heap.size W W' := fun N hN h => by
    rw [hN]
    refine h.mono ?_
    rintro e W' ⟨g, rfl, _, hr, hb⟩
    refine ⟨_, rfl, ?_, hb⟩
    have := hr.keys N
    rwa [List.length_map, List.length_range] at this
  by_cases h0 : n < 0
  · exact key 0 (by omega) (keys_a n W h0)
  · by_cases h5 : 500 < n
    · exact key 500 (by omega) (keys_c n W h5)
    · obtain ⟨N, rfl⟩ := Int.eq_ofNat_of_zero_le (show 0 ≤ n by omega)
      exact key N (by omega) (keys_b N W (by omega))
end Go.Proofs.YtmdckddenelneaaGreatDoor

/- The landed play: Run, as the laws ask it; New, Keys. -/
namespace Go.Proofs.YtmdckddenelneaaGreatDoor
open Go.RowKit

theorem run_any {hC : BalanceC} (hB : BalP hC) (a : Nat → Addr) (x : DR) (v : Value) (sc : List Int) (W : World) (he : hC.E a W) (hx : x.At hC W) (hi : Ints W v sc) (hr : Room v) (ho : IntsOff x.F v sc.length) (hl : sc.length ≤ 3000) (hv : ∀ z ∈ sc, z < 9223372036854775808) :
    Calls Tryz.prog 19 #[.pointer (some ⟨x.d, 0, none⟩), v] W fun e W' => ∃ (y : DR) (es : List Int) (now : Int) (v' : Value), e = .returned v' ∧ RunR hC.nw ⟨x.A, x.B, 0⟩ sc es ⟨y.A, y.B, now⟩ ∧ y.At hC W' ∧ y.d = x.d ∧ y.p = x.p ∧ y.q = x.q ∧ (∀ b, y.F b → x.F b ∨ W.heap.size ≤ b) ∧ Tur x.F W W' ∧ IntsNew W.heap.size W' v' es := by
  obtain ⟨p, c, rfl, hc⟩ := ints_slice hi
  refine (run_some (sc := sc) hB he hx p c sc.length rfl (fun k hk => ?_) (hr _ _ _ rfl) hl hv).mono ?_
  · obtain ⟨b, o, rfl, hcell⟩ := hc k hk
    exact ⟨b, o, rfl, hcell, ho b o _ c rfl (Nat.lt_of_le_of_lt (Nat.zero_le _) hk)⟩
  · rintro e W' ⟨g, ab, es, y, now, rfl, h⟩
    have hrun := h.run
    rw [List.take_length] at hrun
    have hrow := h.row
    rw [Nat.sub_self, List.replicate_zero, List.append_nil] at hrow
    refine ⟨y, es, now, _, rfl, hrun, h.gs.at_, h.d, h.p, h.q, fun b hb => ?_, h.tur.wideP fun b hb => hb.elim Or.inl fun q => Or.inr (Or.inl q), Or.inr ⟨ab, 0, sc.length, by rw [h.len], h.aa, fun k hk => by rw [Nat.zero_add]; exact hrow.cell hk⟩⟩
    rcases hb with q | q | q
    · rcases h.new b (Or.inl q) with r | r | r
      · exact Or.inl (Or.inl r)
      · exact Or.inl (Or.inr (Or.inl r))
      · exact Or.inr r
    · rcases h.new b (Or.inr q) with r | r | r
      · exact Or.inl (Or.inl r)
      · exact Or.inl (Or.inr (Or.inl r))
      · exact Or.inr r
    · exact Or.inl (Or.inr (Or.inr (q.trans h.d)))
end Go.Proofs.YtmdckddenelneaaGreatDoor

/- From the row's list of package variables to what the walks ask: the handle of the type error, nine errors at different places. -/
namespace Go.Proofs.YtmdckddenelneaaGreatDoor
open Go.ChangeShapes Go.WideShapes Go.ChangeAt Go.RowKit

theorem own : ownKnob Tryz.prog.godebug = none := by kernel_rfl

/-- A list of errors of errors.New's make, by names and texts. -/
def sentList (l : List (String × List UInt8)) : List (String × DataW Unit) := l.map fun x => (x.1, .iface "*errors.errorString" (.ptr (.agg [.lit (.string x.2)])))
def placeOf (a : Addr) : MemPlace := .cell a.block a.off

theorem sents_of {P : Program} {W : World} {ti tp te ts : TypeId} {ms : Array (String × TypeId)} {f : Field}
    (hi : P.underlying ti = some (.interface ms)) (hrow : ∀ u, P.typeName? 3 u = some "*errors.errorString" → u = tp)
    (hp : P.underlying tp = some (.pointer te)) (he : P.underlying te = some (.struct #[f])) (hft : f.type = ts) (hfo : f.offset = 0) (hs : P.underlying ts = some .string) (hc : P.cellsOf te = 1) (hcs : P.cellsOf ts = 1)
    (all : List MemPlace) (hrows : ∀ b off, MemPlace.cell b off ∈ all → (∃ c t, W.heap[b]? = some (.cells c t (0, 0))) ∧ ∀ u v, W.cell? ⟨b, off, none⟩ = some (.iface u v) → Value.okWide P W .any 0 u v) :
    ∀ (l : List (String × List UInt8)) (ps : List MemPlace), (∀ x ∈ l, ∃ g, P.globalNamed x.1 = some g ∧ (P.globals[g]?).map (·.type) = some ti) → (∀ m ∈ ps, m ∈ all) →
      DataW.LaidVars P W (sentList l) ps →
      ∃ ads : List Addr, ads.length = l.length ∧ (ads.map placeOf).Sublist ps ∧ ∀ i (h : i < l.length) (h' : i < ads.length), W.var? P l[i].1 = some #[.iface tp (.pointer (some ads[i]))]
  | [], ps, _, _, _ => ⟨[], rfl, by simp, fun i h => by simp at h⟩
  | x :: r, ps, hg, hin, hl => by
    obtain ⟨g, t, cs, fuel, p, q, h1, h2, h3, h4, h5, rfl⟩ := hl
    obtain ⟨g', hg1, hg2⟩ := hg x (List.mem_cons_self ..)
    obtain rfl := Option.some.inj (hg1.symm.trans h1)
    obtain rfl := Option.some.inj (hg2.symm.trans h2)
    obtain ⟨l0⟩ := cs
    have ok0 : ∀ u v, l0 = [.iface u v] → Value.okWide P W .any 0 u v := fun u v e => by
      subst e
      exact (hrows g' 0 (hin _ (by simp [MemPlace.row]))).2 u v (by simpa using World.var?_cell h1 h3 0)
    obtain ⟨a, s, rfl, _, _, _, rfl⟩ := errorString_of_trod hi hrow hp he hft hfo hs hc hcs h4 ok0
    obtain ⟨ads, e1, e2, e3⟩ := sents_of hi hrow hp he hft hfo hs hc hcs all hrows r q (fun y hy => hg y (List.mem_cons_of_mem _ hy)) (fun m hm => hin m (List.mem_append_right _ hm)) h5
    refine ⟨a :: ads, by simp [e1], ?_, ?_⟩
    · have : MemPlace.row a 1 = [placeOf a] := by simp [MemPlace.row, placeOf]
      rw [this, List.append_assoc]
      exact (List.Sublist.cons_cons _ e2).trans (List.sublist_append_right _ _)
    · intro i h h'
      cases i with
      | zero => exact h3
      | succ i => exact e3 i (by simpa using h) (by simpa using h')

theorem star : "*errors.errorString" = "*" ++ "errors.errorString" := by decide
theorem rowE (u : TypeId) (h : Tryz.prog.typeName? 3 u = some "*errors.errorString") : u = 331 :=
  typeName_ptr_named (nm := "errors.errorString") (by rw [← star]; kernel_rfl) (by kernel_rfl) (by decide) u (by rw [← star]; exact h)
theorem cellsE : Tryz.prog.cellsOf 333 = 1 := by kernel_rfl
theorem cellsS : Tryz.prog.cellsOf 9 = 1 := by kernel_rfl
theorem gH : Tryz.prog.globalNamed "errors.errorType" = some 9 := by kernel_rfl
theorem rtN : (Tryz.prog.cutTypes.find? (·.1 == "internal/reflectlite.rtype")).map (·.2) = some 191 := by kernel_rfl
theorem oneRowE : ((List.range 365).filter fun t => Tryz.prog.rowNamed t [101, 114, 114, 111, 114]) = [31] := by kernel_rfl
theorem sizeT : Tryz.prog.types.size = 365 := by kernel_rfl

def apiErrs : List (String × List UInt8) := [
  ("levelhand/api.ErrText", [108, 101, 118, 101, 108, 104, 97, 110, 100, 58, 32, 116, 101, 120, 116]),
  ("levelhand/api.ErrBound", [108, 101, 118, 101, 108, 104, 97, 110, 100, 58, 32, 98, 111, 117, 110, 100]),
  ("levelhand/api.ErrShape", [108, 101, 118, 101, 108, 104, 97, 110, 100, 58, 32, 115, 104, 97, 112, 101]),
  ("levelhand/api.ErrName", [108, 101, 118, 101, 108, 104, 97, 110, 100, 58, 32, 110, 97, 109, 101]),
  ("levelhand/api.ErrNone", [108, 101, 118, 101, 108, 104, 97, 110, 100, 58, 32, 110, 111, 110, 101]),
  ("levelhand/api.ErrExist", [108, 101, 118, 101, 108, 104, 97, 110, 100, 58, 32, 101, 120, 105, 115, 116]),
  ("levelhand/api.ErrFull", [108, 101, 118, 101, 108, 104, 97, 110, 100, 58, 32, 102, 117, 108, 108]),
  ("levelhand/api.ErrOld", [108, 101, 118, 101, 108, 104, 97, 110, 100, 58, 32, 111, 108, 100]),
  ("levelhand/api.ErrSum", [108, 101, 118, 101, 108, 104, 97, 110, 100, 58, 32, 115, 117, 109])]
def apiLaid : List (String × DataW Unit) := ("errors.errorType", .iface "internal/reflectlite.rtype" (.agg [.ptr (.lit (.string [101, 114, 114, 111, 114]))])) :: sentList apiErrs

theorem gErr (i : Nat) (h : i < 9) : ∃ x g, apiErrs[i]? = some x ∧ Tryz.prog.globalNamed x.1 = some g ∧ (Tryz.prog.globals[g]?).map (·.type) = some 31 := by
  match i, h with
  | 0, _ => exact ⟨_, 2, rfl, by kernel_rfl, by kernel_rfl⟩
  | 1, _ => exact ⟨_, 0, rfl, by kernel_rfl, by kernel_rfl⟩
  | 2, _ => exact ⟨_, 3, rfl, by kernel_rfl, by kernel_rfl⟩
  | 3, _ => exact ⟨_, 4, rfl, by kernel_rfl, by kernel_rfl⟩
  | 4, _ => exact ⟨_, 1, rfl, by kernel_rfl, by kernel_rfl⟩
  | 5, _ => exact ⟨_, 5, rfl, by kernel_rfl, by kernel_rfl⟩
  | 6, _ => exact ⟨_, 6, rfl, by kernel_rfl, by kernel_rfl⟩
  | 7, _ => exact ⟨_, 7, rfl, by kernel_rfl, by kernel_rfl⟩
  | 8, _ => exact ⟨_, 8, rfl, by kernel_rfl, by kernel_rfl⟩

theorem errs_of_api {W : World} (h : laidMetH Tryz.prog apiLaid W) : ∃ a, Errs a W := by
  have h' : laidMet Tryz.prog (sentList apiErrs) W ∧ handlesMet Tryz.prog [("errors.errorType", .iface "internal/reflectlite.rtype" (.agg [.ptr (.lit (.string [101, 114, 114, 111, 114]))]))] W := h
  obtain ⟨⟨ps, hl, hnd, hrows⟩, hh⟩ := h'
  obtain ⟨name, u, ty, e1, e2, e3, e4, e5⟩ := hh _ (List.mem_singleton.2 rfl)
  have en : name = [101, 114, 114, 111, 114] := (Option.some.inj e1).symm
  subst en
  obtain rfl := Option.some.inj (rtN.symm.trans e2)
  have hm : ty ∈ (List.range 365).filter fun t => Tryz.prog.rowNamed t [101, 114, 114, 111, 114] := List.mem_filter.2 ⟨List.mem_range.2 (by rw [← sizeT]; exact e3), e4⟩
  rw [oneRowE] at hm
  obtain rfl := List.mem_singleton.1 hm
  have hth : typeHandle Tryz.prog 31 = .pointer (some ⟨18, 31, none⟩) := by kernel_rfl
  rw [hth] at e5
  obtain ⟨ads, el, hsub, hv⟩ := sents_of Tryz.underlying31 rowE Tryz.underlying331 Tryz.underlying333 rfl rfl Tryz.underlying9 cellsE cellsS ps hrows apiErrs ps
    (fun x hx => by
      obtain ⟨i, hi, rfl⟩ := List.getElem_of_mem hx
      obtain ⟨y, g, hy, h1, h2⟩ := gErr i hi
      rw [List.getElem?_eq_getElem hi] at hy
      obtain rfl := Option.some.inj hy
      exact ⟨g, h1, h2⟩) (fun _ hm => hm) hl
  have el9 : ads.length = 9 := el
  have hnd' : (ads.map placeOf).Nodup := hnd.sublist hsub
  have cellAt : ∀ (i : Nat) (h : i < 9) (n : String) (g : Nat), (apiErrs[i]'h).1 = n → Tryz.prog.globalNamed n = some g → W.cell? ⟨g, 0, none⟩ = some (.iface 331 (.pointer (some (ads.getD i default)))) := by
    intro i h n g hn hg
    have := hv i h (by omega)
    rw [hn] at this
    have hd : ads.getD i default = ads[i]'(by omega) := by rw [List.getD_eq_getElem?_getD, List.getElem?_eq_getElem (by omega)]; rfl
    rw [hd]
    simpa using World.var?_cell hg this 0
  refine ⟨fun i => ads.getD i default, ?_⟩
  constructor
  · simpa using World.var?_cell gH e5 0
  · exact cellAt 0 (by decide) _ _ rfl (by kernel_rfl)
  · exact cellAt 1 (by decide) _ _ rfl (by kernel_rfl)
  · exact cellAt 2 (by decide) _ _ rfl (by kernel_rfl)
  · exact cellAt 3 (by decide) _ _ rfl (by kernel_rfl)
  · exact cellAt 4 (by decide) _ _ rfl (by kernel_rfl)
  · exact cellAt 5 (by decide) _ _ rfl (by kernel_rfl)
  · exact cellAt 6 (by decide) _ _ rfl (by kernel_rfl)
  · exact cellAt 7 (by decide) _ _ rfl (by kernel_rfl)
  · exact cellAt 8 (by decide) _ _ rfl (by kernel_rfl)
  · intro i hi
    have hmem : placeOf (ads[i]'(by omega)) ∈ ps := hsub.subset (List.mem_map.2 ⟨_, List.getElem_mem _, rfl⟩)
    have hd : ads.getD i default = ads[i]'(by omega) := by rw [List.getD_eq_getElem?_getD, List.getElem?_eq_getElem (by omega)]; rfl
    show ∃ c t, W.heap[(ads.getD i default).block]? = some (.cells c t (0, 0))
    rw [hd]
    exact (hrows _ _ hmem).1
  · intro i j hi hj hij e
    have hdi : ads.getD i default = ads[i]'(by omega) := by rw [List.getD_eq_getElem?_getD, List.getElem?_eq_getElem (by omega)]; rfl
    have hdj : ads.getD j default = ads[j]'(by omega) := by rw [List.getD_eq_getElem?_getD, List.getElem?_eq_getElem (by omega)]; rfl
    have e' : ads[i]'(by omega) = ads[j]'(by omega) := by rw [← hdi, ← hdj]; exact e
    have e2 : (ads.map placeOf)[i]'(by simp; omega) = (ads.map placeOf)[j]'(by simp; omega) := by simp [e']
    have hpw := List.pairwise_iff_getElem.1 hnd'
    rcases Nat.lt_or_gt_of_ne hij with hlt | hlt
    · exact hpw i j (by simp; omega) (by simp; omega) hlt e2
    · exact hpw j i (by simp; omega) (by simp; omega) hlt e2.symm

theorem laidOut : laidOutB Tryz.prog = true := by kernel_rfl
end Go.Proofs.YtmdckddenelneaaGreatDoor

/- Parts of a list of package variables; the errors of a list, by names. -/
namespace Go.Proofs.YtmdckddenelneaaGreatDoor
open Go.RowKit

theorem laidVars_take {P : Program} {w : World} : ∀ (xs ys : List (String × DataW Unit)) (ps : List MemPlace), DataW.LaidVars P w (xs ++ ys) ps → ∃ p1 p2, ps = p1 ++ p2 ∧ DataW.LaidVars P w xs p1
  | [], ys, ps, h => ⟨[], ps, rfl, rfl⟩
  | (n, d) :: xs, ys, ps, h => by
    obtain ⟨g, t, cs, fuel, p, q, h1, h2, h3, h4, h5, rfl⟩ := h
    obtain ⟨p1, p2, rfl, h6⟩ := laidVars_take xs ys q h5
    exact ⟨MemPlace.row ⟨g, 0, none⟩ cs.size ++ p ++ p1, p2, by simp, g, t, cs, fuel, p, p1, h1, h2, h3, h4, h6, rfl⟩
theorem laidMet_take {P : Program} {w : World} {xs ys : List (String × DataW Unit)} (h : laidMet P (xs ++ ys) w) : laidMet P xs w := by
  obtain ⟨ps, h1, h2, h3⟩ := h
  obtain ⟨p1, p2, rfl, h4⟩ := laidVars_take xs ys ps h1
  exact ⟨p1, h4, (List.nodup_append.1 h2).1, fun b off hm => h3 b off (List.mem_append_left _ hm)⟩
theorem laidMet_drop {P : Program} {w : World} : ∀ {xs ys : List (String × DataW Unit)}, laidMet P (xs ++ ys) w → laidMet P ys w
  | [], _, h => h
  | _ :: xs, _, h => laidMet_drop (xs := xs) (laidMet.tail h)
/-- errors of a list, by names -/
theorem sentCells {l : List (String × List UInt8)} {W : World} (h : laidMet Tryz.prog (sentList l) W) (hg : ∀ x ∈ l, ∃ g, Tryz.prog.globalNamed x.1 = some g ∧ (Tryz.prog.globals[g]?).map (·.type) = some 31) :
    ∃ ads : List Addr, ads.length = l.length ∧ ∀ i (hi : i < l.length) (g : Nat), Tryz.prog.globalNamed (l[i]).1 = some g → W.cell? ⟨g, 0, none⟩ = some (.iface 331 (.pointer (some (ads.getD i default)))) := by
  obtain ⟨ps, hl, _, hrows⟩ := h
  obtain ⟨ads, el, _, hv⟩ := sents_of Tryz.underlying31 rowE Tryz.underlying331 Tryz.underlying333 rfl rfl Tryz.underlying9 cellsE cellsS ps hrows l ps hg (fun _ hm => hm) hl
  refine ⟨ads, el, fun i hi g hgn => ?_⟩
  have := hv i hi (by omega)
  have hd : ads.getD i default = ads[i]'(by omega) := by rw [List.getD_eq_getElem?_getD, List.getElem?_eq_getElem (by omega)]; rfl
  rw [hd]
  simpa using World.var?_cell hgn this 0
end Go.Proofs.YtmdckddenelneaaGreatDoor

/- From the row's list of package variables, and the world's shape, to what the landed carry asks. -/
namespace Go.Proofs.YtmdckddenelneaaGreatDoor
open Go.RowKit

def conv2 : List (String × List UInt8) := [
  ("strconv.ErrRange", [118, 97, 108, 117, 101, 32, 111, 117, 116, 32, 111, 102, 32, 114, 97, 110, 103, 101]),
  ("strconv.ErrSyntax", [105, 110, 118, 97, 108, 105, 100, 32, 115, 121, 110, 116, 97, 120])]
theorem gConv : ∀ x ∈ conv2, ∃ g, Tryz.prog.globalNamed x.1 = some g ∧ (Tryz.prog.globals[g]?).map (·.type) = some 31 := by
  intro x hx
  simp only [conv2, List.mem_cons, List.not_mem_nil, or_false] at hx
  rcases hx with rfl | rfl
  · exact ⟨13, by kernel_rfl, by kernel_rfl⟩
  · exact ⟨12, by kernel_rfl, by kernel_rfl⟩
theorem mln_of {W : World} (h : W.ShapedOpen Tryz.prog) : ∃ m, W.cell? ⟨11, 0, none⟩ = some (.int .i64 m) :=
  cell_of_shapedOpen_int (t := 3) (zero := #[.int .i64 0]) h (of_decide_eq_true (by kernel_rfl)) (by kernel_rfl) rfl (by kernel_rfl) (by kernel_rfl) Tryz.underlying3
def brjI : List Int := Lib.deBruijn64tab.map fun (n : Nat) => ((n : Nat) : Int)
def tabs2 : List (String × DataW Unit) := [("math/bits.deBruijn64tab", Lib.tabData .u8 brjI), ("internal/strconv.uint64pow10", Lib.tabData .u64 Lib.pow10Tab)]
theorem tabs_of {W : World} {r : List (String × DataW Unit)} (h : laidMet Tryz.prog (tabs2 ++ r) W) : W.cell? ⟨15, 15, none⟩ = some (.int .u8 4) ∧ Lib.TabIs Tryz.prog W "internal/strconv.uint64pow10" .u64 Lib.pow10Tab := by
  have h1 : laidMet Tryz.prog (("math/bits.deBruijn64tab", Lib.tabData .u8 brjI) :: ("internal/strconv.uint64pow10", Lib.tabData .u64 Lib.pow10Tab) :: r) W := h
  have hg : Tryz.prog.globalNamed "math/bits.deBruijn64tab" = some 15 := by kernel_rfl
  have t1 := Lib.tabIs_of_head hg (t := 330) (by kernel_rfl) Tryz.underlying330 Tryz.underlying5 (by kernel_rfl) (by kernel_rfl) h1
  have t2 := Lib.tabIs_of_head (show Tryz.prog.globalNamed "internal/strconv.uint64pow10" = some 10 by kernel_rfl) (t := 314) (by kernel_rfl) Tryz.underlying314 Tryz.underlying27 (by kernel_rfl) (by kernel_rfl) (laidMet.tail h1)
  exact ⟨t1.cell hg 15 (by decide), t2⟩
theorem conv_of {W : World} (h : laidMet Tryz.prog (sentList conv2) W) : (∃ te pe, W.cell? ⟨12, 0, none⟩ = some (.iface te pe)) ∧ ∃ te pe, W.cell? ⟨13, 0, none⟩ = some (.iface te pe) := by
  obtain ⟨ads, _, hc⟩ := sentCells h gConv
  exact ⟨⟨_, _, hc 1 (by decide) 12 (by kernel_rfl)⟩, ⟨_, _, hc 0 (by decide) 13 (by kernel_rfl)⟩⟩
/-- with all errors of package api -/
theorem ec_of9 {W : World} (x y z : String × DataW Unit) (h : laidMet Tryz.prog ([x] ++ (tabs2 ++ ([y] ++ (sentList apiErrs ++ (sentList conv2 ++ [z]))))) W) (hh : handlesMet Tryz.prog [("errors.errorType", .iface "internal/reflectlite.rtype" (.agg [.ptr (.lit (.string [101, 114, 114, 111, 114]))]))] W) (hs : W.ShapedOpen Tryz.prog) : ∃ a, Errs a W ∧ EC a W := by
  have h1 := laidMet_drop h
  obtain ⟨hb, ht⟩ := tabs_of h1
  have h2 := laidMet_drop (laidMet_drop h1)
  obtain ⟨hy, hr⟩ := conv_of (laidMet_take (laidMet_drop h2))
  have h3 : laidMetH Tryz.prog apiLaid W := ⟨laidMet_take h2, hh⟩
  obtain ⟨a, he⟩ := errs_of_api h3
  exact ⟨a, he, he.s0, he.s1, he.s3, he.s5, he.s8, hy, hr, ht, hb, mln_of hs⟩
end Go.Proofs.YtmdckddenelneaaGreatDoor

/- The landed play keeps its contracts. -/
namespace Go.Proofs.YtmdckddenelneaaGreatDoor
open Go.RowKit

def playC (w0 : World) : PlayC (balanceOver w0) where
  E := EP w0
  eLater := fun h hb => h.later hb
  errs := fun h => h.errs
  newD := fun a W he => newDuo_any (balanceOver w0) a W he
  run := fun a x v sc W he hx hi hr ho hl hv => run_any (balP w0) a x v sc W he hx hi hr ho hl hv
  keys := fun n W => keys_any n W
theorem ep_start {W : World} (h : ∃ a, Errs a W ∧ EC a W) : ∃ a, (playC W).E a W := by
  obtain ⟨a, he, hc⟩ := h
  exact ⟨a, he, hc, Below.refl _ _⟩
end Go.Proofs.YtmdckddenelneaaGreatDoor

/- The row's frame with the world's shape kept, for a row that lists variables. -/
namespace Go.Proofs.YtmdckddenelneaaGreatDoor
open Go.ChangeShapes Go.WideShapes Go.ChangeAt Go.RowKit
theorem returnsShaped {H : Type} {enc : TypeId × Value → H} {a : Assume} {C : Checked} {os : Os} {f : FuncId} {fn : Func} {s : ChangeSpec} {conds : List PathCond} {apart fresh handsOn again : Bool} {X : World → Array Value → Prop}
    (hX : ∀ (w w' : World) (args : Array Value), w.heap = w'.heap → X w args → X w' args)
    (own : ownKnob C.prog.godebug = none) (started : os.Started) (noInit : C.prog.inits.idxOf? f = none) (hfn : C.prog.funcs[f]? = some fn)
    (witness : ∃ (w : World) (tape : Tape) (i : Input), w.os = os ∧ (w.forCall tape i).Shaped C.prog ∧ i.vars = [] ∧ Input.okWide C.prog (w.forCall tape i) .any w.heap.size f i ∧
      ((s.pre enc C.prog fn conds apart (w.forCall tape i).memory i.args ∧ X (w.forCall tape i).memory i.args) ∧ sizedMet enc C.prog fn (OpenSpec.ofChange s) apart (w.forCall tape i).memory i.args) ∧ a.holds C.prog (lone (Frame.enter C.prog f i.args .normal) [] (w.forCall tape i)))
    (contract : ∀ (W : World) (base : Nat) (args : Array Value) (ds gs : List (DataW H)) (before : List MemPlace),
      (∀ (j : Nat) t v, fn.params[j]? = some t → args[j]? = some v → Value.okWide C.prog W .any base t v) →
      DataW.Whole enc C.prog fn.params.toList s.vars apart W args.toList ds gs before →
      X W args → W.ShapedOpen C.prog →
      Calls C.prog f args W fun e W' => ∃ v, e = .returned v ∧ s.post enc C.prog fn apart fresh handsOn again W args v W') :
    ReturnsInHanded a C os f .any (fun w args => (s.pre enc C.prog fn conds apart w args ∧ X w args) ∧ sizedMet enc C.prog fn (OpenSpec.ofChange s) apart w args) (s.post enc C.prog fn apart fresh handsOn again) := by
  refine returnsInHanded_of_calls own started noInit witness ?_
  intro w tape i _ hsh _ hok hpre hholds
  obtain ⟨_, _, _, fn', hfn', _, _, _, _, hval⟩ := hok
  have e : fn' = fn := Option.some.inj (hfn'.symm.trans hfn)
  subst e
  obtain ⟨⟨⟨ds, gs, before, hw, hc⟩, hx⟩, hz⟩ := hpre
  have hw' := DataW.Whole.of_heap (w' := w.forCall tape i) (by rfl) hw
  refine (contract (w.forCall tape i) w.heap.size i.args ds gs before hval hw' (hX _ _ _ (by rfl) hx) hsh).mono fun e W' ⟨v, he, hp⟩ => ?_
  subst he
  exact ChangeSpec.post_blind hp
end Go.Proofs.YtmdckddenelneaaGreatDoor
