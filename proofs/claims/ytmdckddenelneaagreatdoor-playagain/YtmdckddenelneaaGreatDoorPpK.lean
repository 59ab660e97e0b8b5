/- The landed play: keys to play with. -/
import Derived.Test.YtmdckddenelneaaGreatDoorM42
import Derived.Test.YtmdckddenelneaaGreatDoorM15
import Derived.Test.YtmdckddenelneaaGreatDoorM45
import Derived.Test.YtmdckddenelneaaGreatDoorM5
namespace Go.Proofs.YtmdckddenelneaaGreatDoor
open Go.RowKit

/-- Block g of w is a row of keys, whole. -/
def KeyRow (w : World) (g : Nat) (xs : List Nat) : Prop := w.heap[g]? = some (.cells (xs.map fun x => Value.int .u64 ((x : Nat) : Int)).toArray 27 (0, 0))
section
variable {w w' : World} {g : Nat} {xs : List Nat}
theorem KeyRow.cell (h : KeyRow w g xs) {k : Nat} (hk : k < xs.length) : w.cell? ⟨g, k, none⟩ = some (.int .u64 (xs[k] : Nat)) := by
  rw [cell_of_row w g k _ _ _ h]
  simp [hk]
theorem KeyRow.frozen (h : KeyRow w g xs) (k : Nat) : w.frozen? ⟨g, k, none⟩ = false := frozen_of_row w g k _ _ h
theorem KeyRow.set (h : KeyRow w g xs) (k v : Nat) : KeyRow (w.setCell ⟨g, k, none⟩ (.int .u64 (v : Nat))) g (xs.set k v) := by
  have := heap_setCell_same w g k _ _ (.int .u64 (v : Nat)) h
  unfold KeyRow
  rw [this]
  simp [List.map_set]
theorem KeyRow.same (h : KeyRow w g xs) (he : w'.heap[g]? = w.heap[g]?) : KeyRow w' g xs := by
  unfold KeyRow
  rw [he]
  exact h
theorem KeyRow.lt (h : KeyRow w g xs) : g < w.heap.size := (Array.getElem?_eq_some_iff.1 h).1
theorem KeyRow.later (h : KeyRow w g xs) (hb : Below w.heap.size w w') : KeyRow w' g xs := h.same (hb.block g h.lt)
theorem KeyRow.keys (h : KeyRow w g xs) (c : Nat) : U64s w (.slice (some ⟨g, 0, none⟩) xs.length c) xs := ⟨_, c, rfl, fun k hk => ⟨g, 0, rfl, by rw [Nat.zero_add]; exact h.cell hk⟩⟩
theorem KeyRow.of_owns {base n : Nat} (h : w.ownsRow base 27 1 (.slice (some ⟨g, 0, none⟩) n n) n (xs.map fun x => Value.int .u64 ((x : Nat) : Int))) : KeyRow w g xs := by
  rcases h.2 with ⟨h', _⟩ | ⟨g', cap', cur, h', _, hg, _, _, hcs, ht⟩
  · simp at h'
  · simp only [Value.slice.injEq, Option.some.injEq, Addr.mk.injEq, and_true, true_and] at h'
    obtain ⟨rfl, rfl⟩ := h'
    unfold KeyRow
    rw [hg, ← ht, List.take_of_length_le (by simp; omega)]
end
theorem made_keys (n : Nat) : (madeCells #[Value.int .u64 0] n).toList = (List.replicate n (0 : Nat)).map fun x => Value.int .u64 ((x : Nat) : Int) := by
  rw [toList_madeCells_one]
  simp
theorem turns_set {N j : Nat} (h : j < N) : (((List.range j).map Lh.turn) ++ List.replicate (N - j) 0).set j (Lh.turn j) = ((List.range (j + 1)).map Lh.turn) ++ List.replicate (N - (j + 1)) 0 := by
  have e1 : N - j = (N - (j + 1)) + 1 := by omega
  rw [e1, List.replicate_succ, List.set_append, if_neg (by simp), List.length_map, List.length_range, Nat.sub_self, List.range_succ, List.map_append]
  simp
set_option maxRecDepth 100000 in
set_option maxHeartbeats 2000000 in
theorem keys_a (n : Int) (W : World) (hn : n < 0) :
    Calls Tryz.prog 8 #[.int .i64 n] W fun e W' => ∃ g, e = .returned (.slice (some ⟨g, 0, none⟩) 0 0) ∧ W.heap.size ≤ g ∧ KeyRow W' g ((List.range 0).map Lh.turn) ∧ Below W.heap.size W W' := by
  obtain ⟨i, hi, hz0, hz1, hz2⟩ := info_parts infoU
  have hbyt : i.bytes * 0 ≤ 281474976710656 := by rw [hz2]; omega
  have hmax : 0 ≤ maxLen := by unfold maxLen; omega
  have d1 : decide (n < 0) = true := by simpa using hn
  have m1 : max n 0 = 0 := by omega
  have m2 : min (0 : Int) 500 = 0 := by decide
  go_enter Tryz.func8, Tryz.ntmps8
  go_wp2_with (at_make; refine wpList_make_full _ rfl _ _ 23 rfl W.heap.size 27 i _ 1 Tryz.underlying23 hi hz0 hz1 _ _ _ _ 0 rfl rfl rfl rfl hbyt hmax (Nat.le_refl _) ?_)
  intro w2 hown hgrow
  have hb2 : Below W.heap.size W w2 := below_grown hgrow (fun k h => by cases h)
  rw [made_keys] at hown
  have hrow0 := KeyRow.of_owns hown
  clear hown hgrow
  obtain ⟨q, hqq⟩ : ∃ q, W.heap.size = q := ⟨_, rfl⟩
  rw [hqq] at hrow0
  rw [hqq]
  have hql : W.heap.size ≤ q := by omega
  clear hqq
  go_wp2_with fail
  go_loopw [4, 11] (fun _ u11 w' => Below W.heap.size W w' ∧ ∃ k : Nat, k ≤ 0 ∧ u11 = .int .i64 (k : Nat) ∧ KeyRow w' q (((List.range k).map Lh.turn) ++ List.replicate (0 - k) 0)) (fun _ u11 _ => 0 - (intOf u11).toNat)
  case atStart => exact ⟨hb2, 0, Nat.zero_le _, rfl, by simpa using hrow0⟩
  case round =>
    obtain ⟨hbr, k, hk, rfl, hrow⟩ := hrel
    obtain ⟨wo, hwo⟩ : ∃ wo, wo = wr := ⟨_, rfl⟩
    subst hwo
    clear hb2 hrow0
    by_cases hlt : k < 0
    · exact absurd hlt (Nat.not_lt_zero _)
    · have hd : decide ((k : Int) < 0) = false := by simp
      have HFI : Hid (KeyRow wo q ((List.range 0).map Lh.turn)) := by
        obtain rfl : k = 0 := by omega
        show KeyRow _ _ _
        simpa using hrow
      clear hrow
      go_wp2
      go_ret
      exact ⟨q, rfl, hql, HFI.out, hbr⟩
set_option maxRecDepth 100000 in
set_option maxHeartbeats 2000000 in
theorem keys_b (N : Nat) (W : World) (hN : N ≤ 500) :
    Calls Tryz.prog 8 #[.int .i64 (N : Nat)] W fun e W' => ∃ g, e = .returned (.slice (some ⟨g, 0, none⟩) N N) ∧ W.heap.size ≤ g ∧ KeyRow W' g ((List.range N).map Lh.turn) ∧ Below W.heap.size W W' := by
  obtain ⟨i, hi, hz0, hz1, hz2⟩ := info_parts infoU
  have hbyt : i.bytes * N ≤ 281474976710656 := by rw [hz2]; omega
  have hmax : N ≤ maxLen := by unfold maxLen; omega
  have d1 : decide ((N : Int) < 0) = false := by simp
  have m1 : max (N : Int) 0 = (N : Int) := by omega
  have m2 : min (N : Int) 500 = (N : Int) := by omega
  go_enter Tryz.func8, Tryz.ntmps8
  go_wp2_with (at_make; refine wpList_make_full _ rfl _ _ 23 rfl W.heap.size 27 i _ 1 Tryz.underlying23 hi hz0 hz1 _ _ _ _ N rfl rfl rfl rfl hbyt hmax (Nat.le_refl _) ?_)
  intro w2 hown hgrow
  have hb2 : Below W.heap.size W w2 := below_grown hgrow (fun k h => by cases h)
  rw [made_keys] at hown
  have hrow0 := KeyRow.of_owns hown
  clear hown hgrow
  obtain ⟨q, hqq⟩ : ∃ q, W.heap.size = q := ⟨_, rfl⟩
  rw [hqq] at hrow0
  rw [hqq]
  have hql : W.heap.size ≤ q := by omega
  clear hqq
  go_wp2_with fail
  go_loopw [4, 11] (fun _ u11 w' => Below W.heap.size W w' ∧ ∃ k : Nat, k ≤ N ∧ u11 = .int .i64 (k : Nat) ∧ KeyRow w' q (((List.range k).map Lh.turn) ++ List.replicate (N - k) 0)) (fun _ u11 _ => N - (intOf u11).toNat)
  case atStart => exact ⟨hb2, 0, Nat.zero_le _, rfl, by simpa using hrow0⟩
  case round =>
    obtain ⟨hbr, k, hk, rfl, hrow⟩ := hrel
    obtain ⟨wo, hwo⟩ : ∃ wo, wo = wr := ⟨_, rfl⟩
    subst hwo
    clear hb2 hrow0
    by_cases hlt : k < N
    · have hki : (k : Int) < (N : Int) := by omega
      have hku : IntKind.u64.wrap (k : Int) = (k : Int) := by simp [IntKind.wrap, IntKind.signed, IntKind.bits]; omega
      have HR : Hid (KeyRow wo q (((List.range k).map Lh.turn) ++ List.replicate (N - k) 0)) := hrow
      have HT : Hid (Calls Tryz.prog 28 #[.int .u64 (k : Nat)] wo fun e w' => e = .returned (.int .u64 (Lh.turn k : Nat)) ∧ Below wo.heap.size wo w') := (turn_gr k wo).mono fun e w' ⟨h1, h2⟩ => ⟨h1, h2.below⟩
      clear hrow
      go_wp2_with fail
      refine HT.out.mono ?_
      rintro e w4 ⟨rfl, hb4⟩
      have hrow4 := HR.out.later hb4
      have fy4 := hrow4.frozen k
      have cy4 := hrow4.cell (k := k) (by simp; omega)
      have HN4 : Hid (KeyRow (w4.setCell ⟨q, k, none⟩ (.int .u64 (Lh.turn k : Nat))) q (((List.range (k + 1)).map Lh.turn) ++ List.replicate (N - (k + 1)) 0)) := by
        have h1 := hrow4.set k (Lh.turn k)
        rw [turns_set hlt] at h1
        exact h1
      have hb14 : Below W.heap.size W w4 := below_then hbr hb4
      clear HT hrow4 hbr hb4
      generalize Lh.turn k = z at *
      go_wp2_with fail
      go_roundw
      case rel => exact ⟨hb14.setCell hql _, k + 1, by omega, by go_num, HN4.out⟩
      case measure => simp [intOf]; omega
    · have hd : decide ((k : Int) < (N : Int)) = false := by simp; omega
      have HFI : Hid (KeyRow wo q ((List.range N).map Lh.turn)) := by
        obtain rfl : k = N := by omega
        show KeyRow _ _ _
        simpa using hrow
      clear hrow
      go_wp2
      go_ret
      exact ⟨q, rfl, hql, HFI.out, hbr⟩
set_option maxRecDepth 100000 in
set_option maxHeartbeats 2000000 in
theorem keys_c (n : Int) (W : World) (hn : 500 < n) :
    Calls Tryz.prog 8 #[.int .i64 n] W fun e W' => ∃ g, e = .returned (.slice (some ⟨g, 0, none⟩) 500 500) ∧ W.heap.size ≤ g ∧ KeyRow W' g ((List.range 500).map Lh.turn) ∧ Below W.heap.size W W' := by
  obtain ⟨i, hi, hz0, hz1, hz2⟩ := info_parts infoU
  have hbyt : i.bytes * 500 ≤ 281474976710656 := by rw [hz2]; omega
  have hmax : 500 ≤ maxLen := by unfold maxLen; omega
  have d1 : decide (n < 0) = false := by simp; omega
  have m1 : max n 0 = n := by omega
  have m2 : min n 500 = 500 := by omega
  go_enter Tryz.func8, Tryz.ntmps8
  go_wp2_with (at_make; refine wpList_make_full _ rfl _ _ 23 rfl W.heap.size 27 i _ 1 Tryz.underlying23 hi hz0 hz1 _ _ _ _ 500 rfl rfl rfl rfl hbyt hmax (Nat.le_refl _) ?_)
  intro w2 hown hgrow
  have hb2 : Below W.heap.size W w2 := below_grown hgrow (fun k h => by cases h)
  rw [made_keys] at hown
  have hrow0 := KeyRow.of_owns hown
  clear hown hgrow
  obtain ⟨q, hqq⟩ : ∃ q, W.heap.size = q := ⟨_, rfl⟩
  rw [hqq] at hrow0
  rw [hqq]
  have hql : W.heap.size ≤ q := by omega
  clear hqq
  go_wp2_with fail
  go_loopw [4, 11] (fun _ u11 w' => Below W.heap.size W w' ∧ ∃ k : Nat, k ≤ 500 ∧ u11 = .int .i64 (k : Nat) ∧ KeyRow w' q (((List.range k).map Lh.turn) ++ List.replicate (500 - k) 0)) (fun _ u11 _ => 500 - (intOf u11).toNat)
  case atStart => exact ⟨hb2, 0, Nat.zero_le _, rfl, by simpa using hrow0⟩
  case round =>
    obtain ⟨hbr, k, hk, rfl, hrow⟩ := hrel
    obtain ⟨wo, hwo⟩ : ∃ wo, wo = wr := ⟨_, rfl⟩
    subst hwo
    clear hb2 hrow0
    by_cases hlt : k < 500
    · have hki : (k : Int) < 500 := by omega
      have hku : IntKind.u64.wrap (k : Int) = (k : Int) := by simp [IntKind.wrap, IntKind.signed, IntKind.bits]; omega
      have HR : Hid (KeyRow wo q (((List.range k).map Lh.turn) ++ List.replicate (500 - k) 0)) := hrow
      have HT : Hid (Calls Tryz.prog 28 #[.int .u64 (k : Nat)] wo fun e w' => e = .returned (.int .u64 (Lh.turn k : Nat)) ∧ Below wo.heap.size wo w') := (turn_gr k wo).mono fun e w' ⟨h1, h2⟩ => ⟨h1, h2.below⟩
      clear hrow
      go_wp2_with fail
      refine HT.out.mono ?_
      rintro e w4 ⟨rfl, hb4⟩
      have hrow4 := HR.out.later hb4
      have fy4 := hrow4.frozen k
      have cy4 := hrow4.cell (k := k) (by simp; omega)
      have HN4 : Hid (KeyRow (w4.setCell ⟨q, k, none⟩ (.int .u64 (Lh.turn k : Nat))) q (((List.range (k + 1)).map Lh.turn) ++ List.replicate (500 - (k + 1)) 0)) := by
        have h1 := hrow4.set k (Lh.turn k)
        rw [turns_set hlt] at h1
        exact h1
      have hb14 : Below W.heap.size W w4 := below_then hbr hb4
      clear HT hrow4 hbr hb4
      generalize Lh.turn k = z at *
      go_wp2_with fail
      go_roundw
      case rel => exact ⟨hb14.setCell hql _, k + 1, by omega, by go_num, HN4.out⟩
      case measure => simp [intOf]; omega
    · have hd : decide ((k : Int) < 500) = false := by simp; omega
      have HFI : Hid (KeyRow wo q ((List.range 500).map Lh.turn)) := by
        obtain rfl : k = 500 := by omega
        show KeyRow _ _ _
        simpa using hrow
      clear hrow
      go_wp2
      go_ret
      exact ⟨q, rfl, hql, HFI.out, hbr⟩
theorem keys_any (n : Int) (W : World) :
    Calls Tryz.prog 8 #[.int .i64 n] W fun e W' => ∃ v, e = .returned v ∧ U64s W' v ((List.range (min n.toNat 500)).map Lh.turn) ∧ Below W.heap.size W W' := by
  have key : ∀ (N : Nat), min n.toNat 500 = N → (Calls Tryz.prog 8 #[.int .i64 n] W fun e W' => ∃ g, e = .returned (.slice (some ⟨g, 0, none⟩) N N) ∧ W.heap.size ≤ g ∧ KeyRow W' g ((List.range N).map Lh.turn) ∧ Below W.heap.size W W') → Calls Tryz.prog 8 #[.int .i64 n] W fun e W' => ∃ v, e = .returned v ∧ U64s W' v ((List.range (min n.toNat 500)).map Lh.turn) ∧ Below W.heap.size W W' := fun N hN h => by
    rw [hN]
    refine h.mono ?_
    rintro e W' ⟨g, rfl, _, hr, hb⟩
    refine ⟨_, rfl, ?_, hb⟩
    have := hr.keys N
    rwa [List.length_map, List.length_range] at this
  by_cases h0 : n < 0
  · exact key 0 (by omega) (keys_a n W h0)
  · by_cases h5 : 500 < n
    · exact key 500 (by omega) (keys_c n W h5)
    · obtain ⟨N, rfl⟩ := Int.eq_ofNat_of_zero_le (show 0 ≤ n by omega)
      exact key N (by omega) (keys_b N W (by omega))
end Go.Proofs.YtmdckddenelneaaGreatDoor
