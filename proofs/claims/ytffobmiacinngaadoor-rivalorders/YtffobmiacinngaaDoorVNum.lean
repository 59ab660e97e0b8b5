/- Numbers and scores once more: the memory only grows. -/
import Derived.Test.YtffobmiacinngaaDoorNum
import Derived.Test.YtffobmiacinngaaDoorVMath
import Derived.Sort.Grow
namespace Go.Proofs.YtffobmiacinngaaDoor
open Go.RowKit Go.Sort

/-- Only draws, and new blocks. -/
def Gr (w w' : World) : Prop := ∃ q os, w' = grow (w.drewN q) os
theorem Gr.refl (w : World) : Gr w w := ⟨0, #[], by rw [grow_empty]; rfl⟩
theorem Gr.trans {a b c : World} (h : Gr a b) (k : Gr b c) : Gr a c := by
  obtain ⟨q, os, rfl⟩ := h
  obtain ⟨q', os', rfl⟩ := k
  refine ⟨q + q', os ++ os', ?_⟩
  show grow (grow ((a.drewN q).drewN q') os) os' = _
  rw [grow_grow, World.drewN_drewN]
theorem Gr.alloc {a b : World} (h : Gr a b) (o : Obj) : Gr a (b.alloc o) := h.trans ⟨0, #[o], by rw [alloc_eq_grow]; rfl⟩
theorem Gr.drewN {a b : World} (h : Gr a b) (n : Nat) : Gr a (b.drewN n) := h.trans ⟨n, #[], by rw [grow_empty]⟩
theorem Gr.cell {a b : World} (h : Gr a b) {x : Addr} {v : Value} (hc : a.cell? x = some v) : b.cell? x = some v := by
  obtain ⟨q, os, rfl⟩ := h
  have hb : x.block < a.heap.size := by
    by_cases hb : x.block < a.heap.size
    · exact hb
    · rw [World.cell?, Array.getElem?_eq_none (by omega)] at hc
      cases hc
  rw [cell?_grow (a.drewN q) os x hb]
  exact hc
theorem Gr.below {w w' : World} (h : Gr w w') : Below w.heap.size w w' := by
  obtain ⟨q, os, rfl⟩ := h
  exact ⟨rfl, rfl, rfl, by rw [size_grow]; exact Nat.le_add_right _ _, fun k hk => heap_grow_old _ _ hk⟩

set_option maxHeartbeats 400000 in
theorem turn_gr (z : Nat) (w : World) :
    Calls Tryd.prog 23 #[.int .u64 z] w fun e w' => e = .returned (.int .u64 (Lh.turn z : Nat)) ∧ Gr w w' := by
  go_enter Tryd.func23, Tryd.ntmps23
  go_wp2
  go_end0
  go_wp2
  go_end0
  go_wp2
  go_end0
  go_wp2
  go_ret
  refine ⟨?_, (Gr.refl _).alloc _⟩
  rw [stepAdd, step30 _ (Nat.mod_lt _ (by decide)), step27 _ (Nat.mod_lt _ (by decide)), step31 _ (Nat.mod_lt _ (by decide))]
  rfl

set_option maxHeartbeats 400000 in
theorem two_gr (a b : Nat) (hb : b < 18446744073709551616) (w : World) :
    Calls Tryd.prog 25 #[.int .u64 a, .int .u64 b] w fun e w' => e = .returned (.int .u64 (Lh.turn (Lh.turn a ^^^ b) : Nat)) ∧ Gr w w' := by
  go_enter Tryd.func25, Tryd.ntmps25
  go_wp2_with fail
  refine (turn_gr a _).mono ?_
  rintro e w1 ⟨rfl, hb1⟩
  go_wp2_with fail
  rw [xorNat _ _ (Lh.turn_lt a) hb]
  refine (turn_gr _ _).mono ?_
  rintro e w2 ⟨rfl, hb2⟩
  go_wp2
  go_ret
  exact ⟨rfl, hb1.trans hb2⟩

set_option maxHeartbeats 400000 in
theorem of_gr (s : ByteArray) (salt : Nat) (w : World) (hs : s.size ≤ 300) :
    Calls Tryd.prog 21 #[.string s, .int .u64 salt] w fun e w' => e = .returned (.int .u64 (Lh.num s salt : Nat)) ∧ Gr w w' := by
  go_enter Tryd.func21, Tryd.ntmps21
  go_wp2
  go_loop [5, 9] (fun h i => ∃ k : Nat, k ≤ s.size ∧ i = .int .i64 k ∧ h = .int .u64 (Lh.hash (s.data.toList.take k) : Nat)) (fun _ i => s.size - (intOf i).toNat)
  case atStart => exact ⟨0, Nat.zero_le _, rfl, rfl⟩
  case round =>
    obtain ⟨k, hk, rfl, rfl⟩ := hrel
    by_cases hlt : k < s.size
    · have HN : Hid _ := hash_next s k hlt
      go_wp2
      go_round
      case rel => exact ⟨k + 1, by omega, by go_num, by rw [← HN.out]⟩
      case measure => simp [intOf]; omega
    · have hfull : s.data.toList.take k = s.data.toList := List.take_of_length_le (by simp; omega)
      rw [hfull]
      clear hfull
      go_wp2_with fail
      refine (turn_gr salt _).mono ?_
      rintro e w1 ⟨rfl, hb1⟩
      go_wp2_with fail
      rw [xorNat _ _ (Lh.hash_lt _) (Lh.turn_lt _)]
      refine (turn_gr _ _).mono ?_
      rintro e w2 ⟨rfl, hb2⟩
      go_wp2
      go_ret
      exact ⟨rfl, hb1.trans hb2⟩

set_option maxHeartbeats 400000 in
/-- rival.Score -/
theorem score_gr (s : ByteArray) (k : Nat) (hk : k < 18446744073709551616) (w : World) (hs : s.size ≤ 300) :
    Calls Tryd.prog 59 #[.string s, .int .u64 k] w fun e w' => e = .returned (.int .u64 (Lh.score k s : Nat)) ∧ Gr w w' := by
  go_enter Tryd.func59, Tryd.ntmps59
  go_wp2_with fail
  refine (of_gr s 3 _ hs).mono ?_
  rintro e w1 ⟨rfl, hb1⟩
  go_wp2_with fail
  refine (two_gr _ k hk _).mono ?_
  rintro e w2 ⟨rfl, hb2⟩
  go_wp2
  go_ret
  exact ⟨rfl, hb1.trans hb2⟩
end Go.Proofs.YtffobmiacinngaaDoor
