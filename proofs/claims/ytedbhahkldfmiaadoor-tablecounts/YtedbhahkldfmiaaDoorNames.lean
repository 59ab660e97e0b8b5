/- Names: the walk. -/
import Derived.Test.YtedbhahkldfmiaaDoorLists
namespace Go.Proofs.YtedbhahkldfmiaaDoor
open Go.RowKit

/-- coded: the number of an error whose Code is known. -/
theorem coded_of (ev : Value) (c d : Int) (w : World) (hc : Calls Tryd.prog 13 #[ev] w fun e w' => e = .returned (.tuple #[.int .i64 c, .int .i64 (-1)]) ∧ Below w.heap.size w w') (hd : (c == d) = true) :
    Calls Tryd.prog 14 #[ev, .int .i64 d] w fun e w' => e = .returned (.bool true) ∧ Below w.heap.size w w' := by
  go_enter Tryd.func14, Tryd.ntmps14
  go_wp2_with fail
  refine hc.mono ?_
  rintro e w1 ⟨rfl, hb⟩
  clear hc
  go_wp2
  go_ret
  exact ⟨rfl, hb⟩

def namesList : List Int := [12, 12, 503, 16, 500, 1048576, 200, 1099511627776, 1000, 10, 20000, 3000, 100, 16]
theorem ints_alloc (w : World) (xs : List Int) (c : Nat) (t : TypeId) : Ints (w.alloc (.cells (xs.map (Value.int .i64)).toArray t)) (.slice (some ⟨w.heap.size, 0, none⟩) xs.length c) xs := by
  refine Or.inr ⟨_, _, c, rfl, fun k hk => ?_⟩
  rw [World.cell?_alloc_at _ _ _ _ rfl]
  simp [hk]
theorem ints_alloc2 (w : World) (xs ys : List Int) (c : Nat) (t : TypeId) : Ints ((w.alloc (.cells (xs.map (Value.int .i64)).toArray t)).alloc (.cells (ys.map (Value.int .i64)).toArray t)) (.slice (some ⟨w.heap.size, 0, none⟩) xs.length c) xs :=
  (ints_alloc w xs c t).later ((Below.refl _ _).alloc (Nat.le_refl _) _)
theorem ints_alloc2' (w : World) (xs ys : List Int) (c : Nat) (t : TypeId) : Ints ((w.alloc (.cells (xs.map (Value.int .i64)).toArray t)).alloc (.cells (ys.map (Value.int .i64)).toArray t)) (.slice (some ⟨w.heap.size + 1, 0, none⟩) ys.length c) ys := by
  have := ints_alloc (w.alloc (.cells (xs.map (Value.int .i64)).toArray t)) ys c t
  simpa using this

theorem heap_new (w : World) (o : Obj) : (w.alloc o).heap[w.heap.size]? = some o := by
  show (w.heap.push o)[w.heap.size]? = some o
  simp
theorem new_any (s : ByteArray) (w : World) : Calls Tryd.prog 15 #[.string s] w fun e w' => e = .returned (.iface 84 (.pointer (some ⟨w.heap.size, 0, none⟩))) ∧ w' = w.alloc (.cells #[.string s] 86) := by
  go_enter Tryd.func15, Tryd.ntmps15
  go_wp2
  go_ret
  exact ⟨rfl, rfl⟩

set_option maxHeartbeats 2000000 in
theorem names_any (a : Nat → Addr) (w : World) (he : Errs a w) :
    Calls Tryd.prog 3 #[] w fun e w' => e = .returned (.bool true) ∧ Below w.heap.size w w' := by
  go_enter Tryd.func3, Tryd.ntmps3
  go_wp2_with fail
  refine (sameInts_any (.slice (some ⟨w.heap.size, 0, none⟩) 14 14) (.slice (some ⟨w.heap.size + 1, 0, none⟩) 14 14) namesList namesList _ (ints_alloc2 w namesList namesList 14 3) (ints_alloc2' w namesList namesList 14 3) (by decide) (by decide)).mono ?_
  rintro e w1 ⟨rfl, hb1⟩
  rw [decide_eq_true rfl]
  have hb : Below w.heap.size w w1 := (((Below.refl w.heap.size w).alloc (Nat.le_refl _) _).alloc (by simp) _).trans (hb1.mono (by simp; omega))
  clear hb1
  obtain ⟨hh, s0, s1, s2, s3, s4, s5, s6, s7, s8, hrow, hne⟩ := he.later hb
  clear hh hrow hne
  go_wp2_with fail
  obtain ⟨W2, hW2⟩ : ∃ W2, W2 = w1.alloc (.cells #[.iface 84 (.pointer (some (a 0))), .iface 84 (.pointer (some (a 1))), .iface 84 (.pointer (some (a 2))), .iface 84 (.pointer (some (a 3))), .iface 84 (.pointer (some (a 4))), .iface 84 (.pointer (some (a 5))), .iface 84 (.pointer (some (a 6))), .iface 84 (.pointer (some (a 7))), .iface 84 (.pointer (some (a 8)))] 25) := ⟨_, rfl⟩
  rw [← hW2]
  have hwc : ∀ k, k < 9 → W2.cell? ⟨w1.heap.size, k, none⟩ = some (.iface 84 (.pointer (some (a k)))) := by
    intro k hk
    rw [hW2, World.cell?_alloc_at _ _ _ _ rfl]
    match k, hk with
    | 0, _ => rfl
    | 1, _ => rfl
    | 2, _ => rfl
    | 3, _ => rfl
    | 4, _ => rfl
    | 5, _ => rfl
    | 6, _ => rfl
    | 7, _ => rfl
    | 8, _ => rfl
  have hb2 : Below w.heap.size w W2 := by rw [hW2]; exact hb.alloc hb.size _
  clear hW2 s0 s1 s2 s3 s4 s5 s6 s7 s8
  have HC : Hid _ := hwc
  clear hwc
  go_loopw [4] (fun t W => Below W2.heap.size W2 W ∧ ∃ k : Nat, k ≤ 9 ∧ t = .int .i64 k) (fun t _ => 9 - (intOf t).toNat)
  case atStart => exact ⟨Below.refl _ _, 0, by omega, rfl⟩
  case round =>
    obtain ⟨hbr, k, hk, rfl⟩ := hrel
    have hbw : Below w.heap.size w wr := hb2.trans (hbr.mono hb2.size)
    have her : Errs a wr := he.later hbw
    by_cases hk9 : k < 9
    · have hck := below_cell hbr (HC.out k hk9)
      go_wp2_with fail
      have hba : Below wr.heap.size wr (wr.alloc (.cells #[.int .i64 7, .iface 84 (.pointer (some (a k)))] 31)) := (Below.refl _ _).alloc (Nat.le_refl _) _
      refine (code_fault a k hk9 7 wr.heap.size _ (her.later hba) (by simp) (by simp)).mono ?_
      rintro e w3 ⟨rfl, hb3⟩
      rw [codeNum_lt hk9]
      have hb3' : Below wr.heap.size wr w3 := hba.trans (hb3.mono (by simp))
      have hck3 := below_cell hb3' hck
      clear hba hb3
      go_wp2_with fail
      refine (coded_of _ (codeNum k) _ _ (code_sent a k hk9 w3 (her.later hb3')) (by rw [codeNum_lt hk9]; simp)).mono ?_
      rintro e w4 ⟨rfl, hb4⟩
      have hb4' : Below W2.heap.size W2 w4 := hbr.trans (((hb3'.trans (hb4.mono hb3'.size))).mono hbr.size)
      clear hb4
      go_wp2
      exact ⟨⟨hb4', k + 1, by omega, by go_num⟩, by simp [intOf]; omega⟩
    · go_wp2_with fail
      refine (new_any _ _).mono ?_
      rintro e w3 ⟨rfl, rfl⟩
      have hba : Below wr.heap.size wr (wr.alloc (.cells #[.string ⟨#[97, 110, 111, 116, 104, 101, 114, 32, 111, 110, 101]⟩] 86)) := (Below.refl _ _).alloc (Nat.le_refl _) _
      go_wp2_with fail
      refine (code_new a ⟨wr.heap.size, 0, none⟩ _ (her.later hba) ⟨_, _, heap_new _ _⟩ ?_).mono ?_
      · intro k hk' e
        obtain ⟨c, t, hr⟩ := her.row k hk'
        rw [← e] at hr
        rw [Array.getElem?_eq_none (Nat.le_refl _)] at hr
        cases hr
      rintro e w4 ⟨rfl, hb4⟩
      have hb4' : Below wr.heap.size wr w4 := hba.trans (hb4.mono (by simp))
      clear hb4 hba
      go_wp2_with fail
      refine (coded_of _ 0 _ _ ((code_nil w4).mono fun e w' ⟨h1, h2⟩ => ⟨h1, by rw [h2]; exact Below.refl _ _⟩) (by decide)).mono ?_
      rintro e w5 ⟨rfl, hb5⟩
      go_wp2
      go_ret
      exact ⟨rfl, hbw.trans ((hb4'.trans (hb5.mono hb4'.size)).mono hbw.size)⟩
end Go.Proofs.YtedbhahkldfmiaaDoor
