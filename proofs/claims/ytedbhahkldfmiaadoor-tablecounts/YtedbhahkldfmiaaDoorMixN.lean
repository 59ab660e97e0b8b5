/- MixNumbers: the walk. -/
import Derived.Test.YtedbhahkldfmiaaDoorSortedOf
import Derived.Deep.RegionWith
namespace Go.Proofs.YtedbhahkldfmiaaDoor
open Go.RowKit

theorem below_of_drew {w w' : World} (h : Below w.drew.heap.size w.drew w') : Below w.heap.size w w' := ⟨h.os, h.tape, h.output, h.size, h.block⟩
theorem sortedOf_zero (p : Option Addr) (cap : Nat) (w : World) :
    Calls Tryd.prog 29 #[.slice p 0 cap] w fun e w' => e = .returned (.slice none 0 0) ∧ w' = w := by
  go_enter Tryd.func29, Tryd.ntmps29
  go_wp2
  refine wp_loop_rounds 1 ?_
  rw [rounds_succ]
  go_wp2
  go_ret
  exact ⟨rfl, rfl⟩
theorem sortedOf_any (v : Value) (xs : List ByteArray) (w : World) (hv : Strs1 w v xs) (hm : xs.length < 1000000) :
    Calls Tryd.prog 29 #[v] w fun e w' => ∃ v', e = .returned v' ∧ Strs1 w' v' (Lh.sortT xs) ∧ Below w.heap.size w w' := by
  rcases hv with ⟨rfl, rfl | ⟨ad, c, rfl⟩⟩ | ⟨b, o, c, rfl, hcap, hx⟩
  · exact (sortedOf_zero _ _ w).mono fun e w' ⟨h1, h2⟩ => ⟨_, h1, Or.inl ⟨by rw [← Lh.sort_unique (xs := []) (ys := []) List.Pairwise.nil List.Perm.nil], Or.inl rfl⟩, by rw [h2]; exact Below.refl _ _⟩
  · exact (sortedOf_zero _ _ w).mono fun e w' ⟨h1, h2⟩ => ⟨_, h1, Or.inl ⟨by rw [← Lh.sort_unique (xs := []) (ys := []) List.Pairwise.nil List.Perm.nil], Or.inl rfl⟩, by rw [h2]; exact Below.refl _ _⟩
  · exact sortedOf_core b o c xs w hx hm

set_option maxRecDepth 100000 in
set_option maxHeartbeats 4000000 in
theorem mixNumbers_any (a : Nat → Addr) (lv : Value) (xs : List ByteArray) (s : ByteArray) (salt key : Nat) (w : World) (he : Errs a w) (hl : Strs1 w lv xs) (hsz : ∀ k (h : k < xs.length), (xs[k]).size ≤ maxLen) (hlen : xs.length ≤ maxLen) (hs : s.size ≤ maxLen) (_hsalt : salt < 18446744073709551616) (hkey : key < 18446744073709551616) :
    Calls Tryd.prog 4 #[lv, .string s, .int .u64 salt, .int .u64 key] w fun e w' => e = .returned (.bool true) ∧ Below w.heap.size w w' := by
  unfold maxLen at hs
  go_enter Tryd.func4, Tryd.ntmps4
  go_wp2_with fail
  refine (mixed_any _).mono ?_
  rintro e w1 ⟨rfl, hb1⟩
  go_wp2_with fail
  refine (long_any lv xs _ (hl.later hb1).strs hsz hlen).mono ?_
  rintro e w2 ⟨hlo, rfl⟩
  rcases hlo with rfl | ⟨rfl, h30, h60⟩
  · go_wp2
    go_ret
    exact ⟨rfl, hb1⟩
  by_cases h300 : 300 < s.size
  · have e300 : decide (300 < (s.size : Int)) = true := by simp; omega
    go_wp2
    go_ret
    exact ⟨rfl, hb1⟩
  have e300 : decide (300 < (s.size : Int)) = false := by simp; omega
  have hm : xs.length < 1000000 := by omega
  have hs6 : ∀ k (h : k < xs.length), (xs[k]).size ≤ 1000000 := fun k h => Nat.le_trans (h60 k h) (by decide)
  have HS6 : Hid _ := hs6
  clear hsz hlen h60 hs6
  go_wp2_with fail
  refine (of_any s salt _ (by omega)).mono ?_
  rintro e w3 ⟨rfl, hb3⟩
  go_wp2_with fail
  refine (numberOf_any s salt _ (by omega)).mono ?_
  rintro e w4 ⟨rfl, rfl⟩
  go_wp2_with fail
  refine (turn_any key _).mono ?_
  rintro e w5 ⟨rfl, hb5⟩
  go_wp2_with fail
  refine (turnOf_any key _).mono ?_
  rintro e w6 ⟨rfl, rfl⟩
  go_wp2_with fail
  refine (two_any salt key hkey _).mono ?_
  rintro e w7 ⟨rfl, hb7⟩
  go_wp2_with fail
  refine (turnOf_any salt _).mono ?_
  rintro e w8 ⟨rfl, rfl⟩
  go_wp2_with fail
  rw [xorNat _ _ (Lh.turn_lt salt) hkey]
  refine (turnOf_any _ _).mono ?_
  rintro e w9 ⟨rfl, rfl⟩
  have hbA := below_then (below_then (below_then hb1 hb3) hb5) hb7
  clear hb1 hb3 hb5 hb7
  obtain ⟨c, pl, hf⟩ := isFault_ex xs
  have HF : Hid (IsFault xs c pl) := hf
  have hbot : 0 ≤ c := Nat.zero_le _
  go_wp2_with fail
  refine (hfault_any lv xs _ c pl (hl.later hbA).strs HF.out HS6.out hm).mono ?_
  rintro e wA ⟨rfl, hb⟩
  have hbB := below_then hbA hb
  clear hb hbA hf
  go_wp2_with fail
  have hbC : Below w.heap.size w (wA.alloc (.cells #[.int .i64 c, .int .i64 pl] 42)) := hbB.alloc hbB.size _
  refine (ownTexts_any lv xs _ (hl.later hbC) hm).mono ?_
  rintro e wD ⟨v1, rfl, hv1, hbD⟩
  have f0 : wD.cell? ⟨wA.heap.size, 0, none⟩ = some (.int .i64 c) := below_cell hbD (by simp)
  have f1 : wD.cell? ⟨wA.heap.size, 1, none⟩ = some (.int .i64 pl) := below_cell hbD (by simp)
  have hbE := below_then hbC hbD
  clear hbD hbC hbB
  go_wp2_with fail
  by_cases hc : c = 0
  · subst hc
    have hpl : pl = -1 := by
      rcases HF.out with ⟨_, h, _⟩ | ⟨_, i, _, _, _, ⟨_, h⟩ | ⟨_, _, h⟩⟩ | ⟨_, _, _, h⟩
      · cases h
      · cases h
      · cases h
      · exact h
    subst hpl
    refine (sorted_good a v1 xs wD (he.later hbE) hv1 HF.out HS6.out hm).mono ?_
    rintro e wF ⟨v3, rfl, hv3, hbF⟩
    have g0 := below_cell hbF f0
    have g1 := below_cell hbF f1
    have hbG := below_then hbE hbF
    have heG := he.later hbG
    have hlG := hl.later hbG
    clear hbF hbE f0 f1 hv1
    go_wp2_with fail
    go_region_with (first
      | (go_at_call 25; refine (ownTexts_any lv xs _ ?_ hm).mono ?_; exact hlG; rintro e wH ⟨v2, rfl, hv2, hbH0⟩; have hbH := below_of_drew hbH0; have k0 := below_cell hbH g0; have k1 := below_cell hbH g1)
      | (go_at_call 27; refine (check_any a v2 xs _ 0 (-1) ?_ ?_ HF.out HS6.out hm).mono ?_; exact heG.later hbH; exact hv2.strs; rintro e wI ⟨ev2, rfl, hev2, hbI⟩; have l0 := below_cell hbI k0; have l1 := below_cell hbI k1)
      | (go_at_call 26; refine (faulted_is (a := a) ?_ ?_).mono ?_; exact (heG.later hbH).later hbI; exact hev2; rintro e wJ ⟨rfl, hbJ⟩))
    all_goals
      have hbK := below_then (below_then hbH hbI) hbJ
      have m0 := below_cell hbK g0
      have m1 := below_cell hbK g1
      have hv3K := hv3.later hbK
      have hlK := hlG.later hbK
      have hbZ := below_then hbG hbK
      clear hbH hbI hbJ hbK k0 k1 l0 l1 g0 g1 hev2 hv2 hlG hbG hbH0 hv3
      go_wp2_with fail
      refine (sortedOf_any lv xs _ hlK hm).mono ?_
      rintro e wL ⟨v4, rfl, hv4, hbL⟩
      go_wp2_with fail
      refine (sameTexts_any v3 v4 (Lh.sortT xs) (Lh.sortT xs) _ (hv3K.later hbL).strs hv4.strs (by rw [Lh.sortT_length]; exact hm) (by rw [Lh.sortT_length]; exact hm)).mono ?_
      rintro e wM ⟨rfl, hbM⟩
      rw [decide_eq_true rfl]
      go_wp2
      go_ret
      exact ⟨rfl, below_then (below_then hbZ hbL) hbM⟩
  · refine (sorted_bad a v1 xs wD c pl (he.later hbE) hv1 HF.out hc HS6.out hm).mono ?_
    rintro e wF ⟨ev, rfl, hev, hbF⟩
    have g0 := below_cell hbF f0
    have g1 := below_cell hbF f1
    have hbG := below_then hbE hbF
    have heG := he.later hbG
    have hlG := hl.later hbG
    have hcp : decide (0 < (c : Int)) = true := by simp; omega
    clear hbF hbE f0 f1 hv1
    go_wp2_with fail
    go_region_with (first
      | (go_at_call 25; refine (ownTexts_any lv xs _ ?_ hm).mono ?_; exact hlG; rintro e wH ⟨v2, rfl, hv2, hbH0⟩; have hbH := below_of_drew hbH0; have k0 := below_cell hbH g0; have k1 := below_cell hbH g1)
      | (go_at_call 27; refine (check_any a v2 xs _ c pl ?_ ?_ HF.out HS6.out hm).mono ?_; exact heG.later hbH; exact hv2.strs; rintro e wI ⟨ev2, rfl, hev2, hbI⟩; have l0 := below_cell hbI k0; have l1 := below_cell hbI k1)
      | (go_at_call 26; refine (faulted_is (a := a) ?_ ?_).mono ?_; exact (heG.later hbH).later hbI; exact hev2; rintro e wJ ⟨rfl, hbJ⟩))
    all_goals
      have hbK := below_then (below_then hbH hbI) hbJ
      have m0 := below_cell hbK g0
      have m1 := below_cell hbK g1
      have heK := heG.later hbK
      have hevK := hev.later hbK
      have hbZ := below_then hbG hbK
      clear hbH hbI hbJ hbK k0 k1 l0 l1 g0 g1 hev hev2 hv2 hlG hbG hbH0
      go_wp2_with fail
      refine (faulted_is heK hevK).mono ?_
      rintro e wL ⟨rfl, hbL⟩
      go_wp2
      go_ret
      exact ⟨rfl, below_then hbZ hbL⟩
end Go.Proofs.YtedbhahkldfmiaaDoor
