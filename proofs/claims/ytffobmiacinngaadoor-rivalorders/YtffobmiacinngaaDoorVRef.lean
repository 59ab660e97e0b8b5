/- The reference's ScoreOf; laying in one more, pure. -/
import Derived.Test.YtffobmiacinngaaDoorVHost
namespace Go.Proofs.YtffobmiacinngaaDoor
open Go.RowKit Go.Sort

namespace Lh
theorem insR_sorted {f : ByteArray → Nat} {ys : List ByteArray} {x : ByteArray} {k : Nat} (hs : ys.Pairwise (leR f)) (hlo : ∀ j (h : j < ys.length), j < k → leR f ys[j] x) (hhi : ∀ h : k < ys.length, leR f x ys[k]) :
    (ys.take k ++ x :: ys.drop k).Pairwise (leR f) := by
  have hpw := List.pairwise_iff_getElem.1 hs
  have hlow : ∀ y ∈ ys.take k, leR f y x := by
    intro y hy
    rw [List.mem_take_iff_getElem] at hy
    obtain ⟨j, hj, rfl⟩ := hy
    exact hlo j (by omega) (by omega)
  have hhigh : ∀ y ∈ ys.drop k, leR f x y := by
    intro y hy
    rw [List.mem_drop_iff_getElem] at hy
    obtain ⟨j, hj, rfl⟩ := hy
    have hkl : k < ys.length := by omega
    rcases Nat.eq_zero_or_pos j with h | h
    · subst h; simpa using hhi hkl
    · exact leR_trans (hhi hkl) (hpw k (k + j) hkl (by omega) (by omega))
  rw [List.pairwise_append, List.pairwise_cons]
  refine ⟨hs.sublist (List.take_sublist _ _), ⟨hhigh, hs.sublist (List.drop_sublist _ _)⟩, fun a ha b hb => ?_⟩
  rcases List.mem_cons.1 hb with rfl | hb
  · exact hlow a ha
  · exact leR_trans (hlow a ha) (hhigh b hb)
theorem insR_perm {ys xs : List ByteArray} {n : Nat} (hn : n < xs.length) {k : Nat} (hp : ys.Perm (xs.take n)) : (ys.take k ++ xs[n] :: ys.drop k).Perm (xs.take (n + 1)) := by
  rw [List.take_succ_eq_append_getElem hn]
  refine List.perm_middle.trans ?_
  rw [List.take_append_drop]
  exact (hp.cons _).trans (List.perm_append_singleton _ _).symm
/-- x ahead of y -/
theorem leR_more {f : ByteArray → Nat} {x y : ByteArray} (h : f y < f x) : leR f x y := Or.inl h
theorem leR_less {f : ByteArray → Nat} {x y : ByteArray} (h : f x < f y) : leR f y x := Or.inl h
theorem leR_same {f : ByteArray → Nat} {x y : ByteArray} (h : f x = f y) (hb : Op.bytesLess x.toList y.toList = true) : leR f x y := by
  rw [less_bl] at hb
  exact Or.inr ⟨h, List.le_of_lt (of_decide_eq_true hb)⟩
theorem leR_same_not {f : ByteArray → Nat} {x y : ByteArray} (h : f x = f y) (hb : Op.bytesLess x.toList y.toList = false) : leR f y x := by
  rw [less_bl] at hb
  exact Or.inr ⟨h.symm, List.not_lt.1 (of_decide_eq_false hb)⟩
end Lh

set_option maxHeartbeats 400000 in
/-- the reference's ScoreOf -/
theorem scoreOf_any (s : ByteArray) (k : Nat) (hk : k < 18446744073709551616) (w : World) (hs : s.size ≤ 300) :
    Calls Tryd.prog 60 #[.string s, .int .u64 (k : Nat)] w fun e w' => e = .returned (.int .u64 (Lh.score k s : Nat)) ∧ w' = w := by
  go_enter Tryd.func60, Tryd.ntmps60
  go_wp2_with fail
  refine (numberOf_any s 3 _ hs).mono ?_
  rintro e w1 ⟨rfl, rfl⟩
  go_wp2_with fail
  refine (turnOf_any _ _).mono ?_
  rintro e w2 ⟨rfl, rfl⟩
  go_wp2_with fail
  rw [xorNat _ _ (Lh.turn_lt _) hk]
  refine (turnOf_any _ _).mono ?_
  rintro e w3 ⟨rfl, rfl⟩
  go_wp2
  go_ret
  exact ⟨rfl, rfl⟩
end Go.Proofs.YtffobmiacinngaaDoor
