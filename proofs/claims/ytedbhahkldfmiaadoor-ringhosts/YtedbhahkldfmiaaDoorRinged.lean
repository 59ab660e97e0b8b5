/- The law's closed fact: one host has all keys. -/
import Derived.Test.YtedbhahkldfmiaaDoorRHost
import Derived.Test.YtedbhahkldfmiaaDoorRBad
namespace Go.Proofs.YtedbhahkldfmiaaDoor
open Go.RowKit Go.Sort Go.Shelf Go.Lib

def hostA : ByteArray := ⟨#[97]⟩
theorem hostA_nm : Lh.isNm hostA = true := by decide +kernel
theorem faultsA : IsFault [hostA] 0 (-1) := by
  refine Or.inr (Or.inr ⟨by simp, fun j hj => ?_, rfl, rfl⟩)
  have : j = 0 := by simp at hj; omega
  subst this
  exact ⟨hostA_nm, rfl⟩
theorem lenA : hostA.size ≤ 300 := by decide +kernel
theorem strsA (w : World) : Strs1 (w.alloc (.cells #[.string hostA] 9)) (.slice (some ⟨w.heap.size, 0, none⟩) 1 1) [hostA] :=
  Or.inr ⟨w.heap.size, 0, 1, rfl, by simp, fun k hk => by
    have : k = 0 := by simp at hk; omega
    subst this
    simp⟩
theorem ring_pos {c : Nat} {xs : List ByteArray} {P : List Lh.Pt} (h : Lh.IsRing c xs P) (h0 : 0 < xs.length) (h12 : xs.length ≤ 12) (hc1 : 1 ≤ c) (hc : c ≤ 16) : 0 < P.length ∧ P.length < 1000000 := by
  rw [Lh.ring_len h]
  have := mul_bound h12 hc
  exact ⟨Nat.mul_pos h0 hc1, by omega⟩

set_option maxRecDepth 100000 in
set_option maxHeartbeats 2000000 in
theorem ringed_any (a : Nat → Addr) (w : World) (he : Errs4 a w) :
    Calls Tryd.prog 42 #[] w fun e w' => e = .returned (.bool true) ∧ Below w.heap.size w w' := by
  have hbW := (Below.refl w.heap.size w).alloc (Nat.le_refl _) (.cells #[.string hostA] 9)
  have hnw := new_good a _ [hostA] 2 _ (he.later hbW) (strsA w) (by simp) faultsA (fun k hk => by
    have : k = 0 := by simp at hk; omega
    subst this
    exact lenA) (by decide) (by decide)
  have hAB : (hostA.toList == [97]) = true := by rw [ByteArray.toList_eq]; rfl
  unfold hostA at hnw
  clear he
  go_enter Tryd.func42, Tryd.ntmps42
  go_wp2_with fail
  refine hnw.mono ?_
  rintro e w1 ⟨rb, blk, cap, P, rfl, hR, hI, hb1⟩
  have hb : Below w.heap.size w w1 := hbW.trans (hb1.mono (by simp))
  have hI' : Lh.IsRing 2 [hostA] P := hI
  obtain ⟨hp0, hpl⟩ := ring_pos hI' (by simp) (by simp) (by decide) (by decide)
  have hh := host_any rb blk cap P 5 w1 hR hI.2 hpl hp0
  rw [Lh.one_host hI' (by decide)] at hh
  have hnx : ∀ W, Below w1.heap.size w1 W → Calls Tryd.prog 47 #[.pointer (some ⟨rb, 0, none⟩), .int .u64 7, .int .i64 3] W fun e w' => ∃ v, e = .returned v ∧ Strs1 w' v [hostA] ∧ Below W.heap.size W w' := fun W hW => by
    have := next_any rb blk cap P 7 3 (by decide) W (hR.later hW) hI.2 hpl hp0
    rw [Lh.one_host hI' (by decide)] at this
    exact this
  have HNX : Hid (∀ W, Below w1.heap.size w1 W → Calls Tryd.prog 47 #[.pointer (some ⟨rb, 0, none⟩), .int .u64 7, .int .i64 3] W fun e w' => ∃ v, e = .returned v ∧ Strs1 w' v [hostA] ∧ Below W.heap.size W w') := hnx
  clear hnw hbW hb1 hR hI hI' hnx
  go_wp2_with fail
  refine hh.mono ?_
  rintro e w2 ⟨s, rfl, hs, hb2⟩
  have hsA : s = hostA := by simpa using hs.symm
  subst hsA
  clear hh hs
  go_wp2_with fail
  refine (HNX.out _ hb2).mono ?_
  rintro e w3 ⟨v, rfl, hv, hb3⟩
  obtain ⟨b, o, cc, rfl, _⟩ := strsPos hv (by simp)
  have hbz : Below w.heap.size w w3 := below_then (below_then hb hb2) hb3
  go_wp2
  go_ret
  exact ⟨rfl, hbz⟩
end Go.Proofs.YtedbhahkldfmiaaDoor
