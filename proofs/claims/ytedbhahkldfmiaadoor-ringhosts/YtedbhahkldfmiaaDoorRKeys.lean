/- Keys in memory; what two rings answer for one key. -/
import Derived.Test.YtedbhahkldfmiaaDoorRinged
namespace Go.Proofs.YtedbhahkldfmiaaDoor
open Go.RowKit

/-- The slice value v reads, in w, as the keys ks. -/
def U64s (w : World) (v : Value) (ks : List Nat) : Prop := ∃ p c, v = .slice p ks.length c ∧ ∀ k (h : k < ks.length), ∃ b o, p = some ⟨b, o, none⟩ ∧ w.cell? ⟨b, o + k, none⟩ = some (.int .u64 (ks[k] : Nat))

/-- what a ring answers for a key -/
structure Answers (w : World) (rb : Nat) (z : Nat) (D : List ByteArray) : Prop where
  host : ∀ W, Below w.heap.size w W → Calls Tryd.prog 48 #[.pointer (some ⟨rb, 0, none⟩), .int .u64 (z : Nat)] W fun e w' => ∃ s, e = .returned (.string s) ∧ D[0]? = some s ∧ Below w.heap.size w w'
  next : ∀ W, Below w.heap.size w W → ∀ many : Int, many ≤ 9223372036854775807 → Calls Tryd.prog 47 #[.pointer (some ⟨rb, 0, none⟩), .int .u64 (z : Nat), .int .i64 many] W fun e w' => ∃ v, e = .returned v ∧ Strs1 w' v (D.take many.toNat) ∧ Below w.heap.size w w'
theorem answers {w : World} {rb blk cap : Nat} {P : List Lh.Pt} (hR : RingBlk w rb blk cap P) (hs : P.Pairwise (Lh.leF 0)) (hl : P.length < 1000000) (h0 : 0 < P.length) (z : Nat) : Answers w rb z (Lh.hostsF (Lh.turn z) P) where
  host W hW := (host_any rb blk cap P z W (hR.later hW) hs hl h0).mono fun _ _ ⟨s, h1, h2, h3⟩ => ⟨s, h1, h2, below_then hW h3⟩
  next W hW many hm := (next_any rb blk cap P z many hm W (hR.later hW) hs hl h0).mono fun _ _ ⟨v, h1, h2, h3⟩ => ⟨v, h1, h2, below_then hW h3⟩
theorem fault_nm {xs : List ByteArray} {pl : Int} (h : IsFault xs 0 pl) : ∀ s ∈ xs, Lh.isNm s = true := by
  rcases h with ⟨_, h, _⟩ | ⟨_, i, _, _, _, ⟨_, h⟩ | ⟨_, _, h⟩⟩ | ⟨_, hg, _, _⟩
  · cases h
  · cases h
  · cases h
  · intro s hs
    obtain ⟨j, hj, rfl⟩ := List.getElem_of_mem hs
    exact (hg j hj).1
theorem fault_of {xs : List ByteArray} (h12 : xs.length ≤ 12) (hn : ∀ s ∈ xs, Lh.isNm s = true) (hd : xs.Nodup) : IsFault xs 0 (-1) := by
  refine Or.inr (Or.inr ⟨by omega, fun j hj => ⟨hn _ (List.getElem_mem hj), Lh.mem_false fun h => ?_⟩, rfl, rfl⟩)
  rw [List.mem_take_iff_getElem] at h
  obtain ⟨i, hi, e⟩ := h
  exact List.pairwise_iff_getElem.1 hd i j (by omega) hj (by omega) e
theorem fault_less {xs : List ByteArray} (h : IsFault xs 0 (-1)) {m : Nat} (hm : m < xs.length) : IsFault (xs.take m ++ xs.drop (m + 1)) 0 (-1) ∧ xs.take m ++ xs.drop (m + 1) = xs.filter fun s => decide (s ≠ xs[m]) := by
  obtain ⟨_, h12, hnd⟩ := fault0 h
  have e := Lh.filter_erase hnd hm
  refine ⟨?_, e⟩
  rw [e]
  refine fault_of (Nat.le_trans (List.length_filter_le _ _) h12) (fun s hs => fault_nm h s (List.mem_filter.1 hs).1) (hnd.sublist List.filter_sublist)
end Go.Proofs.YtedbhahkldfmiaaDoor
