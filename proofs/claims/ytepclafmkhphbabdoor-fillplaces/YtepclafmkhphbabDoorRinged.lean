/- The law's closed fact: one host has all keys. -/
import Derived.Test.YtepclafmkhphbabDoorRHost
import Derived.Test.YtepclafmkhphbabDoorRBad
namespace Go.Proofs.YtepclafmkhphbabDoor
open Go.RowKit Go.Sort Go.Shelf Go.Lib

theorem ring_pos {c : Nat} {xs : List ByteArray} {P : List Lh.Pt} (h : Lh.IsRing c xs P) (h0 : 0 < xs.length) (h12 : xs.length ≤ 12) (hc1 : 1 ≤ c) (hc : c ≤ 16) : 0 < P.length ∧ P.length < 1000000 := by
  rw [Lh.ring_len h]
  have := mul_bound h12 hc
  exact ⟨Nat.mul_pos h0 hc1, by omega⟩

end Go.Proofs.YtepclafmkhphbabDoor
