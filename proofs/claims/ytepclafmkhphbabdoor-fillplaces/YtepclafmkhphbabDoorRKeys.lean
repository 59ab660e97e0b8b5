/- Keys in memory; what two rings answer for one key. -/
import Derived.Test.YtepclafmkhphbabDoorRinged
namespace Go.Proofs.YtepclafmkhphbabDoor
open Go.RowKit

/-- what a ring answers for a key -/
structure Answers (w : World) (rb : Nat) (z : Nat) (D : List ByteArray) : Prop where
  host : ∀ W, Below w.heap.size w W → Calls Tryd.prog 25 #[.pointer (some ⟨rb, 0, none⟩), .int .u64 (z : Nat)] W fun e w' => ∃ s, e = .returned (.string s) ∧ D[0]? = some s ∧ Below w.heap.size w w'
  next : ∀ W, Below w.heap.size w W → ∀ many : Int, many ≤ 9223372036854775807 → Calls Tryd.prog 33 #[.pointer (some ⟨rb, 0, none⟩), .int .u64 (z : Nat), .int .i64 many] W fun e w' => ∃ v, e = .returned v ∧ Strs1 w' v (D.take many.toNat) ∧ Below w.heap.size w w'
theorem answers {w : World} {rb blk cap : Nat} {P : List Lh.Pt} (hR : RingBlk w rb blk cap P) (hs : P.Pairwise (Lh.leF 0)) (hl : P.length < 1000000) (h0 : 0 < P.length) (z : Nat) : Answers w rb z (Lh.hostsF (Lh.turn z) P) where
  host W hW := (host_any rb blk cap P z W (hR.later hW) hs hl h0).mono fun _ _ ⟨s, h1, h2, h3⟩ => ⟨s, h1, h2, below_then hW h3⟩
  next W hW many hm := (next_any rb blk cap P z many hm W (hR.later hW) hs hl h0).mono fun _ _ ⟨v, h1, h2, h3⟩ => ⟨v, h1, h2, below_then hW h3⟩
end Go.Proofs.YtepclafmkhphbabDoor
