/- A frame: all blocks but some are as they were. -/
import Derived.Test.YtijdaaghomclmabDoorBase
import Derived.Below
namespace Go.Proofs.YtijdaaghomclmabDoor
open Go.RowKit

/-- All blocks but those of F are as they were. -/
structure Tur (F : Nat → Prop) (w w' : World) : Prop where
  os : w'.os = w.os
  tape : w'.tape = w.tape
  output : w'.output = w.output
  size : w.heap.size ≤ w'.heap.size
  block : ∀ k, k < w.heap.size → ¬ F k → w'.heap[k]? = w.heap[k]?
theorem Tur.below {F : Nat → Prop} {B : Nat} {w W W' : World} (h : Tur F W W') (hF : ∀ k, F k → B ≤ k) (hb : Below B w W) (hB : B ≤ w.heap.size) : Below B w W' :=
  ⟨h.os.trans hb.os, h.tape.trans hb.tape, h.output.trans hb.output, Nat.le_trans hb.size h.size, fun k hk => (h.block k (by have := hb.size; omega) (fun hf => by have := hF k hf; omega)).trans (hb.block k hk)⟩
theorem Tur.of_below {F : Nat → Prop} {w w' : World} (h : Below w.heap.size w w') : Tur F w w' := ⟨h.os, h.tape, h.output, h.size, fun k hk _ => h.block k hk⟩
theorem Tur.trans {F G : Nat → Prop} {w w1 w2 : World} (h : Tur F w w1) (k : Tur G w1 w2) (hG : ∀ b, G b → F b ∨ w.heap.size ≤ b) : Tur F w w2 :=
  ⟨k.os.trans h.os, k.tape.trans h.tape, k.output.trans h.output, Nat.le_trans h.size k.size, fun b hb hf => (k.block b (Nat.lt_of_lt_of_le hb h.size) (fun hg => by rcases hG b hg with h1 | h1; exact hf h1; omega)).trans (h.block b hb hf)⟩
end Go.Proofs.YtijdaaghomclmabDoor
