/- JumpBuckets: what its ways have in common. -/
import Derived.Test.YteehhglhlapcbabDoorJRef
import Derived.Test.YteehhglhlapcbabDoorCoded
namespace Go.Proofs.YteehhglhlapcbabDoor
open Go.RowKit

theorem coded_nil (w : World) : Calls Tryd.prog 12 #[.nilIface, .int .i64 0] w fun e w' => e = .returned (.bool true) ∧ Below w.heap.size w w' :=
  coded_of .nilIface 0 0 w ((code_nil w).mono fun _ _ ⟨h1, h2⟩ => ⟨h1, by rw [h2]; exact Below.refl _ _⟩) rfl
theorem coded_bound (a : Nat → Addr) (w : World) (he : Errs a w) : Calls Tryd.prog 12 #[.iface 84 (.pointer (some (a 1))), .int .i64 2] w fun e w' => e = .returned (.bool true) ∧ Below w.heap.size w w' :=
  coded_of _ (codeNum 1) 2 w (code_sent a 1 (by decide) w he) (by decide)
/-- keys in memory, where they are read -/
def KeysAt (w : World) (p : Option Addr) (ks : List Nat) : Prop := ∀ k (h : k < ks.length), ∃ b o, p = some ⟨b, o, none⟩ ∧ w.cell? ⟨b, o + k, none⟩ = some (.int .u64 (ks[k] : Nat))
theorem KeysAt.later {w w' : World} {p : Option Addr} {ks : List Nat} (h : KeysAt w p ks) (hb : Below w.heap.size w w') : KeysAt w' p ks := fun k hk => by
  obtain ⟨b, o, h1, h2⟩ := h k hk
  exact ⟨b, o, h1, below_cell hb h2⟩
theorem Keys1.at {w : World} {v : Value} {ks : List Nat} (h : Keys1 w v ks) : ∃ p c, v = .slice p ks.length c ∧ KeysAt w p ks := h.u64s
end Go.Proofs.YteehhglhlapcbabDoor
