/- A start that fits ScriptReads' row. -/
import Derived.Test.YtfhmfjcpggddkaaGreatDoorCards
import Derived.Test.YtfhmfjcpggddkaaGreatDoorTie
import Derived.Test.YtfhmfjcpggddkaaGreatDoorM1
import Derived.Lay
import Derived.Stop.Joined
namespace Go.Proofs.YtfhmfjcpggddkaaGreatDoor.scriptReads
open Go.ChangeShapes Go.WideShapes Go.ChangeAt Go.RowKit
def listed : List (String × DataW Unit) := Rows.scriptReadsRow.laid.filter fun x => x.2.handleName?.isNone
theorem start_shape (os : Os) : ((((World.holding Tryz.prog os ⟨#[], #[], []⟩).setCell ⟨9, 0, none⟩ (.iface 231 (.agg #[.pointer (some ⟨23, 25, none⟩)]))).layVars Tryz.prog listed).forCall (fun _ _ => 0) ⟨#[], #[.slice none 0 0], []⟩).Shaped Tryz.prog :=
  World.shaped_of_ZipB (by as_aux_lemma => kernel_rfl) (by as_aux_lemma => kernel_rfl)
theorem all_kept (l : List (String × DataW Unit)) : (l.filter fun x => (l.map (·.1)).contains x.1) = l := List.filter_eq_self.2 fun x hx => List.contains_iff_mem.2 (List.mem_map.2 ⟨x, hx, rfl⟩)
theorem none_left (l : List (String × DataW Unit)) : (l.filter fun x => !(l.map (·.1)).contains x.1) = [] := List.filter_eq_nil_iff.2 fun x hx => by rw [List.contains_iff_mem.2 (List.mem_map.2 ⟨x, hx, rfl⟩)]; simp
theorem start_listed (os : Os) : laidMet Tryz.prog listed (((World.holding Tryz.prog os ⟨#[], #[], []⟩).setCell ⟨9, 0, none⟩ (.iface 231 (.agg #[.pointer (some ⟨23, 25, none⟩)]))).layVars Tryz.prog listed) :=
  laidMet_layVars (w0 := ((World.holding Tryz.prog os ⟨#[], #[], []⟩).setCell ⟨9, 0, none⟩ (.iface 231 (.agg #[.pointer (some ⟨23, 25, none⟩)])))) (listed.map (·.1)) [] (by rw [all_kept]) (by rw [all_kept]; as_aux_lemma => kernel_rfl) (by rw [all_kept]; as_aux_lemma => kernel_rfl) (by rw [none_left]; exact LaidIn.none)
theorem start_met (os : Os) (args : Array Value) : laidMetH Tryz.prog Rows.scriptReadsRow.laid ((((World.holding Tryz.prog os ⟨#[], #[], []⟩).setCell ⟨9, 0, none⟩ (.iface 231 (.agg #[.pointer (some ⟨23, 25, none⟩)]))).layVars Tryz.prog listed).forCall (fun _ _ => 0) ⟨#[], args, []⟩).memory :=
  laidMetH_of_parts3 (fuel := 8) ((start_listed os).of_heap (by simp [World.memory, World.forCall, Input.heap])) (by as_aux_lemma => kernel_rfl) (by as_aux_lemma => kernel_rfl)
end Go.Proofs.YtfhmfjcpggddkaaGreatDoor.scriptReads
