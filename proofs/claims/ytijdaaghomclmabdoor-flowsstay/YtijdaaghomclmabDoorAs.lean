/- What errors.As answers at a target of type **api.Fault: a Fault is found, and stored; of another error nothing is found. -/
import Derived.Test.YtijdaaghomclmabDoorErrs
namespace Go.Proofs.YtijdaaghomclmabDoor
open Go.RowKit Go.Extern.Stop Go.Stop Go.Extern

theorem valueOfT (t : Addr) (w : World) : (ReflectliteValue.unpack (.iface 156 (.pointer (some t)))).run Tryd.prog w
    = .ok (.agg #[.pointer (some ⟨10, 156, none⟩), .pointer (some ⟨w.heap.size, 0, none⟩), .int .u64 150]) (w.alloc (.cells #[.pointer (some t)] 156)) := by kernel_rfl
theorem typeT_fact (a : Addr) (w : World) : ((find Tryd.f128).map fun e => (e #[.agg #[.pointer (some ⟨10, 156, none⟩), .pointer (some a), .int .u64 150]]).run Tryd.prog w)
    = some (.ok (.iface 217 (.agg #[.pointer (some ⟨10, 156, none⟩)])) w) := by kernel_rfl
theorem typeT_entry : ∃ e, find Tryd.f128 = some e ∧ ∀ a w, (e #[.agg #[.pointer (some ⟨10, 156, none⟩), .pointer (some a), .int .u64 150]]).run Tryd.prog w = .ok (.iface 217 (.agg #[.pointer (some ⟨10, 156, none⟩)])) w := by
  cases h : find Tryd.f128 with
  | none => have := typeT_fact default default; rw [h] at this; cases this
  | some e => exact ⟨e, rfl, fun a w => by have := typeT_fact a w; rw [h] at this; exact Option.some.inj this⟩
theorem methodKind (h : Value) (w : World) : (Go.method 374 217 (.agg #[h]) "Kind").run Tryd.prog w = .ok (182, h) w := by kernel_rfl
theorem kind_fact (w : World) : ((find Tryd.f182).map fun e => ((e #[.pointer (some ⟨10, 156, none⟩)]).run Tryd.prog w, (e #[.pointer (some ⟨10, 154, none⟩)]).run Tryd.prog w)) = some (.ok (.int .u8 22) w, .ok (.int .u8 22) w) := by kernel_rfl
theorem kind_entry : ∃ e, find Tryd.f182 = some e ∧ (∀ w, (e #[.pointer (some ⟨10, 156, none⟩)]).run Tryd.prog w = .ok (.int .u8 22) w) ∧ ∀ w, (e #[.pointer (some ⟨10, 154, none⟩)]).run Tryd.prog w = .ok (.int .u8 22) w := by
  cases h : find Tryd.f182 with
  | none => have := kind_fact default; rw [h] at this; cases this
  | some e =>
    have k : ∀ w, ((e #[.pointer (some ⟨10, 156, none⟩)]).run Tryd.prog w, (e #[.pointer (some ⟨10, 154, none⟩)]).run Tryd.prog w) = (.ok (.int .u8 22) w, .ok (.int .u8 22) w) := fun w => by
      have := kind_fact w; rw [h] at this; exact Option.some.inj this
    exact ⟨e, rfl, fun w => congrArg Prod.fst (k w), fun w => congrArg Prod.snd (k w)⟩
theorem partsT (a : Addr) (w : World) : (ReflectliteValue.parts (.agg #[.pointer (some ⟨10, 156, none⟩), .pointer (some a), .int .u64 150])).run Tryd.prog w = .ok (some (156, a, 150)) w := by kernel_rfl
theorem isNilT (a p : Addr) (W : World) (ha : W.cell? a = some (.pointer (some p))) :
    (ReflectliteValue.method (ReflectliteValue.valueError "reflectlite.Value.IsNil" 0) ReflectliteValue.isNil #[.agg #[.pointer (some ⟨10, 156, none⟩), .pointer (some a), .int .u64 150]]).run Tryd.prog W = .ok (.bool false) W := by
  delta ReflectliteValue.method ReflectliteValue.method.match_2
  simp [Array.getLit, partsT, ReflectliteValue.isNil, loadVar, isAgg, underlying, Tryd.underlying156, ha, Result.andThen]
theorem methodElem (h : Value) (w : World) : (Go.method 374 217 (.agg #[h]) "Elem").run Tryd.prog w = .ok (193, .agg #[h]) w := by kernel_rfl
theorem methodImplements (h : Value) (w : World) : (Go.method 374 217 (.agg #[h]) "Implements").run Tryd.prog w = .ok (194, .agg #[h]) w := by kernel_rfl
theorem methodAssignableTo (h : Value) (w : World) : (Go.method 374 217 (.agg #[h]) "AssignableTo").run Tryd.prog w = .ok (191, .agg #[h]) w := by kernel_rfl
theorem elemT_fact (w : World) : ((find Tryd.f193).map fun e => (e #[.agg #[.pointer (some ⟨10, 156, none⟩)]]).run Tryd.prog w) = some (.ok (.iface 217 (.agg #[.pointer (some ⟨10, 154, none⟩)])) w) := by kernel_rfl
theorem elemT_entry : ∃ e, find Tryd.f193 = some e ∧ ∀ w, (e #[.agg #[.pointer (some ⟨10, 156, none⟩)]]).run Tryd.prog w = .ok (.iface 217 (.agg #[.pointer (some ⟨10, 154, none⟩)])) w := by
  cases h : find Tryd.f193 with
  | none => have := elemT_fact default; rw [h] at this; cases this
  | some e => exact ⟨e, rfl, fun w => by have := elemT_fact w; rw [h] at this; exact Option.some.inj this⟩
theorem impl_fact (w : World) : ((find Tryd.f194).map fun e => (e #[.agg #[.pointer (some ⟨10, 154, none⟩)], .iface 217 (.agg #[.pointer (some ⟨10, 26, none⟩)])]).run Tryd.prog w) = some (.ok (.bool true) w) := by kernel_rfl
theorem impl_entry : ∃ e, find Tryd.f194 = some e ∧ ∀ w, (e #[.agg #[.pointer (some ⟨10, 154, none⟩)], .iface 217 (.agg #[.pointer (some ⟨10, 26, none⟩)])]).run Tryd.prog w = .ok (.bool true) w := by
  cases h : find Tryd.f194 with
  | none => have := impl_fact default; rw [h] at this; cases this
  | some e => exact ⟨e, rfl, fun w => by have := impl_fact w; rw [h] at this; exact Option.some.inj this⟩
theorem assign_fact (w : World) : ((find Tryd.f191).map fun e => ((e #[.agg #[.pointer (some ⟨10, 154, none⟩)], .iface 217 (.agg #[.pointer (some ⟨10, 154, none⟩)])]).run Tryd.prog w, (e #[.agg #[.pointer (some ⟨10, 242, none⟩)], .iface 217 (.agg #[.pointer (some ⟨10, 154, none⟩)])]).run Tryd.prog w)) = some (.ok (.bool true) w, .ok (.bool false) w) := by kernel_rfl
theorem assign_entry : ∃ e, find Tryd.f191 = some e ∧ (∀ w, (e #[.agg #[.pointer (some ⟨10, 154, none⟩)], .iface 217 (.agg #[.pointer (some ⟨10, 154, none⟩)])]).run Tryd.prog w = .ok (.bool true) w) ∧ ∀ w, (e #[.agg #[.pointer (some ⟨10, 242, none⟩)], .iface 217 (.agg #[.pointer (some ⟨10, 154, none⟩)])]).run Tryd.prog w = .ok (.bool false) w := by
  cases h : find Tryd.f191 with
  | none => have := assign_fact default; rw [h] at this; cases this
  | some e =>
    have k := fun w => by have := assign_fact w; rw [h] at this; exact Option.some.inj this
    exact ⟨e, rfl, fun w => congrArg Prod.fst (k w), fun w => congrArg Prod.snd (k w)⟩
theorem valueOfF (e : Addr) (w : World) : (ReflectliteValue.unpack (.iface 154 (.pointer (some e)))).run Tryd.prog w
    = .ok (.agg #[.pointer (some ⟨10, 154, none⟩), .pointer (some ⟨w.heap.size, 0, none⟩), .int .u64 150]) (w.alloc (.cells #[.pointer (some e)] 154)) := by kernel_rfl
theorem elemOfT (w : World) : (Rtype.elem? 156).run Tryd.prog w = .ok (some 154) w := by kernel_rfl
theorem mkF (p : Addr) (w : World) : (ReflectliteValue.mk 154 p ReflectliteValue.flagAddr).run Tryd.prog w = .ok (.agg #[.pointer (some ⟨10, 154, none⟩), .pointer (some p), .int .u64 406]) w := by kernel_rfl
theorem elemVT (a p : Addr) (W : World) (ha : W.cell? a = some (.pointer (some p))) :
    (ReflectliteValue.method (ReflectliteValue.valueError "reflectlite.Value.Elem" 0) ReflectliteValue.elem #[.agg #[.pointer (some ⟨10, 156, none⟩), .pointer (some a), .int .u64 150]]).run Tryd.prog W
      = .ok (.agg #[.pointer (some ⟨10, 154, none⟩), .pointer (some p), .int .u64 406]) W := by
  delta ReflectliteValue.method ReflectliteValue.method.match_2
  simp [Array.getLit, partsT, ReflectliteValue.elem, loadVar, isAgg, underlying, Tryd.underlying156, ha, Result.andThen, elemOfT, mkF]
theorem partsFa (a : Addr) (w : World) : (ReflectliteValue.parts (.agg #[.pointer (some ⟨10, 154, none⟩), .pointer (some a), .int .u64 406])).run Tryd.prog w = .ok (some (154, a, 406)) w := by kernel_rfl
theorem partsF (a : Addr) (w : World) : (ReflectliteValue.parts (.agg #[.pointer (some ⟨10, 154, none⟩), .pointer (some a), .int .u64 150])).run Tryd.prog w = .ok (some (154, a, 150)) w := by kernel_rfl
theorem directF (w : World) : (Rtype.directlyAssignable 154 154).run Tryd.prog w = .ok true w := by kernel_rfl
theorem setF (ta b e : Addr) (old : Value) (W : World) (hb : W.cell? b = some (.pointer (some e))) (ht : W.cell? ta = some old) (hf : W.frozen? ta = false) :
    (ReflectliteValue.set #[.agg #[.pointer (some ⟨10, 154, none⟩), .pointer (some ta), .int .u64 406], .agg #[.pointer (some ⟨10, 154, none⟩), .pointer (some b), .int .u64 150]]).run Tryd.prog W
      = .ok (.tuple #[]) (W.setCell ta (.pointer (some e))) := by
  delta ReflectliteValue.set ReflectliteValue.set.match_3
  simp [Array.getLit, partsFa, partsF, ReflectliteValue.flagAddr, loadVar, isAgg, underlying, Tryd.underlying154, hb, Result.andThen, directF, storeVar, Value.cells, storeCells, Addr.add]
  rw [run_store Tryd.prog W ta _ _ (by rfl)]
  simp [ht, hf]
end Go.Proofs.YtijdaaghomclmabDoor
