/- What errors.Is and errors.As answer of the errors of package api: a sentinel, a Fault that wraps one, another error. -/
import Derived.Test.YtfhmfjcpggddkaaGreatDoorProg
import Derived.WalkKit
import Derived.WalkLawsBesides
import Derived.WalkSpells
import Derived.LaidEql
import Derived.Stop.Asserts
import Derived.RowKitTokens
namespace Go.Proofs.YtfhmfjcpggddkaaGreatDoor
open Go.RowKit Go.Extern.Stop Go.Stop Go.Extern

/- closed facts on types -/
theorem compE : (Tryz.prog.info? 378).map (·.comparable) = some true := by kernel_rfl
theorem sizeE : (Tryz.prog.info? 380).map (·.size) = some 1 := by kernel_rfl
theorem typeOfE (v : Value) (w : World) : (ReflectliteType.typeOf #[.iface 378 v]).run Tryz.prog w = .ok (.iface 231 (.agg #[.pointer (some ⟨23, 378, none⟩)])) w := by kernel_rfl
theorem typeOfF (v : Value) (w : World) : (ReflectliteType.typeOf #[.iface 103 v]).run Tryz.prog w = .ok (.iface 231 (.agg #[.pointer (some ⟨23, 103, none⟩)])) w := by kernel_rfl
theorem cmp_fact (w : World) : ((find Tryz.f351).map fun e => (e #[.agg #[.pointer (some ⟨23, 378, none⟩)]]).run Tryz.prog w) = some (.ok (.bool true) w) := by kernel_rfl
theorem cmp_entry : ∃ e, find Tryz.f351 = some e ∧ ∀ w, (e #[.agg #[.pointer (some ⟨23, 378, none⟩)]]).run Tryz.prog w = .ok (.bool true) w := by
  cases h : find Tryz.f351 with
  | none => have := cmp_fact default; rw [h] at this; cases this
  | some e => exact ⟨e, rfl, fun w => by have := cmp_fact w; rw [h] at this; exact Option.some.inj this⟩
theorem methodComparable (v : Value) (w : World) : (Go.method 516 231 v "Comparable").run Tryz.prog w = .ok (351, v) w := by kernel_rfl
theorem noIsE (v : Value) (xT : TypeId) (w : World) : (Instr.typeAssert (.iface 378 v) xT 242 true).run Tryz.prog w = .ok (.tuple #[.nilIface, .bool false]) w := run_typeAssert_lacksB Tryz.underlying242 (by kernel_rfl) (by kernel_rfl) v xT w
theorem noAsE (v : Value) (xT : TypeId) (w : World) : (Instr.typeAssert (.iface 378 v) xT 235 true).run Tryz.prog w = .ok (.tuple #[.nilIface, .bool false]) w := run_typeAssert_lacksB Tryz.underlying235 (by kernel_rfl) (by kernel_rfl) v xT w
theorem noUnwrapE (v : Value) (xT : TypeId) (w : World) : (Instr.typeAssert (.iface 378 v) xT 238 true).run Tryz.prog w = .ok (.tuple #[.nilIface, .bool false]) w := run_typeAssert_lacksB Tryz.underlying238 (by kernel_rfl) (by kernel_rfl) v xT w
theorem noUnwrapsE (v : Value) (xT : TypeId) (w : World) : (Instr.typeAssert (.iface 378 v) xT 240 true).run Tryz.prog w = .ok (.tuple #[.nilIface, .bool false]) w := run_typeAssert_lacksB Tryz.underlying240 (by kernel_rfl) (by kernel_rfl) v xT w
theorem noIsF (v : Value) (xT : TypeId) (w : World) : (Instr.typeAssert (.iface 103 v) xT 242 true).run Tryz.prog w = .ok (.tuple #[.nilIface, .bool false]) w := run_typeAssert_lacksB Tryz.underlying242 (by kernel_rfl) (by kernel_rfl) v xT w
theorem hasUnwrapF (v : Value) (xT : TypeId) (w : World) : (Instr.typeAssert (.iface 103 v) xT 238 true).run Tryz.prog w = .ok (.tuple #[.iface 103 v, .bool true]) w := run_typeAssert_hasB Tryz.underlying238 (by kernel_rfl) v xT w
theorem methodUnwrap (v : Value) (w : World) : (Go.method 516 103 v "Unwrap").run Tryz.prog w = .ok (344, v) w := by kernel_rfl

set_option maxHeartbeats 1000000 in
theorem is_same (a : Addr) (w : World) :
    Calls Tryz.prog 62 #[.iface 378 (.pointer (some a)), .iface 378 (.pointer (some a))] w fun e w' => e = .returned (.bool true) ∧ w' = w := by
  obtain ⟨i, hi, hcmp⟩ := Option.map_eq_some_iff.1 compE
  obtain ⟨j, hj, hjs⟩ := Option.map_eq_some_iff.1 sizeE
  have h8 := @run_callFunc_extern Tryz.prog 114 _ ReflectliteType.typeOf Tryz.func114 (by kernel_rfl) (by kernel_rfl) (by kernel_rfl) (by kernel_rfl)
  obtain ⟨ent, hent, cT⟩ := cmp_entry
  have h9 := @run_callFunc_extern Tryz.prog 351 _ ent Tryz.func351 (by kernel_rfl) (by kernel_rfl) (by kernel_rfl) hent
  clear hent
  have tT := typeOfE
  have mR := methodComparable
  have heq := run_eql_iface_ptr_same (P := Tryz.prog) w a Tryz.underlying25 Tryz.underlying378 hi hcmp hj
  go_enter Tryz.func62, Tryz.ntmps62
  go_wp2
  refine wp_loop_rounds 1 ?_
  rw [rounds_succ]
  go_wp2
  go_ret
  exact ⟨rfl, rfl⟩

set_option maxHeartbeats 1000000 in
theorem is_other (a b : Addr) (ca cb : Array Value) (ta tb : TypeId) (w : World) (hne : a ≠ b) (ha : w.heap[a.block]? = some (.cells ca ta (0, 0))) (hb : w.heap[b.block]? = some (.cells cb tb (0, 0))) :
    Calls Tryz.prog 62 #[.iface 378 (.pointer (some a)), .iface 378 (.pointer (some b))] w fun e w' => e = .returned (.bool false) ∧ w' = w := by
  obtain ⟨i, hi, hcmp⟩ := Option.map_eq_some_iff.1 compE
  obtain ⟨j, hj, hjs⟩ := Option.map_eq_some_iff.1 sizeE
  have h8 := @run_callFunc_extern Tryz.prog 114 _ ReflectliteType.typeOf Tryz.func114 (by kernel_rfl) (by kernel_rfl) (by kernel_rfl) (by kernel_rfl)
  obtain ⟨ent, hent, cT⟩ := cmp_entry
  have h9 := @run_callFunc_extern Tryz.prog 351 _ ent Tryz.func351 (by kernel_rfl) (by kernel_rfl) (by kernel_rfl) hent
  clear hent
  have tT := typeOfE
  have mR := methodComparable
  have nE := noIsE
  have uE := noUnwrapE
  have vE := noUnwrapsE
  have heq := run_eql_iface_ptr_other (P := Tryz.prog) w Tryz.underlying25 Tryz.underlying378 hi hcmp hj (by rw [hjs]; decide) hne ha hb
  go_enter Tryz.func62, Tryz.ntmps62
  go_wp2
  refine wp_loop_rounds 1 ?_
  rw [rounds_succ]
  go_wp2
  go_ret
  exact ⟨rfl, rfl⟩

set_option maxHeartbeats 1000000 in
theorem is_fault_same (pb : Nat) (b : Addr) (w : World) (h1 : w.cell? ⟨pb, 1, none⟩ = some (.iface 378 (.pointer (some b)))) :
    Calls Tryz.prog 62 #[.iface 103 (.pointer (some ⟨pb, 0, none⟩)), .iface 378 (.pointer (some b))] w fun e w' => e = .returned (.bool true) ∧ w' = w := by
  obtain ⟨i, hi, hcmp⟩ := Option.map_eq_some_iff.1 compE
  obtain ⟨j, hj, hjs⟩ := Option.map_eq_some_iff.1 sizeE
  have h8 := @run_callFunc_extern Tryz.prog 114 _ ReflectliteType.typeOf Tryz.func114 (by kernel_rfl) (by kernel_rfl) (by kernel_rfl) (by kernel_rfl)
  obtain ⟨ent, hent, cT⟩ := cmp_entry
  have h9 := @run_callFunc_extern Tryz.prog 351 _ ent Tryz.func351 (by kernel_rfl) (by kernel_rfl) (by kernel_rfl) hent
  clear hent
  have tT := typeOfE
  have mR := methodComparable
  have nW := noIsF
  have uW := hasUnwrapF
  have mU := methodUnwrap
  have heq := run_eql_iface_ptr_same (P := Tryz.prog) w b Tryz.underlying25 Tryz.underlying378 hi hcmp hj
  have hty := run_eql_iface_types (P := Tryz.prog) 103 378 (.pointer (some ⟨pb, 0, none⟩)) (.pointer (some b)) Tryz.underlying25 (by decide) w
  go_enter Tryz.func62, Tryz.ntmps62
  go_wp2
  refine wp_loop_rounds 2 ?_
  rw [rounds_succ]
  go_wp2
  rw [rounds_succ]
  go_wp2
  go_ret
  exact ⟨rfl, rfl⟩

set_option maxHeartbeats 1000000 in
theorem is_fault_other (pb : Nat) (b a : Addr) (ca cb : Array Value) (ta tb : TypeId) (w : World) (h1 : w.cell? ⟨pb, 1, none⟩ = some (.iface 378 (.pointer (some a)))) (hne : a ≠ b) (ha : w.heap[a.block]? = some (.cells ca ta (0, 0))) (hb : w.heap[b.block]? = some (.cells cb tb (0, 0))) :
    Calls Tryz.prog 62 #[.iface 103 (.pointer (some ⟨pb, 0, none⟩)), .iface 378 (.pointer (some b))] w fun e w' => e = .returned (.bool false) ∧ w' = w := by
  obtain ⟨i, hi, hcmp⟩ := Option.map_eq_some_iff.1 compE
  obtain ⟨j, hj, hjs⟩ := Option.map_eq_some_iff.1 sizeE
  have h8 := @run_callFunc_extern Tryz.prog 114 _ ReflectliteType.typeOf Tryz.func114 (by kernel_rfl) (by kernel_rfl) (by kernel_rfl) (by kernel_rfl)
  obtain ⟨ent, hent, cT⟩ := cmp_entry
  have h9 := @run_callFunc_extern Tryz.prog 351 _ ent Tryz.func351 (by kernel_rfl) (by kernel_rfl) (by kernel_rfl) hent
  clear hent
  have tT := typeOfE
  have mR := methodComparable
  have nE := noIsE
  have uE := noUnwrapE
  have vE := noUnwrapsE
  have nW := noIsF
  have uW := hasUnwrapF
  have mU := methodUnwrap
  have heq := run_eql_iface_ptr_other (P := Tryz.prog) w Tryz.underlying25 Tryz.underlying378 hi hcmp hj (by rw [hjs]; decide) hne ha hb
  have hty := run_eql_iface_types (P := Tryz.prog) 103 378 (.pointer (some ⟨pb, 0, none⟩)) (.pointer (some b)) Tryz.underlying25 (by decide) w
  go_enter Tryz.func62, Tryz.ntmps62
  go_wp2
  refine wp_loop_rounds 2 ?_
  rw [rounds_succ]
  go_wp2
  rw [rounds_succ]
  go_wp2
  go_ret
  exact ⟨rfl, rfl⟩
end Go.Proofs.YtfhmfjcpggddkaaGreatDoor

/- What errors.As answers at a target of type **api.Fault: a Fault is found, and stored; of another error nothing is found. -/
namespace Go.Proofs.YtfhmfjcpggddkaaGreatDoor
open Go.RowKit Go.Extern.Stop Go.Stop Go.Extern

theorem valueOfT (t : Addr) (w : World) : (ReflectliteValue.unpack (.iface 105 (.pointer (some t)))).run Tryz.prog w
    = .ok (.agg #[.pointer (some ⟨23, 105, none⟩), .pointer (some ⟨w.heap.size, 0, none⟩), .int .u64 150]) (w.alloc (.cells #[.pointer (some t)] 105)) := by kernel_rfl
theorem typeT_fact (a : Addr) (w : World) : ((find Tryz.f111).map fun e => (e #[.agg #[.pointer (some ⟨23, 105, none⟩), .pointer (some a), .int .u64 150]]).run Tryz.prog w)
    = some (.ok (.iface 231 (.agg #[.pointer (some ⟨23, 105, none⟩)])) w) := by kernel_rfl
theorem typeT_entry : ∃ e, find Tryz.f111 = some e ∧ ∀ a w, (e #[.agg #[.pointer (some ⟨23, 105, none⟩), .pointer (some a), .int .u64 150]]).run Tryz.prog w = .ok (.iface 231 (.agg #[.pointer (some ⟨23, 105, none⟩)])) w := by
  cases h : find Tryz.f111 with
  | none => have := typeT_fact default default; rw [h] at this; cases this
  | some e => exact ⟨e, rfl, fun a w => by have := typeT_fact a w; rw [h] at this; exact Option.some.inj this⟩
theorem methodKind (h : Value) (w : World) : (Go.method 516 231 (.agg #[h]) "Kind").run Tryz.prog w = .ok (338, h) w := by kernel_rfl
theorem kind_fact (w : World) : ((find Tryz.f338).map fun e => ((e #[.pointer (some ⟨23, 105, none⟩)]).run Tryz.prog w, (e #[.pointer (some ⟨23, 103, none⟩)]).run Tryz.prog w)) = some (.ok (.int .u8 22) w, .ok (.int .u8 22) w) := by kernel_rfl
theorem kind_entry : ∃ e, find Tryz.f338 = some e ∧ (∀ w, (e #[.pointer (some ⟨23, 105, none⟩)]).run Tryz.prog w = .ok (.int .u8 22) w) ∧ ∀ w, (e #[.pointer (some ⟨23, 103, none⟩)]).run Tryz.prog w = .ok (.int .u8 22) w := by
  cases h : find Tryz.f338 with
  | none => have := kind_fact default; rw [h] at this; cases this
  | some e =>
    have k : ∀ w, ((e #[.pointer (some ⟨23, 105, none⟩)]).run Tryz.prog w, (e #[.pointer (some ⟨23, 103, none⟩)]).run Tryz.prog w) = (.ok (.int .u8 22) w, .ok (.int .u8 22) w) := fun w => by
      have := kind_fact w; rw [h] at this; exact Option.some.inj this
    exact ⟨e, rfl, fun w => congrArg Prod.fst (k w), fun w => congrArg Prod.snd (k w)⟩
theorem partsT (a : Addr) (w : World) : (ReflectliteValue.parts (.agg #[.pointer (some ⟨23, 105, none⟩), .pointer (some a), .int .u64 150])).run Tryz.prog w = .ok (some (105, a, 150)) w := by kernel_rfl
theorem isNilT (a p : Addr) (W : World) (ha : W.cell? a = some (.pointer (some p))) :
    (ReflectliteValue.method (ReflectliteValue.valueError "reflectlite.Value.IsNil" 0) ReflectliteValue.isNil #[.agg #[.pointer (some ⟨23, 105, none⟩), .pointer (some a), .int .u64 150]]).run Tryz.prog W = .ok (.bool false) W := by
  delta ReflectliteValue.method ReflectliteValue.method.match_2
  simp [Array.getLit, partsT, ReflectliteValue.isNil, loadVar, isAgg, underlying, Tryz.underlying105, ha, Result.andThen]
theorem methodElem (h : Value) (w : World) : (Go.method 516 231 (.agg #[h]) "Elem").run Tryz.prog w = .ok (352, .agg #[h]) w := by kernel_rfl
theorem methodImplements (h : Value) (w : World) : (Go.method 516 231 (.agg #[h]) "Implements").run Tryz.prog w = .ok (353, .agg #[h]) w := by kernel_rfl
theorem methodAssignableTo (h : Value) (w : World) : (Go.method 516 231 (.agg #[h]) "AssignableTo").run Tryz.prog w = .ok (350, .agg #[h]) w := by kernel_rfl
theorem elemT_fact (w : World) : ((find Tryz.f352).map fun e => (e #[.agg #[.pointer (some ⟨23, 105, none⟩)]]).run Tryz.prog w) = some (.ok (.iface 231 (.agg #[.pointer (some ⟨23, 103, none⟩)])) w) := by kernel_rfl
theorem elemT_entry : ∃ e, find Tryz.f352 = some e ∧ ∀ w, (e #[.agg #[.pointer (some ⟨23, 105, none⟩)]]).run Tryz.prog w = .ok (.iface 231 (.agg #[.pointer (some ⟨23, 103, none⟩)])) w := by
  cases h : find Tryz.f352 with
  | none => have := elemT_fact default; rw [h] at this; cases this
  | some e => exact ⟨e, rfl, fun w => by have := elemT_fact w; rw [h] at this; exact Option.some.inj this⟩
theorem impl_fact (w : World) : ((find Tryz.f353).map fun e => (e #[.agg #[.pointer (some ⟨23, 103, none⟩)], .iface 231 (.agg #[.pointer (some ⟨23, 25, none⟩)])]).run Tryz.prog w) = some (.ok (.bool true) w) := by kernel_rfl
theorem impl_entry : ∃ e, find Tryz.f353 = some e ∧ ∀ w, (e #[.agg #[.pointer (some ⟨23, 103, none⟩)], .iface 231 (.agg #[.pointer (some ⟨23, 25, none⟩)])]).run Tryz.prog w = .ok (.bool true) w := by
  cases h : find Tryz.f353 with
  | none => have := impl_fact default; rw [h] at this; cases this
  | some e => exact ⟨e, rfl, fun w => by have := impl_fact w; rw [h] at this; exact Option.some.inj this⟩
theorem assign_fact (w : World) : ((find Tryz.f350).map fun e => ((e #[.agg #[.pointer (some ⟨23, 103, none⟩)], .iface 231 (.agg #[.pointer (some ⟨23, 103, none⟩)])]).run Tryz.prog w, (e #[.agg #[.pointer (some ⟨23, 378, none⟩)], .iface 231 (.agg #[.pointer (some ⟨23, 103, none⟩)])]).run Tryz.prog w)) = some (.ok (.bool true) w, .ok (.bool false) w) := by kernel_rfl
theorem assign_entry : ∃ e, find Tryz.f350 = some e ∧ (∀ w, (e #[.agg #[.pointer (some ⟨23, 103, none⟩)], .iface 231 (.agg #[.pointer (some ⟨23, 103, none⟩)])]).run Tryz.prog w = .ok (.bool true) w) ∧ ∀ w, (e #[.agg #[.pointer (some ⟨23, 378, none⟩)], .iface 231 (.agg #[.pointer (some ⟨23, 103, none⟩)])]).run Tryz.prog w = .ok (.bool false) w := by
  cases h : find Tryz.f350 with
  | none => have := assign_fact default; rw [h] at this; cases this
  | some e =>
    have k := fun w => by have := assign_fact w; rw [h] at this; exact Option.some.inj this
    exact ⟨e, rfl, fun w => congrArg Prod.fst (k w), fun w => congrArg Prod.snd (k w)⟩
theorem valueOfF (e : Addr) (w : World) : (ReflectliteValue.unpack (.iface 103 (.pointer (some e)))).run Tryz.prog w
    = .ok (.agg #[.pointer (some ⟨23, 103, none⟩), .pointer (some ⟨w.heap.size, 0, none⟩), .int .u64 150]) (w.alloc (.cells #[.pointer (some e)] 103)) := by kernel_rfl
theorem elemOfT (w : World) : (Rtype.elem? 105).run Tryz.prog w = .ok (some 103) w := by kernel_rfl
theorem mkF (p : Addr) (w : World) : (ReflectliteValue.mk 103 p ReflectliteValue.flagAddr).run Tryz.prog w = .ok (.agg #[.pointer (some ⟨23, 103, none⟩), .pointer (some p), .int .u64 406]) w := by kernel_rfl
theorem elemVT (a p : Addr) (W : World) (ha : W.cell? a = some (.pointer (some p))) :
    (ReflectliteValue.method (ReflectliteValue.valueError "reflectlite.Value.Elem" 0) ReflectliteValue.elem #[.agg #[.pointer (some ⟨23, 105, none⟩), .pointer (some a), .int .u64 150]]).run Tryz.prog W
      = .ok (.agg #[.pointer (some ⟨23, 103, none⟩), .pointer (some p), .int .u64 406]) W := by
  delta ReflectliteValue.method ReflectliteValue.method.match_2
  simp [Array.getLit, partsT, ReflectliteValue.elem, loadVar, isAgg, underlying, Tryz.underlying105, ha, Result.andThen, elemOfT, mkF]
theorem partsFa (a : Addr) (w : World) : (ReflectliteValue.parts (.agg #[.pointer (some ⟨23, 103, none⟩), .pointer (some a), .int .u64 406])).run Tryz.prog w = .ok (some (103, a, 406)) w := by kernel_rfl
theorem partsF (a : Addr) (w : World) : (ReflectliteValue.parts (.agg #[.pointer (some ⟨23, 103, none⟩), .pointer (some a), .int .u64 150])).run Tryz.prog w = .ok (some (103, a, 150)) w := by kernel_rfl
theorem directF (w : World) : (Rtype.directlyAssignable 103 103).run Tryz.prog w = .ok true w := by kernel_rfl
theorem setF (ta b e : Addr) (old : Value) (W : World) (hb : W.cell? b = some (.pointer (some e))) (ht : W.cell? ta = some old) (hf : W.frozen? ta = false) :
    (ReflectliteValue.set #[.agg #[.pointer (some ⟨23, 103, none⟩), .pointer (some ta), .int .u64 406], .agg #[.pointer (some ⟨23, 103, none⟩), .pointer (some b), .int .u64 150]]).run Tryz.prog W
      = .ok (.tuple #[]) (W.setCell ta (.pointer (some e))) := by
  delta ReflectliteValue.set ReflectliteValue.set.match_3
  simp [Array.getLit, partsFa, partsF, ReflectliteValue.flagAddr, loadVar, isAgg, underlying, Tryz.underlying103, hb, Result.andThen, directF, storeVar, Value.cells, storeCells, Addr.add]
  rw [run_store Tryz.prog W ta _ _ (by rfl)]
  simp [ht, hf]
end Go.Proofs.YtfhmfjcpggddkaaGreatDoor
