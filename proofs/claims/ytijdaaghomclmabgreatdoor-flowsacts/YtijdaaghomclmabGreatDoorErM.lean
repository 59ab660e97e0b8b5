/- What errors.Is and errors.As answer of the errors of package api: a sentinel, a Fault that wraps one, another error. -/
import Derived.Test.YtijdaaghomclmabGreatDoorChecked
import Derived.WalkKit
import Derived.WalkLawsBesides
import Derived.WalkSpells
import Derived.LaidEql
import Derived.Stop.Asserts
import Derived.RowKitTokens
namespace Go.Proofs.YtijdaaghomclmabGreatDoor
open Go.RowKit Go.Extern.Stop Go.Stop Go.Extern

/- closed facts on types -/
theorem compE : (Tryz.prog.info? 153).map (·.comparable) = some true := by kernel_rfl
theorem sizeE : (Tryz.prog.info? 174).map (·.size) = some 1 := by kernel_rfl
theorem typeOfE (v : Value) (w : World) : (ReflectliteType.typeOf #[.iface 153 v]).run Tryz.prog w = .ok (.iface 129 (.agg #[.pointer (some ⟨10, 153, none⟩)])) w := by kernel_rfl
theorem typeOfF (v : Value) (w : World) : (ReflectliteType.typeOf #[.iface 76 v]).run Tryz.prog w = .ok (.iface 129 (.agg #[.pointer (some ⟨10, 76, none⟩)])) w := by kernel_rfl
theorem cmp_fact (w : World) : ((find Tryz.f112).map fun e => (e #[.agg #[.pointer (some ⟨10, 153, none⟩)]]).run Tryz.prog w) = some (.ok (.bool true) w) := by kernel_rfl
theorem cmp_entry : ∃ e, find Tryz.f112 = some e ∧ ∀ w, (e #[.agg #[.pointer (some ⟨10, 153, none⟩)]]).run Tryz.prog w = .ok (.bool true) w := by
  cases h : find Tryz.f112 with
  | none => have := cmp_fact default; rw [h] at this; cases this
  | some e => exact ⟨e, rfl, fun w => by have := cmp_fact w; rw [h] at this; exact Option.some.inj this⟩
theorem methodComparable (v : Value) (w : World) : (Go.method 286 129 v "Comparable").run Tryz.prog w = .ok (112, v) w := by kernel_rfl
theorem noIsE (v : Value) (xT : TypeId) (w : World) : (Instr.typeAssert (.iface 153 v) xT 140 true).run Tryz.prog w = .ok (.tuple #[.nilIface, .bool false]) w := run_typeAssert_lacksB Tryz.underlying140 (by kernel_rfl) (by kernel_rfl) v xT w
theorem noAsE (v : Value) (xT : TypeId) (w : World) : (Instr.typeAssert (.iface 153 v) xT 133 true).run Tryz.prog w = .ok (.tuple #[.nilIface, .bool false]) w := run_typeAssert_lacksB Tryz.underlying133 (by kernel_rfl) (by kernel_rfl) v xT w
theorem noUnwrapE (v : Value) (xT : TypeId) (w : World) : (Instr.typeAssert (.iface 153 v) xT 136 true).run Tryz.prog w = .ok (.tuple #[.nilIface, .bool false]) w := run_typeAssert_lacksB Tryz.underlying136 (by kernel_rfl) (by kernel_rfl) v xT w
theorem noUnwrapsE (v : Value) (xT : TypeId) (w : World) : (Instr.typeAssert (.iface 153 v) xT 138 true).run Tryz.prog w = .ok (.tuple #[.nilIface, .bool false]) w := run_typeAssert_lacksB Tryz.underlying138 (by kernel_rfl) (by kernel_rfl) v xT w
theorem noIsF (v : Value) (xT : TypeId) (w : World) : (Instr.typeAssert (.iface 76 v) xT 140 true).run Tryz.prog w = .ok (.tuple #[.nilIface, .bool false]) w := run_typeAssert_lacksB Tryz.underlying140 (by kernel_rfl) (by kernel_rfl) v xT w
theorem hasUnwrapF (v : Value) (xT : TypeId) (w : World) : (Instr.typeAssert (.iface 76 v) xT 136 true).run Tryz.prog w = .ok (.tuple #[.iface 76 v, .bool true]) w := run_typeAssert_hasB Tryz.underlying136 (by kernel_rfl) v xT w
theorem methodUnwrap (v : Value) (w : World) : (Go.method 286 76 v "Unwrap").run Tryz.prog w = .ok (106, v) w := by kernel_rfl

set_option maxHeartbeats 1000000 in
theorem is_same (a : Addr) (w : World) :
    Calls Tryz.prog 46 #[.iface 153 (.pointer (some a)), .iface 153 (.pointer (some a))] w fun e w' => e = .returned (.bool true) ∧ w' = w := by
  obtain ⟨i, hi, hcmp⟩ := Option.map_eq_some_iff.1 compE
  obtain ⟨j, hj, hjs⟩ := Option.map_eq_some_iff.1 sizeE
  have h8 := @run_callFunc_extern Tryz.prog 62 _ ReflectliteType.typeOf Tryz.func62 (by kernel_rfl) (by kernel_rfl) (by kernel_rfl) (by kernel_rfl)
  obtain ⟨ent, hent, cT⟩ := cmp_entry
  have h9 := @run_callFunc_extern Tryz.prog 112 _ ent Tryz.func112 (by kernel_rfl) (by kernel_rfl) (by kernel_rfl) hent
  clear hent
  have tT := typeOfE
  have mR := methodComparable
  have heq := run_eql_iface_ptr_same (P := Tryz.prog) w a Tryz.underlying26 Tryz.underlying153 hi hcmp hj
  go_enter Tryz.func46, Tryz.ntmps46
  go_wp2
  refine wp_loop_rounds 1 ?_
  rw [rounds_succ]
  go_wp2
  go_ret
  exact ⟨rfl, rfl⟩

set_option maxHeartbeats 1000000 in
theorem is_other (a b : Addr) (ca cb : Array Value) (ta tb : TypeId) (w : World) (hne : a ≠ b) (ha : w.heap[a.block]? = some (.cells ca ta (0, 0))) (hb : w.heap[b.block]? = some (.cells cb tb (0, 0))) :
    Calls Tryz.prog 46 #[.iface 153 (.pointer (some a)), .iface 153 (.pointer (some b))] w fun e w' => e = .returned (.bool false) ∧ w' = w := by
  obtain ⟨i, hi, hcmp⟩ := Option.map_eq_some_iff.1 compE
  obtain ⟨j, hj, hjs⟩ := Option.map_eq_some_iff.1 sizeE
  have h8 := @run_callFunc_extern Tryz.prog 62 _ ReflectliteType.typeOf Tryz.func62 (by kernel_rfl) (by kernel_rfl) (by kernel_rfl) (by kernel_rfl)
  obtain ⟨ent, hent, cT⟩ := cmp_entry
  have h9 := @run_callFunc_extern Tryz.prog 112 _ ent Tryz.func112 (by kernel_rfl) (by kernel_rfl) (by kernel_rfl) hent
  clear hent
  have tT := typeOfE
  have mR := methodComparable
  have nE := noIsE
  have uE := noUnwrapE
  have vE := noUnwrapsE
  have heq := run_eql_iface_ptr_other (P := Tryz.prog) w Tryz.underlying26 Tryz.underlying153 hi hcmp hj (by rw [hjs]; decide) hne ha hb
  go_enter Tryz.func46, Tryz.ntmps46
  go_wp2
  refine wp_loop_rounds 1 ?_
  rw [rounds_succ]
  go_wp2
  go_ret
  exact ⟨rfl, rfl⟩

set_option maxHeartbeats 1000000 in
theorem is_fault_same (pb : Nat) (b : Addr) (w : World) (h1 : w.cell? ⟨pb, 1, none⟩ = some (.iface 153 (.pointer (some b)))) :
    Calls Tryz.prog 46 #[.iface 76 (.pointer (some ⟨pb, 0, none⟩)), .iface 153 (.pointer (some b))] w fun e w' => e = .returned (.bool true) ∧ w' = w := by
  obtain ⟨i, hi, hcmp⟩ := Option.map_eq_some_iff.1 compE
  obtain ⟨j, hj, hjs⟩ := Option.map_eq_some_iff.1 sizeE
  have h8 := @run_callFunc_extern Tryz.prog 62 _ ReflectliteType.typeOf Tryz.func62 (by kernel_rfl) (by kernel_rfl) (by kernel_rfl) (by kernel_rfl)
  obtain ⟨ent, hent, cT⟩ := cmp_entry
  have h9 := @run_callFunc_extern Tryz.prog 112 _ ent Tryz.func112 (by kernel_rfl) (by kernel_rfl) (by kernel_rfl) hent
  clear hent
  have tT := typeOfE
  have mR := methodComparable
  have nW := noIsF
  have uW := hasUnwrapF
  have mU := methodUnwrap
  have heq := run_eql_iface_ptr_same (P := Tryz.prog) w b Tryz.underlying26 Tryz.underlying153 hi hcmp hj
  have hty := run_eql_iface_types (P := Tryz.prog) 76 153 (.pointer (some ⟨pb, 0, none⟩)) (.pointer (some b)) Tryz.underlying26 (by decide) w
  go_enter Tryz.func46, Tryz.ntmps46
  go_wp2
  refine wp_loop_rounds 2 ?_
  rw [rounds_succ]
  go_wp2
  rw [rounds_succ]
  go_wp2
  go_ret
  exact ⟨rfl, rfl⟩

set_option maxHeartbeats 1000000 in
theorem is_fault_other (pb : Nat) (b a : Addr) (ca cb : Array Value) (ta tb : TypeId) (w : World) (h1 : w.cell? ⟨pb, 1, none⟩ = some (.iface 153 (.pointer (some a)))) (hne : a ≠ b) (ha : w.heap[a.block]? = some (.cells ca ta (0, 0))) (hb : w.heap[b.block]? = some (.cells cb tb (0, 0))) :
    Calls Tryz.prog 46 #[.iface 76 (.pointer (some ⟨pb, 0, none⟩)), .iface 153 (.pointer (some b))] w fun e w' => e = .returned (.bool false) ∧ w' = w := by
  obtain ⟨i, hi, hcmp⟩ := Option.map_eq_some_iff.1 compE
  obtain ⟨j, hj, hjs⟩ := Option.map_eq_some_iff.1 sizeE
  have h8 := @run_callFunc_extern Tryz.prog 62 _ ReflectliteType.typeOf Tryz.func62 (by kernel_rfl) (by kernel_rfl) (by kernel_rfl) (by kernel_rfl)
  obtain ⟨ent, hent, cT⟩ := cmp_entry
  have h9 := @run_callFunc_extern Tryz.prog 112 _ ent Tryz.func112 (by kernel_rfl) (by kernel_rfl) (by kernel_rfl) hent
  clear hent
  have tT := typeOfE
  have mR := methodComparable
  have nE := noIsE
  have uE := noUnwrapE
  have vE := noUnwrapsE
  have nW := noIsF
  have uW := hasUnwrapF
  have mU := methodUnwrap
  have heq := run_eql_iface_ptr_other (P := Tryz.prog) w Tryz.underlying26 Tryz.underlying153 hi hcmp hj (by rw [hjs]; decide) hne ha hb
  have hty := run_eql_iface_types (P := Tryz.prog) 76 153 (.pointer (some ⟨pb, 0, none⟩)) (.pointer (some b)) Tryz.underlying26 (by decide) w
  go_enter Tryz.func46, Tryz.ntmps46
  go_wp2
  refine wp_loop_rounds 2 ?_
  rw [rounds_succ]
  go_wp2
  rw [rounds_succ]
  go_wp2
  go_ret
  exact ⟨rfl, rfl⟩
end Go.Proofs.YtijdaaghomclmabGreatDoor

/- What errors.As answers at a target of type **api.Fault: a Fault is found, and stored; of another error nothing is found. -/
namespace Go.Proofs.YtijdaaghomclmabGreatDoor
open Go.RowKit Go.Extern.Stop Go.Stop Go.Extern

theorem valueOfT (t : Addr) (w : World) : (ReflectliteValue.unpack (.iface 89 (.pointer (some t)))).run Tryz.prog w
    = .ok (.agg #[.pointer (some ⟨10, 89, none⟩), .pointer (some ⟨w.heap.size, 0, none⟩), .int .u64 150]) (w.alloc (.cells #[.pointer (some t)] 89)) := by kernel_rfl
theorem typeT_fact (a : Addr) (w : World) : ((find Tryz.f59).map fun e => (e #[.agg #[.pointer (some ⟨10, 89, none⟩), .pointer (some a), .int .u64 150]]).run Tryz.prog w)
    = some (.ok (.iface 129 (.agg #[.pointer (some ⟨10, 89, none⟩)])) w) := by kernel_rfl
theorem typeT_entry : ∃ e, find Tryz.f59 = some e ∧ ∀ a w, (e #[.agg #[.pointer (some ⟨10, 89, none⟩), .pointer (some a), .int .u64 150]]).run Tryz.prog w = .ok (.iface 129 (.agg #[.pointer (some ⟨10, 89, none⟩)])) w := by
  cases h : find Tryz.f59 with
  | none => have := typeT_fact default default; rw [h] at this; cases this
  | some e => exact ⟨e, rfl, fun a w => by have := typeT_fact a w; rw [h] at this; exact Option.some.inj this⟩
theorem methodKind (h : Value) (w : World) : (Go.method 286 129 (.agg #[h]) "Kind").run Tryz.prog w = .ok (102, h) w := by kernel_rfl
theorem kind_fact (w : World) : ((find Tryz.f102).map fun e => ((e #[.pointer (some ⟨10, 89, none⟩)]).run Tryz.prog w, (e #[.pointer (some ⟨10, 76, none⟩)]).run Tryz.prog w)) = some (.ok (.int .u8 22) w, .ok (.int .u8 22) w) := by kernel_rfl
theorem kind_entry : ∃ e, find Tryz.f102 = some e ∧ (∀ w, (e #[.pointer (some ⟨10, 89, none⟩)]).run Tryz.prog w = .ok (.int .u8 22) w) ∧ ∀ w, (e #[.pointer (some ⟨10, 76, none⟩)]).run Tryz.prog w = .ok (.int .u8 22) w := by
  cases h : find Tryz.f102 with
  | none => have := kind_fact default; rw [h] at this; cases this
  | some e =>
    have k : ∀ w, ((e #[.pointer (some ⟨10, 89, none⟩)]).run Tryz.prog w, (e #[.pointer (some ⟨10, 76, none⟩)]).run Tryz.prog w) = (.ok (.int .u8 22) w, .ok (.int .u8 22) w) := fun w => by
      have := kind_fact w; rw [h] at this; exact Option.some.inj this
    exact ⟨e, rfl, fun w => congrArg Prod.fst (k w), fun w => congrArg Prod.snd (k w)⟩
theorem partsT (a : Addr) (w : World) : (ReflectliteValue.parts (.agg #[.pointer (some ⟨10, 89, none⟩), .pointer (some a), .int .u64 150])).run Tryz.prog w = .ok (some (89, a, 150)) w := by kernel_rfl
theorem isNilT (a p : Addr) (W : World) (ha : W.cell? a = some (.pointer (some p))) :
    (ReflectliteValue.method (ReflectliteValue.valueError "reflectlite.Value.IsNil" 0) ReflectliteValue.isNil #[.agg #[.pointer (some ⟨10, 89, none⟩), .pointer (some a), .int .u64 150]]).run Tryz.prog W = .ok (.bool false) W := by
  delta ReflectliteValue.method ReflectliteValue.method.match_2
  simp [Array.getLit, partsT, ReflectliteValue.isNil, loadVar, isAgg, underlying, Tryz.underlying89, ha, Result.andThen]
theorem methodElem (h : Value) (w : World) : (Go.method 286 129 (.agg #[h]) "Elem").run Tryz.prog w = .ok (113, .agg #[h]) w := by kernel_rfl
theorem methodImplements (h : Value) (w : World) : (Go.method 286 129 (.agg #[h]) "Implements").run Tryz.prog w = .ok (114, .agg #[h]) w := by kernel_rfl
theorem methodAssignableTo (h : Value) (w : World) : (Go.method 286 129 (.agg #[h]) "AssignableTo").run Tryz.prog w = .ok (111, .agg #[h]) w := by kernel_rfl
theorem elemT_fact (w : World) : ((find Tryz.f113).map fun e => (e #[.agg #[.pointer (some ⟨10, 89, none⟩)]]).run Tryz.prog w) = some (.ok (.iface 129 (.agg #[.pointer (some ⟨10, 76, none⟩)])) w) := by kernel_rfl
theorem elemT_entry : ∃ e, find Tryz.f113 = some e ∧ ∀ w, (e #[.agg #[.pointer (some ⟨10, 89, none⟩)]]).run Tryz.prog w = .ok (.iface 129 (.agg #[.pointer (some ⟨10, 76, none⟩)])) w := by
  cases h : find Tryz.f113 with
  | none => have := elemT_fact default; rw [h] at this; cases this
  | some e => exact ⟨e, rfl, fun w => by have := elemT_fact w; rw [h] at this; exact Option.some.inj this⟩
theorem impl_fact (w : World) : ((find Tryz.f114).map fun e => (e #[.agg #[.pointer (some ⟨10, 76, none⟩)], .iface 129 (.agg #[.pointer (some ⟨10, 26, none⟩)])]).run Tryz.prog w) = some (.ok (.bool true) w) := by kernel_rfl
theorem impl_entry : ∃ e, find Tryz.f114 = some e ∧ ∀ w, (e #[.agg #[.pointer (some ⟨10, 76, none⟩)], .iface 129 (.agg #[.pointer (some ⟨10, 26, none⟩)])]).run Tryz.prog w = .ok (.bool true) w := by
  cases h : find Tryz.f114 with
  | none => have := impl_fact default; rw [h] at this; cases this
  | some e => exact ⟨e, rfl, fun w => by have := impl_fact w; rw [h] at this; exact Option.some.inj this⟩
theorem assign_fact (w : World) : ((find Tryz.f111).map fun e => ((e #[.agg #[.pointer (some ⟨10, 76, none⟩)], .iface 129 (.agg #[.pointer (some ⟨10, 76, none⟩)])]).run Tryz.prog w, (e #[.agg #[.pointer (some ⟨10, 153, none⟩)], .iface 129 (.agg #[.pointer (some ⟨10, 76, none⟩)])]).run Tryz.prog w)) = some (.ok (.bool true) w, .ok (.bool false) w) := by kernel_rfl
theorem assign_entry : ∃ e, find Tryz.f111 = some e ∧ (∀ w, (e #[.agg #[.pointer (some ⟨10, 76, none⟩)], .iface 129 (.agg #[.pointer (some ⟨10, 76, none⟩)])]).run Tryz.prog w = .ok (.bool true) w) ∧ ∀ w, (e #[.agg #[.pointer (some ⟨10, 153, none⟩)], .iface 129 (.agg #[.pointer (some ⟨10, 76, none⟩)])]).run Tryz.prog w = .ok (.bool false) w := by
  cases h : find Tryz.f111 with
  | none => have := assign_fact default; rw [h] at this; cases this
  | some e =>
    have k := fun w => by have := assign_fact w; rw [h] at this; exact Option.some.inj this
    exact ⟨e, rfl, fun w => congrArg Prod.fst (k w), fun w => congrArg Prod.snd (k w)⟩
theorem valueOfF (e : Addr) (w : World) : (ReflectliteValue.unpack (.iface 76 (.pointer (some e)))).run Tryz.prog w
    = .ok (.agg #[.pointer (some ⟨10, 76, none⟩), .pointer (some ⟨w.heap.size, 0, none⟩), .int .u64 150]) (w.alloc (.cells #[.pointer (some e)] 76)) := by kernel_rfl
theorem elemOfT (w : World) : (Rtype.elem? 89).run Tryz.prog w = .ok (some 76) w := by kernel_rfl
theorem mkF (p : Addr) (w : World) : (ReflectliteValue.mk 76 p ReflectliteValue.flagAddr).run Tryz.prog w = .ok (.agg #[.pointer (some ⟨10, 76, none⟩), .pointer (some p), .int .u64 406]) w := by kernel_rfl
theorem elemVT (a p : Addr) (W : World) (ha : W.cell? a = some (.pointer (some p))) :
    (ReflectliteValue.method (ReflectliteValue.valueError "reflectlite.Value.Elem" 0) ReflectliteValue.elem #[.agg #[.pointer (some ⟨10, 89, none⟩), .pointer (some a), .int .u64 150]]).run Tryz.prog W
      = .ok (.agg #[.pointer (some ⟨10, 76, none⟩), .pointer (some p), .int .u64 406]) W := by
  delta ReflectliteValue.method ReflectliteValue.method.match_2
  simp [Array.getLit, partsT, ReflectliteValue.elem, loadVar, isAgg, underlying, Tryz.underlying89, ha, Result.andThen, elemOfT, mkF]
theorem partsFa (a : Addr) (w : World) : (ReflectliteValue.parts (.agg #[.pointer (some ⟨10, 76, none⟩), .pointer (some a), .int .u64 406])).run Tryz.prog w = .ok (some (76, a, 406)) w := by kernel_rfl
theorem partsF (a : Addr) (w : World) : (ReflectliteValue.parts (.agg #[.pointer (some ⟨10, 76, none⟩), .pointer (some a), .int .u64 150])).run Tryz.prog w = .ok (some (76, a, 150)) w := by kernel_rfl
theorem directF (w : World) : (Rtype.directlyAssignable 76 76).run Tryz.prog w = .ok true w := by kernel_rfl
theorem setF (ta b e : Addr) (old : Value) (W : World) (hb : W.cell? b = some (.pointer (some e))) (ht : W.cell? ta = some old) (hf : W.frozen? ta = false) :
    (ReflectliteValue.set #[.agg #[.pointer (some ⟨10, 76, none⟩), .pointer (some ta), .int .u64 406], .agg #[.pointer (some ⟨10, 76, none⟩), .pointer (some b), .int .u64 150]]).run Tryz.prog W
      = .ok (.tuple #[]) (W.setCell ta (.pointer (some e))) := by
  delta ReflectliteValue.set ReflectliteValue.set.match_3
  simp [Array.getLit, partsFa, partsF, ReflectliteValue.flagAddr, loadVar, isAgg, underlying, Tryz.underlying76, hb, Result.andThen, directF, storeVar, Value.cells, storeCells, Addr.add]
  rw [run_store Tryz.prog W ta _ _ (by rfl)]
  simp [ht, hf]
end Go.Proofs.YtijdaaghomclmabGreatDoor

/- errors.As at a target of type **api.Fault, by its contracts. -/
namespace Go.Proofs.YtijdaaghomclmabGreatDoor
open Go.RowKit Go.Extern.Stop Go.Stop Go.Extern

theorem lt_of_cell {w : World} {a : Addr} {v : Value} (h : w.cell? a = some v) : a.block < w.heap.size := by
  rcases Nat.lt_or_ge a.block w.heap.size with h' | h'
  · exact h'
  · simp [World.cell?, Array.getElem?_eq_none h'] at h

set_option maxHeartbeats 4000000 in
theorem as_hit (e t : Addr) (old : Value) (w : World) (hg : w.cell? ⟨9, 0, none⟩ = some (.iface 129 (.agg #[.pointer (some ⟨10, 26, none⟩)]))) (ht0 : w.cell? t = some old) (hf0 : w.frozen? t = false) :
    Calls Tryz.prog 45 #[.iface 76 (.pointer (some e)), .iface 89 (.pointer (some t))] w fun ev w' => ev = .returned (.bool true) ∧ w' = ((((w.alloc (.cells #[.pointer (some t)] 89)).alloc (.cells #[.pointer (some ⟨10, 89, none⟩), .pointer (some ⟨w.heap.size, 0, none⟩), .int .u64 150] 105)).alloc (.cells #[.pointer (some ⟨10, 89, none⟩), .pointer (some ⟨w.heap.size, 0, none⟩), .int .u64 150] 105)).alloc (.cells #[.pointer (some e)] 76)).setCell t (.pointer (some e)) := by
  have h6 := @run_callFunc_extern Tryz.prog 58 _ (fun args => ReflectliteValue.unpack (args.getD 0 (.tuple #[]))) Tryz.func58 (by kernel_rfl) (by kernel_rfl) (by kernel_rfl) (by kernel_rfl)
  obtain ⟨e7, he7, f7⟩ := typeT_entry
  have h7 := @run_callFunc_extern Tryz.prog 59 _ e7 Tryz.func59 (by kernel_rfl) (by kernel_rfl) (by kernel_rfl) he7
  have h8 := @run_callFunc_extern Tryz.prog 60 _ (ReflectliteValue.method (ReflectliteValue.valueError "reflectlite.Value.IsNil" 0) ReflectliteValue.isNil) Tryz.func60 (by kernel_rfl) (by kernel_rfl) (by kernel_rfl) (by kernel_rfl)
  obtain ⟨eK, heK, kT, kF⟩ := kind_entry
  have hK := @run_callFunc_extern Tryz.prog 102 _ eK Tryz.func102 (by kernel_rfl) (by kernel_rfl) (by kernel_rfl) heK
  obtain ⟨eE, heE, eT⟩ := elemT_entry
  have hE := @run_callFunc_extern Tryz.prog 113 _ eE Tryz.func113 (by kernel_rfl) (by kernel_rfl) (by kernel_rfl) heE
  obtain ⟨eI, heI, iF⟩ := impl_entry
  have hI := @run_callFunc_extern Tryz.prog 114 _ eI Tryz.func114 (by kernel_rfl) (by kernel_rfl) (by kernel_rfl) heI
  have hO := @run_callFunc_extern Tryz.prog 62 _ ReflectliteType.typeOf Tryz.func62 (by kernel_rfl) (by kernel_rfl) (by kernel_rfl) (by kernel_rfl)
  obtain ⟨eA, heA, aF, _⟩ := assign_entry
  have hA := @run_callFunc_extern Tryz.prog 111 _ eA Tryz.func111 (by kernel_rfl) (by kernel_rfl) (by kernel_rfl) heA
  have h11 := @run_callFunc_extern Tryz.prog 77 _ (ReflectliteValue.method (ReflectliteValue.valueError "reflectlite.Value.Elem" 0) ReflectliteValue.elem) Tryz.func77 (by kernel_rfl) (by kernel_rfl) (by kernel_rfl) (by kernel_rfl)
  have h12 := @run_callFunc_extern Tryz.prog 78 _ ReflectliteValue.set Tryz.func78 (by kernel_rfl) (by kernel_rfl) (by kernel_rfl) (by kernel_rfl)
  clear he7 heK heE heI heA
  have tO := typeOfF
  have mA := methodAssignableTo
  have v25 := valueOfF
  have f6 := valueOfT
  have mK := methodKind
  have mE := methodElem
  have mI := methodImplements
  have n8 := isNilT ⟨w.heap.size, 0, none⟩ t ((w.alloc (.cells #[.pointer (some t)] 89)).alloc (.cells #[.pointer (some ⟨10, 89, none⟩), .pointer (some ⟨w.heap.size, 0, none⟩), .int .u64 150] 105)) (by simp)
  have hlt : 9 < w.heap.size := lt_of_cell hg
  have hg2 : ((w.alloc (.cells #[.pointer (some t)] 89)).alloc (.cells #[.pointer (some ⟨10, 89, none⟩), .pointer (some ⟨w.heap.size, 0, none⟩), .int .u64 150] 105)).cell? ⟨9, 0, none⟩ = some (.iface 129 (.agg #[.pointer (some ⟨10, 26, none⟩)])) := by
    rw [World.cell?_alloc_lt _ _ ⟨9, 0, none⟩ (by simp; omega), World.cell?_alloc_lt _ _ ⟨9, 0, none⟩ hlt]; exact hg
  have htl : t.block < w.heap.size := lt_of_cell ht0
  have el := elemVT ⟨w.heap.size, 0, none⟩ t (((w.alloc (.cells #[.pointer (some t)] 89)).alloc (.cells #[.pointer (some ⟨10, 89, none⟩), .pointer (some ⟨w.heap.size, 0, none⟩), .int .u64 150] 105)).alloc (.cells #[.pointer (some ⟨10, 89, none⟩), .pointer (some ⟨w.heap.size, 0, none⟩), .int .u64 150] 105)) (by rw [World.cell?_alloc_lt _ _ ⟨w.heap.size, 0, none⟩ (by simp; omega)]; simp)
  have st := setF t ⟨w.heap.size + 1 + 1 + 1, 0, none⟩ e old ((((w.alloc (.cells #[.pointer (some t)] 89)).alloc (.cells #[.pointer (some ⟨10, 89, none⟩), .pointer (some ⟨w.heap.size, 0, none⟩), .int .u64 150] 105)).alloc (.cells #[.pointer (some ⟨10, 89, none⟩), .pointer (some ⟨w.heap.size, 0, none⟩), .int .u64 150] 105)).alloc (.cells #[.pointer (some e)] 76))
    (by rw [World.cell?_alloc_at _ _ _ _ (by simp)]; rfl)
    (by rw [World.cell?_alloc_lt _ _ t (by simp; omega), World.cell?_alloc_lt _ _ t (by simp; omega), World.cell?_alloc_lt _ _ t (by simp; omega), World.cell?_alloc_lt _ _ t htl]; exact ht0)
    (by rw [World.frozen?_alloc_old _ _ t (by simp; omega), World.frozen?_alloc_old _ _ t (by simp; omega), World.frozen?_alloc_old _ _ t (by simp; omega), World.frozen?_alloc_old _ _ t (Nat.ne_of_lt htl)]; exact hf0)
  go_enter Tryz.func45, Tryz.ntmps45
  go_wp2
  refine wp_loop_rounds 1 ?_
  rw [rounds_succ]
  go_wp2
  go_ret
  exact ⟨rfl, rfl⟩

set_option maxHeartbeats 4000000 in
theorem as_miss (e t : Addr) (w : World) (hg : w.cell? ⟨9, 0, none⟩ = some (.iface 129 (.agg #[.pointer (some ⟨10, 26, none⟩)]))) :
    Calls Tryz.prog 45 #[.iface 153 (.pointer (some e)), .iface 89 (.pointer (some t))] w fun ev w' => ev = .returned (.bool false) ∧ w' = (((w.alloc (.cells #[.pointer (some t)] 89)).alloc (.cells #[.pointer (some ⟨10, 89, none⟩), .pointer (some ⟨w.heap.size, 0, none⟩), .int .u64 150] 105)).alloc (.cells #[.pointer (some ⟨10, 89, none⟩), .pointer (some ⟨w.heap.size, 0, none⟩), .int .u64 150] 105)) := by
  have h6 := @run_callFunc_extern Tryz.prog 58 _ (fun args => ReflectliteValue.unpack (args.getD 0 (.tuple #[]))) Tryz.func58 (by kernel_rfl) (by kernel_rfl) (by kernel_rfl) (by kernel_rfl)
  obtain ⟨e7, he7, f7⟩ := typeT_entry
  have h7 := @run_callFunc_extern Tryz.prog 59 _ e7 Tryz.func59 (by kernel_rfl) (by kernel_rfl) (by kernel_rfl) he7
  have h8 := @run_callFunc_extern Tryz.prog 60 _ (ReflectliteValue.method (ReflectliteValue.valueError "reflectlite.Value.IsNil" 0) ReflectliteValue.isNil) Tryz.func60 (by kernel_rfl) (by kernel_rfl) (by kernel_rfl) (by kernel_rfl)
  obtain ⟨eK, heK, kT, kF⟩ := kind_entry
  have hK := @run_callFunc_extern Tryz.prog 102 _ eK Tryz.func102 (by kernel_rfl) (by kernel_rfl) (by kernel_rfl) heK
  obtain ⟨eE, heE, eT⟩ := elemT_entry
  have hE := @run_callFunc_extern Tryz.prog 113 _ eE Tryz.func113 (by kernel_rfl) (by kernel_rfl) (by kernel_rfl) heE
  obtain ⟨eI, heI, iF⟩ := impl_entry
  have hI := @run_callFunc_extern Tryz.prog 114 _ eI Tryz.func114 (by kernel_rfl) (by kernel_rfl) (by kernel_rfl) heI
  have hO := @run_callFunc_extern Tryz.prog 62 _ ReflectliteType.typeOf Tryz.func62 (by kernel_rfl) (by kernel_rfl) (by kernel_rfl) (by kernel_rfl)
  obtain ⟨eA, heA, _, aE⟩ := assign_entry
  have hA := @run_callFunc_extern Tryz.prog 111 _ eA Tryz.func111 (by kernel_rfl) (by kernel_rfl) (by kernel_rfl) heA
  clear he7 heK heE heI heA
  have tO := typeOfE
  have mA := methodAssignableTo
  have f6 := valueOfT
  have mK := methodKind
  have mE := methodElem
  have mI := methodImplements
  have nA := noAsE
  have uE := noUnwrapE
  have vE := noUnwrapsE
  have n8 := isNilT ⟨w.heap.size, 0, none⟩ t ((w.alloc (.cells #[.pointer (some t)] 89)).alloc (.cells #[.pointer (some ⟨10, 89, none⟩), .pointer (some ⟨w.heap.size, 0, none⟩), .int .u64 150] 105)) (by simp)
  have hlt : 9 < w.heap.size := lt_of_cell hg
  have hg2 : ((w.alloc (.cells #[.pointer (some t)] 89)).alloc (.cells #[.pointer (some ⟨10, 89, none⟩), .pointer (some ⟨w.heap.size, 0, none⟩), .int .u64 150] 105)).cell? ⟨9, 0, none⟩ = some (.iface 129 (.agg #[.pointer (some ⟨10, 26, none⟩)])) := by
    rw [World.cell?_alloc_lt _ _ ⟨9, 0, none⟩ (by simp; omega), World.cell?_alloc_lt _ _ ⟨9, 0, none⟩ hlt]; exact hg
  go_enter Tryz.func45, Tryz.ntmps45
  go_wp2
  refine wp_loop_rounds 1 ?_
  rw [rounds_succ]
  go_wp2
  go_ret
  exact ⟨rfl, rfl⟩
end Go.Proofs.YtijdaaghomclmabGreatDoor
