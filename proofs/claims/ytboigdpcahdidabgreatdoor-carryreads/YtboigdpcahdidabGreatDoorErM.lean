/- What errors.Is and errors.As answer of the errors of package api: a sentinel, a Fault that wraps one, another error. -/
import Derived.Test.YtboigdpcahdidabGreatDoorChecked
import Derived.WalkKit
import Derived.WalkLawsBesides
import Derived.WalkSpells
import Derived.LaidEql
import Derived.Stop.Asserts
import Derived.RowKitTokens
namespace Go.Proofs.YtboigdpcahdidabGreatDoor
open Go.RowKit Go.Extern.Stop Go.Stop Go.Extern

/- closed facts on types -/
theorem compE : (Tryz.prog.info? 238).map (·.comparable) = some true := by kernel_rfl
theorem sizeE : (Tryz.prog.info? 240).map (·.size) = some 1 := by kernel_rfl
theorem typeOfE (v : Value) (w : World) : (ReflectliteType.typeOf #[.iface 238 v]).run Tryz.prog w = .ok (.iface 183 (.agg #[.pointer (some ⟨18, 238, none⟩)])) w := by kernel_rfl
theorem typeOfF (v : Value) (w : World) : (ReflectliteType.typeOf #[.iface 87 v]).run Tryz.prog w = .ok (.iface 183 (.agg #[.pointer (some ⟨18, 87, none⟩)])) w := by kernel_rfl
theorem cmp_fact (w : World) : ((find Tryz.f207).map fun e => (e #[.agg #[.pointer (some ⟨18, 238, none⟩)]]).run Tryz.prog w) = some (.ok (.bool true) w) := by kernel_rfl
theorem cmp_entry : ∃ e, find Tryz.f207 = some e ∧ ∀ w, (e #[.agg #[.pointer (some ⟨18, 238, none⟩)]]).run Tryz.prog w = .ok (.bool true) w := by
  cases h : find Tryz.f207 with
  | none => have := cmp_fact default; rw [h] at this; cases this
  | some e => exact ⟨e, rfl, fun w => by have := cmp_fact w; rw [h] at this; exact Option.some.inj this⟩
theorem methodComparable (v : Value) (w : World) : (Go.method 372 183 v "Comparable").run Tryz.prog w = .ok (207, v) w := by kernel_rfl
theorem noIsE (v : Value) (xT : TypeId) (w : World) : (Instr.typeAssert (.iface 238 v) xT 194 true).run Tryz.prog w = .ok (.tuple #[.nilIface, .bool false]) w := run_typeAssert_lacksB Tryz.underlying194 (by kernel_rfl) (by kernel_rfl) v xT w
theorem noAsE (v : Value) (xT : TypeId) (w : World) : (Instr.typeAssert (.iface 238 v) xT 187 true).run Tryz.prog w = .ok (.tuple #[.nilIface, .bool false]) w := run_typeAssert_lacksB Tryz.underlying187 (by kernel_rfl) (by kernel_rfl) v xT w
theorem noUnwrapE (v : Value) (xT : TypeId) (w : World) : (Instr.typeAssert (.iface 238 v) xT 190 true).run Tryz.prog w = .ok (.tuple #[.nilIface, .bool false]) w := run_typeAssert_lacksB Tryz.underlying190 (by kernel_rfl) (by kernel_rfl) v xT w
theorem noUnwrapsE (v : Value) (xT : TypeId) (w : World) : (Instr.typeAssert (.iface 238 v) xT 192 true).run Tryz.prog w = .ok (.tuple #[.nilIface, .bool false]) w := run_typeAssert_lacksB Tryz.underlying192 (by kernel_rfl) (by kernel_rfl) v xT w
theorem noIsF (v : Value) (xT : TypeId) (w : World) : (Instr.typeAssert (.iface 87 v) xT 194 true).run Tryz.prog w = .ok (.tuple #[.nilIface, .bool false]) w := run_typeAssert_lacksB Tryz.underlying194 (by kernel_rfl) (by kernel_rfl) v xT w
theorem hasUnwrapF (v : Value) (xT : TypeId) (w : World) : (Instr.typeAssert (.iface 87 v) xT 190 true).run Tryz.prog w = .ok (.tuple #[.iface 87 v, .bool true]) w := run_typeAssert_hasB Tryz.underlying190 (by kernel_rfl) v xT w
theorem methodUnwrap (v : Value) (w : World) : (Go.method 372 87 v "Unwrap").run Tryz.prog w = .ok (200, v) w := by kernel_rfl

set_option maxHeartbeats 1000000 in
theorem is_same (a : Addr) (w : World) :
    Calls Tryz.prog 69 #[.iface 238 (.pointer (some a)), .iface 238 (.pointer (some a))] w fun e w' => e = .returned (.bool true) ∧ w' = w := by
  obtain ⟨i, hi, hcmp⟩ := Option.map_eq_some_iff.1 compE
  obtain ⟨j, hj, hjs⟩ := Option.map_eq_some_iff.1 sizeE
  have h8 := @run_callFunc_extern Tryz.prog 99 _ ReflectliteType.typeOf Tryz.func99 (by kernel_rfl) (by kernel_rfl) (by kernel_rfl) (by kernel_rfl)
  obtain ⟨ent, hent, cT⟩ := cmp_entry
  have h9 := @run_callFunc_extern Tryz.prog 207 _ ent Tryz.func207 (by kernel_rfl) (by kernel_rfl) (by kernel_rfl) hent
  clear hent
  have tT := typeOfE
  have mR := methodComparable
  have heq := run_eql_iface_ptr_same (P := Tryz.prog) w a Tryz.underlying26 Tryz.underlying238 hi hcmp hj
  go_enter Tryz.func69, Tryz.ntmps69
  go_wp2
  refine wp_loop_rounds 1 ?_
  rw [rounds_succ]
  go_wp2
  go_ret
  exact ⟨rfl, rfl⟩

set_option maxHeartbeats 1000000 in
theorem is_other (a b : Addr) (ca cb : Array Value) (ta tb : TypeId) (w : World) (hne : a ≠ b) (ha : w.heap[a.block]? = some (.cells ca ta (0, 0))) (hb : w.heap[b.block]? = some (.cells cb tb (0, 0))) :
    Calls Tryz.prog 69 #[.iface 238 (.pointer (some a)), .iface 238 (.pointer (some b))] w fun e w' => e = .returned (.bool false) ∧ w' = w := by
  obtain ⟨i, hi, hcmp⟩ := Option.map_eq_some_iff.1 compE
  obtain ⟨j, hj, hjs⟩ := Option.map_eq_some_iff.1 sizeE
  have h8 := @run_callFunc_extern Tryz.prog 99 _ ReflectliteType.typeOf Tryz.func99 (by kernel_rfl) (by kernel_rfl) (by kernel_rfl) (by kernel_rfl)
  obtain ⟨ent, hent, cT⟩ := cmp_entry
  have h9 := @run_callFunc_extern Tryz.prog 207 _ ent Tryz.func207 (by kernel_rfl) (by kernel_rfl) (by kernel_rfl) hent
  clear hent
  have tT := typeOfE
  have mR := methodComparable
  have nE := noIsE
  have uE := noUnwrapE
  have vE := noUnwrapsE
  have heq := run_eql_iface_ptr_other (P := Tryz.prog) w Tryz.underlying26 Tryz.underlying238 hi hcmp hj (by rw [hjs]; decide) hne ha hb
  go_enter Tryz.func69, Tryz.ntmps69
  go_wp2
  refine wp_loop_rounds 1 ?_
  rw [rounds_succ]
  go_wp2
  go_ret
  exact ⟨rfl, rfl⟩

set_option maxHeartbeats 1000000 in
theorem is_fault_same (pb : Nat) (b : Addr) (w : World) (h1 : w.cell? ⟨pb, 1, none⟩ = some (.iface 238 (.pointer (some b)))) :
    Calls Tryz.prog 69 #[.iface 87 (.pointer (some ⟨pb, 0, none⟩)), .iface 238 (.pointer (some b))] w fun e w' => e = .returned (.bool true) ∧ w' = w := by
  obtain ⟨i, hi, hcmp⟩ := Option.map_eq_some_iff.1 compE
  obtain ⟨j, hj, hjs⟩ := Option.map_eq_some_iff.1 sizeE
  have h8 := @run_callFunc_extern Tryz.prog 99 _ ReflectliteType.typeOf Tryz.func99 (by kernel_rfl) (by kernel_rfl) (by kernel_rfl) (by kernel_rfl)
  obtain ⟨ent, hent, cT⟩ := cmp_entry
  have h9 := @run_callFunc_extern Tryz.prog 207 _ ent Tryz.func207 (by kernel_rfl) (by kernel_rfl) (by kernel_rfl) hent
  clear hent
  have tT := typeOfE
  have mR := methodComparable
  have nW := noIsF
  have uW := hasUnwrapF
  have mU := methodUnwrap
  have heq := run_eql_iface_ptr_same (P := Tryz.prog) w b Tryz.underlying26 Tryz.underlying238 hi hcmp hj
  have hty := run_eql_iface_types (P := Tryz.prog) 87 238 (.pointer (some ⟨pb, 0, none⟩)) (.pointer (some b)) Tryz.underlying26 (by decide) w
  go_enter Tryz.func69, Tryz.ntmps69
  go_wp2
  refine wp_loop_rounds 2 ?_
  rw [rounds_succ]
  go_wp2
  rw [rounds_succ]
  go_wp2
  go_ret
  exact ⟨rfl, rfl⟩

set_option maxHeartbeats 1000000 in
theorem is_fault_other (pb : Nat) (b a : Addr) (ca cb : Array Value) (ta tb : TypeId) (w : World) (h1 : w.cell? ⟨pb, 1, none⟩ = some (.iface 238 (.pointer (some a)))) (hne : a ≠ b) (ha : w.heap[a.block]? = some (.cells ca ta (0, 0))) (hb : w.heap[b.block]? = some (.cells cb tb (0, 0))) :
    Calls Tryz.prog 69 #[.iface 87 (.pointer (some ⟨pb, 0, none⟩)), .iface 238 (.pointer (some b))] w fun e w' => e = .returned (.bool false) ∧ w' = w := by
  obtain ⟨i, hi, hcmp⟩ := Option.map_eq_some_iff.1 compE
  obtain ⟨j, hj, hjs⟩ := Option.map_eq_some_iff.1 sizeE
  have h8 := @run_callFunc_extern Tryz.prog 99 _ ReflectliteType.typeOf Tryz.func99 (by kernel_rfl) (by kernel_rfl) (by kernel_rfl) (by kernel_rfl)
  obtain ⟨ent, hent, cT⟩ := cmp_entry
  have h9 := @run_callFunc_extern Tryz.prog 207 _ ent Tryz.func207 (by kernel_rfl) (by kernel_rfl) (by kernel_rfl) hent
  clear hent
  have tT := typeOfE
  have mR := methodComparable
  have nE := noIsE
  have uE := noUnwrapE
  have vE := noUnwrapsE
  have nW := noIsF
  have uW := hasUnwrapF
  have mU := methodUnwrap
  have heq := run_eql_iface_ptr_other (P := Tryz.prog) w Tryz.underlying26 Tryz.underlying238 hi hcmp hj (by rw [hjs]; decide) hne ha hb
  have hty := run_eql_iface_types (P := Tryz.prog) 87 238 (.pointer (some ⟨pb, 0, none⟩)) (.pointer (some b)) Tryz.underlying26 (by decide) w
  go_enter Tryz.func69, Tryz.ntmps69
  go_wp2
  refine wp_loop_rounds 2 ?_
  rw [rounds_succ]
  go_wp2
  rw [rounds_succ]
  go_wp2
  go_ret
  exact ⟨rfl, rfl⟩
end Go.Proofs.YtboigdpcahdidabGreatDoor

/- What errors.As answers at a target of type **api.Fault: a Fault is found, and stored; of another error nothing is found. -/
namespace Go.Proofs.YtboigdpcahdidabGreatDoor
open Go.RowKit Go.Extern.Stop Go.Stop Go.Extern

theorem valueOfT (t : Addr) (w : World) : (ReflectliteValue.unpack (.iface 123 (.pointer (some t)))).run Tryz.prog w
    = .ok (.agg #[.pointer (some ⟨18, 123, none⟩), .pointer (some ⟨w.heap.size, 0, none⟩), .int .u64 150]) (w.alloc (.cells #[.pointer (some t)] 123)) := by kernel_rfl
theorem typeT_fact (a : Addr) (w : World) : ((find Tryz.f96).map fun e => (e #[.agg #[.pointer (some ⟨18, 123, none⟩), .pointer (some a), .int .u64 150]]).run Tryz.prog w)
    = some (.ok (.iface 183 (.agg #[.pointer (some ⟨18, 123, none⟩)])) w) := by kernel_rfl
theorem typeT_entry : ∃ e, find Tryz.f96 = some e ∧ ∀ a w, (e #[.agg #[.pointer (some ⟨18, 123, none⟩), .pointer (some a), .int .u64 150]]).run Tryz.prog w = .ok (.iface 183 (.agg #[.pointer (some ⟨18, 123, none⟩)])) w := by
  cases h : find Tryz.f96 with
  | none => have := typeT_fact default default; rw [h] at this; cases this
  | some e => exact ⟨e, rfl, fun a w => by have := typeT_fact a w; rw [h] at this; exact Option.some.inj this⟩
theorem methodKind (h : Value) (w : World) : (Go.method 372 183 (.agg #[h]) "Kind").run Tryz.prog w = .ok (196, h) w := by kernel_rfl
theorem kind_fact (w : World) : ((find Tryz.f196).map fun e => ((e #[.pointer (some ⟨18, 123, none⟩)]).run Tryz.prog w, (e #[.pointer (some ⟨18, 87, none⟩)]).run Tryz.prog w)) = some (.ok (.int .u8 22) w, .ok (.int .u8 22) w) := by kernel_rfl
theorem kind_entry : ∃ e, find Tryz.f196 = some e ∧ (∀ w, (e #[.pointer (some ⟨18, 123, none⟩)]).run Tryz.prog w = .ok (.int .u8 22) w) ∧ ∀ w, (e #[.pointer (some ⟨18, 87, none⟩)]).run Tryz.prog w = .ok (.int .u8 22) w := by
  cases h : find Tryz.f196 with
  | none => have := kind_fact default; rw [h] at this; cases this
  | some e =>
    have k : ∀ w, ((e #[.pointer (some ⟨18, 123, none⟩)]).run Tryz.prog w, (e #[.pointer (some ⟨18, 87, none⟩)]).run Tryz.prog w) = (.ok (.int .u8 22) w, .ok (.int .u8 22) w) := fun w => by
      have := kind_fact w; rw [h] at this; exact Option.some.inj this
    exact ⟨e, rfl, fun w => congrArg Prod.fst (k w), fun w => congrArg Prod.snd (k w)⟩
theorem partsT (a : Addr) (w : World) : (ReflectliteValue.parts (.agg #[.pointer (some ⟨18, 123, none⟩), .pointer (some a), .int .u64 150])).run Tryz.prog w = .ok (some (123, a, 150)) w := by kernel_rfl
theorem isNilT (a p : Addr) (W : World) (ha : W.cell? a = some (.pointer (some p))) :
    (ReflectliteValue.method (ReflectliteValue.valueError "reflectlite.Value.IsNil" 0) ReflectliteValue.isNil #[.agg #[.pointer (some ⟨18, 123, none⟩), .pointer (some a), .int .u64 150]]).run Tryz.prog W = .ok (.bool false) W := by
  delta ReflectliteValue.method ReflectliteValue.method.match_2
  simp [Array.getLit, partsT, ReflectliteValue.isNil, loadVar, isAgg, underlying, Tryz.underlying123, ha, Result.andThen]
theorem methodElem (h : Value) (w : World) : (Go.method 372 183 (.agg #[h]) "Elem").run Tryz.prog w = .ok (208, .agg #[h]) w := by kernel_rfl
theorem methodImplements (h : Value) (w : World) : (Go.method 372 183 (.agg #[h]) "Implements").run Tryz.prog w = .ok (209, .agg #[h]) w := by kernel_rfl
theorem methodAssignableTo (h : Value) (w : World) : (Go.method 372 183 (.agg #[h]) "AssignableTo").run Tryz.prog w = .ok (206, .agg #[h]) w := by kernel_rfl
theorem elemT_fact (w : World) : ((find Tryz.f208).map fun e => (e #[.agg #[.pointer (some ⟨18, 123, none⟩)]]).run Tryz.prog w) = some (.ok (.iface 183 (.agg #[.pointer (some ⟨18, 87, none⟩)])) w) := by kernel_rfl
theorem elemT_entry : ∃ e, find Tryz.f208 = some e ∧ ∀ w, (e #[.agg #[.pointer (some ⟨18, 123, none⟩)]]).run Tryz.prog w = .ok (.iface 183 (.agg #[.pointer (some ⟨18, 87, none⟩)])) w := by
  cases h : find Tryz.f208 with
  | none => have := elemT_fact default; rw [h] at this; cases this
  | some e => exact ⟨e, rfl, fun w => by have := elemT_fact w; rw [h] at this; exact Option.some.inj this⟩
theorem impl_fact (w : World) : ((find Tryz.f209).map fun e => (e #[.agg #[.pointer (some ⟨18, 87, none⟩)], .iface 183 (.agg #[.pointer (some ⟨18, 26, none⟩)])]).run Tryz.prog w) = some (.ok (.bool true) w) := by kernel_rfl
theorem impl_entry : ∃ e, find Tryz.f209 = some e ∧ ∀ w, (e #[.agg #[.pointer (some ⟨18, 87, none⟩)], .iface 183 (.agg #[.pointer (some ⟨18, 26, none⟩)])]).run Tryz.prog w = .ok (.bool true) w := by
  cases h : find Tryz.f209 with
  | none => have := impl_fact default; rw [h] at this; cases this
  | some e => exact ⟨e, rfl, fun w => by have := impl_fact w; rw [h] at this; exact Option.some.inj this⟩
theorem assign_fact (w : World) : ((find Tryz.f206).map fun e => ((e #[.agg #[.pointer (some ⟨18, 87, none⟩)], .iface 183 (.agg #[.pointer (some ⟨18, 87, none⟩)])]).run Tryz.prog w, (e #[.agg #[.pointer (some ⟨18, 238, none⟩)], .iface 183 (.agg #[.pointer (some ⟨18, 87, none⟩)])]).run Tryz.prog w)) = some (.ok (.bool true) w, .ok (.bool false) w) := by kernel_rfl
theorem assign_entry : ∃ e, find Tryz.f206 = some e ∧ (∀ w, (e #[.agg #[.pointer (some ⟨18, 87, none⟩)], .iface 183 (.agg #[.pointer (some ⟨18, 87, none⟩)])]).run Tryz.prog w = .ok (.bool true) w) ∧ ∀ w, (e #[.agg #[.pointer (some ⟨18, 238, none⟩)], .iface 183 (.agg #[.pointer (some ⟨18, 87, none⟩)])]).run Tryz.prog w = .ok (.bool false) w := by
  cases h : find Tryz.f206 with
  | none => have := assign_fact default; rw [h] at this; cases this
  | some e =>
    have k := fun w => by have := assign_fact w; rw [h] at this; exact Option.some.inj this
    exact ⟨e, rfl, fun w => congrArg Prod.fst (k w), fun w => congrArg Prod.snd (k w)⟩
theorem valueOfF (e : Addr) (w : World) : (ReflectliteValue.unpack (.iface 87 (.pointer (some e)))).run Tryz.prog w
    = .ok (.agg #[.pointer (some ⟨18, 87, none⟩), .pointer (some ⟨w.heap.size, 0, none⟩), .int .u64 150]) (w.alloc (.cells #[.pointer (some e)] 87)) := by kernel_rfl
theorem elemOfT (w : World) : (Rtype.elem? 123).run Tryz.prog w = .ok (some 87) w := by kernel_rfl
theorem mkF (p : Addr) (w : World) : (ReflectliteValue.mk 87 p ReflectliteValue.flagAddr).run Tryz.prog w = .ok (.agg #[.pointer (some ⟨18, 87, none⟩), .pointer (some p), .int .u64 406]) w := by kernel_rfl
theorem elemVT (a p : Addr) (W : World) (ha : W.cell? a = some (.pointer (some p))) :
    (ReflectliteValue.method (ReflectliteValue.valueError "reflectlite.Value.Elem" 0) ReflectliteValue.elem #[.agg #[.pointer (some ⟨18, 123, none⟩), .pointer (some a), .int .u64 150]]).run Tryz.prog W
      = .ok (.agg #[.pointer (some ⟨18, 87, none⟩), .pointer (some p), .int .u64 406]) W := by
  delta ReflectliteValue.method ReflectliteValue.method.match_2
  simp [Array.getLit, partsT, ReflectliteValue.elem, loadVar, isAgg, underlying, Tryz.underlying123, ha, Result.andThen, elemOfT, mkF]
theorem partsFa (a : Addr) (w : World) : (ReflectliteValue.parts (.agg #[.pointer (some ⟨18, 87, none⟩), .pointer (some a), .int .u64 406])).run Tryz.prog w = .ok (some (87, a, 406)) w := by kernel_rfl
theorem partsF (a : Addr) (w : World) : (ReflectliteValue.parts (.agg #[.pointer (some ⟨18, 87, none⟩), .pointer (some a), .int .u64 150])).run Tryz.prog w = .ok (some (87, a, 150)) w := by kernel_rfl
theorem directF (w : World) : (Rtype.directlyAssignable 87 87).run Tryz.prog w = .ok true w := by kernel_rfl
theorem setF (ta b e : Addr) (old : Value) (W : World) (hb : W.cell? b = some (.pointer (some e))) (ht : W.cell? ta = some old) (hf : W.frozen? ta = false) :
    (ReflectliteValue.set #[.agg #[.pointer (some ⟨18, 87, none⟩), .pointer (some ta), .int .u64 406], .agg #[.pointer (some ⟨18, 87, none⟩), .pointer (some b), .int .u64 150]]).run Tryz.prog W
      = .ok (.tuple #[]) (W.setCell ta (.pointer (some e))) := by
  delta ReflectliteValue.set ReflectliteValue.set.match_3
  simp [Array.getLit, partsFa, partsF, ReflectliteValue.flagAddr, loadVar, isAgg, underlying, Tryz.underlying87, hb, Result.andThen, directF, storeVar, Value.cells, storeCells, Addr.add]
  rw [run_store Tryz.prog W ta _ _ (by rfl)]
  simp [ht, hf]
end Go.Proofs.YtboigdpcahdidabGreatDoor

/- errors.As at a target of type **api.Fault, by its contracts. -/
namespace Go.Proofs.YtboigdpcahdidabGreatDoor
open Go.RowKit Go.Extern.Stop Go.Stop Go.Extern

theorem lt_of_cell {w : World} {a : Addr} {v : Value} (h : w.cell? a = some v) : a.block < w.heap.size := by
  rcases Nat.lt_or_ge a.block w.heap.size with h' | h'
  · exact h'
  · simp [World.cell?, Array.getElem?_eq_none h'] at h

set_option maxHeartbeats 4000000 in
theorem as_hit (e t : Addr) (old : Value) (w : World) (hg : w.cell? ⟨9, 0, none⟩ = some (.iface 183 (.agg #[.pointer (some ⟨18, 26, none⟩)]))) (ht0 : w.cell? t = some old) (hf0 : w.frozen? t = false) :
    Calls Tryz.prog 68 #[.iface 87 (.pointer (some e)), .iface 123 (.pointer (some t))] w fun ev w' => ev = .returned (.bool true) ∧ w' = ((((w.alloc (.cells #[.pointer (some t)] 123)).alloc (.cells #[.pointer (some ⟨18, 123, none⟩), .pointer (some ⟨w.heap.size, 0, none⟩), .int .u64 150] 151)).alloc (.cells #[.pointer (some ⟨18, 123, none⟩), .pointer (some ⟨w.heap.size, 0, none⟩), .int .u64 150] 151)).alloc (.cells #[.pointer (some e)] 87)).setCell t (.pointer (some e)) := by
  have h6 := @run_callFunc_extern Tryz.prog 95 _ (fun args => ReflectliteValue.unpack (args.getD 0 (.tuple #[]))) Tryz.func95 (by kernel_rfl) (by kernel_rfl) (by kernel_rfl) (by kernel_rfl)
  obtain ⟨e7, he7, f7⟩ := typeT_entry
  have h7 := @run_callFunc_extern Tryz.prog 96 _ e7 Tryz.func96 (by kernel_rfl) (by kernel_rfl) (by kernel_rfl) he7
  have h8 := @run_callFunc_extern Tryz.prog 97 _ (ReflectliteValue.method (ReflectliteValue.valueError "reflectlite.Value.IsNil" 0) ReflectliteValue.isNil) Tryz.func97 (by kernel_rfl) (by kernel_rfl) (by kernel_rfl) (by kernel_rfl)
  obtain ⟨eK, heK, kT, kF⟩ := kind_entry
  have hK := @run_callFunc_extern Tryz.prog 196 _ eK Tryz.func196 (by kernel_rfl) (by kernel_rfl) (by kernel_rfl) heK
  obtain ⟨eE, heE, eT⟩ := elemT_entry
  have hE := @run_callFunc_extern Tryz.prog 208 _ eE Tryz.func208 (by kernel_rfl) (by kernel_rfl) (by kernel_rfl) heE
  obtain ⟨eI, heI, iF⟩ := impl_entry
  have hI := @run_callFunc_extern Tryz.prog 209 _ eI Tryz.func209 (by kernel_rfl) (by kernel_rfl) (by kernel_rfl) heI
  have hO := @run_callFunc_extern Tryz.prog 99 _ ReflectliteType.typeOf Tryz.func99 (by kernel_rfl) (by kernel_rfl) (by kernel_rfl) (by kernel_rfl)
  obtain ⟨eA, heA, aF, _⟩ := assign_entry
  have hA := @run_callFunc_extern Tryz.prog 206 _ eA Tryz.func206 (by kernel_rfl) (by kernel_rfl) (by kernel_rfl) heA
  have h11 := @run_callFunc_extern Tryz.prog 127 _ (ReflectliteValue.method (ReflectliteValue.valueError "reflectlite.Value.Elem" 0) ReflectliteValue.elem) Tryz.func127 (by kernel_rfl) (by kernel_rfl) (by kernel_rfl) (by kernel_rfl)
  have h12 := @run_callFunc_extern Tryz.prog 128 _ ReflectliteValue.set Tryz.func128 (by kernel_rfl) (by kernel_rfl) (by kernel_rfl) (by kernel_rfl)
  clear he7 heK heE heI heA
  have tO := typeOfF
  have mA := methodAssignableTo
  have v25 := valueOfF
  have f6 := valueOfT
  have mK := methodKind
  have mE := methodElem
  have mI := methodImplements
  have n8 := isNilT ⟨w.heap.size, 0, none⟩ t ((w.alloc (.cells #[.pointer (some t)] 123)).alloc (.cells #[.pointer (some ⟨18, 123, none⟩), .pointer (some ⟨w.heap.size, 0, none⟩), .int .u64 150] 151)) (by simp)
  have hlt : 9 < w.heap.size := lt_of_cell hg
  have hg2 : ((w.alloc (.cells #[.pointer (some t)] 123)).alloc (.cells #[.pointer (some ⟨18, 123, none⟩), .pointer (some ⟨w.heap.size, 0, none⟩), .int .u64 150] 151)).cell? ⟨9, 0, none⟩ = some (.iface 183 (.agg #[.pointer (some ⟨18, 26, none⟩)])) := by
    rw [World.cell?_alloc_lt _ _ ⟨9, 0, none⟩ (by simp; omega), World.cell?_alloc_lt _ _ ⟨9, 0, none⟩ hlt]; exact hg
  have htl : t.block < w.heap.size := lt_of_cell ht0
  have el := elemVT ⟨w.heap.size, 0, none⟩ t (((w.alloc (.cells #[.pointer (some t)] 123)).alloc (.cells #[.pointer (some ⟨18, 123, none⟩), .pointer (some ⟨w.heap.size, 0, none⟩), .int .u64 150] 151)).alloc (.cells #[.pointer (some ⟨18, 123, none⟩), .pointer (some ⟨w.heap.size, 0, none⟩), .int .u64 150] 151)) (by rw [World.cell?_alloc_lt _ _ ⟨w.heap.size, 0, none⟩ (by simp; omega)]; simp)
  have st := setF t ⟨w.heap.size + 1 + 1 + 1, 0, none⟩ e old ((((w.alloc (.cells #[.pointer (some t)] 123)).alloc (.cells #[.pointer (some ⟨18, 123, none⟩), .pointer (some ⟨w.heap.size, 0, none⟩), .int .u64 150] 151)).alloc (.cells #[.pointer (some ⟨18, 123, none⟩), .pointer (some ⟨w.heap.size, 0, none⟩), .int .u64 150] 151)).alloc (.cells #[.pointer (some e)] 87))
    (by rw [World.cell?_alloc_at _ _ _ _ (by simp)]; rfl)
    (by rw [World.cell?_alloc_lt _ _ t (by simp; omega), World.cell?_alloc_lt _ _ t (by simp; omega), World.cell?_alloc_lt _ _ t (by simp; omega), World.cell?_alloc_lt _ _ t htl]; exact ht0)
    (by rw [World.frozen?_alloc_old _ _ t (by simp; omega), World.frozen?_alloc_old _ _ t (by simp; omega), World.frozen?_alloc_old _ _ t (by simp; omega), World.frozen?_alloc_old _ _ t (Nat.ne_of_lt htl)]; exact hf0)
  go_enter Tryz.func68, Tryz.ntmps68
  go_wp2
  refine wp_loop_rounds 1 ?_
  rw [rounds_succ]
  go_wp2
  go_ret
  exact ⟨rfl, rfl⟩

set_option maxHeartbeats 4000000 in
theorem as_miss (e t : Addr) (w : World) (hg : w.cell? ⟨9, 0, none⟩ = some (.iface 183 (.agg #[.pointer (some ⟨18, 26, none⟩)]))) :
    Calls Tryz.prog 68 #[.iface 238 (.pointer (some e)), .iface 123 (.pointer (some t))] w fun ev w' => ev = .returned (.bool false) ∧ w' = (((w.alloc (.cells #[.pointer (some t)] 123)).alloc (.cells #[.pointer (some ⟨18, 123, none⟩), .pointer (some ⟨w.heap.size, 0, none⟩), .int .u64 150] 151)).alloc (.cells #[.pointer (some ⟨18, 123, none⟩), .pointer (some ⟨w.heap.size, 0, none⟩), .int .u64 150] 151)) := by
  have h6 := @run_callFunc_extern Tryz.prog 95 _ (fun args => ReflectliteValue.unpack (args.getD 0 (.tuple #[]))) Tryz.func95 (by kernel_rfl) (by kernel_rfl) (by kernel_rfl) (by kernel_rfl)
  obtain ⟨e7, he7, f7⟩ := typeT_entry
  have h7 := @run_callFunc_extern Tryz.prog 96 _ e7 Tryz.func96 (by kernel_rfl) (by kernel_rfl) (by kernel_rfl) he7
  have h8 := @run_callFunc_extern Tryz.prog 97 _ (ReflectliteValue.method (ReflectliteValue.valueError "reflectlite.Value.IsNil" 0) ReflectliteValue.isNil) Tryz.func97 (by kernel_rfl) (by kernel_rfl) (by kernel_rfl) (by kernel_rfl)
  obtain ⟨eK, heK, kT, kF⟩ := kind_entry
  have hK := @run_callFunc_extern Tryz.prog 196 _ eK Tryz.func196 (by kernel_rfl) (by kernel_rfl) (by kernel_rfl) heK
  obtain ⟨eE, heE, eT⟩ := elemT_entry
  have hE := @run_callFunc_extern Tryz.prog 208 _ eE Tryz.func208 (by kernel_rfl) (by kernel_rfl) (by kernel_rfl) heE
  obtain ⟨eI, heI, iF⟩ := impl_entry
  have hI := @run_callFunc_extern Tryz.prog 209 _ eI Tryz.func209 (by kernel_rfl) (by kernel_rfl) (by kernel_rfl) heI
  have hO := @run_callFunc_extern Tryz.prog 99 _ ReflectliteType.typeOf Tryz.func99 (by kernel_rfl) (by kernel_rfl) (by kernel_rfl) (by kernel_rfl)
  obtain ⟨eA, heA, _, aE⟩ := assign_entry
  have hA := @run_callFunc_extern Tryz.prog 206 _ eA Tryz.func206 (by kernel_rfl) (by kernel_rfl) (by kernel_rfl) heA
  clear he7 heK heE heI heA
  have tO := typeOfE
  have mA := methodAssignableTo
  have f6 := valueOfT
  have mK := methodKind
  have mE := methodElem
  have mI := methodImplements
  have nA := noAsE
  have uE := noUnwrapE
  have vE := noUnwrapsE
  have n8 := isNilT ⟨w.heap.size, 0, none⟩ t ((w.alloc (.cells #[.pointer (some t)] 123)).alloc (.cells #[.pointer (some ⟨18, 123, none⟩), .pointer (some ⟨w.heap.size, 0, none⟩), .int .u64 150] 151)) (by simp)
  have hlt : 9 < w.heap.size := lt_of_cell hg
  have hg2 : ((w.alloc (.cells #[.pointer (some t)] 123)).alloc (.cells #[.pointer (some ⟨18, 123, none⟩), .pointer (some ⟨w.heap.size, 0, none⟩), .int .u64 150] 151)).cell? ⟨9, 0, none⟩ = some (.iface 183 (.agg #[.pointer (some ⟨18, 26, none⟩)])) := by
    rw [World.cell?_alloc_lt _ _ ⟨9, 0, none⟩ (by simp; omega), World.cell?_alloc_lt _ _ ⟨9, 0, none⟩ hlt]; exact hg
  go_enter Tryz.func68, Tryz.ntmps68
  go_wp2
  refine wp_loop_rounds 1 ?_
  rw [rounds_succ]
  go_wp2
  go_ret
  exact ⟨rfl, rfl⟩
end Go.Proofs.YtboigdpcahdidabGreatDoor
