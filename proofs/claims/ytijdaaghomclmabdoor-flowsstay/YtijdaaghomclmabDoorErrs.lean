/- What errors.Is and errors.As answer of the errors of package api: a sentinel, a Fault that wraps one, another error. -/
import Derived.Test.YtijdaaghomclmabDoorChecked
import Derived.WalkKit
import Derived.WalkLawsBesides
import Derived.WalkSpells
import Derived.LaidEql
import Derived.Stop.Asserts
import Derived.RowKitTokens
namespace Go.Proofs.YtijdaaghomclmabDoor
open Go.RowKit Go.Extern.Stop Go.Stop Go.Extern

/- closed facts on types -/
theorem compE : (Tryd.prog.info? 242).map (·.comparable) = some true := by kernel_rfl
theorem sizeE : (Tryd.prog.info? 263).map (·.size) = some 1 := by kernel_rfl
theorem typeOfE (v : Value) (w : World) : (ReflectliteType.typeOf #[.iface 242 v]).run Tryd.prog w = .ok (.iface 217 (.agg #[.pointer (some ⟨10, 242, none⟩)])) w := by kernel_rfl
theorem typeOfF (v : Value) (w : World) : (ReflectliteType.typeOf #[.iface 154 v]).run Tryd.prog w = .ok (.iface 217 (.agg #[.pointer (some ⟨10, 154, none⟩)])) w := by kernel_rfl
theorem cmp_fact (w : World) : ((find Tryd.f192).map fun e => (e #[.agg #[.pointer (some ⟨10, 242, none⟩)]]).run Tryd.prog w) = some (.ok (.bool true) w) := by kernel_rfl
theorem cmp_entry : ∃ e, find Tryd.f192 = some e ∧ ∀ w, (e #[.agg #[.pointer (some ⟨10, 242, none⟩)]]).run Tryd.prog w = .ok (.bool true) w := by
  cases h : find Tryd.f192 with
  | none => have := cmp_fact default; rw [h] at this; cases this
  | some e => exact ⟨e, rfl, fun w => by have := cmp_fact w; rw [h] at this; exact Option.some.inj this⟩
theorem methodComparable (v : Value) (w : World) : (Go.method 374 217 v "Comparable").run Tryd.prog w = .ok (192, v) w := by kernel_rfl
theorem noIsE (v : Value) (xT : TypeId) (w : World) : (Instr.typeAssert (.iface 242 v) xT 228 true).run Tryd.prog w = .ok (.tuple #[.nilIface, .bool false]) w := run_typeAssert_lacksB Tryd.underlying228 (by kernel_rfl) (by kernel_rfl) v xT w
theorem noAsE (v : Value) (xT : TypeId) (w : World) : (Instr.typeAssert (.iface 242 v) xT 221 true).run Tryd.prog w = .ok (.tuple #[.nilIface, .bool false]) w := run_typeAssert_lacksB Tryd.underlying221 (by kernel_rfl) (by kernel_rfl) v xT w
theorem noUnwrapE (v : Value) (xT : TypeId) (w : World) : (Instr.typeAssert (.iface 242 v) xT 224 true).run Tryd.prog w = .ok (.tuple #[.nilIface, .bool false]) w := run_typeAssert_lacksB Tryd.underlying224 (by kernel_rfl) (by kernel_rfl) v xT w
theorem noUnwrapsE (v : Value) (xT : TypeId) (w : World) : (Instr.typeAssert (.iface 242 v) xT 226 true).run Tryd.prog w = .ok (.tuple #[.nilIface, .bool false]) w := run_typeAssert_lacksB Tryd.underlying226 (by kernel_rfl) (by kernel_rfl) v xT w
theorem noIsF (v : Value) (xT : TypeId) (w : World) : (Instr.typeAssert (.iface 154 v) xT 228 true).run Tryd.prog w = .ok (.tuple #[.nilIface, .bool false]) w := run_typeAssert_lacksB Tryd.underlying228 (by kernel_rfl) (by kernel_rfl) v xT w
theorem hasUnwrapF (v : Value) (xT : TypeId) (w : World) : (Instr.typeAssert (.iface 154 v) xT 224 true).run Tryd.prog w = .ok (.tuple #[.iface 154 v, .bool true]) w := run_typeAssert_hasB Tryd.underlying224 (by kernel_rfl) v xT w
theorem methodUnwrap (v : Value) (w : World) : (Go.method 374 154 v "Unwrap").run Tryd.prog w = .ok (186, v) w := by kernel_rfl

set_option maxHeartbeats 1000000 in
theorem is_same (a : Addr) (w : World) :
    Calls Tryd.prog 99 #[.iface 242 (.pointer (some a)), .iface 242 (.pointer (some a))] w fun e w' => e = .returned (.bool true) ∧ w' = w := by
  obtain ⟨i, hi, hcmp⟩ := Option.map_eq_some_iff.1 compE
  obtain ⟨j, hj, hjs⟩ := Option.map_eq_some_iff.1 sizeE
  have h8 := @run_callFunc_extern Tryd.prog 131 _ ReflectliteType.typeOf Tryd.func131 (by kernel_rfl) (by kernel_rfl) (by kernel_rfl) (by kernel_rfl)
  obtain ⟨ent, hent, cT⟩ := cmp_entry
  have h9 := @run_callFunc_extern Tryd.prog 192 _ ent Tryd.func192 (by kernel_rfl) (by kernel_rfl) (by kernel_rfl) hent
  clear hent
  have tT := typeOfE
  have mR := methodComparable
  have heq := run_eql_iface_ptr_same (P := Tryd.prog) w a Tryd.underlying26 Tryd.underlying242 hi hcmp hj
  go_enter Tryd.func99, Tryd.ntmps99
  go_wp2
  refine wp_loop_rounds 1 ?_
  rw [rounds_succ]
  go_wp2
  go_ret
  exact ⟨rfl, rfl⟩

set_option maxHeartbeats 1000000 in
theorem is_other (a b : Addr) (ca cb : Array Value) (ta tb : TypeId) (w : World) (hne : a ≠ b) (ha : w.heap[a.block]? = some (.cells ca ta (0, 0))) (hb : w.heap[b.block]? = some (.cells cb tb (0, 0))) :
    Calls Tryd.prog 99 #[.iface 242 (.pointer (some a)), .iface 242 (.pointer (some b))] w fun e w' => e = .returned (.bool false) ∧ w' = w := by
  obtain ⟨i, hi, hcmp⟩ := Option.map_eq_some_iff.1 compE
  obtain ⟨j, hj, hjs⟩ := Option.map_eq_some_iff.1 sizeE
  have h8 := @run_callFunc_extern Tryd.prog 131 _ ReflectliteType.typeOf Tryd.func131 (by kernel_rfl) (by kernel_rfl) (by kernel_rfl) (by kernel_rfl)
  obtain ⟨ent, hent, cT⟩ := cmp_entry
  have h9 := @run_callFunc_extern Tryd.prog 192 _ ent Tryd.func192 (by kernel_rfl) (by kernel_rfl) (by kernel_rfl) hent
  clear hent
  have tT := typeOfE
  have mR := methodComparable
  have nE := noIsE
  have uE := noUnwrapE
  have vE := noUnwrapsE
  have heq := run_eql_iface_ptr_other (P := Tryd.prog) w Tryd.underlying26 Tryd.underlying242 hi hcmp hj (by rw [hjs]; decide) hne ha hb
  go_enter Tryd.func99, Tryd.ntmps99
  go_wp2
  refine wp_loop_rounds 1 ?_
  rw [rounds_succ]
  go_wp2
  go_ret
  exact ⟨rfl, rfl⟩

set_option maxHeartbeats 1000000 in
theorem is_fault_same (pb : Nat) (b : Addr) (w : World) (h1 : w.cell? ⟨pb, 1, none⟩ = some (.iface 242 (.pointer (some b)))) :
    Calls Tryd.prog 99 #[.iface 154 (.pointer (some ⟨pb, 0, none⟩)), .iface 242 (.pointer (some b))] w fun e w' => e = .returned (.bool true) ∧ w' = w := by
  obtain ⟨i, hi, hcmp⟩ := Option.map_eq_some_iff.1 compE
  obtain ⟨j, hj, hjs⟩ := Option.map_eq_some_iff.1 sizeE
  have h8 := @run_callFunc_extern Tryd.prog 131 _ ReflectliteType.typeOf Tryd.func131 (by kernel_rfl) (by kernel_rfl) (by kernel_rfl) (by kernel_rfl)
  obtain ⟨ent, hent, cT⟩ := cmp_entry
  have h9 := @run_callFunc_extern Tryd.prog 192 _ ent Tryd.func192 (by kernel_rfl) (by kernel_rfl) (by kernel_rfl) hent
  clear hent
  have tT := typeOfE
  have mR := methodComparable
  have nW := noIsF
  have uW := hasUnwrapF
  have mU := methodUnwrap
  have heq := run_eql_iface_ptr_same (P := Tryd.prog) w b Tryd.underlying26 Tryd.underlying242 hi hcmp hj
  have hty := run_eql_iface_types (P := Tryd.prog) 154 242 (.pointer (some ⟨pb, 0, none⟩)) (.pointer (some b)) Tryd.underlying26 (by decide) w
  go_enter Tryd.func99, Tryd.ntmps99
  go_wp2
  refine wp_loop_rounds 2 ?_
  rw [rounds_succ]
  go_wp2
  rw [rounds_succ]
  go_wp2
  go_ret
  exact ⟨rfl, rfl⟩

set_option maxHeartbeats 1000000 in
theorem is_fault_other (pb : Nat) (b a : Addr) (ca cb : Array Value) (ta tb : TypeId) (w : World) (h1 : w.cell? ⟨pb, 1, none⟩ = some (.iface 242 (.pointer (some a)))) (hne : a ≠ b) (ha : w.heap[a.block]? = some (.cells ca ta (0, 0))) (hb : w.heap[b.block]? = some (.cells cb tb (0, 0))) :
    Calls Tryd.prog 99 #[.iface 154 (.pointer (some ⟨pb, 0, none⟩)), .iface 242 (.pointer (some b))] w fun e w' => e = .returned (.bool false) ∧ w' = w := by
  obtain ⟨i, hi, hcmp⟩ := Option.map_eq_some_iff.1 compE
  obtain ⟨j, hj, hjs⟩ := Option.map_eq_some_iff.1 sizeE
  have h8 := @run_callFunc_extern Tryd.prog 131 _ ReflectliteType.typeOf Tryd.func131 (by kernel_rfl) (by kernel_rfl) (by kernel_rfl) (by kernel_rfl)
  obtain ⟨ent, hent, cT⟩ := cmp_entry
  have h9 := @run_callFunc_extern Tryd.prog 192 _ ent Tryd.func192 (by kernel_rfl) (by kernel_rfl) (by kernel_rfl) hent
  clear hent
  have tT := typeOfE
  have mR := methodComparable
  have nE := noIsE
  have uE := noUnwrapE
  have vE := noUnwrapsE
  have nW := noIsF
  have uW := hasUnwrapF
  have mU := methodUnwrap
  have heq := run_eql_iface_ptr_other (P := Tryd.prog) w Tryd.underlying26 Tryd.underlying242 hi hcmp hj (by rw [hjs]; decide) hne ha hb
  have hty := run_eql_iface_types (P := Tryd.prog) 154 242 (.pointer (some ⟨pb, 0, none⟩)) (.pointer (some b)) Tryd.underlying26 (by decide) w
  go_enter Tryd.func99, Tryd.ntmps99
  go_wp2
  refine wp_loop_rounds 2 ?_
  rw [rounds_succ]
  go_wp2
  rw [rounds_succ]
  go_wp2
  go_ret
  exact ⟨rfl, rfl⟩
end Go.Proofs.YtijdaaghomclmabDoor
