/- What errors.Is and errors.As answer of the errors of package api: a sentinel, a Fault that wraps one, another error. -/
import Derived.Test.YtjeicikflkjacaaGreatDoorProg
import Derived.WalkKit
import Derived.WalkLawsBesides
import Derived.WalkSpells
import Derived.LaidEql
import Derived.Stop.Asserts
import Derived.RowKitTokens
import Derived.Test.YtjeicikflkjacaaGreatDoorRows
import Derived.ProofKit
import Derived.LaidMore
import Derived.OpenShut
import Derived.Stop.Joined
import Derived.Stop.LaidErr
import Derived.LaidLaws
import Derived.LaidHandle
import Derived.Deep.QuietTactic
import Derived.BigQuiet
import Derived.Laws.AppendOwnNone
import Derived.Laws.CopyOwn
namespace Go.Proofs.YtjeicikflkjacaaGreatDoor
open Go.RowKit Go.Extern.Stop Go.Stop Go.Extern
/- closed facts on types -/
theorem compE:(Tryz.prog.info? 179).map (·.comparable)=some true:=by kernel_rfl
theorem sizeE:(Tryz.prog.info? 200).map (·.size)=some 1:=by kernel_rfl
theorem typeOfE (v:Value)(w:World):(ReflectliteType.typeOf #[.iface 179 v]).run Tryz.prog w=.ok (.iface 139 (.agg #[.pointer (some ⟨10,179,none⟩)])) w:=by kernel_rfl
theorem typeOfF (v:Value)(w:World):(ReflectliteType.typeOf #[.iface 66 v]).run Tryz.prog w=.ok (.iface 139 (.agg #[.pointer (some ⟨10,66,none⟩)])) w:=by kernel_rfl
theorem cmp_fact (w:World):((find Tryz.f134).map fun e=>(e #[.agg #[.pointer (some ⟨10,179,none⟩)]]).run Tryz.prog w)=some (.ok (.bool true) w):=by kernel_rfl
theorem cmp_entry:∃e,find Tryz.f134=some e∧∀w,(e #[.agg #[.pointer (some ⟨10,179,none⟩)]]).run Tryz.prog w=.ok (.bool true) w:=by
 cases h:find Tryz.f134 with
 | none=>have:=cmp_fact default;rw[h] at this;cases this
 | some e=>exact⟨e,rfl,fun w=>by have:=cmp_fact w;rw[h] at this;exact Option.some.inj this⟩
theorem methodComparable (v : Value) (w : World) : (Go.method 312 139 v "Comparable").run Tryz.prog w = .ok (134, v) w := by kernel_rfl
theorem noIsE (v:Value)(xT:TypeId)(w:World):(Instr.typeAssert (.iface 179 v) xT 150 true).run Tryz.prog w=.ok (.tuple #[.nilIface,.bool false]) w:=run_typeAssert_lacksB Tryz.underlying150 (by kernel_rfl) (by kernel_rfl) v xT w
theorem noAsE (v:Value)(xT:TypeId)(w:World):(Instr.typeAssert (.iface 179 v) xT 143 true).run Tryz.prog w=.ok (.tuple #[.nilIface,.bool false]) w:=run_typeAssert_lacksB Tryz.underlying143 (by kernel_rfl) (by kernel_rfl) v xT w
theorem noUnwrapE (v:Value)(xT:TypeId)(w:World):(Instr.typeAssert (.iface 179 v) xT 146 true).run Tryz.prog w=.ok (.tuple #[.nilIface,.bool false]) w:=run_typeAssert_lacksB Tryz.underlying146 (by kernel_rfl) (by kernel_rfl) v xT w
theorem noUnwrapsE (v:Value)(xT:TypeId)(w:World):(Instr.typeAssert (.iface 179 v) xT 148 true).run Tryz.prog w=.ok (.tuple #[.nilIface,.bool false]) w:=run_typeAssert_lacksB Tryz.underlying148 (by kernel_rfl) (by kernel_rfl) v xT w
theorem noIsF (v:Value)(xT:TypeId)(w:World):(Instr.typeAssert (.iface 66 v) xT 150 true).run Tryz.prog w=.ok (.tuple #[.nilIface,.bool false]) w:=run_typeAssert_lacksB Tryz.underlying150 (by kernel_rfl) (by kernel_rfl) v xT w
theorem hasUnwrapF (v:Value)(xT:TypeId)(w:World):(Instr.typeAssert (.iface 66 v) xT 146 true).run Tryz.prog w=.ok (.tuple #[.iface 66 v,.bool true]) w:=run_typeAssert_hasB Tryz.underlying146 (by kernel_rfl) v xT w
theorem methodUnwrap (v : Value) (w : World) : (Go.method 312 66 v "Unwrap").run Tryz.prog w = .ok (128, v) w := by kernel_rfl
set_option maxHeartbeats 1000000 in
theorem is_same (a:Addr)(w:World) :
  Calls Tryz.prog 39 #[.iface 179 (.pointer (some a)),.iface 179 (.pointer (some a))] w fun e w'=>e=.returned (.bool true)∧w'=w:=by
 obtain⟨i,hi,hcmp⟩:=Option.map_eq_some_iff.1 compE
 obtain⟨j,hj,hjs⟩:=Option.map_eq_some_iff.1 sizeE
 have h8:=@run_callFunc_extern Tryz.prog 55 _ ReflectliteType.typeOf Tryz.func55 (by kernel_rfl) (by kernel_rfl) (by kernel_rfl) (by kernel_rfl)
 obtain⟨ent,hent,cT⟩:=cmp_entry
 have h9:=@run_callFunc_extern Tryz.prog 134 _ ent Tryz.func134 (by kernel_rfl) (by kernel_rfl) (by kernel_rfl) hent
 clear hent
 have tT:=typeOfE
 have mR:=methodComparable
 have heq:=run_eql_iface_ptr_same (P:=Tryz.prog) w a Tryz.underlying29 Tryz.underlying179 hi hcmp hj
 go_enter Tryz.func39,Tryz.ntmps39
 go_wp2
 refine wp_loop_rounds 1 ?_
 rw[rounds_succ]
 go_wp2
 go_ret
 exact⟨rfl,rfl⟩
set_option maxHeartbeats 1000000 in
theorem is_other (a b:Addr)(ca cb:Array Value)(ta tb:TypeId)(w:World)(hne:a≠b)(ha:w.heap[a.block]?=some (.cells ca ta (0,0)))(hb:w.heap[b.block]?=some (.cells cb tb (0,0))) :
  Calls Tryz.prog 39 #[.iface 179 (.pointer (some a)),.iface 179 (.pointer (some b))] w fun e w'=>e=.returned (.bool false)∧w'=w:=by
 obtain⟨i,hi,hcmp⟩:=Option.map_eq_some_iff.1 compE
 obtain⟨j,hj,hjs⟩:=Option.map_eq_some_iff.1 sizeE
 have h8:=@run_callFunc_extern Tryz.prog 55 _ ReflectliteType.typeOf Tryz.func55 (by kernel_rfl) (by kernel_rfl) (by kernel_rfl) (by kernel_rfl)
 obtain⟨ent,hent,cT⟩:=cmp_entry
 have h9:=@run_callFunc_extern Tryz.prog 134 _ ent Tryz.func134 (by kernel_rfl) (by kernel_rfl) (by kernel_rfl) hent
 clear hent
 have tT:=typeOfE
 have mR:=methodComparable
 have nE:=noIsE
 have uE:=noUnwrapE
 have vE:=noUnwrapsE
 have heq:=run_eql_iface_ptr_other (P:=Tryz.prog) w Tryz.underlying29 Tryz.underlying179 hi hcmp hj (by rw[hjs];decide) hne ha hb
 go_enter Tryz.func39,Tryz.ntmps39
 go_wp2
 refine wp_loop_rounds 1 ?_
 rw[rounds_succ]
 go_wp2
 go_ret
 exact⟨rfl,rfl⟩
set_option maxHeartbeats 1000000 in
theorem is_fault_same (pb:Nat)(b:Addr)(w:World)(h1:w.cell? ⟨pb,1,none⟩=some (.iface 179 (.pointer (some b)))) :
  Calls Tryz.prog 39 #[.iface 66 (.pointer (some ⟨pb,0,none⟩)),.iface 179 (.pointer (some b))] w fun e w'=>e=.returned (.bool true)∧w'=w:=by
 obtain⟨i,hi,hcmp⟩:=Option.map_eq_some_iff.1 compE
 obtain⟨j,hj,hjs⟩:=Option.map_eq_some_iff.1 sizeE
 have h8:=@run_callFunc_extern Tryz.prog 55 _ ReflectliteType.typeOf Tryz.func55 (by kernel_rfl) (by kernel_rfl) (by kernel_rfl) (by kernel_rfl)
 obtain⟨ent,hent,cT⟩:=cmp_entry
 have h9:=@run_callFunc_extern Tryz.prog 134 _ ent Tryz.func134 (by kernel_rfl) (by kernel_rfl) (by kernel_rfl) hent
 clear hent
 have tT:=typeOfE
 have mR:=methodComparable
 have nW:=noIsF
 have uW:=hasUnwrapF
 have mU:=methodUnwrap
 have heq:=run_eql_iface_ptr_same (P:=Tryz.prog) w b Tryz.underlying29 Tryz.underlying179 hi hcmp hj
 have hty:=run_eql_iface_types (P:=Tryz.prog) 66 179 (.pointer (some ⟨pb,0,none⟩)) (.pointer (some b)) Tryz.underlying29 (by decide) w
 go_enter Tryz.func39,Tryz.ntmps39
 go_wp2
 refine wp_loop_rounds 2 ?_
 rw[rounds_succ]
 go_wp2
 rw[rounds_succ]
 go_wp2
 go_ret
 exact⟨rfl,rfl⟩
set_option maxHeartbeats 1000000 in
theorem is_fault_other (pb:Nat)(b a:Addr)(ca cb:Array Value)(ta tb:TypeId)(w:World)(h1:w.cell? ⟨pb,1,none⟩=some (.iface 179 (.pointer (some a))))(hne:a≠b)(ha:w.heap[a.block]?=some (.cells ca ta (0,0)))(hb:w.heap[b.block]?=some (.cells cb tb (0,0))) :
  Calls Tryz.prog 39 #[.iface 66 (.pointer (some ⟨pb,0,none⟩)),.iface 179 (.pointer (some b))] w fun e w'=>e=.returned (.bool false)∧w'=w:=by
 obtain⟨i,hi,hcmp⟩:=Option.map_eq_some_iff.1 compE
 obtain⟨j,hj,hjs⟩:=Option.map_eq_some_iff.1 sizeE
 have h8:=@run_callFunc_extern Tryz.prog 55 _ ReflectliteType.typeOf Tryz.func55 (by kernel_rfl) (by kernel_rfl) (by kernel_rfl) (by kernel_rfl)
 obtain⟨ent,hent,cT⟩:=cmp_entry
 have h9:=@run_callFunc_extern Tryz.prog 134 _ ent Tryz.func134 (by kernel_rfl) (by kernel_rfl) (by kernel_rfl) hent
 clear hent
 have tT:=typeOfE
 have mR:=methodComparable
 have nE:=noIsE
 have uE:=noUnwrapE
 have vE:=noUnwrapsE
 have nW:=noIsF
 have uW:=hasUnwrapF
 have mU:=methodUnwrap
 have heq:=run_eql_iface_ptr_other (P:=Tryz.prog) w Tryz.underlying29 Tryz.underlying179 hi hcmp hj (by rw[hjs];decide) hne ha hb
 have hty:=run_eql_iface_types (P:=Tryz.prog) 66 179 (.pointer (some ⟨pb,0,none⟩)) (.pointer (some b)) Tryz.underlying29 (by decide) w
 go_enter Tryz.func39,Tryz.ntmps39
 go_wp2
 refine wp_loop_rounds 2 ?_
 rw[rounds_succ]
 go_wp2
 rw[rounds_succ]
 go_wp2
 go_ret
 exact⟨rfl,rfl⟩
end Go.Proofs.YtjeicikflkjacaaGreatDoor

/- What errors.As answers at a target of type **api.Fault: a Fault is found, and stored; of another error nothing is found. -/
namespace Go.Proofs.YtjeicikflkjacaaGreatDoor
open Go.RowKit Go.Extern.Stop Go.Stop Go.Extern
theorem valueOfT (t:Addr)(w:World):(ReflectliteValue.unpack (.iface 78 (.pointer (some t)))).run Tryz.prog w
  = .ok (.agg #[.pointer (some ⟨10,78,none⟩),.pointer (some ⟨w.heap.size,0,none⟩),.int .u64 150]) (w.alloc (.cells #[.pointer (some t)] 78)):=by kernel_rfl
theorem typeT_fact (a:Addr)(w:World):((find Tryz.f52).map fun e=>(e #[.agg #[.pointer (some ⟨10,78,none⟩),.pointer (some a),.int .u64 150]]).run Tryz.prog w)
  = some (.ok (.iface 139 (.agg #[.pointer (some ⟨10,78,none⟩)])) w):=by kernel_rfl
theorem typeT_entry:∃e,find Tryz.f52=some e∧∀a w,(e #[.agg #[.pointer (some ⟨10,78,none⟩),.pointer (some a),.int .u64 150]]).run Tryz.prog w=.ok (.iface 139 (.agg #[.pointer (some ⟨10,78,none⟩)])) w:=by
 cases h:find Tryz.f52 with
 | none=>have:=typeT_fact default default;rw[h] at this;cases this
 | some e=>exact⟨e,rfl,fun a w=>by have:=typeT_fact a w;rw[h] at this;exact Option.some.inj this⟩
theorem methodKind (h : Value) (w : World) : (Go.method 312 139 (.agg #[h]) "Kind").run Tryz.prog w = .ok (124, h) w := by kernel_rfl
theorem kind_fact (w:World):((find Tryz.f124).map fun e=>((e #[.pointer (some ⟨10,78,none⟩)]).run Tryz.prog w,(e #[.pointer (some ⟨10,66,none⟩)]).run Tryz.prog w))=some (.ok (.int .u8 22) w,.ok (.int .u8 22) w):=by kernel_rfl
theorem kind_entry:∃e,find Tryz.f124=some e∧(∀w,(e #[.pointer (some ⟨10,78,none⟩)]).run Tryz.prog w=.ok (.int .u8 22) w)∧∀w,(e #[.pointer (some ⟨10,66,none⟩)]).run Tryz.prog w=.ok (.int .u8 22) w:=by
 cases h:find Tryz.f124 with
 | none=>have:=kind_fact default;rw[h] at this;cases this
 | some e =>
  have k:∀w,((e #[.pointer (some ⟨10,78,none⟩)]).run Tryz.prog w,(e #[.pointer (some ⟨10,66,none⟩)]).run Tryz.prog w)=(.ok (.int .u8 22) w,.ok (.int .u8 22) w):=fun w=>by
   have:=kind_fact w;rw[h] at this;exact Option.some.inj this
  exact⟨e,rfl,fun w=>congrArg Prod.fst (k w),fun w=>congrArg Prod.snd (k w)⟩
theorem partsT (a:Addr)(w:World):(ReflectliteValue.parts (.agg #[.pointer (some ⟨10,78,none⟩),.pointer (some a),.int .u64 150])).run Tryz.prog w=.ok (some (78,a,150)) w:=by kernel_rfl
theorem isNilT (a p:Addr)(W:World)(ha:W.cell? a=some (.pointer (some p))) :
  (ReflectliteValue.method (ReflectliteValue.valueError "reflectlite.Value.IsNil" 0) ReflectliteValue.isNil #[.agg #[.pointer (some ⟨10, 78, none⟩), .pointer (some a), .int .u64 150]]).run Tryz.prog W = .ok (.bool false) W := by
 delta ReflectliteValue.method ReflectliteValue.method.match_2
 simp[Array.getLit,partsT,ReflectliteValue.isNil,loadVar,isAgg,underlying,Tryz.underlying78,ha,Result.andThen]
theorem methodElem (h : Value) (w : World) : (Go.method 312 139 (.agg #[h]) "Elem").run Tryz.prog w = .ok (135, .agg #[h]) w := by kernel_rfl
theorem methodImplements (h : Value) (w : World) : (Go.method 312 139 (.agg #[h]) "Implements").run Tryz.prog w = .ok (136, .agg #[h]) w := by kernel_rfl
theorem methodAssignableTo (h : Value) (w : World) : (Go.method 312 139 (.agg #[h]) "AssignableTo").run Tryz.prog w = .ok (133, .agg #[h]) w := by kernel_rfl
theorem elemT_fact (w:World):((find Tryz.f135).map fun e=>(e #[.agg #[.pointer (some ⟨10,78,none⟩)]]).run Tryz.prog w)=some (.ok (.iface 139 (.agg #[.pointer (some ⟨10,66,none⟩)])) w):=by kernel_rfl
theorem elemT_entry:∃e,find Tryz.f135=some e∧∀w,(e #[.agg #[.pointer (some ⟨10,78,none⟩)]]).run Tryz.prog w=.ok (.iface 139 (.agg #[.pointer (some ⟨10,66,none⟩)])) w:=by
 cases h:find Tryz.f135 with
 | none=>have:=elemT_fact default;rw[h] at this;cases this
 | some e=>exact⟨e,rfl,fun w=>by have:=elemT_fact w;rw[h] at this;exact Option.some.inj this⟩
theorem impl_fact (w:World):((find Tryz.f136).map fun e=>(e #[.agg #[.pointer (some ⟨10,66,none⟩)],.iface 139 (.agg #[.pointer (some ⟨10,29,none⟩)])]).run Tryz.prog w)=some (.ok (.bool true) w):=by kernel_rfl
theorem impl_entry:∃e,find Tryz.f136=some e∧∀w,(e #[.agg #[.pointer (some ⟨10,66,none⟩)],.iface 139 (.agg #[.pointer (some ⟨10,29,none⟩)])]).run Tryz.prog w=.ok (.bool true) w:=by
 cases h:find Tryz.f136 with
 | none=>have:=impl_fact default;rw[h] at this;cases this
 | some e=>exact⟨e,rfl,fun w=>by have:=impl_fact w;rw[h] at this;exact Option.some.inj this⟩
theorem assign_fact (w:World):((find Tryz.f133).map fun e=>((e #[.agg #[.pointer (some ⟨10,66,none⟩)],.iface 139 (.agg #[.pointer (some ⟨10,66,none⟩)])]).run Tryz.prog w,(e #[.agg #[.pointer (some ⟨10,179,none⟩)],.iface 139 (.agg #[.pointer (some ⟨10,66,none⟩)])]).run Tryz.prog w))=some (.ok (.bool true) w,.ok (.bool false) w):=by kernel_rfl
theorem assign_entry:∃e,find Tryz.f133=some e∧(∀w,(e #[.agg #[.pointer (some ⟨10,66,none⟩)],.iface 139 (.agg #[.pointer (some ⟨10,66,none⟩)])]).run Tryz.prog w=.ok (.bool true) w)∧∀w,(e #[.agg #[.pointer (some ⟨10,179,none⟩)],.iface 139 (.agg #[.pointer (some ⟨10,66,none⟩)])]).run Tryz.prog w=.ok (.bool false) w:=by
 cases h:find Tryz.f133 with
 | none=>have:=assign_fact default;rw[h] at this;cases this
 | some e =>
  have k:=fun w=>by have:=assign_fact w;rw[h] at this;exact Option.some.inj this
  exact⟨e,rfl,fun w=>congrArg Prod.fst (k w),fun w=>congrArg Prod.snd (k w)⟩
theorem valueOfF (e:Addr)(w:World):(ReflectliteValue.unpack (.iface 66 (.pointer (some e)))).run Tryz.prog w
  = .ok (.agg #[.pointer (some ⟨10,66,none⟩),.pointer (some ⟨w.heap.size,0,none⟩),.int .u64 150]) (w.alloc (.cells #[.pointer (some e)] 66)):=by kernel_rfl
theorem elemOfT (w:World):(Rtype.elem? 78).run Tryz.prog w=.ok (some 66) w:=by kernel_rfl
theorem mkF (p:Addr)(w:World):(ReflectliteValue.mk 66 p ReflectliteValue.flagAddr).run Tryz.prog w=.ok (.agg #[.pointer (some ⟨10,66,none⟩),.pointer (some p),.int .u64 406]) w:=by kernel_rfl
theorem elemVT (a p:Addr)(W:World)(ha:W.cell? a=some (.pointer (some p))) :
  (ReflectliteValue.method (ReflectliteValue.valueError "reflectlite.Value.Elem" 0) ReflectliteValue.elem #[.agg #[.pointer (some ⟨10, 78, none⟩), .pointer (some a), .int .u64 150]]).run Tryz.prog W
   = .ok (.agg #[.pointer (some ⟨10,66,none⟩),.pointer (some p),.int .u64 406]) W:=by
 delta ReflectliteValue.method ReflectliteValue.method.match_2
 simp[Array.getLit,partsT,ReflectliteValue.elem,loadVar,isAgg,underlying,Tryz.underlying78,ha,Result.andThen,elemOfT,mkF]
theorem partsFa (a:Addr)(w:World):(ReflectliteValue.parts (.agg #[.pointer (some ⟨10,66,none⟩),.pointer (some a),.int .u64 406])).run Tryz.prog w=.ok (some (66,a,406)) w:=by kernel_rfl
theorem partsF (a:Addr)(w:World):(ReflectliteValue.parts (.agg #[.pointer (some ⟨10,66,none⟩),.pointer (some a),.int .u64 150])).run Tryz.prog w=.ok (some (66,a,150)) w:=by kernel_rfl
theorem directF (w:World):(Rtype.directlyAssignable 66 66).run Tryz.prog w=.ok true w:=by kernel_rfl
theorem setF (ta b e:Addr)(old:Value)(W:World)(hb:W.cell? b=some (.pointer (some e)))(ht:W.cell? ta=some old)(hf:W.frozen? ta=false) :
  (ReflectliteValue.set #[.agg #[.pointer (some ⟨10,66,none⟩),.pointer (some ta),.int .u64 406],.agg #[.pointer (some ⟨10,66,none⟩),.pointer (some b),.int .u64 150]]).run Tryz.prog W
   = .ok (.tuple #[]) (W.setCell ta (.pointer (some e))):=by
 delta ReflectliteValue.set ReflectliteValue.set.match_3
 simp[Array.getLit,partsFa,partsF,ReflectliteValue.flagAddr,loadVar,isAgg,underlying,Tryz.underlying66,hb,Result.andThen,directF,storeVar,Value.cells,storeCells,Addr.add]
 rw[run_store Tryz.prog W ta _ _ (by rfl)]
 simp[ht,hf]
end Go.Proofs.YtjeicikflkjacaaGreatDoor

/- errors.As at a target of type **api.Fault, by its contracts. -/
namespace Go.Proofs.YtjeicikflkjacaaGreatDoor
open Go.RowKit Go.Extern.Stop Go.Stop Go.Extern
theorem lt_of_cell {w:World}{a:Addr}{v:Value}(h:w.cell? a=some v):a.block<w.heap.size:=by
 rcases Nat.lt_or_ge a.block w.heap.size with h'|h'
 ·exact h'
 ·simp[World.cell?,Array.getElem?_eq_none h'] at h
set_option maxHeartbeats 4000000 in
theorem as_hit (e t:Addr)(old:Value)(w:World)(hg:w.cell? ⟨9,0,none⟩=some (.iface 139 (.agg #[.pointer (some ⟨10,29,none⟩)])))(ht0:w.cell? t=some old)(hf0:w.frozen? t=false) :
  Calls Tryz.prog 38 #[.iface 66 (.pointer (some e)),.iface 78 (.pointer (some t))] w fun ev w'=>ev=.returned (.bool true)∧w'=((((w.alloc (.cells #[.pointer (some t)] 78)).alloc (.cells #[.pointer (some ⟨10,78,none⟩),.pointer (some ⟨w.heap.size,0,none⟩),.int .u64 150] 106)).alloc (.cells #[.pointer (some ⟨10,78,none⟩),.pointer (some ⟨w.heap.size,0,none⟩),.int .u64 150] 106)).alloc (.cells #[.pointer (some e)] 66)).setCell t (.pointer (some e)):=by
 have h6:=@run_callFunc_extern Tryz.prog 51 _ (fun args=>ReflectliteValue.unpack (args.getD 0 (.tuple #[]))) Tryz.func51 (by kernel_rfl) (by kernel_rfl) (by kernel_rfl) (by kernel_rfl)
 obtain⟨e7,he7,f7⟩:=typeT_entry
 have h7:=@run_callFunc_extern Tryz.prog 52 _ e7 Tryz.func52 (by kernel_rfl) (by kernel_rfl) (by kernel_rfl) he7
 have h8 := @run_callFunc_extern Tryz.prog 53 _ (ReflectliteValue.method (ReflectliteValue.valueError "reflectlite.Value.IsNil" 0) ReflectliteValue.isNil) Tryz.func53 (by kernel_rfl) (by kernel_rfl) (by kernel_rfl) (by kernel_rfl)
 obtain⟨eK,heK,kT,kF⟩:=kind_entry
 have hK:=@run_callFunc_extern Tryz.prog 124 _ eK Tryz.func124 (by kernel_rfl) (by kernel_rfl) (by kernel_rfl) heK
 obtain⟨eE,heE,eT⟩:=elemT_entry
 have hE:=@run_callFunc_extern Tryz.prog 135 _ eE Tryz.func135 (by kernel_rfl) (by kernel_rfl) (by kernel_rfl) heE
 obtain⟨eI,heI,iF⟩:=impl_entry
 have hI:=@run_callFunc_extern Tryz.prog 136 _ eI Tryz.func136 (by kernel_rfl) (by kernel_rfl) (by kernel_rfl) heI
 have hO:=@run_callFunc_extern Tryz.prog 55 _ ReflectliteType.typeOf Tryz.func55 (by kernel_rfl) (by kernel_rfl) (by kernel_rfl) (by kernel_rfl)
 obtain⟨eA,heA,aF,_⟩:=assign_entry
 have hA:=@run_callFunc_extern Tryz.prog 133 _ eA Tryz.func133 (by kernel_rfl) (by kernel_rfl) (by kernel_rfl) heA
 have h11 := @run_callFunc_extern Tryz.prog 80 _ (ReflectliteValue.method (ReflectliteValue.valueError "reflectlite.Value.Elem" 0) ReflectliteValue.elem) Tryz.func80 (by kernel_rfl) (by kernel_rfl) (by kernel_rfl) (by kernel_rfl)
 have h12:=@run_callFunc_extern Tryz.prog 81 _ ReflectliteValue.set Tryz.func81 (by kernel_rfl) (by kernel_rfl) (by kernel_rfl) (by kernel_rfl)
 clear he7 heK heE heI heA
 have tO:=typeOfF
 have mA:=methodAssignableTo
 have v25:=valueOfF
 have f6:=valueOfT
 have mK:=methodKind
 have mE:=methodElem
 have mI:=methodImplements
 have n8:=isNilT ⟨w.heap.size,0,none⟩ t ((w.alloc (.cells #[.pointer (some t)] 78)).alloc (.cells #[.pointer (some ⟨10,78,none⟩),.pointer (some ⟨w.heap.size,0,none⟩),.int .u64 150] 106)) (by simp)
 have hlt:9<w.heap.size:=lt_of_cell hg
 have hg2:((w.alloc (.cells #[.pointer (some t)] 78)).alloc (.cells #[.pointer (some ⟨10,78,none⟩),.pointer (some ⟨w.heap.size,0,none⟩),.int .u64 150] 106)).cell? ⟨9,0,none⟩=some (.iface 139 (.agg #[.pointer (some ⟨10,29,none⟩)])):=by
  rw[World.cell?_alloc_lt _ _ ⟨9,0,none⟩ (by simp;omega),World.cell?_alloc_lt _ _ ⟨9,0,none⟩ hlt];exact hg
 have htl:t.block<w.heap.size:=lt_of_cell ht0
 have el:=elemVT ⟨w.heap.size,0,none⟩ t (((w.alloc (.cells #[.pointer (some t)] 78)).alloc (.cells #[.pointer (some ⟨10,78,none⟩),.pointer (some ⟨w.heap.size,0,none⟩),.int .u64 150] 106)).alloc (.cells #[.pointer (some ⟨10,78,none⟩),.pointer (some ⟨w.heap.size,0,none⟩),.int .u64 150] 106)) (by rw[World.cell?_alloc_lt _ _ ⟨w.heap.size,0,none⟩ (by simp;omega)];simp)
 have st:=setF t ⟨w.heap.size+1+1+1,0,none⟩ e old ((((w.alloc (.cells #[.pointer (some t)] 78)).alloc (.cells #[.pointer (some ⟨10,78,none⟩),.pointer (some ⟨w.heap.size,0,none⟩),.int .u64 150] 106)).alloc (.cells #[.pointer (some ⟨10,78,none⟩),.pointer (some ⟨w.heap.size,0,none⟩),.int .u64 150] 106)).alloc (.cells #[.pointer (some e)] 66))
  (by rw[World.cell?_alloc_at _ _ _ _ (by simp)];rfl)
  (by rw[World.cell?_alloc_lt _ _ t (by simp;omega),World.cell?_alloc_lt _ _ t (by simp;omega),World.cell?_alloc_lt _ _ t (by simp;omega),World.cell?_alloc_lt _ _ t htl];exact ht0)
  (by rw[World.frozen?_alloc_old _ _ t (by simp;omega),World.frozen?_alloc_old _ _ t (by simp;omega),World.frozen?_alloc_old _ _ t (by simp;omega),World.frozen?_alloc_old _ _ t (Nat.ne_of_lt htl)];exact hf0)
 go_enter Tryz.func38,Tryz.ntmps38
 go_wp2
 refine wp_loop_rounds 1 ?_
 rw[rounds_succ]
 go_wp2
 go_ret
 exact⟨rfl,rfl⟩
set_option maxHeartbeats 4000000 in
theorem as_miss (e t:Addr)(w:World)(hg:w.cell? ⟨9,0,none⟩=some (.iface 139 (.agg #[.pointer (some ⟨10,29,none⟩)]))) :
  Calls Tryz.prog 38 #[.iface 179 (.pointer (some e)),.iface 78 (.pointer (some t))] w fun ev w'=>ev=.returned (.bool false)∧w'=(((w.alloc (.cells #[.pointer (some t)] 78)).alloc (.cells #[.pointer (some ⟨10,78,none⟩),.pointer (some ⟨w.heap.size,0,none⟩),.int .u64 150] 106)).alloc (.cells #[.pointer (some ⟨10,78,none⟩),.pointer (some ⟨w.heap.size,0,none⟩),.int .u64 150] 106)):=by
 have h6:=@run_callFunc_extern Tryz.prog 51 _ (fun args=>ReflectliteValue.unpack (args.getD 0 (.tuple #[]))) Tryz.func51 (by kernel_rfl) (by kernel_rfl) (by kernel_rfl) (by kernel_rfl)
 obtain⟨e7,he7,f7⟩:=typeT_entry
 have h7:=@run_callFunc_extern Tryz.prog 52 _ e7 Tryz.func52 (by kernel_rfl) (by kernel_rfl) (by kernel_rfl) he7
 have h8 := @run_callFunc_extern Tryz.prog 53 _ (ReflectliteValue.method (ReflectliteValue.valueError "reflectlite.Value.IsNil" 0) ReflectliteValue.isNil) Tryz.func53 (by kernel_rfl) (by kernel_rfl) (by kernel_rfl) (by kernel_rfl)
 obtain⟨eK,heK,kT,kF⟩:=kind_entry
 have hK:=@run_callFunc_extern Tryz.prog 124 _ eK Tryz.func124 (by kernel_rfl) (by kernel_rfl) (by kernel_rfl) heK
 obtain⟨eE,heE,eT⟩:=elemT_entry
 have hE:=@run_callFunc_extern Tryz.prog 135 _ eE Tryz.func135 (by kernel_rfl) (by kernel_rfl) (by kernel_rfl) heE
 obtain⟨eI,heI,iF⟩:=impl_entry
 have hI:=@run_callFunc_extern Tryz.prog 136 _ eI Tryz.func136 (by kernel_rfl) (by kernel_rfl) (by kernel_rfl) heI
 have hO:=@run_callFunc_extern Tryz.prog 55 _ ReflectliteType.typeOf Tryz.func55 (by kernel_rfl) (by kernel_rfl) (by kernel_rfl) (by kernel_rfl)
 obtain⟨eA,heA,_,aE⟩:=assign_entry
 have hA:=@run_callFunc_extern Tryz.prog 133 _ eA Tryz.func133 (by kernel_rfl) (by kernel_rfl) (by kernel_rfl) heA
 clear he7 heK heE heI heA
 have tO:=typeOfE
 have mA:=methodAssignableTo
 have f6:=valueOfT
 have mK:=methodKind
 have mE:=methodElem
 have mI:=methodImplements
 have nA:=noAsE
 have uE:=noUnwrapE
 have vE:=noUnwrapsE
 have n8:=isNilT ⟨w.heap.size,0,none⟩ t ((w.alloc (.cells #[.pointer (some t)] 78)).alloc (.cells #[.pointer (some ⟨10,78,none⟩),.pointer (some ⟨w.heap.size,0,none⟩),.int .u64 150] 106)) (by simp)
 have hlt:9<w.heap.size:=lt_of_cell hg
 have hg2:((w.alloc (.cells #[.pointer (some t)] 78)).alloc (.cells #[.pointer (some ⟨10,78,none⟩),.pointer (some ⟨w.heap.size,0,none⟩),.int .u64 150] 106)).cell? ⟨9,0,none⟩=some (.iface 139 (.agg #[.pointer (some ⟨10,29,none⟩)])):=by
  rw[World.cell?_alloc_lt _ _ ⟨9,0,none⟩ (by simp;omega),World.cell?_alloc_lt _ _ ⟨9,0,none⟩ hlt];exact hg
 go_enter Tryz.func38,Tryz.ntmps38
 go_wp2
 refine wp_loop_rounds 1 ?_
 rw[rounds_succ]
 go_wp2
 go_ret
 exact⟨rfl,rfl⟩
end Go.Proofs.YtjeicikflkjacaaGreatDoor

/- plain.Code: the number and the place of an error. -/
namespace Go.Proofs.YtjeicikflkjacaaGreatDoor
open Go.RowKit Go.Extern.Stop Go.Stop Go.Extern
structure Errs (a:Nat→Addr)(w:World):Prop where
 handle:w.cell? ⟨9,0,none⟩=some (.iface 139 (.agg #[.pointer (some ⟨10,29,none⟩)]))
 s0:w.cell? ⟨3,0,none⟩=some (.iface 179 (.pointer (some (a 0))))
 s1:w.cell? ⟨0,0,none⟩=some (.iface 179 (.pointer (some (a 1))))
 s2:w.cell? ⟨1,0,none⟩=some (.iface 179 (.pointer (some (a 2))))
 s3:w.cell? ⟨4,0,none⟩=some (.iface 179 (.pointer (some (a 3))))
 s4:w.cell? ⟨2,0,none⟩=some (.iface 179 (.pointer (some (a 4))))
 s5:w.cell? ⟨5,0,none⟩=some (.iface 179 (.pointer (some (a 5))))
 s6:w.cell? ⟨6,0,none⟩=some (.iface 179 (.pointer (some (a 6))))
 s7:w.cell? ⟨7,0,none⟩=some (.iface 179 (.pointer (some (a 7))))
 s8:w.cell? ⟨8,0,none⟩=some (.iface 179 (.pointer (some (a 8))))
 row:∀i,i<9→∃c t,w.heap[(a i).block]?=some (.cells c t (0,0))
 ne:∀i j,i<9→j<9→i≠j→a i≠a j
theorem below_cell {w w':World}(hb:Below w.heap.size w w'){p:Addr}{v:Value}(h:w.cell? p=some v):w'.cell? p=some v:=by
 rw[hb.cell (lt_of_cell h)];exact h
theorem Errs.later {a:Nat→Addr}{w w':World}(h:Errs a w)(hb:Below w.heap.size w w'):Errs a w' where
 handle:=below_cell hb h.handle
 s0:=below_cell hb h.s0
 s1:=below_cell hb h.s1
 s2:=below_cell hb h.s2
 s3:=below_cell hb h.s3
 s4:=below_cell hb h.s4
 s5:=below_cell hb h.s5
 s6:=below_cell hb h.s6
 s7:=below_cell hb h.s7
 s8:=below_cell hb h.s8
 row:=fun i hi=>by
  obtain⟨c,t,hc⟩:=h.row i hi
  have hl:(a i).block<w.heap.size:=by
   rcases Nat.lt_or_ge (a i).block w.heap.size with h'|h'
   ·exact h'
   ·rw[Array.getElem?_eq_none h'] at hc;cases hc
  exact⟨c,t,by rw[hb.block _ hl];exact hc⟩
 ne:=h.ne
def codeNum (i:Nat):Int:=if i<9 then (i:Int)+1 else -1
theorem codeNum_lt {i:Nat}(h:i<9):codeNum i=(i:Int)+1:=if_pos h
theorem codeNum_ge {i:Nat}(h:¬i<9):codeNum i = -1:=if_neg h
theorem ret2 {a b c d:Int}(h1:a=b)(h2:c=d):Ending.returned (.tuple #[.int .i64 a,.int .i64 c])=.returned (.tuple #[.int .i64 b,.int .i64 d]):=by rw[h1,h2]
set_option maxHeartbeats 2000000 in
theorem code_core (a:Nat→Addr)(errT:TypeId)(errP:Value)(i:Nat)(pl:Int)(p:Addr)(w:World)(he:Errs a w)
  (hAs:Calls Tryz.prog 38 #[.iface errT errP,.iface 78 (.pointer (some ⟨w.heap.size,0,none⟩))] (w.alloc (.cells #[.pointer none] 66)) fun ev w'=>ev=.returned (.bool true)∧Below w.heap.size w w'∧w'.cell? ⟨w.heap.size,0,none⟩=some (.pointer (some p))∧w.heap.size<w'.heap.size)
  (hat:w.cell? p=some (.int .i64 pl))
  (hIs:∀k,k<9→∀W,Below w.heap.size w W→Calls Tryz.prog 39 #[.iface errT errP,.iface 179 (.pointer (some (a k)))] W fun e w'=>e=.returned (.bool (decide (k=i)))∧w'=W) :
  Calls Tryz.prog 26 #[.iface errT errP] w fun e w'=>e=.returned (.tuple #[.int .i64 (codeNum i),.int .i64 pl])∧Below w.heap.size w w':=by
 have HIs:Hid _:=hIs
 clear hIs
 go_enter Tryz.func26,Tryz.ntmps26
 go_wp2_with fail
 refine hAs.mono ?_
 rintro e w1 ⟨rfl,hb1,hc1,hz1⟩
 have hat1:=below_cell hb1 hat
 obtain⟨hh,s0,s1,s2,s3,s4,s5,s6,s7,s8,hrow,hne⟩:=he.later hb1
 clear hh hrow hne hAs he hat
 go_wp2_with fail
 obtain⟨W2,hW2⟩:∃W2,W2=w1.alloc (.cells #[.iface 179 (.pointer (some (a 0))),.iface 179 (.pointer (some (a 1))),.iface 179 (.pointer (some (a 2))),.iface 179 (.pointer (some (a 3))),.iface 179 (.pointer (some (a 4))),.iface 179 (.pointer (some (a 5))),.iface 179 (.pointer (some (a 6))),.iface 179 (.pointer (some (a 7))),.iface 179 (.pointer (some (a 8)))] 29):=⟨_,rfl⟩
 rw[←hW2]
 have hwc:∀k,k<9→W2.cell? ⟨w1.heap.size,k,none⟩=some (.iface 179 (.pointer (some (a k)))):=by
  intro k hk
  rw[hW2,World.cell?_alloc_at _ _ _ _ rfl]
  match k,hk with
  | 0,_=>rfl
  | 1,_=>rfl
  | 2,_=>rfl
  | 3,_=>rfl
  | 4,_=>rfl
  | 5,_=>rfl
  | 6,_=>rfl
  | 7,_=>rfl
  | 8,_=>rfl
 have hb2:Below w.heap.size w W2:=by rw[hW2];exact hb1.alloc (Nat.le_of_lt hz1) _
 clear hW2 s0 s1 s2 s3 s4 s5 s6 s7 s8 hat1 hc1
 have HC:Hid _:=hwc
 clear hwc
 go_loopw [3,27] (fun t3 t W=>W=W2∧t3=.int .i64 pl∧∃k:Nat,k≤9∧k≤i∧t=.int .i64 k) (fun _ t _=>9 - (intOf t).toNat)
 case atStart=>exact⟨rfl,rfl,0,by omega,by omega,rfl⟩
 case round =>
  obtain⟨rfl,rfl,k,hk,hki,rfl⟩:=hrel
  by_cases hk9:k<9
  ·have hck:=HC.out k hk9
   go_wp2_with fail
   refine (HIs.out k hk9 _ hb2).mono ?_
   rintro e w' ⟨rfl,rfl⟩
   by_cases hki2:k=i
   ·have hdec:decide (k=i)=true:=by simpa using hki2
    have HK:Hid (k=i):=hki2
    clear hki2
    rw[hdec]
    go_wp2
    go_ret2
    exact⟨ret2 (by rw[codeNum_lt (by have:=HK.out;omega),←HK.out]) rfl,hb2⟩
   ·have hdec:decide (k=i)=false:=by simpa using hki2
    rw[hdec]
    go_wp2
    go_roundw
    case rel=>exact⟨by trivial,by trivial,k+1,by omega,by omega,by go_num⟩
    case measure=>simp[intOf];omega
  ·go_wp2
   go_ret2
   exact⟨ret2 (codeNum_ge (by omega)).symm rfl,hb2⟩
set_option maxHeartbeats 2000000 in
theorem code_bare (a:Nat→Addr)(errT:TypeId)(errP:Value)(i:Nat)(w:World)(he:Errs a w)
  (hAs:Calls Tryz.prog 38 #[.iface errT errP,.iface 78 (.pointer (some ⟨w.heap.size,0,none⟩))] (w.alloc (.cells #[.pointer none] 66)) fun ev w'=>ev=.returned (.bool false)∧Below w.heap.size w w'∧w.heap.size<w'.heap.size)
  (hIs:∀k,k<9→∀W,Below w.heap.size w W→Calls Tryz.prog 39 #[.iface errT errP,.iface 179 (.pointer (some (a k)))] W fun e w'=>e=.returned (.bool (decide (k=i)))∧w'=W) :
  Calls Tryz.prog 26 #[.iface errT errP] w fun e w'=>e=.returned (.tuple #[.int .i64 (codeNum i),.int .i64 (-1)])∧Below w.heap.size w w':=by
 have HIs:Hid _:=hIs
 clear hIs
 go_enter Tryz.func26,Tryz.ntmps26
 go_wp2_with fail
 refine hAs.mono ?_
 rintro e w1 ⟨rfl,hb1,hz1⟩
 obtain⟨hh,s0,s1,s2,s3,s4,s5,s6,s7,s8,hrow,hne⟩:=he.later hb1
 clear hh hrow hne hAs he
 go_wp2_with fail
 obtain⟨W2,hW2⟩:∃W2,W2=w1.alloc (.cells #[.iface 179 (.pointer (some (a 0))),.iface 179 (.pointer (some (a 1))),.iface 179 (.pointer (some (a 2))),.iface 179 (.pointer (some (a 3))),.iface 179 (.pointer (some (a 4))),.iface 179 (.pointer (some (a 5))),.iface 179 (.pointer (some (a 6))),.iface 179 (.pointer (some (a 7))),.iface 179 (.pointer (some (a 8)))] 29):=⟨_,rfl⟩
 rw[←hW2]
 have hwc:∀k,k<9→W2.cell? ⟨w1.heap.size,k,none⟩=some (.iface 179 (.pointer (some (a k)))):=by
  intro k hk
  rw[hW2,World.cell?_alloc_at _ _ _ _ rfl]
  match k,hk with
  | 0,_=>rfl
  | 1,_=>rfl
  | 2,_=>rfl
  | 3,_=>rfl
  | 4,_=>rfl
  | 5,_=>rfl
  | 6,_=>rfl
  | 7,_=>rfl
  | 8,_=>rfl
 have hb2:Below w.heap.size w W2:=by rw[hW2];exact hb1.alloc (Nat.le_of_lt hz1) _
 clear hW2 s0 s1 s2 s3 s4 s5 s6 s7 s8
 have HC:Hid _:=hwc
 clear hwc
 go_loopw [3,27] (fun t3 t W=>W=W2∧t3=.int .i64 (-1)∧∃k:Nat,k≤9∧k≤i∧t=.int .i64 k) (fun _ t _=>9 - (intOf t).toNat)
 case atStart=>exact⟨rfl,rfl,0,by omega,by omega,rfl⟩
 case round =>
  obtain⟨rfl,rfl,k,hk,hki,rfl⟩:=hrel
  by_cases hk9:k<9
  ·have hck:=HC.out k hk9
   go_wp2_with fail
   refine (HIs.out k hk9 _ hb2).mono ?_
   rintro e w' ⟨rfl,rfl⟩
   by_cases hki2:k=i
   ·have hdec:decide (k=i)=true:=by simpa using hki2
    have HK:Hid (k=i):=hki2
    clear hki2
    rw[hdec]
    go_wp2
    go_ret2
    exact⟨ret2 (by rw[codeNum_lt (by have:=HK.out;omega),←HK.out]) rfl,hb2⟩
   ·have hdec:decide (k=i)=false:=by simpa using hki2
    rw[hdec]
    go_wp2
    go_roundw
    case rel=>exact⟨by trivial,by trivial,k+1,by omega,by omega,by go_num⟩
    case measure=>simp[intOf];omega
  ·go_wp2
   go_ret2
   exact⟨ret2 (codeNum_ge (by omega)).symm rfl,hb2⟩
theorem code_nil (w:World):Calls Tryz.prog 26 #[.nilIface] w fun e w'=>e=.returned (.tuple #[.int .i64 0,.int .i64 (-1)])∧w'=w:=by
 go_enter Tryz.func26,Tryz.ntmps26
 go_wp2
 go_ret2
 exact⟨rfl,rfl⟩
theorem code_sent (a:Nat→Addr)(i:Nat)(hi:i<9)(w:World)(he:Errs a w) :
  Calls Tryz.prog 26 #[.iface 179 (.pointer (some (a i)))] w fun e w'=>e=.returned (.tuple #[.int .i64 (codeNum i),.int .i64 (-1)])∧Below w.heap.size w w':=by
 refine code_bare a 179 (.pointer (some (a i))) i w he ?_ ?_
 ·refine (as_miss (a i) ⟨w.heap.size,0,none⟩ (w.alloc (.cells #[.pointer none] 66)) (below_cell ((Below.refl _ _).alloc (Nat.le_refl _) _) he.handle)).mono ?_
  rintro ev w' ⟨rfl,rfl⟩
  exact⟨rfl,((((Below.refl _ _).alloc (Nat.le_refl _) _).alloc (by simp) _).alloc (by simp;omega) _).alloc (by simp;omega) _,by simp;omega⟩
 ·intro k hk W hb
  have hW:=he.later hb
  by_cases h:k=i
  ·subst h
   rw[decide_eq_true rfl]
   exact is_same (a k) W
  ·rw[decide_eq_false h]
   obtain⟨c,t,hr⟩:=hW.row i hi
   obtain⟨c',t',hr'⟩:=hW.row k hk
   exact is_other (a i) (a k) c c' t t' W (hW.ne i k hi hk (fun e=>h e.symm)) hr hr'
theorem code_fault (a:Nat→Addr)(i:Nat)(hi:i<9)(pl:Int)(pb:Nat)(w:World)(he:Errs a w)(h0:w.cell? ⟨pb,0,none⟩=some (.int .i64 pl))(h1:w.cell? ⟨pb,1,none⟩=some (.iface 179 (.pointer (some (a i))))) :
  Calls Tryz.prog 26 #[.iface 66 (.pointer (some ⟨pb,0,none⟩))] w fun e w'=>e=.returned (.tuple #[.int .i64 (codeNum i),.int .i64 pl])∧Below w.heap.size w w':=by
 refine code_core a 66 (.pointer (some ⟨pb,0,none⟩)) i pl ⟨pb,0,none⟩ w he ?_ h0 ?_
 ·refine (as_hit ⟨pb,0,none⟩ ⟨w.heap.size,0,none⟩ (.pointer none) (w.alloc (.cells #[.pointer none] 66)) (below_cell ((Below.refl _ _).alloc (Nat.le_refl _) _) he.handle) (by simp) (by simp)).mono ?_
  rintro ev w' ⟨rfl,rfl⟩
  refine⟨rfl,(((((Below.refl _ _).alloc (Nat.le_refl _) _).alloc (by simp) _).alloc (by simp;omega) _).alloc (by simp;omega) _).alloc (by simp;omega) _ |>.setCell (Nat.le_refl _) _,?_,by simp;omega⟩
  exact World.cell?_setCell_same' _ _ _ (by
   rw[World.cell?_alloc_lt _ _ _ (by simp;omega),World.cell?_alloc_lt _ _ _ (by simp;omega),World.cell?_alloc_lt _ _ _ (by simp;omega),World.cell?_alloc_lt _ _ _ (by simp)];simp)
 ·intro k hk W hb
  have hW:=he.later hb
  by_cases h:k=i
  ·subst h
   rw[decide_eq_true rfl]
   exact is_fault_same pb (a k) W (below_cell hb h1)
  ·rw[decide_eq_false h]
   obtain⟨c,t,hr⟩:=hW.row i hi
   obtain⟨c',t',hr'⟩:=hW.row k hk
   exact is_fault_other pb (a k) (a i) c c' t t' W (below_cell hb h1) (hW.ne i k hi hk (fun e=>h e.symm)) hr hr'
end Go.Proofs.YtjeicikflkjacaaGreatDoor

/- From the row's list of package variables to what the walks ask: the handle of the type error, nine errors at different places. -/
namespace Go.Proofs.YtjeicikflkjacaaGreatDoor
open Go.ChangeShapes Go.WideShapes Go.ChangeAt Go.RowKit
theorem own:ownKnob Tryz.prog.godebug=none:=by kernel_rfl
def sentList (l : List (String × List UInt8)) : List (String × DataW Unit) := l.map fun x => (x.1, .iface "*errors.errorString" (.ptr (.agg [.lit (.string x.2)])))
def placeOf (a:Addr):MemPlace:=.cell a.block a.off
theorem sents_of {P:Program}{W:World}{ti tp te ts:TypeId}{ms:Array (String × TypeId)}{f:Field}
  (hi : P.underlying ti = some (.interface ms)) (hrow : ∀ u, P.typeName? 3 u = some "*errors.errorString" → u = tp)
  (hp:P.underlying tp=some (.pointer te)) (he:P.underlying te=some (.struct #[f])) (hft:f.type=ts) (hfo:f.offset=0) (hs:P.underlying ts=some .string) (hc:P.cellsOf te=1) (hcs:P.cellsOf ts=1)
  (all:List MemPlace) (hrows:∀b off,MemPlace.cell b off∈all→(∃c t,W.heap[b]?=some (.cells c t (0,0)))∧∀u v,W.cell? ⟨b,off,none⟩=some (.iface u v)→Value.okWide P W .any 0 u v) :
  ∀(l:List (String × List UInt8)) (ps:List MemPlace),(∀x∈l,∃g,P.globalNamed x.1=some g∧(P.globals[g]?).map (·.type)=some ti)→(∀m∈ps,m∈all) →
   DataW.LaidVars P W (sentList l) ps →
   ∃ads:List Addr,ads.length=l.length∧(ads.map placeOf).Sublist ps∧∀i (h:i<l.length) (h':i<ads.length),W.var? P l[i].1=some #[.iface tp (.pointer (some ads[i]))]
 | [],ps,_,_,_=>⟨[],rfl,by simp,fun i h=>by simp at h⟩
 | x :: r,ps,hg,hin,hl=>by
  obtain⟨g,t,cs,fuel,p,q,h1,h2,h3,h4,h5,rfl⟩:=hl
  obtain⟨g',hg1,hg2⟩:=hg x (List.mem_cons_self ..)
  obtain rfl:=Option.some.inj (hg1.symm.trans h1)
  obtain rfl:=Option.some.inj (hg2.symm.trans h2)
  obtain⟨l0⟩:=cs
  have ok0:∀u v,l0=[.iface u v]→Value.okWide P W .any 0 u v:=fun u v e=>by
   subst e
   exact (hrows g' 0 (hin _ (by simp[MemPlace.row]))).2 u v (by simpa using World.var?_cell h1 h3 0)
  obtain⟨a,s,rfl,_,_,_,rfl⟩:=errorString_of_trod hi hrow hp he hft hfo hs hc hcs h4 ok0
  obtain⟨ads,e1,e2,e3⟩:=sents_of hi hrow hp he hft hfo hs hc hcs all hrows r q (fun y hy=>hg y (List.mem_cons_of_mem _ hy)) (fun m hm=>hin m (List.mem_append_right _ hm)) h5
  refine⟨a :: ads,by simp[e1],?_,?_⟩
  ·have:MemPlace.row a 1=[placeOf a]:=by simp[MemPlace.row,placeOf]
   rw[this,List.append_assoc]
   exact (List.Sublist.cons_cons _ e2).trans (List.sublist_append_right _ _)
  ·intro i h h'
   cases i with
   | zero=>exact h3
   | succ i=>exact e3 i (by simpa using h) (by simpa using h')
theorem star : "*errors.errorString" = "*" ++ "errors.errorString" := by decide
theorem rowE (u : TypeId) (h : Tryz.prog.typeName? 3 u = some "*errors.errorString") : u = 179 :=
 typeName_ptr_named (nm := "errors.errorString") (by rw [← star]; kernel_rfl) (by kernel_rfl) (by decide) u (by rw [← star]; exact h)
theorem cellsE:Tryz.prog.cellsOf 200=1:=by kernel_rfl
theorem cellsS:Tryz.prog.cellsOf 9=1:=by kernel_rfl
theorem gH : Tryz.prog.globalNamed "errors.errorType" = some 9 := by kernel_rfl
theorem rtN : (Tryz.prog.cutTypes.find? (·.1 == "internal/reflectlite.rtype")).map (·.2) = some 139 := by kernel_rfl
theorem oneRowE:((List.range 212).filter fun t=>Tryz.prog.rowNamed t [101,114,114,111,114])=[29]:=by kernel_rfl
theorem sizeT:Tryz.prog.types.size=212:=by kernel_rfl
def apiErrs:List (String × List UInt8):=[
 ("levelhand/api.ErrText", [108, 101, 118, 101, 108, 104, 97, 110, 100, 58, 32, 116, 101, 120, 116]),
 ("levelhand/api.ErrBound", [108, 101, 118, 101, 108, 104, 97, 110, 100, 58, 32, 98, 111, 117, 110, 100]),
 ("levelhand/api.ErrShape", [108, 101, 118, 101, 108, 104, 97, 110, 100, 58, 32, 115, 104, 97, 112, 101]),
 ("levelhand/api.ErrName", [108, 101, 118, 101, 108, 104, 97, 110, 100, 58, 32, 110, 97, 109, 101]),
 ("levelhand/api.ErrNone", [108, 101, 118, 101, 108, 104, 97, 110, 100, 58, 32, 110, 111, 110, 101]),
 ("levelhand/api.ErrExist", [108, 101, 118, 101, 108, 104, 97, 110, 100, 58, 32, 101, 120, 105, 115, 116]),
 ("levelhand/api.ErrFull", [108, 101, 118, 101, 108, 104, 97, 110, 100, 58, 32, 102, 117, 108, 108]),
 ("levelhand/api.ErrOld", [108, 101, 118, 101, 108, 104, 97, 110, 100, 58, 32, 111, 108, 100]),
 ("levelhand/api.ErrSum", [108, 101, 118, 101, 108, 104, 97, 110, 100, 58, 32, 115, 117, 109])]
def apiLaid : List (String × DataW Unit) := ("errors.errorType", .iface "internal/reflectlite.rtype" (.agg [.ptr (.lit (.string [101, 114, 114, 111, 114]))])) :: sentList apiErrs
theorem gErr (i:Nat)(h:i<9):∃x g,apiErrs[i]?=some x∧Tryz.prog.globalNamed x.1=some g∧(Tryz.prog.globals[g]?).map (·.type)=some 29:=by
 match i,h with
 | 0,_=>exact⟨_,3,rfl,by kernel_rfl,by kernel_rfl⟩
 | 1,_=>exact⟨_,0,rfl,by kernel_rfl,by kernel_rfl⟩
 | 2,_=>exact⟨_,1,rfl,by kernel_rfl,by kernel_rfl⟩
 | 3,_=>exact⟨_,4,rfl,by kernel_rfl,by kernel_rfl⟩
 | 4,_=>exact⟨_,2,rfl,by kernel_rfl,by kernel_rfl⟩
 | 5,_=>exact⟨_,5,rfl,by kernel_rfl,by kernel_rfl⟩
 | 6,_=>exact⟨_,6,rfl,by kernel_rfl,by kernel_rfl⟩
 | 7,_=>exact⟨_,7,rfl,by kernel_rfl,by kernel_rfl⟩
 | 8,_=>exact⟨_,8,rfl,by kernel_rfl,by kernel_rfl⟩
theorem errs_of_api {W:World}(h:laidMetH Tryz.prog apiLaid W):∃a,Errs a W:=by
 have h' : laidMet Tryz.prog (sentList apiErrs) W ∧ handlesMet Tryz.prog [("errors.errorType", .iface "internal/reflectlite.rtype" (.agg [.ptr (.lit (.string [101, 114, 114, 111, 114]))]))] W := h
 obtain⟨⟨ps,hl,hnd,hrows⟩,hh⟩:=h'
 obtain⟨name,u,ty,e1,e2,e3,e4,e5⟩:=hh _ (List.mem_singleton.2 rfl)
 have en:name=[101,114,114,111,114]:=(Option.some.inj e1).symm
 subst en
 obtain rfl:=Option.some.inj (rtN.symm.trans e2)
 have hm:ty∈(List.range 212).filter fun t=>Tryz.prog.rowNamed t [101,114,114,111,114]:=List.mem_filter.2 ⟨List.mem_range.2 (by rw[←sizeT];exact e3),e4⟩
 rw[oneRowE] at hm
 obtain rfl:=List.mem_singleton.1 hm
 have hth:typeHandle Tryz.prog 29=.pointer (some ⟨10,29,none⟩):=by kernel_rfl
 rw[hth] at e5
 obtain⟨ads,el,hsub,hv⟩:=sents_of Tryz.underlying29 rowE Tryz.underlying179 Tryz.underlying200 rfl rfl Tryz.underlying9 cellsE cellsS ps hrows apiErrs ps
  (fun x hx=>by
   obtain⟨i,hi,rfl⟩:=List.getElem_of_mem hx
   obtain⟨y,g,hy,h1,h2⟩:=gErr i hi
   rw[List.getElem?_eq_getElem hi] at hy
   obtain rfl:=Option.some.inj hy
   exact⟨g,h1,h2⟩) (fun _ hm=>hm) hl
 have el9:ads.length=9:=el
 have hnd':(ads.map placeOf).Nodup:=hnd.sublist hsub
 have cellAt:∀(i:Nat) (h:i<9) (n:String) (g:Nat),(apiErrs[i]'h).1=n→Tryz.prog.globalNamed n=some g→W.cell? ⟨g,0,none⟩=some (.iface 179 (.pointer (some (ads.getD i default)))):=by
  intro i h n g hn hg
  have:=hv i h (by omega)
  rw[hn] at this
  have hd:ads.getD i default=ads[i]'(by omega):=by rw[List.getD_eq_getElem?_getD,List.getElem?_eq_getElem (by omega)];rfl
  rw[hd]
  simpa using World.var?_cell hg this 0
 refine⟨fun i=>ads.getD i default,?_⟩
 constructor
 ·simpa using World.var?_cell gH e5 0
 ·exact cellAt 0 (by decide) _ _ rfl (by kernel_rfl)
 ·exact cellAt 1 (by decide) _ _ rfl (by kernel_rfl)
 ·exact cellAt 2 (by decide) _ _ rfl (by kernel_rfl)
 ·exact cellAt 3 (by decide) _ _ rfl (by kernel_rfl)
 ·exact cellAt 4 (by decide) _ _ rfl (by kernel_rfl)
 ·exact cellAt 5 (by decide) _ _ rfl (by kernel_rfl)
 ·exact cellAt 6 (by decide) _ _ rfl (by kernel_rfl)
 ·exact cellAt 7 (by decide) _ _ rfl (by kernel_rfl)
 ·exact cellAt 8 (by decide) _ _ rfl (by kernel_rfl)
 ·intro i hi
  have hmem:placeOf (ads[i]'(by omega))∈ps:=hsub.subset (List.mem_map.2 ⟨_,List.getElem_mem _,rfl⟩)
  have hd:ads.getD i default=ads[i]'(by omega):=by rw[List.getD_eq_getElem?_getD,List.getElem?_eq_getElem (by omega)];rfl
  show ∃c t,W.heap[(ads.getD i default).block]?=some (.cells c t (0,0))
  rw[hd]
  exact (hrows _ _ hmem).1
 ·intro i j hi hj hij e
  have hdi:ads.getD i default=ads[i]'(by omega):=by rw[List.getD_eq_getElem?_getD,List.getElem?_eq_getElem (by omega)];rfl
  have hdj:ads.getD j default=ads[j]'(by omega):=by rw[List.getD_eq_getElem?_getD,List.getElem?_eq_getElem (by omega)];rfl
  have e':ads[i]'(by omega)=ads[j]'(by omega):=by rw[←hdi,←hdj];exact e
  have e2:(ads.map placeOf)[i]'(by simp;omega)=(ads.map placeOf)[j]'(by simp;omega):=by simp[e']
  have hpw:=List.pairwise_iff_getElem.1 hnd'
  rcases Nat.lt_or_gt_of_ne hij with hlt|hlt
  ·exact hpw i j (by simp;omega) (by simp;omega) hlt e2
  ·exact hpw j i (by simp;omega) (by simp;omega) hlt e2.symm
theorem laidOut:laidOutB Tryz.prog=true:=by kernel_rfl
end Go.Proofs.YtjeicikflkjacaaGreatDoor

/- Lists of numbers and of texts in memory; the reference's SameInts and SameTexts. -/
namespace Go.Proofs.YtjeicikflkjacaaGreatDoor
open Go.RowKit
def Ints (w:World)(v:Value)(xs:List Int):Prop :=
 (xs=[]∧∃p c,v=.slice p 0 c)∨∃b o c,v=.slice (some ⟨b,o,none⟩) xs.length c∧∀k (h:k<xs.length),w.cell? ⟨b,o+k,none⟩=some (.int .i64 xs[k])
theorem Ints.later {w w':World}{v:Value}{xs:List Int}(h:Ints w v xs)(hb:Below w.heap.size w w'):Ints w' v xs:=by
 rcases h with h|⟨b,o,c,rfl,hc⟩
 ·exact Or.inl h
 ·exact Or.inr ⟨b,o,c,rfl,fun k hk=>below_cell hb (hc k hk)⟩
theorem below_drewN {B:Nat}{a w:World}(h:Below B a w)(n:Nat):Below B a (w.drewN n):=⟨h.os,h.tape,h.output,h.size,h.block⟩
theorem take_same {α:Type}{xs ys:List α}{k:Nat}(hp:xs.take k=ys.take k)(h1:k<xs.length)(h2:k<ys.length)(he:xs[k]=ys[k]):xs.take (k+1)=ys.take (k+1):=by
 rw[List.take_succ_eq_append_getElem h1,List.take_succ_eq_append_getElem h2,hp,he]
theorem take_all {α:Type}{xs ys:List α}{k:Nat}(hp:xs.take k=ys.take k)(h1:¬k<xs.length)(hl:xs.length=ys.length):xs=ys:=by
 rwa [List.take_of_length_le (by omega),List.take_of_length_le (by omega)] at hp
theorem get_parts {α:Type}{xs ys:List α}{k:Nat}(h1:k<xs.length)(h2:k<ys.length)(he:xs[k]≠ys[k]):xs≠ys:=by
 intro e;subst e;exact he rfl
theorem ret_bool {a b:Bool}(h:a=b):Ending.returned (.bool a)=.returned (.bool b):=by rw[h]
set_option maxHeartbeats 1000000 in
theorem sameInts_core (ba oa ca bb ob cb:Nat)(xs ys:List Int)(w:World)(hx:∀k (h:k<xs.length),w.cell? ⟨ba,oa+k,none⟩=some (.int .i64 xs[k]))
  (hy:∀k (h:k<ys.length),w.cell? ⟨bb,ob+k,none⟩=some (.int .i64 ys[k])) (hl:xs.length=ys.length) (hm:xs.length<1000000) (r:Bool) (hr:r=decide (xs=ys)) :
  Calls Tryz.prog 13 #[.slice (some ⟨ba,oa,none⟩) xs.length ca,.slice (some ⟨bb,ob,none⟩) ys.length cb] w fun e w'=>e=.returned (.bool r)∧Below w.heap.size w w':=by
 have hlb:((xs.length:Int) != (ys.length:Int))=false:=by simp[hl]
 have HL:Hid (xs.length=ys.length):=hl
 have hle:ys.length<1000000:=by omega
 have HX:Hid _:=hx
 have HY:Hid _:=hy
 have HR:Hid _:=hr
 clear hl hx hy hr
 go_enter Tryz.func13,Tryz.ntmps13
 go_wp2
 go_loopw [5] (fun t W=>Below w.heap.size w W∧∃k:Nat,k≤xs.length∧t=.int .i64 k∧xs.take k=ys.take k) (fun t _=>xs.length - (intOf t).toNat)
 case atStart=>exact⟨Below.refl _ _,0,Nat.zero_le _,rfl,rfl⟩
 case round =>
  obtain⟨hb,k,hk,rfl,hpre⟩:=hrel
  have HP:Hid _:=hpre
  clear hpre
  by_cases hlt:k<xs.length
  ·have hlt':k<ys.length:=by rw[←HL.out];exact hlt
   have cx:=below_cell hb (HX.out k hlt)
   have cy:=below_cell hb (HY.out k hlt')
   have hi1:(k:Int)<(xs.length:Int):=by omega
   have hi2:(k:Int)<(ys.length:Int):=by omega
   generalize hxk:xs[k]=xk at *
   generalize hyk:ys[k]=yk at *
   have HXK:Hid _:=hxk
   have HYK:Hid _:=hyk
   clear hxk hyk
   by_cases heq:xk=yk
   ·have hne:(xk != yk)=false:=by simp[heq]
    have HE:Hid _:=heq
    clear heq
    go_wp2
    go_quiet (fail)
    go_wp2
    exact⟨⟨below_drewN hb _,k+1,by omega,by go_num,take_same HP.out hlt hlt' (by rw[HXK.out,HYK.out];exact HE.out)⟩,by simp[intOf];omega⟩
   ·have hne:(xk != yk)=true:=by simp[heq]
    have HE:Hid _:=heq
    clear heq
    go_wp2
    go_quiet (fail)
    go_wp2
    go_ret
    refine⟨ret_bool ?_,below_drewN hb _⟩
    rw[HR.out]
    exact (decide_eq_false (get_parts hlt hlt' (by rw[HXK.out,HYK.out];exact HE.out))).symm
  ·go_wp2
   go_ret
   refine⟨ret_bool ?_,hb⟩
   rw[HR.out]
   exact (decide_eq_true (take_all HP.out hlt HL.out)).symm
set_option maxHeartbeats 1000000 in
theorem sameInts_len (pa pb:Option Addr)(na nb ca cb:Nat)(w:World)(h:na≠nb)(_hm:na<1000000)(_hm':nb<1000000) :
  Calls Tryz.prog 13 #[.slice pa na ca,.slice pb nb cb] w fun e w'=>e=.returned (.bool false)∧w'=w:=by
 have hlb:((na:Int) != (nb:Int))=true:=by rw[bne_iff_ne];omega
 clear h
 go_enter Tryz.func13,Tryz.ntmps13
 go_wp2
 go_ret
 exact⟨rfl,rfl⟩
set_option maxHeartbeats 1000000 in
theorem sameInts_zero (pa pb:Option Addr)(ca cb:Nat)(w:World) :
  Calls Tryz.prog 13 #[.slice pa 0 ca,.slice pb 0 cb] w fun e w'=>e=.returned (.bool true)∧w'=w:=by
 go_enter Tryz.func13,Tryz.ntmps13
 go_wp2
 refine wp_loop_rounds 1 ?_
 rw[rounds_succ]
 go_wp2
 go_ret
 exact⟨rfl,rfl⟩
theorem Ints.slice {w:World}{v:Value}{xs:List Int}(h:Ints w v xs):∃p c,v=.slice p xs.length c:=by
 rcases h with⟨rfl,p,c,rfl⟩|⟨b,o,c,rfl,_⟩
 ·exact⟨p,c,rfl⟩
 ·exact⟨_,c,rfl⟩
theorem sameInts_any (va vb:Value)(xs ys:List Int)(w:World)(hx:Ints w va xs)(hy:Ints w vb ys)(hm:xs.length<1000000)(hm':ys.length<1000000) :
  Calls Tryz.prog 13 #[va,vb] w fun e w'=>e=.returned (.bool (decide (xs=ys)))∧Below w.heap.size w w':=by
 by_cases hl:xs.length=ys.length
 ·rcases hx with⟨rfl,p,c,rfl⟩|⟨b,o,c,rfl,hxc⟩
  ·obtain rfl:ys=[]:=List.length_eq_zero_iff.1 hl.symm
   obtain⟨q,d,rfl⟩:=hy.slice
   exact (sameInts_zero p q c d w).mono fun e w' ⟨he,hw⟩=>⟨by rw[he,decide_eq_true rfl],by rw[hw];exact Below.refl _ _⟩
  ·rcases hy with⟨rfl,q,d,rfl⟩|⟨b',o',c',rfl,hyc⟩
   ·obtain rfl:xs=[]:=List.length_eq_zero_iff.1 hl
    exact (sameInts_zero _ q c d w).mono fun e w' ⟨he,hw⟩=>⟨by rw[he,decide_eq_true rfl],by rw[hw];exact Below.refl _ _⟩
   ·exact sameInts_core b o c b' o' c' xs ys w hxc hyc hl hm _ rfl
 ·obtain⟨p,c,rfl⟩:=hx.slice
  obtain⟨q,d,rfl⟩:=hy.slice
  exact (sameInts_len p q _ _ c d w hl hm hm').mono fun e w' ⟨he,hw⟩=>⟨by rw[he,decide_eq_false (fun e=>hl (by rw[e]))],by rw[hw];exact Below.refl _ _⟩
end Go.Proofs.YtjeicikflkjacaaGreatDoor

/- Lists of texts in memory; the reference's SameTexts. -/
namespace Go.Proofs.YtjeicikflkjacaaGreatDoor
open Go.RowKit
theorem bytes_same {x y:ByteArray}(h:x=y):(x.toList==y.toList)=true:=by subst h;exact beq_self_eq_true _
theorem bytes_parts {x y:ByteArray}(h:x≠y):(x.toList==y.toList)=false:=by
 rw[beq_eq_false_iff_ne]
 intro e
 rw[ByteArray.toList_eq,ByteArray.toList_eq] at e
 exact h (ByteArray.ext (Array.toList_inj.1 e))
def Strs (w:World)(v:Value)(xs:List ByteArray):Prop :=
 (xs=[]∧∃p c,v=.slice p 0 c)∨∃b o c,v=.slice (some ⟨b,o,none⟩) xs.length c∧xs.length≤c∧∀k (h:k<xs.length),w.cell? ⟨b,o+k,none⟩=some (.string xs[k])
theorem Strs.slice {w:World}{v:Value}{xs:List ByteArray}(h:Strs w v xs):∃p c,v=.slice p xs.length c:=by
 rcases h with⟨rfl,p,c,rfl⟩|⟨b,o,c,rfl,_,_⟩
 ·exact⟨p,c,rfl⟩
 ·exact⟨_,c,rfl⟩
end Go.Proofs.YtjeicikflkjacaaGreatDoor

/- Plain facts on 64-bit turns: each step of a turn can be undone. -/
namespace Go.Proofs.YtjeicikflkjacaaGreatDoor.Lh
def fold (s z:Nat):Nat:=z ^^^ z / 2 ^ s
def turn (z:Nat):Nat :=
 fold 31 (fold 27 (fold 30 ((z+11400714819323198485) % 18446744073709551616)*13787848793156543929 % 18446744073709551616)*10723151780598845931 % 18446744073709551616)
def unfold2 (s z:Nat):Nat:=z ^^^ z / 2 ^ s ^^^ z / 2 ^ (2*s)
theorem fold_lt (s z:Nat)(h:z<18446744073709551616):fold s z<18446744073709551616:=by
 have h2:z / 2 ^ s<2 ^ 64:=Nat.lt_of_le_of_lt (Nat.div_le_self _ _) (by simpa using h)
 have:=Nat.xor_lt_two_pow (x:=z) (y:=z / 2 ^ s) (n:=64) (by simpa using h) h2
 unfold fold
 simpa using this
def back (x:Nat):Nat :=
 (unfold2 30 (unfold2 27 (unfold2 31 x*3573116690164977347 % 18446744073709551616)*10871156337175269513 % 18446744073709551616)+7046029254386353131) % 18446744073709551616
theorem turn_lt (z:Nat):turn z<18446744073709551616:=fold_lt _ _ (Nat.mod_lt _ (by decide))
end Go.Proofs.YtjeicikflkjacaaGreatDoor.Lh

/- Turn of mix computes 'turn'; it leaves all old memory as it was. -/
namespace Go.Proofs.YtjeicikflkjacaaGreatDoor
open Go.RowKit
theorem wrapNat (z c:Nat):IntKind.u64.wrap ((z:Int)+(c:Int))=(((z+c) % 18446744073709551616:Nat):Int):=by
 rw[IntKind.wrap_u64];omega
theorem step30 (X:Nat)(hX:X<18446744073709551616):IntKind.u64.wrap (bits .xor .u64 (X:Int) ((X:Int) / 1073741824)*13787848793156543929)=((Lh.fold 30 X*13787848793156543929 % 18446744073709551616:Nat):Int) :=
 mixStep_u64 X 1073741824 13787848793156543929 hX
theorem step27 (X:Nat)(hX:X<18446744073709551616):IntKind.u64.wrap (bits .xor .u64 (X:Int) ((X:Int) / 134217728)*10723151780598845931)=((Lh.fold 27 X*10723151780598845931 % 18446744073709551616:Nat):Int) :=
 mixStep_u64 X 134217728 10723151780598845931 hX
theorem step31 (X:Nat)(hX:X<18446744073709551616):bits .xor .u64 (X:Int) ((X:Int) / 2147483648)=((Lh.fold 31 X:Nat):Int) :=
 xorShift_u64 X 2147483648 hX
theorem stepAdd (z:Nat):IntKind.u64.wrap ((z:Int)+11400714819323198485)=(((z+11400714819323198485) % 18446744073709551616:Nat):Int):=wrapNat z 11400714819323198485
set_option maxHeartbeats 400000 in
theorem turn_any (z:Nat)(w:World) :
  Calls Tryz.prog 101 #[.int .u64 z] w fun e w'=>e=.returned (.int .u64 (Lh.turn z:Nat))∧Below w.heap.size w w':=by
 go_enter Tryz.func101,Tryz.ntmps101
 go_wp2
 go_end0
 go_wp2
 go_end0
 go_wp2
 go_end0
 go_wp2
 go_ret
 refine⟨?_,(Below.refl _ _).alloc (Nat.le_refl _) _⟩
 rw[stepAdd,step30 _ (Nat.mod_lt _ (by decide)),step27 _ (Nat.mod_lt _ (by decide)),step31 _ (Nat.mod_lt _ (by decide))]
 rfl
end Go.Proofs.YtjeicikflkjacaaGreatDoor

/- What holds of memory alone. -/
namespace Go.Proofs.YtjeicikflkjacaaGreatDoor
open Go.RowKit
theorem below_then {w w1 w2:World}(h:Below w.heap.size w w1)(k:Below w1.heap.size w1 w2):Below w.heap.size w w2 :=
 h.trans (k.mono h.size)
theorem below_grown {w w':World}{r:Option Nat}(hg:w.grownBy w' r)(hr:∀k,r=some k→w.heap.size≤k):Below w.heap.size w w':=(Below.refl _ _).grown hg (Nat.le_refl _) hr
theorem ownsRow_below {w w':World}{base:Nat}{e:TypeId}{size:Nat}{v:Value}{n:Nat}{xs:List Value}(h:w.ownsRow base e size v n xs)(hb:Below w.heap.size w w'):w'.ownsRow base e size v n xs :=
 h.kept (row:=none) ⟨hb.os,hb.tape,hb.output,hb.size,fun k hk _=>hb.block k hk⟩ (by cases v.ownBlock<;>simp)
end Go.Proofs.YtjeicikflkjacaaGreatDoor

/- MixBack: the walks: 'mixed' is true, each step of a turn is undone. -/
namespace Go.Proofs.YtjeicikflkjacaaGreatDoor
open Go.RowKit
theorem unmul (X c:Nat):IntKind.u64.wrap ((X:Int)*(c:Int))=((X*c % 18446744073709551616:Nat):Int):=by
 rw[IntKind.wrap_u64,Int.natCast_emod,Int.natCast_mul];rfl
end Go.Proofs.YtjeicikflkjacaaGreatDoor

/- Of, Two, and the reference's NumberOf, TurnOf: the numbers that they compute. -/
namespace Go.Proofs.YtjeicikflkjacaaGreatDoor
open Go.RowKit
namespace Lh
def step (h:Nat)(c:UInt8):Nat:=(h ^^^ c.toNat)*1099511628211 % 18446744073709551616
def hash (l:List UInt8):Nat:=l.foldl step 14695981039346656037
def num (s:ByteArray)(salt:Nat):Nat:=turn (hash s.data.toList ^^^ turn salt)
theorem byte_lt (c:UInt8):c.toNat<18446744073709551616:=Nat.lt_trans c.toNat_lt (by decide)
theorem hash_lt (l:List UInt8):hash l<18446744073709551616:=by
 unfold hash
 have:∀(l:List UInt8) (h:Nat),h<18446744073709551616→l.foldl step h<18446744073709551616:=by
  intro l
  induction l with
  | nil=>intro h hh;exact hh
  | cons c r ih=>intro h _;exact ih _ (Nat.mod_lt _ (by decide))
 exact this l _ (by decide)
theorem foldl_snoc {α β:Type}(f:β→α→β)(b:β)(l:List α)(a:α):(l++[a]).foldl f b=f (l.foldl f b) a:=by rw[List.foldl_append];rfl
theorem hash_snoc (l:List UInt8)(c:UInt8):hash (l++[c])=step (hash l) c:=foldl_snoc step _ l c
end Lh
theorem xorNat (a b:Nat)(ha:a<18446744073709551616)(hb:b<18446744073709551616):bits .xor .u64 (a:Int) (b:Int)=((a ^^^ b:Nat):Int):=bits_xor_u64_nat a b ha hb
theorem stepNat (h:Nat)(c:UInt8)(hh:h<18446744073709551616):IntKind.u64.wrap (bits .xor .u64 (h:Int) (c.toNat:Int)*1099511628211)=((Lh.step h c:Nat):Int):=by
 rw[xorNat h c.toNat hh (Lh.byte_lt c)]
 exact unmul _ 1099511628211
theorem take_snoc (s:ByteArray)(k:Nat)(h:k<s.size):s.data.toList.take (k+1)=s.data.toList.take k++[s[k]]:=by
 rw[List.take_succ_eq_append_getElem (by simpa using h)];rfl
theorem hash_next (s:ByteArray)(k:Nat)(h:k<s.size):IntKind.u64.wrap (bits .xor .u64 (Lh.hash (s.data.toList.take k):Int) (IntKind.u64.wrap (s[k].toNat:Int))*1099511628211)=((Lh.hash (s.data.toList.take (k+1)):Nat):Int):=by
 have hc:IntKind.u64.wrap (s[k].toNat:Int)=(s[k].toNat:Int):=by
  have:=Lh.byte_lt s[k]
  rw[IntKind.wrap_u64]
  omega
 rw[hc,stepNat _ _ (Lh.hash_lt _),take_snoc s k h,Lh.hash_snoc]
set_option maxHeartbeats 400000 in
theorem of_any (s:ByteArray)(salt:Nat)(w:World)(hs:s.size≤300) :
  Calls Tryz.prog 79 #[.string s,.int .u64 salt] w fun e w'=>e=.returned (.int .u64 (Lh.num s salt:Nat))∧Below w.heap.size w w':=by
 go_enter Tryz.func79,Tryz.ntmps79
 go_wp2
 go_loop [5,9] (fun h i=>∃k:Nat,k≤s.size∧i=.int .i64 k∧h=.int .u64 (Lh.hash (s.data.toList.take k):Nat)) (fun _ i=>s.size - (intOf i).toNat)
 case atStart=>exact⟨0,Nat.zero_le _,rfl,rfl⟩
 case round =>
  obtain⟨k,hk,rfl,rfl⟩:=hrel
  by_cases hlt:k<s.size
  ·have HN:Hid _:=hash_next s k hlt
   go_wp2
   go_round
   case rel=>exact⟨k+1,by omega,by go_num,by rw[←HN.out]⟩
   case measure=>simp[intOf];omega
  ·have hfull:s.data.toList.take k=s.data.toList:=List.take_of_length_le (by simp;omega)
   rw[hfull]
   clear hfull
   go_wp2_with fail
   refine (turn_any salt _).mono ?_
   rintro e w1 ⟨rfl,hb1⟩
   go_wp2_with fail
   rw[xorNat _ _ (Lh.hash_lt _) (Lh.turn_lt _)]
   refine (turn_any _ _).mono ?_
   rintro e w2 ⟨rfl,hb2⟩
   go_wp2
   go_ret
   exact⟨rfl,below_then hb1 hb2⟩
end Go.Proofs.YtjeicikflkjacaaGreatDoor
