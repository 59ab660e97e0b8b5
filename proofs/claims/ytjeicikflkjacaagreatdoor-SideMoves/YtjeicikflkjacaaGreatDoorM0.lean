/- What errors.Is and errors.As answer of the errors of package api: a sentinel, a Fault that wraps one, another error. -/
import Derived.Test.YtjeicikflkjacaaGreatDoorProg
import Derived.WalkKit
import Derived.WalkLawsBesides
import Derived.WalkSpells
import Derived.LaidEql
import Derived.Stop.Asserts
import Derived.RowKitTokens
set_option maxHeartbeats 20000000
namespace Go.Proofs.YtjeicikflkjacaaGreatDoor
open Go.RowKit Go.Extern.Stop Go.Stop Go.Extern
/- closed facts on types -/
theorem compE:(Tryz.prog.info? 179).map (·.comparable)=some true:=by kernel_rfl
theorem sizeE:(Tryz.prog.info? 200).map (·.size)=some 1:=by kernel_rfl
theorem typeOfE (v:Value)(w:World):(ReflectliteType.typeOf #[.iface 179 v]).run Tryz.prog w=.ok (.iface 139 (.agg #[.pointer (some ⟨10,179,none⟩)])) w:=by kernel_rfl
theorem typeOfF (v:Value)(w:World):(ReflectliteType.typeOf #[.iface 66 v]).run Tryz.prog w=.ok (.iface 139 (.agg #[.pointer (some ⟨10,66,none⟩)])) w:=by kernel_rfl
theorem cmp_fact (w:World):((find Tryz.f134).map fun e=>(e #[.agg #[.pointer (some ⟨10,179,none⟩)]]).run Tryz.prog w)=some (.ok (.bool true) w):=by kernel_rfl
theorem cmp_entry:∃e,find Tryz.f134=some e∧∀w,(e #[.agg #[.pointer (some ⟨10,179,none⟩)]]).run Tryz.prog w=.ok (.bool true) w:=by
 cases h:find Tryz.f134 with
 | none=>have:=cmp_fact default;rw[h] at this;cases this
 | some e=>exact⟨e,rfl,fun w=>by have:=cmp_fact w;rw[h] at this;exact Option.some.inj this⟩
theorem methodComparable (v : Value) (w : World) : (Go.method 312 139 v "Comparable").run Tryz.prog w = .ok (134, v) w := by kernel_rfl
theorem noIsE (v:Value)(xT:TypeId)(w:World):(Instr.typeAssert (.iface 179 v) xT 150 true).run Tryz.prog w=.ok (.tuple #[.nilIface,.bool false]) w:=run_typeAssert_lacksB Tryz.underlying150 (by kernel_rfl) (by kernel_rfl) v xT w
theorem noAsE (v:Value)(xT:TypeId)(w:World):(Instr.typeAssert (.iface 179 v) xT 143 true).run Tryz.prog w=.ok (.tuple #[.nilIface,.bool false]) w:=run_typeAssert_lacksB Tryz.underlying143 (by kernel_rfl) (by kernel_rfl) v xT w
theorem noUnwrapE (v:Value)(xT:TypeId)(w:World):(Instr.typeAssert (.iface 179 v) xT 146 true).run Tryz.prog w=.ok (.tuple #[.nilIface,.bool false]) w:=run_typeAssert_lacksB Tryz.underlying146 (by kernel_rfl) (by kernel_rfl) v xT w
theorem noUnwrapsE (v:Value)(xT:TypeId)(w:World):(Instr.typeAssert (.iface 179 v) xT 148 true).run Tryz.prog w=.ok (.tuple #[.nilIface,.bool false]) w:=run_typeAssert_lacksB Tryz.underlying148 (by kernel_rfl) (by kernel_rfl) v xT w
theorem noIsF (v:Value)(xT:TypeId)(w:World):(Instr.typeAssert (.iface 66 v) xT 150 true).run Tryz.prog w=.ok (.tuple #[.nilIface,.bool false]) w:=run_typeAssert_lacksB Tryz.underlying150 (by kernel_rfl) (by kernel_rfl) v xT w
theorem hasUnwrapF (v:Value)(xT:TypeId)(w:World):(Instr.typeAssert (.iface 66 v) xT 146 true).run Tryz.prog w=.ok (.tuple #[.iface 66 v,.bool true]) w:=run_typeAssert_hasB Tryz.underlying146 (by kernel_rfl) v xT w
theorem methodUnwrap (v : Value) (w : World) : (Go.method 312 66 v "Unwrap").run Tryz.prog w = .ok (128, v) w := by kernel_rfl
theorem is_same (a:Addr)(w:World) :
  Calls Tryz.prog 39 #[.iface 179 (.pointer (some a)),.iface 179 (.pointer (some a))] w fun e w'=>e=.returned (.bool true)∧w'=w:=by
 obtain⟨i,hi,hcmp⟩:=Option.map_eq_some_iff.1 compE
 obtain⟨j,hj,hjs⟩:=Option.map_eq_some_iff.1 sizeE
 have h8:=@run_callFunc_extern Tryz.prog 55 _ ReflectliteType.typeOf Tryz.func55 (by kernel_rfl) (by kernel_rfl) (by kernel_rfl) (by kernel_rfl)
 obtain⟨ent,hent,cT⟩:=cmp_entry
 have h9:=@run_callFunc_extern Tryz.prog 134 _ ent Tryz.func134 (by kernel_rfl) (by kernel_rfl) (by kernel_rfl) hent
 clear hent
 have tT:=typeOfE
 have mR:=methodComparable
 have heq:=run_eql_iface_ptr_same (P:=Tryz.prog) w a Tryz.underlying29 Tryz.underlying179 hi hcmp hj
 go_enter Tryz.func39,Tryz.ntmps39
 go_wp2
 refine wp_loop_rounds 1 ?_
 rw[rounds_succ]
 go_wp2
 go_ret
 exact⟨rfl,rfl⟩
theorem is_other (a b:Addr)(ca cb:Array Value)(ta tb:TypeId)(w:World)(hne:a≠b)(ha:w.heap[a.block]?=some (.cells ca ta (0,0)))(hb:w.heap[b.block]?=some (.cells cb tb (0,0))) :
  Calls Tryz.prog 39 #[.iface 179 (.pointer (some a)),.iface 179 (.pointer (some b))] w fun e w'=>e=.returned (.bool false)∧w'=w:=by
 obtain⟨i,hi,hcmp⟩:=Option.map_eq_some_iff.1 compE
 obtain⟨j,hj,hjs⟩:=Option.map_eq_some_iff.1 sizeE
 have h8:=@run_callFunc_extern Tryz.prog 55 _ ReflectliteType.typeOf Tryz.func55 (by kernel_rfl) (by kernel_rfl) (by kernel_rfl) (by kernel_rfl)
 obtain⟨ent,hent,cT⟩:=cmp_entry
 have h9:=@run_callFunc_extern Tryz.prog 134 _ ent Tryz.func134 (by kernel_rfl) (by kernel_rfl) (by kernel_rfl) hent
 clear hent
 have tT:=typeOfE
 have mR:=methodComparable
 have nE:=noIsE
 have uE:=noUnwrapE
 have vE:=noUnwrapsE
 have heq:=run_eql_iface_ptr_other (P:=Tryz.prog) w Tryz.underlying29 Tryz.underlying179 hi hcmp hj (by rw[hjs];decide) hne ha hb
 go_enter Tryz.func39,Tryz.ntmps39
 go_wp2
 refine wp_loop_rounds 1 ?_
 rw[rounds_succ]
 go_wp2
 go_ret
 exact⟨rfl,rfl⟩
theorem is_fault_same (pb:Nat)(b:Addr)(w:World)(h1:w.cell? ⟨pb,1,none⟩=some (.iface 179 (.pointer (some b)))) :
  Calls Tryz.prog 39 #[.iface 66 (.pointer (some ⟨pb,0,none⟩)),.iface 179 (.pointer (some b))] w fun e w'=>e=.returned (.bool true)∧w'=w:=by
 obtain⟨i,hi,hcmp⟩:=Option.map_eq_some_iff.1 compE
 obtain⟨j,hj,hjs⟩:=Option.map_eq_some_iff.1 sizeE
 have h8:=@run_callFunc_extern Tryz.prog 55 _ ReflectliteType.typeOf Tryz.func55 (by kernel_rfl) (by kernel_rfl) (by kernel_rfl) (by kernel_rfl)
 obtain⟨ent,hent,cT⟩:=cmp_entry
 have h9:=@run_callFunc_extern Tryz.prog 134 _ ent Tryz.func134 (by kernel_rfl) (by kernel_rfl) (by kernel_rfl) hent
 clear hent
 have tT:=typeOfE
 have mR:=methodComparable
 have nW:=noIsF
 have uW:=hasUnwrapF
 have mU:=methodUnwrap
 have heq:=run_eql_iface_ptr_same (P:=Tryz.prog) w b Tryz.underlying29 Tryz.underlying179 hi hcmp hj
 have hty:=run_eql_iface_types (P:=Tryz.prog) 66 179 (.pointer (some ⟨pb,0,none⟩)) (.pointer (some b)) Tryz.underlying29 (by decide) w
 go_enter Tryz.func39,Tryz.ntmps39
 go_wp2
 refine wp_loop_rounds 2 ?_
 rw[rounds_succ]
 go_wp2
 rw[rounds_succ]
 go_wp2
 go_ret
 exact⟨rfl,rfl⟩
theorem is_fault_other (pb:Nat)(b a:Addr)(ca cb:Array Value)(ta tb:TypeId)(w:World)(h1:w.cell? ⟨pb,1,none⟩=some (.iface 179 (.pointer (some a))))(hne:a≠b)(ha:w.heap[a.block]?=some (.cells ca ta (0,0)))(hb:w.heap[b.block]?=some (.cells cb tb (0,0))) :
  Calls Tryz.prog 39 #[.iface 66 (.pointer (some ⟨pb,0,none⟩)),.iface 179 (.pointer (some b))] w fun e w'=>e=.returned (.bool false)∧w'=w:=by
 obtain⟨i,hi,hcmp⟩:=Option.map_eq_some_iff.1 compE
 obtain⟨j,hj,hjs⟩:=Option.map_eq_some_iff.1 sizeE
 have h8:=@run_callFunc_extern Tryz.prog 55 _ ReflectliteType.typeOf Tryz.func55 (by kernel_rfl) (by kernel_rfl) (by kernel_rfl) (by kernel_rfl)
 obtain⟨ent,hent,cT⟩:=cmp_entry
 have h9:=@run_callFunc_extern Tryz.prog 134 _ ent Tryz.func134 (by kernel_rfl) (by kernel_rfl) (by kernel_rfl) hent
 clear hent
 have tT:=typeOfE
 have mR:=methodComparable
 have nE:=noIsE
 have uE:=noUnwrapE
 have vE:=noUnwrapsE
 have nW:=noIsF
 have uW:=hasUnwrapF
 have mU:=methodUnwrap
 have heq:=run_eql_iface_ptr_other (P:=Tryz.prog) w Tryz.underlying29 Tryz.underlying179 hi hcmp hj (by rw[hjs];decide) hne ha hb
 have hty:=run_eql_iface_types (P:=Tryz.prog) 66 179 (.pointer (some ⟨pb,0,none⟩)) (.pointer (some b)) Tryz.underlying29 (by decide) w
 go_enter Tryz.func39,Tryz.ntmps39
 go_wp2
 refine wp_loop_rounds 2 ?_
 rw[rounds_succ]
 go_wp2
 rw[rounds_succ]
 go_wp2
 go_ret
 exact⟨rfl,rfl⟩
theorem valueOfT (t:Addr)(w:World):(ReflectliteValue.unpack (.iface 78 (.pointer (some t)))).run Tryz.prog w
  = .ok (.agg #[.pointer (some ⟨10,78,none⟩),.pointer (some ⟨w.heap.size,0,none⟩),.int .u64 150]) (w.alloc (.cells #[.pointer (some t)] 78)):=by kernel_rfl
theorem typeT_fact (a:Addr)(w:World):((find Tryz.f52).map fun e=>(e #[.agg #[.pointer (some ⟨10,78,none⟩),.pointer (some a),.int .u64 150]]).run Tryz.prog w)
  = some (.ok (.iface 139 (.agg #[.pointer (some ⟨10,78,none⟩)])) w):=by kernel_rfl
theorem typeT_entry:∃e,find Tryz.f52=some e∧∀a w,(e #[.agg #[.pointer (some ⟨10,78,none⟩),.pointer (some a),.int .u64 150]]).run Tryz.prog w=.ok (.iface 139 (.agg #[.pointer (some ⟨10,78,none⟩)])) w:=by
 cases h:find Tryz.f52 with
 | none=>have:=typeT_fact default default;rw[h] at this;cases this
 | some e=>exact⟨e,rfl,fun a w=>by have:=typeT_fact a w;rw[h] at this;exact Option.some.inj this⟩
theorem methodKind (h : Value) (w : World) : (Go.method 312 139 (.agg #[h]) "Kind").run Tryz.prog w = .ok (124, h) w := by kernel_rfl
theorem kind_fact (w:World):((find Tryz.f124).map fun e=>((e #[.pointer (some ⟨10,78,none⟩)]).run Tryz.prog w,(e #[.pointer (some ⟨10,66,none⟩)]).run Tryz.prog w))=some (.ok (.int .u8 22) w,.ok (.int .u8 22) w):=by kernel_rfl
theorem kind_entry:∃e,find Tryz.f124=some e∧(∀w,(e #[.pointer (some ⟨10,78,none⟩)]).run Tryz.prog w=.ok (.int .u8 22) w)∧∀w,(e #[.pointer (some ⟨10,66,none⟩)]).run Tryz.prog w=.ok (.int .u8 22) w:=by
 cases h:find Tryz.f124 with
 | none=>have:=kind_fact default;rw[h] at this;cases this
 | some e =>
  have k:∀w,((e #[.pointer (some ⟨10,78,none⟩)]).run Tryz.prog w,(e #[.pointer (some ⟨10,66,none⟩)]).run Tryz.prog w)=(.ok (.int .u8 22) w,.ok (.int .u8 22) w):=fun w=>by
   have:=kind_fact w;rw[h] at this;exact Option.some.inj this
  exact⟨e,rfl,fun w=>congrArg Prod.fst (k w),fun w=>congrArg Prod.snd (k w)⟩
theorem partsT (a:Addr)(w:World):(ReflectliteValue.parts (.agg #[.pointer (some ⟨10,78,none⟩),.pointer (some a),.int .u64 150])).run Tryz.prog w=.ok (some (78,a,150)) w:=by kernel_rfl
theorem isNilT (a p:Addr)(W:World)(ha:W.cell? a=some (.pointer (some p))) :
  (ReflectliteValue.method (ReflectliteValue.valueError "reflectlite.Value.IsNil" 0) ReflectliteValue.isNil #[.agg #[.pointer (some ⟨10, 78, none⟩), .pointer (some a), .int .u64 150]]).run Tryz.prog W = .ok (.bool false) W := by
 delta ReflectliteValue.method ReflectliteValue.method.match_2
 simp[Array.getLit,partsT,ReflectliteValue.isNil,loadVar,isAgg,underlying,Tryz.underlying78,ha,Result.andThen]
theorem methodElem (h : Value) (w : World) : (Go.method 312 139 (.agg #[h]) "Elem").run Tryz.prog w = .ok (135, .agg #[h]) w := by kernel_rfl
theorem methodImplements (h : Value) (w : World) : (Go.method 312 139 (.agg #[h]) "Implements").run Tryz.prog w = .ok (136, .agg #[h]) w := by kernel_rfl
theorem methodAssignableTo (h : Value) (w : World) : (Go.method 312 139 (.agg #[h]) "AssignableTo").run Tryz.prog w = .ok (133, .agg #[h]) w := by kernel_rfl
theorem elemT_fact (w:World):((find Tryz.f135).map fun e=>(e #[.agg #[.pointer (some ⟨10,78,none⟩)]]).run Tryz.prog w)=some (.ok (.iface 139 (.agg #[.pointer (some ⟨10,66,none⟩)])) w):=by kernel_rfl
theorem elemT_entry:∃e,find Tryz.f135=some e∧∀w,(e #[.agg #[.pointer (some ⟨10,78,none⟩)]]).run Tryz.prog w=.ok (.iface 139 (.agg #[.pointer (some ⟨10,66,none⟩)])) w:=by
 cases h:find Tryz.f135 with
 | none=>have:=elemT_fact default;rw[h] at this;cases this
 | some e=>exact⟨e,rfl,fun w=>by have:=elemT_fact w;rw[h] at this;exact Option.some.inj this⟩
theorem impl_fact (w:World):((find Tryz.f136).map fun e=>(e #[.agg #[.pointer (some ⟨10,66,none⟩)],.iface 139 (.agg #[.pointer (some ⟨10,29,none⟩)])]).run Tryz.prog w)=some (.ok (.bool true) w):=by kernel_rfl
theorem impl_entry:∃e,find Tryz.f136=some e∧∀w,(e #[.agg #[.pointer (some ⟨10,66,none⟩)],.iface 139 (.agg #[.pointer (some ⟨10,29,none⟩)])]).run Tryz.prog w=.ok (.bool true) w:=by
 cases h:find Tryz.f136 with
 | none=>have:=impl_fact default;rw[h] at this;cases this
 | some e=>exact⟨e,rfl,fun w=>by have:=impl_fact w;rw[h] at this;exact Option.some.inj this⟩
theorem assign_fact (w:World):((find Tryz.f133).map fun e=>((e #[.agg #[.pointer (some ⟨10,66,none⟩)],.iface 139 (.agg #[.pointer (some ⟨10,66,none⟩)])]).run Tryz.prog w,(e #[.agg #[.pointer (some ⟨10,179,none⟩)],.iface 139 (.agg #[.pointer (some ⟨10,66,none⟩)])]).run Tryz.prog w))=some (.ok (.bool true) w,.ok (.bool false) w):=by kernel_rfl
theorem assign_entry:∃e,find Tryz.f133=some e∧(∀w,(e #[.agg #[.pointer (some ⟨10,66,none⟩)],.iface 139 (.agg #[.pointer (some ⟨10,66,none⟩)])]).run Tryz.prog w=.ok (.bool true) w)∧∀w,(e #[.agg #[.pointer (some ⟨10,179,none⟩)],.iface 139 (.agg #[.pointer (some ⟨10,66,none⟩)])]).run Tryz.prog w=.ok (.bool false) w:=by
 cases h:find Tryz.f133 with
 | none=>have:=assign_fact default;rw[h] at this;cases this
 | some e =>
  have k:=fun w=>by have:=assign_fact w;rw[h] at this;exact Option.some.inj this
  exact⟨e,rfl,fun w=>congrArg Prod.fst (k w),fun w=>congrArg Prod.snd (k w)⟩
theorem valueOfF (e:Addr)(w:World):(ReflectliteValue.unpack (.iface 66 (.pointer (some e)))).run Tryz.prog w
  = .ok (.agg #[.pointer (some ⟨10,66,none⟩),.pointer (some ⟨w.heap.size,0,none⟩),.int .u64 150]) (w.alloc (.cells #[.pointer (some e)] 66)):=by kernel_rfl
theorem elemOfT (w:World):(Rtype.elem? 78).run Tryz.prog w=.ok (some 66) w:=by kernel_rfl
theorem mkF (p:Addr)(w:World):(ReflectliteValue.mk 66 p ReflectliteValue.flagAddr).run Tryz.prog w=.ok (.agg #[.pointer (some ⟨10,66,none⟩),.pointer (some p),.int .u64 406]) w:=by kernel_rfl
theorem elemVT (a p:Addr)(W:World)(ha:W.cell? a=some (.pointer (some p))) :
  (ReflectliteValue.method (ReflectliteValue.valueError "reflectlite.Value.Elem" 0) ReflectliteValue.elem #[.agg #[.pointer (some ⟨10, 78, none⟩), .pointer (some a), .int .u64 150]]).run Tryz.prog W
   = .ok (.agg #[.pointer (some ⟨10,66,none⟩),.pointer (some p),.int .u64 406]) W:=by
 delta ReflectliteValue.method ReflectliteValue.method.match_2
 simp[Array.getLit,partsT,ReflectliteValue.elem,loadVar,isAgg,underlying,Tryz.underlying78,ha,Result.andThen,elemOfT,mkF]
theorem partsFa (a:Addr)(w:World):(ReflectliteValue.parts (.agg #[.pointer (some ⟨10,66,none⟩),.pointer (some a),.int .u64 406])).run Tryz.prog w=.ok (some (66,a,406)) w:=by kernel_rfl
theorem partsF (a:Addr)(w:World):(ReflectliteValue.parts (.agg #[.pointer (some ⟨10,66,none⟩),.pointer (some a),.int .u64 150])).run Tryz.prog w=.ok (some (66,a,150)) w:=by kernel_rfl
theorem directF (w:World):(Rtype.directlyAssignable 66 66).run Tryz.prog w=.ok true w:=by kernel_rfl
theorem setF (ta b e:Addr)(old:Value)(W:World)(hb:W.cell? b=some (.pointer (some e)))(ht:W.cell? ta=some old)(hf:W.frozen? ta=false) :
  (ReflectliteValue.set #[.agg #[.pointer (some ⟨10,66,none⟩),.pointer (some ta),.int .u64 406],.agg #[.pointer (some ⟨10,66,none⟩),.pointer (some b),.int .u64 150]]).run Tryz.prog W
   = .ok (.tuple #[]) (W.setCell ta (.pointer (some e))):=by
 delta ReflectliteValue.set ReflectliteValue.set.match_3
 simp[Array.getLit,partsFa,partsF,ReflectliteValue.flagAddr,loadVar,isAgg,underlying,Tryz.underlying66,hb,Result.andThen,directF,storeVar,Value.cells,storeCells,Addr.add]
 rw[run_store Tryz.prog W ta _ _ (by rfl)]
 simp[ht,hf]
theorem lt_of_cell {w:World}{a:Addr}{v:Value}(h:w.cell? a=some v):a.block<w.heap.size:=by
 rcases Nat.lt_or_ge a.block w.heap.size with h'|h'
 ·exact h'
 ·simp[World.cell?,Array.getElem?_eq_none h'] at h
theorem as_hit (e t:Addr)(old:Value)(w:World)(hg:w.cell? ⟨9,0,none⟩=some (.iface 139 (.agg #[.pointer (some ⟨10,29,none⟩)])))(ht0:w.cell? t=some old)(hf0:w.frozen? t=false) :
  Calls Tryz.prog 38 #[.iface 66 (.pointer (some e)),.iface 78 (.pointer (some t))] w fun ev w'=>ev=.returned (.bool true)∧w'=((((w.alloc (.cells #[.pointer (some t)] 78)).alloc (.cells #[.pointer (some ⟨10,78,none⟩),.pointer (some ⟨w.heap.size,0,none⟩),.int .u64 150] 106)).alloc (.cells #[.pointer (some ⟨10,78,none⟩),.pointer (some ⟨w.heap.size,0,none⟩),.int .u64 150] 106)).alloc (.cells #[.pointer (some e)] 66)).setCell t (.pointer (some e)):=by
 have h6:=@run_callFunc_extern Tryz.prog 51 _ (fun args=>ReflectliteValue.unpack (args.getD 0 (.tuple #[]))) Tryz.func51 (by kernel_rfl) (by kernel_rfl) (by kernel_rfl) (by kernel_rfl)
 obtain⟨e7,he7,f7⟩:=typeT_entry
 have h7:=@run_callFunc_extern Tryz.prog 52 _ e7 Tryz.func52 (by kernel_rfl) (by kernel_rfl) (by kernel_rfl) he7
 have h8 := @run_callFunc_extern Tryz.prog 53 _ (ReflectliteValue.method (ReflectliteValue.valueError "reflectlite.Value.IsNil" 0) ReflectliteValue.isNil) Tryz.func53 (by kernel_rfl) (by kernel_rfl) (by kernel_rfl) (by kernel_rfl)
 obtain⟨eK,heK,kT,kF⟩:=kind_entry
 have hK:=@run_callFunc_extern Tryz.prog 124 _ eK Tryz.func124 (by kernel_rfl) (by kernel_rfl) (by kernel_rfl) heK
 obtain⟨eE,heE,eT⟩:=elemT_entry
 have hE:=@run_callFunc_extern Tryz.prog 135 _ eE Tryz.func135 (by kernel_rfl) (by kernel_rfl) (by kernel_rfl) heE
 obtain⟨eI,heI,iF⟩:=impl_entry
 have hI:=@run_callFunc_extern Tryz.prog 136 _ eI Tryz.func136 (by kernel_rfl) (by kernel_rfl) (by kernel_rfl) heI
 have hO:=@run_callFunc_extern Tryz.prog 55 _ ReflectliteType.typeOf Tryz.func55 (by kernel_rfl) (by kernel_rfl) (by kernel_rfl) (by kernel_rfl)
 obtain⟨eA,heA,aF,_⟩:=assign_entry
 have hA:=@run_callFunc_extern Tryz.prog 133 _ eA Tryz.func133 (by kernel_rfl) (by kernel_rfl) (by kernel_rfl) heA
 have h11 := @run_callFunc_extern Tryz.prog 80 _ (ReflectliteValue.method (ReflectliteValue.valueError "reflectlite.Value.Elem" 0) ReflectliteValue.elem) Tryz.func80 (by kernel_rfl) (by kernel_rfl) (by kernel_rfl) (by kernel_rfl)
 have h12:=@run_callFunc_extern Tryz.prog 81 _ ReflectliteValue.set Tryz.func81 (by kernel_rfl) (by kernel_rfl) (by kernel_rfl) (by kernel_rfl)
 clear he7 heK heE heI heA
 have tO:=typeOfF
 have mA:=methodAssignableTo
 have v25:=valueOfF
 have f6:=valueOfT
 have mK:=methodKind
 have mE:=methodElem
 have mI:=methodImplements
 have n8:=isNilT ⟨w.heap.size,0,none⟩ t ((w.alloc (.cells #[.pointer (some t)] 78)).alloc (.cells #[.pointer (some ⟨10,78,none⟩),.pointer (some ⟨w.heap.size,0,none⟩),.int .u64 150] 106)) (by simp)
 have hlt:9<w.heap.size:=lt_of_cell hg
 have hg2:((w.alloc (.cells #[.pointer (some t)] 78)).alloc (.cells #[.pointer (some ⟨10,78,none⟩),.pointer (some ⟨w.heap.size,0,none⟩),.int .u64 150] 106)).cell? ⟨9,0,none⟩=some (.iface 139 (.agg #[.pointer (some ⟨10,29,none⟩)])):=by
  rw[World.cell?_alloc_lt _ _ ⟨9,0,none⟩ (by simp;omega),World.cell?_alloc_lt _ _ ⟨9,0,none⟩ hlt];exact hg
 have htl:t.block<w.heap.size:=lt_of_cell ht0
 have el:=elemVT ⟨w.heap.size,0,none⟩ t (((w.alloc (.cells #[.pointer (some t)] 78)).alloc (.cells #[.pointer (some ⟨10,78,none⟩),.pointer (some ⟨w.heap.size,0,none⟩),.int .u64 150] 106)).alloc (.cells #[.pointer (some ⟨10,78,none⟩),.pointer (some ⟨w.heap.size,0,none⟩),.int .u64 150] 106)) (by rw[World.cell?_alloc_lt _ _ ⟨w.heap.size,0,none⟩ (by simp;omega)];simp)
 have st:=setF t ⟨w.heap.size+1+1+1,0,none⟩ e old ((((w.alloc (.cells #[.pointer (some t)] 78)).alloc (.cells #[.pointer (some ⟨10,78,none⟩),.pointer (some ⟨w.heap.size,0,none⟩),.int .u64 150] 106)).alloc (.cells #[.pointer (some ⟨10,78,none⟩),.pointer (some ⟨w.heap.size,0,none⟩),.int .u64 150] 106)).alloc (.cells #[.pointer (some e)] 66))
  (by rw[World.cell?_alloc_at _ _ _ _ (by simp)];rfl)
  (by rw[World.cell?_alloc_lt _ _ t (by simp;omega),World.cell?_alloc_lt _ _ t (by simp;omega),World.cell?_alloc_lt _ _ t (by simp;omega),World.cell?_alloc_lt _ _ t htl];exact ht0)
  (by rw[World.frozen?_alloc_old _ _ t (by simp;omega),World.frozen?_alloc_old _ _ t (by simp;omega),World.frozen?_alloc_old _ _ t (by simp;omega),World.frozen?_alloc_old _ _ t (Nat.ne_of_lt htl)];exact hf0)
 go_enter Tryz.func38,Tryz.ntmps38
 go_wp2
 refine wp_loop_rounds 1 ?_
 rw[rounds_succ]
 go_wp2
 go_ret
 exact⟨rfl,rfl⟩
theorem as_miss (e t:Addr)(w:World)(hg:w.cell? ⟨9,0,none⟩=some (.iface 139 (.agg #[.pointer (some ⟨10,29,none⟩)]))) :
  Calls Tryz.prog 38 #[.iface 179 (.pointer (some e)),.iface 78 (.pointer (some t))] w fun ev w'=>ev=.returned (.bool false)∧w'=(((w.alloc (.cells #[.pointer (some t)] 78)).alloc (.cells #[.pointer (some ⟨10,78,none⟩),.pointer (some ⟨w.heap.size,0,none⟩),.int .u64 150] 106)).alloc (.cells #[.pointer (some ⟨10,78,none⟩),.pointer (some ⟨w.heap.size,0,none⟩),.int .u64 150] 106)):=by
 have h6:=@run_callFunc_extern Tryz.prog 51 _ (fun args=>ReflectliteValue.unpack (args.getD 0 (.tuple #[]))) Tryz.func51 (by kernel_rfl) (by kernel_rfl) (by kernel_rfl) (by kernel_rfl)
 obtain⟨e7,he7,f7⟩:=typeT_entry
 have h7:=@run_callFunc_extern Tryz.prog 52 _ e7 Tryz.func52 (by kernel_rfl) (by kernel_rfl) (by kernel_rfl) he7
 have h8 := @run_callFunc_extern Tryz.prog 53 _ (ReflectliteValue.method (ReflectliteValue.valueError "reflectlite.Value.IsNil" 0) ReflectliteValue.isNil) Tryz.func53 (by kernel_rfl) (by kernel_rfl) (by kernel_rfl) (by kernel_rfl)
 obtain⟨eK,heK,kT,kF⟩:=kind_entry
 have hK:=@run_callFunc_extern Tryz.prog 124 _ eK Tryz.func124 (by kernel_rfl) (by kernel_rfl) (by kernel_rfl) heK
 obtain⟨eE,heE,eT⟩:=elemT_entry
 have hE:=@run_callFunc_extern Tryz.prog 135 _ eE Tryz.func135 (by kernel_rfl) (by kernel_rfl) (by kernel_rfl) heE
 obtain⟨eI,heI,iF⟩:=impl_entry
 have hI:=@run_callFunc_extern Tryz.prog 136 _ eI Tryz.func136 (by kernel_rfl) (by kernel_rfl) (by kernel_rfl) heI
 have hO:=@run_callFunc_extern Tryz.prog 55 _ ReflectliteType.typeOf Tryz.func55 (by kernel_rfl) (by kernel_rfl) (by kernel_rfl) (by kernel_rfl)
 obtain⟨eA,heA,_,aE⟩:=assign_entry
 have hA:=@run_callFunc_extern Tryz.prog 133 _ eA Tryz.func133 (by kernel_rfl) (by kernel_rfl) (by kernel_rfl) heA
 clear he7 heK heE heI heA
 have tO:=typeOfE
 have mA:=methodAssignableTo
 have f6:=valueOfT
 have mK:=methodKind
 have mE:=methodElem
 have mI:=methodImplements
 have nA:=noAsE
 have uE:=noUnwrapE
 have vE:=noUnwrapsE
 have n8:=isNilT ⟨w.heap.size,0,none⟩ t ((w.alloc (.cells #[.pointer (some t)] 78)).alloc (.cells #[.pointer (some ⟨10,78,none⟩),.pointer (some ⟨w.heap.size,0,none⟩),.int .u64 150] 106)) (by simp)
 have hlt:9<w.heap.size:=lt_of_cell hg
 have hg2:((w.alloc (.cells #[.pointer (some t)] 78)).alloc (.cells #[.pointer (some ⟨10,78,none⟩),.pointer (some ⟨w.heap.size,0,none⟩),.int .u64 150] 106)).cell? ⟨9,0,none⟩=some (.iface 139 (.agg #[.pointer (some ⟨10,29,none⟩)])):=by
  rw[World.cell?_alloc_lt _ _ ⟨9,0,none⟩ (by simp;omega),World.cell?_alloc_lt _ _ ⟨9,0,none⟩ hlt];exact hg
 go_enter Tryz.func38,Tryz.ntmps38
 go_wp2
 refine wp_loop_rounds 1 ?_
 rw[rounds_succ]
 go_wp2
 go_ret
 exact⟨rfl,rfl⟩
structure Errs (a:Nat→Addr)(w:World):Prop where
 handle:w.cell? ⟨9,0,none⟩=some (.iface 139 (.agg #[.pointer (some ⟨10,29,none⟩)]))
 s0:w.cell? ⟨3,0,none⟩=some (.iface 179 (.pointer (some (a 0))))
 s1:w.cell? ⟨0,0,none⟩=some (.iface 179 (.pointer (some (a 1))))
 s2:w.cell? ⟨1,0,none⟩=some (.iface 179 (.pointer (some (a 2))))
 s3:w.cell? ⟨4,0,none⟩=some (.iface 179 (.pointer (some (a 3))))
 s4:w.cell? ⟨2,0,none⟩=some (.iface 179 (.pointer (some (a 4))))
 s5:w.cell? ⟨5,0,none⟩=some (.iface 179 (.pointer (some (a 5))))
 s6:w.cell? ⟨6,0,none⟩=some (.iface 179 (.pointer (some (a 6))))
 s7:w.cell? ⟨7,0,none⟩=some (.iface 179 (.pointer (some (a 7))))
 s8:w.cell? ⟨8,0,none⟩=some (.iface 179 (.pointer (some (a 8))))
 row:∀i,i<9→∃c t,w.heap[(a i).block]?=some (.cells c t (0,0))
 ne:∀i j,i<9→j<9→i≠j→a i≠a j
theorem below_cell {w w':World}(hb:Below w.heap.size w w'){p:Addr}{v:Value}(h:w.cell? p=some v):w'.cell? p=some v:=by
 rw[hb.cell (lt_of_cell h)];exact h
theorem Errs.later {a:Nat→Addr}{w w':World}(h:Errs a w)(hb:Below w.heap.size w w'):Errs a w' where
 handle:=below_cell hb h.handle
 s0:=below_cell hb h.s0
 s1:=below_cell hb h.s1
 s2:=below_cell hb h.s2
 s3:=below_cell hb h.s3
 s4:=below_cell hb h.s4
 s5:=below_cell hb h.s5
 s6:=below_cell hb h.s6
 s7:=below_cell hb h.s7
 s8:=below_cell hb h.s8
 row:=fun i hi=>by
  obtain⟨c,t,hc⟩:=h.row i hi
  have hl:(a i).block<w.heap.size:=by
   rcases Nat.lt_or_ge (a i).block w.heap.size with h'|h'
   ·exact h'
   ·rw[Array.getElem?_eq_none h'] at hc;cases hc
  exact⟨c,t,by rw[hb.block _ hl];exact hc⟩
 ne:=h.ne
def codeNum (i:Nat):Int:=if i<9 then (i:Int)+1 else -1
theorem codeNum_lt {i:Nat}(h:i<9):codeNum i=(i:Int)+1:=if_pos h
theorem codeNum_ge {i:Nat}(h:¬i<9):codeNum i = -1:=if_neg h
theorem ret2 {a b c d:Int}(h1:a=b)(h2:c=d):Ending.returned (.tuple #[.int .i64 a,.int .i64 c])=.returned (.tuple #[.int .i64 b,.int .i64 d]):=by rw[h1,h2]
theorem code_core (a:Nat→Addr)(errT:TypeId)(errP:Value)(i:Nat)(pl:Int)(p:Addr)(w:World)(he:Errs a w)
  (hAs:Calls Tryz.prog 38 #[.iface errT errP,.iface 78 (.pointer (some ⟨w.heap.size,0,none⟩))] (w.alloc (.cells #[.pointer none] 66)) fun ev w'=>ev=.returned (.bool true)∧Below w.heap.size w w'∧w'.cell? ⟨w.heap.size,0,none⟩=some (.pointer (some p))∧w.heap.size<w'.heap.size)
  (hat:w.cell? p=some (.int .i64 pl))
  (hIs:∀k,k<9→∀W,Below w.heap.size w W→Calls Tryz.prog 39 #[.iface errT errP,.iface 179 (.pointer (some (a k)))] W fun e w'=>e=.returned (.bool (decide (k=i)))∧w'=W) :
  Calls Tryz.prog 26 #[.iface errT errP] w fun e w'=>e=.returned (.tuple #[.int .i64 (codeNum i),.int .i64 pl])∧Below w.heap.size w w':=by
 have HIs:Hid _:=hIs
 clear hIs
 go_enter Tryz.func26,Tryz.ntmps26
 go_wp2_with fail
 refine hAs.mono ?_
 rintro e w1 ⟨rfl,hb1,hc1,hz1⟩
 have hat1:=below_cell hb1 hat
 obtain⟨hh,s0,s1,s2,s3,s4,s5,s6,s7,s8,hrow,hne⟩:=he.later hb1
 clear hh hrow hne hAs he hat
 go_wp2_with fail
 obtain⟨W2,hW2⟩:∃W2,W2=w1.alloc (.cells #[.iface 179 (.pointer (some (a 0))),.iface 179 (.pointer (some (a 1))),.iface 179 (.pointer (some (a 2))),.iface 179 (.pointer (some (a 3))),.iface 179 (.pointer (some (a 4))),.iface 179 (.pointer (some (a 5))),.iface 179 (.pointer (some (a 6))),.iface 179 (.pointer (some (a 7))),.iface 179 (.pointer (some (a 8)))] 29):=⟨_,rfl⟩
 rw[←hW2]
 have hwc:∀k,k<9→W2.cell? ⟨w1.heap.size,k,none⟩=some (.iface 179 (.pointer (some (a k)))):=by
  intro k hk
  rw[hW2,World.cell?_alloc_at _ _ _ _ rfl]
  match k,hk with
  | 0,_=>rfl
  | 1,_=>rfl
  | 2,_=>rfl
  | 3,_=>rfl
  | 4,_=>rfl
  | 5,_=>rfl
  | 6,_=>rfl
  | 7,_=>rfl
  | 8,_=>rfl
 have hb2:Below w.heap.size w W2:=by rw[hW2];exact hb1.alloc (Nat.le_of_lt hz1) _
 clear hW2 s0 s1 s2 s3 s4 s5 s6 s7 s8 hat1 hc1
 have HC:Hid _:=hwc
 clear hwc
 go_loopw [3,27] (fun t3 t W=>W=W2∧t3=.int .i64 pl∧∃k:Nat,k≤9∧k≤i∧t=.int .i64 k) (fun _ t _=>9 - (intOf t).toNat)
 case atStart=>exact⟨rfl,rfl,0,by omega,by omega,rfl⟩
 case round =>
  obtain⟨rfl,rfl,k,hk,hki,rfl⟩:=hrel
  by_cases hk9:k<9
  ·have hck:=HC.out k hk9
   go_wp2_with fail
   refine (HIs.out k hk9 _ hb2).mono ?_
   rintro e w' ⟨rfl,rfl⟩
   by_cases hki2:k=i
   ·have hdec:decide (k=i)=true:=by simpa using hki2
    have HK:Hid (k=i):=hki2
    clear hki2
    rw[hdec]
    go_wp2
    go_ret2
    exact⟨ret2 (by rw[codeNum_lt (by have:=HK.out;omega),←HK.out]) rfl,hb2⟩
   ·have hdec:decide (k=i)=false:=by simpa using hki2
    rw[hdec]
    go_wp2
    go_roundw
    case rel=>exact⟨by trivial,by trivial,k+1,by omega,by omega,by go_num⟩
    case measure=>simp[intOf];omega
  ·go_wp2
   go_ret2
   exact⟨ret2 (codeNum_ge (by omega)).symm rfl,hb2⟩
theorem code_bare (a:Nat→Addr)(errT:TypeId)(errP:Value)(i:Nat)(w:World)(he:Errs a w)
  (hAs:Calls Tryz.prog 38 #[.iface errT errP,.iface 78 (.pointer (some ⟨w.heap.size,0,none⟩))] (w.alloc (.cells #[.pointer none] 66)) fun ev w'=>ev=.returned (.bool false)∧Below w.heap.size w w'∧w.heap.size<w'.heap.size)
  (hIs:∀k,k<9→∀W,Below w.heap.size w W→Calls Tryz.prog 39 #[.iface errT errP,.iface 179 (.pointer (some (a k)))] W fun e w'=>e=.returned (.bool (decide (k=i)))∧w'=W) :
  Calls Tryz.prog 26 #[.iface errT errP] w fun e w'=>e=.returned (.tuple #[.int .i64 (codeNum i),.int .i64 (-1)])∧Below w.heap.size w w':=by
 have HIs:Hid _:=hIs
 clear hIs
 go_enter Tryz.func26,Tryz.ntmps26
 go_wp2_with fail
 refine hAs.mono ?_
 rintro e w1 ⟨rfl,hb1,hz1⟩
 obtain⟨hh,s0,s1,s2,s3,s4,s5,s6,s7,s8,hrow,hne⟩:=he.later hb1
 clear hh hrow hne hAs he
 go_wp2_with fail
 obtain⟨W2,hW2⟩:∃W2,W2=w1.alloc (.cells #[.iface 179 (.pointer (some (a 0))),.iface 179 (.pointer (some (a 1))),.iface 179 (.pointer (some (a 2))),.iface 179 (.pointer (some (a 3))),.iface 179 (.pointer (some (a 4))),.iface 179 (.pointer (some (a 5))),.iface 179 (.pointer (some (a 6))),.iface 179 (.pointer (some (a 7))),.iface 179 (.pointer (some (a 8)))] 29):=⟨_,rfl⟩
 rw[←hW2]
 have hwc:∀k,k<9→W2.cell? ⟨w1.heap.size,k,none⟩=some (.iface 179 (.pointer (some (a k)))):=by
  intro k hk
  rw[hW2,World.cell?_alloc_at _ _ _ _ rfl]
  match k,hk with
  | 0,_=>rfl
  | 1,_=>rfl
  | 2,_=>rfl
  | 3,_=>rfl
  | 4,_=>rfl
  | 5,_=>rfl
  | 6,_=>rfl
  | 7,_=>rfl
  | 8,_=>rfl
 have hb2:Below w.heap.size w W2:=by rw[hW2];exact hb1.alloc (Nat.le_of_lt hz1) _
 clear hW2 s0 s1 s2 s3 s4 s5 s6 s7 s8
 have HC:Hid _:=hwc
 clear hwc
 go_loopw [3,27] (fun t3 t W=>W=W2∧t3=.int .i64 (-1)∧∃k:Nat,k≤9∧k≤i∧t=.int .i64 k) (fun _ t _=>9 - (intOf t).toNat)
 case atStart=>exact⟨rfl,rfl,0,by omega,by omega,rfl⟩
 case round =>
  obtain⟨rfl,rfl,k,hk,hki,rfl⟩:=hrel
  by_cases hk9:k<9
  ·have hck:=HC.out k hk9
   go_wp2_with fail
   refine (HIs.out k hk9 _ hb2).mono ?_
   rintro e w' ⟨rfl,rfl⟩
   by_cases hki2:k=i
   ·have hdec:decide (k=i)=true:=by simpa using hki2
    have HK:Hid (k=i):=hki2
    clear hki2
    rw[hdec]
    go_wp2
    go_ret2
    exact⟨ret2 (by rw[codeNum_lt (by have:=HK.out;omega),←HK.out]) rfl,hb2⟩
   ·have hdec:decide (k=i)=false:=by simpa using hki2
    rw[hdec]
    go_wp2
    go_roundw
    case rel=>exact⟨by trivial,by trivial,k+1,by omega,by omega,by go_num⟩
    case measure=>simp[intOf];omega
  ·go_wp2
   go_ret2
   exact⟨ret2 (codeNum_ge (by omega)).symm rfl,hb2⟩
theorem code_nil (w:World):Calls Tryz.prog 26 #[.nilIface] w fun e w'=>e=.returned (.tuple #[.int .i64 0,.int .i64 (-1)])∧w'=w:=by
 go_enter Tryz.func26,Tryz.ntmps26
 go_wp2
 go_ret2
 exact⟨rfl,rfl⟩
theorem code_sent (a:Nat→Addr)(i:Nat)(hi:i<9)(w:World)(he:Errs a w) :
  Calls Tryz.prog 26 #[.iface 179 (.pointer (some (a i)))] w fun e w'=>e=.returned (.tuple #[.int .i64 (codeNum i),.int .i64 (-1)])∧Below w.heap.size w w':=by
 refine code_bare a 179 (.pointer (some (a i))) i w he ?_ ?_
 ·refine (as_miss (a i) ⟨w.heap.size,0,none⟩ (w.alloc (.cells #[.pointer none] 66)) (below_cell ((Below.refl _ _).alloc (Nat.le_refl _) _) he.handle)).mono ?_
  rintro ev w' ⟨rfl,rfl⟩
  exact⟨rfl,((((Below.refl _ _).alloc (Nat.le_refl _) _).alloc (by simp) _).alloc (by simp;omega) _).alloc (by simp;omega) _,by simp;omega⟩
 ·intro k hk W hb
  have hW:=he.later hb
  by_cases h:k=i
  ·subst h
   rw[decide_eq_true rfl]
   exact is_same (a k) W
  ·rw[decide_eq_false h]
   obtain⟨c,t,hr⟩:=hW.row i hi
   obtain⟨c',t',hr'⟩:=hW.row k hk
   exact is_other (a i) (a k) c c' t t' W (hW.ne i k hi hk (fun e=>h e.symm)) hr hr'
theorem code_fault (a:Nat→Addr)(i:Nat)(hi:i<9)(pl:Int)(pb:Nat)(w:World)(he:Errs a w)(h0:w.cell? ⟨pb,0,none⟩=some (.int .i64 pl))(h1:w.cell? ⟨pb,1,none⟩=some (.iface 179 (.pointer (some (a i))))) :
  Calls Tryz.prog 26 #[.iface 66 (.pointer (some ⟨pb,0,none⟩))] w fun e w'=>e=.returned (.tuple #[.int .i64 (codeNum i),.int .i64 pl])∧Below w.heap.size w w':=by
 refine code_core a 66 (.pointer (some ⟨pb,0,none⟩)) i pl ⟨pb,0,none⟩ w he ?_ h0 ?_
 ·refine (as_hit ⟨pb,0,none⟩ ⟨w.heap.size,0,none⟩ (.pointer none) (w.alloc (.cells #[.pointer none] 66)) (below_cell ((Below.refl _ _).alloc (Nat.le_refl _) _) he.handle) (by simp) (by simp)).mono ?_
  rintro ev w' ⟨rfl,rfl⟩
  refine⟨rfl,(((((Below.refl _ _).alloc (Nat.le_refl _) _).alloc (by simp) _).alloc (by simp;omega) _).alloc (by simp;omega) _).alloc (by simp;omega) _ |>.setCell (Nat.le_refl _) _,?_,by simp;omega⟩
  exact World.cell?_setCell_same' _ _ _ (by
   rw[World.cell?_alloc_lt _ _ _ (by simp;omega),World.cell?_alloc_lt _ _ _ (by simp;omega),World.cell?_alloc_lt _ _ _ (by simp;omega),World.cell?_alloc_lt _ _ _ (by simp)];simp)
 ·intro k hk W hb
  have hW:=he.later hb
  by_cases h:k=i
  ·subst h
   rw[decide_eq_true rfl]
   exact is_fault_same pb (a k) W (below_cell hb h1)
  ·rw[decide_eq_false h]
   obtain⟨c,t,hr⟩:=hW.row i hi
   obtain⟨c',t',hr'⟩:=hW.row k hk
   exact is_fault_other pb (a k) (a i) c c' t t' W (below_cell hb h1) (hW.ne i k hi hk (fun e=>h e.symm)) hr hr'
end Go.Proofs.YtjeicikflkjacaaGreatDoor
