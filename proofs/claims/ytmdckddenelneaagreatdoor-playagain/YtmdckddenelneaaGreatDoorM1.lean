/- What errors.As answers at a target of type **api.Fault: a Fault is found, and stored; of another error nothing is found. -/
import Derived.Test.YtmdckddenelneaaGreatDoorM0
namespace Go.Proofs.YtmdckddenelneaaGreatDoor
open Go.RowKit Go.Extern.Stop Go.Stop Go.Extern

theorem valueOfT (t : Addr) (w : World) : (ReflectliteValue.unpack (.iface 106 (.pointer (some t)))).run Tryz.prog w
    = .ok (.agg #[.pointer (some ⟨18, 106, none⟩), .pointer (some ⟨w.heap.size, 0, none⟩), .int .u64 150]) (w.alloc (.cells #[.pointer (some t)] 106)) := by kernel_rfl
theorem typeT_fact (a : Addr) (w : World) : ((find Tryz.f73).map fun e => (e #[.agg #[.pointer (some ⟨18, 106, none⟩), .pointer (some a), .int .u64 150]]).run Tryz.prog w)
    = some (.ok (.iface 191 (.agg #[.pointer (some ⟨18, 106, none⟩)])) w) := by kernel_rfl
theorem typeT_entry : ∃ e, find Tryz.f73 = some e ∧ ∀ a w, (e #[.agg #[.pointer (some ⟨18, 106, none⟩), .pointer (some a), .int .u64 150]]).run Tryz.prog w = .ok (.iface 191 (.agg #[.pointer (some ⟨18, 106, none⟩)])) w := by
  cases h : find Tryz.f73 with
  | none => have := typeT_fact default default; rw [h] at this; cases this
  | some e => exact ⟨e, rfl, fun a w => by have := typeT_fact a w; rw [h] at this; exact Option.some.inj this⟩
theorem methodKind (h : Value) (w : World) : (Go.method 465 191 (.agg #[h]) "Kind").run Tryz.prog w = .ok (285, h) w := by kernel_rfl
theorem kind_fact (w : World) : ((find Tryz.f285).map fun e => ((e #[.pointer (some ⟨18, 106, none⟩)]).run Tryz.prog w, (e #[.pointer (some ⟨18, 104, none⟩)]).run Tryz.prog w)) = some (.ok (.int .u8 22) w, .ok (.int .u8 22) w) := by kernel_rfl
theorem kind_entry : ∃ e, find Tryz.f285 = some e ∧ (∀ w, (e #[.pointer (some ⟨18, 106, none⟩)]).run Tryz.prog w = .ok (.int .u8 22) w) ∧ ∀ w, (e #[.pointer (some ⟨18, 104, none⟩)]).run Tryz.prog w = .ok (.int .u8 22) w := by
  cases h : find Tryz.f285 with
  | none => have := kind_fact default; rw [h] at this; cases this
  | some e =>
    have k : ∀ w, ((e #[.pointer (some ⟨18, 106, none⟩)]).run Tryz.prog w, (e #[.pointer (some ⟨18, 104, none⟩)]).run Tryz.prog w) = (.ok (.int .u8 22) w, .ok (.int .u8 22) w) := fun w => by
      have := kind_fact w; rw [h] at this; exact Option.some.inj this
    exact ⟨e, rfl, fun w => congrArg Prod.fst (k w), fun w => congrArg Prod.snd (k w)⟩
theorem partsT (a : Addr) (w : World) : (ReflectliteValue.parts (.agg #[.pointer (some ⟨18, 106, none⟩), .pointer (some a), .int .u64 150])).run Tryz.prog w = .ok (some (106, a, 150)) w := by kernel_rfl
theorem isNilT (a p : Addr) (W : World) (ha : W.cell? a = some (.pointer (some p))) :
    (ReflectliteValue.method (ReflectliteValue.valueError "reflectlite.Value.IsNil" 0) ReflectliteValue.isNil #[.agg #[.pointer (some ⟨18, 106, none⟩), .pointer (some a), .int .u64 150]]).run Tryz.prog W = .ok (.bool false) W := by
  delta ReflectliteValue.method ReflectliteValue.method.match_2
  simp [Array.getLit, partsT, ReflectliteValue.isNil, loadVar, isAgg, underlying, Tryz.underlying106, ha, Result.andThen]
theorem methodElem (h : Value) (w : World) : (Go.method 465 191 (.agg #[h]) "Elem").run Tryz.prog w = .ok (297, .agg #[h]) w := by kernel_rfl
theorem methodImplements (h : Value) (w : World) : (Go.method 465 191 (.agg #[h]) "Implements").run Tryz.prog w = .ok (298, .agg #[h]) w := by kernel_rfl
theorem methodAssignableTo (h : Value) (w : World) : (Go.method 465 191 (.agg #[h]) "AssignableTo").run Tryz.prog w = .ok (295, .agg #[h]) w := by kernel_rfl
theorem elemT_fact (w : World) : ((find Tryz.f297).map fun e => (e #[.agg #[.pointer (some ⟨18, 106, none⟩)]]).run Tryz.prog w) = some (.ok (.iface 191 (.agg #[.pointer (some ⟨18, 104, none⟩)])) w) := by kernel_rfl
theorem elemT_entry : ∃ e, find Tryz.f297 = some e ∧ ∀ w, (e #[.agg #[.pointer (some ⟨18, 106, none⟩)]]).run Tryz.prog w = .ok (.iface 191 (.agg #[.pointer (some ⟨18, 104, none⟩)])) w := by
  cases h : find Tryz.f297 with
  | none => have := elemT_fact default; rw [h] at this; cases this
  | some e => exact ⟨e, rfl, fun w => by have := elemT_fact w; rw [h] at this; exact Option.some.inj this⟩
theorem impl_fact (w : World) : ((find Tryz.f298).map fun e => (e #[.agg #[.pointer (some ⟨18, 104, none⟩)], .iface 191 (.agg #[.pointer (some ⟨18, 31, none⟩)])]).run Tryz.prog w) = some (.ok (.bool true) w) := by kernel_rfl
theorem impl_entry : ∃ e, find Tryz.f298 = some e ∧ ∀ w, (e #[.agg #[.pointer (some ⟨18, 104, none⟩)], .iface 191 (.agg #[.pointer (some ⟨18, 31, none⟩)])]).run Tryz.prog w = .ok (.bool true) w := by
  cases h : find Tryz.f298 with
  | none => have := impl_fact default; rw [h] at this; cases this
  | some e => exact ⟨e, rfl, fun w => by have := impl_fact w; rw [h] at this; exact Option.some.inj this⟩
theorem assign_fact (w : World) : ((find Tryz.f295).map fun e => ((e #[.agg #[.pointer (some ⟨18, 104, none⟩)], .iface 191 (.agg #[.pointer (some ⟨18, 104, none⟩)])]).run Tryz.prog w, (e #[.agg #[.pointer (some ⟨18, 331, none⟩)], .iface 191 (.agg #[.pointer (some ⟨18, 104, none⟩)])]).run Tryz.prog w)) = some (.ok (.bool true) w, .ok (.bool false) w) := by kernel_rfl
theorem assign_entry : ∃ e, find Tryz.f295 = some e ∧ (∀ w, (e #[.agg #[.pointer (some ⟨18, 104, none⟩)], .iface 191 (.agg #[.pointer (some ⟨18, 104, none⟩)])]).run Tryz.prog w = .ok (.bool true) w) ∧ ∀ w, (e #[.agg #[.pointer (some ⟨18, 331, none⟩)], .iface 191 (.agg #[.pointer (some ⟨18, 104, none⟩)])]).run Tryz.prog w = .ok (.bool false) w := by
  cases h : find Tryz.f295 with
  | none => have := assign_fact default; rw [h] at this; cases this
  | some e =>
    have k := fun w => by have := assign_fact w; rw [h] at this; exact Option.some.inj this
    exact ⟨e, rfl, fun w => congrArg Prod.fst (k w), fun w => congrArg Prod.snd (k w)⟩
theorem valueOfF (e : Addr) (w : World) : (ReflectliteValue.unpack (.iface 104 (.pointer (some e)))).run Tryz.prog w
    = .ok (.agg #[.pointer (some ⟨18, 104, none⟩), .pointer (some ⟨w.heap.size, 0, none⟩), .int .u64 150]) (w.alloc (.cells #[.pointer (some e)] 104)) := by kernel_rfl
theorem elemOfT (w : World) : (Rtype.elem? 106).run Tryz.prog w = .ok (some 104) w := by kernel_rfl
theorem mkF (p : Addr) (w : World) : (ReflectliteValue.mk 104 p ReflectliteValue.flagAddr).run Tryz.prog w = .ok (.agg #[.pointer (some ⟨18, 104, none⟩), .pointer (some p), .int .u64 406]) w := by kernel_rfl
theorem elemVT (a p : Addr) (W : World) (ha : W.cell? a = some (.pointer (some p))) :
    (ReflectliteValue.method (ReflectliteValue.valueError "reflectlite.Value.Elem" 0) ReflectliteValue.elem #[.agg #[.pointer (some ⟨18, 106, none⟩), .pointer (some a), .int .u64 150]]).run Tryz.prog W
      = .ok (.agg #[.pointer (some ⟨18, 104, none⟩), .pointer (some p), .int .u64 406]) W := by
  delta ReflectliteValue.method ReflectliteValue.method.match_2
  simp [Array.getLit, partsT, ReflectliteValue.elem, loadVar, isAgg, underlying, Tryz.underlying106, ha, Result.andThen, elemOfT, mkF]
theorem partsFa (a : Addr) (w : World) : (ReflectliteValue.parts (.agg #[.pointer (some ⟨18, 104, none⟩), .pointer (some a), .int .u64 406])).run Tryz.prog w = .ok (some (104, a, 406)) w := by kernel_rfl
theorem partsF (a : Addr) (w : World) : (ReflectliteValue.parts (.agg #[.pointer (some ⟨18, 104, none⟩), .pointer (some a), .int .u64 150])).run Tryz.prog w = .ok (some (104, a, 150)) w := by kernel_rfl
theorem directF (w : World) : (Rtype.directlyAssignable 104 104).run Tryz.prog w = .ok true w := by kernel_rfl
theorem setF (ta b e : Addr) (old : Value) (W : World) (hb : W.cell? b = some (.pointer (some e))) (ht : W.cell? ta = some old) (hf : W.frozen? ta = false) :
    (ReflectliteValue.set #[.agg #[.pointer (some ⟨18, 104, none⟩), .pointer (some ta), .int .u64 406], .agg #[.pointer (some ⟨18, 104, none⟩), .pointer (some b), .int .u64 150]]).run Tryz.prog W
      = .ok (.tuple #[]) (W.setCell ta (.pointer (some e))) := by
  delta ReflectliteValue.set ReflectliteValue.set.match_3
  simp [Array.getLit, partsFa, partsF, ReflectliteValue.flagAddr, loadVar, isAgg, underlying, Tryz.underlying104, hb, Result.andThen, directF, storeVar, Value.cells, storeCells, Addr.add]
  rw [run_store Tryz.prog W ta _ _ (by rfl)]
  simp [ht, hf]
end Go.Proofs.YtmdckddenelneaaGreatDoor

/- errors.As at a target of type **api.Fault, by its contracts. -/
namespace Go.Proofs.YtmdckddenelneaaGreatDoor
open Go.RowKit Go.Extern.Stop Go.Stop Go.Extern

theorem lt_of_cell {w : World} {a : Addr} {v : Value} (h : w.cell? a = some v) : a.block < w.heap.size := by
  rcases Nat.lt_or_ge a.block w.heap.size with h' | h'
  · exact h'
  · simp [World.cell?, Array.getElem?_eq_none h'] at h

set_option maxHeartbeats 4000000 in
theorem as_hit (e t : Addr) (old : Value) (w : World) (hg : w.cell? ⟨9, 0, none⟩ = some (.iface 191 (.agg #[.pointer (some ⟨18, 31, none⟩)]))) (ht0 : w.cell? t = some old) (hf0 : w.frozen? t = false) :
    Calls Tryz.prog 48 #[.iface 104 (.pointer (some e)), .iface 106 (.pointer (some t))] w fun ev w' => ev = .returned (.bool true) ∧ w' = ((((w.alloc (.cells #[.pointer (some t)] 106)).alloc (.cells #[.pointer (some ⟨18, 106, none⟩), .pointer (some ⟨w.heap.size, 0, none⟩), .int .u64 150] 148)).alloc (.cells #[.pointer (some ⟨18, 106, none⟩), .pointer (some ⟨w.heap.size, 0, none⟩), .int .u64 150] 148)).alloc (.cells #[.pointer (some e)] 104)).setCell t (.pointer (some e)) := by
  have h6 := @run_callFunc_extern Tryz.prog 72 _ (fun args => ReflectliteValue.unpack (args.getD 0 (.tuple #[]))) Tryz.func72 (by kernel_rfl) (by kernel_rfl) (by kernel_rfl) (by kernel_rfl)
  obtain ⟨e7, he7, f7⟩ := typeT_entry
  have h7 := @run_callFunc_extern Tryz.prog 73 _ e7 Tryz.func73 (by kernel_rfl) (by kernel_rfl) (by kernel_rfl) he7
  have h8 := @run_callFunc_extern Tryz.prog 74 _ (ReflectliteValue.method (ReflectliteValue.valueError "reflectlite.Value.IsNil" 0) ReflectliteValue.isNil) Tryz.func74 (by kernel_rfl) (by kernel_rfl) (by kernel_rfl) (by kernel_rfl)
  obtain ⟨eK, heK, kT, kF⟩ := kind_entry
  have hK := @run_callFunc_extern Tryz.prog 285 _ eK Tryz.func285 (by kernel_rfl) (by kernel_rfl) (by kernel_rfl) heK
  obtain ⟨eE, heE, eT⟩ := elemT_entry
  have hE := @run_callFunc_extern Tryz.prog 297 _ eE Tryz.func297 (by kernel_rfl) (by kernel_rfl) (by kernel_rfl) heE
  obtain ⟨eI, heI, iF⟩ := impl_entry
  have hI := @run_callFunc_extern Tryz.prog 298 _ eI Tryz.func298 (by kernel_rfl) (by kernel_rfl) (by kernel_rfl) heI
  have hO := @run_callFunc_extern Tryz.prog 76 _ ReflectliteType.typeOf Tryz.func76 (by kernel_rfl) (by kernel_rfl) (by kernel_rfl) (by kernel_rfl)
  obtain ⟨eA, heA, aF, _⟩ := assign_entry
  have hA := @run_callFunc_extern Tryz.prog 295 _ eA Tryz.func295 (by kernel_rfl) (by kernel_rfl) (by kernel_rfl) heA
  have h11 := @run_callFunc_extern Tryz.prog 106 _ (ReflectliteValue.method (ReflectliteValue.valueError "reflectlite.Value.Elem" 0) ReflectliteValue.elem) Tryz.func106 (by kernel_rfl) (by kernel_rfl) (by kernel_rfl) (by kernel_rfl)
  have h12 := @run_callFunc_extern Tryz.prog 107 _ ReflectliteValue.set Tryz.func107 (by kernel_rfl) (by kernel_rfl) (by kernel_rfl) (by kernel_rfl)
  clear he7 heK heE heI heA
  have tO := typeOfF
  have mA := methodAssignableTo
  have v25 := valueOfF
  have f6 := valueOfT
  have mK := methodKind
  have mE := methodElem
  have mI := methodImplements
  have n8 := isNilT ⟨w.heap.size, 0, none⟩ t ((w.alloc (.cells #[.pointer (some t)] 106)).alloc (.cells #[.pointer (some ⟨18, 106, none⟩), .pointer (some ⟨w.heap.size, 0, none⟩), .int .u64 150] 148)) (by simp)
  have hlt : 9 < w.heap.size := lt_of_cell hg
  have hg2 : ((w.alloc (.cells #[.pointer (some t)] 106)).alloc (.cells #[.pointer (some ⟨18, 106, none⟩), .pointer (some ⟨w.heap.size, 0, none⟩), .int .u64 150] 148)).cell? ⟨9, 0, none⟩ = some (.iface 191 (.agg #[.pointer (some ⟨18, 31, none⟩)])) := by
    rw [World.cell?_alloc_lt _ _ ⟨9, 0, none⟩ (by simp; omega), World.cell?_alloc_lt _ _ ⟨9, 0, none⟩ hlt]; exact hg
  have htl : t.block < w.heap.size := lt_of_cell ht0
  have el := elemVT ⟨w.heap.size, 0, none⟩ t (((w.alloc (.cells #[.pointer (some t)] 106)).alloc (.cells #[.pointer (some ⟨18, 106, none⟩), .pointer (some ⟨w.heap.size, 0, none⟩), .int .u64 150] 148)).alloc (.cells #[.pointer (some ⟨18, 106, none⟩), .pointer (some ⟨w.heap.size, 0, none⟩), .int .u64 150] 148)) (by rw [World.cell?_alloc_lt _ _ ⟨w.heap.size, 0, none⟩ (by simp; omega)]; simp)
  have st := setF t ⟨w.heap.size + 1 + 1 + 1, 0, none⟩ e old ((((w.alloc (.cells #[.pointer (some t)] 106)).alloc (.cells #[.pointer (some ⟨18, 106, none⟩), .pointer (some ⟨w.heap.size, 0, none⟩), .int .u64 150] 148)).alloc (.cells #[.pointer (some ⟨18, 106, none⟩), .pointer (some ⟨w.heap.size, 0, none⟩), .int .u64 150] 148)).alloc (.cells #[.pointer (some e)] 104))
    (by rw [World.cell?_alloc_at _ _ _ _ (by simp)]; rfl)
    (by rw [World.cell?_alloc_lt _ _ t (by simp; omega), World.cell?_alloc_lt _ _ t (by simp; omega), World.cell?_alloc_lt _ _ t (by simp; omega), World.cell?_alloc_lt _ _ t htl]; exact ht0)
    (by rw [World.frozen?_alloc_old _ _ t (by simp; omega), World.frozen?_alloc_old _ _ t (by simp; omega), World.frozen?_alloc_old _ _ t (by simp; omega), World.frozen?_alloc_old _ _ t (Nat.ne_of_lt htl)]; exact hf0)
  go_enter Tryz.func48, Tryz.ntmps48
  go_wp2
  refine wp_loop_rounds 1 ?_
  rw [rounds_succ]
  go_wp2
  go_ret
  exact ⟨rfl, rfl⟩

set_option maxHeartbeats 4000000 in
theorem as_miss (e t : Addr) (w : World) (hg : w.cell? ⟨9, 0, none⟩ = some (.iface 191 (.agg #[.pointer (some ⟨18, 31, none⟩)]))) :
    Calls Tryz.prog 48 #[.iface 331 (.pointer (some e)), .iface 106 (.pointer (some t))] w fun ev w' => ev = .returned (.bool false) ∧ w' = (((w.alloc (.cells #[.pointer (some t)] 106)).alloc (.cells #[.pointer (some ⟨18, 106, none⟩), .pointer (some ⟨w.heap.size, 0, none⟩), .int .u64 150] 148)).alloc (.cells #[.pointer (some ⟨18, 106, none⟩), .pointer (some ⟨w.heap.size, 0, none⟩), .int .u64 150] 148)) := by
  have h6 := @run_callFunc_extern Tryz.prog 72 _ (fun args => ReflectliteValue.unpack (args.getD 0 (.tuple #[]))) Tryz.func72 (by kernel_rfl) (by kernel_rfl) (by kernel_rfl) (by kernel_rfl)
  obtain ⟨e7, he7, f7⟩ := typeT_entry
  have h7 := @run_callFunc_extern Tryz.prog 73 _ e7 Tryz.func73 (by kernel_rfl) (by kernel_rfl) (by kernel_rfl) he7
  have h8 := @run_callFunc_extern Tryz.prog 74 _ (ReflectliteValue.method (ReflectliteValue.valueError "reflectlite.Value.IsNil" 0) ReflectliteValue.isNil) Tryz.func74 (by kernel_rfl) (by kernel_rfl) (by kernel_rfl) (by kernel_rfl)
  obtain ⟨eK, heK, kT, kF⟩ := kind_entry
  have hK := @run_callFunc_extern Tryz.prog 285 _ eK Tryz.func285 (by kernel_rfl) (by kernel_rfl) (by kernel_rfl) heK
  obtain ⟨eE, heE, eT⟩ := elemT_entry
  have hE := @run_callFunc_extern Tryz.prog 297 _ eE Tryz.func297 (by kernel_rfl) (by kernel_rfl) (by kernel_rfl) heE
  obtain ⟨eI, heI, iF⟩ := impl_entry
  have hI := @run_callFunc_extern Tryz.prog 298 _ eI Tryz.func298 (by kernel_rfl) (by kernel_rfl) (by kernel_rfl) heI
  have hO := @run_callFunc_extern Tryz.prog 76 _ ReflectliteType.typeOf Tryz.func76 (by kernel_rfl) (by kernel_rfl) (by kernel_rfl) (by kernel_rfl)
  obtain ⟨eA, heA, _, aE⟩ := assign_entry
  have hA := @run_callFunc_extern Tryz.prog 295 _ eA Tryz.func295 (by kernel_rfl) (by kernel_rfl) (by kernel_rfl) heA
  clear he7 heK heE heI heA
  have tO := typeOfE
  have mA := methodAssignableTo
  have f6 := valueOfT
  have mK := methodKind
  have mE := methodElem
  have mI := methodImplements
  have nA := noAsE
  have uE := noUnwrapE
  have vE := noUnwrapsE
  have n8 := isNilT ⟨w.heap.size, 0, none⟩ t ((w.alloc (.cells #[.pointer (some t)] 106)).alloc (.cells #[.pointer (some ⟨18, 106, none⟩), .pointer (some ⟨w.heap.size, 0, none⟩), .int .u64 150] 148)) (by simp)
  have hlt : 9 < w.heap.size := lt_of_cell hg
  have hg2 : ((w.alloc (.cells #[.pointer (some t)] 106)).alloc (.cells #[.pointer (some ⟨18, 106, none⟩), .pointer (some ⟨w.heap.size, 0, none⟩), .int .u64 150] 148)).cell? ⟨9, 0, none⟩ = some (.iface 191 (.agg #[.pointer (some ⟨18, 31, none⟩)])) := by
    rw [World.cell?_alloc_lt _ _ ⟨9, 0, none⟩ (by simp; omega), World.cell?_alloc_lt _ _ ⟨9, 0, none⟩ hlt]; exact hg
  go_enter Tryz.func48, Tryz.ntmps48
  go_wp2
  refine wp_loop_rounds 1 ?_
  rw [rounds_succ]
  go_wp2
  go_ret
  exact ⟨rfl, rfl⟩
end Go.Proofs.YtmdckddenelneaaGreatDoor
