/- errors.As at a target of type **api.Fault, by its contracts. -/
import Derived.Test.YtijdaaghomclmabDoorAs
namespace Go.Proofs.YtijdaaghomclmabDoor
open Go.RowKit Go.Extern.Stop Go.Stop Go.Extern

theorem lt_of_cell {w : World} {a : Addr} {v : Value} (h : w.cell? a = some v) : a.block < w.heap.size := by
  rcases Nat.lt_or_ge a.block w.heap.size with h' | h'
  · exact h'
  · simp [World.cell?, Array.getElem?_eq_none h'] at h

set_option maxHeartbeats 4000000 in
theorem as_hit (e t : Addr) (old : Value) (w : World) (hg : w.cell? ⟨9, 0, none⟩ = some (.iface 217 (.agg #[.pointer (some ⟨10, 26, none⟩)]))) (ht0 : w.cell? t = some old) (hf0 : w.frozen? t = false) :
    Calls Tryd.prog 98 #[.iface 154 (.pointer (some e)), .iface 156 (.pointer (some t))] w fun ev w' => ev = .returned (.bool true) ∧ w' = ((((w.alloc (.cells #[.pointer (some t)] 156)).alloc (.cells #[.pointer (some ⟨10, 156, none⟩), .pointer (some ⟨w.heap.size, 0, none⟩), .int .u64 150] 188)).alloc (.cells #[.pointer (some ⟨10, 156, none⟩), .pointer (some ⟨w.heap.size, 0, none⟩), .int .u64 150] 188)).alloc (.cells #[.pointer (some e)] 154)).setCell t (.pointer (some e)) := by
  have h6 := @run_callFunc_extern Tryd.prog 127 _ (fun args => ReflectliteValue.unpack (args.getD 0 (.tuple #[]))) Tryd.func127 (by kernel_rfl) (by kernel_rfl) (by kernel_rfl) (by kernel_rfl)
  obtain ⟨e7, he7, f7⟩ := typeT_entry
  have h7 := @run_callFunc_extern Tryd.prog 128 _ e7 Tryd.func128 (by kernel_rfl) (by kernel_rfl) (by kernel_rfl) he7
  have h8 := @run_callFunc_extern Tryd.prog 129 _ (ReflectliteValue.method (ReflectliteValue.valueError "reflectlite.Value.IsNil" 0) ReflectliteValue.isNil) Tryd.func129 (by kernel_rfl) (by kernel_rfl) (by kernel_rfl) (by kernel_rfl)
  obtain ⟨eK, heK, kT, kF⟩ := kind_entry
  have hK := @run_callFunc_extern Tryd.prog 182 _ eK Tryd.func182 (by kernel_rfl) (by kernel_rfl) (by kernel_rfl) heK
  obtain ⟨eE, heE, eT⟩ := elemT_entry
  have hE := @run_callFunc_extern Tryd.prog 193 _ eE Tryd.func193 (by kernel_rfl) (by kernel_rfl) (by kernel_rfl) heE
  obtain ⟨eI, heI, iF⟩ := impl_entry
  have hI := @run_callFunc_extern Tryd.prog 194 _ eI Tryd.func194 (by kernel_rfl) (by kernel_rfl) (by kernel_rfl) heI
  have hO := @run_callFunc_extern Tryd.prog 131 _ ReflectliteType.typeOf Tryd.func131 (by kernel_rfl) (by kernel_rfl) (by kernel_rfl) (by kernel_rfl)
  obtain ⟨eA, heA, aF, _⟩ := assign_entry
  have hA := @run_callFunc_extern Tryd.prog 191 _ eA Tryd.func191 (by kernel_rfl) (by kernel_rfl) (by kernel_rfl) heA
  have h11 := @run_callFunc_extern Tryd.prog 156 _ (ReflectliteValue.method (ReflectliteValue.valueError "reflectlite.Value.Elem" 0) ReflectliteValue.elem) Tryd.func156 (by kernel_rfl) (by kernel_rfl) (by kernel_rfl) (by kernel_rfl)
  have h12 := @run_callFunc_extern Tryd.prog 157 _ ReflectliteValue.set Tryd.func157 (by kernel_rfl) (by kernel_rfl) (by kernel_rfl) (by kernel_rfl)
  clear he7 heK heE heI heA
  have tO := typeOfF
  have mA := methodAssignableTo
  have v25 := valueOfF
  have f6 := valueOfT
  have mK := methodKind
  have mE := methodElem
  have mI := methodImplements
  have n8 := isNilT ⟨w.heap.size, 0, none⟩ t ((w.alloc (.cells #[.pointer (some t)] 156)).alloc (.cells #[.pointer (some ⟨10, 156, none⟩), .pointer (some ⟨w.heap.size, 0, none⟩), .int .u64 150] 188)) (by simp)
  have hlt : 9 < w.heap.size := lt_of_cell hg
  have hg2 : ((w.alloc (.cells #[.pointer (some t)] 156)).alloc (.cells #[.pointer (some ⟨10, 156, none⟩), .pointer (some ⟨w.heap.size, 0, none⟩), .int .u64 150] 188)).cell? ⟨9, 0, none⟩ = some (.iface 217 (.agg #[.pointer (some ⟨10, 26, none⟩)])) := by
    rw [World.cell?_alloc_lt _ _ ⟨9, 0, none⟩ (by simp; omega), World.cell?_alloc_lt _ _ ⟨9, 0, none⟩ hlt]; exact hg
  have htl : t.block < w.heap.size := lt_of_cell ht0
  have el := elemVT ⟨w.heap.size, 0, none⟩ t (((w.alloc (.cells #[.pointer (some t)] 156)).alloc (.cells #[.pointer (some ⟨10, 156, none⟩), .pointer (some ⟨w.heap.size, 0, none⟩), .int .u64 150] 188)).alloc (.cells #[.pointer (some ⟨10, 156, none⟩), .pointer (some ⟨w.heap.size, 0, none⟩), .int .u64 150] 188)) (by rw [World.cell?_alloc_lt _ _ ⟨w.heap.size, 0, none⟩ (by simp; omega)]; simp)
  have st := setF t ⟨w.heap.size + 1 + 1 + 1, 0, none⟩ e old ((((w.alloc (.cells #[.pointer (some t)] 156)).alloc (.cells #[.pointer (some ⟨10, 156, none⟩), .pointer (some ⟨w.heap.size, 0, none⟩), .int .u64 150] 188)).alloc (.cells #[.pointer (some ⟨10, 156, none⟩), .pointer (some ⟨w.heap.size, 0, none⟩), .int .u64 150] 188)).alloc (.cells #[.pointer (some e)] 154))
    (by rw [World.cell?_alloc_at _ _ _ _ (by simp)]; rfl)
    (by rw [World.cell?_alloc_lt _ _ t (by simp; omega), World.cell?_alloc_lt _ _ t (by simp; omega), World.cell?_alloc_lt _ _ t (by simp; omega), World.cell?_alloc_lt _ _ t htl]; exact ht0)
    (by rw [World.frozen?_alloc_old _ _ t (by simp; omega), World.frozen?_alloc_old _ _ t (by simp; omega), World.frozen?_alloc_old _ _ t (by simp; omega), World.frozen?_alloc_old _ _ t (Nat.ne_of_lt htl)]; exact hf0)
  go_enter Tryd.func98, Tryd.ntmps98
  go_wp2
  refine wp_loop_rounds 1 ?_
  rw [rounds_succ]
  go_wp2
  go_ret
  exact ⟨rfl, rfl⟩

set_option maxHeartbeats 4000000 in
theorem as_miss (e t : Addr) (w : World) (hg : w.cell? ⟨9, 0, none⟩ = some (.iface 217 (.agg #[.pointer (some ⟨10, 26, none⟩)]))) :
    Calls Tryd.prog 98 #[.iface 242 (.pointer (some e)), .iface 156 (.pointer (some t))] w fun ev w' => ev = .returned (.bool false) ∧ w' = (((w.alloc (.cells #[.pointer (some t)] 156)).alloc (.cells #[.pointer (some ⟨10, 156, none⟩), .pointer (some ⟨w.heap.size, 0, none⟩), .int .u64 150] 188)).alloc (.cells #[.pointer (some ⟨10, 156, none⟩), .pointer (some ⟨w.heap.size, 0, none⟩), .int .u64 150] 188)) := by
  have h6 := @run_callFunc_extern Tryd.prog 127 _ (fun args => ReflectliteValue.unpack (args.getD 0 (.tuple #[]))) Tryd.func127 (by kernel_rfl) (by kernel_rfl) (by kernel_rfl) (by kernel_rfl)
  obtain ⟨e7, he7, f7⟩ := typeT_entry
  have h7 := @run_callFunc_extern Tryd.prog 128 _ e7 Tryd.func128 (by kernel_rfl) (by kernel_rfl) (by kernel_rfl) he7
  have h8 := @run_callFunc_extern Tryd.prog 129 _ (ReflectliteValue.method (ReflectliteValue.valueError "reflectlite.Value.IsNil" 0) ReflectliteValue.isNil) Tryd.func129 (by kernel_rfl) (by kernel_rfl) (by kernel_rfl) (by kernel_rfl)
  obtain ⟨eK, heK, kT, kF⟩ := kind_entry
  have hK := @run_callFunc_extern Tryd.prog 182 _ eK Tryd.func182 (by kernel_rfl) (by kernel_rfl) (by kernel_rfl) heK
  obtain ⟨eE, heE, eT⟩ := elemT_entry
  have hE := @run_callFunc_extern Tryd.prog 193 _ eE Tryd.func193 (by kernel_rfl) (by kernel_rfl) (by kernel_rfl) heE
  obtain ⟨eI, heI, iF⟩ := impl_entry
  have hI := @run_callFunc_extern Tryd.prog 194 _ eI Tryd.func194 (by kernel_rfl) (by kernel_rfl) (by kernel_rfl) heI
  have hO := @run_callFunc_extern Tryd.prog 131 _ ReflectliteType.typeOf Tryd.func131 (by kernel_rfl) (by kernel_rfl) (by kernel_rfl) (by kernel_rfl)
  obtain ⟨eA, heA, _, aE⟩ := assign_entry
  have hA := @run_callFunc_extern Tryd.prog 191 _ eA Tryd.func191 (by kernel_rfl) (by kernel_rfl) (by kernel_rfl) heA
  clear he7 heK heE heI heA
  have tO := typeOfE
  have mA := methodAssignableTo
  have f6 := valueOfT
  have mK := methodKind
  have mE := methodElem
  have mI := methodImplements
  have nA := noAsE
  have uE := noUnwrapE
  have vE := noUnwrapsE
  have n8 := isNilT ⟨w.heap.size, 0, none⟩ t ((w.alloc (.cells #[.pointer (some t)] 156)).alloc (.cells #[.pointer (some ⟨10, 156, none⟩), .pointer (some ⟨w.heap.size, 0, none⟩), .int .u64 150] 188)) (by simp)
  have hlt : 9 < w.heap.size := lt_of_cell hg
  have hg2 : ((w.alloc (.cells #[.pointer (some t)] 156)).alloc (.cells #[.pointer (some ⟨10, 156, none⟩), .pointer (some ⟨w.heap.size, 0, none⟩), .int .u64 150] 188)).cell? ⟨9, 0, none⟩ = some (.iface 217 (.agg #[.pointer (some ⟨10, 26, none⟩)])) := by
    rw [World.cell?_alloc_lt _ _ ⟨9, 0, none⟩ (by simp; omega), World.cell?_alloc_lt _ _ ⟨9, 0, none⟩ hlt]; exact hg
  go_enter Tryd.func98, Tryd.ntmps98
  go_wp2
  refine wp_loop_rounds 1 ?_
  rw [rounds_succ]
  go_wp2
  go_ret
  exact ⟨rfl, rfl⟩
end Go.Proofs.YtijdaaghomclmabDoor
