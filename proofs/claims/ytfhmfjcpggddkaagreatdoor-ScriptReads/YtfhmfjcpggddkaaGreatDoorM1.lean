/- errors.As at a target of type **api.Fault, by its contracts. -/
import Derived.Test.YtfhmfjcpggddkaaGreatDoorM0
import Derived.Test.YtfhmfjcpggddkaaGreatDoorRows
import Derived.ProofKit
import Derived.LaidMore
import Derived.OpenShut
import Derived.Stop.Joined
import Derived.Stop.LaidErr
import Derived.LaidLaws
import Derived.LaidHandle
namespace Go.Proofs.YtfhmfjcpggddkaaGreatDoor
open Go.RowKit Go.Extern.Stop Go.Stop Go.Extern

theorem lt_of_cell {w : World} {a : Addr} {v : Value} (h : w.cell? a = some v) : a.block < w.heap.size := by
  rcases Nat.lt_or_ge a.block w.heap.size with h' | h'
  · exact h'
  · simp [World.cell?, Array.getElem?_eq_none h'] at h

set_option maxHeartbeats 4000000 in
theorem as_hit (e t : Addr) (old : Value) (w : World) (hg : w.cell? ⟨9, 0, none⟩ = some (.iface 231 (.agg #[.pointer (some ⟨23, 25, none⟩)]))) (ht0 : w.cell? t = some old) (hf0 : w.frozen? t = false) :
    Calls Tryz.prog 61 #[.iface 103 (.pointer (some e)), .iface 105 (.pointer (some t))] w fun ev w' => ev = .returned (.bool true) ∧ w' = ((((w.alloc (.cells #[.pointer (some t)] 105)).alloc (.cells #[.pointer (some ⟨23, 105, none⟩), .pointer (some ⟨w.heap.size, 0, none⟩), .int .u64 150] 169)).alloc (.cells #[.pointer (some ⟨23, 105, none⟩), .pointer (some ⟨w.heap.size, 0, none⟩), .int .u64 150] 169)).alloc (.cells #[.pointer (some e)] 103)).setCell t (.pointer (some e)) := by
  have h6 := @run_callFunc_extern Tryz.prog 110 _ (fun args => ReflectliteValue.unpack (args.getD 0 (.tuple #[]))) Tryz.func110 (by kernel_rfl) (by kernel_rfl) (by kernel_rfl) (by kernel_rfl)
  obtain ⟨e7, he7, f7⟩ := typeT_entry
  have h7 := @run_callFunc_extern Tryz.prog 111 _ e7 Tryz.func111 (by kernel_rfl) (by kernel_rfl) (by kernel_rfl) he7
  have h8 := @run_callFunc_extern Tryz.prog 112 _ (ReflectliteValue.method (ReflectliteValue.valueError "reflectlite.Value.IsNil" 0) ReflectliteValue.isNil) Tryz.func112 (by kernel_rfl) (by kernel_rfl) (by kernel_rfl) (by kernel_rfl)
  obtain ⟨eK, heK, kT, kF⟩ := kind_entry
  have hK := @run_callFunc_extern Tryz.prog 338 _ eK Tryz.func338 (by kernel_rfl) (by kernel_rfl) (by kernel_rfl) heK
  obtain ⟨eE, heE, eT⟩ := elemT_entry
  have hE := @run_callFunc_extern Tryz.prog 352 _ eE Tryz.func352 (by kernel_rfl) (by kernel_rfl) (by kernel_rfl) heE
  obtain ⟨eI, heI, iF⟩ := impl_entry
  have hI := @run_callFunc_extern Tryz.prog 353 _ eI Tryz.func353 (by kernel_rfl) (by kernel_rfl) (by kernel_rfl) heI
  have hO := @run_callFunc_extern Tryz.prog 114 _ ReflectliteType.typeOf Tryz.func114 (by kernel_rfl) (by kernel_rfl) (by kernel_rfl) (by kernel_rfl)
  obtain ⟨eA, heA, aF, _⟩ := assign_entry
  have hA := @run_callFunc_extern Tryz.prog 350 _ eA Tryz.func350 (by kernel_rfl) (by kernel_rfl) (by kernel_rfl) heA
  have h11 := @run_callFunc_extern Tryz.prog 168 _ (ReflectliteValue.method (ReflectliteValue.valueError "reflectlite.Value.Elem" 0) ReflectliteValue.elem) Tryz.func168 (by kernel_rfl) (by kernel_rfl) (by kernel_rfl) (by kernel_rfl)
  have h12 := @run_callFunc_extern Tryz.prog 169 _ ReflectliteValue.set Tryz.func169 (by kernel_rfl) (by kernel_rfl) (by kernel_rfl) (by kernel_rfl)
  clear he7 heK heE heI heA
  have tO := typeOfF
  have mA := methodAssignableTo
  have v25 := valueOfF
  have f6 := valueOfT
  have mK := methodKind
  have mE := methodElem
  have mI := methodImplements
  have n8 := isNilT ⟨w.heap.size, 0, none⟩ t ((w.alloc (.cells #[.pointer (some t)] 105)).alloc (.cells #[.pointer (some ⟨23, 105, none⟩), .pointer (some ⟨w.heap.size, 0, none⟩), .int .u64 150] 169)) (by simp)
  have hlt : 9 < w.heap.size := lt_of_cell hg
  have hg2 : ((w.alloc (.cells #[.pointer (some t)] 105)).alloc (.cells #[.pointer (some ⟨23, 105, none⟩), .pointer (some ⟨w.heap.size, 0, none⟩), .int .u64 150] 169)).cell? ⟨9, 0, none⟩ = some (.iface 231 (.agg #[.pointer (some ⟨23, 25, none⟩)])) := by
    rw [World.cell?_alloc_lt _ _ ⟨9, 0, none⟩ (by simp; omega), World.cell?_alloc_lt _ _ ⟨9, 0, none⟩ hlt]; exact hg
  have htl : t.block < w.heap.size := lt_of_cell ht0
  have el := elemVT ⟨w.heap.size, 0, none⟩ t (((w.alloc (.cells #[.pointer (some t)] 105)).alloc (.cells #[.pointer (some ⟨23, 105, none⟩), .pointer (some ⟨w.heap.size, 0, none⟩), .int .u64 150] 169)).alloc (.cells #[.pointer (some ⟨23, 105, none⟩), .pointer (some ⟨w.heap.size, 0, none⟩), .int .u64 150] 169)) (by rw [World.cell?_alloc_lt _ _ ⟨w.heap.size, 0, none⟩ (by simp; omega)]; simp)
  have st := setF t ⟨w.heap.size + 1 + 1 + 1, 0, none⟩ e old ((((w.alloc (.cells #[.pointer (some t)] 105)).alloc (.cells #[.pointer (some ⟨23, 105, none⟩), .pointer (some ⟨w.heap.size, 0, none⟩), .int .u64 150] 169)).alloc (.cells #[.pointer (some ⟨23, 105, none⟩), .pointer (some ⟨w.heap.size, 0, none⟩), .int .u64 150] 169)).alloc (.cells #[.pointer (some e)] 103))
    (by rw [World.cell?_alloc_at _ _ _ _ (by simp)]; rfl)
    (by rw [World.cell?_alloc_lt _ _ t (by simp; omega), World.cell?_alloc_lt _ _ t (by simp; omega), World.cell?_alloc_lt _ _ t (by simp; omega), World.cell?_alloc_lt _ _ t htl]; exact ht0)
    (by rw [World.frozen?_alloc_old _ _ t (by simp; omega), World.frozen?_alloc_old _ _ t (by simp; omega), World.frozen?_alloc_old _ _ t (by simp; omega), World.frozen?_alloc_old _ _ t (Nat.ne_of_lt htl)]; exact hf0)
  go_enter Tryz.func61, Tryz.ntmps61
  go_wp2
  refine wp_loop_rounds 1 ?_
  rw [rounds_succ]
  go_wp2
  go_ret
  exact ⟨rfl, rfl⟩

set_option maxHeartbeats 4000000 in
theorem as_miss (e t : Addr) (w : World) (hg : w.cell? ⟨9, 0, none⟩ = some (.iface 231 (.agg #[.pointer (some ⟨23, 25, none⟩)]))) :
    Calls Tryz.prog 61 #[.iface 378 (.pointer (some e)), .iface 105 (.pointer (some t))] w fun ev w' => ev = .returned (.bool false) ∧ w' = (((w.alloc (.cells #[.pointer (some t)] 105)).alloc (.cells #[.pointer (some ⟨23, 105, none⟩), .pointer (some ⟨w.heap.size, 0, none⟩), .int .u64 150] 169)).alloc (.cells #[.pointer (some ⟨23, 105, none⟩), .pointer (some ⟨w.heap.size, 0, none⟩), .int .u64 150] 169)) := by
  have h6 := @run_callFunc_extern Tryz.prog 110 _ (fun args => ReflectliteValue.unpack (args.getD 0 (.tuple #[]))) Tryz.func110 (by kernel_rfl) (by kernel_rfl) (by kernel_rfl) (by kernel_rfl)
  obtain ⟨e7, he7, f7⟩ := typeT_entry
  have h7 := @run_callFunc_extern Tryz.prog 111 _ e7 Tryz.func111 (by kernel_rfl) (by kernel_rfl) (by kernel_rfl) he7
  have h8 := @run_callFunc_extern Tryz.prog 112 _ (ReflectliteValue.method (ReflectliteValue.valueError "reflectlite.Value.IsNil" 0) ReflectliteValue.isNil) Tryz.func112 (by kernel_rfl) (by kernel_rfl) (by kernel_rfl) (by kernel_rfl)
  obtain ⟨eK, heK, kT, kF⟩ := kind_entry
  have hK := @run_callFunc_extern Tryz.prog 338 _ eK Tryz.func338 (by kernel_rfl) (by kernel_rfl) (by kernel_rfl) heK
  obtain ⟨eE, heE, eT⟩ := elemT_entry
  have hE := @run_callFunc_extern Tryz.prog 352 _ eE Tryz.func352 (by kernel_rfl) (by kernel_rfl) (by kernel_rfl) heE
  obtain ⟨eI, heI, iF⟩ := impl_entry
  have hI := @run_callFunc_extern Tryz.prog 353 _ eI Tryz.func353 (by kernel_rfl) (by kernel_rfl) (by kernel_rfl) heI
  have hO := @run_callFunc_extern Tryz.prog 114 _ ReflectliteType.typeOf Tryz.func114 (by kernel_rfl) (by kernel_rfl) (by kernel_rfl) (by kernel_rfl)
  obtain ⟨eA, heA, _, aE⟩ := assign_entry
  have hA := @run_callFunc_extern Tryz.prog 350 _ eA Tryz.func350 (by kernel_rfl) (by kernel_rfl) (by kernel_rfl) heA
  clear he7 heK heE heI heA
  have tO := typeOfE
  have mA := methodAssignableTo
  have f6 := valueOfT
  have mK := methodKind
  have mE := methodElem
  have mI := methodImplements
  have nA := noAsE
  have uE := noUnwrapE
  have vE := noUnwrapsE
  have n8 := isNilT ⟨w.heap.size, 0, none⟩ t ((w.alloc (.cells #[.pointer (some t)] 105)).alloc (.cells #[.pointer (some ⟨23, 105, none⟩), .pointer (some ⟨w.heap.size, 0, none⟩), .int .u64 150] 169)) (by simp)
  have hlt : 9 < w.heap.size := lt_of_cell hg
  have hg2 : ((w.alloc (.cells #[.pointer (some t)] 105)).alloc (.cells #[.pointer (some ⟨23, 105, none⟩), .pointer (some ⟨w.heap.size, 0, none⟩), .int .u64 150] 169)).cell? ⟨9, 0, none⟩ = some (.iface 231 (.agg #[.pointer (some ⟨23, 25, none⟩)])) := by
    rw [World.cell?_alloc_lt _ _ ⟨9, 0, none⟩ (by simp; omega), World.cell?_alloc_lt _ _ ⟨9, 0, none⟩ hlt]; exact hg
  go_enter Tryz.func61, Tryz.ntmps61
  go_wp2
  refine wp_loop_rounds 1 ?_
  rw [rounds_succ]
  go_wp2
  go_ret
  exact ⟨rfl, rfl⟩
end Go.Proofs.YtfhmfjcpggddkaaGreatDoor

/- plain.Code: the number and the place of an error. -/
namespace Go.Proofs.YtfhmfjcpggddkaaGreatDoor
open Go.RowKit Go.Extern.Stop Go.Stop Go.Extern

/-- The package variables that plain.Code reads: the handle of the type error, and nine errors at different places. -/
structure Errs (a : Nat → Addr) (w : World) : Prop where
  handle : w.cell? ⟨9, 0, none⟩ = some (.iface 231 (.agg #[.pointer (some ⟨23, 25, none⟩)]))
  s0 : w.cell? ⟨1, 0, none⟩ = some (.iface 378 (.pointer (some (a 0))))
  s1 : w.cell? ⟨0, 0, none⟩ = some (.iface 378 (.pointer (some (a 1))))
  s2 : w.cell? ⟨2, 0, none⟩ = some (.iface 378 (.pointer (some (a 2))))
  s3 : w.cell? ⟨3, 0, none⟩ = some (.iface 378 (.pointer (some (a 3))))
  s4 : w.cell? ⟨4, 0, none⟩ = some (.iface 378 (.pointer (some (a 4))))
  s5 : w.cell? ⟨5, 0, none⟩ = some (.iface 378 (.pointer (some (a 5))))
  s6 : w.cell? ⟨6, 0, none⟩ = some (.iface 378 (.pointer (some (a 6))))
  s7 : w.cell? ⟨7, 0, none⟩ = some (.iface 378 (.pointer (some (a 7))))
  s8 : w.cell? ⟨8, 0, none⟩ = some (.iface 378 (.pointer (some (a 8))))
  row : ∀ i, i < 9 → ∃ c t, w.heap[(a i).block]? = some (.cells c t (0, 0))
  ne : ∀ i j, i < 9 → j < 9 → i ≠ j → a i ≠ a j

theorem below_cell {w w' : World} (hb : Below w.heap.size w w') {p : Addr} {v : Value} (h : w.cell? p = some v) : w'.cell? p = some v := by
  rw [hb.cell (lt_of_cell h)]; exact h

theorem Errs.later {a : Nat → Addr} {w w' : World} (h : Errs a w) (hb : Below w.heap.size w w') : Errs a w' where
  handle := below_cell hb h.handle
  s0 := below_cell hb h.s0
  s1 := below_cell hb h.s1
  s2 := below_cell hb h.s2
  s3 := below_cell hb h.s3
  s4 := below_cell hb h.s4
  s5 := below_cell hb h.s5
  s6 := below_cell hb h.s6
  s7 := below_cell hb h.s7
  s8 := below_cell hb h.s8
  row := fun i hi => by
    obtain ⟨c, t, hc⟩ := h.row i hi
    have hl : (a i).block < w.heap.size := by
      rcases Nat.lt_or_ge (a i).block w.heap.size with h' | h'
      · exact h'
      · rw [Array.getElem?_eq_none h'] at hc; cases hc
    exact ⟨c, t, by rw [hb.block _ hl]; exact hc⟩
  ne := h.ne

/-- the number of the i-th error; of another one -1 -/
def codeNum (i : Nat) : Int := if i < 9 then (i : Int) + 1 else -1
theorem codeNum_lt {i : Nat} (h : i < 9) : codeNum i = (i : Int) + 1 := if_pos h
theorem codeNum_ge {i : Nat} (h : ¬ i < 9) : codeNum i = -1 := if_neg h
theorem ret2 {a b c d : Int} (h1 : a = b) (h2 : c = d) : Ending.returned (.tuple #[.int .i64 a, .int .i64 c]) = .returned (.tuple #[.int .i64 b, .int .i64 d]) := by rw [h1, h2]

set_option maxHeartbeats 2000000 in
theorem code_core (a : Nat → Addr) (errT : TypeId) (errP : Value) (i : Nat) (pl : Int) (p : Addr) (w : World) (he : Errs a w)
    (hAs : Calls Tryz.prog 61 #[.iface errT errP, .iface 105 (.pointer (some ⟨w.heap.size, 0, none⟩))] (w.alloc (.cells #[.pointer none] 103)) fun ev w' => ev = .returned (.bool true) ∧ Below w.heap.size w w' ∧ w'.cell? ⟨w.heap.size, 0, none⟩ = some (.pointer (some p)) ∧ w.heap.size < w'.heap.size)
    (hat : w.cell? p = some (.int .i64 pl))
    (hIs : ∀ k, k < 9 → ∀ W, Below w.heap.size w W → Calls Tryz.prog 62 #[.iface errT errP, .iface 378 (.pointer (some (a k)))] W fun e w' => e = .returned (.bool (decide (k = i))) ∧ w' = W) :
    Calls Tryz.prog 17 #[.iface errT errP] w fun e w' => e = .returned (.tuple #[.int .i64 (codeNum i), .int .i64 pl]) ∧ Below w.heap.size w w' := by
  have HIs : Hid _ := hIs
  clear hIs
  go_enter Tryz.func17, Tryz.ntmps17
  go_wp2_with fail
  refine hAs.mono ?_
  rintro e w1 ⟨rfl, hb1, hc1, hz1⟩
  have hat1 := below_cell hb1 hat
  obtain ⟨hh, s0, s1, s2, s3, s4, s5, s6, s7, s8, hrow, hne⟩ := he.later hb1
  clear hh hrow hne hAs he hat
  go_wp2_with fail
  obtain ⟨W2, hW2⟩ : ∃ W2, W2 = w1.alloc (.cells #[.iface 378 (.pointer (some (a 0))), .iface 378 (.pointer (some (a 1))), .iface 378 (.pointer (some (a 2))), .iface 378 (.pointer (some (a 3))), .iface 378 (.pointer (some (a 4))), .iface 378 (.pointer (some (a 5))), .iface 378 (.pointer (some (a 6))), .iface 378 (.pointer (some (a 7))), .iface 378 (.pointer (some (a 8)))] 25) := ⟨_, rfl⟩
  rw [← hW2]
  have hwc : ∀ k, k < 9 → W2.cell? ⟨w1.heap.size, k, none⟩ = some (.iface 378 (.pointer (some (a k)))) := by
    intro k hk
    rw [hW2, World.cell?_alloc_at _ _ _ _ rfl]
    match k, hk with
    | 0, _ => rfl
    | 1, _ => rfl
    | 2, _ => rfl
    | 3, _ => rfl
    | 4, _ => rfl
    | 5, _ => rfl
    | 6, _ => rfl
    | 7, _ => rfl
    | 8, _ => rfl
  have hb2 : Below w.heap.size w W2 := by rw [hW2]; exact hb1.alloc (Nat.le_of_lt hz1) _
  clear hW2 s0 s1 s2 s3 s4 s5 s6 s7 s8 hat1 hc1
  have HC : Hid _ := hwc
  clear hwc
  go_loopw [3, 27] (fun t3 t W => W = W2 ∧ t3 = .int .i64 pl ∧ ∃ k : Nat, k ≤ 9 ∧ k ≤ i ∧ t = .int .i64 k) (fun _ t _ => 9 - (intOf t).toNat)
  case atStart => exact ⟨rfl, rfl, 0, by omega, by omega, rfl⟩
  case round =>
    obtain ⟨rfl, rfl, k, hk, hki, rfl⟩ := hrel
    by_cases hk9 : k < 9
    · have hck := HC.out k hk9
      go_wp2_with fail
      refine (HIs.out k hk9 _ hb2).mono ?_
      rintro e w' ⟨rfl, rfl⟩
      by_cases hki2 : k = i
      · have hdec : decide (k = i) = true := by simpa using hki2
        have HK : Hid (k = i) := hki2
        clear hki2
        rw [hdec]
        go_wp2
        go_ret2
        exact ⟨ret2 (by rw [codeNum_lt (by have := HK.out; omega), ← HK.out]) rfl, hb2⟩
      · have hdec : decide (k = i) = false := by simpa using hki2
        rw [hdec]
        go_wp2
        go_roundw
        case rel => exact ⟨by trivial, by trivial, k + 1, by omega, by omega, by go_num⟩
        case measure => simp [intOf]; omega
    · go_wp2
      go_ret2
      exact ⟨ret2 (codeNum_ge (by omega)).symm rfl, hb2⟩
set_option maxHeartbeats 2000000 in
theorem code_bare (a : Nat → Addr) (errT : TypeId) (errP : Value) (i : Nat) (w : World) (he : Errs a w)
    (hAs : Calls Tryz.prog 61 #[.iface errT errP, .iface 105 (.pointer (some ⟨w.heap.size, 0, none⟩))] (w.alloc (.cells #[.pointer none] 103)) fun ev w' => ev = .returned (.bool false) ∧ Below w.heap.size w w' ∧ w.heap.size < w'.heap.size)
    (hIs : ∀ k, k < 9 → ∀ W, Below w.heap.size w W → Calls Tryz.prog 62 #[.iface errT errP, .iface 378 (.pointer (some (a k)))] W fun e w' => e = .returned (.bool (decide (k = i))) ∧ w' = W) :
    Calls Tryz.prog 17 #[.iface errT errP] w fun e w' => e = .returned (.tuple #[.int .i64 (codeNum i), .int .i64 (-1)]) ∧ Below w.heap.size w w' := by
  have HIs : Hid _ := hIs
  clear hIs
  go_enter Tryz.func17, Tryz.ntmps17
  go_wp2_with fail
  refine hAs.mono ?_
  rintro e w1 ⟨rfl, hb1, hz1⟩
  obtain ⟨hh, s0, s1, s2, s3, s4, s5, s6, s7, s8, hrow, hne⟩ := he.later hb1
  clear hh hrow hne hAs he
  go_wp2_with fail
  obtain ⟨W2, hW2⟩ : ∃ W2, W2 = w1.alloc (.cells #[.iface 378 (.pointer (some (a 0))), .iface 378 (.pointer (some (a 1))), .iface 378 (.pointer (some (a 2))), .iface 378 (.pointer (some (a 3))), .iface 378 (.pointer (some (a 4))), .iface 378 (.pointer (some (a 5))), .iface 378 (.pointer (some (a 6))), .iface 378 (.pointer (some (a 7))), .iface 378 (.pointer (some (a 8)))] 25) := ⟨_, rfl⟩
  rw [← hW2]
  have hwc : ∀ k, k < 9 → W2.cell? ⟨w1.heap.size, k, none⟩ = some (.iface 378 (.pointer (some (a k)))) := by
    intro k hk
    rw [hW2, World.cell?_alloc_at _ _ _ _ rfl]
    match k, hk with
    | 0, _ => rfl
    | 1, _ => rfl
    | 2, _ => rfl
    | 3, _ => rfl
    | 4, _ => rfl
    | 5, _ => rfl
    | 6, _ => rfl
    | 7, _ => rfl
    | 8, _ => rfl
  have hb2 : Below w.heap.size w W2 := by rw [hW2]; exact hb1.alloc (Nat.le_of_lt hz1) _
  clear hW2 s0 s1 s2 s3 s4 s5 s6 s7 s8
  have HC : Hid _ := hwc
  clear hwc
  go_loopw [3, 27] (fun t3 t W => W = W2 ∧ t3 = .int .i64 (-1) ∧ ∃ k : Nat, k ≤ 9 ∧ k ≤ i ∧ t = .int .i64 k) (fun _ t _ => 9 - (intOf t).toNat)
  case atStart => exact ⟨rfl, rfl, 0, by omega, by omega, rfl⟩
  case round =>
    obtain ⟨rfl, rfl, k, hk, hki, rfl⟩ := hrel
    by_cases hk9 : k < 9
    · have hck := HC.out k hk9
      go_wp2_with fail
      refine (HIs.out k hk9 _ hb2).mono ?_
      rintro e w' ⟨rfl, rfl⟩
      by_cases hki2 : k = i
      · have hdec : decide (k = i) = true := by simpa using hki2
        have HK : Hid (k = i) := hki2
        clear hki2
        rw [hdec]
        go_wp2
        go_ret2
        exact ⟨ret2 (by rw [codeNum_lt (by have := HK.out; omega), ← HK.out]) rfl, hb2⟩
      · have hdec : decide (k = i) = false := by simpa using hki2
        rw [hdec]
        go_wp2
        go_roundw
        case rel => exact ⟨by trivial, by trivial, k + 1, by omega, by omega, by go_num⟩
        case measure => simp [intOf]; omega
    · go_wp2
      go_ret2
      exact ⟨ret2 (codeNum_ge (by omega)).symm rfl, hb2⟩

theorem code_nil (w : World) : Calls Tryz.prog 17 #[.nilIface] w fun e w' => e = .returned (.tuple #[.int .i64 0, .int .i64 (-1)]) ∧ w' = w := by
  go_enter Tryz.func17, Tryz.ntmps17
  go_wp2
  go_ret2
  exact ⟨rfl, rfl⟩

/-- An error of errors.New's make that is the i-th sentinel. -/
theorem code_sent (a : Nat → Addr) (i : Nat) (hi : i < 9) (w : World) (he : Errs a w) :
    Calls Tryz.prog 17 #[.iface 378 (.pointer (some (a i)))] w fun e w' => e = .returned (.tuple #[.int .i64 (codeNum i), .int .i64 (-1)]) ∧ Below w.heap.size w w' := by
  refine code_bare a 378 (.pointer (some (a i))) i w he ?_ ?_
  · refine (as_miss (a i) ⟨w.heap.size, 0, none⟩ (w.alloc (.cells #[.pointer none] 103)) (below_cell ((Below.refl _ _).alloc (Nat.le_refl _) _) he.handle)).mono ?_
    rintro ev w' ⟨rfl, rfl⟩
    exact ⟨rfl, ((((Below.refl _ _).alloc (Nat.le_refl _) _).alloc (by simp) _).alloc (by simp; omega) _).alloc (by simp; omega) _, by simp; omega⟩
  · intro k hk W hb
    have hW := he.later hb
    by_cases h : k = i
    · subst h
      rw [decide_eq_true rfl]
      exact is_same (a k) W
    · rw [decide_eq_false h]
      obtain ⟨c, t, hr⟩ := hW.row i hi
      obtain ⟨c', t', hr'⟩ := hW.row k hk
      exact is_other (a i) (a k) c c' t t' W (hW.ne i k hi hk (fun e => h e.symm)) hr hr'

/-- A Fault that wraps the i-th sentinel. -/
theorem code_fault (a : Nat → Addr) (i : Nat) (hi : i < 9) (pl : Int) (pb : Nat) (w : World) (he : Errs a w) (h0 : w.cell? ⟨pb, 0, none⟩ = some (.int .i64 pl)) (h1 : w.cell? ⟨pb, 1, none⟩ = some (.iface 378 (.pointer (some (a i))))) :
    Calls Tryz.prog 17 #[.iface 103 (.pointer (some ⟨pb, 0, none⟩))] w fun e w' => e = .returned (.tuple #[.int .i64 (codeNum i), .int .i64 pl]) ∧ Below w.heap.size w w' := by
  refine code_core a 103 (.pointer (some ⟨pb, 0, none⟩)) i pl ⟨pb, 0, none⟩ w he ?_ h0 ?_
  · refine (as_hit ⟨pb, 0, none⟩ ⟨w.heap.size, 0, none⟩ (.pointer none) (w.alloc (.cells #[.pointer none] 103)) (below_cell ((Below.refl _ _).alloc (Nat.le_refl _) _) he.handle) (by simp) (by simp)).mono ?_
    rintro ev w' ⟨rfl, rfl⟩
    refine ⟨rfl, (((((Below.refl _ _).alloc (Nat.le_refl _) _).alloc (by simp) _).alloc (by simp; omega) _).alloc (by simp; omega) _).alloc (by simp; omega) _ |>.setCell (Nat.le_refl _) _, ?_, by simp; omega⟩
    exact World.cell?_setCell_same' _ _ _ (by
      rw [World.cell?_alloc_lt _ _ _ (by simp; omega), World.cell?_alloc_lt _ _ _ (by simp; omega), World.cell?_alloc_lt _ _ _ (by simp; omega), World.cell?_alloc_lt _ _ _ (by simp)]; simp)
  · intro k hk W hb
    have hW := he.later hb
    by_cases h : k = i
    · subst h
      rw [decide_eq_true rfl]
      exact is_fault_same pb (a k) W (below_cell hb h1)
    · rw [decide_eq_false h]
      obtain ⟨c, t, hr⟩ := hW.row i hi
      obtain ⟨c', t', hr'⟩ := hW.row k hk
      exact is_fault_other pb (a k) (a i) c c' t t' W (below_cell hb h1) (hW.ne i k hi hk (fun e => h e.symm)) hr hr'
end Go.Proofs.YtfhmfjcpggddkaaGreatDoor

/- From the row's list of package variables to what the walks ask: the handle of the type error, nine errors at different places. -/
namespace Go.Proofs.YtfhmfjcpggddkaaGreatDoor
open Go.ChangeShapes Go.WideShapes Go.ChangeAt Go.RowKit

theorem own : ownKnob Tryz.prog.godebug = none := by kernel_rfl

/-- A list of errors of errors.New's make, by names and texts. -/
def sentList (l : List (String × List UInt8)) : List (String × DataW Unit) := l.map fun x => (x.1, .iface "*errors.errorString" (.ptr (.agg [.lit (.string x.2)])))
def placeOf (a : Addr) : MemPlace := .cell a.block a.off

theorem sents_of {P : Program} {W : World} {ti tp te ts : TypeId} {ms : Array (String × TypeId)} {f : Field}
    (hi : P.underlying ti = some (.interface ms)) (hrow : ∀ u, P.typeName? 3 u = some "*errors.errorString" → u = tp)
    (hp : P.underlying tp = some (.pointer te)) (he : P.underlying te = some (.struct #[f])) (hft : f.type = ts) (hfo : f.offset = 0) (hs : P.underlying ts = some .string) (hc : P.cellsOf te = 1) (hcs : P.cellsOf ts = 1)
    (all : List MemPlace) (hrows : ∀ b off, MemPlace.cell b off ∈ all → (∃ c t, W.heap[b]? = some (.cells c t (0, 0))) ∧ ∀ u v, W.cell? ⟨b, off, none⟩ = some (.iface u v) → Value.okWide P W .any 0 u v) :
    ∀ (l : List (String × List UInt8)) (ps : List MemPlace), (∀ x ∈ l, ∃ g, P.globalNamed x.1 = some g ∧ (P.globals[g]?).map (·.type) = some ti) → (∀ m ∈ ps, m ∈ all) →
      DataW.LaidVars P W (sentList l) ps →
      ∃ ads : List Addr, ads.length = l.length ∧ (ads.map placeOf).Sublist ps ∧ ∀ i (h : i < l.length) (h' : i < ads.length), W.var? P l[i].1 = some #[.iface tp (.pointer (some ads[i]))]
  | [], ps, _, _, _ => ⟨[], rfl, by simp, fun i h => by simp at h⟩
  | x :: r, ps, hg, hin, hl => by
    obtain ⟨g, t, cs, fuel, p, q, h1, h2, h3, h4, h5, rfl⟩ := hl
    obtain ⟨g', hg1, hg2⟩ := hg x (List.mem_cons_self ..)
    obtain rfl := Option.some.inj (hg1.symm.trans h1)
    obtain rfl := Option.some.inj (hg2.symm.trans h2)
    obtain ⟨l0⟩ := cs
    have ok0 : ∀ u v, l0 = [.iface u v] → Value.okWide P W .any 0 u v := fun u v e => by
      subst e
      exact (hrows g' 0 (hin _ (by simp [MemPlace.row]))).2 u v (by simpa using World.var?_cell h1 h3 0)
    obtain ⟨a, s, rfl, _, _, _, rfl⟩ := errorString_of_trod hi hrow hp he hft hfo hs hc hcs h4 ok0
    obtain ⟨ads, e1, e2, e3⟩ := sents_of hi hrow hp he hft hfo hs hc hcs all hrows r q (fun y hy => hg y (List.mem_cons_of_mem _ hy)) (fun m hm => hin m (List.mem_append_right _ hm)) h5
    refine ⟨a :: ads, by simp [e1], ?_, ?_⟩
    · have : MemPlace.row a 1 = [placeOf a] := by simp [MemPlace.row, placeOf]
      rw [this, List.append_assoc]
      exact (List.Sublist.cons_cons _ e2).trans (List.sublist_append_right _ _)
    · intro i h h'
      cases i with
      | zero => exact h3
      | succ i => exact e3 i (by simpa using h) (by simpa using h')

theorem star : "*errors.errorString" = "*" ++ "errors.errorString" := by decide
theorem rowE (u : TypeId) (h : Tryz.prog.typeName? 3 u = some "*errors.errorString") : u = 378 :=
  typeName_ptr_named (nm := "errors.errorString") (by rw [← star]; kernel_rfl) (by kernel_rfl) (by decide) u (by rw [← star]; exact h)
theorem cellsE : Tryz.prog.cellsOf 380 = 1 := by kernel_rfl
theorem cellsS : Tryz.prog.cellsOf 9 = 1 := by kernel_rfl
theorem gH : Tryz.prog.globalNamed "errors.errorType" = some 9 := by kernel_rfl
theorem rtN : (Tryz.prog.cutTypes.find? (·.1 == "internal/reflectlite.rtype")).map (·.2) = some 231 := by kernel_rfl
theorem oneRowE : ((List.range 416).filter fun t => Tryz.prog.rowNamed t [101, 114, 114, 111, 114]) = [25] := by kernel_rfl
theorem sizeT : Tryz.prog.types.size = 416 := by kernel_rfl

def apiErrs : List (String × List UInt8) := [
  ("levelhand/api.ErrText", [108, 101, 118, 101, 108, 104, 97, 110, 100, 58, 32, 116, 101, 120, 116]),
  ("levelhand/api.ErrBound", [108, 101, 118, 101, 108, 104, 97, 110, 100, 58, 32, 98, 111, 117, 110, 100]),
  ("levelhand/api.ErrShape", [108, 101, 118, 101, 108, 104, 97, 110, 100, 58, 32, 115, 104, 97, 112, 101]),
  ("levelhand/api.ErrName", [108, 101, 118, 101, 108, 104, 97, 110, 100, 58, 32, 110, 97, 109, 101]),
  ("levelhand/api.ErrNone", [108, 101, 118, 101, 108, 104, 97, 110, 100, 58, 32, 110, 111, 110, 101]),
  ("levelhand/api.ErrExist", [108, 101, 118, 101, 108, 104, 97, 110, 100, 58, 32, 101, 120, 105, 115, 116]),
  ("levelhand/api.ErrFull", [108, 101, 118, 101, 108, 104, 97, 110, 100, 58, 32, 102, 117, 108, 108]),
  ("levelhand/api.ErrOld", [108, 101, 118, 101, 108, 104, 97, 110, 100, 58, 32, 111, 108, 100]),
  ("levelhand/api.ErrSum", [108, 101, 118, 101, 108, 104, 97, 110, 100, 58, 32, 115, 117, 109])]
def apiLaid : List (String × DataW Unit) := ("errors.errorType", .iface "internal/reflectlite.rtype" (.agg [.ptr (.lit (.string [101, 114, 114, 111, 114]))])) :: sentList apiErrs

theorem gErr (i : Nat) (h : i < 9) : ∃ x g, apiErrs[i]? = some x ∧ Tryz.prog.globalNamed x.1 = some g ∧ (Tryz.prog.globals[g]?).map (·.type) = some 25 := by
  match i, h with
  | 0, _ => exact ⟨_, 1, rfl, by kernel_rfl, by kernel_rfl⟩
  | 1, _ => exact ⟨_, 0, rfl, by kernel_rfl, by kernel_rfl⟩
  | 2, _ => exact ⟨_, 2, rfl, by kernel_rfl, by kernel_rfl⟩
  | 3, _ => exact ⟨_, 3, rfl, by kernel_rfl, by kernel_rfl⟩
  | 4, _ => exact ⟨_, 4, rfl, by kernel_rfl, by kernel_rfl⟩
  | 5, _ => exact ⟨_, 5, rfl, by kernel_rfl, by kernel_rfl⟩
  | 6, _ => exact ⟨_, 6, rfl, by kernel_rfl, by kernel_rfl⟩
  | 7, _ => exact ⟨_, 7, rfl, by kernel_rfl, by kernel_rfl⟩
  | 8, _ => exact ⟨_, 8, rfl, by kernel_rfl, by kernel_rfl⟩

theorem errs_of_api {W : World} (h : laidMetH Tryz.prog apiLaid W) : ∃ a, Errs a W := by
  have h' : laidMet Tryz.prog (sentList apiErrs) W ∧ handlesMet Tryz.prog [("errors.errorType", .iface "internal/reflectlite.rtype" (.agg [.ptr (.lit (.string [101, 114, 114, 111, 114]))]))] W := h
  obtain ⟨⟨ps, hl, hnd, hrows⟩, hh⟩ := h'
  obtain ⟨name, u, ty, e1, e2, e3, e4, e5⟩ := hh _ (List.mem_singleton.2 rfl)
  have en : name = [101, 114, 114, 111, 114] := (Option.some.inj e1).symm
  subst en
  obtain rfl := Option.some.inj (rtN.symm.trans e2)
  have hm : ty ∈ (List.range 416).filter fun t => Tryz.prog.rowNamed t [101, 114, 114, 111, 114] := List.mem_filter.2 ⟨List.mem_range.2 (by rw [← sizeT]; exact e3), e4⟩
  rw [oneRowE] at hm
  obtain rfl := List.mem_singleton.1 hm
  have hth : typeHandle Tryz.prog 25 = .pointer (some ⟨23, 25, none⟩) := by kernel_rfl
  rw [hth] at e5
  obtain ⟨ads, el, hsub, hv⟩ := sents_of Tryz.underlying25 rowE Tryz.underlying378 Tryz.underlying380 rfl rfl Tryz.underlying9 cellsE cellsS ps hrows apiErrs ps
    (fun x hx => by
      obtain ⟨i, hi, rfl⟩ := List.getElem_of_mem hx
      obtain ⟨y, g, hy, h1, h2⟩ := gErr i hi
      rw [List.getElem?_eq_getElem hi] at hy
      obtain rfl := Option.some.inj hy
      exact ⟨g, h1, h2⟩) (fun _ hm => hm) hl
  have el9 : ads.length = 9 := el
  have hnd' : (ads.map placeOf).Nodup := hnd.sublist hsub
  have cellAt : ∀ (i : Nat) (h : i < 9) (n : String) (g : Nat), (apiErrs[i]'h).1 = n → Tryz.prog.globalNamed n = some g → W.cell? ⟨g, 0, none⟩ = some (.iface 378 (.pointer (some (ads.getD i default)))) := by
    intro i h n g hn hg
    have := hv i h (by omega)
    rw [hn] at this
    have hd : ads.getD i default = ads[i]'(by omega) := by rw [List.getD_eq_getElem?_getD, List.getElem?_eq_getElem (by omega)]; rfl
    rw [hd]
    simpa using World.var?_cell hg this 0
  refine ⟨fun i => ads.getD i default, ?_⟩
  constructor
  · simpa using World.var?_cell gH e5 0
  · exact cellAt 0 (by decide) _ _ rfl (by kernel_rfl)
  · exact cellAt 1 (by decide) _ _ rfl (by kernel_rfl)
  · exact cellAt 2 (by decide) _ _ rfl (by kernel_rfl)
  · exact cellAt 3 (by decide) _ _ rfl (by kernel_rfl)
  · exact cellAt 4 (by decide) _ _ rfl (by kernel_rfl)
  · exact cellAt 5 (by decide) _ _ rfl (by kernel_rfl)
  · exact cellAt 6 (by decide) _ _ rfl (by kernel_rfl)
  · exact cellAt 7 (by decide) _ _ rfl (by kernel_rfl)
  · exact cellAt 8 (by decide) _ _ rfl (by kernel_rfl)
  · intro i hi
    have hmem : placeOf (ads[i]'(by omega)) ∈ ps := hsub.subset (List.mem_map.2 ⟨_, List.getElem_mem _, rfl⟩)
    have hd : ads.getD i default = ads[i]'(by omega) := by rw [List.getD_eq_getElem?_getD, List.getElem?_eq_getElem (by omega)]; rfl
    show ∃ c t, W.heap[(ads.getD i default).block]? = some (.cells c t (0, 0))
    rw [hd]
    exact (hrows _ _ hmem).1
  · intro i j hi hj hij e
    have hdi : ads.getD i default = ads[i]'(by omega) := by rw [List.getD_eq_getElem?_getD, List.getElem?_eq_getElem (by omega)]; rfl
    have hdj : ads.getD j default = ads[j]'(by omega) := by rw [List.getD_eq_getElem?_getD, List.getElem?_eq_getElem (by omega)]; rfl
    have e' : ads[i]'(by omega) = ads[j]'(by omega) := by rw [← hdi, ← hdj]; exact e
    have e2 : (ads.map placeOf)[i]'(by simp; omega) = (ads.map placeOf)[j]'(by simp; omega) := by simp [e']
    have hpw := List.pairwise_iff_getElem.1 hnd'
    rcases Nat.lt_or_gt_of_ne hij with hlt | hlt
    · exact hpw i j (by simp; omega) (by simp; omega) hlt e2
    · exact hpw j i (by simp; omega) (by simp; omega) hlt e2.symm

theorem laidOut : laidOutB Tryz.prog = true := by kernel_rfl
end Go.Proofs.YtfhmfjcpggddkaaGreatDoor

/- Parts of a list of package variables; the errors of a list, by names. -/
namespace Go.Proofs.YtfhmfjcpggddkaaGreatDoor
open Go.RowKit

theorem laidVars_take {P : Program} {w : World} : ∀ (xs ys : List (String × DataW Unit)) (ps : List MemPlace), DataW.LaidVars P w (xs ++ ys) ps → ∃ p1 p2, ps = p1 ++ p2 ∧ DataW.LaidVars P w xs p1
  | [], ys, ps, h => ⟨[], ps, rfl, rfl⟩
  | (n, d) :: xs, ys, ps, h => by
    obtain ⟨g, t, cs, fuel, p, q, h1, h2, h3, h4, h5, rfl⟩ := h
    obtain ⟨p1, p2, rfl, h6⟩ := laidVars_take xs ys q h5
    exact ⟨MemPlace.row ⟨g, 0, none⟩ cs.size ++ p ++ p1, p2, by simp, g, t, cs, fuel, p, p1, h1, h2, h3, h4, h6, rfl⟩
theorem laidMet_take {P : Program} {w : World} {xs ys : List (String × DataW Unit)} (h : laidMet P (xs ++ ys) w) : laidMet P xs w := by
  obtain ⟨ps, h1, h2, h3⟩ := h
  obtain ⟨p1, p2, rfl, h4⟩ := laidVars_take xs ys ps h1
  exact ⟨p1, h4, (List.nodup_append.1 h2).1, fun b off hm => h3 b off (List.mem_append_left _ hm)⟩
theorem laidMet_drop {P : Program} {w : World} : ∀ {xs ys : List (String × DataW Unit)}, laidMet P (xs ++ ys) w → laidMet P ys w
  | [], _, h => h
  | _ :: xs, _, h => laidMet_drop (xs := xs) (laidMet.tail h)
/-- errors of a list, by names -/
theorem sentCells {l : List (String × List UInt8)} {W : World} (h : laidMet Tryz.prog (sentList l) W) (hg : ∀ x ∈ l, ∃ g, Tryz.prog.globalNamed x.1 = some g ∧ (Tryz.prog.globals[g]?).map (·.type) = some 25) :
    ∃ ads : List Addr, ads.length = l.length ∧ ∀ i (hi : i < l.length) (g : Nat), Tryz.prog.globalNamed (l[i]).1 = some g → W.cell? ⟨g, 0, none⟩ = some (.iface 378 (.pointer (some (ads.getD i default)))) := by
  obtain ⟨ps, hl, _, hrows⟩ := h
  obtain ⟨ads, el, _, hv⟩ := sents_of Tryz.underlying25 rowE Tryz.underlying378 Tryz.underlying380 rfl rfl Tryz.underlying9 cellsE cellsS ps hrows l ps hg (fun _ hm => hm) hl
  refine ⟨ads, el, fun i hi g hgn => ?_⟩
  have := hv i hi (by omega)
  have hd : ads.getD i default = ads[i]'(by omega) := by rw [List.getD_eq_getElem?_getD, List.getElem?_eq_getElem (by omega)]; rfl
  rw [hd]
  simpa using World.var?_cell hgn this 0
end Go.Proofs.YtfhmfjcpggddkaaGreatDoor
