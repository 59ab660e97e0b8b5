/- Flows that are the same. -/
import Derived.Test.YtijdaaghomclmabGreatDoorFlCon
import Derived.BigQuiet
import Derived.Deep.QuietTactic
import Derived.Laws.StructEq
namespace Go.Proofs.YtijdaaghomclmabGreatDoor
open Go.RowKit

theorem Flows1.cells {w : World} {v : Value} {L : List Lh.Fl} (h : Flows1 w v L) : ∃ p c, v = .slice p L.length c ∧ ∀ i (hi : i < L.length), ∃ b o, p = some ⟨b, o, none⟩ ∧ w.cell? ⟨b, o + i * 3, none⟩ = some (.int .u64 (L[i].1 : Nat)) ∧ w.cell? ⟨b, o + i * 3 + 1, none⟩ = some (.string L[i].2.1) ∧ w.cell? ⟨b, o + i * 3 + 2, none⟩ = some (.int .i64 L[i].2.2) := by
  rcases h with ⟨rfl, rfl | ⟨ad, c, rfl⟩⟩ | ⟨b, o, c, rfl, _, h⟩
  · exact ⟨_, _, rfl, fun i hi => absurd hi (by simp)⟩
  · exact ⟨_, c, rfl, fun i hi => absurd hi (by simp)⟩
  · exact ⟨_, c, rfl, fun i hi => ⟨b, o, rfl, h i hi⟩⟩

theorem neqFl (k : Nat) (s : ByteArray) (u : Int) (w : World) : (binOp .neq 64 (.agg #[.int .u64 (k : Nat), .string s, .int .i64 u]) (.agg #[.int .u64 (k : Nat), .string s, .int .i64 u])).run Tryz.prog w = .ok (.bool false) w := by
  have hS : Tryz.prog.underlying 64 = some (.struct (Tryz.prog.fieldsOf 64)) := by kernel_rfl
  have hp : Tryz.prog.stoodInHeld 64 = false := by kernel_rfl
  have u1 := Tryz.underlying34
  have a1 := Tryz.isAgg34
  have z1 := Tryz.sizeOf34
  have u2 := Tryz.underlying9
  have a2 := Tryz.isAgg9
  have z2 := Tryz.sizeOf9
  have u3 := Tryz.underlying3
  have a3 := Tryz.isAgg3
  have z3 := Tryz.sizeOf3
  rw [run_neq_struct, show (10000 : Nat) = 9999 + 1 from rfl, run_equalIn_agg w 9999 64 _ _ hS hp]
  simp only [Program.fieldsOf, Tryz.underlying64]
  go_simp

set_option maxRecDepth 100000 in
set_option maxHeartbeats 2000000 in
theorem sameFlows_same (va vb : Value) (L : List Lh.Fl) (W : World) (ha : Flows1 W va L) (hb : Flows1 W vb L) (hl : L.length ≤ 1000) :
    Calls Tryz.prog 20 #[va, vb] W fun e w' => e = .returned (.bool true) ∧ Below W.heap.size W w' := by
  obtain ⟨pa, ca, rfl, hca⟩ := ha.cells
  obtain ⟨pb, cb, rfl, hcb⟩ := hb.cells
  have HA : Hid _ := hca
  have HB : Hid _ := hcb
  clear ha hb hca hcb
  go_enter Tryz.func20, Tryz.ntmps20
  go_wp2_with fail
  go_loopw [5] (fun u w' => Below W.heap.size W w' ∧ ∃ i : Nat, i ≤ L.length ∧ u = .int .i64 (i : Nat)) (fun u _ => L.length - (intOf u).toNat)
  case atStart => exact ⟨Below.refl _ _, 0, Nat.zero_le _, rfl⟩
  case round =>
    obtain ⟨hb, i, hi, rfl⟩ := hrel
    by_cases hil : i < L.length
    · have hii : (i : Int) < (L.length : Int) := by omega
      obtain ⟨ba, oa, rfl, a0, a1, a2⟩ := HA.out i hil
      obtain ⟨bb, ob, rfl, b0, b1, b2⟩ := HB.out i hil
      have a0' := below_cell hb a0
      have a1' := below_cell hb a1
      have a2' := below_cell hb a2
      have b0' := below_cell hb b0
      have b1' := below_cell hb b1
      have b2' := below_cell hb b2
      clear a0 a1 a2 b0 b1 b2
      generalize (L[i]).1 = k at *
      generalize (L[i]).2.1 = s at *
      generalize (L[i]).2.2 = u at *
      have hne := neqFl k s u
      go_wp2_with fail
      go_quiet (fail)
      go_wp2
      exact ⟨⟨below_drewN hb nq, i + 1, by omega, by go_num⟩, by simp [intOf]; omega⟩
    · have hii : decide ((i : Int) < (L.length : Int)) = false := by simp; omega
      go_wp2
      go_ret
      exact ⟨rfl, hb⟩
end Go.Proofs.YtijdaaghomclmabGreatDoor
