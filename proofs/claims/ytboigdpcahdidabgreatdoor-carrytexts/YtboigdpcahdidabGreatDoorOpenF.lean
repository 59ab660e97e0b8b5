/- A list of flows, and a list of flows' acts, among the arguments. -/
import Derived.Test.YtboigdpcahdidabGreatDoorOpM
import Derived.Test.YtboigdpcahdidabGreatDoorFAd
import Derived.ChangeSlices
import Derived.Deep.Slices
namespace Go.Proofs.YtboigdpcahdidabGreatDoor
open Go.ChangeShapes Go.WideShapes Go.ChangeAt Go.RowKit

theorem cellsFl : Tryz.prog.cellsOf 75 = 3 := by kernel_rfl
theorem cellsFA : Tryz.prog.cellsOf 36 = 5 := by kernel_rfl
theorem cellsFs : Tryz.prog.cellsOf 9 = 1 := by kernel_rfl
theorem cellsFu : Tryz.prog.cellsOf 34 = 1 := by kernel_rfl
theorem cellsFi : Tryz.prog.cellsOf 3 = 1 := by kernel_rfl
theorem cellsFf : Tryz.prog.cellsOf 31 = 1 := by kernel_rfl
theorem wf_i64F {n : Int} (h : (Lit.int .i64 n).wf = true) : -9223372036854775808 ≤ n ∧ n ≤ 9223372036854775807 := by
  have := bounds_i64 h
  omega
theorem pick_list {α : Type} {P : Nat → α → Prop} : ∀ n, (∀ i, i < n → ∃ x, P i x) → ∃ l : List α, l.length = n ∧ ∀ k (h : k < l.length), P k l[k]
  | 0, _ => ⟨[], rfl, fun k h => absurd h (by simp)⟩
  | n + 1, h => by
    obtain ⟨l, hl, hp⟩ := pick_list n fun i hi => h i (by omega)
    obtain ⟨x, hx⟩ := h n (by omega)
    refine ⟨l ++ [x], by simp [hl], fun k hk => ?_⟩
    by_cases e : k < l.length
    · rw [List.getElem_append_left e]
      exact hp k e
    · have e2 : k = n := by simp at hk; omega
      subst e2
      simp only [← hl]
      rw [List.getElem_append_right (Nat.le_refl _)]
      simpa [hl] using hx
theorem three_ofF {α : Type} : ∀ {l : List α}, l.length = 3 → ∃ a b c, l = [a, b, c]
  | [a, b, c], _ => ⟨a, b, c, rfl⟩
theorem five_ofF {α : Type} : ∀ {l : List α}, l.length = 5 → ∃ a b c d e, l = [a, b, c, d, e]
  | [a, b, c, d, e], _ => ⟨a, b, c, d, e, rfl⟩
/-- flows as they are handed over -/
theorem open_flows {H : Type} {enc : TypeId × Value → H} {W : World} {fuel : Nat} {x : DataW H × List MemPlace} {v : Value}
    (hf : DataW.trod enc Tryz.prog W 0 (fun _ => true) true fuel 31 [v] = some x) :
    ∃ l : List Lh.Fl, Flows1 W v l ∧ l.length ≤ maxLen ∧ ∀ y ∈ l, y.1 < 18446744073709551616 ∧ y.2.1.size ≤ maxLen ∧ -9223372036854775808 ≤ y.2.2 ∧ y.2.2 ≤ 9223372036854775807 := by
  rcases Go.Deep.open_slice Tryz.underlying31 hf with ⟨hcs, _⟩ | ⟨a, len, cap, mm, n, D, Pl, hcs, _, hl, hm, hmm, _, hx⟩
  · simp at hcs
    subst hcs
    exact ⟨[], Or.inl ⟨rfl, Or.inl rfl⟩, by simp, fun x hx => by cases hx⟩
  · simp at hcs
    subst hcs
    simp only [if_true] at hmm
    by_cases h0 : len = 0
    · subst h0
      exact ⟨[], Or.inl ⟨rfl, Or.inr ⟨a, cap, rfl⟩⟩, by simp, fun x hx => by cases hx⟩
    · obtain ⟨b, off, spot⟩ := a
      have hspot : spot = none := by
        obtain ⟨z, hz⟩ : ∃ z : Nat, z = 0 := ⟨0, rfl⟩
        obtain ⟨cs0, h10, _⟩ := hx z (by omega)
        rw [cellsFl] at h10
        subst hz
        obtain ⟨_, hl0, hc0⟩ := World.cells?_some h10
        obtain ⟨u0, u1, u2, rfl⟩ := three_ofF hl0
        have q0' : W.cell? (((⟨b, off, spot⟩ : Addr).add (0 * 3)).add 0) = some u0 := hc0 0 (by decide)
        simpa [Addr.add] using World.cell?_spot q0'
      subst hspot
      have each : ∀ i, i < len → ∃ x : Lh.Fl, (W.cell? ⟨b, off + i * 3, none⟩ = some (.int .u64 (x.1 : Nat)) ∧ W.cell? ⟨b, off + i * 3 + 1, none⟩ = some (.string x.2.1) ∧ W.cell? ⟨b, off + i * 3 + 2, none⟩ = some (.int .i64 x.2.2)) ∧ x.1 < 18446744073709551616 ∧ x.2.1.size ≤ maxLen ∧ -9223372036854775808 ≤ x.2.2 ∧ x.2.2 ≤ 9223372036854775807 := fun i hi => by
        obtain ⟨cs', h1, h2⟩ := hx i (by omega)
        rw [cellsFl] at h1
        obtain ⟨_, hcl, hcell⟩ := World.cells?_some h1
        obtain ⟨ys, k, _, _, _, hyl, hfl⟩ := DataW.trod_struct Tryz.underlying75 h2
        have hy3 : ys.length = 3 := hyl
        clear hyl
        obtain ⟨v0, v1, v2, rfl⟩ := three_ofF hcl
        have g0 := hfl 0 _ rfl
        have g1 := hfl 1 _ rfl
        have g2 := hfl 2 _ rfl
        rw [List.getElem?_eq_getElem (by omega)] at g0 g1 g2
        obtain ⟨k0, e0, _, z0⟩ := DataW.trod_int Tryz.underlying34 g0
        obtain ⟨s1, e1, _, z1⟩ := DataW.trod_string Tryz.underlying9 g1
        obtain ⟨n2, e2, _, z2⟩ := DataW.trod_int Tryz.underlying3 g2
        have q0 := hcell 0 (by omega)
        have q1 := hcell 1 (by omega)
        have q2 := hcell 2 (by omega)
        rw [Addr.add_lit, Addr.add_lit] at q0 q1 q2
        simp [cellsFu] at e0
        simp [cellsFs] at e1
        simp [cellsFi] at e2
        obtain ⟨w1, w2⟩ := wf_u64 z0
        obtain ⟨w3, w4⟩ := wf_i64F z2
        refine ⟨(k0.toNat, s1, n2), ⟨?_, ?_, ?_⟩, by show k0.toNat < _; omega, z1, w3, w4⟩
        · rw [Nat.add_zero] at q0
          rw [q0, e0]
          have ek : k0 = ((k0.toNat : Nat) : Int) := by omega
          show some (Value.int .u64 k0) = some (Value.int .u64 ((k0.toNat : Nat) : Int))
          rw [← ek]
        · rw [q1, e1]
          rfl
        · rw [q2, e2]
          rfl
      obtain ⟨l, hll, hp⟩ := pick_list len each
      refine ⟨l, Or.inr ⟨b, off, cap, by rw [hll], by omega, fun i hi => (hp i hi).1⟩, by omega, fun x hx => ?_⟩
      obtain ⟨k, hk, rfl⟩ := List.getElem_of_mem hx
      exact (hp k hk).2
/-- acts as they are handed over -/
theorem open_facts {H : Type} {enc : TypeId × Value → H} {W : World} {fuel : Nat} {x : DataW H × List MemPlace} {a0 : Option Addr} {len cap : Nat}
    (hf : DataW.trod enc Tryz.prog W 0 (fun _ => true) true fuel 22 [.slice a0 len cap] = some x) :
    ∃ l : List Fa, len = l.length ∧ FActsAt W a0 l ∧ l.length ≤ maxLen ∧ ∀ x ∈ l, FaOk x := by
  rcases Go.Deep.open_slice Tryz.underlying22 hf with ⟨hcs, _⟩ | ⟨a, len', cap', mm, n, D, Pl, hcs, _, hl, hm, hmm, _, hx⟩
  · simp at hcs
    obtain ⟨rfl, rfl, rfl⟩ := hcs
    exact ⟨[], rfl, fun k h => absurd h (by simp), by simp, fun x hx => by cases hx⟩
  · simp at hcs
    obtain ⟨rfl, rfl, rfl⟩ := hcs
    simp only [if_true] at hmm
    have each : ∀ i, i < len → ∃ x : Fa, (∃ b o, (some a : Option Addr) = some ⟨b, o, none⟩ ∧ W.cell? ⟨b, o + i * 5, none⟩ = some (.string x.kind) ∧ W.cell? ⟨b, o + i * 5 + 1, none⟩ = some (.string x.host) ∧ W.cell? ⟨b, o + i * 5 + 2, none⟩ = some (.int .u64 (x.key : Nat)) ∧ W.cell? ⟨b, o + i * 5 + 3, none⟩ = some (.int .i64 x.now) ∧ W.cell? ⟨b, o + i * 5 + 4, none⟩ = some x.val ∧ Flows1 W x.val x.l) ∧ FaOk x := fun i hi => by
      obtain ⟨cs', h1, h2⟩ := hx i (by omega)
      rw [cellsFA] at h1
      obtain ⟨_, hcl, hcell⟩ := World.cells?_some h1
      obtain ⟨ys, k, _, _, _, hyl, hfl⟩ := DataW.trod_struct Tryz.underlying36 h2
      have hy3 : ys.length = 5 := hyl
      clear hyl
      obtain ⟨v0, v1, v2, v3, v4, rfl⟩ := five_ofF hcl
      have g0 := hfl 0 _ rfl
      have g1 := hfl 1 _ rfl
      have g2 := hfl 2 _ rfl
      have g3 := hfl 3 _ rfl
      have g4 := hfl 4 _ rfl
      rw [List.getElem?_eq_getElem (by omega)] at g0 g1 g2 g3 g4
      obtain ⟨s0, e0, _, z0⟩ := DataW.trod_string Tryz.underlying9 g0
      obtain ⟨s1, e1, _, z1⟩ := DataW.trod_string Tryz.underlying9 g1
      obtain ⟨k2, e2, _, z2⟩ := DataW.trod_int Tryz.underlying34 g2
      obtain ⟨n3, e3, _, z3⟩ := DataW.trod_int Tryz.underlying3 g3
      simp [cellsFf] at g4
      obtain ⟨l4, f4, f5, f6⟩ := open_flows g4
      have q0 := hcell 0 (by omega)
      have q1 := hcell 1 (by omega)
      have q2 := hcell 2 (by omega)
      have q3 := hcell 3 (by omega)
      have q4 := hcell 4 (by omega)
      obtain ⟨b, off, spot⟩ := a
      have hspot : spot = none := by
        obtain ⟨z, hz⟩ : ∃ z : Nat, z = 0 := ⟨0, rfl⟩
        obtain ⟨cs0, h10, _⟩ := hx z (by omega)
        rw [cellsFA] at h10
        subst hz
        obtain ⟨_, hl0, hc0⟩ := World.cells?_some h10
        obtain ⟨u0, u1, u2, u3, u4, rfl⟩ := five_ofF hl0
        have q0' : W.cell? (((⟨b, off, spot⟩ : Addr).add (0 * 5)).add 0) = some u0 := hc0 0 (by decide)
        simpa [Addr.add] using World.cell?_spot q0'
      subst hspot
      rw [Addr.add_lit, Addr.add_lit] at q0 q1 q2 q3 q4
      simp [cellsFs] at e0 e1
      simp [cellsFu] at e2
      simp [cellsFi] at e3
      obtain ⟨w1, w2⟩ := wf_u64 z2
      refine ⟨⟨s0, s1, k2.toNat, n3, v4, l4⟩, ⟨b, off, rfl, ?_, ?_, ?_, ?_, ?_, f4⟩, ⟨z0, z1, by show k2.toNat < _; omega, f5, f6⟩⟩
      · rw [Nat.add_zero] at q0
        rw [q0, e0]
        rfl
      · rw [q1, e1]
        rfl
      · rw [q2, e2]
        have ek : k2 = ((k2.toNat : Nat) : Int) := by omega
        show some (Value.int .u64 k2) = some (Value.int .u64 ((k2.toNat : Nat) : Int))
        rw [← ek]
      · rw [q3, e3]
        rfl
      · rw [q4]
        rfl
    obtain ⟨l, hll, hp⟩ := pick_list len each
    refine ⟨l, hll.symm, fun k hk => (hp k hk).1, by omega, fun x hx => ?_⟩
    obtain ⟨k, hk, rfl⟩ := List.getElem_of_mem hx
    exact (hp k hk).2
end Go.Proofs.YtboigdpcahdidabGreatDoor
