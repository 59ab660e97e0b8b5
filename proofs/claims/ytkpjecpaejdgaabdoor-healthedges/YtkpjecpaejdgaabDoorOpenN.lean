/- A list of numbers, and a list of acts, among the arguments. -/
import Derived.Test.YtkpjecpaejdgaabDoorOpenU
import Derived.Test.YtkpjecpaejdgaabDoorHEd
import Derived.Test.YtkpjecpaejdgaabDoorHA2
import Derived.ChangeSlices
import Derived.Deep.Slices
namespace Go.Proofs.YtkpjecpaejdgaabDoor
open Go.ChangeShapes Go.WideShapes Go.ChangeAt Go.RowKit

theorem cellsIN : Tryd.prog.cellsOf 3 = 1 := by kernel_rfl
theorem cellsAc : Tryd.prog.cellsOf 71 = 3 := by kernel_rfl
theorem cellsSt : Tryd.prog.cellsOf 9 = 1 := by kernel_rfl
theorem cellsBo : Tryd.prog.cellsOf 4 = 1 := by kernel_rfl
theorem open_numsAt {H : Type} {enc : TypeId × Value → H} {W : World} {fuel : Nat} {x : DataW H × List MemPlace} {a0 : Option Addr} {len cap : Nat}
    (hf : DataW.trod enc Tryd.prog W 0 (fun _ => true) true fuel 24 [.slice a0 len cap] = some x) :
    ∃ l : List Int, len = l.length ∧ NumsAt W a0 l ∧ l.length ≤ maxLen := by
  rcases open_ints Tryd.underlying24 Tryd.underlying3 cellsIN hf with ⟨hcs, _⟩ | ⟨a, len', cap', zs, hcs, _, hl, hm, hz, _, hcell, hws⟩
  · simp at hcs
    obtain ⟨rfl, rfl, rfl⟩ := hcs
    exact ⟨[], rfl, fun k h => absurd h (by simp), by simp⟩
  · simp at hcs
    obtain ⟨rfl, rfl, rfl⟩ := hcs
    simp only [if_true] at hz
    have hlen : (zs.take len).length = len := by simp; omega
    refine ⟨zs.take len, hlen.symm, fun k h => ?_, by omega⟩
    have hk : k < zs.length := by omega
    obtain ⟨b, off, spot⟩ := a
    have hspot : spot = none := by simpa [Addr.add] using World.cell?_spot (hcell 0 (by omega))
    subst hspot
    have := hcell k hk
    rw [Addr.add_lit] at this
    exact ⟨b, off, rfl, by rw [this]; simp [List.getD, hk]⟩
theorem pick_acts {α : Type} {P : Nat → α → Prop} : ∀ n, (∀ i, i < n → ∃ x, P i x) → ∃ l : List α, l.length = n ∧ ∀ k (h : k < l.length), P k l[k]
  | 0, _ => ⟨[], rfl, fun k h => absurd h (by simp)⟩
  | n + 1, h => by
    obtain ⟨l, hl, hp⟩ := pick_acts n fun i hi => h i (by omega)
    obtain ⟨x, hx⟩ := h n (by omega)
    refine ⟨l ++ [x], by simp [hl], fun k hk => ?_⟩
    by_cases e : k < l.length
    · rw [List.getElem_append_left e]
      exact hp k e
    · have e2 : k = n := by simp at hk; omega
      subst e2
      simp only [← hl]
      rw [List.getElem_append_right (Nat.le_refl _)]
      simpa [hl] using hx
theorem three_of {α : Type} : ∀ {l : List α}, l.length = 3 → ∃ a b c, l = [a, b, c]
  | [a, b, c], _ => ⟨a, b, c, rfl⟩
theorem open_acts {H : Type} {enc : TypeId × Value → H} {W : World} {fuel : Nat} {x : DataW H × List MemPlace} {a0 : Option Addr} {len cap : Nat}
    (hf : DataW.trod enc Tryd.prog W 0 (fun _ => true) true fuel 66 [.slice a0 len cap] = some x) :
    ∃ l : List Ac, len = l.length ∧ ActsAt W a0 l ∧ l.length ≤ maxLen ∧ ∀ x ∈ l, x.kind.size ≤ maxLen ∧ x.host.size ≤ maxLen := by
  rcases Go.Deep.open_slice Tryd.underlying66 hf with ⟨hcs, _⟩ | ⟨a, len', cap', mm, n, D, Pl, hcs, _, hl, hm, hmm, _, hx⟩
  · simp at hcs
    obtain ⟨rfl, rfl, rfl⟩ := hcs
    exact ⟨[], rfl, fun k h => absurd h (by simp), by simp, fun x hx => by cases hx⟩
  · simp at hcs
    obtain ⟨rfl, rfl, rfl⟩ := hcs
    simp only [if_true] at hmm
    have each : ∀ i, i < len → ∃ x : Ac, (∃ b o, (some a : Option Addr) = some ⟨b, o, none⟩ ∧ W.cell? ⟨b, o + i * 3, none⟩ = some (.string x.kind) ∧ W.cell? ⟨b, o + i * 3 + 1, none⟩ = some (.string x.host) ∧ W.cell? ⟨b, o + i * 3 + 2, none⟩ = some (.bool x.well)) ∧ x.kind.size ≤ maxLen ∧ x.host.size ≤ maxLen := fun i hi => by
      obtain ⟨cs', h1, h2⟩ := hx i (by omega)
      rw [cellsAc] at h1
      obtain ⟨_, hcl, hcell⟩ := World.cells?_some h1
      obtain ⟨ys, k, _, _, _, hyl, hfl⟩ := DataW.trod_struct Tryd.underlying71 h2
      have hy3 : ys.length = 3 := hyl
      clear hyl
      obtain ⟨v0, v1, v2, rfl⟩ := three_of hcl
      have g0 := hfl 0 _ rfl
      have g1 := hfl 1 _ rfl
      have g2 := hfl 2 _ rfl
      rw [List.getElem?_eq_getElem (by omega)] at g0 g1 g2
      obtain ⟨s0, e0, _, z0⟩ := DataW.trod_string Tryd.underlying9 g0
      obtain ⟨s1, e1, _, z1⟩ := DataW.trod_string Tryd.underlying9 g1
      obtain ⟨b2, e2, _⟩ := DataW.trod_bool Tryd.underlying4 g2
      have q0 := hcell 0 (by omega)
      have q1 := hcell 1 (by omega)
      have q2 := hcell 2 (by omega)
      obtain ⟨b, off, spot⟩ := a
      have hspot : spot = none := by
        obtain ⟨z, hz⟩ : ∃ z : Nat, z = 0 := ⟨0, rfl⟩
        obtain ⟨cs0, h10, _⟩ := hx z (by omega)
        rw [cellsAc] at h10
        subst hz
        obtain ⟨_, hl0, hc0⟩ := World.cells?_some h10
        obtain ⟨u0, u1, u2, rfl⟩ := three_of hl0
        have q0' : W.cell? (((⟨b, off, spot⟩ : Addr).add (0 * 3)).add 0) = some u0 := hc0 0 (by decide)
        simpa [Addr.add] using World.cell?_spot q0'
      subst hspot
      rw [Addr.add_lit, Addr.add_lit] at q0 q1 q2
      simp [cellsSt] at e0 e1
      simp [cellsBo] at e2
      refine ⟨⟨s0, s1, b2⟩, ⟨b, off, rfl, ?_, ?_, ?_⟩, z0, z1⟩
      · rw [Nat.add_zero] at q0
        rw [q0, e0]
        rfl
      · rw [q1, e1]
        rfl
      · rw [q2, e2]
        rfl
    obtain ⟨l, hll, hp⟩ := pick_acts len each
    refine ⟨l, hll.symm, fun k hk => (hp k hk).1, by omega, fun x hx => ?_⟩
    obtain ⟨k, hk, rfl⟩ := List.getElem_of_mem hx
    exact (hp k hk).2
end Go.Proofs.YtkpjecpaejdgaabDoor
