/- A list of texts among the arguments, as it is read. -/
import Derived.Test.YtfhmfjcpggddkaaGreatDoorM0
import Derived.Test.YtfhmfjcpggddkaaGreatDoorM5
import Derived.SliceStrings
import Derived.ChangeSlices
import Derived.Test.YtfhmfjcpggddkaaGreatDoorScAg
import Derived.Deep.Slices
namespace Go.Proofs.YtfhmfjcpggddkaaGreatDoor
open Go.ChangeShapes Go.WideShapes Go.ChangeAt Go.RowKit
open Go.ChangeMaps (open_string shut_string)

theorem open_texts {H : Type} {enc : TypeId × Value → H} {W : World} {v : Value} {fuel : Nat} {x : DataW H × List MemPlace} {a0 : Option Addr} {len cap : Nat} (hv : v = .slice a0 len cap)
    (hf : DataW.trod enc Tryz.prog W 0 (fun _ => true) true fuel 22 [.slice a0 len cap] = some x) :
    ∃ xs : List ByteArray, Strs1 W v xs ∧ (∀ k (h : k < xs.length), (xs[k]).size ≤ maxLen) ∧ xs.length ≤ maxLen := by
  subst hv
  rcases open_strings Tryz.underlying22 Tryz.underlying9 cellsS hf with ⟨hcs, _⟩ | ⟨a, len', cap', ss, hcs, _, hl, hm, hz, _, hcell, hws⟩
  · simp at hcs
    obtain ⟨rfl, rfl, rfl⟩ := hcs
    exact ⟨[], Or.inl ⟨rfl, Or.inl rfl⟩, fun k h => absurd h (by simp), by simp⟩
  · simp at hcs
    obtain ⟨rfl, rfl, rfl⟩ := hcs
    simp only [if_true] at hz
    have hlen : (ss.take len).length = len := by simp; omega
    refine ⟨ss.take len, ?_, fun k h => hws _ (List.mem_of_mem_take (List.getElem_mem h)), by omega⟩
    rcases Nat.eq_zero_or_pos len with h0 | h0
    · subst h0
      exact Or.inl ⟨by simp, Or.inr ⟨_, _, rfl⟩⟩
    · obtain ⟨b, off, spot⟩ := a
      have hspot : spot = none := by simpa [Addr.add] using World.cell?_spot (hcell 0 (by omega))
      subst hspot
      refine Or.inr ⟨b, off, cap, by rw [hlen], by omega, fun k h => ?_⟩
      have hk : k < ss.length := by omega
      have := hcell k hk
      rw [Addr.add_lit] at this
      rw [this]
      simp [List.getD, hk]
end Go.Proofs.YtfhmfjcpggddkaaGreatDoor

/- A list of a script's commands among the arguments. -/
namespace Go.Proofs.YtfhmfjcpggddkaaGreatDoor
open Go.ChangeShapes Go.WideShapes Go.ChangeAt Go.RowKit

theorem cellsLn : Tryz.prog.cellsOf 36 = 3 := by kernel_rfl
theorem cellsLs : Tryz.prog.cellsOf 9 = 1 := by kernel_rfl
theorem cellsLi : Tryz.prog.cellsOf 3 = 1 := by kernel_rfl
theorem cellsLt : Tryz.prog.cellsOf 22 = 1 := by kernel_rfl
theorem cellsLn2 : Tryz.prog.cellsOf 34 = 1 := by kernel_rfl
theorem pick_listL {α : Type} {P : Nat → α → Prop} : ∀ n, (∀ i, i < n → ∃ x, P i x) → ∃ l : List α, l.length = n ∧ ∀ k (h : k < l.length), P k l[k]
  | 0, _ => ⟨[], rfl, fun k h => absurd h (by simp)⟩
  | n + 1, h => by
    obtain ⟨l, hl, hp⟩ := pick_listL n fun i hi => h i (by omega)
    obtain ⟨x, hx⟩ := h n (by omega)
    refine ⟨l ++ [x], by simp [hl], fun k hk => ?_⟩
    by_cases e : k < l.length
    · rw [List.getElem_append_left e]
      exact hp k e
    · have e2 : k = n := by simp at hk; omega
      subst e2
      simp only [← hl]
      rw [List.getElem_append_right (Nat.le_refl _)]
      simpa [hl] using hx
theorem three_ofL {α : Type} : ∀ {l : List α}, l.length = 3 → ∃ a b c, l = [a, b, c]
  | [a, b, c], _ => ⟨a, b, c, rfl⟩
/-- texts within -/
theorem open_textsL {H : Type} {enc : TypeId × Value → H} {W : World} {v : Value} {fuel : Nat} {x : DataW H × List MemPlace}
    (hf : DataW.trod enc Tryz.prog W 0 (fun _ => true) true fuel 22 [v] = some x) : ∃ xs : List ByteArray, Strs1 W v xs ∧ (∀ k (h : k < xs.length), (xs[k]).size ≤ maxLen) ∧ xs.length ≤ maxLen := by
  obtain ⟨a0, len, cap, rfl⟩ : ∃ a0 len cap, v = .slice a0 len cap := by
    rcases Go.Deep.open_slice Tryz.underlying22 hf with ⟨hcs, _⟩ | ⟨a, len', cap', _, _, _, _, hcs, _⟩
    · simp at hcs
      exact ⟨_, _, _, hcs⟩
    · simp at hcs
      exact ⟨_, _, _, hcs⟩
  exact open_texts rfl hf
/-- numbers within -/
theorem open_intsL {H : Type} {enc : TypeId × Value → H} {W : World} {v : Value} {fuel : Nat} {x : DataW H × List MemPlace}
    (hf : DataW.trod enc Tryz.prog W 0 (fun _ => true) true fuel 34 [v] = some x) : ∃ l : List Int, Ints W v l ∧ l.length ≤ maxLen := by
  rcases open_ints Tryz.underlying34 Tryz.underlying3 cellsLi hf with ⟨hcs, _⟩ | ⟨a, len', cap', zs, hcs, _, hl, hm, hz, _, hcell, hws⟩
  · simp at hcs
    subst hcs
    exact ⟨[], Or.inl ⟨rfl, _, _, rfl⟩, by simp⟩
  · simp at hcs
    subst hcs
    simp only [if_true] at hz
    have hlen : (zs.take len').length = len' := by simp; omega
    refine ⟨zs.take len', ?_, by omega⟩
    rcases Nat.eq_zero_or_pos len' with h0 | h0
    · subst h0
      exact Or.inl ⟨by simp, _, _, rfl⟩
    · obtain ⟨b, off, spot⟩ := a
      have hspot : spot = none := by simpa [Addr.add] using World.cell?_spot (hcell 0 (by omega))
      subst hspot
      refine Or.inr ⟨b, off, cap', by rw [hlen], fun k h => ?_⟩
      have hk : k < zs.length := by omega
      have := hcell k hk
      rw [Addr.add_lit] at this
      rw [this]
      simp [List.getD, hk]
/-- commands as they are handed over -/
theorem open_lns {H : Type} {enc : TypeId × Value → H} {W : World} {fuel : Nat} {x : DataW H × List MemPlace} {a0 : Option Addr} {len cap : Nat}
    (hf : DataW.trod enc Tryz.prog W 0 (fun _ => true) true fuel 33 [.slice a0 len cap] = some x) :
    ∃ l : List Ln, len = l.length ∧ LnsAt W a0 l ∧ l.length ≤ maxLen ∧ ∀ x ∈ l, LnOk x := by
  rcases Go.Deep.open_slice Tryz.underlying33 hf with ⟨hcs, _⟩ | ⟨a, len', cap', mm, n, D, Pl, hcs, _, hl, hm, hmm, _, hx⟩
  · simp at hcs
    obtain ⟨rfl, rfl, rfl⟩ := hcs
    exact ⟨[], rfl, fun k h => absurd h (by simp), by simp, fun x hx => by cases hx⟩
  · simp at hcs
    obtain ⟨rfl, rfl, rfl⟩ := hcs
    simp only [if_true] at hmm
    have each : ∀ i, i < len → ∃ x : Ln, (∃ b o hv nv, (some a : Option Addr) = some ⟨b, o, none⟩ ∧ W.cell? ⟨b, o + i * 3, none⟩ = some (.string x.w) ∧ W.cell? ⟨b, o + i * 3 + 1, none⟩ = some hv ∧ W.cell? ⟨b, o + i * 3 + 2, none⟩ = some nv ∧ Strs1 W hv x.H ∧ Ints W nv x.N) ∧ LnOk x := fun i hi => by
      obtain ⟨cs', h1, h2⟩ := hx i (by omega)
      rw [cellsLn] at h1
      obtain ⟨_, hcl, hcell⟩ := World.cells?_some h1
      obtain ⟨ys, k, _, _, _, hyl, hfl⟩ := DataW.trod_struct Tryz.underlying36 h2
      have hy3 : ys.length = 3 := hyl
      clear hyl
      obtain ⟨v0, v1, v2, rfl⟩ := three_ofL hcl
      have g0 := hfl 0 _ rfl
      have g1 := hfl 1 _ rfl
      have g2 := hfl 2 _ rfl
      rw [List.getElem?_eq_getElem (by omega)] at g0 g1 g2
      obtain ⟨s0, e0, _, z0⟩ := DataW.trod_string Tryz.underlying9 g0
      simp [cellsLt] at g1
      simp [cellsLn2] at g2
      obtain ⟨xs, f1, f2, f3⟩ := open_textsL g1
      obtain ⟨ns, f4, f5⟩ := open_intsL g2
      have q0 := hcell 0 (by omega)
      have q1 := hcell 1 (by omega)
      have q2 := hcell 2 (by omega)
      obtain ⟨b, off, spot⟩ := a
      have hspot : spot = none := by
        obtain ⟨z, hz⟩ : ∃ z : Nat, z = 0 := ⟨0, rfl⟩
        obtain ⟨cs0, h10, _⟩ := hx z (by omega)
        rw [cellsLn] at h10
        subst hz
        obtain ⟨_, hl0, hc0⟩ := World.cells?_some h10
        obtain ⟨u0, u1, u2, rfl⟩ := three_ofL hl0
        have q0' : W.cell? (((⟨b, off, spot⟩ : Addr).add (0 * 3)).add 0) = some u0 := hc0 0 (by decide)
        simpa [Addr.add] using World.cell?_spot q0'
      subst hspot
      rw [Addr.add_lit, Addr.add_lit] at q0 q1 q2
      simp [cellsLs] at e0
      refine ⟨⟨s0, xs, ns⟩, ⟨b, off, v1, v2, rfl, ?_, ?_, ?_, f1, f4⟩, ⟨z0, f3, f2, f5⟩⟩
      · rw [Nat.add_zero] at q0
        rw [q0, e0]
        rfl
      · rw [q1]
        rfl
      · rw [q2]
        rfl
    obtain ⟨l, hll, hp⟩ := pick_listL len each
    refine ⟨l, hll.symm, fun k hk => (hp k hk).1, by omega, fun x hx => ?_⟩
    obtain ⟨k, hk, rfl⟩ := List.getElem_of_mem hx
    exact (hp k hk).2
end Go.Proofs.YtfhmfjcpggddkaaGreatDoor
