/- A list of keys as an argument. -/
import Derived.Test.YtepclafmkhphbabDoorOpenU
import Derived.Test.YtepclafmkhphbabDoorKeysI
import Derived.ChangeSlices
namespace Go.Proofs.YtepclafmkhphbabDoor
open Go.ChangeShapes Go.WideShapes Go.ChangeAt Go.RowKit
open Go.ChangeMaps (open_string shut_string)

theorem open_keys1 {H : Type} {enc : TypeId × Value → H} {W : World} {v : Value} {fuel : Nat} {x : DataW H × List MemPlace} {a0 : Option Addr} {len cap : Nat} (hv : v = .slice a0 len cap)
    (hf : DataW.trod enc Tryd.prog W 0 (fun _ => true) true fuel 22 [.slice a0 len cap] = some x) :
    ∃ ks : List Nat, Keys1 W v ks ∧ (∀ k (h : k < ks.length), ks[k] < 18446744073709551616) ∧ ks.length ≤ maxLen := by
  subst hv
  rcases open_ints Tryd.underlying22 Tryd.underlying32 cellsU hf with ⟨hcs, _⟩ | ⟨a, len', cap', zs, hcs, _, hl, hm, hz, _, hcell, hws⟩
  · simp at hcs
    obtain ⟨rfl, rfl, rfl⟩ := hcs
    exact ⟨[], Or.inl ⟨rfl, Or.inl rfl⟩, fun k h => absurd h (by simp), by simp⟩
  · simp at hcs
    obtain ⟨rfl, rfl, rfl⟩ := hcs
    simp only [if_true] at hz
    have hlen : ((zs.take len).map Int.toNat).length = len := by simp; omega
    have hget : ∀ k (h : k < ((zs.take len).map Int.toNat).length), ∃ hk : k < zs.length, ((((zs.take len).map Int.toNat)[k] : Nat) : Int) = zs[k] ∧ zs[k] < 18446744073709551616 := fun k h => by
      have hk : k < zs.length := by omega
      obtain ⟨h1, h2⟩ := wf_u64 (hws _ (List.getElem_mem hk))
      refine ⟨hk, ?_, h2⟩
      simp
      omega
    refine ⟨(zs.take len).map Int.toNat, ?_, fun k h => ?_, by omega⟩
    · by_cases h0 : len = 0
      · subst h0
        exact Or.inl ⟨by simp, Or.inr ⟨a, cap, rfl⟩⟩
      · obtain ⟨b, off, spot⟩ := a
        have hspot : spot = none := by simpa [Addr.add] using World.cell?_spot (hcell 0 (by omega))
        subst hspot
        refine Or.inr ⟨b, off, cap, by rw [hlen], by omega, fun k h => ?_⟩
        obtain ⟨hk, e, _⟩ := hget k h
        have := hcell k hk
        rw [Addr.add_lit] at this
        rw [this, e]
        simp [List.getD, hk]
    · obtain ⟨hk, e, h2⟩ := hget k h
      omega
end Go.Proofs.YtepclafmkhphbabDoor
