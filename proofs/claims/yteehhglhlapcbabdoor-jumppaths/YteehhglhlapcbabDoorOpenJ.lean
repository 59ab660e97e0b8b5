/- One package variable alone, as a row lays it. -/
import Derived.Test.YteehhglhlapcbabDoorLaid
import Derived.Test.YteehhglhlapcbabDoorJ0
namespace Go.Proofs.YteehhglhlapcbabDoor
open Go.ChangeShapes Go.WideShapes Go.ChangeAt Go.RowKit

def api1 : List (String × List UInt8) := [
  ("levelhand/api.ErrBound", [108, 101, 118, 101, 108, 104, 97, 110, 100, 58, 32, 98, 111, 117, 110, 100])]
theorem gErr1 (i : Nat) (h : i < 1) : ∃ x g, api1[i]? = some x ∧ Tryd.prog.globalNamed x.1 = some g ∧ (Tryd.prog.globals[g]?).map (·.type) = some 26 := by
  match i, h with
  | 0, _ => exact ⟨_, 0, rfl, by kernel_rfl, by kernel_rfl⟩
theorem errs1_of {W : World} (h : laidMet Tryd.prog (sentList api1) W) : ∃ a, Errs1 a W := by
  obtain ⟨ps, hl, _, hrows⟩ := h
  obtain ⟨ads, el, _, hv⟩ := sents_of Tryd.underlying26 rowE Tryd.underlying84 Tryd.underlying106 rfl rfl Tryd.underlying9 cellsE cellsS ps hrows api1 ps
    (fun x hx => by
      obtain ⟨i, hi, rfl⟩ := List.getElem_of_mem hx
      obtain ⟨y, g, hy, h1, h2⟩ := gErr1 i hi
      rw [List.getElem?_eq_getElem hi] at hy
      obtain rfl := Option.some.inj hy
      exact ⟨g, h1, h2⟩) (fun _ hm => hm) hl
  have el1 : ads.length = 1 := el
  have cellAt : ∀ (i : Nat) (h : i < 1) (n : String) (g : Nat), (api1[i]'h).1 = n → Tryd.prog.globalNamed n = some g → W.cell? ⟨g, 0, none⟩ = some (.iface 84 (.pointer (some (ads.getD i default)))) := by
    intro i h n g hn hg
    have := hv i h (by omega)
    rw [hn] at this
    have hd : ads.getD i default = ads[i]'(by omega) := by rw [List.getD_eq_getElem?_getD, List.getElem?_eq_getElem (by omega)]; rfl
    rw [hd]
    simpa using World.var?_cell hg this 0
  exact ⟨fun _ => ads.getD 0 default, ⟨cellAt 0 (by decide) _ _ rfl (by kernel_rfl)⟩⟩
end Go.Proofs.YteehhglhlapcbabDoor
