/- FlowsStay, as its tied card: of the landed flows, at every input, true. -/
import Derived.Test.YtijdaaghomclmabDoorFlLan
import Derived.Test.YtijdaaghomclmabDoorFSRow
namespace Go.Proofs.YtijdaaghomclmabDoor
open Go.ChangeShapes Go.WideShapes Go.ChangeAt Go.RowKit

def apiF : List (String × List UInt8) := [
  ("levelhand/api.ErrBound", [108, 101, 118, 101, 108, 104, 97, 110, 100, 58, 32, 98, 111, 117, 110, 100]),
  ("levelhand/api.ErrName", [108, 101, 118, 101, 108, 104, 97, 110, 100, 58, 32, 110, 97, 109, 101]),
  ("levelhand/api.ErrNone", [108, 101, 118, 101, 108, 104, 97, 110, 100, 58, 32, 110, 111, 110, 101]),
  ("levelhand/api.ErrExist", [108, 101, 118, 101, 108, 104, 97, 110, 100, 58, 32, 101, 120, 105, 115, 116]),
  ("levelhand/api.ErrOld", [108, 101, 118, 101, 108, 104, 97, 110, 100, 58, 32, 111, 108, 100])]
theorem gErrF (i : Nat) (h : i < 5) : ∃ x g, apiF[i]? = some x ∧ Tryd.prog.globalNamed x.1 = some g ∧ (Tryd.prog.globals[g]?).map (·.type) = some 26 := by
  match i, h with
  | 0, _ => exact ⟨_, 0, rfl, by kernel_rfl, by kernel_rfl⟩
  | 1, _ => exact ⟨_, 2, rfl, by kernel_rfl, by kernel_rfl⟩
  | 2, _ => exact ⟨_, 1, rfl, by kernel_rfl, by kernel_rfl⟩
  | 3, _ => exact ⟨_, 5, rfl, by kernel_rfl, by kernel_rfl⟩
  | 4, _ => exact ⟨_, 7, rfl, by kernel_rfl, by kernel_rfl⟩
theorem errsF_of {W : World} (h : laidMet Tryd.prog (sentList apiF) W) : ∃ a, EF a W := by
  obtain ⟨ps, hl, _, hrows⟩ := h
  obtain ⟨ads, el, _, hv⟩ := sents_of Tryd.underlying26 rowE Tryd.underlying242 Tryd.underlying263 rfl rfl Tryd.underlying9 cellsE cellsS ps hrows apiF ps
    (fun x hx => by
      obtain ⟨i, hi, rfl⟩ := List.getElem_of_mem hx
      obtain ⟨y, g, hy, h1, h2⟩ := gErrF i hi
      rw [List.getElem?_eq_getElem hi] at hy
      obtain rfl := Option.some.inj hy
      exact ⟨g, h1, h2⟩) (fun _ hm => hm) hl
  have el4 : ads.length = 5 := el
  have cellAt : ∀ (i : Nat) (h : i < 5) (n : String) (g : Nat), (apiF[i]'h).1 = n → Tryd.prog.globalNamed n = some g → W.cell? ⟨g, 0, none⟩ = some (.iface 242 (.pointer (some (ads.getD i default)))) := by
    intro i h n g hn hg
    have := hv i h (by omega)
    rw [hn] at this
    have hd : ads.getD i default = ads[i]'(by omega) := by rw [List.getD_eq_getElem?_getD, List.getElem?_eq_getElem (by omega)]; rfl
    rw [hd]
    simpa using World.var?_cell hg this 0
  exact ⟨fun i => ads.getD (if i = 1 then 0 else if i = 7 then 4 else i - 2) default, ⟨cellAt 0 (by decide) _ _ rfl (by kernel_rfl), cellAt 1 (by decide) _ _ rfl (by kernel_rfl), cellAt 2 (by decide) _ _ rfl (by kernel_rfl), cellAt 3 (by decide) _ _ rfl (by kernel_rfl)⟩, cellAt 4 (by decide) _ _ rfl (by kernel_rfl)⟩
theorem errsF_laid {W : World} (h : laidMetH Tryd.prog Rows.flowsStayRow.laid W) : ∃ a, EF a W := by
  have h' : laidMet Tryd.prog (sentList apiF) W := h
  exact errsF_of h'
/-- FlowsStay answers true at every input. -/
theorem flowsStay_holds : Rows.FlowsStayCardSaid := flowsStay.card flowsC fun _ h => errsF_laid h
end Go.Proofs.YtijdaaghomclmabDoor
