/- The law CarryReads, over the landed package's contracts: all inputs. -/
import Derived.Test.YtboigdpcahdidabDoorCaT
namespace Go.Proofs.YtboigdpcahdidabDoor
open Go.RowKit

theorem read_len {s : List UInt8} {n : Int} {l : List Lh.Fl} {c : Nat} {pl : Int} (h : ReadF s n l c pl) : l.length ≤ 200 := by
  by_cases hc : c = 0
  · subst hc
    exact (caF_good (read_good h).2.1).1.2.2
  · rw [(read_none h hc).2]
    simp
theorem caF_in {e : Int} {l : List Lh.Fl} {pl : Int} (h : CaF e l 0 pl) (hk : KeyIn l) : FlIn l := fun x hx => by
  obtain ⟨_, hc, _, _⟩ := caF_word h hk
  obtain ⟨_, hg, _⟩ := caF_good h
  obtain ⟨j, hj, rfl⟩ := List.getElem_of_mem hx
  obtain ⟨g1, g2, g3, _⟩ := hg j hj
  have := (hc _ hx).2.1
  exact ⟨hk _ hx, by omega, by omega, by omega⟩

end Go.Proofs.YtboigdpcahdidabDoor
