/- The law CarryTexts, over the landed package's contracts: all inputs. -/
import Derived.Test.YtboigdpcahdidabDoorCaCon
import Derived.Test.YtboigdpcahdidabDoorFlM
namespace Go.Proofs.YtboigdpcahdidabDoor
open Go.RowKit

/-- flows as they are given -/
def FlGiven (l : List Lh.Fl) : Prop := ∀ x ∈ l, x.1 < 18446744073709551616 ∧ x.2.1.size ≤ maxLen ∧ -9223372036854775808 ≤ x.2.2 ∧ x.2.2 ≤ 9223372036854775807
theorem FlGiven.inn {l : List Lh.Fl} (h : FlGiven l) (hs : FShort l) : FlIn l := fun x hx => ⟨(h x hx).1, by have := hs.2 x hx; omega, (h x hx).2.2⟩
theorem FShort.len {l : List Lh.Fl} (h : FShort l) : l.length ≤ 201 := by have := h.1; omega

end Go.Proofs.YtboigdpcahdidabDoor
