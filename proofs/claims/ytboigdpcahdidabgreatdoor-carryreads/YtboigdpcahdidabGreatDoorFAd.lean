/- Acts on flows, in memory. -/
import Derived.Test.YtboigdpcahdidabGreatDoorFcM
namespace Go.Proofs.YtboigdpcahdidabGreatDoor
open Go.RowKit

/-- an act: its kind, its host, its key, its tick, its flows and the slice that holds them -/
structure Fa where
  kind : ByteArray
  host : ByteArray
  key : Nat
  now : Int
  val : Value
  l : List Lh.Fl
/-- acts in memory, where they are read -/
def FActsAt (w : World) (p : Option Addr) (l : List Fa) : Prop := ∀ k (h : k < l.length), ∃ b o, p = some ⟨b, o, none⟩ ∧ w.cell? ⟨b, o + k * 5, none⟩ = some (.string l[k].kind) ∧ w.cell? ⟨b, o + k * 5 + 1, none⟩ = some (.string l[k].host) ∧ w.cell? ⟨b, o + k * 5 + 2, none⟩ = some (.int .u64 (l[k].key : Nat)) ∧ w.cell? ⟨b, o + k * 5 + 3, none⟩ = some (.int .i64 l[k].now) ∧ w.cell? ⟨b, o + k * 5 + 4, none⟩ = some l[k].val ∧ Flows1 w l[k].val l[k].l
structure FaOk (x : Fa) : Prop where
  kind : x.kind.size ≤ maxLen
  host : x.host.size ≤ maxLen
  key : x.key < 18446744073709551616
  len : x.l.length ≤ maxLen
  fl : ∀ y ∈ x.l, y.1 < 18446744073709551616 ∧ y.2.1.size ≤ maxLen ∧ -9223372036854775808 ≤ y.2.2 ∧ y.2.2 ≤ 9223372036854775807
end Go.Proofs.YtboigdpcahdidabGreatDoor
