/- TableMakes: what a row's error is. -/
import Derived.Test.YtedbhahkldfmiaaDoorTabled
namespace Go.Proofs.YtedbhahkldfmiaaDoor
open Go.RowKit

/-- the error of a row: the name's, then the size's -/
def RowIs (s : ByteArray) (e0 er : Nat) : Prop := (Lh.isNm s = false ∧ er = 4) ∨ (Lh.isNm s = true ∧ er = e0)
theorem rowIs_ex (s : ByteArray) (e0 : Nat) : ∃ er, RowIs s e0 er := by
  cases h : Lh.isNm s with
  | false => exact ⟨4, Or.inl ⟨h, rfl⟩⟩
  | true => exact ⟨e0, Or.inr ⟨h, rfl⟩⟩
theorem row_bad (a : Nat → Addr) (s : ByteArray) (n : Int) (w : World) (e0 er : Nat) (he : Errs a w) (hs : s.size ≤ 300) (hb64 : -9223372036854775808 ≤ n ∧ n ≤ 9223372036854775807) (hse : Lh.SizeIs n e0) (hr : RowIs s e0 er) (hc0 : er ≠ 0) :
    Calls Tryd.prog 32 #[.string s, .int .i64 n] w fun e w' => ∃ ev, e = .returned (.tuple #[.slice none 0 0, ev]) ∧ ErrIs a w' er (-1) ev ∧ Below w.heap.size w w' := by
  rcases hr with ⟨hn, rfl⟩ | ⟨hn, rfl⟩
  · exact (row_name a s n w he hs hn).mono fun e w' ⟨h1, h2⟩ => ⟨_, h1, Or.inr ⟨3, by decide, rfl, Or.inl ⟨rfl, rfl⟩⟩, h2⟩
  · exact row_size a s n w er he hs hn hb64 hse hc0
theorem size_zero {n : Int} (h : Lh.SizeIs n 0) : ∃ m : Nat, n = m ∧ Lh.Prm m ∧ 2 ≤ m ∧ m ≤ 503 := by
  rcases h with ⟨_, h⟩ | ⟨m, hm, h2, h5, ⟨_, h⟩ | ⟨hp, _⟩⟩
  · cases h
  · cases h
  · exact ⟨m, hm, hp, h2, h5⟩
theorem rowIs_zero {s : ByteArray} {e0 : Nat} (h : RowIs s e0 0) : Lh.isNm s = true ∧ e0 = 0 := by
  rcases h with ⟨_, h⟩ | ⟨h, e⟩
  · cases h
  · exact ⟨h, e.symm⟩

end Go.Proofs.YtedbhahkldfmiaaDoor
