/- What the laws of texts of flows ask of the landed package; carried. -/
import Derived.Test.YtboigdpcahdidabGreatDoorCaMath8
import Derived.Test.YtboigdpcahdidabGreatDoorCaCode
namespace Go.Proofs.YtboigdpcahdidabGreatDoor
open Go.RowKit

/-- The landed package's contracts, over what it asks of the package variables (E). -/
structure CarryC where
  E : (Nat → Addr) → World → Prop
  eLater : ∀ {a : Nat → Addr} {W W' : World}, E a W → Below W.heap.size W W' → E a W'
  text : ∀ (a : Nat → Addr) (e : Int) (v : Value) (l : List Lh.Fl) (W : World), E a W → Flows1 W v l → l.length ≤ 201 → FlIn l → -9223372036854775808 ≤ e → e ≤ 9223372036854775807 →
    Calls Tryz.prog 25 #[.int .i64 e, v] W fun r w' => ∃ c pl, CaF e l c pl ∧ Below W.heap.size W w' ∧
      ((c = 0 ∧ r = .returned (.tuple #[.string (Lh.bt (Lh.textL e.toNat l)), .nilIface])) ∨
       (c ≠ 0 ∧ ∃ ev, r = .returned (.tuple #[.string ByteArray.empty, ev]) ∧ ErrIs a w' c pl ev ∧ ev ≠ .nilIface))
  read : ∀ (a : Nat → Addr) (s : List UInt8) (W : World), E a W → s.length ≤ 30000 →
    Calls Tryz.prog 27 #[.string (Lh.bt s)] W fun r w' => ∃ n v l c pl, ReadF s n l c pl ∧ Below W.heap.size W w' ∧ Flows1 w' v l ∧
      ((c = 0 ∧ r = .returned (.tuple #[.int .i64 n, v, .nilIface])) ∨
       (c ≠ 0 ∧ ∃ ev, r = .returned (.tuple #[.int .i64 n, v, ev]) ∧ ErrIs a w' c pl ev ∧ ev ≠ .nilIface))
theorem caF_nil : CaF 3 [] 0 (-1) := Or.inr (Or.inr ⟨⟨by decide, by decide, by simp⟩, fun j hj => absurd hj (by simp), rfl, rfl⟩)

set_option maxRecDepth 100000 in
set_option maxHeartbeats 2000000 in
theorem carried_any (hC : CarryC) (a : Nat → Addr) (W : World) (he : hC.E a W) :
    Calls Tryz.prog 24 #[] W fun e w' => e = .returned (.bool true) ∧ Below W.heap.size W w' := by
  have HT := hC.text a 3 (.slice none 0 0) [] W he (Or.inl ⟨rfl, Or.inl rfl⟩) (by simp) (fun x hx => by cases hx) (by decide) (by decide)
  have HE : Hid (hC.E a W) := he
  clear he
  go_enter Tryz.func24, Tryz.ntmps24
  go_wp2_with fail
  refine HT.mono ?_
  rintro r w1 ⟨c, pl, hcf, hb1, hcase⟩
  obtain ⟨rfl, rfl⟩ := caF_one hcf caF_nil
  rcases hcase with ⟨_, rfl⟩ | ⟨h, _⟩
  case inr => exact absurd rfl h
  have HR := hC.read a (Lh.textL (3 : Int).toNat []) w1 (hC.eLater HE.out hb1) (by have := text_len caF_nil (fun x hx => by cases hx); omega)
  clear HT
  dsimp only
  go_wp2_with fail
  refine HR.mono ?_
  rintro r w2 ⟨n, v, l, c, pl, hrf, hb2, hfl, hcase⟩
  obtain ⟨rfl, rfl, rfl, rfl⟩ := readF_one hrf (read_text caF_nil (fun x hx => by cases hx))
  rcases hcase with ⟨_, rfl⟩ | ⟨h, _⟩
  case inr => exact absurd rfl h
  obtain ⟨q, cq, rfl⟩ := hfl.shape
  have hb3 := below_then hb1 hb2
  clear HR hrf hfl hb1 hb2
  dsimp only
  go_wp2
  go_ret
  exact ⟨rfl, hb3⟩
end Go.Proofs.YtboigdpcahdidabGreatDoor
