/- What the laws of health ask of the landed package. -/
import Derived.Test.YtkpjecpaejdgaabDoorHMath
import Derived.Test.YtkpjecpaejdgaabDoorTur
import Derived.Test.YtkpjecpaejdgaabDoorE4
import Derived.Test.YtkpjecpaejdgaabDoorFew
namespace Go.Proofs.YtkpjecpaejdgaabDoor
open Go.RowKit

/-- What is wrong with hosts and edges: the error's number, and where. -/
def HlFault (xs : List ByteArray) (x y : Int) (c : Nat) (pl : Int) : Prop :=
  (c ≠ 0 ∧ IsFault xs c pl) ∨ (IsFault xs 0 (-1) ∧ (x < 1 ∨ 10 < x ∨ y < 1 ∨ 10 < y) ∧ c = 2 ∧ pl = -1)
/-- What is wrong with a host that is to come: the error. -/
def AddFault (l : List Lh.Hh) (s : ByteArray) (k : Nat) : Prop :=
  (12 ≤ l.length ∧ k = 1) ∨ (l.length < 12 ∧ Lh.isNm s = false ∧ k = 3) ∨ (l.length < 12 ∧ Lh.isNm s = true ∧ Lh.hix l s < l.length ∧ k = 5)

/-- The landed package's contracts, over what it says that a *Health is (Rep: edges, hosts, the blocks that it is made of). -/
structure HealthC where
  Rep : Nat → Nat → List Lh.Hh → (Nat → Prop) → Nat → World → Prop
  lt : ∀ {f r : Nat} {l : List Lh.Hh} {F : Nat → Prop} {p : Nat} {W : World}, Rep f r l F p W → ∀ b, F b → b < W.heap.size
  stay : ∀ {f r : Nat} {l : List Lh.Hh} {F : Nat → Prop} {p : Nat} {W W' : World}, Rep f r l F p W → W.heap.size ≤ W'.heap.size → (∀ b, F b → W'.heap[b]? = W.heap[b]?) → Rep f r l F p W'
  newG : ∀ (a : Nat → Addr) (v : Value) (xs : List ByteArray) (f r : Nat) (W : World), Errs4 a W → Strs1 W v xs → IsFault xs 0 (-1) → (∀ s ∈ xs, s.size ≤ 300) → 1 ≤ f → f ≤ 10 → 1 ≤ r → r ≤ 10 →
    Calls Tryd.prog 29 #[v, .int .i64 (f : Nat), .int .i64 (r : Nat)] W fun e W' => ∃ p F, e = .returned (.tuple #[.pointer (some ⟨p, 0, none⟩), .nilIface]) ∧ Rep f r (Lh.hnew xs) F p W' ∧ (∀ b, F b → W.heap.size ≤ b) ∧ Below W.heap.size W W'
  newB : ∀ (a : Nat → Addr) (v : Value) (xs : List ByteArray) (x y : Int) (W : World) (c : Nat) (pl : Int), Errs4 a W → Strs1 W v xs → HlFault xs x y c pl → (∀ s ∈ xs, s.size ≤ 300) → xs.length < 1000 →
    Calls Tryd.prog 29 #[v, .int .i64 x, .int .i64 y] W fun e W' => ∃ ev, e = .returned (.tuple #[.pointer none, ev]) ∧ ErrIs a W' c pl ev ∧ Below W.heap.size W W'
  look : ∀ (a : Nat → Addr) (f r : Nat) (l : List Lh.Hh) (F : Nat → Prop) (p : Nat) (s : ByteArray) (well : Bool) (W : World), Errs4 a W → Rep f r l F p W → Lh.HOk f r l → s.size ≤ 300 →
    Calls Tryd.prog 30 #[.pointer (some ⟨p, 0, none⟩), .string s, .bool well] W fun e W' => ∃ F', (∀ b, F' b → F b ∨ W.heap.size ≤ b) ∧ Tur F W W' ∧
      ((∃ h : Lh.hix l s < l.length, e = .returned (.tuple #[.bool (Lh.hlook f r l[Lh.hix l s] well).2, .nilIface]) ∧ Rep f r (l.set (Lh.hix l s) (Lh.hlook f r l[Lh.hix l s] well).1) F' p W') ∨
       (¬ Lh.hix l s < l.length ∧ e = .returned (.tuple #[.bool false, .iface 203 (.pointer (some (a 4)))]) ∧ Rep f r l F' p W'))
  up : ∀ (f r : Nat) (l : List Lh.Hh) (F : Nat → Prop) (p : Nat) (W : World), Rep f r l F p W → Lh.HOk f r l →
    Calls Tryd.prog 43 #[.pointer (some ⟨p, 0, none⟩)] W fun e W' => ∃ v, e = .returned v ∧ Strs1 W' v (Lh.hups l) ∧ Below W.heap.size W W'
  is : ∀ (f r : Nat) (l : List Lh.Hh) (F : Nat → Prop) (p : Nat) (s : ByteArray) (W : World), Rep f r l F p W → Lh.HOk f r l → s.size ≤ 300 →
    Calls Tryd.prog 31 #[.pointer (some ⟨p, 0, none⟩), .string s] W fun e W' => e = .returned (.bool (Lh.hup l s)) ∧ Below W.heap.size W W'
  add : ∀ (a : Nat → Addr) (f r : Nat) (l : List Lh.Hh) (F : Nat → Prop) (p : Nat) (s : ByteArray) (W : World), Errs a W → Rep f r l F p W → Lh.HOk f r l → (∀ x ∈ l, Lh.isNm x.1 = true) → s.size ≤ 300 →
    Calls Tryd.prog 36 #[.pointer (some ⟨p, 0, none⟩), .string s] W fun e W' => ∃ F', (∀ b, F' b → F b ∨ W.heap.size ≤ b) ∧ Tur F W W' ∧
      ((l.length < 12 ∧ Lh.isNm s = true ∧ ¬ Lh.hix l s < l.length ∧ e = .returned .nilIface ∧ Rep f r (l ++ [(s, false, 0)]) F' p W') ∨
       (∃ k, AddFault l s k ∧ e = .returned (.iface 203 (.pointer (some (a k)))) ∧ Rep f r l F' p W'))
  remove : ∀ (a : Nat → Addr) (f r : Nat) (l : List Lh.Hh) (F : Nat → Prop) (p : Nat) (s : ByteArray) (W : World), Errs4 a W → Rep f r l F p W → Lh.HOk f r l → s.size ≤ 300 →
    Calls Tryd.prog 38 #[.pointer (some ⟨p, 0, none⟩), .string s] W fun e W' => ∃ F', (∀ b, F' b → F b ∨ W.heap.size ≤ b) ∧ Tur F W W' ∧
      ((Lh.hix l s < l.length ∧ e = .returned .nilIface ∧ Rep f r (l.eraseIdx (Lh.hix l s)) F' p W') ∨
       (¬ Lh.hix l s < l.length ∧ e = .returned (.iface 203 (.pointer (some (a 4)))) ∧ Rep f r l F' p W'))
theorem HealthC.later (hC : HealthC) {f r : Nat} {l : List Lh.Hh} {F : Nat → Prop} {p : Nat} {W W' : World} (h : hC.Rep f r l F p W) (hb : Below W.heap.size W W') : hC.Rep f r l F p W' :=
  hC.stay h hb.size fun b hf => hb.block b (hC.lt h b hf)
end Go.Proofs.YtkpjecpaejdgaabDoor
