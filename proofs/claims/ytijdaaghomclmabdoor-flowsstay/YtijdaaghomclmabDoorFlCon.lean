/- What the laws of flows ask of the landed package. -/
import Derived.Test.YtijdaaghomclmabDoorFlMath
import Derived.Test.YtijdaaghomclmabDoorTur
import Derived.Test.YtijdaaghomclmabDoorFew
namespace Go.Proofs.YtijdaaghomclmabDoor
open Go.RowKit

/-- What is wrong with a tick: the error. -/
def TickF (last now : Int) (k : Nat) : Prop := ((now < 0 ∨ 1099511627776 < now) ∧ k = 1) ∨ (0 ≤ now ∧ now ≤ 1099511627776 ∧ now < last ∧ k = 7)
def TickOk (last now : Int) : Prop := 0 ≤ now ∧ now ≤ 1099511627776 ∧ last ≤ now
theorem tick_ex (last now : Int) : TickOk last now ∨ ∃ k, TickF last now k := by
  by_cases h : now < 0 ∨ 1099511627776 < now
  · exact Or.inr ⟨1, Or.inl ⟨h, rfl⟩⟩
  · by_cases h2 : now < last
    · exact Or.inr ⟨7, Or.inr ⟨by omega, by omega, h2, rfl⟩⟩
    · exact Or.inl ⟨by omega, by omega, by omega⟩
/-- A list of flows in memory. -/
def Flows1 (w : World) (v : Value) (L : List Lh.Fl) : Prop :=
  (L = [] ∧ (v = .slice none 0 0 ∨ ∃ ad c, v = .slice (some ad) 0 c)) ∨ ∃ b o c, v = .slice (some ⟨b, o, none⟩) L.length c ∧ L.length ≤ c ∧ ∀ i (h : i < L.length), w.cell? ⟨b, o + i * 3, none⟩ = some (.int .u64 (L[i].1 : Nat)) ∧ w.cell? ⟨b, o + i * 3 + 1, none⟩ = some (.string L[i].2.1) ∧ w.cell? ⟨b, o + i * 3 + 2, none⟩ = some (.int .i64 L[i].2.2)
theorem Flows1.later {w w' : World} {v : Value} {L : List Lh.Fl} (h : Flows1 w v L) (hb : Below w.heap.size w w') : Flows1 w' v L := by
  rcases h with h | ⟨b, o, c, e, hc, h⟩
  · exact Or.inl h
  · exact Or.inr ⟨b, o, c, e, hc, fun i hi => ⟨below_cell hb (h i hi).1, below_cell hb (h i hi).2.1, below_cell hb (h i hi).2.2⟩⟩
theorem Flows1.shape {w : World} {v : Value} {L : List Lh.Fl} (h : Flows1 w v L) : ∃ p c, v = .slice p L.length c := by
  rcases h with ⟨rfl, rfl | ⟨ad, c, rfl⟩⟩ | ⟨b, o, c, rfl, _⟩
  · exact ⟨_, _, rfl⟩
  · exact ⟨_, c, rfl⟩
  · exact ⟨_, _, rfl⟩
/-- The first flow whose host is no name. -/
def NmAt (l : List Lh.Fl) (i : Nat) : Prop := ∃ h : i < l.length, Lh.isNm (l[i]).2.1 = false ∧ ∀ j (hj : j < l.length), j < i → Lh.isNm (l[j]).2.1 = true
theorem nmAt_ex (l : List Lh.Fl) : (∀ x ∈ l, Lh.isNm x.2.1 = true) ∨ ∃ i, NmAt l i := by
  by_cases h : l.findIdx (fun x => !Lh.isNm x.2.1) < l.length
  · refine Or.inr ⟨_, h, ?_, fun j hj hlt => ?_⟩
    · have := List.findIdx_getElem (xs := l) (p := fun x : Lh.Fl => !Lh.isNm x.2.1) (w := h)
      simpa using this
    · have := List.not_of_lt_findIdx hlt
      simpa using this
  · refine Or.inl fun x hx => ?_
    rw [List.findIdx_lt_length] at h
    cases e : Lh.isNm x.2.1 with
    | true => rfl
    | false => exact absurd ⟨x, hx, by simp [e]⟩ h
/-- flows as they come: keys and ticks that a machine has, hosts not too long -/
def FlIn (l : List Lh.Fl) : Prop := ∀ x ∈ l, x.1 < 18446744073709551616 ∧ x.2.1.size ≤ 300 ∧ -9223372036854775808 ≤ x.2.2 ∧ x.2.2 ≤ 9223372036854775807
/-- The landed package's contracts, over what it says that a *Flows is (Rep: time, the last tick, flows by key, the blocks that it is made of), and what it asks of the package variables (E). -/
structure FlowsC where
  E : (Nat → Addr) → World → Prop
  eLater : ∀ {a : Nat → Addr} {W W' : World}, E a W → Below W.heap.size W W' → E a W'
  eOf : ∀ {a : Nat → Addr} {W : World}, Errs a W → E a W
  Rep : Nat → Int → List Lh.Fl → (Nat → Prop) → Nat → World → Prop
  lt : ∀ {t : Nat} {la : Int} {L : List Lh.Fl} {F : Nat → Prop} {p : Nat} {W : World}, Rep t la L F p W → ∀ b, F b → b < W.heap.size
  stay : ∀ {t : Nat} {la : Int} {L : List Lh.Fl} {F : Nat → Prop} {p : Nat} {W W' : World}, Rep t la L F p W → W.heap.size ≤ W'.heap.size → (∀ b, F b → W'.heap[b]? = W.heap[b]?) → Rep t la L F p W'
  newG : ∀ (t : Nat) (W : World), 1 ≤ t → t ≤ 1000 →
    Calls Tryd.prog 47 #[.int .i64 (t : Nat)] W fun e W' => ∃ p F, e = .returned (.tuple #[.pointer (some ⟨p, 0, none⟩), .nilIface]) ∧ Rep t 0 [] F p W' ∧ (∀ b, F b → W.heap.size ≤ b) ∧ Below W.heap.size W W'
  newB : ∀ (a : Nat → Addr) (x : Int) (W : World), E a W → (x < 1 ∨ 1000 < x) →
    Calls Tryd.prog 47 #[.int .i64 x] W fun e W' => e = .returned (.tuple #[.pointer none, .iface 242 (.pointer (some (a 1)))]) ∧ Below W.heap.size W W'
  put : ∀ (a : Nat → Addr) (t : Nat) (la : Int) (L : List Lh.Fl) (F : Nat → Prop) (p k : Nat) (s : ByteArray) (now : Int) (W : World), E a W → Rep t la L F p W → Lh.FlOk L → 1 ≤ t → t ≤ 1000 → 0 ≤ la → k < 18446744073709551616 → s.size ≤ 300 →
    Calls Tryd.prog 48 #[.pointer (some ⟨p, 0, none⟩), .int .u64 (k : Nat), .string s, .int .i64 now] W fun e W' => ∃ F', (∀ b, F' b → F b ∨ W.heap.size ≤ b) ∧ Tur F W W' ∧
      ((TickOk la now ∧ Lh.isNm s = true ∧ e = .returned .nilIface ∧ Rep t now (Lh.fput t L k s now) F' p W') ∨
       (∃ j, (TickF la now j ∨ (TickOk la now ∧ Lh.isNm s = false ∧ j = 3)) ∧ e = .returned (.iface 242 (.pointer (some (a j)))) ∧ Rep t la L F' p W'))
  get : ∀ (a : Nat → Addr) (t : Nat) (la : Int) (L : List Lh.Fl) (F : Nat → Prop) (p k : Nat) (now : Int) (W : World), E a W → Rep t la L F p W → Lh.FlOk L → 0 ≤ la → k < 18446744073709551616 →
    Calls Tryd.prog 50 #[.pointer (some ⟨p, 0, none⟩), .int .u64 (k : Nat), .int .i64 now] W fun e W' => ∃ F', (∀ b, F' b → F b ∨ W.heap.size ≤ b) ∧ Tur F W W' ∧
      ((TickOk la now ∧ Rep t now L F' p W' ∧ ((∃ h : Lh.fix L k < L.length, now < (L[Lh.fix L k]).2.2 ∧ e = .returned (.tuple #[.string (L[Lh.fix L k]).2.1, .bool true, .nilIface])) ∨ ((∀ h : Lh.fix L k < L.length, (L[Lh.fix L k]).2.2 ≤ now) ∧ e = .returned (.tuple #[.string ByteArray.empty, .bool false, .nilIface])))) ∨
       (∃ j, TickF la now j ∧ e = .returned (.tuple #[.string ByteArray.empty, .bool false, .iface 242 (.pointer (some (a j)))]) ∧ Rep t la L F' p W'))
  expire : ∀ (a : Nat → Addr) (t : Nat) (la : Int) (L : List Lh.Fl) (F : Nat → Prop) (p : Nat) (now : Int) (W : World), E a W → Rep t la L F p W → Lh.FlOk L → 0 ≤ la →
    Calls Tryd.prog 52 #[.pointer (some ⟨p, 0, none⟩), .int .i64 now] W fun e W' => ∃ F', (∀ b, F' b → F b ∨ W.heap.size ≤ b) ∧ Tur F W W' ∧
      ((TickOk la now ∧ e = .returned (.tuple #[.int .i64 ((L.length - (Lh.fexp L now).length : Nat) : Int), .nilIface]) ∧ Rep t now (Lh.fexp L now) F' p W') ∨
       (∃ j, TickF la now j ∧ e = .returned (.tuple #[.int .i64 0, .iface 242 (.pointer (some (a j)))]) ∧ Rep t la L F' p W'))
  drop : ∀ (t : Nat) (la : Int) (L : List Lh.Fl) (F : Nat → Prop) (p : Nat) (s : ByteArray) (W : World), Rep t la L F p W → Lh.FlOk L → s.size ≤ 300 →
    Calls Tryd.prog 49 #[.pointer (some ⟨p, 0, none⟩), .string s] W fun e W' => ∃ F', (∀ b, F' b → F b ∨ W.heap.size ≤ b) ∧ Tur F W W' ∧ e = .returned (.int .i64 ((L.length - (Lh.fdrop L s).length : Nat) : Int)) ∧ Rep t la (Lh.fdrop L s) F' p W'
  list : ∀ (t : Nat) (la : Int) (L : List Lh.Fl) (F : Nat → Prop) (p : Nat) (W : World), Rep t la L F p W → Lh.FlOk L →
    Calls Tryd.prog 51 #[.pointer (some ⟨p, 0, none⟩)] W fun e W' => ∃ v, e = .returned v ∧ Flows1 W' v L ∧ Below W.heap.size W W'
theorem FlowsC.later (hC : FlowsC) {t : Nat} {la : Int} {L : List Lh.Fl} {F : Nat → Prop} {p : Nat} {W W' : World} (h : hC.Rep t la L F p W) (hb : Below W.heap.size W W') : hC.Rep t la L F p W' :=
  hC.stay h hb.size fun b hf => hb.block b (hC.lt h b hf)
end Go.Proofs.YtijdaaghomclmabDoor
