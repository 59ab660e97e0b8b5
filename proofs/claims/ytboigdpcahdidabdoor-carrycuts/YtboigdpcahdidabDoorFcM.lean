/- The model's cut of a text by a byte. -/
import Derived.Test.YtboigdpcahdidabDoorCrM
import Derived.Test.YtboigdpcahdidabDoorOwM
import Derived.BigQuiet
import Derived.Deep.QuietTactic
import Derived.Laws.AppendOwnNone
import Derived.Test.YtboigdpcahdidabDoorLiM
import Derived.Below
import Derived.Test.YtboigdpcahdidabDoorMaM
import Derived.Laws.StructEq
namespace Go.Proofs.YtboigdpcahdidabDoor
open Go.RowKit

namespace Lh
/-- A word's bytes ahead of the first of some words. -/
def glue (w : List UInt8) : List (List UInt8) → List (List UInt8)
  | [] => [w]
  | x :: xs => (w ++ x) :: xs
theorem glue_nil {z : List (List UInt8)} (h : z ≠ []) : glue [] z = z := by
  cases z with
  | nil => exact absurd rfl h
  | cons x xs => rfl
theorem glue_hit (y : UInt8) (w r : List UInt8) : glue w (cutL y (y :: r)) = [w] ++ glue [] (cutL y r) := by
  rw [cutL_cons, if_pos rfl, glue_nil (cutL_ne y r)]
  simp [glue]
theorem glue_miss {y c : UInt8} (h : c ≠ y) (w r : List UInt8) : glue w (cutL y (c :: r)) = glue (w ++ [c]) (cutL y r) := by
  obtain ⟨x, xs, e⟩ := cutL_some y r
  rw [cutL_cons, if_neg h, e]
  simp [glue]
end Lh
def wordsV (ws : List (List UInt8)) : List Value := ws.map fun w => .string (Lh.bt w)

end Go.Proofs.YtboigdpcahdidabDoor

/- A frame: all blocks but some are as they were. -/
namespace Go.Proofs.YtboigdpcahdidabDoor
open Go.RowKit

/-- All blocks but those of F are as they were. -/
structure Tur (F : Nat → Prop) (w w' : World) : Prop where
  os : w'.os = w.os
  tape : w'.tape = w.tape
  output : w'.output = w.output
  size : w.heap.size ≤ w'.heap.size
  block : ∀ k, k < w.heap.size → ¬ F k → w'.heap[k]? = w.heap[k]?
theorem Tur.below {F : Nat → Prop} {B : Nat} {w W W' : World} (h : Tur F W W') (hF : ∀ k, F k → B ≤ k) (hb : Below B w W) (hB : B ≤ w.heap.size) : Below B w W' :=
  ⟨h.os.trans hb.os, h.tape.trans hb.tape, h.output.trans hb.output, Nat.le_trans hb.size h.size, fun k hk => (h.block k (by have := hb.size; omega) (fun hf => by have := hF k hf; omega)).trans (hb.block k hk)⟩
theorem Tur.of_below {F : Nat → Prop} {w w' : World} (h : Below w.heap.size w w') : Tur F w w' := ⟨h.os, h.tape, h.output, h.size, fun k hk _ => h.block k hk⟩
theorem Tur.trans {F G : Nat → Prop} {w w1 w2 : World} (h : Tur F w w1) (k : Tur G w1 w2) (hG : ∀ b, G b → F b ∨ w.heap.size ≤ b) : Tur F w w2 :=
  ⟨k.os.trans h.os, k.tape.trans h.tape, k.output.trans h.output, Nat.le_trans h.size k.size, fun b hb hf => (k.block b (Nat.lt_of_lt_of_le hb h.size) (fun hg => by rcases hG b hg with h1 | h1; exact hf h1; omega)).trans (h.block b hb hf)⟩
end Go.Proofs.YtboigdpcahdidabDoor

/- What the laws of flows ask of the landed package. -/
namespace Go.Proofs.YtboigdpcahdidabDoor
open Go.RowKit

/-- What is wrong with a tick: the error. -/
def TickF (last now : Int) (k : Nat) : Prop := ((now < 0 ∨ 1099511627776 < now) ∧ k = 1) ∨ (0 ≤ now ∧ now ≤ 1099511627776 ∧ now < last ∧ k = 7)
def TickOk (last now : Int) : Prop := 0 ≤ now ∧ now ≤ 1099511627776 ∧ last ≤ now
theorem tick_ex (last now : Int) : TickOk last now ∨ ∃ k, TickF last now k := by
  by_cases h : now < 0 ∨ 1099511627776 < now
  · exact Or.inr ⟨1, Or.inl ⟨h, rfl⟩⟩
  · by_cases h2 : now < last
    · exact Or.inr ⟨7, Or.inr ⟨by omega, by omega, h2, rfl⟩⟩
    · exact Or.inl ⟨by omega, by omega, by omega⟩
/-- A list of flows in memory. -/
def Flows1 (w : World) (v : Value) (L : List Lh.Fl) : Prop :=
  (L = [] ∧ (v = .slice none 0 0 ∨ ∃ ad c, v = .slice (some ad) 0 c)) ∨ ∃ b o c, v = .slice (some ⟨b, o, none⟩) L.length c ∧ L.length ≤ c ∧ ∀ i (h : i < L.length), w.cell? ⟨b, o + i * 3, none⟩ = some (.int .u64 (L[i].1 : Nat)) ∧ w.cell? ⟨b, o + i * 3 + 1, none⟩ = some (.string L[i].2.1) ∧ w.cell? ⟨b, o + i * 3 + 2, none⟩ = some (.int .i64 L[i].2.2)
theorem Flows1.later {w w' : World} {v : Value} {L : List Lh.Fl} (h : Flows1 w v L) (hb : Below w.heap.size w w') : Flows1 w' v L := by
  rcases h with h | ⟨b, o, c, e, hc, h⟩
  · exact Or.inl h
  · exact Or.inr ⟨b, o, c, e, hc, fun i hi => ⟨below_cell hb (h i hi).1, below_cell hb (h i hi).2.1, below_cell hb (h i hi).2.2⟩⟩
theorem Flows1.shape {w : World} {v : Value} {L : List Lh.Fl} (h : Flows1 w v L) : ∃ p c, v = .slice p L.length c := by
  rcases h with ⟨rfl, rfl | ⟨ad, c, rfl⟩⟩ | ⟨b, o, c, rfl, _⟩
  · exact ⟨_, _, rfl⟩
  · exact ⟨_, c, rfl⟩
  · exact ⟨_, _, rfl⟩
/-- The first flow whose host is no name. -/
def NmAt (l : List Lh.Fl) (i : Nat) : Prop := ∃ h : i < l.length, Lh.isNm (l[i]).2.1 = false ∧ ∀ j (hj : j < l.length), j < i → Lh.isNm (l[j]).2.1 = true
theorem nmAt_ex (l : List Lh.Fl) : (∀ x ∈ l, Lh.isNm x.2.1 = true) ∨ ∃ i, NmAt l i := by
  by_cases h : l.findIdx (fun x => !Lh.isNm x.2.1) < l.length
  · refine Or.inr ⟨_, h, ?_, fun j hj hlt => ?_⟩
    · have := List.findIdx_getElem (xs := l) (p := fun x : Lh.Fl => !Lh.isNm x.2.1) (w := h)
      simpa using this
    · have := List.not_of_lt_findIdx hlt
      simpa using this
  · refine Or.inl fun x hx => ?_
    rw [List.findIdx_lt_length] at h
    cases e : Lh.isNm x.2.1 with
    | true => rfl
    | false => exact absurd ⟨x, hx, by simp [e]⟩ h
/-- flows as they come: keys and ticks that a machine has, hosts not too long -/
def FlIn (l : List Lh.Fl) : Prop := ∀ x ∈ l, x.1 < 18446744073709551616 ∧ x.2.1.size ≤ 300 ∧ -9223372036854775808 ≤ x.2.2 ∧ x.2.2 ≤ 9223372036854775807
/-- The landed package's contracts, over what it says that a *Flows is (Rep: time, the last tick, flows by key, the blocks that it is made of), and what it asks of the package variables (E). -/
structure FlowsC where
  E : (Nat → Addr) → World → Prop
  eLater : ∀ {a : Nat → Addr} {W W' : World}, E a W → Below W.heap.size W W' → E a W'
  eOf : ∀ {a : Nat → Addr} {W : World}, Errs a W → E a W
  Rep : Nat → Int → List Lh.Fl → (Nat → Prop) → Nat → World → Prop
  lt : ∀ {t : Nat} {la : Int} {L : List Lh.Fl} {F : Nat → Prop} {p : Nat} {W : World}, Rep t la L F p W → ∀ b, F b → b < W.heap.size
  stay : ∀ {t : Nat} {la : Int} {L : List Lh.Fl} {F : Nat → Prop} {p : Nat} {W W' : World}, Rep t la L F p W → W.heap.size ≤ W'.heap.size → (∀ b, F b → W'.heap[b]? = W.heap[b]?) → Rep t la L F p W'
  newG : ∀ (t : Nat) (W : World), 1 ≤ t → t ≤ 1000 →
    Calls Tryd.prog 48 #[.int .i64 (t : Nat)] W fun e W' => ∃ p F, e = .returned (.tuple #[.pointer (some ⟨p, 0, none⟩), .nilIface]) ∧ Rep t 0 [] F p W' ∧ (∀ b, F b → W.heap.size ≤ b) ∧ Below W.heap.size W W'
  newB : ∀ (a : Nat → Addr) (x : Int) (W : World), E a W → (x < 1 ∨ 1000 < x) →
    Calls Tryd.prog 48 #[.int .i64 x] W fun e W' => e = .returned (.tuple #[.pointer none, .iface 319 (.pointer (some (a 1)))]) ∧ Below W.heap.size W W'
  put : ∀ (a : Nat → Addr) (t : Nat) (la : Int) (L : List Lh.Fl) (F : Nat → Prop) (p k : Nat) (s : ByteArray) (now : Int) (W : World), E a W → Rep t la L F p W → Lh.FlOk L → 1 ≤ t → t ≤ 1000 → 0 ≤ la → k < 18446744073709551616 → s.size ≤ 300 →
    Calls Tryd.prog 49 #[.pointer (some ⟨p, 0, none⟩), .int .u64 (k : Nat), .string s, .int .i64 now] W fun e W' => ∃ F', (∀ b, F' b → F b ∨ W.heap.size ≤ b) ∧ Tur F W W' ∧
      ((TickOk la now ∧ Lh.isNm s = true ∧ e = .returned .nilIface ∧ Rep t now (Lh.fput t L k s now) F' p W') ∨
       (∃ j, (TickF la now j ∨ (TickOk la now ∧ Lh.isNm s = false ∧ j = 3)) ∧ e = .returned (.iface 319 (.pointer (some (a j)))) ∧ Rep t la L F' p W'))
  get : ∀ (a : Nat → Addr) (t : Nat) (la : Int) (L : List Lh.Fl) (F : Nat → Prop) (p k : Nat) (now : Int) (W : World), E a W → Rep t la L F p W → Lh.FlOk L → 0 ≤ la → k < 18446744073709551616 →
    Calls Tryd.prog 51 #[.pointer (some ⟨p, 0, none⟩), .int .u64 (k : Nat), .int .i64 now] W fun e W' => ∃ F', (∀ b, F' b → F b ∨ W.heap.size ≤ b) ∧ Tur F W W' ∧
      ((TickOk la now ∧ Rep t now L F' p W' ∧ ((∃ h : Lh.fix L k < L.length, now < (L[Lh.fix L k]).2.2 ∧ e = .returned (.tuple #[.string (L[Lh.fix L k]).2.1, .bool true, .nilIface])) ∨ ((∀ h : Lh.fix L k < L.length, (L[Lh.fix L k]).2.2 ≤ now) ∧ e = .returned (.tuple #[.string ByteArray.empty, .bool false, .nilIface])))) ∨
       (∃ j, TickF la now j ∧ e = .returned (.tuple #[.string ByteArray.empty, .bool false, .iface 319 (.pointer (some (a j)))]) ∧ Rep t la L F' p W'))
  expire : ∀ (a : Nat → Addr) (t : Nat) (la : Int) (L : List Lh.Fl) (F : Nat → Prop) (p : Nat) (now : Int) (W : World), E a W → Rep t la L F p W → Lh.FlOk L → 0 ≤ la →
    Calls Tryd.prog 53 #[.pointer (some ⟨p, 0, none⟩), .int .i64 now] W fun e W' => ∃ F', (∀ b, F' b → F b ∨ W.heap.size ≤ b) ∧ Tur F W W' ∧
      ((TickOk la now ∧ e = .returned (.tuple #[.int .i64 ((L.length - (Lh.fexp L now).length : Nat) : Int), .nilIface]) ∧ Rep t now (Lh.fexp L now) F' p W') ∨
       (∃ j, TickF la now j ∧ e = .returned (.tuple #[.int .i64 0, .iface 319 (.pointer (some (a j)))]) ∧ Rep t la L F' p W'))
  drop : ∀ (t : Nat) (la : Int) (L : List Lh.Fl) (F : Nat → Prop) (p : Nat) (s : ByteArray) (W : World), Rep t la L F p W → Lh.FlOk L → s.size ≤ 300 →
    Calls Tryd.prog 50 #[.pointer (some ⟨p, 0, none⟩), .string s] W fun e W' => ∃ F', (∀ b, F' b → F b ∨ W.heap.size ≤ b) ∧ Tur F W W' ∧ e = .returned (.int .i64 ((L.length - (Lh.fdrop L s).length : Nat) : Int)) ∧ Rep t la (Lh.fdrop L s) F' p W'
  list : ∀ (t : Nat) (la : Int) (L : List Lh.Fl) (F : Nat → Prop) (p : Nat) (W : World), Rep t la L F p W → Lh.FlOk L →
    Calls Tryd.prog 52 #[.pointer (some ⟨p, 0, none⟩)] W fun e W' => ∃ v, e = .returned v ∧ Flows1 W' v L ∧ Below W.heap.size W W'
theorem FlowsC.later (hC : FlowsC) {t : Nat} {la : Int} {L : List Lh.Fl} {F : Nat → Prop} {p : Nat} {W W' : World} (h : hC.Rep t la L F p W) (hb : Below W.heap.size W W') : hC.Rep t la L F p W' :=
  hC.stay h hb.size fun b hf => hb.block b (hC.lt h b hf)
end Go.Proofs.YtboigdpcahdidabDoor

/- Flows that are the same. -/
namespace Go.Proofs.YtboigdpcahdidabDoor
open Go.RowKit

theorem Flows1.cells {w : World} {v : Value} {L : List Lh.Fl} (h : Flows1 w v L) : ∃ p c, v = .slice p L.length c ∧ ∀ i (hi : i < L.length), ∃ b o, p = some ⟨b, o, none⟩ ∧ w.cell? ⟨b, o + i * 3, none⟩ = some (.int .u64 (L[i].1 : Nat)) ∧ w.cell? ⟨b, o + i * 3 + 1, none⟩ = some (.string L[i].2.1) ∧ w.cell? ⟨b, o + i * 3 + 2, none⟩ = some (.int .i64 L[i].2.2) := by
  rcases h with ⟨rfl, rfl | ⟨ad, c, rfl⟩⟩ | ⟨b, o, c, rfl, _, h⟩
  · exact ⟨_, _, rfl, fun i hi => absurd hi (by simp)⟩
  · exact ⟨_, c, rfl, fun i hi => absurd hi (by simp)⟩
  · exact ⟨_, c, rfl, fun i hi => ⟨b, o, rfl, h i hi⟩⟩

theorem neqFl (k : Nat) (s : ByteArray) (u : Int) (w : World) : (binOp .neq 88 (.agg #[.int .u64 (k : Nat), .string s, .int .i64 u]) (.agg #[.int .u64 (k : Nat), .string s, .int .i64 u])).run Tryd.prog w = .ok (.bool false) w := by
  have hS : Tryd.prog.underlying 88 = some (.struct (Tryd.prog.fieldsOf 88)) := by kernel_rfl
  have hp : Tryd.prog.stoodInHeld 88 = false := by kernel_rfl
  have u1 := Tryd.underlying32
  have a1 := Tryd.isAgg32
  have z1 := Tryd.sizeOf32
  have u2 := Tryd.underlying9
  have a2 := Tryd.isAgg9
  have z2 := Tryd.sizeOf9
  have u3 := Tryd.underlying3
  have a3 := Tryd.isAgg3
  have z3 := Tryd.sizeOf3
  rw [run_neq_struct, show (10000 : Nat) = 9999 + 1 from rfl, run_equalIn_agg w 9999 88 _ _ hS hp]
  simp only [Program.fieldsOf, Tryd.underlying88]
  go_simp

end Go.Proofs.YtboigdpcahdidabDoor
