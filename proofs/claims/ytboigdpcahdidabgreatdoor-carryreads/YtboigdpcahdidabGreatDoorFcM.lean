/- The model's cut of a text by a byte. -/
import Derived.Test.YtboigdpcahdidabGreatDoorCrM
import Derived.Test.YtboigdpcahdidabGreatDoorOwM
import Derived.BigQuiet
import Derived.Deep.QuietTactic
import Derived.Laws.AppendOwnNone
import Derived.Test.YtboigdpcahdidabGreatDoorLiM
import Derived.Below
import Derived.Test.YtboigdpcahdidabGreatDoorMaM
import Derived.Laws.StructEq
namespace Go.Proofs.YtboigdpcahdidabGreatDoor
open Go.RowKit

namespace Lh
/-- A word's bytes ahead of the first of some words. -/
def glue (w : List UInt8) : List (List UInt8) → List (List UInt8)
  | [] => [w]
  | x :: xs => (w ++ x) :: xs
theorem glue_nil {z : List (List UInt8)} (h : z ≠ []) : glue [] z = z := by
  cases z with
  | nil => exact absurd rfl h
  | cons x xs => rfl
theorem glue_hit (y : UInt8) (w r : List UInt8) : glue w (cutL y (y :: r)) = [w] ++ glue [] (cutL y r) := by
  rw [cutL_cons, if_pos rfl, glue_nil (cutL_ne y r)]
  simp [glue]
theorem glue_miss {y c : UInt8} (h : c ≠ y) (w r : List UInt8) : glue w (cutL y (c :: r)) = glue (w ++ [c]) (cutL y r) := by
  obtain ⟨x, xs, e⟩ := cutL_some y r
  rw [cutL_cons, if_neg h, e]
  simp [glue]
end Lh
def wordsV (ws : List (List UInt8)) : List Value := ws.map fun w => .string (Lh.bt w)

set_option maxRecDepth 100000 in
set_option maxHeartbeats 2000000 in
theorem cutM_any (l : List UInt8) (hl : l.length ≤ 100000) (y : UInt8) (W : World) :
    Calls Tryz.prog 65 #[.string (Lh.bt l), .int .u8 (y.toNat : Nat)] W fun e w' => ∃ v, e = .returned v ∧ w'.ownsRow W.heap.size 9 1 v (Lh.cutL y l).length (wordsV (Lh.cutL y l)) ∧ Below W.heap.size W w' := by
  obtain ⟨i0, hi0, hz0, hz1, hz2⟩ := info_parts infoS
  have hsz := Lh.bt_size l
  go_enter Tryz.func65, Tryz.ntmps65
  go_wp2_with fail
  go_loopw [5, 6, 7] (fun v u6 u7 w' => Below W.heap.size W w' ∧ ∃ (i : Nat) (out : List (List UInt8)) (word : List UInt8), i ≤ l.length ∧ out.length ≤ i ∧ word.length ≤ i ∧ u7 = .int .i64 (i : Nat) ∧ u6 = .string (Lh.bt word) ∧ w'.ownsRow W.heap.size 9 1 v out.length (wordsV out) ∧ Lh.cutL y l = out ++ Lh.glue word (Lh.cutL y (l.drop i))) (fun _ _ u7 _ => l.length - (intOf u7).toNat)
  case atStart => exact ⟨Below.refl _ _, 0, [], [], Nat.zero_le _, Nat.le_refl _, Nat.le_refl _, rfl, rfl, World.ownsRow_nil _ _ _ _, by rw [List.drop_zero, Lh.glue_nil (Lh.cutL_ne y l)]; rfl⟩
  case round =>
    obtain ⟨hb, i, out, word, hi, ho, hw, rfl, rfl, hown, heq⟩ := hrel
    obtain ⟨wo, hwo⟩ : ∃ wo, wo = wr := ⟨_, rfl⟩
    subst hwo
    obtain ⟨vo, hvo⟩ : ∃ vo, vo = u5 := ⟨_, rfl⟩
    subst hvo
    have hsw := Lh.bt_size word
    by_cases hil : i < l.length
    · have hii : (i : Int) < (l.length : Int) := by omega
      have hbs : i < (Lh.bt l).size := by rw [hsz]; exact hil
      have hdr : l.drop i = l[i] :: l.drop (i + 1) := List.drop_eq_getElem_cons hil
      have hbb : (Lh.bt l)[i] = l[i] := rfl
      by_cases hc : l[i] = y
      · have d1 : (((Lh.bt l)[i].toNat : Int) == (y.toNat : Int)) = true := by rw [hbb, hc]; simp
        have HEQ : Hid (Lh.cutL y l = (out ++ [word]) ++ Lh.glue [] (Lh.cutL y (l.drop (i + 1)))) := by
          show _ = _
          rw [heq, hdr, hc, Lh.glue_hit, List.append_assoc]
        have hown3 := hown.alloc (.cells #[.string (Lh.bt word)] 9)
        have hnews := cells_one (w := wo) (t := 9) (Lh.bt word)
        have hbw3 : Below W.heap.size W (wo.alloc (.cells #[.string (Lh.bt word)] 9)) := hb.alloc hb.size _
        have hmax : out.length + 1 ≤ maxLen := by unfold maxLen; omega
        clear hown heq hdr hbb hc
        go_wp2_with (at_builtin; refine wpList_append_own _ rfl _ _ 118 rfl W.heap.size 9 i0 _ 1 16 Tryz.underlying118 hi0 hz0 hz1 hz2 rfl (by decide) vo out.length (wordsV out) rfl hown3 ⟨wo.heap.size, 0, none⟩ 1 1 [.string (Lh.bt word)] rfl rfl hnews (fun u hu => by simp at hu; subst hu; rfl) hmax (by omega) hbw3.size ?_)
        intro v' w4 hown4 hg4 _
        have hlo := hown3.lt
        have hb4 : Below W.heap.size W w4 := hbw3.grown hg4 hbw3.size (fun k hk => (hlo k hk).1)
        have HOUT : Hid (w4.ownsRow W.heap.size 9 1 v' (out ++ [word]).length (wordsV (out ++ [word]))) := by
          show World.ownsRow _ _ _ _ _ _ _
          rw [List.length_append]
          unfold wordsV at hown4 ⊢
          rw [List.map_append]
          exact hown4
        clear hown3 hnews hlo hg4 hbw3 hmax hown4
        go_wp2
        exact ⟨⟨hb4, i + 1, out ++ [word], [], by omega, by rw [List.length_append]; simp; omega, by simp, by go_num, rfl, HOUT.out, HEQ.out⟩, by simp [intOf]; omega⟩
      · have d1 : (((Lh.bt l)[i].toNat : Int) == (y.toNat : Int)) = false := by
          rw [hbb]
          have : ¬ (l[i]).toNat = y.toNat := fun e => hc (UInt8.toNat_inj.1 e)
          simp
          omega
        have HEQ : Hid (Lh.cutL y l = out ++ Lh.glue (word ++ [l[i]]) (Lh.cutL y (l.drop (i + 1)))) := by
          show _ = _
          rw [heq, hdr, Lh.glue_miss hc]
        have HBX : Hid (Lh.bt word ++ (Lh.bt l).extract i (i + 1) = Lh.bt (word ++ [l[i]])) := by
          show _ = _
          rw [Lh.bt_extract, Lh.bt_append, hdr]
          congr 2
          simp
        clear heq hdr hbb hc
        go_wp2
        exact ⟨⟨hb, i + 1, out, word ++ [l[i]], by omega, by omega, by rw [List.length_append]; simp; omega, by go_num, congrArg Value.string HBX.out, hown, HEQ.out⟩, by simp [intOf]; omega⟩
    · have hii : decide ((i : Int) < (l.length : Int)) = false := by simp; omega
      have hdr : l.drop i = [] := List.drop_eq_nil_of_le (by omega)
      have HEQ : Hid (Lh.cutL y l = out ++ [word]) := by
        show _ = _
        rw [heq, hdr]
        simp [Lh.cutL, Lh.glue]
      have hown3 := hown.alloc (.cells #[.string (Lh.bt word)] 9)
      have hnews := cells_one (w := wo) (t := 9) (Lh.bt word)
      have hbw3 : Below W.heap.size W (wo.alloc (.cells #[.string (Lh.bt word)] 9)) := hb.alloc hb.size _
      have hmax : out.length + 1 ≤ maxLen := by unfold maxLen; omega
      clear hown heq hdr
      go_wp2_with (at_builtin; refine wpList_append_own _ rfl _ _ 118 rfl W.heap.size 9 i0 _ 1 16 Tryz.underlying118 hi0 hz0 hz1 hz2 rfl (by decide) vo out.length (wordsV out) rfl hown3 ⟨wo.heap.size, 0, none⟩ 1 1 [.string (Lh.bt word)] rfl rfl hnews (fun u hu => by simp at hu; subst hu; rfl) hmax (by omega) hbw3.size ?_)
      intro v' w4 hown4 hg4 _
      have hlo := hown3.lt
      have hb4 : Below W.heap.size W w4 := hbw3.grown hg4 hbw3.size (fun k hk => (hlo k hk).1)
      have HOUT : Hid (w4.ownsRow W.heap.size 9 1 v' (out ++ [word]).length (wordsV (out ++ [word]))) := by
        show World.ownsRow _ _ _ _ _ _ _
        rw [List.length_append]
        unfold wordsV at hown4 ⊢
        rw [List.map_append]
        exact hown4
      clear hown3 hnews hlo hg4 hbw3 hmax hown4
      go_wp2
      go_ret
      exact ⟨_, rfl, by rw [HEQ.out]; exact HOUT.out, hb4⟩
end Go.Proofs.YtboigdpcahdidabGreatDoor

/- A frame: all blocks but some are as they were. -/
namespace Go.Proofs.YtboigdpcahdidabGreatDoor
open Go.RowKit

/-- All blocks but those of F are as they were. -/
structure Tur (F : Nat → Prop) (w w' : World) : Prop where
  os : w'.os = w.os
  tape : w'.tape = w.tape
  output : w'.output = w.output
  size : w.heap.size ≤ w'.heap.size
  block : ∀ k, k < w.heap.size → ¬ F k → w'.heap[k]? = w.heap[k]?
theorem Tur.below {F : Nat → Prop} {B : Nat} {w W W' : World} (h : Tur F W W') (hF : ∀ k, F k → B ≤ k) (hb : Below B w W) (hB : B ≤ w.heap.size) : Below B w W' :=
  ⟨h.os.trans hb.os, h.tape.trans hb.tape, h.output.trans hb.output, Nat.le_trans hb.size h.size, fun k hk => (h.block k (by have := hb.size; omega) (fun hf => by have := hF k hf; omega)).trans (hb.block k hk)⟩
theorem Tur.of_below {F : Nat → Prop} {w w' : World} (h : Below w.heap.size w w') : Tur F w w' := ⟨h.os, h.tape, h.output, h.size, fun k hk _ => h.block k hk⟩
theorem Tur.trans {F G : Nat → Prop} {w w1 w2 : World} (h : Tur F w w1) (k : Tur G w1 w2) (hG : ∀ b, G b → F b ∨ w.heap.size ≤ b) : Tur F w w2 :=
  ⟨k.os.trans h.os, k.tape.trans h.tape, k.output.trans h.output, Nat.le_trans h.size k.size, fun b hb hf => (k.block b (Nat.lt_of_lt_of_le hb h.size) (fun hg => by rcases hG b hg with h1 | h1; exact hf h1; omega)).trans (h.block b hb hf)⟩
end Go.Proofs.YtboigdpcahdidabGreatDoor

/- What the laws of flows ask of the landed package. -/
namespace Go.Proofs.YtboigdpcahdidabGreatDoor
open Go.RowKit

/-- What is wrong with a tick: the error. -/
def TickF (last now : Int) (k : Nat) : Prop := ((now < 0 ∨ 1099511627776 < now) ∧ k = 1) ∨ (0 ≤ now ∧ now ≤ 1099511627776 ∧ now < last ∧ k = 7)
def TickOk (last now : Int) : Prop := 0 ≤ now ∧ now ≤ 1099511627776 ∧ last ≤ now
theorem tick_ex (last now : Int) : TickOk last now ∨ ∃ k, TickF last now k := by
  by_cases h : now < 0 ∨ 1099511627776 < now
  · exact Or.inr ⟨1, Or.inl ⟨h, rfl⟩⟩
  · by_cases h2 : now < last
    · exact Or.inr ⟨7, Or.inr ⟨by omega, by omega, h2, rfl⟩⟩
    · exact Or.inl ⟨by omega, by omega, by omega⟩
/-- A list of flows in memory. -/
def Flows1 (w : World) (v : Value) (L : List Lh.Fl) : Prop :=
  (L = [] ∧ (v = .slice none 0 0 ∨ ∃ ad c, v = .slice (some ad) 0 c)) ∨ ∃ b o c, v = .slice (some ⟨b, o, none⟩) L.length c ∧ L.length ≤ c ∧ ∀ i (h : i < L.length), w.cell? ⟨b, o + i * 3, none⟩ = some (.int .u64 (L[i].1 : Nat)) ∧ w.cell? ⟨b, o + i * 3 + 1, none⟩ = some (.string L[i].2.1) ∧ w.cell? ⟨b, o + i * 3 + 2, none⟩ = some (.int .i64 L[i].2.2)
theorem Flows1.later {w w' : World} {v : Value} {L : List Lh.Fl} (h : Flows1 w v L) (hb : Below w.heap.size w w') : Flows1 w' v L := by
  rcases h with h | ⟨b, o, c, e, hc, h⟩
  · exact Or.inl h
  · exact Or.inr ⟨b, o, c, e, hc, fun i hi => ⟨below_cell hb (h i hi).1, below_cell hb (h i hi).2.1, below_cell hb (h i hi).2.2⟩⟩
theorem Flows1.shape {w : World} {v : Value} {L : List Lh.Fl} (h : Flows1 w v L) : ∃ p c, v = .slice p L.length c := by
  rcases h with ⟨rfl, rfl | ⟨ad, c, rfl⟩⟩ | ⟨b, o, c, rfl, _⟩
  · exact ⟨_, _, rfl⟩
  · exact ⟨_, c, rfl⟩
  · exact ⟨_, _, rfl⟩
/-- The first flow whose host is no name. -/
def NmAt (l : List Lh.Fl) (i : Nat) : Prop := ∃ h : i < l.length, Lh.isNm (l[i]).2.1 = false ∧ ∀ j (hj : j < l.length), j < i → Lh.isNm (l[j]).2.1 = true
theorem nmAt_ex (l : List Lh.Fl) : (∀ x ∈ l, Lh.isNm x.2.1 = true) ∨ ∃ i, NmAt l i := by
  by_cases h : l.findIdx (fun x => !Lh.isNm x.2.1) < l.length
  · refine Or.inr ⟨_, h, ?_, fun j hj hlt => ?_⟩
    · have := List.findIdx_getElem (xs := l) (p := fun x : Lh.Fl => !Lh.isNm x.2.1) (w := h)
      simpa using this
    · have := List.not_of_lt_findIdx hlt
      simpa using this
  · refine Or.inl fun x hx => ?_
    rw [List.findIdx_lt_length] at h
    cases e : Lh.isNm x.2.1 with
    | true => rfl
    | false => exact absurd ⟨x, hx, by simp [e]⟩ h
/-- flows as they come: keys and ticks that a machine has, hosts not too long -/
def FlIn (l : List Lh.Fl) : Prop := ∀ x ∈ l, x.1 < 18446744073709551616 ∧ x.2.1.size ≤ 300 ∧ -9223372036854775808 ≤ x.2.2 ∧ x.2.2 ≤ 9223372036854775807
/-- The landed package's contracts, over what it says that a *Flows is (Rep: time, the last tick, flows by key, the blocks that it is made of), and what it asks of the package variables (E). -/
structure FlowsC where
  E : (Nat → Addr) → World → Prop
  eLater : ∀ {a : Nat → Addr} {W W' : World}, E a W → Below W.heap.size W W' → E a W'
  eOf : ∀ {a : Nat → Addr} {W : World}, Errs a W → E a W
  Rep : Nat → Int → List Lh.Fl → (Nat → Prop) → Nat → World → Prop
  lt : ∀ {t : Nat} {la : Int} {L : List Lh.Fl} {F : Nat → Prop} {p : Nat} {W : World}, Rep t la L F p W → ∀ b, F b → b < W.heap.size
  stay : ∀ {t : Nat} {la : Int} {L : List Lh.Fl} {F : Nat → Prop} {p : Nat} {W W' : World}, Rep t la L F p W → W.heap.size ≤ W'.heap.size → (∀ b, F b → W'.heap[b]? = W.heap[b]?) → Rep t la L F p W'
  newG : ∀ (t : Nat) (W : World), 1 ≤ t → t ≤ 1000 →
    Calls Tryz.prog 7 #[.int .i64 (t : Nat)] W fun e W' => ∃ p F, e = .returned (.tuple #[.pointer (some ⟨p, 0, none⟩), .nilIface]) ∧ Rep t 0 [] F p W' ∧ (∀ b, F b → W.heap.size ≤ b) ∧ Below W.heap.size W W'
  newB : ∀ (a : Nat → Addr) (x : Int) (W : World), E a W → (x < 1 ∨ 1000 < x) →
    Calls Tryz.prog 7 #[.int .i64 x] W fun e W' => e = .returned (.tuple #[.pointer none, .iface 238 (.pointer (some (a 1)))]) ∧ Below W.heap.size W W'
  put : ∀ (a : Nat → Addr) (t : Nat) (la : Int) (L : List Lh.Fl) (F : Nat → Prop) (p k : Nat) (s : ByteArray) (now : Int) (W : World), E a W → Rep t la L F p W → Lh.FlOk L → 1 ≤ t → t ≤ 1000 → 0 ≤ la → k < 18446744073709551616 → s.size ≤ 300 →
    Calls Tryz.prog 10 #[.pointer (some ⟨p, 0, none⟩), .int .u64 (k : Nat), .string s, .int .i64 now] W fun e W' => ∃ F', (∀ b, F' b → F b ∨ W.heap.size ≤ b) ∧ Tur F W W' ∧
      ((TickOk la now ∧ Lh.isNm s = true ∧ e = .returned .nilIface ∧ Rep t now (Lh.fput t L k s now) F' p W') ∨
       (∃ j, (TickF la now j ∨ (TickOk la now ∧ Lh.isNm s = false ∧ j = 3)) ∧ e = .returned (.iface 238 (.pointer (some (a j)))) ∧ Rep t la L F' p W'))
  get : ∀ (a : Nat → Addr) (t : Nat) (la : Int) (L : List Lh.Fl) (F : Nat → Prop) (p k : Nat) (now : Int) (W : World), E a W → Rep t la L F p W → Lh.FlOk L → 0 ≤ la → k < 18446744073709551616 →
    Calls Tryz.prog 12 #[.pointer (some ⟨p, 0, none⟩), .int .u64 (k : Nat), .int .i64 now] W fun e W' => ∃ F', (∀ b, F' b → F b ∨ W.heap.size ≤ b) ∧ Tur F W W' ∧
      ((TickOk la now ∧ Rep t now L F' p W' ∧ ((∃ h : Lh.fix L k < L.length, now < (L[Lh.fix L k]).2.2 ∧ e = .returned (.tuple #[.string (L[Lh.fix L k]).2.1, .bool true, .nilIface])) ∨ ((∀ h : Lh.fix L k < L.length, (L[Lh.fix L k]).2.2 ≤ now) ∧ e = .returned (.tuple #[.string ByteArray.empty, .bool false, .nilIface])))) ∨
       (∃ j, TickF la now j ∧ e = .returned (.tuple #[.string ByteArray.empty, .bool false, .iface 238 (.pointer (some (a j)))]) ∧ Rep t la L F' p W'))
  expire : ∀ (a : Nat → Addr) (t : Nat) (la : Int) (L : List Lh.Fl) (F : Nat → Prop) (p : Nat) (now : Int) (W : World), E a W → Rep t la L F p W → Lh.FlOk L → 0 ≤ la →
    Calls Tryz.prog 14 #[.pointer (some ⟨p, 0, none⟩), .int .i64 now] W fun e W' => ∃ F', (∀ b, F' b → F b ∨ W.heap.size ≤ b) ∧ Tur F W W' ∧
      ((TickOk la now ∧ e = .returned (.tuple #[.int .i64 ((L.length - (Lh.fexp L now).length : Nat) : Int), .nilIface]) ∧ Rep t now (Lh.fexp L now) F' p W') ∨
       (∃ j, TickF la now j ∧ e = .returned (.tuple #[.int .i64 0, .iface 238 (.pointer (some (a j)))]) ∧ Rep t la L F' p W'))
  drop : ∀ (t : Nat) (la : Int) (L : List Lh.Fl) (F : Nat → Prop) (p : Nat) (s : ByteArray) (W : World), Rep t la L F p W → Lh.FlOk L → s.size ≤ 300 →
    Calls Tryz.prog 16 #[.pointer (some ⟨p, 0, none⟩), .string s] W fun e W' => ∃ F', (∀ b, F' b → F b ∨ W.heap.size ≤ b) ∧ Tur F W W' ∧ e = .returned (.int .i64 ((L.length - (Lh.fdrop L s).length : Nat) : Int)) ∧ Rep t la (Lh.fdrop L s) F' p W'
  list : ∀ (t : Nat) (la : Int) (L : List Lh.Fl) (F : Nat → Prop) (p : Nat) (W : World), Rep t la L F p W → Lh.FlOk L →
    Calls Tryz.prog 23 #[.pointer (some ⟨p, 0, none⟩)] W fun e W' => ∃ v, e = .returned v ∧ Flows1 W' v L ∧ Below W.heap.size W W'
  add : ∀ (a : Nat → Addr) (t : Nat) (la : Int) (L : List Lh.Fl) (F : Nat → Prop) (p : Nat) (v : Value) (l : List Lh.Fl) (now : Int) (W : World), E a W → Rep t la L F p W → Lh.FlOk L → 1 ≤ t → t ≤ 1000 → 0 ≤ la → Flows1 W v l → (∀ b o n c, v = .slice (some ⟨b, o, none⟩) n c → ¬ F b) → l.length ≤ 201 → FlIn l →
    Calls Tryz.prog 18 #[.pointer (some ⟨p, 0, none⟩), v, .int .i64 now] W fun e W' => ∃ F', (∀ b, F' b → F b ∨ W.heap.size ≤ b) ∧ Tur F W W' ∧
      ((TickOk la now ∧ (∀ x ∈ l, Lh.isNm x.2.1 = true) ∧ e = .returned (.tuple #[.int .i64 (((Lh.fadd now L l).length - L.length : Nat) : Int), .nilIface]) ∧ Rep t now (Lh.fadd now L l) F' p W') ∨
       (∃ i, TickOk la now ∧ NmAt l i ∧ ∃ ev, e = .returned (.tuple #[.int .i64 0, ev]) ∧ ErrIs a W' 4 (i : Nat) ev ∧ (∀ b, ev = .iface 87 (.pointer (some ⟨b, 0, none⟩)) → W.heap.size ≤ b) ∧ Rep t la L F' p W') ∨
       (∃ j, TickF la now j ∧ e = .returned (.tuple #[.int .i64 0, .iface 238 (.pointer (some (a j)))]) ∧ Rep t la L F' p W'))
theorem FlowsC.later (hC : FlowsC) {t : Nat} {la : Int} {L : List Lh.Fl} {F : Nat → Prop} {p : Nat} {W W' : World} (h : hC.Rep t la L F p W) (hb : Below W.heap.size W W') : hC.Rep t la L F p W' :=
  hC.stay h hb.size fun b hf => hb.block b (hC.lt h b hf)
end Go.Proofs.YtboigdpcahdidabGreatDoor

/- Flows that are the same. -/
namespace Go.Proofs.YtboigdpcahdidabGreatDoor
open Go.RowKit

theorem Flows1.cells {w : World} {v : Value} {L : List Lh.Fl} (h : Flows1 w v L) : ∃ p c, v = .slice p L.length c ∧ ∀ i (hi : i < L.length), ∃ b o, p = some ⟨b, o, none⟩ ∧ w.cell? ⟨b, o + i * 3, none⟩ = some (.int .u64 (L[i].1 : Nat)) ∧ w.cell? ⟨b, o + i * 3 + 1, none⟩ = some (.string L[i].2.1) ∧ w.cell? ⟨b, o + i * 3 + 2, none⟩ = some (.int .i64 L[i].2.2) := by
  rcases h with ⟨rfl, rfl | ⟨ad, c, rfl⟩⟩ | ⟨b, o, c, rfl, _, h⟩
  · exact ⟨_, _, rfl, fun i hi => absurd hi (by simp)⟩
  · exact ⟨_, c, rfl, fun i hi => absurd hi (by simp)⟩
  · exact ⟨_, c, rfl, fun i hi => ⟨b, o, rfl, h i hi⟩⟩

theorem neqFl (k : Nat) (s : ByteArray) (u : Int) (w : World) : (binOp .neq 75 (.agg #[.int .u64 (k : Nat), .string s, .int .i64 u]) (.agg #[.int .u64 (k : Nat), .string s, .int .i64 u])).run Tryz.prog w = .ok (.bool false) w := by
  have hS : Tryz.prog.underlying 75 = some (.struct (Tryz.prog.fieldsOf 75)) := by kernel_rfl
  have hp : Tryz.prog.stoodInHeld 75 = false := by kernel_rfl
  have u1 := Tryz.underlying34
  have a1 := Tryz.isAgg34
  have z1 := Tryz.sizeOf34
  have u2 := Tryz.underlying9
  have a2 := Tryz.isAgg9
  have z2 := Tryz.sizeOf9
  have u3 := Tryz.underlying3
  have a3 := Tryz.isAgg3
  have z3 := Tryz.sizeOf3
  rw [run_neq_struct, show (10000 : Nat) = 9999 + 1 from rfl, run_equalIn_agg w 9999 75 _ _ hS hp]
  simp only [Program.fieldsOf, Tryz.underlying75]
  go_simp

set_option maxRecDepth 100000 in
set_option maxHeartbeats 2000000 in
theorem sameFlows_same (va vb : Value) (L : List Lh.Fl) (W : World) (ha : Flows1 W va L) (hb : Flows1 W vb L) (hl : L.length ≤ 1000) :
    Calls Tryz.prog 22 #[va, vb] W fun e w' => e = .returned (.bool true) ∧ Below W.heap.size W w' := by
  obtain ⟨pa, ca, rfl, hca⟩ := ha.cells
  obtain ⟨pb, cb, rfl, hcb⟩ := hb.cells
  have HA : Hid _ := hca
  have HB : Hid _ := hcb
  clear ha hb hca hcb
  go_enter Tryz.func22, Tryz.ntmps22
  go_wp2_with fail
  go_loopw [5] (fun u w' => Below W.heap.size W w' ∧ ∃ i : Nat, i ≤ L.length ∧ u = .int .i64 (i : Nat)) (fun u _ => L.length - (intOf u).toNat)
  case atStart => exact ⟨Below.refl _ _, 0, Nat.zero_le _, rfl⟩
  case round =>
    obtain ⟨hb, i, hi, rfl⟩ := hrel
    by_cases hil : i < L.length
    · have hii : (i : Int) < (L.length : Int) := by omega
      obtain ⟨ba, oa, rfl, a0, a1, a2⟩ := HA.out i hil
      obtain ⟨bb, ob, rfl, b0, b1, b2⟩ := HB.out i hil
      have a0' := below_cell hb a0
      have a1' := below_cell hb a1
      have a2' := below_cell hb a2
      have b0' := below_cell hb b0
      have b1' := below_cell hb b1
      have b2' := below_cell hb b2
      clear a0 a1 a2 b0 b1 b2
      generalize (L[i]).1 = k at *
      generalize (L[i]).2.1 = s at *
      generalize (L[i]).2.2 = u at *
      have hne := neqFl k s u
      go_wp2_with fail
      go_quiet (fail)
      go_wp2
      exact ⟨⟨below_drewN hb nq, i + 1, by omega, by go_num⟩, by simp [intOf]; omega⟩
    · have hii : decide ((i : Int) < (L.length : Int)) = false := by simp; omega
      go_wp2
      go_ret
      exact ⟨rfl, hb⟩
end Go.Proofs.YtboigdpcahdidabGreatDoor
