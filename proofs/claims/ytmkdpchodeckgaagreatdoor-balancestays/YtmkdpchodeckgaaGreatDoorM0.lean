/- Health, as lists: hosts, whether they are up, and how many looks of the other kind came last. -/
import Derived.Test.YtmkdpchodeckgaaGreatDoorChecked
import Derived.WalkKit
import Derived.WalkLawsBesides
import Derived.WalkSpells
import Derived.Laws.AppendOwnNone
import Derived.Laws.CopyOwn
import Derived.Below
import Derived.LaidEql
import Derived.Stop.Asserts
import Derived.RowKitTokens
import Derived.Deep.QuietTactic
import Derived.BigQuiet
namespace Go.Proofs.YtmkdpchodeckgaaGreatDoor
namespace Lh

/-- a host: its name, whether it is up, how many looks of the other kind came one behind the other -/
abbrev Hh := ByteArray × Bool × Nat
/-- the place of a host (the list's length: none) -/
def hix (l : List Hh) (s : ByteArray) : Nat := l.findIdx fun x => decide (x.1 = s)
/-- how many looks turn a host -/
def hedge (f r : Nat) (up : Bool) : Nat := if up then f else r
/-- a look at a host: what it is then, and whether it turned -/
def hlook (f r : Nat) (x : Hh) (well : Bool) : Hh × Bool :=
  if well = x.2.1 then ((x.1, x.2.1, 0), false)
  else if hedge f r x.2.1 ≤ x.2.2 + 1 then ((x.1, !x.2.1, 0), true) else ((x.1, x.2.1, x.2.2 + 1), false)
/-- hosts that are up -/
def hups (l : List Hh) : List ByteArray := (l.filter fun x => x.2.1).map fun x => x.1
/-- is it up? -/
def hup (l : List Hh) (s : ByteArray) : Bool := l.any fun x => decide (x.1 = s) && x.2.1
/-- bounds of edges, of hosts and of counts -/
structure HOk (f r : Nat) (l : List Hh) : Prop where
  f1 : 1 ≤ f
  f10 : f ≤ 10
  r1 : 1 ≤ r
  r10 : r ≤ 10
  len : l.length ≤ 12
  nodup : (l.map fun x => x.1).Nodup
  size : ∀ x ∈ l, x.1.size ≤ 300
  cnt : ∀ x ∈ l, x.2.2 < hedge f r x.2.1
theorem hlook_name (f r : Nat) (x : Hh) (well : Bool) : (hlook f r x well).1.1 = x.1 := by
  unfold hlook
  split
  · rfl
  · split <;> rfl
theorem hedge_pos {f r : Nat} (hf : 1 ≤ f) (hr : 1 ≤ r) (up : Bool) : 0 < hedge f r up := by
  unfold hedge
  split <;> omega
theorem hedge_le {f r : Nat} (hf : f ≤ 10) (hr : r ≤ 10) (up : Bool) : hedge f r up ≤ 10 := by
  unfold hedge
  split <;> omega
theorem hlook_cnt {f r : Nat} (hf : 1 ≤ f) (hr : 1 ≤ r) (x : Hh) (well : Bool) : (hlook f r x well).1.2.2 < hedge f r (hlook f r x well).1.2.1 := by
  unfold hlook
  split
  · exact hedge_pos hf hr _
  · split
    · exact hedge_pos hf hr _
    · rename_i h
      show x.2.2 + 1 < hedge f r x.2.1
      omega
theorem HOk.look {f r : Nat} {l : List Hh} (h : HOk f r l) {i : Nat} (hi : i < l.length) (well : Bool) : HOk f r (l.set i (hlook f r l[i] well).1) := by
  refine ⟨h.f1, h.f10, h.r1, h.r10, by simpa using h.len, ?_, fun x hx => ?_, fun x hx => ?_⟩
  · have e : (l.set i (hlook f r l[i] well).1).map (fun x => x.1) = l.map fun x => x.1 := by
      rw [List.map_set, hlook_name]
      apply List.ext_getElem
      · simp
      · intro j h1 h2
        rw [List.getElem_set]
        split
        · rename_i e
          subst e
          simp
        · rfl
    rw [e]
    exact h.nodup
  · rcases List.mem_or_eq_of_mem_set hx with hx | rfl
    · exact h.size x hx
    · rw [hlook_name]
      exact h.size _ (List.getElem_mem hi)
  · rcases List.mem_or_eq_of_mem_set hx with hx | rfl
    · exact h.cnt x hx
    · exact hlook_cnt h.f1 h.r1 _ _
theorem hix_lt {l : List Hh} {s : ByteArray} : hix l s < l.length ↔ ∃ x ∈ l, x.1 = s := by
  unfold hix
  rw [List.findIdx_lt_length]
  simp
theorem hix_get {l : List Hh} {s : ByteArray} (h : hix l s < l.length) : (l[hix l s]).1 = s := by
  have := List.findIdx_getElem (xs := l) (p := fun x : Hh => decide (x.1 = s)) (w := h)
  exact of_decide_eq_true this
theorem hix_first {l : List Hh} {s : ByteArray} {j : Nat} (hj : j < l.length) (h : j < hix l s) : (l[j]).1 ≠ s := by
  have := List.not_of_lt_findIdx h
  simpa using this
theorem hix_le (l : List Hh) (s : ByteArray) : hix l s ≤ l.length := List.findIdx_le_length
theorem HOk.add {f r : Nat} {l : List Hh} (h : HOk f r l) {s : ByteArray} (hl : l.length < 12) (hs : s.size ≤ 300) (hn : ¬ hix l s < l.length) : HOk f r (l ++ [(s, false, 0)]) := by
  rw [hix_lt] at hn
  refine ⟨h.f1, h.f10, h.r1, h.r10, by simp; omega, ?_, fun x hx => ?_, fun x hx => ?_⟩
  · rw [List.map_append, List.nodup_append]
    refine ⟨h.nodup, by simp, fun a ha b hb e => ?_⟩
    simp at hb
    subst hb
    subst e
    obtain ⟨x, hx, e⟩ := List.mem_map.1 ha
    exact hn ⟨x, hx, e⟩
  · rcases List.mem_append.1 hx with hx | hx
    · exact h.size x hx
    · simp at hx
      subst hx
      exact hs
  · rcases List.mem_append.1 hx with hx | hx
    · exact h.cnt x hx
    · simp at hx
      subst hx
      exact hedge_pos h.f1 h.r1 _
theorem HOk.remove {f r : Nat} {l : List Hh} (h : HOk f r l) (i : Nat) : HOk f r (l.eraseIdx i) := by
  have hs := List.eraseIdx_sublist l i
  refine ⟨h.f1, h.f10, h.r1, h.r10, Nat.le_trans hs.length_le h.len, h.nodup.sublist (hs.map _), fun x hx => h.size x (hs.mem hx), fun x hx => h.cnt x (hs.mem hx)⟩
/-- the hosts of a new one -/
def hnew (xs : List ByteArray) : List Hh := xs.map fun s => (s, true, 0)
theorem hnew_ok {f r : Nat} {xs : List ByteArray} (hf1 : 1 ≤ f) (hf : f ≤ 10) (hr1 : 1 ≤ r) (hr : r ≤ 10) (hl : xs.length ≤ 12) (hn : xs.Nodup) (hs : ∀ s ∈ xs, s.size ≤ 300) : HOk f r (hnew xs) := by
  refine ⟨hf1, hf, hr1, hr, by simpa [hnew] using hl, ?_, fun x hx => ?_, fun x hx => ?_⟩
  · have e : (hnew xs).map (fun x => x.1) = xs := by simp [hnew, Function.comp_def]
    rw [e]
    exact hn
  · obtain ⟨s, h, rfl⟩ := List.mem_map.1 hx
    exact hs s h
  · obtain ⟨s, h, rfl⟩ := List.mem_map.1 hx
    exact hedge_pos hf1 hr1 _
end Lh
end Go.Proofs.YtmkdpchodeckgaaGreatDoor

/- What holds of memory alone. -/
namespace Go.Proofs.YtmkdpchodeckgaaGreatDoor
open Go.RowKit

theorem below_then {w w1 w2 : World} (h : Below w.heap.size w w1) (k : Below w1.heap.size w1 w2) : Below w.heap.size w w2 :=
  h.trans (k.mono h.size)
theorem below_grown {w w' : World} {r : Option Nat} (hg : w.grownBy w' r) (hr : ∀ k, r = some k → w.heap.size ≤ k) : Below w.heap.size w w' := (Below.refl _ _).grown hg (Nat.le_refl _) hr
theorem ownsRow_below {w w' : World} {base : Nat} {e : TypeId} {size : Nat} {v : Value} {n : Nat} {xs : List Value} (h : w.ownsRow base e size v n xs) (hb : Below w.heap.size w w') : w'.ownsRow base e size v n xs :=
  h.kept (row := none) ⟨hb.os, hb.tape, hb.output, hb.size, fun k hk _ => hb.block k hk⟩ (by cases v.ownBlock <;> simp)
/-- The slice value v reads, in w, as the keys ks. -/
def U64s (w : World) (v : Value) (ks : List Nat) : Prop := ∃ p c, v = .slice p ks.length c ∧ ∀ k (h : k < ks.length), ∃ b o, p = some ⟨b, o, none⟩ ∧ w.cell? ⟨b, o + k, none⟩ = some (.int .u64 (ks[k] : Nat))
end Go.Proofs.YtmkdpchodeckgaaGreatDoor

/- A frame: all blocks but some are as they were. -/
namespace Go.Proofs.YtmkdpchodeckgaaGreatDoor
open Go.RowKit

/-- All blocks but those of F are as they were. -/
structure Tur (F : Nat → Prop) (w w' : World) : Prop where
  os : w'.os = w.os
  tape : w'.tape = w.tape
  output : w'.output = w.output
  size : w.heap.size ≤ w'.heap.size
  block : ∀ k, k < w.heap.size → ¬ F k → w'.heap[k]? = w.heap[k]?
theorem Tur.below {F : Nat → Prop} {B : Nat} {w W W' : World} (h : Tur F W W') (hF : ∀ k, F k → B ≤ k) (hb : Below B w W) (hB : B ≤ w.heap.size) : Below B w W' :=
  ⟨h.os.trans hb.os, h.tape.trans hb.tape, h.output.trans hb.output, Nat.le_trans hb.size h.size, fun k hk => (h.block k (by have := hb.size; omega) (fun hf => by have := hF k hf; omega)).trans (hb.block k hk)⟩
theorem Tur.of_below {F : Nat → Prop} {w w' : World} (h : Below w.heap.size w w') : Tur F w w' := ⟨h.os, h.tape, h.output, h.size, fun k hk _ => h.block k hk⟩
theorem Tur.trans {F G : Nat → Prop} {w w1 w2 : World} (h : Tur F w w1) (k : Tur G w1 w2) (hG : ∀ b, G b → F b ∨ w.heap.size ≤ b) : Tur F w w2 :=
  ⟨k.os.trans h.os, k.tape.trans h.tape, k.output.trans h.output, Nat.le_trans h.size k.size, fun b hb hf => (k.block b (Nat.lt_of_lt_of_le hb h.size) (fun hg => by rcases hG b hg with h1 | h1; exact hf h1; omega)).trans (h.block b hb hf)⟩
end Go.Proofs.YtmkdpchodeckgaaGreatDoor

/- What errors.Is and errors.As answer of the errors of package api: a sentinel, a Fault that wraps one, another error. -/
namespace Go.Proofs.YtmkdpchodeckgaaGreatDoor
open Go.RowKit Go.Extern.Stop Go.Stop Go.Extern

/- closed facts on types -/
theorem compE : (Tryz.prog.info? 236).map (·.comparable) = some true := by kernel_rfl
theorem sizeE : (Tryz.prog.info? 238).map (·.size) = some 1 := by kernel_rfl
end Go.Proofs.YtmkdpchodeckgaaGreatDoor

/- What errors.As answers at a target of type **api.Fault: a Fault is found, and stored; of another error nothing is found. -/
namespace Go.Proofs.YtmkdpchodeckgaaGreatDoor
open Go.RowKit Go.Extern.Stop Go.Stop Go.Extern

theorem valueOfF (e : Addr) (w : World) : (ReflectliteValue.unpack (.iface 125 (.pointer (some e)))).run Tryz.prog w
    = .ok (.agg #[.pointer (some ⟨16, 125, none⟩), .pointer (some ⟨w.heap.size, 0, none⟩), .int .u64 150]) (w.alloc (.cells #[.pointer (some e)] 125)) := by kernel_rfl
theorem mkF (p : Addr) (w : World) : (ReflectliteValue.mk 125 p ReflectliteValue.flagAddr).run Tryz.prog w = .ok (.agg #[.pointer (some ⟨16, 125, none⟩), .pointer (some p), .int .u64 406]) w := by kernel_rfl
theorem partsFa (a : Addr) (w : World) : (ReflectliteValue.parts (.agg #[.pointer (some ⟨16, 125, none⟩), .pointer (some a), .int .u64 406])).run Tryz.prog w = .ok (some (125, a, 406)) w := by kernel_rfl
theorem partsF (a : Addr) (w : World) : (ReflectliteValue.parts (.agg #[.pointer (some ⟨16, 125, none⟩), .pointer (some a), .int .u64 150])).run Tryz.prog w = .ok (some (125, a, 150)) w := by kernel_rfl
theorem directF (w : World) : (Rtype.directlyAssignable 125 125).run Tryz.prog w = .ok true w := by kernel_rfl
theorem setF (ta b e : Addr) (old : Value) (W : World) (hb : W.cell? b = some (.pointer (some e))) (ht : W.cell? ta = some old) (hf : W.frozen? ta = false) :
    (ReflectliteValue.set #[.agg #[.pointer (some ⟨16, 125, none⟩), .pointer (some ta), .int .u64 406], .agg #[.pointer (some ⟨16, 125, none⟩), .pointer (some b), .int .u64 150]]).run Tryz.prog W
      = .ok (.tuple #[]) (W.setCell ta (.pointer (some e))) := by
  delta ReflectliteValue.set ReflectliteValue.set.match_3
  simp [Array.getLit, partsFa, partsF, ReflectliteValue.flagAddr, loadVar, isAgg, underlying, Tryz.underlying125, hb, Result.andThen, directF, storeVar, Value.cells, storeCells, Addr.add]
  rw [run_store Tryz.prog W ta _ _ (by rfl)]
  simp [ht, hf]
end Go.Proofs.YtmkdpchodeckgaaGreatDoor

/- errors.As at a target of type **api.Fault, by its contracts. -/
namespace Go.Proofs.YtmkdpchodeckgaaGreatDoor
open Go.RowKit Go.Extern.Stop Go.Stop Go.Extern

theorem lt_of_cell {w : World} {a : Addr} {v : Value} (h : w.cell? a = some v) : a.block < w.heap.size := by
  rcases Nat.lt_or_ge a.block w.heap.size with h' | h'
  · exact h'
  · simp [World.cell?, Array.getElem?_eq_none h'] at h

end Go.Proofs.YtmkdpchodeckgaaGreatDoor

/- plain.Code: the number and the place of an error. -/
namespace Go.Proofs.YtmkdpchodeckgaaGreatDoor
open Go.RowKit Go.Extern.Stop Go.Stop Go.Extern

theorem below_cell {w w' : World} (hb : Below w.heap.size w w') {p : Addr} {v : Value} (h : w.cell? p = some v) : w'.cell? p = some v := by
  rw [hb.cell (lt_of_cell h)]; exact h

/-- the number of the i-th error; of another one -1 -/
def codeNum (i : Nat) : Int := if i < 9 then (i : Int) + 1 else -1
theorem codeNum_lt {i : Nat} (h : i < 9) : codeNum i = (i : Int) + 1 := if_pos h
theorem codeNum_ge {i : Nat} (h : ¬ i < 9) : codeNum i = -1 := if_neg h
theorem ret2 {a b c d : Int} (h1 : a = b) (h2 : c = d) : Ending.returned (.tuple #[.int .i64 a, .int .i64 c]) = .returned (.tuple #[.int .i64 b, .int .i64 d]) := by rw [h1, h2]

end Go.Proofs.YtmkdpchodeckgaaGreatDoor

/- Lists of numbers and of texts in memory; the reference's SameInts and SameTexts. -/
namespace Go.Proofs.YtmkdpchodeckgaaGreatDoor
open Go.RowKit

/-- The slice value v reads, in w, as the numbers xs. -/
def Ints (w : World) (v : Value) (xs : List Int) : Prop :=
  (xs = [] ∧ ∃ p c, v = .slice p 0 c) ∨ ∃ b o c, v = .slice (some ⟨b, o, none⟩) xs.length c ∧ ∀ k (h : k < xs.length), w.cell? ⟨b, o + k, none⟩ = some (.int .i64 xs[k])

theorem Ints.later {w w' : World} {v : Value} {xs : List Int} (h : Ints w v xs) (hb : Below w.heap.size w w') : Ints w' v xs := by
  rcases h with h | ⟨b, o, c, rfl, hc⟩
  · exact Or.inl h
  · exact Or.inr ⟨b, o, c, rfl, fun k hk => below_cell hb (hc k hk)⟩

theorem below_drewN {B : Nat} {a w : World} (h : Below B a w) (n : Nat) : Below B a (w.drewN n) := ⟨h.os, h.tape, h.output, h.size, h.block⟩

theorem take_same {α : Type} {xs ys : List α} {k : Nat} (hp : xs.take k = ys.take k) (h1 : k < xs.length) (h2 : k < ys.length) (he : xs[k] = ys[k]) : xs.take (k + 1) = ys.take (k + 1) := by
  rw [List.take_succ_eq_append_getElem h1, List.take_succ_eq_append_getElem h2, hp, he]
theorem take_all {α : Type} {xs ys : List α} {k : Nat} (hp : xs.take k = ys.take k) (h1 : ¬ k < xs.length) (hl : xs.length = ys.length) : xs = ys := by
  rwa [List.take_of_length_le (by omega), List.take_of_length_le (by omega)] at hp
theorem get_parts {α : Type} {xs ys : List α} {k : Nat} (h1 : k < xs.length) (h2 : k < ys.length) (he : xs[k] ≠ ys[k]) : xs ≠ ys := by
  intro e; subst e; exact he rfl
theorem ret_bool {a b : Bool} (h : a = b) : Ending.returned (.bool a) = .returned (.bool b) := by rw [h]

theorem Ints.slice {w : World} {v : Value} {xs : List Int} (h : Ints w v xs) : ∃ p c, v = .slice p xs.length c := by
  rcases h with ⟨rfl, p, c, rfl⟩ | ⟨b, o, c, rfl, _⟩
  · exact ⟨p, c, rfl⟩
  · exact ⟨_, c, rfl⟩

end Go.Proofs.YtmkdpchodeckgaaGreatDoor
