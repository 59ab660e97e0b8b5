/- Health, as lists: hosts, whether they are up, and how many looks of the other kind came last. -/
import Derived.Test.YtmdckddenelneaaGreatDoorProg
import Derived.WalkKit
import Derived.WalkLawsBesides
import Derived.WalkSpells
import Derived.Laws.AppendOwnNone
import Derived.Laws.CopyOwn
import Derived.Below
import Derived.LaidEql
import Derived.Stop.Asserts
import Derived.RowKitTokens
namespace Go.Proofs.YtmdckddenelneaaGreatDoor
namespace Lh

/-- a host: its name, whether it is up, how many looks of the other kind came one behind the other -/
abbrev Hh := ByteArray × Bool × Nat
/-- the place of a host (the list's length: none) -/
def hix (l : List Hh) (s : ByteArray) : Nat := l.findIdx fun x => decide (x.1 = s)
/-- how many looks turn a host -/
def hedge (f r : Nat) (up : Bool) : Nat := if up then f else r
/-- a look at a host: what it is then, and whether it turned -/
def hlook (f r : Nat) (x : Hh) (well : Bool) : Hh × Bool :=
  if well = x.2.1 then ((x.1, x.2.1, 0), false)
  else if hedge f r x.2.1 ≤ x.2.2 + 1 then ((x.1, !x.2.1, 0), true) else ((x.1, x.2.1, x.2.2 + 1), false)
/-- hosts that are up -/
def hups (l : List Hh) : List ByteArray := (l.filter fun x => x.2.1).map fun x => x.1
/-- is it up? -/
def hup (l : List Hh) (s : ByteArray) : Bool := l.any fun x => decide (x.1 = s) && x.2.1
/-- bounds of edges, of hosts and of counts -/
structure HOk (f r : Nat) (l : List Hh) : Prop where
  f1 : 1 ≤ f
  f10 : f ≤ 10
  r1 : 1 ≤ r
  r10 : r ≤ 10
  len : l.length ≤ 12
  nodup : (l.map fun x => x.1).Nodup
  size : ∀ x ∈ l, x.1.size ≤ 300
  cnt : ∀ x ∈ l, x.2.2 < hedge f r x.2.1
theorem hlook_name (f r : Nat) (x : Hh) (well : Bool) : (hlook f r x well).1.1 = x.1 := by
  unfold hlook
  split
  · rfl
  · split <;> rfl
theorem hedge_pos {f r : Nat} (hf : 1 ≤ f) (hr : 1 ≤ r) (up : Bool) : 0 < hedge f r up := by
  unfold hedge
  split <;> omega
theorem hedge_le {f r : Nat} (hf : f ≤ 10) (hr : r ≤ 10) (up : Bool) : hedge f r up ≤ 10 := by
  unfold hedge
  split <;> omega
theorem hlook_cnt {f r : Nat} (hf : 1 ≤ f) (hr : 1 ≤ r) (x : Hh) (well : Bool) : (hlook f r x well).1.2.2 < hedge f r (hlook f r x well).1.2.1 := by
  unfold hlook
  split
  · exact hedge_pos hf hr _
  · split
    · exact hedge_pos hf hr _
    · rename_i h
      show x.2.2 + 1 < hedge f r x.2.1
      omega
theorem HOk.look {f r : Nat} {l : List Hh} (h : HOk f r l) {i : Nat} (hi : i < l.length) (well : Bool) : HOk f r (l.set i (hlook f r l[i] well).1) := by
  refine ⟨h.f1, h.f10, h.r1, h.r10, by simpa using h.len, ?_, fun x hx => ?_, fun x hx => ?_⟩
  · have e : (l.set i (hlook f r l[i] well).1).map (fun x => x.1) = l.map fun x => x.1 := by
      rw [List.map_set, hlook_name]
      apply List.ext_getElem
      · simp
      · intro j h1 h2
        rw [List.getElem_set]
        split
        · rename_i e
          subst e
          simp
        · rfl
    rw [e]
    exact h.nodup
  · rcases List.mem_or_eq_of_mem_set hx with hx | rfl
    · exact h.size x hx
    · rw [hlook_name]
      exact h.size _ (List.getElem_mem hi)
  · rcases List.mem_or_eq_of_mem_set hx with hx | rfl
    · exact h.cnt x hx
    · exact hlook_cnt h.f1 h.r1 _ _
theorem hix_lt {l : List Hh} {s : ByteArray} : hix l s < l.length ↔ ∃ x ∈ l, x.1 = s := by
  unfold hix
  rw [List.findIdx_lt_length]
  simp
theorem hix_get {l : List Hh} {s : ByteArray} (h : hix l s < l.length) : (l[hix l s]).1 = s := by
  have := List.findIdx_getElem (xs := l) (p := fun x : Hh => decide (x.1 = s)) (w := h)
  exact of_decide_eq_true this
theorem hix_first {l : List Hh} {s : ByteArray} {j : Nat} (hj : j < l.length) (h : j < hix l s) : (l[j]).1 ≠ s := by
  have := List.not_of_lt_findIdx h
  simpa using this
theorem HOk.add {f r : Nat} {l : List Hh} (h : HOk f r l) {s : ByteArray} (hl : l.length < 12) (hs : s.size ≤ 300) (hn : ¬ hix l s < l.length) : HOk f r (l ++ [(s, false, 0)]) := by
  rw [hix_lt] at hn
  refine ⟨h.f1, h.f10, h.r1, h.r10, by simp; omega, ?_, fun x hx => ?_, fun x hx => ?_⟩
  · rw [List.map_append, List.nodup_append]
    refine ⟨h.nodup, by simp, fun a ha b hb e => ?_⟩
    simp at hb
    subst hb
    subst e
    obtain ⟨x, hx, e⟩ := List.mem_map.1 ha
    exact hn ⟨x, hx, e⟩
  · rcases List.mem_append.1 hx with hx | hx
    · exact h.size x hx
    · simp at hx
      subst hx
      exact hs
  · rcases List.mem_append.1 hx with hx | hx
    · exact h.cnt x hx
    · simp at hx
      subst hx
      exact hedge_pos h.f1 h.r1 _
/-- the hosts of a new one -/
def hnew (xs : List ByteArray) : List Hh := xs.map fun s => (s, true, 0)
theorem hnew_ok {f r : Nat} {xs : List ByteArray} (hf1 : 1 ≤ f) (hf : f ≤ 10) (hr1 : 1 ≤ r) (hr : r ≤ 10) (hl : xs.length ≤ 12) (hn : xs.Nodup) (hs : ∀ s ∈ xs, s.size ≤ 300) : HOk f r (hnew xs) := by
  refine ⟨hf1, hf, hr1, hr, by simpa [hnew] using hl, ?_, fun x hx => ?_, fun x hx => ?_⟩
  · have e : (hnew xs).map (fun x => x.1) = xs := by simp [hnew, Function.comp_def]
    rw [e]
    exact hn
  · obtain ⟨s, h, rfl⟩ := List.mem_map.1 hx
    exact hs s h
  · obtain ⟨s, h, rfl⟩ := List.mem_map.1 hx
    exact hedge_pos hf1 hr1 _
end Lh
end Go.Proofs.YtmdckddenelneaaGreatDoor

/- What holds of memory alone. -/
namespace Go.Proofs.YtmdckddenelneaaGreatDoor
open Go.RowKit

theorem below_then {w w1 w2 : World} (h : Below w.heap.size w w1) (k : Below w1.heap.size w1 w2) : Below w.heap.size w w2 :=
  h.trans (k.mono h.size)
theorem below_grown {w w' : World} {r : Option Nat} (hg : w.grownBy w' r) (hr : ∀ k, r = some k → w.heap.size ≤ k) : Below w.heap.size w w' := (Below.refl _ _).grown hg (Nat.le_refl _) hr
theorem ownsRow_below {w w' : World} {base : Nat} {e : TypeId} {size : Nat} {v : Value} {n : Nat} {xs : List Value} (h : w.ownsRow base e size v n xs) (hb : Below w.heap.size w w') : w'.ownsRow base e size v n xs :=
  h.kept (row := none) ⟨hb.os, hb.tape, hb.output, hb.size, fun k hk _ => hb.block k hk⟩ (by cases v.ownBlock <;> simp)
/-- The slice value v reads, in w, as the keys ks. -/
def U64s (w : World) (v : Value) (ks : List Nat) : Prop := ∃ p c, v = .slice p ks.length c ∧ ∀ k (h : k < ks.length), ∃ b o, p = some ⟨b, o, none⟩ ∧ w.cell? ⟨b, o + k, none⟩ = some (.int .u64 (ks[k] : Nat))
end Go.Proofs.YtmdckddenelneaaGreatDoor

/- A frame: all blocks but some are as they were. -/
namespace Go.Proofs.YtmdckddenelneaaGreatDoor
open Go.RowKit

/-- All blocks but those of F are as they were. -/
structure Tur (F : Nat → Prop) (w w' : World) : Prop where
  os : w'.os = w.os
  tape : w'.tape = w.tape
  output : w'.output = w.output
  size : w.heap.size ≤ w'.heap.size
  block : ∀ k, k < w.heap.size → ¬ F k → w'.heap[k]? = w.heap[k]?
theorem Tur.below {F : Nat → Prop} {B : Nat} {w W W' : World} (h : Tur F W W') (hF : ∀ k, F k → B ≤ k) (hb : Below B w W) (hB : B ≤ w.heap.size) : Below B w W' :=
  ⟨h.os.trans hb.os, h.tape.trans hb.tape, h.output.trans hb.output, Nat.le_trans hb.size h.size, fun k hk => (h.block k (by have := hb.size; omega) (fun hf => by have := hF k hf; omega)).trans (hb.block k hk)⟩
theorem Tur.of_below {F : Nat → Prop} {w w' : World} (h : Below w.heap.size w w') : Tur F w w' := ⟨h.os, h.tape, h.output, h.size, fun k hk _ => h.block k hk⟩
theorem Tur.trans {F G : Nat → Prop} {w w1 w2 : World} (h : Tur F w w1) (k : Tur G w1 w2) (hG : ∀ b, G b → F b ∨ w.heap.size ≤ b) : Tur F w w2 :=
  ⟨k.os.trans h.os, k.tape.trans h.tape, k.output.trans h.output, Nat.le_trans h.size k.size, fun b hb hf => (k.block b (Nat.lt_of_lt_of_le hb h.size) (fun hg => by rcases hG b hg with h1 | h1; exact hf h1; omega)).trans (h.block b hb hf)⟩
end Go.Proofs.YtmdckddenelneaaGreatDoor

/- What errors.Is and errors.As answer of the errors of package api: a sentinel, a Fault that wraps one, another error. -/
namespace Go.Proofs.YtmdckddenelneaaGreatDoor
open Go.RowKit Go.Extern.Stop Go.Stop Go.Extern

/- closed facts on types -/
theorem compE : (Tryz.prog.info? 331).map (·.comparable) = some true := by kernel_rfl
theorem sizeE : (Tryz.prog.info? 333).map (·.size) = some 1 := by kernel_rfl
theorem typeOfE (v : Value) (w : World) : (ReflectliteType.typeOf #[.iface 331 v]).run Tryz.prog w = .ok (.iface 191 (.agg #[.pointer (some ⟨18, 331, none⟩)])) w := by kernel_rfl
theorem typeOfF (v : Value) (w : World) : (ReflectliteType.typeOf #[.iface 104 v]).run Tryz.prog w = .ok (.iface 191 (.agg #[.pointer (some ⟨18, 104, none⟩)])) w := by kernel_rfl
theorem cmp_fact (w : World) : ((find Tryz.f296).map fun e => (e #[.agg #[.pointer (some ⟨18, 331, none⟩)]]).run Tryz.prog w) = some (.ok (.bool true) w) := by kernel_rfl
theorem cmp_entry : ∃ e, find Tryz.f296 = some e ∧ ∀ w, (e #[.agg #[.pointer (some ⟨18, 331, none⟩)]]).run Tryz.prog w = .ok (.bool true) w := by
  cases h : find Tryz.f296 with
  | none => have := cmp_fact default; rw [h] at this; cases this
  | some e => exact ⟨e, rfl, fun w => by have := cmp_fact w; rw [h] at this; exact Option.some.inj this⟩
theorem methodComparable (v : Value) (w : World) : (Go.method 465 191 v "Comparable").run Tryz.prog w = .ok (296, v) w := by kernel_rfl
theorem noIsE (v : Value) (xT : TypeId) (w : World) : (Instr.typeAssert (.iface 331 v) xT 201 true).run Tryz.prog w = .ok (.tuple #[.nilIface, .bool false]) w := run_typeAssert_lacksB Tryz.underlying201 (by kernel_rfl) (by kernel_rfl) v xT w
theorem noAsE (v : Value) (xT : TypeId) (w : World) : (Instr.typeAssert (.iface 331 v) xT 195 true).run Tryz.prog w = .ok (.tuple #[.nilIface, .bool false]) w := run_typeAssert_lacksB Tryz.underlying195 (by kernel_rfl) (by kernel_rfl) v xT w
theorem noUnwrapE (v : Value) (xT : TypeId) (w : World) : (Instr.typeAssert (.iface 331 v) xT 198 true).run Tryz.prog w = .ok (.tuple #[.nilIface, .bool false]) w := run_typeAssert_lacksB Tryz.underlying198 (by kernel_rfl) (by kernel_rfl) v xT w
theorem noUnwrapsE (v : Value) (xT : TypeId) (w : World) : (Instr.typeAssert (.iface 331 v) xT 199 true).run Tryz.prog w = .ok (.tuple #[.nilIface, .bool false]) w := run_typeAssert_lacksB Tryz.underlying199 (by kernel_rfl) (by kernel_rfl) v xT w
theorem noIsF (v : Value) (xT : TypeId) (w : World) : (Instr.typeAssert (.iface 104 v) xT 201 true).run Tryz.prog w = .ok (.tuple #[.nilIface, .bool false]) w := run_typeAssert_lacksB Tryz.underlying201 (by kernel_rfl) (by kernel_rfl) v xT w
theorem hasUnwrapF (v : Value) (xT : TypeId) (w : World) : (Instr.typeAssert (.iface 104 v) xT 198 true).run Tryz.prog w = .ok (.tuple #[.iface 104 v, .bool true]) w := run_typeAssert_hasB Tryz.underlying198 (by kernel_rfl) v xT w
theorem methodUnwrap (v : Value) (w : World) : (Go.method 465 104 v "Unwrap").run Tryz.prog w = .ok (290, v) w := by kernel_rfl

set_option maxHeartbeats 1000000 in
theorem is_same (a : Addr) (w : World) :
    Calls Tryz.prog 49 #[.iface 331 (.pointer (some a)), .iface 331 (.pointer (some a))] w fun e w' => e = .returned (.bool true) ∧ w' = w := by
  obtain ⟨i, hi, hcmp⟩ := Option.map_eq_some_iff.1 compE
  obtain ⟨j, hj, hjs⟩ := Option.map_eq_some_iff.1 sizeE
  have h8 := @run_callFunc_extern Tryz.prog 76 _ ReflectliteType.typeOf Tryz.func76 (by kernel_rfl) (by kernel_rfl) (by kernel_rfl) (by kernel_rfl)
  obtain ⟨ent, hent, cT⟩ := cmp_entry
  have h9 := @run_callFunc_extern Tryz.prog 296 _ ent Tryz.func296 (by kernel_rfl) (by kernel_rfl) (by kernel_rfl) hent
  clear hent
  have tT := typeOfE
  have mR := methodComparable
  have heq := run_eql_iface_ptr_same (P := Tryz.prog) w a Tryz.underlying31 Tryz.underlying331 hi hcmp hj
  go_enter Tryz.func49, Tryz.ntmps49
  go_wp2
  refine wp_loop_rounds 1 ?_
  rw [rounds_succ]
  go_wp2
  go_ret
  exact ⟨rfl, rfl⟩

set_option maxHeartbeats 1000000 in
theorem is_other (a b : Addr) (ca cb : Array Value) (ta tb : TypeId) (w : World) (hne : a ≠ b) (ha : w.heap[a.block]? = some (.cells ca ta (0, 0))) (hb : w.heap[b.block]? = some (.cells cb tb (0, 0))) :
    Calls Tryz.prog 49 #[.iface 331 (.pointer (some a)), .iface 331 (.pointer (some b))] w fun e w' => e = .returned (.bool false) ∧ w' = w := by
  obtain ⟨i, hi, hcmp⟩ := Option.map_eq_some_iff.1 compE
  obtain ⟨j, hj, hjs⟩ := Option.map_eq_some_iff.1 sizeE
  have h8 := @run_callFunc_extern Tryz.prog 76 _ ReflectliteType.typeOf Tryz.func76 (by kernel_rfl) (by kernel_rfl) (by kernel_rfl) (by kernel_rfl)
  obtain ⟨ent, hent, cT⟩ := cmp_entry
  have h9 := @run_callFunc_extern Tryz.prog 296 _ ent Tryz.func296 (by kernel_rfl) (by kernel_rfl) (by kernel_rfl) hent
  clear hent
  have tT := typeOfE
  have mR := methodComparable
  have nE := noIsE
  have uE := noUnwrapE
  have vE := noUnwrapsE
  have heq := run_eql_iface_ptr_other (P := Tryz.prog) w Tryz.underlying31 Tryz.underlying331 hi hcmp hj (by rw [hjs]; decide) hne ha hb
  go_enter Tryz.func49, Tryz.ntmps49
  go_wp2
  refine wp_loop_rounds 1 ?_
  rw [rounds_succ]
  go_wp2
  go_ret
  exact ⟨rfl, rfl⟩

set_option maxHeartbeats 1000000 in
theorem is_fault_same (pb : Nat) (b : Addr) (w : World) (h1 : w.cell? ⟨pb, 1, none⟩ = some (.iface 331 (.pointer (some b)))) :
    Calls Tryz.prog 49 #[.iface 104 (.pointer (some ⟨pb, 0, none⟩)), .iface 331 (.pointer (some b))] w fun e w' => e = .returned (.bool true) ∧ w' = w := by
  obtain ⟨i, hi, hcmp⟩ := Option.map_eq_some_iff.1 compE
  obtain ⟨j, hj, hjs⟩ := Option.map_eq_some_iff.1 sizeE
  have h8 := @run_callFunc_extern Tryz.prog 76 _ ReflectliteType.typeOf Tryz.func76 (by kernel_rfl) (by kernel_rfl) (by kernel_rfl) (by kernel_rfl)
  obtain ⟨ent, hent, cT⟩ := cmp_entry
  have h9 := @run_callFunc_extern Tryz.prog 296 _ ent Tryz.func296 (by kernel_rfl) (by kernel_rfl) (by kernel_rfl) hent
  clear hent
  have tT := typeOfE
  have mR := methodComparable
  have nW := noIsF
  have uW := hasUnwrapF
  have mU := methodUnwrap
  have heq := run_eql_iface_ptr_same (P := Tryz.prog) w b Tryz.underlying31 Tryz.underlying331 hi hcmp hj
  have hty := run_eql_iface_types (P := Tryz.prog) 104 331 (.pointer (some ⟨pb, 0, none⟩)) (.pointer (some b)) Tryz.underlying31 (by decide) w
  go_enter Tryz.func49, Tryz.ntmps49
  go_wp2
  refine wp_loop_rounds 2 ?_
  rw [rounds_succ]
  go_wp2
  rw [rounds_succ]
  go_wp2
  go_ret
  exact ⟨rfl, rfl⟩

set_option maxHeartbeats 1000000 in
theorem is_fault_other (pb : Nat) (b a : Addr) (ca cb : Array Value) (ta tb : TypeId) (w : World) (h1 : w.cell? ⟨pb, 1, none⟩ = some (.iface 331 (.pointer (some a)))) (hne : a ≠ b) (ha : w.heap[a.block]? = some (.cells ca ta (0, 0))) (hb : w.heap[b.block]? = some (.cells cb tb (0, 0))) :
    Calls Tryz.prog 49 #[.iface 104 (.pointer (some ⟨pb, 0, none⟩)), .iface 331 (.pointer (some b))] w fun e w' => e = .returned (.bool false) ∧ w' = w := by
  obtain ⟨i, hi, hcmp⟩ := Option.map_eq_some_iff.1 compE
  obtain ⟨j, hj, hjs⟩ := Option.map_eq_some_iff.1 sizeE
  have h8 := @run_callFunc_extern Tryz.prog 76 _ ReflectliteType.typeOf Tryz.func76 (by kernel_rfl) (by kernel_rfl) (by kernel_rfl) (by kernel_rfl)
  obtain ⟨ent, hent, cT⟩ := cmp_entry
  have h9 := @run_callFunc_extern Tryz.prog 296 _ ent Tryz.func296 (by kernel_rfl) (by kernel_rfl) (by kernel_rfl) hent
  clear hent
  have tT := typeOfE
  have mR := methodComparable
  have nE := noIsE
  have uE := noUnwrapE
  have vE := noUnwrapsE
  have nW := noIsF
  have uW := hasUnwrapF
  have mU := methodUnwrap
  have heq := run_eql_iface_ptr_other (P := Tryz.prog) w Tryz.underlying31 Tryz.underlying331 hi hcmp hj (by rw [hjs]; decide) hne ha hb
  have hty := run_eql_iface_types (P := Tryz.prog) 104 331 (.pointer (some ⟨pb, 0, none⟩)) (.pointer (some b)) Tryz.underlying31 (by decide) w
  go_enter Tryz.func49, Tryz.ntmps49
  go_wp2
  refine wp_loop_rounds 2 ?_
  rw [rounds_succ]
  go_wp2
  rw [rounds_succ]
  go_wp2
  go_ret
  exact ⟨rfl, rfl⟩
end Go.Proofs.YtmdckddenelneaaGreatDoor
