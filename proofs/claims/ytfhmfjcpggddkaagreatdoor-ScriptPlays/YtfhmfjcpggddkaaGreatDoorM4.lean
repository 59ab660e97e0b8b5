/- Errors by number and place; the first text of a list. -/
import Derived.Test.YtfhmfjcpggddkaaGreatDoorM3
import Derived.Test.YtfhmfjcpggddkaaGreatDoorCaSh
import Derived.Test.YtfhmfjcpggddkaaGreatDoorM2
import Derived.Lib.AppendIntMem
import Derived.Lib.AtoiErrMem
import Derived.Maps.OwnOps
import Derived.Maps.OwnSet
import Derived.Carry
import Derived.Test.YtfhmfjcpggddkaaGreatDoorProg
import Derived.WalkKit
import Derived.WalkLawsBesides
import Derived.WalkSpells
import Derived.Below
import Derived.Laws.Concat
import Derived.Laws.Strings2
import Derived.Laws.AppendOwnNone
import Derived.Laws.CopyOwn
namespace Go.Proofs.YtfhmfjcpggddkaaGreatDoor
open Go.RowKit

namespace Lh
def mem (s : ByteArray) (xs : List ByteArray) : Bool := xs.any fun x => decide (x = s)
theorem mem_true {s : ByteArray} {xs : List ByteArray} (h : s ∈ xs) : mem s xs = true := by
  unfold mem; rw [List.any_eq_true]; exact ⟨s, h, by simp⟩
theorem mem_false {s : ByteArray} {xs : List ByteArray} (h : ¬ s ∈ xs) : mem s xs = false := by
  unfold mem; rw [List.any_eq_false]; intro x hx; simp only [decide_eq_true_eq]; intro e; subst e; exact h hx
end Lh

/-- The value v is the error of number c (0: none) at the place pl (-1: bare). -/
def ErrIs (a : Nat → Addr) (W : World) (c : Nat) (pl : Int) (v : Value) : Prop :=
  (c = 0 ∧ pl = -1 ∧ v = .nilIface) ∨
  (∃ i, i < 9 ∧ c = i + 1 ∧ ((pl = -1 ∧ v = .iface 378 (.pointer (some (a i)))) ∨
    ∃ b, v = .iface 103 (.pointer (some ⟨b, 0, none⟩)) ∧ W.cell? ⟨b, 0, none⟩ = some (.int .i64 pl) ∧ W.cell? ⟨b, 1, none⟩ = some (.iface 378 (.pointer (some (a i))))))

theorem ErrIs.later {a : Nat → Addr} {W W' : World} {c : Nat} {pl : Int} {v : Value} (h : ErrIs a W c pl v) (hb : Below W.heap.size W W') : ErrIs a W' c pl v := by
  rcases h with h | ⟨i, hi, hc, h | ⟨b, hv, h0, h1⟩⟩
  · exact Or.inl h
  · exact Or.inr ⟨i, hi, hc, Or.inl h⟩
  · exact Or.inr ⟨i, hi, hc, Or.inr ⟨b, hv, below_cell hb h0, below_cell hb h1⟩⟩

/- the first place of a text in a list -/
set_option maxHeartbeats 1000000 in
theorem contains_core (b o c : Nat) (xs : List ByteArray) (s : ByteArray) (w : World) (hx : ∀ k (h : k < xs.length), w.cell? ⟨b, o + k, none⟩ = some (.string xs[k])) (hm : xs.length < 1000000) :
    Calls Tryz.prog 221 #[.slice (some ⟨b, o, none⟩) xs.length c, .string s] w fun e w' => (∃ j : Int, e = .returned (.int .i64 j) ∧ decide (0 ≤ j) = Lh.mem s xs) ∧ w' = w := by
  have HX : Hid _ := hx
  clear hx
  go_enter Tryz.func221, Tryz.ntmps221
  go_wp2
  go_loop [8] (fun t => ∃ k : Nat, k ≤ xs.length ∧ t = .int .i64 k ∧ ∀ j (h : j < xs.length), j < k → xs[j] ≠ s) (fun t => xs.length - (intOf t).toNat)
  case atStart => exact ⟨0, Nat.zero_le _, rfl, fun j _ h => absurd h (by omega)⟩
  case round =>
    obtain ⟨k, hk, rfl, hpre⟩ := hrel
    have HP : Hid _ := hpre
    clear hpre
    by_cases hlt : k < xs.length
    · have cx := HX.out k hlt
      generalize hxk : xs[k] = xk at *
      have HXK : Hid _ := hxk
      clear hxk
      by_cases heq : s = xk
      · have hne : (s.toList == xk.toList) = true := bytes_same heq
        have HE : Hid _ := heq
        clear heq
        go_wp2
        go_ret
        refine ⟨⟨(k : Int), rfl, ?_⟩, rfl⟩
        rw [decide_eq_true (by omega), Lh.mem_true]
        rw [HE.out, ← HXK.out]
        exact List.getElem_mem _
      · have hne : (s.toList == xk.toList) = false := bytes_parts heq
        have HE : Hid _ := heq
        clear heq
        go_wp2
        go_round
        case rel =>
          refine ⟨k + 1, by omega, by go_num, fun j h hj => ?_⟩
          by_cases hjk : j = k
          · subst hjk; rw [HXK.out]; exact fun e => HE.out e.symm
          · exact HP.out j h (by omega)
        case measure => simp [intOf]; omega
    · go_wp2
      go_ret
      refine ⟨⟨-1, rfl, ?_⟩, rfl⟩
      rw [decide_eq_false (by omega), Lh.mem_false]
      intro hm
      obtain ⟨j, hj, e⟩ := List.getElem_of_mem hm
      exact HP.out j hj (by omega) e

set_option maxHeartbeats 1000000 in
theorem index_zero (p : Option Addr) (c : Nat) (s : ByteArray) (w : World) :
    Calls Tryz.prog 221 #[.slice p 0 c, .string s] w fun e w' => e = .returned (.int .i64 (-1)) ∧ w' = w := by
  go_enter Tryz.func221, Tryz.ntmps221
  go_wp2
  refine wp_loop_rounds 1 ?_
  rw [rounds_succ]
  go_wp2
  go_ret
  exact ⟨rfl, rfl⟩

/-- slices.Contains of a list of texts. -/
theorem contains_any (v : Value) (xs : List ByteArray) (s : ByteArray) (w : World) (hv : Strs w v xs) (hm : xs.length < 1000000) :
    Calls Tryz.prog 177 #[v, .string s] w fun e w' => e = .returned (.bool (Lh.mem s xs)) ∧ w' = w := by
  have key : Calls Tryz.prog 221 #[v, .string s] w fun e w' => (∃ j : Int, e = .returned (.int .i64 j) ∧ decide (0 ≤ j) = Lh.mem s xs) ∧ w' = w := by
    rcases hv with ⟨rfl, p, c, rfl⟩ | ⟨b, o, c, rfl, _, hc⟩
    · exact (index_zero p c s w).mono fun e w' ⟨h1, h2⟩ => ⟨⟨-1, h1, rfl⟩, h2⟩
    · exact contains_core b o c xs s w hc hm
  clear hv
  go_enter Tryz.func177, Tryz.ntmps177
  go_wp2_with fail
  refine key.mono ?_
  rintro e w1 ⟨⟨j, rfl, hj⟩, rfl⟩
  have HJ : Hid _ := hj
  clear hj key
  go_wp2
  go_ret
  exact ⟨ret_bool HJ.out, rfl⟩

set_option maxHeartbeats 1000000 in
/-- Index of the reference, at a text of the list itself: is it ahead? -/
theorem refIndex_any (b o c : Nat) (xs : List ByteArray) (i : Nat) (hi : i < xs.length) (w : World) (hx : ∀ k (h : k < xs.length), w.cell? ⟨b, o + k, none⟩ = some (.string xs[k])) (hm : xs.length < 1000000) :
    Calls Tryz.prog 73 #[.slice (some ⟨b, o, none⟩) xs.length c, .string xs[i]] w fun e w' => (∃ j : Int, e = .returned (.int .i64 j) ∧ decide (j < (i : Int)) = Lh.mem xs[i] (xs.take i)) ∧ w' = w := by
  have HX : Hid _ := hx
  clear hx
  obtain ⟨s, hs⟩ : ∃ s, s = xs[i] := ⟨_, rfl⟩
  rw [← hs]
  have HS : Hid _ := hs
  clear hs
  go_enter Tryz.func73, Tryz.ntmps73
  go_wp2
  go_loop [5] (fun t => ∃ k : Nat, k ≤ i ∧ t = .int .i64 k ∧ ∀ j (h : j < xs.length), j < k → xs[j] ≠ s) (fun t => xs.length - (intOf t).toNat)
  case atStart => exact ⟨0, Nat.zero_le _, rfl, fun j _ h => absurd h (by omega)⟩
  case round =>
    obtain ⟨k, hk, rfl, hpre⟩ := hrel
    have HP : Hid _ := hpre
    clear hpre
    have hlt : k < xs.length := by omega
    have cx := HX.out k hlt
    generalize hxk : xs[k] = xk at *
    have HXK : Hid _ := hxk
    clear hxk
    by_cases heq : xk = s
    · have hne : (xk.toList == s.toList) = true := bytes_same heq
      have HE : Hid _ := heq
      clear heq
      go_wp2
      go_ret
      refine ⟨⟨(k : Int), rfl, ?_⟩, rfl⟩
      by_cases hki : k < i
      · rw [decide_eq_true (by omega), Lh.mem_true]
        rw [List.mem_take_iff_getElem]
        exact ⟨k, by omega, by rw [HXK.out, HE.out]⟩
      · rw [decide_eq_false (by omega), Lh.mem_false]
        intro hmem
        rw [List.mem_take_iff_getElem] at hmem
        obtain ⟨j, hj, e⟩ := hmem
        exact HP.out j (by omega) (by omega) e
    · have hne : (xk.toList == s.toList) = false := bytes_parts heq
      have hki : k < i := by
        rcases Nat.lt_or_ge k i with h | h
        · exact h
        · exfalso
          have : k = i := by omega
          subst this
          exact heq (by rw [← HXK.out, HS.out])
      have HE : Hid _ := heq
      clear heq
      go_wp2
      go_round
      case rel =>
        refine ⟨k + 1, by omega, by go_num, fun j h hj => ?_⟩
        by_cases hjk : j = k
        · subst hjk; rw [HXK.out]; exact HE.out
        · exact HP.out j h (by omega)
      case measure => simp [intOf]; omega
end Go.Proofs.YtfhmfjcpggddkaaGreatDoor

/- What the landed carry asks of the package variables, and what the library's functions do there: words joined, a text parted, a zero many times, numbers read and written. -/
namespace Go.Proofs.YtfhmfjcpggddkaaGreatDoor
open Go.RowKit

theorem heap_newC (w : World) (o : Obj) : (w.alloc o).heap[w.heap.size]? = some o := by
  unfold World.alloc
  simp
structure EC (a : Nat → Addr) (W : World) : Prop where
  s0 : W.cell? ⟨1, 0, none⟩ = some (.iface 378 (.pointer (some (a 0))))
  s1 : W.cell? ⟨0, 0, none⟩ = some (.iface 378 (.pointer (some (a 1))))
  s3 : W.cell? ⟨3, 0, none⟩ = some (.iface 378 (.pointer (some (a 3))))
  s5 : W.cell? ⟨5, 0, none⟩ = some (.iface 378 (.pointer (some (a 5))))
  syn : ∃ te pe, W.cell? ⟨16, 0, none⟩ = some (.iface te pe)
  rng : ∃ te pe, W.cell? ⟨17, 0, none⟩ = some (.iface te pe)
  tab : Lib.TabIs Tryz.prog W "internal/strconv.uint64pow10" .u64 Lib.pow10Tab
  brj : W.cell? ⟨15, 15, none⟩ = some (.int .u8 4)
  mln : ∃ m, W.cell? ⟨10, 0, none⟩ = some (.int .i64 m)
theorem EC.later {a : Nat → Addr} {W W' : World} (h : EC a W) (hb : Below W.heap.size W W') : EC a W' where
  s0 := below_cell hb h.s0
  s1 := below_cell hb h.s1
  s3 := below_cell hb h.s3
  s5 := below_cell hb h.s5
  syn := let ⟨te, pe, e⟩ := h.syn; ⟨te, pe, below_cell hb e⟩
  rng := let ⟨te, pe, e⟩ := h.rng; ⟨te, pe, below_cell hb e⟩
  tab := Lib.tabBelow_of_tabIs h.tab W' hb
  brj := below_cell hb h.brj
  mln := let ⟨m, e⟩ := h.mln; ⟨m, below_cell hb e⟩

theorem join3_any (b c : Nat) (x y z : List UInt8) (w : World) (h0 : w.cell? ⟨b, 0, none⟩ = some (.string (Lh.bt x))) (h1 : w.cell? ⟨b, 1, none⟩ = some (.string (Lh.bt y))) (h2 : w.cell? ⟨b, 2, none⟩ = some (.string (Lh.bt z))) (hb : b < w.heap.size) (hc : 3 ≤ c) (hl : (Lh.joinL 32 [x, y, z]).length ≤ 1000000) :
    Calls Tryz.prog 42 #[.slice (some ⟨b, 0, none⟩) 3 c, .string (Lh.bt [32])] w fun e w' => e = .returned (.string (Lh.bt (Lh.joinL 32 [x, y, z]))) ∧ Below w.heap.size w w' := by
  have e : Lib.join ([Lh.bt x, Lh.bt y, Lh.bt z].map (·.data.toList)) (Lh.bt [32]).data.toList = Lh.joinL 32 [x, y, z] := Lh.join_three x y z
  have h := Any.strings_Join lays156 Builder_Extra_156 b 0 c [Lh.bt x, Lh.bt y, Lh.bt z] (Lh.bt [32]) w (fun j s hj => by
    match j, hj with
    | 0, hj => cases hj; exact h0
    | 1, hj => cases hj; exact h1
    | 2, hj => cases hj; exact h2) hb (by simp) hc (by rw [e]; omega)
  rw [e] at h
  exact h
theorem join2_any (b c : Nat) (x y : List UInt8) (w : World) (h0 : w.cell? ⟨b, 0, none⟩ = some (.string (Lh.bt x))) (h1 : w.cell? ⟨b, 1, none⟩ = some (.string (Lh.bt y))) (hb : b < w.heap.size) (hc : 2 ≤ c) (hl : (Lh.joinL 32 [x, y]).length ≤ 1000000) :
    Calls Tryz.prog 42 #[.slice (some ⟨b, 0, none⟩) 2 c, .string (Lh.bt [32])] w fun e w' => e = .returned (.string (Lh.bt (Lh.joinL 32 [x, y]))) ∧ Below w.heap.size w w' := by
  have e : Lib.join ([Lh.bt x, Lh.bt y].map (·.data.toList)) (Lh.bt [32]).data.toList = Lh.joinL 32 [x, y] := Lh.join_two x y
  have h := Any.strings_Join lays156 Builder_Extra_156 b 0 c [Lh.bt x, Lh.bt y] (Lh.bt [32]) w (fun j s hj => by
    match j, hj with
    | 0, hj => cases hj; exact h0
    | 1, hj => cases hj; exact h1) hb (by simp) hc (by rw [e]; omega)
  rw [e] at h
  exact h
theorem itoa_any {a : Nat → Addr} (n : Nat) (hn : n ≤ 9223372036854775807) (w : World) (he : EC a w) :
    Calls Tryz.prog 87 #[.int .i64 (n : Nat)] w fun e w' => e = .returned (.string (Lh.bt (Lh.decL n))) ∧ Below w.heap.size w w' := by
  refine (Any.strconv_Itoa laysM171 (n : Int) (by omega) (by omega) w he.tab).mono ?_
  rintro e w' ⟨rfl, k, os, rfl⟩
  exact ⟨by rw [Lh.itoa_dec]; rfl, Lib.below_grow _ w (Nat.le_refl _) k os⟩
theorem atoi_any {a : Nat → Addr} (s : List UInt8) (hs : s.length ≤ 100000) (w : World) (he : EC a w) :
    Calls Tryz.prog 260 #[.string (Lh.bt s)] w fun e w' => Below w.heap.size w w' ∧ ((∃ v, Lib.atoiAll s = .ok v ∧ e = .returned (.tuple #[.int .i64 v, .nilIface])) ∨ ((∀ v, Lib.atoiAll s ≠ .ok v) ∧ ∃ x t p, e = .returned (.tuple #[.int .i64 x, .iface t p]))) := by
  have hsz : (Lh.bt s).size = s.length := by simp [Lh.bt, ByteArray.size]
  cases h : Lib.atoiAll s with
  | ok v =>
    refine (Any.strconv_Atoi_ok laysC172 (Lh.bt s) (by omega) v h w).mono ?_
    rintro e w' ⟨rfl, rfl | ⟨t, rfl⟩⟩
    · exact ⟨Below.refl _ _, Or.inl ⟨v, rfl, rfl⟩⟩
    · exact ⟨Lib.bytesWorld_below w _ t, Or.inl ⟨v, rfl, rfl⟩⟩
  | «syntax» =>
    obtain ⟨te, pe, hv⟩ := he.syn
    refine (Any.strconv_Atoi_syntax laysC172 (Lh.bt s) (by omega) h _ w hv (Or.inr ⟨te, pe, rfl⟩)).mono ?_
    rintro e w' ⟨N, rfl, _, _, hb⟩
    exact ⟨hb, Or.inr ⟨fun v e => (by cases e), _, _, _, rfl⟩⟩
  | range =>
    obtain ⟨te, pe, hv⟩ := he.rng
    refine (Any.strconv_Atoi_range laysC172 (Lh.bt s) (by omega) h _ w hv (Or.inr ⟨te, pe, rfl⟩)).mono ?_
    rintro e w' ⟨N, rfl, _, _, hb⟩
    exact ⟨hb, Or.inr ⟨fun v e => (by cases e), _, _, _, rfl⟩⟩
theorem split_any {a : Nat → Addr} (s : List UInt8) (y : UInt8) (hs : s.length ≤ 100000) (w : World) (he : EC a w) :
    Calls Tryz.prog 108 #[.string (Lh.bt s), .string (Lh.bt [y])] w fun e w' => e = .returned (.slice (some ⟨w.heap.size, 0, none⟩) (Lh.cutL y s).length (Lh.cutL y s).length) ∧ Below w.heap.size w w' ∧ w.heap.size < w'.heap.size ∧
      ∀ j (hj : j < (Lh.cutL y s).length), w'.cell? ⟨w.heap.size, j, none⟩ = some (.string (Lh.bt (Lh.cutL y s)[j])) := by
  have hsz : (Lh.bt s).size = s.length := by simp [Lh.bt, ByteArray.size]
  obtain ⟨m, hm⟩ := he.mln
  refine (Any.strings_Split lays146 (by kernel_rfl) (Lh.bt s) (Lh.bt [y]) m w (by omega) hm (Nat.le_refl 1)).mono ?_
  rintro e w' ⟨rfl, rfl⟩
  rw [Lh.splitB_cut, Lh.count_cut]
  refine ⟨rfl, (Below.refl _ _).alloc (Nat.le_refl _) _, by simp, fun j hj => ?_⟩
  rw [Lib.cell_of_heap (heap_newC w _)]
  simp [hj]
theorem repeat_any (c : Nat) (hc : c ≤ 1000) (w : World) :
    Calls Tryz.prog 255 #[.string (Lh.bt [48]), .int .i64 (c : Nat)] w fun e w' => e = .returned (.string (Lh.bt (List.replicate c 48))) ∧ Below w.heap.size w w' := by
  refine (Any.strings_Repeat lays105 Builder_Extra_105 (Lh.bt [48]) c w (by omega) (by
    have : (Lh.bt [48]).size = 1 := rfl
    rw [this]
    omega)).mono ?_
  rintro e w' ⟨rfl, hb⟩
  refine ⟨?_, hb⟩
  rw [← Lh.repeat_zero]
  rfl
end Go.Proofs.YtfhmfjcpggddkaaGreatDoor

/- Filling evenly, as numbers: how many keys a host may have, the first one that has fewer, where all keys go. -/
namespace Go.Proofs.YtfhmfjcpggddkaaGreatDoor
namespace Lh

/-- one key more: it goes to the first of its hosts that has fewer than may be -/
def put1 (most : Nat) (out : List Nat) (o : List Nat) : List Nat :=
  match o.find? fun h => decide (out.count h < most) with
  | some h => out ++ [h]
  | none => out
/-- where all go -/
def places (most : Nat) (os : List (List Nat)) : List Nat := os.foldl (put1 most) []
end Lh
end Go.Proofs.YtfhmfjcpggddkaaGreatDoor

/- Maps of the call's own: numbers by name, and keys that were seen. -/
namespace Go.Proofs.YtfhmfjcpggddkaaGreatDoor
open Go.RowKit Go.Maps Go.ChangeMaps

theorem fkeyS (s : ByteArray) (hs : s.size ≤ 300) : keyOf Tryz.prog 9 (.string s) = some (.string s.data.toList) := Go.WideMaps.keyOf_string_mk Tryz.underlying9 (Nat.le_trans hs (by unfold maxLen; omega))
theorem wfU {z : Nat} (h : z < 18446744073709551616) : (Lit.int .u64 (z : Nat)).wf = true := by
  simp [Lit.wf, IntKind.min, IntKind.max, IntKind.signed, IntKind.bits]
  omega
theorem fkeyU (z : Nat) (h : z < 18446744073709551616) : keyOf Tryz.prog 63 (.int .u64 (z : Nat)) = some (.int .u64 (z : Nat)) := keyOf_int_mk Tryz.underlying63 (wfU h)
theorem wfI {n : Nat} (h : n ≤ 1000000) : (Lit.int .i64 (n : Nat)).wf = true := by
  simp [Lit.wf, IntKind.min, IntKind.max, IntKind.signed, IntKind.bits]
  omega
theorem strs_lit_ne {s t : ByteArray} (h : s ≠ t) : Lit.string s.data.toList ≠ Lit.string t.data.toList := by
  intro e
  simp only [Lit.string.injEq] at e
  apply h
  cases s
  cases t
  simpa using e
theorem ownsMap_later {k : TypeId} {R : Value → Option (DataW Unit × List MemPlace)} {w w' : World} {b n : Nat} {D : DataW Unit} (h : w.ownsMap Tryz.prog k R b n D) (he : w'.heap[b]? = w.heap[b]?) : w'.ownsMap Tryz.prog k R b n D := by
  obtain ⟨es, clock, hb, r⟩ := h
  exact ⟨es, clock, he.trans hb, r⟩

end Go.Proofs.YtfhmfjcpggddkaaGreatDoor

/- mix.Check, and the reference's HostsFault. -/
namespace Go.Proofs.YtfhmfjcpggddkaaGreatDoor
open Go.RowKit

def Good (xs : List ByteArray) (j : Nat) (h : j < xs.length) : Prop := Lh.isNm xs[j] = true ∧ Lh.mem xs[j] (xs.take j) = false
/-- What is wrong with a list of hosts: the error's number (0: nothing), and where. -/
def IsFault (xs : List ByteArray) (c : Nat) (pl : Int) : Prop :=
  (12 < xs.length ∧ c = 2 ∧ pl = -1) ∨
  (¬ 12 < xs.length ∧ ∃ i, ∃ h : i < xs.length, (∀ j, j < i → ∀ hj : j < xs.length, Good xs j hj) ∧ pl = i ∧ ((Lh.isNm xs[i] = false ∧ c = 4) ∨ (Lh.isNm xs[i] = true ∧ Lh.mem xs[i] (xs.take i) = true ∧ c = 6))) ∨
  (¬ 12 < xs.length ∧ (∀ j, ∀ hj : j < xs.length, Good xs j hj) ∧ c = 0 ∧ pl = -1)

theorem fault_scan (xs : List ByteArray) : ∀ n, n ≤ xs.length → (∀ j, j < n → ∀ hj : j < xs.length, Good xs j hj) ∨ ∃ i, ∃ h : i < xs.length, (∀ j, j < i → ∀ hj : j < xs.length, Good xs j hj) ∧ ¬ Good xs i h
  | 0, _ => Or.inl fun j h => absurd h (by omega)
  | n + 1, hn => by
    rcases fault_scan xs n (by omega) with h | h
    · by_cases hg : Good xs n (by omega)
      · refine Or.inl fun j hj hl => ?_
        by_cases e : j = n
        · subst e; exact hg
        · exact h j (by omega) hl
      · exact Or.inr ⟨n, by omega, h, hg⟩
    · exact Or.inr h

theorem isFault_ex (xs : List ByteArray) : ∃ c pl, IsFault xs c pl := by
  by_cases h12 : 12 < xs.length
  · exact ⟨2, -1, Or.inl ⟨h12, rfl, rfl⟩⟩
  · rcases fault_scan xs xs.length (Nat.le_refl _) with h | ⟨i, hi, h, hg⟩
    · exact ⟨0, -1, Or.inr (Or.inr ⟨h12, fun j hj => h j hj hj, rfl, rfl⟩)⟩
    · cases hn : Lh.isNm xs[i] with
      | false => exact ⟨4, i, Or.inr (Or.inl ⟨h12, i, hi, h, rfl, Or.inl ⟨hn, rfl⟩⟩)⟩
      | true =>
        cases hm : Lh.mem xs[i] (xs.take i) with
        | true => exact ⟨6, i, Or.inr (Or.inl ⟨h12, i, hi, h, rfl, Or.inr ⟨hn, hm, rfl⟩⟩)⟩
        | false => exact absurd ⟨hn, hm⟩ hg

/- what the loops find -/
theorem fault_name {xs : List ByteArray} {c : Nat} {pl : Int} (hf : IsFault xs c pl) (h12 : ¬ 12 < xs.length) {k : Nat} (hk : k < xs.length) (hp : ∀ j, j < k → ∀ hj : j < xs.length, Good xs j hj) (hn : Lh.isNm xs[k] = false) : c = 4 ∧ pl = k := by
  rcases hf with ⟨h, _⟩ | ⟨_, i, hi, h, e, hc⟩ | ⟨_, h, _⟩
  · exact absurd h h12
  · have hik : i = k := by
      rcases Nat.lt_trichotomy i k with hlt | rfl | hgt
      · obtain ⟨g1, g2⟩ := hp i hlt hi
        rcases hc with ⟨hc, _⟩ | ⟨_, hc, _⟩
        · rw [g1] at hc; cases hc
        · rw [g2] at hc; cases hc
      · rfl
      · rw [(h k hgt hk).1] at hn; cases hn
    subst hik
    rcases hc with ⟨_, hc⟩ | ⟨hc, _⟩
    · exact ⟨hc, e⟩
    · rw [hn] at hc; cases hc
  · rw [(h k hk).1] at hn; cases hn
theorem fault_exist {xs : List ByteArray} {c : Nat} {pl : Int} (hf : IsFault xs c pl) (h12 : ¬ 12 < xs.length) {k : Nat} (hk : k < xs.length) (hp : ∀ j, j < k → ∀ hj : j < xs.length, Good xs j hj) (hn : Lh.isNm xs[k] = true) (hm : Lh.mem xs[k] (xs.take k) = true) : c = 6 ∧ pl = k := by
  rcases hf with ⟨h, _⟩ | ⟨_, i, hi, h, e, hc⟩ | ⟨_, h, _⟩
  · exact absurd h h12
  · have hik : i = k := by
      rcases Nat.lt_trichotomy i k with hlt | rfl | hgt
      · obtain ⟨g1, g2⟩ := hp i hlt hi
        rcases hc with ⟨hc, _⟩ | ⟨_, hc, _⟩
        · rw [g1] at hc; cases hc
        · rw [g2] at hc; cases hc
      · rfl
      · rw [(h k hgt hk).2] at hm; cases hm
    subst hik
    rcases hc with ⟨hc, _⟩ | ⟨_, _, hc⟩
    · rw [hn] at hc; cases hc
    · exact ⟨hc, e⟩
  · rw [(h k hk).2] at hm; cases hm
theorem fault_none {xs : List ByteArray} {c : Nat} {pl : Int} (hf : IsFault xs c pl) (h12 : ¬ 12 < xs.length) (hp : ∀ j, ∀ hj : j < xs.length, Good xs j hj) : c = 0 ∧ pl = -1 := by
  rcases hf with ⟨h, _⟩ | ⟨_, i, hi, h, e, hc⟩ | ⟨_, _, h⟩
  · exact absurd h h12
  · obtain ⟨g1, g2⟩ := hp i hi
    rcases hc with ⟨hc, _⟩ | ⟨_, hc, _⟩
    · rw [g1] at hc; cases hc
    · rw [g2] at hc; cases hc
  · exact h
theorem fault_long {xs : List ByteArray} {c : Nat} {pl : Int} (hf : IsFault xs c pl) (h12 : 12 < xs.length) : c = 2 ∧ pl = -1 := by
  rcases hf with ⟨_, h⟩ | ⟨h, _⟩ | ⟨h, _⟩
  · exact h
  · exact absurd h12 h
  · exact absurd h12 h

theorem strs_take {w : World} {b o c : Nat} {xs : List ByteArray} (hcap : xs.length ≤ c) (hx : ∀ k (h : k < xs.length), w.cell? ⟨b, o + k, none⟩ = some (.string xs[k])) (k : Nat) (hk : k ≤ xs.length) : Strs w (.slice (some ⟨b, o, none⟩) k c) (xs.take k) := by
  have hl : (xs.take k).length = k := by simp; omega
  refine Or.inr ⟨b, o, c, by rw [hl], by omega, fun j hj => ?_⟩
  rw [hx j (by omega)]
  simp

set_option maxHeartbeats 1000000 in
theorem check_zero (p : Option Addr) (cap : Nat) (w : World) :
    Calls Tryz.prog 137 #[.slice p 0 cap] w fun e w' => e = .returned .nilIface ∧ w' = w := by
  go_enter Tryz.func137, Tryz.ntmps137
  go_wp2
  refine wp_loop_rounds 1 ?_
  rw [rounds_succ]
  go_wp2
  go_ret
  exact ⟨rfl, rfl⟩

end Go.Proofs.YtfhmfjcpggddkaaGreatDoor

/- The model's small functions of texts: hex. -/
namespace Go.Proofs.YtfhmfjcpggddkaaGreatDoor
open Go.RowKit

namespace Lh
theorem bt_append (a b : List UInt8) : bt a ++ bt b = bt (a ++ b) := ByteArray.mk_append_mk a b
theorem bt_extract (l : List UInt8) (i j : Nat) : (bt l).extract i j = bt ((l.drop i).take (j - i)) := ByteArray.extract_mk l i j
theorem bt_size (l : List UInt8) : (bt l).size = l.length := by simp [bt, ByteArray.size]
theorem hexL_cons : ∀ k n, hexL (k + 1) n = hxU (n / 16 ^ k % 16) :: hexL k n
  | 0, n => by simp [hexL]
  | k + 1, n => by
    show hexL (k + 1) (n / 16) ++ [hxU (n % 16)] = _
    rw [hexL_cons k (n / 16)]
    show hxU (n / 16 / 16 ^ k % 16) :: (hexL k (n / 16) ++ [hxU (n % 16)]) = _
    rw [Nat.div_div_eq_div_mul, show 16 * 16 ^ k = 16 ^ (k + 1) by rw [Nat.pow_succ]; omega]
    rfl
def digs : List UInt8 := [48, 49, 50, 51, 52, 53, 54, 55, 56, 57, 97, 98, 99, 100, 101, 102]
theorem digs_at : ∀ d : Fin 16, (digs.drop d.1).take (d.1 + 1 - d.1) = [hxU d.1] := by decide
end Lh
set_option maxHeartbeats 1000000 in
theorem hexM_any (n k : Nat) (hn : n < 18446744073709551616) (hk : k ≤ 16) (W : World) :
    Calls Tryz.prog 125 #[.int .u64 (n : Nat), .int .i64 (k : Nat)] W fun e w' => e = .returned (.string (Lh.bt (Lh.hexL k n))) ∧ w' = W := by
  go_enter Tryz.func125, Tryz.ntmps125
  go_wp2_with fail
  go_loop [0, 5, 6, 7] (fun u0 u5 u6 _ => ∃ i : Nat, i ≤ k ∧ u6 = .int .i64 (i : Nat) ∧ u0 = .int .u64 ((n / 16 ^ i : Nat) : Int) ∧ u5 = .string (Lh.bt (Lh.hexL i n))) (fun _ _ u6 _ => k - (intOf u6).toNat)
  case atStart => exact ⟨0, Nat.zero_le _, rfl, by simp, rfl⟩
  case round =>
    obtain ⟨i, hi, rfl, rfl, rfl⟩ := hrel
    by_cases hlt : i < k
    · have hii : (i : Int) < (k : Int) := by omega
      have HC : Hid (Lh.hexL (i + 1) n = Lh.hxU (n / 16 ^ i % 16) :: Lh.hexL i n) := Lh.hexL_cons i n
      have HD : Hid (n / 16 ^ (i + 1) = n / 16 ^ i / 16) := by
        show _ = _
        rw [Nat.pow_succ, Nat.div_div_eq_div_mul]
      have hz : n / 16 ^ i < 18446744073709551616 := Nat.lt_of_le_of_lt (Nat.div_le_self _ _) hn
      have hsl : (Lh.hexL i n).length ≤ 16 := by rw [Lh.hexL_len]; omega
      have hsz := Lh.bt_size (Lh.hexL i n)
      generalize n / 16 ^ i = z at *
      generalize Lh.hexL i n = out at *
      obtain ⟨d, hd⟩ : ∃ d, z % 16 = d := ⟨_, rfl⟩
      have hd16 : d < 16 := by omega
      have hr : (z : Int) % 16 = (d : Int) := by omega
      have HDD : Hid (z % 16 = d) := hd
      clear hd
      go_wp2
      refine ⟨⟨i + 1, by omega, by go_num, ?_, ?_⟩, by simp [intOf]; omega⟩
      · rw [HD.out]
        first | rfl | simp
      · rw [HC.out, HDD.out]
        have e1 := Lh.bt_extract Lh.digs d (d + 1)
        have e2 := Lh.digs_at ⟨d, hd16⟩
        dsimp only at e2
        rw [e2] at e1
        have e3 := Lh.bt_append [Lh.hxU d] out
        rw [← e1] at e3
        exact congrArg Value.string e3
    · have hii : decide ((i : Int) < (k : Int)) = false := by simp; omega
      have hie : i = k := by omega
      subst hie
      go_wp2
      go_ret
      exact ⟨rfl, rfl⟩
end Go.Proofs.YtfhmfjcpggddkaaGreatDoor

/- The model's small functions of texts: Byte, Decimal. -/
namespace Go.Proofs.YtfhmfjcpggddkaaGreatDoor
open Go.RowKit

theorem fold_take {α β : Type} (f : α → β → α) (z : α) {s : List β} {i : Nat} (h : i < s.length) {b : β} (hb : s[i] = b) : (s.take (i + 1)).foldl f z = f ((s.take i).foldl f z) b := by
  subst hb
  rw [List.take_succ_eq_append_getElem h, List.foldl_append]
  rfl
theorem fold_range {α : Type} (f : α → Nat → α) (z : α) (k : Nat) : (List.range (k + 1)).foldl f z = f ((List.range k).foldl f z) k := by
  rw [List.range_succ, List.foldl_append]
  rfl
theorem xorI (a b : Nat) (ha : a < 2 ^ 32) (hb : b < 2 ^ 32) : bits .xor .i64 (a : Int) (b : Int) = ((a ^^^ b : Nat) : Int) := by
  have hx : a ^^^ b < 2 ^ 32 := Nat.xor_lt_two_pow ha hb
  have h1 : (BitVec.ofInt 64 (a : Int)).toNat = a := by
    rw [BitVec.ofInt_natCast, BitVec.toNat_ofNat]; exact Nat.mod_eq_of_lt (by omega)
  have h2 : (BitVec.ofInt 64 (b : Int)).toNat = b := by
    rw [BitVec.ofInt_natCast, BitVec.toNat_ofNat]; exact Nat.mod_eq_of_lt (by omega)
  show IntKind.i64.wrap ((BitVec.ofInt 64 (a : Int) ^^^ BitVec.ofInt 64 (b : Int)).toNat : Int) = _
  rw [BitVec.toNat_xor, h1, h2, IntKind.wrap_i64]
  omega
set_option maxRecDepth 100000 in
set_option maxHeartbeats 1000000 in
theorem byteM_any (n : Nat) (h : n < 256) (W : World) :
    Calls Tryz.prog 116 #[.int .i64 (n : Nat)] W fun e w' => e = .returned (.string (Lh.bt [UInt8.ofNat n])) ∧ Below W.heap.size W w' := by
  have hcv : (convert 143 9 (.slice (some ⟨W.heap.size, 0, none⟩) 1 1)).run Tryz.prog (W.alloc (.cells #[.int .u8 (n : Nat)] 5)) = .ok (.string (Lh.bt [UInt8.ofNat n])) (W.alloc (.cells #[.int .u8 (n : Nat)] 5)) := by
    rw [run_convert_bytes_string _ _ _ _ _ _ _ Tryz.underlying143 Tryz.underlying5 Tryz.underlying9, run_bytesToString _ ⟨W.heap.size, 0, none⟩ 1 1 [(n : Int)] (by go_simp)]
    congr 2
  go_enter Tryz.func116, Tryz.ntmps116
  go_wp2
  go_ret
  exact ⟨rfl, (Below.refl _ _).alloc (Nat.le_refl _) _⟩
set_option maxRecDepth 100000 in
set_option maxHeartbeats 2000000 in
theorem crcM_any (s : List UInt8) (hs : s.length ≤ 100000) (W : World) :
    Calls Tryz.prog 171 #[.string (Lh.bt s)] W fun e w' => e = .returned (.int .u64 ((Lh.crcL s : Nat) : Int)) ∧ w' = W := by
  go_enter Tryz.func171, Tryz.ntmps171
  have hsz := Lh.bt_size s
  go_wp2_with fail
  go_loop [3, 4, 5, 6] (fun u3 u4 _ _ => ∃ i : Nat, i ≤ s.length ∧ u4 = .int .i64 (i : Nat) ∧ u3 = .int .i64 (((s.take i).foldl Lh.crcByte 4294967295 : Nat) : Int)) (fun _ u4 _ _ => s.length - (intOf u4).toNat)
  case atStart => exact ⟨0, Nat.zero_le _, rfl, rfl⟩
  case round =>
    obtain ⟨i, hi, rfl, rfl⟩ := hrel
    by_cases hlt : i < s.length
    · have hii : (i : Int) < (s.length : Int) := by omega
      have hbs : i < (Lh.bt s).size := by rw [hsz]; exact hlt
      obtain ⟨b, hb⟩ : ∃ b, (Lh.bt s)[i] = b := ⟨_, rfl⟩
      have hb2 : s[i] = b := hb
      have HSU : Hid ((s.take (i + 1)).foldl Lh.crcByte 4294967295 = Lh.crcByte ((s.take i).foldl Lh.crcByte 4294967295) b) := fold_take Lh.crcByte 4294967295 hlt hb2
      have hc32 : (s.take i).foldl Lh.crcByte 4294967295 < 2 ^ 32 := Lh.crcFold_lt _ (by decide)
      generalize (s.take i).foldl Lh.crcByte 4294967295 = c at *
      go_wp2_with fail
      go_loop [3, 5, 6] (fun u3 u5 _ => ∃ k : Nat, k ≤ 8 ∧ u5 = .int .i64 (k : Nat) ∧ u3 = .int .i64 (((List.range k).foldl (Lh.crcBit b.toNat) c : Nat) : Int)) (fun _ u5 _ => 8 - (intOf u5).toNat)
      case atStart => exact ⟨0, Nat.zero_le _, rfl, rfl⟩
      case round =>
        obtain ⟨k, hk, rfl, rfl⟩ := hrel
        by_cases hk8 : k < 8
        · have hki : (k : Int) < 8 := by omega
          have hd32 : (List.range k).foldl (Lh.crcBit b.toNat) c < 2 ^ 32 := Lh.crcK_lt _ hc32
          have HSK : Hid ((List.range (k + 1)).foldl (Lh.crcBit b.toNat) c = Lh.crcBit b.toNat ((List.range k).foldl (Lh.crcBit b.toNat) c) k) := fold_range (Lh.crcBit b.toNat) c k
          generalize (List.range k).foldl (Lh.crcBit b.toNat) c = d at *
          have hbt := b.toNat_lt
          have hsh : b.toNat >>> k < 2 ^ 32 := by
            rw [Nat.shiftRight_eq_div_pow]
            exact Nat.lt_of_le_of_lt (Nat.div_le_self _ _) (by omega)
          have hx := xorI d (b.toNat >>> k) hd32 hsh
          have hw : wrap64 (b.toNat : Int) = (b.toNat : Int) := by unfold wrap64; omega
          have hdv : ((b.toNat : Int) / 2 ^ k) = ((b.toNat >>> k : Nat) : Int) := by
            rw [Nat.shiftRight_eq_div_pow]
            push_cast
            rfl
          have hx2 := xorI (d / 2) 3988292384 (by omega) (by decide)
          have hd2 : ((d : Int) / 2) = ((d / 2 : Nat) : Int) := by omega
          have hx3 : bits .xor .i64 ((d : Int) / 2) 3988292384 = ((d / 2 ^^^ 3988292384 : Nat) : Int) := by rw [hd2]; exact hx2
          have hmd : ((d ^^^ (b.toNat >>> k) : Nat) : Int).tmod 2 = (((d ^^^ (b.toNat >>> k)) % 2 : Nat) : Int) := rfl
          have hkey : bits .xor .i64 (d : Int) (wrap64 ((Lh.bt s)[i].toNat : Int) / 2 ^ k) = ((d ^^^ (b.toNat >>> k) : Nat) : Int) := by rw [hb, hw, hdv, hx]
          cases hbit : ((bits .xor .i64 (d : Int) (wrap64 ((Lh.bt s)[i].toNat : Int) / 2 ^ k)).tmod 2 == 1) with
          | true =>
            have HB : Hid ((d ^^^ (b.toNat >>> k)) % 2 = 1) := by
              rw [hkey, hmd] at hbit
              have : (((d ^^^ (b.toNat >>> k)) % 2 : Nat) : Int) = 1 := by simpa using hbit
              show _ = 1
              omega
            have HX3 : Hid (bits .xor .i64 ((d : Int) / 2) 3988292384 = ((d / 2 ^^^ 3988292384 : Nat) : Int)) := hx3
            clear hx hw hdv hx2 hx3 hd2 hmd hkey hsh hb hb2
            go_wp2
            refine ⟨⟨k + 1, by omega, by go_num, ?_⟩, by simp [intOf]; omega⟩
            rw [HX3.out, HSK.out]
            unfold Lh.crcBit
            rw [if_pos HB.out]
          | false =>
            have HB : Hid (¬ (d ^^^ (b.toNat >>> k)) % 2 = 1) := by
              rw [hkey, hmd] at hbit
              show ¬ _
              intro e
              rw [e] at hbit
              cases hbit
            have HD2 : Hid (((d : Int) / 2) = ((d / 2 : Nat) : Int)) := hd2
            clear hx hw hdv hx2 hx3 hd2 hmd hkey hsh hb hb2
            go_wp2
            refine ⟨⟨k + 1, by omega, by go_num, ?_⟩, by simp [intOf]; omega⟩
            rw [HD2.out, HSK.out]
            unfold Lh.crcBit
            rw [if_neg HB.out]
        · have hk9 : k = 8 := by omega
          have hki : decide ((k : Int) < 8) = false := by simp; omega
          have HK8 : Hid ((List.range k).foldl (Lh.crcBit b.toNat) c = Lh.crcByte c b) := by rw [hk9]; rfl
          clear hk9
          generalize (List.range k).foldl (Lh.crcBit b.toNat) c = d at *
          go_wp2
          refine ⟨⟨i + 1, by omega, by go_num, ?_⟩, by simp [intOf]; omega⟩
          rw [HSU.out, HK8.out]
    · have hii : decide ((i : Int) < (s.length : Int)) = false := by simp; omega
      have hie : i = s.length := by omega
      have HR : Hid ((s.take i).foldl Lh.crcByte 4294967295 = Lh.crcRaw s) := by rw [hie, List.take_length]; rfl
      have hc32 : (s.take i).foldl Lh.crcByte 4294967295 < 2 ^ 32 := Lh.crcFold_lt _ (by decide)
      clear hie
      generalize (s.take i).foldl Lh.crcByte 4294967295 = c at *
      have hx := xorI c 4294967295 hc32 (by decide)
      have HX : Hid (bits .xor .i64 (c : Int) 4294967295 = ((c ^^^ 4294967295 : Nat) : Int)) := hx
      have hxl : c ^^^ 4294967295 < 2 ^ 32 := Nat.xor_lt_two_pow hc32 (by decide)
      clear hx
      go_wp2
      go_ret
      rw [HX.out, IntKind.wrap_u64]
      have e1 : ((c ^^^ 4294967295 : Nat) : Int) % 18446744073709551616 = ((c ^^^ 4294967295 : Nat) : Int) := by omega
      have e2 : Lh.crcL s = c ^^^ 4294967295 := by rw [HR.out]; rfl
      rw [e2]
      rw [e1]
      exact ⟨rfl, rfl⟩
end Go.Proofs.YtfhmfjcpggddkaaGreatDoor

/- The model's numbers of texts: numberOf, hexOf. -/
namespace Go.Proofs.YtfhmfjcpggddkaaGreatDoor
open Go.RowKit

namespace Lh
theorem fold_ten : ∀ (l : List UInt8) (a : Nat), l.all isDg = true → l.foldl (fun n c => 10 * n + (c.toNat - 48)) a < (a + 1) * 10 ^ l.length
  | [], a, _ => by simp
  | c :: l, a, h => by
    simp only [List.all_cons, Bool.and_eq_true] at h
    have hc : c.toNat ≤ 57 := by
      have := h.1
      simp [isDg] at this
      omega
    have := fold_ten l (10 * a + (c.toNat - 48)) h.2
    simp only [List.foldl_cons, List.length_cons]
    refine Nat.lt_of_lt_of_le this ?_
    rw [Nat.pow_succ, Nat.mul_comm (10 ^ l.length) 10, ← Nat.mul_assoc]
    exact Nat.mul_le_mul_right _ (by omega)
theorem valL_lt {l : List UInt8} (h : l.all isDg = true) : valL l < 10 ^ l.length := by
  have := fold_ten l 0 h
  simpa [valL] using this
end Lh
namespace Lh
end Lh
end Go.Proofs.YtfhmfjcpggddkaaGreatDoor

/- mix.Check once more, where only four of the package variables are known. -/
namespace Go.Proofs.YtfhmfjcpggddkaaGreatDoor
open Go.RowKit

/-- ErrBound, ErrName, ErrNone, ErrExist: each holds a pointer. -/
structure Errs4 (a : Nat → Addr) (w : World) : Prop where
  s1 : w.cell? ⟨0, 0, none⟩ = some (.iface 378 (.pointer (some (a 1))))
  s3 : w.cell? ⟨3, 0, none⟩ = some (.iface 378 (.pointer (some (a 3))))
  s4 : w.cell? ⟨4, 0, none⟩ = some (.iface 378 (.pointer (some (a 4))))
  s5 : w.cell? ⟨5, 0, none⟩ = some (.iface 378 (.pointer (some (a 5))))
theorem Errs4.later {a : Nat → Addr} {w w' : World} (h : Errs4 a w) (hb : Below w.heap.size w w') : Errs4 a w' := ⟨below_cell hb h.s1, below_cell hb h.s3, below_cell hb h.s4, below_cell hb h.s5⟩
theorem Errs.four {a : Nat → Addr} {w : World} (h : Errs a w) : Errs4 a w := ⟨h.s1, h.s3, h.s4, h.s5⟩

set_option maxHeartbeats 2000000 in
theorem check_core4 (a : Nat → Addr) (b o cap : Nat) (xs : List ByteArray) (w : World) (c : Nat) (pl : Int) (he : Errs4 a w) (hcap : xs.length ≤ cap) (hx : ∀ k (h : k < xs.length), w.cell? ⟨b, o + k, none⟩ = some (.string xs[k]))
    (hf : IsFault xs c pl) (h12 : ¬ 12 < xs.length) (hs : ∀ k (h : k < xs.length), (xs[k]).size ≤ 1000000) :
    Calls Tryz.prog 137 #[.slice (some ⟨b, o, none⟩) xs.length cap] w fun e w' => ∃ ev, e = .returned ev ∧ ErrIs a w' c pl ev ∧ Below w.heap.size w w' := by
  have HX : Hid _ := hx
  have HF : Hid _ := hf
  have HS : Hid _ := hs
  have e12 : decide (12 < (xs.length : Int)) = false := by simp; omega
  have s3 := he.s3
  have s5 := he.s5
  clear hx hf hs
  go_enter Tryz.func137, Tryz.ntmps137
  go_wp2
  go_loopw [11] (fun t W => W = w ∧ ∃ k : Nat, k ≤ xs.length ∧ t = .int .i64 k ∧ ∀ j, j < k → ∀ hj : j < xs.length, Good xs j hj) (fun t _ => xs.length - (intOf t).toNat)
  case atStart => exact ⟨rfl, 0, Nat.zero_le _, rfl, fun j h => absurd h (by omega)⟩
  case round =>
    obtain ⟨rfl, k, hk, rfl, hpre⟩ := hrel
    have HP : Hid _ := hpre
    clear hpre
    by_cases hlt : k < xs.length
    · have cx := HX.out k hlt
      have hsz := HS.out k hlt
      cases hn : Lh.isNm xs[k] with
      | false =>
        have HC : Hid _ := fault_name HF.out h12 hlt HP.out hn
        have HN : Hid _ := hn
        clear hn
        go_wp2_with fail
        refine (isName_any _ _ hsz).mono ?_
        rintro e w1 ⟨rfl, rfl⟩
        rw [HN.out]
        go_wp2
        go_ret
        refine ⟨_, rfl, Or.inr ⟨3, by decide, HC.out.1, Or.inr ⟨w1.heap.size, rfl, by rw [HC.out.2]; simp, by simp⟩⟩, (Below.refl _ _).alloc (Nat.le_refl _) _⟩
      | true =>
        have HN : Hid _ := hn
        have hst := strs_take hcap HX.out k hk
        have HST : Hid _ := hst
        clear hst
        cases hme : Lh.mem xs[k] (xs.take k) with
        | true =>
          have HC : Hid _ := fault_exist HF.out h12 hlt HP.out hn hme
          have HM : Hid _ := hme
          clear hn hme
          go_wp2_with fail
          refine (isName_any _ _ hsz).mono ?_
          rintro e w1 ⟨rfl, rfl⟩
          rw [HN.out]
          go_wp2_with fail
          refine (contains_any _ (xs.take k) _ _ HST.out (by simp; omega)).mono ?_
          rintro e w2 ⟨rfl, rfl⟩
          rw [HM.out]
          go_wp2
          go_ret
          refine ⟨_, rfl, Or.inr ⟨5, by decide, HC.out.1, Or.inr ⟨w2.heap.size, rfl, by rw [HC.out.2]; simp, by simp⟩⟩, (Below.refl _ _).alloc (Nat.le_refl _) _⟩
        | false =>
          have HM : Hid _ := hme
          clear hn hme
          go_wp2_with fail
          refine (isName_any _ _ hsz).mono ?_
          rintro e w1 ⟨rfl, rfl⟩
          rw [HN.out]
          go_wp2_with fail
          refine (contains_any _ (xs.take k) _ _ HST.out (by simp; omega)).mono ?_
          rintro e w2 ⟨rfl, rfl⟩
          rw [HM.out]
          go_wp2
          refine ⟨⟨by trivial, k + 1, by omega, by go_num, fun j hj hl => ?_⟩, by simp [intOf]; omega⟩
          by_cases e : j = k
          · subst e; exact ⟨HN.out, HM.out⟩
          · exact HP.out j (by omega) hl
    · have HC : Hid _ := fault_none HF.out h12 (fun j hj => HP.out j (by omega) hj)
      go_wp2
      go_ret
      refine ⟨_, rfl, Or.inl ⟨HC.out.1, HC.out.2, rfl⟩, Below.refl _ _⟩

set_option maxHeartbeats 1000000 in
theorem check_long4 (a : Nat → Addr) (p : Option Addr) (n cap : Nat) (w : World) (he : Errs4 a w) (h12 : 12 < n) (_hm : n < 1000000) :
    Calls Tryz.prog 137 #[.slice p n cap] w fun e w' => e = .returned (.iface 378 (.pointer (some (a 1)))) ∧ w' = w := by
  have e12 : decide (12 < (n : Int)) = true := by simp; omega
  have s1 := he.s1
  go_enter Tryz.func137, Tryz.ntmps137
  go_wp2
  go_ret
  exact ⟨rfl, rfl⟩

/-- mix.Check of any list of texts. -/
theorem check_any4 (a : Nat → Addr) (v : Value) (xs : List ByteArray) (w : World) (c : Nat) (pl : Int) (he : Errs4 a w) (hv : Strs w v xs) (hf : IsFault xs c pl) (hs : ∀ k (h : k < xs.length), (xs[k]).size ≤ 1000000) (hm : xs.length < 1000000) :
    Calls Tryz.prog 137 #[v] w fun e w' => ∃ ev, e = .returned ev ∧ ErrIs a w' c pl ev ∧ Below w.heap.size w w' := by
  by_cases h12 : 12 < xs.length
  · obtain ⟨rfl, rfl⟩ := fault_long hf h12
    obtain ⟨p, cap, rfl⟩ := hv.slice
    exact (check_long4 a p _ cap w he h12 hm).mono fun e w' ⟨h1, h2⟩ => ⟨_, h1, Or.inr ⟨1, by decide, rfl, Or.inl ⟨rfl, rfl⟩⟩, by rw [h2]; exact Below.refl _ _⟩
  · rcases hv with ⟨rfl, p, cap, rfl⟩ | ⟨b, o, cap, rfl, hcap, hx⟩
    · obtain ⟨rfl, rfl⟩ := fault_none hf h12 (fun j hj => absurd hj (by simp))
      exact (check_zero p cap w).mono fun e w' ⟨h1, h2⟩ => ⟨_, h1, Or.inl ⟨rfl, rfl, rfl⟩, by rw [h2]; exact Below.refl _ _⟩
    · exact check_core4 a b o cap xs w c pl he hcap hx hf h12 hs
end Go.Proofs.YtfhmfjcpggddkaaGreatDoor

/- The reference's HostsFault, and LongHosts. -/
namespace Go.Proofs.YtfhmfjcpggddkaaGreatDoor
open Go.RowKit

theorem bare_any (n : Int) (w : World) : Calls Tryz.prog 67 #[.int .i64 n] w fun e w' => e = .returned (.agg #[.int .i64 n, .int .i64 (-1)]) ∧ Below w.heap.size w w' := by
  go_enter Tryz.func67, Tryz.ntmps67
  go_wp2
  exact bodyPost_ret (v := .agg #[.int .i64 n, .int .i64 (-1)]) (by simp [results, Tryz.results67, go_sem]) rfl ⟨rfl, (Below.refl _ _).alloc (Nat.le_refl _) _⟩
theorem fine_any (w : World) : Calls Tryz.prog 170 #[] w fun e w' => e = .returned (.agg #[.int .i64 0, .int .i64 (-1)]) ∧ Below w.heap.size w w' := by
  go_enter Tryz.func170, Tryz.ntmps170
  go_wp2
  exact bodyPost_ret (v := .agg #[.int .i64 0, .int .i64 (-1)]) (by simp [results, Tryz.results170, go_sem]) rfl ⟨rfl, (Below.refl _ _).alloc (Nat.le_refl _) _⟩

set_option maxHeartbeats 2000000 in
theorem hfault_core (b o cap : Nat) (xs : List ByteArray) (w : World) (c : Nat) (pl : Int) (hx : ∀ k (h : k < xs.length), w.cell? ⟨b, o + k, none⟩ = some (.string xs[k]))
    (hf : IsFault xs c pl) (h12 : ¬ 12 < xs.length) (hs : ∀ k (h : k < xs.length), (xs[k]).size ≤ 1000000) :
    Calls Tryz.prog 117 #[.slice (some ⟨b, o, none⟩) xs.length cap] w fun e w' => e = .returned (.agg #[.int .i64 c, .int .i64 pl]) ∧ Below w.heap.size w w' := by
  have HF : Hid _ := hf
  have HS : Hid _ := hs
  have e12 : decide (12 < (xs.length : Int)) = false := by simp; omega
  have hba : ∀ q, Below w.heap.size w (w.alloc q) := fun q => (Below.refl _ _).alloc (Nat.le_refl _) _
  have HX : Hid (∀ q k (h : k < xs.length), (w.alloc q).cell? ⟨b, o + k, none⟩ = some (.string xs[k])) := fun q k h => below_cell (hba q) (hx k h)
  clear hx hf hs hba
  go_enter Tryz.func117, Tryz.ntmps117
  go_wp2_with fail
  have hbW := (Below.refl w.heap.size w).alloc (Nat.le_refl _) (.cells #[.int .i64 0, .int .i64 0] 59)
  have HXW := HX.out (.cells #[.int .i64 0, .int .i64 0] 59)
  go_loopw [3] (fun t W => W = w.alloc (.cells #[.int .i64 0, .int .i64 0] 59) ∧ ∃ k : Nat, k ≤ xs.length ∧ t = .int .i64 k ∧ ∀ j, j < k → ∀ hj : j < xs.length, Good xs j hj) (fun t _ => xs.length - (intOf t).toNat)
  case atStart => exact ⟨rfl, 0, Nat.zero_le _, rfl, fun j h => absurd h (by omega)⟩
  case round =>
    obtain ⟨rfl, k, hk, rfl, hpre⟩ := hrel
    have HP : Hid _ := hpre
    clear hpre
    have HXX : Hid _ := HXW
    clear HXW
    by_cases hlt : k < xs.length
    · have cx := HXX.out k hlt
      have hsz := HS.out k hlt
      cases hn : Lh.isNm xs[k] with
      | false =>
        have HC : Hid _ := fault_name HF.out h12 hlt HP.out hn
        have HN : Hid _ := hn
        clear hn
        go_wp2_with fail
        refine (refName_any _ _ hsz).mono ?_
        rintro e w1 ⟨rfl, rfl⟩
        rw [HN.out]
        go_wp2
        exact bodyPost_ret (v := .agg #[.int .i64 c, .int .i64 pl]) (by rw [HC.out.1, HC.out.2]; simp [results, Tryz.results117, go_sem]) rfl ⟨rfl, (Below.refl _ _).alloc (Nat.le_refl _) _⟩
      | true =>
        have HN : Hid _ := hn
        cases hme : Lh.mem xs[k] (xs.take k) with
        | true =>
          have HC : Hid _ := fault_exist HF.out h12 hlt HP.out hn hme
          have HM : Hid _ := hme
          clear hn hme
          go_wp2_with fail
          refine (refName_any _ _ hsz).mono ?_
          rintro e w1 ⟨rfl, rfl⟩
          rw [HN.out]
          go_wp2_with fail
          refine (refIndex_any b o cap xs k hlt _ HXX.out (by omega)).mono ?_
          rintro e w2 ⟨⟨j, rfl, hj⟩, rfl⟩
          have hj' : decide (j < (k : Int)) = true := by rw [hj, HM.out]
          clear hj
          go_wp2
          exact bodyPost_ret (v := .agg #[.int .i64 c, .int .i64 pl]) (by rw [HC.out.1, HC.out.2]; simp [results, Tryz.results117, go_sem]) rfl ⟨rfl, (Below.refl _ _).alloc (Nat.le_refl _) _⟩
        | false =>
          have HM : Hid _ := hme
          clear hn hme
          go_wp2_with fail
          refine (refName_any _ _ hsz).mono ?_
          rintro e w1 ⟨rfl, rfl⟩
          rw [HN.out]
          go_wp2_with fail
          refine (refIndex_any b o cap xs k hlt _ HXX.out (by omega)).mono ?_
          rintro e w2 ⟨⟨j, rfl, hj⟩, rfl⟩
          have hj' : decide (j < (k : Int)) = false := by rw [hj, HM.out]
          clear hj
          go_wp2
          refine ⟨⟨by trivial, k + 1, by omega, by go_num, fun j hj hl => ?_⟩, by simp [intOf]; omega⟩
          by_cases e : j = k
          · subst e; exact ⟨HN.out, HM.out⟩
          · exact HP.out j (by omega) hl
    · have HC : Hid _ := fault_none HF.out h12 (fun j hj => HP.out j (by omega) hj)
      go_wp2_with fail
      refine (fine_any _).mono ?_
      rintro e w1 ⟨rfl, hb1⟩
      have c0 : w1.cell? ⟨w.heap.size, 0, none⟩ = some (.int .i64 0) := below_cell hb1 (by simp)
      have c1 : w1.cell? ⟨w.heap.size, 1, none⟩ = some (.int .i64 0) := below_cell hb1 (by simp)
      have f0 : w1.frozen? ⟨w.heap.size, 0, none⟩ = false := by rw [hb1.frozen (by simp)]; simp
      have f1 : w1.frozen? ⟨w.heap.size, 1, none⟩ = false := by rw [hb1.frozen (by simp)]; simp
      have hbz : Below w.heap.size w w1 := hbW.trans (hb1.mono (by simp))
      clear hb1 hbW
      go_wp2
      exact bodyPost_ret (v := .agg #[.int .i64 c, .int .i64 pl]) (by rw [HC.out.1, HC.out.2]; simp [results, Tryz.results117, go_sem, c0, c1]) rfl ⟨rfl, (hbz.setCell (Nat.le_refl _) _).setCell (Nat.le_refl _) _⟩

set_option maxHeartbeats 2000000 in
theorem hfault_long (p : Option Addr) (n cap : Nat) (w : World) (h12 : 12 < n) (_hm : n < 1000000) :
    Calls Tryz.prog 117 #[.slice p n cap] w fun e w' => e = .returned (.agg #[.int .i64 2, .int .i64 (-1)]) ∧ Below w.heap.size w w' := by
  have e12 : decide (12 < (n : Int)) = true := by simp; omega
  have hbW := (Below.refl w.heap.size w).alloc (Nat.le_refl _) (.cells #[.int .i64 0, .int .i64 0] 59)
  go_enter Tryz.func117, Tryz.ntmps117
  go_wp2_with fail
  refine (bare_any _ _).mono ?_
  rintro e w1 ⟨rfl, hb1⟩
  have c0 : w1.cell? ⟨w.heap.size, 0, none⟩ = some (.int .i64 0) := below_cell hb1 (by simp)
  have c1 : w1.cell? ⟨w.heap.size, 1, none⟩ = some (.int .i64 0) := below_cell hb1 (by simp)
  have f0 : w1.frozen? ⟨w.heap.size, 0, none⟩ = false := by rw [hb1.frozen (by simp)]; simp
  have f1 : w1.frozen? ⟨w.heap.size, 1, none⟩ = false := by rw [hb1.frozen (by simp)]; simp
  have hbz : Below w.heap.size w w1 := hbW.trans (hb1.mono (by simp))
  clear hb1 hbW
  go_wp2
  exact bodyPost_ret (v := .agg #[.int .i64 2, .int .i64 (-1)]) (by simp [results, Tryz.results117, go_sem, c0, c1]) rfl ⟨rfl, (hbz.setCell (Nat.le_refl _) _).setCell (Nat.le_refl _) _⟩

set_option maxHeartbeats 2000000 in
theorem hfault_zero (p : Option Addr) (cap : Nat) (w : World) :
    Calls Tryz.prog 117 #[.slice p 0 cap] w fun e w' => e = .returned (.agg #[.int .i64 0, .int .i64 (-1)]) ∧ Below w.heap.size w w' := by
  have hbW := (Below.refl w.heap.size w).alloc (Nat.le_refl _) (.cells #[.int .i64 0, .int .i64 0] 59)
  go_enter Tryz.func117, Tryz.ntmps117
  go_wp2_with fail
  refine wp_loop_rounds 1 ?_
  rw [rounds_succ]
  go_wp2_with fail
  refine (fine_any _).mono ?_
  rintro e w1 ⟨rfl, hb1⟩
  have c0 : w1.cell? ⟨w.heap.size, 0, none⟩ = some (.int .i64 0) := below_cell hb1 (by simp)
  have c1 : w1.cell? ⟨w.heap.size, 1, none⟩ = some (.int .i64 0) := below_cell hb1 (by simp)
  have f0 : w1.frozen? ⟨w.heap.size, 0, none⟩ = false := by rw [hb1.frozen (by simp)]; simp
  have f1 : w1.frozen? ⟨w.heap.size, 1, none⟩ = false := by rw [hb1.frozen (by simp)]; simp
  have hbz : Below w.heap.size w w1 := hbW.trans (hb1.mono (by simp))
  clear hb1 hbW
  go_wp2
  exact bodyPost_ret (v := .agg #[.int .i64 0, .int .i64 (-1)]) (by simp [results, Tryz.results117, go_sem, c0, c1]) rfl ⟨rfl, (hbz.setCell (Nat.le_refl _) _).setCell (Nat.le_refl _) _⟩

/-- HostsFault of any list of texts. -/
theorem hfault_any (v : Value) (xs : List ByteArray) (w : World) (c : Nat) (pl : Int) (hv : Strs w v xs) (hf : IsFault xs c pl) (hs : ∀ k (h : k < xs.length), (xs[k]).size ≤ 1000000) (hm : xs.length < 1000000) :
    Calls Tryz.prog 117 #[v] w fun e w' => e = .returned (.agg #[.int .i64 c, .int .i64 pl]) ∧ Below w.heap.size w w' := by
  by_cases h12 : 12 < xs.length
  · obtain ⟨rfl, rfl⟩ := fault_long hf h12
    obtain ⟨p, cap, rfl⟩ := hv.slice
    exact hfault_long p _ cap w h12 hm
  · rcases hv with ⟨rfl, p, cap, rfl⟩ | ⟨b, o, cap, rfl, hcap, hx⟩
    · obtain ⟨rfl, rfl⟩ := fault_none hf h12 (fun j hj => absurd hj (by simp))
      exact hfault_zero p cap w
    · exact hfault_core b o cap xs w c pl hx hf h12 hs

set_option maxHeartbeats 1000000 in
theorem long_core (b o cap : Nat) (xs : List ByteArray) (w : World) (hx : ∀ k (h : k < xs.length), w.cell? ⟨b, o + k, none⟩ = some (.string xs[k])) (hs : ∀ k (h : k < xs.length), (xs[k]).size ≤ maxLen) (h30 : ¬ 30 < xs.length) :
    Calls Tryz.prog 11 #[.slice (some ⟨b, o, none⟩) xs.length cap] w fun e w' => (e = .returned (.int .i64 1) ∨ (e = .returned (.int .i64 0) ∧ ∀ k (h : k < xs.length), (xs[k]).size ≤ 60)) ∧ w' = w := by
  have HX : Hid _ := hx
  have HS : Hid _ := hs
  have e30 : decide (30 < (xs.length : Int)) = false := by simp; omega
  clear hx hs
  go_enter Tryz.func11, Tryz.ntmps11
  go_wp2
  go_loop [3] (fun t => ∃ k : Nat, k ≤ xs.length ∧ t = .int .i64 k ∧ ∀ j (h : j < xs.length), j < k → (xs[j]).size ≤ 60) (fun t => xs.length - (intOf t).toNat)
  case atStart => exact ⟨0, Nat.zero_le _, rfl, fun j _ h => absurd h (by omega)⟩
  case round =>
    obtain ⟨k, hk, rfl, hpre⟩ := hrel
    have HP : Hid _ := hpre
    clear hpre
    by_cases hlt : k < xs.length
    · have cx := HX.out k hlt
      have hsz := HS.out k hlt
      unfold maxLen at hsz
      by_cases h60 : 60 < (xs[k]).size
      · have e60 : decide (60 < ((xs[k]).size : Int)) = true := by simp; omega
        go_wp2
        go_ret
        exact ⟨Or.inl rfl, rfl⟩
      · have e60 : decide (60 < ((xs[k]).size : Int)) = false := by simp; omega
        go_wp2
        go_round
        case rel =>
          refine ⟨k + 1, by omega, by go_num, fun j h hj => ?_⟩
          by_cases e : j = k
          · subst e; omega
          · exact HP.out j h (by omega)
        case measure => simp [intOf]; omega
    · go_wp2
      go_ret
      exact ⟨Or.inr ⟨rfl, fun j h => HP.out j h (by omega)⟩, rfl⟩
set_option maxHeartbeats 1000000 in
theorem long_zero (p : Option Addr) (cap : Nat) (w : World) :
    Calls Tryz.prog 11 #[.slice p 0 cap] w fun e w' => e = .returned (.int .i64 0) ∧ w' = w := by
  go_enter Tryz.func11, Tryz.ntmps11
  go_wp2
  refine wp_loop_rounds 1 ?_
  rw [rounds_succ]
  go_wp2
  go_ret
  exact ⟨rfl, rfl⟩
set_option maxHeartbeats 1000000 in
theorem long_long (p : Option Addr) (n cap : Nat) (w : World) (h30 : 30 < n) (hm : n ≤ maxLen) :
    Calls Tryz.prog 11 #[.slice p n cap] w fun e w' => e = .returned (.int .i64 1) ∧ w' = w := by
  unfold maxLen at hm
  have e30 : decide (30 < (n : Int)) = true := by simp; omega
  go_enter Tryz.func11, Tryz.ntmps11
  go_wp2
  go_ret
  exact ⟨rfl, rfl⟩
/-- LongHosts: 1, or 0, and then the list is short. -/
theorem long_any (v : Value) (xs : List ByteArray) (w : World) (hv : Strs w v xs) (hs : ∀ k (h : k < xs.length), (xs[k]).size ≤ maxLen) (hm : xs.length ≤ maxLen) :
    Calls Tryz.prog 11 #[v] w fun e w' => (e = .returned (.int .i64 1) ∨ (e = .returned (.int .i64 0) ∧ xs.length ≤ 30 ∧ ∀ k (h : k < xs.length), (xs[k]).size ≤ 60)) ∧ w' = w := by
  by_cases h30 : 30 < xs.length
  · obtain ⟨p, cap, rfl⟩ := hv.slice
    exact (long_long p _ cap w h30 hm).mono fun e w' ⟨h1, h2⟩ => ⟨Or.inl h1, h2⟩
  · rcases hv with ⟨rfl, p, cap, rfl⟩ | ⟨b, o, cap, rfl, hcap, hx⟩
    · exact (long_zero p cap w).mono fun e w' ⟨h1, h2⟩ => ⟨Or.inr ⟨h1, by simp, fun k h => absurd h (by simp)⟩, h2⟩
    · refine (long_core b o cap xs w hx hs h30).mono fun e w' ⟨h1, h2⟩ => ⟨?_, h2⟩
      rcases h1 with h1 | ⟨h1, h3⟩
      · exact Or.inl h1
      · exact Or.inr ⟨h1, by omega, h3⟩
end Go.Proofs.YtfhmfjcpggddkaaGreatDoor

/- Own memory: OwnTexts. -/
namespace Go.Proofs.YtfhmfjcpggddkaaGreatDoor
open Go.RowKit

/-- As a caller hands it over. -/
def Strs1 (w : World) (v : Value) (xs : List ByteArray) : Prop :=
  (xs = [] ∧ (v = .slice none 0 0 ∨ ∃ a c, v = .slice (some a) 0 c)) ∨ ∃ b o c, v = .slice (some ⟨b, o, none⟩) xs.length c ∧ xs.length ≤ c ∧ ∀ k (h : k < xs.length), w.cell? ⟨b, o + k, none⟩ = some (.string xs[k])
theorem Strs1.strs {w : World} {v : Value} {xs : List ByteArray} (h : Strs1 w v xs) : Strs w v xs := by
  rcases h with ⟨rfl, rfl | ⟨a, c, rfl⟩⟩ | h
  · exact Or.inl ⟨rfl, _, _, rfl⟩
  · exact Or.inl ⟨rfl, _, _, rfl⟩
  · exact Or.inr h
theorem Strs1.later {w w' : World} {v : Value} {xs : List ByteArray} (h : Strs1 w v xs) (hb : Below w.heap.size w w') : Strs1 w' v xs := by
  rcases h with h | ⟨b, o, c, rfl, hcap, hc⟩
  · exact Or.inl h
  · exact Or.inr ⟨b, o, c, rfl, hcap, fun k hk => below_cell hb (hc k hk)⟩

theorem infoS : (Tryz.prog.info? 9).map (fun i => (i.zero, i.size, i.bytes)) = some (some (.string ByteArray.empty), 1, 16) := by kernel_rfl

theorem strs_of_owns {w : World} {base n : Nat} {v : Value} {e : TypeId} {xs : List ByteArray} (h : w.ownsRow base e 1 v n (xs.map Value.string)) : Strs1 w v xs := by
  obtain ⟨hl, ⟨rfl, rfl⟩ | ⟨g, cap, cur, rfl, hbase, hb, hn, hm, hsz, ht⟩⟩ := h
  · have : xs = [] := by simpa using hl
    exact Or.inl ⟨this, Or.inl rfl⟩
  · have hl' : xs.length = n := by simpa using hl
    refine Or.inr ⟨g, 0, cap, by rw [hl'], by omega, fun k hk => ?_⟩
    have hk' : (cur.toList.take (n * 1))[k]? = some (.string xs[k]) := by rw [ht]; simp [hk]
    rw [List.getElem?_take_of_lt (by omega)] at hk'
    simp only [World.cell?, hb, Nat.zero_add]
    simpa using hk'

theorem owns_nil (w : World) (base : Nat) (e : TypeId) : w.ownsRow base e 1 (.slice none 0 0) 0 (([] : List ByteArray).map Value.string) := ⟨rfl, Or.inl ⟨rfl, rfl⟩⟩
theorem strs_oneCell (xs : List ByteArray) : ∀ u ∈ xs.map Value.string, u.oneCell' = true := by
  intro u hu
  obtain ⟨_, _, rfl⟩ := List.mem_map.1 hu
  rfl
theorem cells_strs {w : World} {b o : Nat} {xs : List ByteArray} (hx : ∀ k (h : k < xs.length), w.cell? ⟨b, o + k, none⟩ = some (.string xs[k])) : ∀ j u, (xs.map Value.string)[j]? = some u → w.cell? ((⟨b, o, none⟩ : Addr).add j) = some u := by
  intro j u hu
  obtain ⟨hj, rfl⟩ := List.getElem?_eq_some_iff.1 hu
  rw [Addr.add_lit, hx j (by simpa using hj)]
  simp
set_option maxHeartbeats 1000000 in
theorem ownTexts_any (v : Value) (xs : List ByteArray) (w : World) (hv : Strs1 w v xs) (hm : xs.length < 1000000) :
    Calls Tryz.prog 80 #[v] w fun e w' => ∃ v', e = .returned v' ∧ Strs1 w' v' xs ∧ Below w.heap.size w w' := by
  obtain ⟨i, hi, hz0, hz1, hz2⟩ := info_parts infoS
  have hmax : 0 + xs.length ≤ maxLen := by unfold maxLen; omega
  rcases hv with ⟨rfl, rfl | ⟨ad, c, rfl⟩⟩ | ⟨b, o, c, rfl, hcap, hx⟩
  · go_enter Tryz.func80, Tryz.ntmps80
    go_wp2_with (at_builtin; refine wpList_append_own_none rfl _ _ 22 rfl w.heap.size 9 i 1 Tryz.underlying22 hi (.slice none 0 0) 0 _ rfl (owns_nil w _ _) rfl ?_)
    go_ret
    exact ⟨_, rfl, Or.inl ⟨rfl, Or.inl rfl⟩, Below.refl _ _⟩
  · have hn : ([] : List ByteArray).map Value.string = [] := rfl
    have hnews : ∀ j u, (([] : List ByteArray).map Value.string)[j]? = some u → w.cell? (ad.add j) = some u := fun j u h => by simp at h
    go_enter Tryz.func80, Tryz.ntmps80
    go_wp2_with fail
    go_ret
    exact ⟨_, rfl, Or.inl ⟨rfl, Or.inl rfl⟩, Below.refl _ _⟩
  · have hnews := cells_strs hx
    go_enter Tryz.func80, Tryz.ntmps80
    go_wp2_with (at_builtin; refine wpList_append_own w rfl _ _ 22 rfl w.heap.size 9 i _ 1 16 Tryz.underlying22 hi hz0 hz1 hz2 rfl (by decide) (.slice none 0 0) 0 _ rfl (owns_nil w _ _) ⟨b, o, none⟩ xs.length c (xs.map Value.string) rfl (by simp) hnews (strs_oneCell xs) hmax (by omega) (Nat.le_refl _) ?_)
    intro v' w' hown hg _
    go_wp2
    go_ret
    refine ⟨_, rfl, strs_of_owns (by simpa using hown), below_grown hg (fun k h => by cases h)⟩
end Go.Proofs.YtfhmfjcpggddkaaGreatDoor
