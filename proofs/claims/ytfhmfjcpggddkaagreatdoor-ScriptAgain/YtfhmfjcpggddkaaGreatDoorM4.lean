/- Errors by number and place; the first text of a list. -/
import Derived.Test.YtfhmfjcpggddkaaGreatDoorM3
import Derived.Test.YtfhmfjcpggddkaaGreatDoorCaSh
import Derived.Test.YtfhmfjcpggddkaaGreatDoorM2
import Derived.Lib.AppendIntMem
import Derived.Lib.AtoiErrMem
import Derived.Maps.OwnOps
import Derived.Maps.OwnSet
import Derived.Carry
import Derived.Test.YtfhmfjcpggddkaaGreatDoorProg
import Derived.WalkKit
import Derived.WalkLawsBesides
import Derived.WalkSpells
import Derived.Below
import Derived.Laws.Concat
import Derived.Laws.Strings2
namespace Go.Proofs.YtfhmfjcpggddkaaGreatDoor
open Go.RowKit

namespace Lh
def mem (s : ByteArray) (xs : List ByteArray) : Bool := xs.any fun x => decide (x = s)
theorem mem_true {s : ByteArray} {xs : List ByteArray} (h : s ∈ xs) : mem s xs = true := by
  unfold mem; rw [List.any_eq_true]; exact ⟨s, h, by simp⟩
theorem mem_false {s : ByteArray} {xs : List ByteArray} (h : ¬ s ∈ xs) : mem s xs = false := by
  unfold mem; rw [List.any_eq_false]; intro x hx; simp only [decide_eq_true_eq]; intro e; subst e; exact h hx
end Lh

/-- The value v is the error of number c (0: none) at the place pl (-1: bare). -/
def ErrIs (a : Nat → Addr) (W : World) (c : Nat) (pl : Int) (v : Value) : Prop :=
  (c = 0 ∧ pl = -1 ∧ v = .nilIface) ∨
  (∃ i, i < 9 ∧ c = i + 1 ∧ ((pl = -1 ∧ v = .iface 378 (.pointer (some (a i)))) ∨
    ∃ b, v = .iface 103 (.pointer (some ⟨b, 0, none⟩)) ∧ W.cell? ⟨b, 0, none⟩ = some (.int .i64 pl) ∧ W.cell? ⟨b, 1, none⟩ = some (.iface 378 (.pointer (some (a i))))))

theorem ErrIs.later {a : Nat → Addr} {W W' : World} {c : Nat} {pl : Int} {v : Value} (h : ErrIs a W c pl v) (hb : Below W.heap.size W W') : ErrIs a W' c pl v := by
  rcases h with h | ⟨i, hi, hc, h | ⟨b, hv, h0, h1⟩⟩
  · exact Or.inl h
  · exact Or.inr ⟨i, hi, hc, Or.inl h⟩
  · exact Or.inr ⟨i, hi, hc, Or.inr ⟨b, hv, below_cell hb h0, below_cell hb h1⟩⟩

/- the first place of a text in a list -/
set_option maxHeartbeats 1000000 in
theorem contains_core (b o c : Nat) (xs : List ByteArray) (s : ByteArray) (w : World) (hx : ∀ k (h : k < xs.length), w.cell? ⟨b, o + k, none⟩ = some (.string xs[k])) (hm : xs.length < 1000000) :
    Calls Tryz.prog 221 #[.slice (some ⟨b, o, none⟩) xs.length c, .string s] w fun e w' => (∃ j : Int, e = .returned (.int .i64 j) ∧ decide (0 ≤ j) = Lh.mem s xs) ∧ w' = w := by
  have HX : Hid _ := hx
  clear hx
  go_enter Tryz.func221, Tryz.ntmps221
  go_wp2
  go_loop [8] (fun t => ∃ k : Nat, k ≤ xs.length ∧ t = .int .i64 k ∧ ∀ j (h : j < xs.length), j < k → xs[j] ≠ s) (fun t => xs.length - (intOf t).toNat)
  case atStart => exact ⟨0, Nat.zero_le _, rfl, fun j _ h => absurd h (by omega)⟩
  case round =>
    obtain ⟨k, hk, rfl, hpre⟩ := hrel
    have HP : Hid _ := hpre
    clear hpre
    by_cases hlt : k < xs.length
    · have cx := HX.out k hlt
      generalize hxk : xs[k] = xk at *
      have HXK : Hid _ := hxk
      clear hxk
      by_cases heq : s = xk
      · have hne : (s.toList == xk.toList) = true := bytes_same heq
        have HE : Hid _ := heq
        clear heq
        go_wp2
        go_ret
        refine ⟨⟨(k : Int), rfl, ?_⟩, rfl⟩
        rw [decide_eq_true (by omega), Lh.mem_true]
        rw [HE.out, ← HXK.out]
        exact List.getElem_mem _
      · have hne : (s.toList == xk.toList) = false := bytes_parts heq
        have HE : Hid _ := heq
        clear heq
        go_wp2
        go_round
        case rel =>
          refine ⟨k + 1, by omega, by go_num, fun j h hj => ?_⟩
          by_cases hjk : j = k
          · subst hjk; rw [HXK.out]; exact fun e => HE.out e.symm
          · exact HP.out j h (by omega)
        case measure => simp [intOf]; omega
    · go_wp2
      go_ret
      refine ⟨⟨-1, rfl, ?_⟩, rfl⟩
      rw [decide_eq_false (by omega), Lh.mem_false]
      intro hm
      obtain ⟨j, hj, e⟩ := List.getElem_of_mem hm
      exact HP.out j hj (by omega) e

set_option maxHeartbeats 1000000 in
theorem index_zero (p : Option Addr) (c : Nat) (s : ByteArray) (w : World) :
    Calls Tryz.prog 221 #[.slice p 0 c, .string s] w fun e w' => e = .returned (.int .i64 (-1)) ∧ w' = w := by
  go_enter Tryz.func221, Tryz.ntmps221
  go_wp2
  refine wp_loop_rounds 1 ?_
  rw [rounds_succ]
  go_wp2
  go_ret
  exact ⟨rfl, rfl⟩

/-- slices.Contains of a list of texts. -/
theorem contains_any (v : Value) (xs : List ByteArray) (s : ByteArray) (w : World) (hv : Strs w v xs) (hm : xs.length < 1000000) :
    Calls Tryz.prog 177 #[v, .string s] w fun e w' => e = .returned (.bool (Lh.mem s xs)) ∧ w' = w := by
  have key : Calls Tryz.prog 221 #[v, .string s] w fun e w' => (∃ j : Int, e = .returned (.int .i64 j) ∧ decide (0 ≤ j) = Lh.mem s xs) ∧ w' = w := by
    rcases hv with ⟨rfl, p, c, rfl⟩ | ⟨b, o, c, rfl, _, hc⟩
    · exact (index_zero p c s w).mono fun e w' ⟨h1, h2⟩ => ⟨⟨-1, h1, rfl⟩, h2⟩
    · exact contains_core b o c xs s w hc hm
  clear hv
  go_enter Tryz.func177, Tryz.ntmps177
  go_wp2_with fail
  refine key.mono ?_
  rintro e w1 ⟨⟨j, rfl, hj⟩, rfl⟩
  have HJ : Hid _ := hj
  clear hj key
  go_wp2
  go_ret
  exact ⟨ret_bool HJ.out, rfl⟩

end Go.Proofs.YtfhmfjcpggddkaaGreatDoor

/- What the landed carry asks of the package variables, and what the library's functions do there: words joined, a text parted, a zero many times, numbers read and written. -/
namespace Go.Proofs.YtfhmfjcpggddkaaGreatDoor
open Go.RowKit

theorem heap_newC (w : World) (o : Obj) : (w.alloc o).heap[w.heap.size]? = some o := by
  unfold World.alloc
  simp
structure EC (a : Nat → Addr) (W : World) : Prop where
  s0 : W.cell? ⟨1, 0, none⟩ = some (.iface 378 (.pointer (some (a 0))))
  s1 : W.cell? ⟨0, 0, none⟩ = some (.iface 378 (.pointer (some (a 1))))
  s3 : W.cell? ⟨3, 0, none⟩ = some (.iface 378 (.pointer (some (a 3))))
  s5 : W.cell? ⟨5, 0, none⟩ = some (.iface 378 (.pointer (some (a 5))))
  syn : ∃ te pe, W.cell? ⟨16, 0, none⟩ = some (.iface te pe)
  rng : ∃ te pe, W.cell? ⟨17, 0, none⟩ = some (.iface te pe)
  tab : Lib.TabIs Tryz.prog W "internal/strconv.uint64pow10" .u64 Lib.pow10Tab
  brj : W.cell? ⟨15, 15, none⟩ = some (.int .u8 4)
  mln : ∃ m, W.cell? ⟨10, 0, none⟩ = some (.int .i64 m)
theorem EC.later {a : Nat → Addr} {W W' : World} (h : EC a W) (hb : Below W.heap.size W W') : EC a W' where
  s0 := below_cell hb h.s0
  s1 := below_cell hb h.s1
  s3 := below_cell hb h.s3
  s5 := below_cell hb h.s5
  syn := let ⟨te, pe, e⟩ := h.syn; ⟨te, pe, below_cell hb e⟩
  rng := let ⟨te, pe, e⟩ := h.rng; ⟨te, pe, below_cell hb e⟩
  tab := Lib.tabBelow_of_tabIs h.tab W' hb
  brj := below_cell hb h.brj
  mln := let ⟨m, e⟩ := h.mln; ⟨m, below_cell hb e⟩

theorem join3_any (b c : Nat) (x y z : List UInt8) (w : World) (h0 : w.cell? ⟨b, 0, none⟩ = some (.string (Lh.bt x))) (h1 : w.cell? ⟨b, 1, none⟩ = some (.string (Lh.bt y))) (h2 : w.cell? ⟨b, 2, none⟩ = some (.string (Lh.bt z))) (hb : b < w.heap.size) (hc : 3 ≤ c) (hl : (Lh.joinL 32 [x, y, z]).length ≤ 1000000) :
    Calls Tryz.prog 42 #[.slice (some ⟨b, 0, none⟩) 3 c, .string (Lh.bt [32])] w fun e w' => e = .returned (.string (Lh.bt (Lh.joinL 32 [x, y, z]))) ∧ Below w.heap.size w w' := by
  have e : Lib.join ([Lh.bt x, Lh.bt y, Lh.bt z].map (·.data.toList)) (Lh.bt [32]).data.toList = Lh.joinL 32 [x, y, z] := Lh.join_three x y z
  have h := Any.strings_Join lays156 Builder_Extra_156 b 0 c [Lh.bt x, Lh.bt y, Lh.bt z] (Lh.bt [32]) w (fun j s hj => by
    match j, hj with
    | 0, hj => cases hj; exact h0
    | 1, hj => cases hj; exact h1
    | 2, hj => cases hj; exact h2) hb (by simp) hc (by rw [e]; omega)
  rw [e] at h
  exact h
theorem join2_any (b c : Nat) (x y : List UInt8) (w : World) (h0 : w.cell? ⟨b, 0, none⟩ = some (.string (Lh.bt x))) (h1 : w.cell? ⟨b, 1, none⟩ = some (.string (Lh.bt y))) (hb : b < w.heap.size) (hc : 2 ≤ c) (hl : (Lh.joinL 32 [x, y]).length ≤ 1000000) :
    Calls Tryz.prog 42 #[.slice (some ⟨b, 0, none⟩) 2 c, .string (Lh.bt [32])] w fun e w' => e = .returned (.string (Lh.bt (Lh.joinL 32 [x, y]))) ∧ Below w.heap.size w w' := by
  have e : Lib.join ([Lh.bt x, Lh.bt y].map (·.data.toList)) (Lh.bt [32]).data.toList = Lh.joinL 32 [x, y] := Lh.join_two x y
  have h := Any.strings_Join lays156 Builder_Extra_156 b 0 c [Lh.bt x, Lh.bt y] (Lh.bt [32]) w (fun j s hj => by
    match j, hj with
    | 0, hj => cases hj; exact h0
    | 1, hj => cases hj; exact h1) hb (by simp) hc (by rw [e]; omega)
  rw [e] at h
  exact h
theorem itoa_any {a : Nat → Addr} (n : Nat) (hn : n ≤ 9223372036854775807) (w : World) (he : EC a w) :
    Calls Tryz.prog 87 #[.int .i64 (n : Nat)] w fun e w' => e = .returned (.string (Lh.bt (Lh.decL n))) ∧ Below w.heap.size w w' := by
  refine (Any.strconv_Itoa laysM171 (n : Int) (by omega) (by omega) w he.tab).mono ?_
  rintro e w' ⟨rfl, k, os, rfl⟩
  exact ⟨by rw [Lh.itoa_dec]; rfl, Lib.below_grow _ w (Nat.le_refl _) k os⟩
theorem atoi_any {a : Nat → Addr} (s : List UInt8) (hs : s.length ≤ 100000) (w : World) (he : EC a w) :
    Calls Tryz.prog 260 #[.string (Lh.bt s)] w fun e w' => Below w.heap.size w w' ∧ ((∃ v, Lib.atoiAll s = .ok v ∧ e = .returned (.tuple #[.int .i64 v, .nilIface])) ∨ ((∀ v, Lib.atoiAll s ≠ .ok v) ∧ ∃ x t p, e = .returned (.tuple #[.int .i64 x, .iface t p]))) := by
  have hsz : (Lh.bt s).size = s.length := by simp [Lh.bt, ByteArray.size]
  cases h : Lib.atoiAll s with
  | ok v =>
    refine (Any.strconv_Atoi_ok laysC172 (Lh.bt s) (by omega) v h w).mono ?_
    rintro e w' ⟨rfl, rfl | ⟨t, rfl⟩⟩
    · exact ⟨Below.refl _ _, Or.inl ⟨v, rfl, rfl⟩⟩
    · exact ⟨Lib.bytesWorld_below w _ t, Or.inl ⟨v, rfl, rfl⟩⟩
  | «syntax» =>
    obtain ⟨te, pe, hv⟩ := he.syn
    refine (Any.strconv_Atoi_syntax laysC172 (Lh.bt s) (by omega) h _ w hv (Or.inr ⟨te, pe, rfl⟩)).mono ?_
    rintro e w' ⟨N, rfl, _, _, hb⟩
    exact ⟨hb, Or.inr ⟨fun v e => (by cases e), _, _, _, rfl⟩⟩
  | range =>
    obtain ⟨te, pe, hv⟩ := he.rng
    refine (Any.strconv_Atoi_range laysC172 (Lh.bt s) (by omega) h _ w hv (Or.inr ⟨te, pe, rfl⟩)).mono ?_
    rintro e w' ⟨N, rfl, _, _, hb⟩
    exact ⟨hb, Or.inr ⟨fun v e => (by cases e), _, _, _, rfl⟩⟩
theorem split_any {a : Nat → Addr} (s : List UInt8) (y : UInt8) (hs : s.length ≤ 100000) (w : World) (he : EC a w) :
    Calls Tryz.prog 108 #[.string (Lh.bt s), .string (Lh.bt [y])] w fun e w' => e = .returned (.slice (some ⟨w.heap.size, 0, none⟩) (Lh.cutL y s).length (Lh.cutL y s).length) ∧ Below w.heap.size w w' ∧ w.heap.size < w'.heap.size ∧
      ∀ j (hj : j < (Lh.cutL y s).length), w'.cell? ⟨w.heap.size, j, none⟩ = some (.string (Lh.bt (Lh.cutL y s)[j])) := by
  have hsz : (Lh.bt s).size = s.length := by simp [Lh.bt, ByteArray.size]
  obtain ⟨m, hm⟩ := he.mln
  refine (Any.strings_Split lays146 (by kernel_rfl) (Lh.bt s) (Lh.bt [y]) m w (by omega) hm (Nat.le_refl 1)).mono ?_
  rintro e w' ⟨rfl, rfl⟩
  rw [Lh.splitB_cut, Lh.count_cut]
  refine ⟨rfl, (Below.refl _ _).alloc (Nat.le_refl _) _, by simp, fun j hj => ?_⟩
  rw [Lib.cell_of_heap (heap_newC w _)]
  simp [hj]
theorem repeat_any (c : Nat) (hc : c ≤ 1000) (w : World) :
    Calls Tryz.prog 255 #[.string (Lh.bt [48]), .int .i64 (c : Nat)] w fun e w' => e = .returned (.string (Lh.bt (List.replicate c 48))) ∧ Below w.heap.size w w' := by
  refine (Any.strings_Repeat lays105 Builder_Extra_105 (Lh.bt [48]) c w (by omega) (by
    have : (Lh.bt [48]).size = 1 := rfl
    rw [this]
    omega)).mono ?_
  rintro e w' ⟨rfl, hb⟩
  refine ⟨?_, hb⟩
  rw [← Lh.repeat_zero]
  rfl
end Go.Proofs.YtfhmfjcpggddkaaGreatDoor

/- Filling evenly, as numbers: how many keys a host may have, the first one that has fewer, where all keys go. -/
namespace Go.Proofs.YtfhmfjcpggddkaaGreatDoor
namespace Lh

/-- one key more: it goes to the first of its hosts that has fewer than may be -/
def put1 (most : Nat) (out : List Nat) (o : List Nat) : List Nat :=
  match o.find? fun h => decide (out.count h < most) with
  | some h => out ++ [h]
  | none => out
/-- where all go -/
def places (most : Nat) (os : List (List Nat)) : List Nat := os.foldl (put1 most) []
end Lh
end Go.Proofs.YtfhmfjcpggddkaaGreatDoor

/- Maps of the call's own: numbers by name, and keys that were seen. -/
namespace Go.Proofs.YtfhmfjcpggddkaaGreatDoor
open Go.RowKit Go.Maps Go.ChangeMaps

theorem fkeyS (s : ByteArray) (hs : s.size ≤ 300) : keyOf Tryz.prog 9 (.string s) = some (.string s.data.toList) := Go.WideMaps.keyOf_string_mk Tryz.underlying9 (Nat.le_trans hs (by unfold maxLen; omega))
theorem wfU {z : Nat} (h : z < 18446744073709551616) : (Lit.int .u64 (z : Nat)).wf = true := by
  simp [Lit.wf, IntKind.min, IntKind.max, IntKind.signed, IntKind.bits]
  omega
theorem fkeyU (z : Nat) (h : z < 18446744073709551616) : keyOf Tryz.prog 63 (.int .u64 (z : Nat)) = some (.int .u64 (z : Nat)) := keyOf_int_mk Tryz.underlying63 (wfU h)
theorem wfI {n : Nat} (h : n ≤ 1000000) : (Lit.int .i64 (n : Nat)).wf = true := by
  simp [Lit.wf, IntKind.min, IntKind.max, IntKind.signed, IntKind.bits]
  omega
theorem strs_lit_ne {s t : ByteArray} (h : s ≠ t) : Lit.string s.data.toList ≠ Lit.string t.data.toList := by
  intro e
  simp only [Lit.string.injEq] at e
  apply h
  cases s
  cases t
  simpa using e
theorem ownsMap_later {k : TypeId} {R : Value → Option (DataW Unit × List MemPlace)} {w w' : World} {b n : Nat} {D : DataW Unit} (h : w.ownsMap Tryz.prog k R b n D) (he : w'.heap[b]? = w.heap[b]?) : w'.ownsMap Tryz.prog k R b n D := by
  obtain ⟨es, clock, hb, r⟩ := h
  exact ⟨es, clock, he.trans hb, r⟩

end Go.Proofs.YtfhmfjcpggddkaaGreatDoor

/- mix.Check, and the reference's HostsFault. -/
namespace Go.Proofs.YtfhmfjcpggddkaaGreatDoor
open Go.RowKit

def Good (xs : List ByteArray) (j : Nat) (h : j < xs.length) : Prop := Lh.isNm xs[j] = true ∧ Lh.mem xs[j] (xs.take j) = false
/-- What is wrong with a list of hosts: the error's number (0: nothing), and where. -/
def IsFault (xs : List ByteArray) (c : Nat) (pl : Int) : Prop :=
  (12 < xs.length ∧ c = 2 ∧ pl = -1) ∨
  (¬ 12 < xs.length ∧ ∃ i, ∃ h : i < xs.length, (∀ j, j < i → ∀ hj : j < xs.length, Good xs j hj) ∧ pl = i ∧ ((Lh.isNm xs[i] = false ∧ c = 4) ∨ (Lh.isNm xs[i] = true ∧ Lh.mem xs[i] (xs.take i) = true ∧ c = 6))) ∨
  (¬ 12 < xs.length ∧ (∀ j, ∀ hj : j < xs.length, Good xs j hj) ∧ c = 0 ∧ pl = -1)

theorem fault_scan (xs : List ByteArray) : ∀ n, n ≤ xs.length → (∀ j, j < n → ∀ hj : j < xs.length, Good xs j hj) ∨ ∃ i, ∃ h : i < xs.length, (∀ j, j < i → ∀ hj : j < xs.length, Good xs j hj) ∧ ¬ Good xs i h
  | 0, _ => Or.inl fun j h => absurd h (by omega)
  | n + 1, hn => by
    rcases fault_scan xs n (by omega) with h | h
    · by_cases hg : Good xs n (by omega)
      · refine Or.inl fun j hj hl => ?_
        by_cases e : j = n
        · subst e; exact hg
        · exact h j (by omega) hl
      · exact Or.inr ⟨n, by omega, h, hg⟩
    · exact Or.inr h

theorem isFault_ex (xs : List ByteArray) : ∃ c pl, IsFault xs c pl := by
  by_cases h12 : 12 < xs.length
  · exact ⟨2, -1, Or.inl ⟨h12, rfl, rfl⟩⟩
  · rcases fault_scan xs xs.length (Nat.le_refl _) with h | ⟨i, hi, h, hg⟩
    · exact ⟨0, -1, Or.inr (Or.inr ⟨h12, fun j hj => h j hj hj, rfl, rfl⟩)⟩
    · cases hn : Lh.isNm xs[i] with
      | false => exact ⟨4, i, Or.inr (Or.inl ⟨h12, i, hi, h, rfl, Or.inl ⟨hn, rfl⟩⟩)⟩
      | true =>
        cases hm : Lh.mem xs[i] (xs.take i) with
        | true => exact ⟨6, i, Or.inr (Or.inl ⟨h12, i, hi, h, rfl, Or.inr ⟨hn, hm, rfl⟩⟩)⟩
        | false => exact absurd ⟨hn, hm⟩ hg

/- what the loops find -/
theorem fault_name {xs : List ByteArray} {c : Nat} {pl : Int} (hf : IsFault xs c pl) (h12 : ¬ 12 < xs.length) {k : Nat} (hk : k < xs.length) (hp : ∀ j, j < k → ∀ hj : j < xs.length, Good xs j hj) (hn : Lh.isNm xs[k] = false) : c = 4 ∧ pl = k := by
  rcases hf with ⟨h, _⟩ | ⟨_, i, hi, h, e, hc⟩ | ⟨_, h, _⟩
  · exact absurd h h12
  · have hik : i = k := by
      rcases Nat.lt_trichotomy i k with hlt | rfl | hgt
      · obtain ⟨g1, g2⟩ := hp i hlt hi
        rcases hc with ⟨hc, _⟩ | ⟨_, hc, _⟩
        · rw [g1] at hc; cases hc
        · rw [g2] at hc; cases hc
      · rfl
      · rw [(h k hgt hk).1] at hn; cases hn
    subst hik
    rcases hc with ⟨_, hc⟩ | ⟨hc, _⟩
    · exact ⟨hc, e⟩
    · rw [hn] at hc; cases hc
  · rw [(h k hk).1] at hn; cases hn
theorem fault_exist {xs : List ByteArray} {c : Nat} {pl : Int} (hf : IsFault xs c pl) (h12 : ¬ 12 < xs.length) {k : Nat} (hk : k < xs.length) (hp : ∀ j, j < k → ∀ hj : j < xs.length, Good xs j hj) (hn : Lh.isNm xs[k] = true) (hm : Lh.mem xs[k] (xs.take k) = true) : c = 6 ∧ pl = k := by
  rcases hf with ⟨h, _⟩ | ⟨_, i, hi, h, e, hc⟩ | ⟨_, h, _⟩
  · exact absurd h h12
  · have hik : i = k := by
      rcases Nat.lt_trichotomy i k with hlt | rfl | hgt
      · obtain ⟨g1, g2⟩ := hp i hlt hi
        rcases hc with ⟨hc, _⟩ | ⟨_, hc, _⟩
        · rw [g1] at hc; cases hc
        · rw [g2] at hc; cases hc
      · rfl
      · rw [(h k hgt hk).2] at hm; cases hm
    subst hik
    rcases hc with ⟨hc, _⟩ | ⟨_, _, hc⟩
    · rw [hn] at hc; cases hc
    · exact ⟨hc, e⟩
  · rw [(h k hk).2] at hm; cases hm
theorem fault_none {xs : List ByteArray} {c : Nat} {pl : Int} (hf : IsFault xs c pl) (h12 : ¬ 12 < xs.length) (hp : ∀ j, ∀ hj : j < xs.length, Good xs j hj) : c = 0 ∧ pl = -1 := by
  rcases hf with ⟨h, _⟩ | ⟨_, i, hi, h, e, hc⟩ | ⟨_, _, h⟩
  · exact absurd h h12
  · obtain ⟨g1, g2⟩ := hp i hi
    rcases hc with ⟨hc, _⟩ | ⟨_, hc, _⟩
    · rw [g1] at hc; cases hc
    · rw [g2] at hc; cases hc
  · exact h
theorem fault_long {xs : List ByteArray} {c : Nat} {pl : Int} (hf : IsFault xs c pl) (h12 : 12 < xs.length) : c = 2 ∧ pl = -1 := by
  rcases hf with ⟨_, h⟩ | ⟨h, _⟩ | ⟨h, _⟩
  · exact h
  · exact absurd h12 h
  · exact absurd h12 h

theorem strs_take {w : World} {b o c : Nat} {xs : List ByteArray} (hcap : xs.length ≤ c) (hx : ∀ k (h : k < xs.length), w.cell? ⟨b, o + k, none⟩ = some (.string xs[k])) (k : Nat) (hk : k ≤ xs.length) : Strs w (.slice (some ⟨b, o, none⟩) k c) (xs.take k) := by
  have hl : (xs.take k).length = k := by simp; omega
  refine Or.inr ⟨b, o, c, by rw [hl], by omega, fun j hj => ?_⟩
  rw [hx j (by omega)]
  simp

set_option maxHeartbeats 1000000 in
theorem check_zero (p : Option Addr) (cap : Nat) (w : World) :
    Calls Tryz.prog 137 #[.slice p 0 cap] w fun e w' => e = .returned .nilIface ∧ w' = w := by
  go_enter Tryz.func137, Tryz.ntmps137
  go_wp2
  refine wp_loop_rounds 1 ?_
  rw [rounds_succ]
  go_wp2
  go_ret
  exact ⟨rfl, rfl⟩

end Go.Proofs.YtfhmfjcpggddkaaGreatDoor

/- The model's small functions of texts: hex. -/
namespace Go.Proofs.YtfhmfjcpggddkaaGreatDoor
open Go.RowKit

namespace Lh
theorem bt_append (a b : List UInt8) : bt a ++ bt b = bt (a ++ b) := ByteArray.mk_append_mk a b
theorem bt_size (l : List UInt8) : (bt l).size = l.length := by simp [bt, ByteArray.size]
end Lh
end Go.Proofs.YtfhmfjcpggddkaaGreatDoor

/- The model's small functions of texts: Byte, Decimal. -/
namespace Go.Proofs.YtfhmfjcpggddkaaGreatDoor
open Go.RowKit

theorem fold_take {α β : Type} (f : α → β → α) (z : α) {s : List β} {i : Nat} (h : i < s.length) {b : β} (hb : s[i] = b) : (s.take (i + 1)).foldl f z = f ((s.take i).foldl f z) b := by
  subst hb
  rw [List.take_succ_eq_append_getElem h, List.foldl_append]
  rfl
theorem fold_range {α : Type} (f : α → Nat → α) (z : α) (k : Nat) : (List.range (k + 1)).foldl f z = f ((List.range k).foldl f z) k := by
  rw [List.range_succ, List.foldl_append]
  rfl
set_option maxRecDepth 100000 in
set_option maxHeartbeats 1000000 in
theorem byteM_any (n : Nat) (h : n < 256) (W : World) :
    Calls Tryz.prog 116 #[.int .i64 (n : Nat)] W fun e w' => e = .returned (.string (Lh.bt [UInt8.ofNat n])) ∧ Below W.heap.size W w' := by
  have hcv : (convert 143 9 (.slice (some ⟨W.heap.size, 0, none⟩) 1 1)).run Tryz.prog (W.alloc (.cells #[.int .u8 (n : Nat)] 5)) = .ok (.string (Lh.bt [UInt8.ofNat n])) (W.alloc (.cells #[.int .u8 (n : Nat)] 5)) := by
    rw [run_convert_bytes_string _ _ _ _ _ _ _ Tryz.underlying143 Tryz.underlying5 Tryz.underlying9, run_bytesToString _ ⟨W.heap.size, 0, none⟩ 1 1 [(n : Int)] (by go_simp)]
    congr 2
  go_enter Tryz.func116, Tryz.ntmps116
  go_wp2
  go_ret
  exact ⟨rfl, (Below.refl _ _).alloc (Nat.le_refl _) _⟩
end Go.Proofs.YtfhmfjcpggddkaaGreatDoor

/- The model's numbers of texts: numberOf, hexOf. -/
namespace Go.Proofs.YtfhmfjcpggddkaaGreatDoor
open Go.RowKit

namespace Lh
theorem fold_ten : ∀ (l : List UInt8) (a : Nat), l.all isDg = true → l.foldl (fun n c => 10 * n + (c.toNat - 48)) a < (a + 1) * 10 ^ l.length
  | [], a, _ => by simp
  | c :: l, a, h => by
    simp only [List.all_cons, Bool.and_eq_true] at h
    have hc : c.toNat ≤ 57 := by
      have := h.1
      simp [isDg] at this
      omega
    have := fold_ten l (10 * a + (c.toNat - 48)) h.2
    simp only [List.foldl_cons, List.length_cons]
    refine Nat.lt_of_lt_of_le this ?_
    rw [Nat.pow_succ, Nat.mul_comm (10 ^ l.length) 10, ← Nat.mul_assoc]
    exact Nat.mul_le_mul_right _ (by omega)
theorem valL_lt {l : List UInt8} (h : l.all isDg = true) : valL l < 10 ^ l.length := by
  have := fold_ten l 0 h
  simpa [valL] using this
end Lh
namespace Lh
end Lh
end Go.Proofs.YtfhmfjcpggddkaaGreatDoor

/- mix.Check once more, where only four of the package variables are known. -/
namespace Go.Proofs.YtfhmfjcpggddkaaGreatDoor
open Go.RowKit

/-- ErrBound, ErrName, ErrNone, ErrExist: each holds a pointer. -/
structure Errs4 (a : Nat → Addr) (w : World) : Prop where
  s1 : w.cell? ⟨0, 0, none⟩ = some (.iface 378 (.pointer (some (a 1))))
  s3 : w.cell? ⟨3, 0, none⟩ = some (.iface 378 (.pointer (some (a 3))))
  s4 : w.cell? ⟨4, 0, none⟩ = some (.iface 378 (.pointer (some (a 4))))
  s5 : w.cell? ⟨5, 0, none⟩ = some (.iface 378 (.pointer (some (a 5))))
theorem Errs4.later {a : Nat → Addr} {w w' : World} (h : Errs4 a w) (hb : Below w.heap.size w w') : Errs4 a w' := ⟨below_cell hb h.s1, below_cell hb h.s3, below_cell hb h.s4, below_cell hb h.s5⟩
theorem Errs.four {a : Nat → Addr} {w : World} (h : Errs a w) : Errs4 a w := ⟨h.s1, h.s3, h.s4, h.s5⟩

set_option maxHeartbeats 2000000 in
theorem check_core4 (a : Nat → Addr) (b o cap : Nat) (xs : List ByteArray) (w : World) (c : Nat) (pl : Int) (he : Errs4 a w) (hcap : xs.length ≤ cap) (hx : ∀ k (h : k < xs.length), w.cell? ⟨b, o + k, none⟩ = some (.string xs[k]))
    (hf : IsFault xs c pl) (h12 : ¬ 12 < xs.length) (hs : ∀ k (h : k < xs.length), (xs[k]).size ≤ 1000000) :
    Calls Tryz.prog 137 #[.slice (some ⟨b, o, none⟩) xs.length cap] w fun e w' => ∃ ev, e = .returned ev ∧ ErrIs a w' c pl ev ∧ Below w.heap.size w w' := by
  have HX : Hid _ := hx
  have HF : Hid _ := hf
  have HS : Hid _ := hs
  have e12 : decide (12 < (xs.length : Int)) = false := by simp; omega
  have s3 := he.s3
  have s5 := he.s5
  clear hx hf hs
  go_enter Tryz.func137, Tryz.ntmps137
  go_wp2
  go_loopw [11] (fun t W => W = w ∧ ∃ k : Nat, k ≤ xs.length ∧ t = .int .i64 k ∧ ∀ j, j < k → ∀ hj : j < xs.length, Good xs j hj) (fun t _ => xs.length - (intOf t).toNat)
  case atStart => exact ⟨rfl, 0, Nat.zero_le _, rfl, fun j h => absurd h (by omega)⟩
  case round =>
    obtain ⟨rfl, k, hk, rfl, hpre⟩ := hrel
    have HP : Hid _ := hpre
    clear hpre
    by_cases hlt : k < xs.length
    · have cx := HX.out k hlt
      have hsz := HS.out k hlt
      cases hn : Lh.isNm xs[k] with
      | false =>
        have HC : Hid _ := fault_name HF.out h12 hlt HP.out hn
        have HN : Hid _ := hn
        clear hn
        go_wp2_with fail
        refine (isName_any _ _ hsz).mono ?_
        rintro e w1 ⟨rfl, rfl⟩
        rw [HN.out]
        go_wp2
        go_ret
        refine ⟨_, rfl, Or.inr ⟨3, by decide, HC.out.1, Or.inr ⟨w1.heap.size, rfl, by rw [HC.out.2]; simp, by simp⟩⟩, (Below.refl _ _).alloc (Nat.le_refl _) _⟩
      | true =>
        have HN : Hid _ := hn
        have hst := strs_take hcap HX.out k hk
        have HST : Hid _ := hst
        clear hst
        cases hme : Lh.mem xs[k] (xs.take k) with
        | true =>
          have HC : Hid _ := fault_exist HF.out h12 hlt HP.out hn hme
          have HM : Hid _ := hme
          clear hn hme
          go_wp2_with fail
          refine (isName_any _ _ hsz).mono ?_
          rintro e w1 ⟨rfl, rfl⟩
          rw [HN.out]
          go_wp2_with fail
          refine (contains_any _ (xs.take k) _ _ HST.out (by simp; omega)).mono ?_
          rintro e w2 ⟨rfl, rfl⟩
          rw [HM.out]
          go_wp2
          go_ret
          refine ⟨_, rfl, Or.inr ⟨5, by decide, HC.out.1, Or.inr ⟨w2.heap.size, rfl, by rw [HC.out.2]; simp, by simp⟩⟩, (Below.refl _ _).alloc (Nat.le_refl _) _⟩
        | false =>
          have HM : Hid _ := hme
          clear hn hme
          go_wp2_with fail
          refine (isName_any _ _ hsz).mono ?_
          rintro e w1 ⟨rfl, rfl⟩
          rw [HN.out]
          go_wp2_with fail
          refine (contains_any _ (xs.take k) _ _ HST.out (by simp; omega)).mono ?_
          rintro e w2 ⟨rfl, rfl⟩
          rw [HM.out]
          go_wp2
          refine ⟨⟨by trivial, k + 1, by omega, by go_num, fun j hj hl => ?_⟩, by simp [intOf]; omega⟩
          by_cases e : j = k
          · subst e; exact ⟨HN.out, HM.out⟩
          · exact HP.out j (by omega) hl
    · have HC : Hid _ := fault_none HF.out h12 (fun j hj => HP.out j (by omega) hj)
      go_wp2
      go_ret
      refine ⟨_, rfl, Or.inl ⟨HC.out.1, HC.out.2, rfl⟩, Below.refl _ _⟩

set_option maxHeartbeats 1000000 in
theorem check_long4 (a : Nat → Addr) (p : Option Addr) (n cap : Nat) (w : World) (he : Errs4 a w) (h12 : 12 < n) (_hm : n < 1000000) :
    Calls Tryz.prog 137 #[.slice p n cap] w fun e w' => e = .returned (.iface 378 (.pointer (some (a 1)))) ∧ w' = w := by
  have e12 : decide (12 < (n : Int)) = true := by simp; omega
  have s1 := he.s1
  go_enter Tryz.func137, Tryz.ntmps137
  go_wp2
  go_ret
  exact ⟨rfl, rfl⟩

/-- mix.Check of any list of texts. -/
theorem check_any4 (a : Nat → Addr) (v : Value) (xs : List ByteArray) (w : World) (c : Nat) (pl : Int) (he : Errs4 a w) (hv : Strs w v xs) (hf : IsFault xs c pl) (hs : ∀ k (h : k < xs.length), (xs[k]).size ≤ 1000000) (hm : xs.length < 1000000) :
    Calls Tryz.prog 137 #[v] w fun e w' => ∃ ev, e = .returned ev ∧ ErrIs a w' c pl ev ∧ Below w.heap.size w w' := by
  by_cases h12 : 12 < xs.length
  · obtain ⟨rfl, rfl⟩ := fault_long hf h12
    obtain ⟨p, cap, rfl⟩ := hv.slice
    exact (check_long4 a p _ cap w he h12 hm).mono fun e w' ⟨h1, h2⟩ => ⟨_, h1, Or.inr ⟨1, by decide, rfl, Or.inl ⟨rfl, rfl⟩⟩, by rw [h2]; exact Below.refl _ _⟩
  · rcases hv with ⟨rfl, p, cap, rfl⟩ | ⟨b, o, cap, rfl, hcap, hx⟩
    · obtain ⟨rfl, rfl⟩ := fault_none hf h12 (fun j hj => absurd hj (by simp))
      exact (check_zero p cap w).mono fun e w' ⟨h1, h2⟩ => ⟨_, h1, Or.inl ⟨rfl, rfl, rfl⟩, by rw [h2]; exact Below.refl _ _⟩
    · exact check_core4 a b o cap xs w c pl he hcap hx hf h12 hs
end Go.Proofs.YtfhmfjcpggddkaaGreatDoor
