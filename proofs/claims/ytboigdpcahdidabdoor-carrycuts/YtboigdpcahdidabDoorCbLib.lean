/- What the landed carry asks of the package variables, and what the library's functions do there: words joined, a text parted, a zero many times, numbers read and written. -/
import Derived.Test.YtboigdpcahdidabDoorCaSh
import Derived.Test.YtboigdpcahdidabDoorCbNum
import Derived.Test.YtboigdpcahdidabDoorHxM
import Derived.Test.YtboigdpcahdidabDoorNuM
import Derived.Lib.AppendIntMem
import Derived.Lib.AtoiErrMem
namespace Go.Proofs.YtboigdpcahdidabDoor
open Go.RowKit

theorem heap_newC (w : World) (o : Obj) : (w.alloc o).heap[w.heap.size]? = some o := by
  unfold World.alloc
  simp
structure EC (a : Nat → Addr) (W : World) : Prop where
  s0 : W.cell? ⟨3, 0, none⟩ = some (.iface 319 (.pointer (some (a 0))))
  s1 : W.cell? ⟨0, 0, none⟩ = some (.iface 319 (.pointer (some (a 1))))
  s3 : W.cell? ⟨2, 0, none⟩ = some (.iface 319 (.pointer (some (a 3))))
  s5 : W.cell? ⟨6, 0, none⟩ = some (.iface 319 (.pointer (some (a 5))))
  s8 : W.cell? ⟨4, 0, none⟩ = some (.iface 319 (.pointer (some (a 8))))
  syn : ∃ te pe, W.cell? ⟨12, 0, none⟩ = some (.iface te pe)
  rng : ∃ te pe, W.cell? ⟨13, 0, none⟩ = some (.iface te pe)
  tab : Lib.TabIs Tryd.prog W "internal/strconv.uint64pow10" .u64 Lib.pow10Tab
  brj : W.cell? ⟨15, 15, none⟩ = some (.int .u8 4)
  mln : ∃ m, W.cell? ⟨11, 0, none⟩ = some (.int .i64 m)
theorem EC.later {a : Nat → Addr} {W W' : World} (h : EC a W) (hb : Below W.heap.size W W') : EC a W' where
  s0 := below_cell hb h.s0
  s1 := below_cell hb h.s1
  s3 := below_cell hb h.s3
  s5 := below_cell hb h.s5
  s8 := below_cell hb h.s8
  syn := let ⟨te, pe, e⟩ := h.syn; ⟨te, pe, below_cell hb e⟩
  rng := let ⟨te, pe, e⟩ := h.rng; ⟨te, pe, below_cell hb e⟩
  tab := Lib.tabBelow_of_tabIs h.tab W' hb
  brj := below_cell hb h.brj
  mln := let ⟨m, e⟩ := h.mln; ⟨m, below_cell hb e⟩

theorem join3_any (b c : Nat) (x y z : List UInt8) (w : World) (h0 : w.cell? ⟨b, 0, none⟩ = some (.string (Lh.bt x))) (h1 : w.cell? ⟨b, 1, none⟩ = some (.string (Lh.bt y))) (h2 : w.cell? ⟨b, 2, none⟩ = some (.string (Lh.bt z))) (hb : b < w.heap.size) (hc : 3 ≤ c) (hl : (Lh.joinL 32 [x, y, z]).length ≤ 1000000) :
    Calls Tryd.prog 143 #[.slice (some ⟨b, 0, none⟩) 3 c, .string (Lh.bt [32])] w fun e w' => e = .returned (.string (Lh.bt (Lh.joinL 32 [x, y, z]))) ∧ Below w.heap.size w w' := by
  have e : Lib.join ([Lh.bt x, Lh.bt y, Lh.bt z].map (·.data.toList)) (Lh.bt [32]).data.toList = Lh.joinL 32 [x, y, z] := Lh.join_three x y z
  have h := Any.strings_Join lays156 Builder_Extra_156 b 0 c [Lh.bt x, Lh.bt y, Lh.bt z] (Lh.bt [32]) w (fun j s hj => by
    match j, hj with
    | 0, hj => cases hj; exact h0
    | 1, hj => cases hj; exact h1
    | 2, hj => cases hj; exact h2) hb (by simp) hc (by rw [e]; omega)
  rw [e] at h
  exact h
theorem join2_any (b c : Nat) (x y : List UInt8) (w : World) (h0 : w.cell? ⟨b, 0, none⟩ = some (.string (Lh.bt x))) (h1 : w.cell? ⟨b, 1, none⟩ = some (.string (Lh.bt y))) (hb : b < w.heap.size) (hc : 2 ≤ c) (hl : (Lh.joinL 32 [x, y]).length ≤ 1000000) :
    Calls Tryd.prog 143 #[.slice (some ⟨b, 0, none⟩) 2 c, .string (Lh.bt [32])] w fun e w' => e = .returned (.string (Lh.bt (Lh.joinL 32 [x, y]))) ∧ Below w.heap.size w w' := by
  have e : Lib.join ([Lh.bt x, Lh.bt y].map (·.data.toList)) (Lh.bt [32]).data.toList = Lh.joinL 32 [x, y] := Lh.join_two x y
  have h := Any.strings_Join lays156 Builder_Extra_156 b 0 c [Lh.bt x, Lh.bt y] (Lh.bt [32]) w (fun j s hj => by
    match j, hj with
    | 0, hj => cases hj; exact h0
    | 1, hj => cases hj; exact h1) hb (by simp) hc (by rw [e]; omega)
  rw [e] at h
  exact h
theorem itoa_any {a : Nat → Addr} (n : Nat) (hn : n ≤ 9223372036854775807) (w : World) (he : EC a w) :
    Calls Tryd.prog 106 #[.int .i64 (n : Nat)] w fun e w' => e = .returned (.string (Lh.bt (Lh.decL n))) ∧ Below w.heap.size w w' := by
  refine (Any.strconv_Itoa laysM171 (n : Int) (by omega) (by omega) w he.tab).mono ?_
  rintro e w' ⟨rfl, k, os, rfl⟩
  exact ⟨by rw [Lh.itoa_dec]; rfl, Lib.below_grow _ w (Nat.le_refl _) k os⟩
theorem atoi_any {a : Nat → Addr} (s : List UInt8) (hs : s.length ≤ 100000) (w : World) (he : EC a w) :
    Calls Tryd.prog 220 #[.string (Lh.bt s)] w fun e w' => Below w.heap.size w w' ∧ ((∃ v, Lib.atoiAll s = .ok v ∧ e = .returned (.tuple #[.int .i64 v, .nilIface])) ∨ ((∀ v, Lib.atoiAll s ≠ .ok v) ∧ ∃ x t p, e = .returned (.tuple #[.int .i64 x, .iface t p]))) := by
  have hsz : (Lh.bt s).size = s.length := by simp [Lh.bt, ByteArray.size]
  cases h : Lib.atoiAll s with
  | ok v =>
    refine (Any.strconv_Atoi_ok laysC172 (Lh.bt s) (by omega) v h w).mono ?_
    rintro e w' ⟨rfl, rfl | ⟨t, rfl⟩⟩
    · exact ⟨Below.refl _ _, Or.inl ⟨v, rfl, rfl⟩⟩
    · exact ⟨Lib.bytesWorld_below w _ t, Or.inl ⟨v, rfl, rfl⟩⟩
  | «syntax» =>
    obtain ⟨te, pe, hv⟩ := he.syn
    refine (Any.strconv_Atoi_syntax laysC172 (Lh.bt s) (by omega) h _ w hv (Or.inr ⟨te, pe, rfl⟩)).mono ?_
    rintro e w' ⟨N, rfl, _, _, hb⟩
    exact ⟨hb, Or.inr ⟨fun v e => (by cases e), _, _, _, rfl⟩⟩
  | range =>
    obtain ⟨te, pe, hv⟩ := he.rng
    refine (Any.strconv_Atoi_range laysC172 (Lh.bt s) (by omega) h _ w hv (Or.inr ⟨te, pe, rfl⟩)).mono ?_
    rintro e w' ⟨N, rfl, _, _, hb⟩
    exact ⟨hb, Or.inr ⟨fun v e => (by cases e), _, _, _, rfl⟩⟩
theorem split_any {a : Nat → Addr} (s : List UInt8) (y : UInt8) (hs : s.length ≤ 100000) (w : World) (he : EC a w) :
    Calls Tryd.prog 151 #[.string (Lh.bt s), .string (Lh.bt [y])] w fun e w' => e = .returned (.slice (some ⟨w.heap.size, 0, none⟩) (Lh.cutL y s).length (Lh.cutL y s).length) ∧ Below w.heap.size w w' ∧ w.heap.size < w'.heap.size ∧
      ∀ j (hj : j < (Lh.cutL y s).length), w'.cell? ⟨w.heap.size, j, none⟩ = some (.string (Lh.bt (Lh.cutL y s)[j])) := by
  have hsz : (Lh.bt s).size = s.length := by simp [Lh.bt, ByteArray.size]
  obtain ⟨m, hm⟩ := he.mln
  refine (Any.strings_Split lays146 (by kernel_rfl) (Lh.bt s) (Lh.bt [y]) m w (by omega) hm (Nat.le_refl 1)).mono ?_
  rintro e w' ⟨rfl, rfl⟩
  rw [Lh.splitB_cut, Lh.count_cut]
  refine ⟨rfl, (Below.refl _ _).alloc (Nat.le_refl _) _, by simp, fun j hj => ?_⟩
  rw [Lib.cell_of_heap (heap_newC w _)]
  simp [hj]
theorem repeat_any (c : Nat) (hc : c ≤ 1000) (w : World) :
    Calls Tryd.prog 147 #[.string (Lh.bt [48]), .int .i64 (c : Nat)] w fun e w' => e = .returned (.string (Lh.bt (List.replicate c 48))) ∧ Below w.heap.size w w' := by
  refine (Any.strings_Repeat lays105 Builder_Extra_105 (Lh.bt [48]) c w (by omega) (by
    have : (Lh.bt [48]).size = 1 := rfl
    rw [this]
    omega)).mono ?_
  rintro e w' ⟨rfl, hb⟩
  refine ⟨?_, hb⟩
  rw [← Lh.repeat_zero]
  rfl
theorem cutPre_any (s p : List UInt8) (w : World) :
    Calls Tryd.prog 148 #[.string (Lh.bt s), .string (Lh.bt p)] w fun e w' => e = .returned (.tuple #[.string (Lh.bt (if p.isPrefixOf s then s.drop p.length else s)), .bool (p.isPrefixOf s)]) ∧ w' = w := Any.strings_CutPrefix lays103 (Lh.bt s) (Lh.bt p) w
theorem cutSuf_any (s p : List UInt8) (hs : s.length ≤ 100000) (w : World) :
    Calls Tryd.prog 149 #[.string (Lh.bt s), .string (Lh.bt p)] w fun e w' => e = .returned (.tuple #[.string (Lh.bt (if p.isSuffixOf s then s.take (s.length - p.length) else s)), .bool (p.isSuffixOf s)]) ∧ w' = w :=
  Any.strings_CutSuffix lays104 (Lh.bt s) (Lh.bt p) w (by
    have hsz : (Lh.bt s).size = s.length := by simp [Lh.bt, ByteArray.size]
    omega)
theorem toErr_any {a : Nat → Addr} (fn s : ByteArray) (hs : s.size ≤ 100000) (p q : Int) (w : World) (he : EC a w) :
    Calls Tryd.prog 216 #[.string fn, .string s, .int .i64 p, .int .i64 q, .iface 304 (.int .i64 2)] w fun e w' => (∃ t p, e = .returned (.iface t p)) ∧ Below w.heap.size w w' := by
  obtain ⟨te, pe, hv⟩ := he.syn
  refine (Any.strconv_toError_syntax laysC245 fn s p q _ w (by omega) hv (Or.inr ⟨te, pe, rfl⟩)).mono ?_
  rintro e w' ⟨N, rfl, _, _, hb⟩
  exact ⟨⟨_, _, rfl⟩, hb⟩
end Go.Proofs.YtboigdpcahdidabDoor
