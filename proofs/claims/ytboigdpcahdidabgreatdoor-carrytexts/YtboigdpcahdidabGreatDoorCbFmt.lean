/- strconv.FormatUint at base 16: a number's digits, as few as there are. -/
import Derived.Test.YtboigdpcahdidabGreatDoorHxM
import Derived.Test.YtboigdpcahdidabGreatDoorLiM
import Derived.Test.YtboigdpcahdidabGreatDoorCbLib
import Derived.Laws.BytesString
import Derived.Lib.Builder
import Derived.Shelf.Strings.BuilderK
namespace Go.Proofs.YtboigdpcahdidabGreatDoor
open Go.RowKit
set_option maxRecDepth 100000 in
set_option maxHeartbeats 2000000 in
theorem tz16 (w : World) (h : w.cell? ⟨15, 15, none⟩ = some (.int .u8 4)) :
    Calls Tryz.prog 158 #[.int .u64 16] w fun e w' => e = .returned (.int .i64 4) ∧ w' = w := by
  have e1 : IntKind.u64.wrap (-16) = 18446744073709551600 := by decide
  have e2 : bits .and .u64 16 18446744073709551600 = 16 := by decide
  have e3 : IntKind.u64.wrap 4573923408821661840 = 4573923408821661840 := by decide
  go_enter Tryz.func158, Tryz.ntmps158
  go_wp2
  go_ret
  exact ⟨rfl, rfl⟩
theorem push_fold : ∀ (l p : List UInt8), (l.map fun c => (c.toNat : Int)).foldl (fun r n => r.push (UInt8.ofNat n.toNat)) (Lh.bt p) = Lh.bt (p ++ l)
  | [], p => by simp
  | c :: l, p => by
    show (l.map fun c => (c.toNat : Int)).foldl _ ((Lh.bt p).push (UInt8.ofNat ((c.toNat : Int)).toNat)) = _
    have e : (Lh.bt p).push (UInt8.ofNat ((c.toNat : Int)).toNat) = Lh.bt (p ++ [c]) := by
      rw [Int.toNat_natCast, UInt8.ofNat_toNat]
      simp [Lh.bt, ByteArray.push]
    rw [e, push_fold l (p ++ [c])]
    simp
theorem addC (b o j : Nat) : (⟨b, o, none⟩ : Addr).add j = ⟨b, o + j, none⟩ := by unfold Addr.add; split <;> simp_all
/-- bytes in memory as a text -/
theorem conv_bytes (w : World) (b o cap : Nat) (l : List UInt8) (h : ∀ j (hj : j < l.length), w.cell? ⟨b, o + j, none⟩ = some (.int .u8 (l[j].toNat : Nat))) :
    (convert 102 9 (.slice (some ⟨b, o, none⟩) l.length cap)).run Tryz.prog w = .ok (.string (Lh.bt l)) w := by
  have hl := run_loadCells_list (P := Tryz.prog) w ⟨b, o, none⟩ ((l.map fun c => (c.toNat : Int)).map (Value.int .u8)) (fun j v hv => by
    rw [List.getElem?_map, List.getElem?_map] at hv
    have hj : j < l.length := by
      rcases Nat.lt_or_ge j l.length with h' | h'
      · exact h'
      · rw [List.getElem?_eq_none h'] at hv; cases hv
    rw [List.getElem?_eq_getElem hj] at hv
    cases hv
    rw [addC]
    exact h j hj)
  simp only [List.length_map] at hl
  rw [run_convert_bytes_string _ _ _ _ _ _ _ Tryz.underlying102 Tryz.underlying5 Tryz.underlying9, run_bytesToString _ ⟨b, o, none⟩ l.length cap (l.map fun c => (c.toNat : Int)) hl]
  have e := push_fold l []
  rw [List.nil_append] at e
  rw [← e]
  rfl
/-- a number's digits, laid from the end -/
structure Fb (w W : World) (k : Nat) (l : List UInt8) : Prop where
  below : Below w.heap.size w W
  heap : ∃ cs, W.heap[w.heap.size]? = some (.cells cs 222 (0, 0)) ∧ cs.size = 65
  len : l.length = k
  cell : ∀ j (hj : j < l.length), W.cell? ⟨w.heap.size, 65 - k + j, none⟩ = some (.int .u8 (l[j].toNat : Nat))
abbrev dg36 : ByteArray := ⟨#[48, 49, 50, 51, 52, 53, 54, 55, 56, 57, 97, 98, 99, 100, 101, 102, 103, 104, 105, 106, 107, 108, 109, 110, 111, 112, 113, 114, 115, 116, 117, 118, 119, 120, 121, 122]⟩
theorem dg36_at : ∀ d : Fin 16, (dg36[d.1]'(Nat.lt_of_lt_of_le d.2 (by decide))) = Lh.hxU d.1 := by decide
theorem Fb.put {w W : World} {k : Nat} {l : List UInt8} (h : Fb w W k l) (hk : k ≤ 15) (c : UInt8) : Fb w (W.setCell ⟨w.heap.size, 65 - k - 1, none⟩ (.int .u8 (c.toNat : Nat))) (k + 1) (c :: l) := by
  obtain ⟨cs, hh, hs⟩ := h.heap
  have hold : W.cell? ⟨w.heap.size, 65 - k - 1, none⟩ = some (cs[65 - k - 1]'(by omega)) := by
    rw [Lib.cell_of_heap hh]
    exact Array.getElem?_eq_getElem (by omega)
  refine ⟨h.below.setCell (p := ⟨w.heap.size, 65 - k - 1, none⟩) (Nat.le_refl _) _, ?_, by simp [h.len], fun j hj => ?_⟩
  · refine ⟨cs.setIfInBounds (65 - k - 1) (.int .u8 (c.toNat : Nat)), ?_, by simp [hs]⟩
    simp [World.setCell, Array.getElem?_modify, hh]
  · match j, hj with
    | 0, _ =>
      rw [show 65 - (k + 1) + 0 = 65 - k - 1 by omega]
      exact World.cell?_setCell_same _ _ _ hold
    | j + 1, hj =>
      have hj' : j < l.length := by simpa using hj
      rw [show 65 - (k + 1) + (j + 1) = 65 - k + j by omega, World.cell?_setCell_other _ _ _ _ (by
        intro e
        have := congrArg Addr.off e
        simp only at this
        omega)]
      exact h.cell j hj'
theorem u64_of (a : Nat) (h : a < 18446744073709551616) : (BitVec.ofInt 64 (a : Int)).toNat = a := by
  rw [BitVec.ofInt_natCast, BitVec.toNat_ofNat]; exact Nat.mod_eq_of_lt (by omega)
theorem and15 (a : Nat) (h : a < 18446744073709551616) : bits .and .u64 (a : Int) 15 = ((a % 16 : Nat) : Int) := by
  show IntKind.u64.wrap ((BitVec.ofInt 64 (a : Int) &&& BitVec.ofInt 64 ((15 : Nat) : Int)).toNat : Int) = _
  rw [BitVec.toNat_and, u64_of a h, u64_of 15 (by decide), IntKind.wrap_u64, show (15 : Nat) = 2 ^ 4 - 1 by rfl, Nat.and_two_pow_sub_one_eq_mod]
  omega
set_option maxRecDepth 100000 in
set_option maxHeartbeats 2000000 in
theorem fbits_any (n : Nat) (hn : n < 18446744073709551616) (w : World) (h : w.cell? ⟨15, 15, none⟩ = some (.int .u8 4)) :
    Calls Tryz.prog 142 #[.slice none 0 0, .int .u64 (n : Nat), .int .i64 16, .bool false, .bool false] w fun e w' => e = .returned (.tuple #[.slice none 0 0, .string (Lh.bt (Lh.hexD n))]) ∧ Below w.heap.size w w' := by
  have hb8 : bits .and .i64 16 15 = 0 := by decide
  go_enter Tryz.func142, Tryz.ntmps142
  go_wp2_with (first | (go_at_call 157; go_in))
  refine (tz16 _ ?_).mono ?_
  · exact below_cell ((Below.refl _ _).alloc (Nat.le_refl _) _) h
  rintro e w1 ⟨rfl, rfl⟩
  clear hb8 h
  go_wp2_with fail
  go_loopw [1, 13] (fun u1 u13 W => ∃ v k l, Fb w W k l ∧ Hid (Lh.hexD n = Lh.hexD v ++ l) ∧ v < 18446744073709551616 ∧ u1 = .int .u64 (v : Nat) ∧ u13 = .int .i64 ((65 - k : Nat) : Int)) (fun u1 _ _ => (intOf u1).toNat)
  case atStart => exact ⟨n, 0, [], ⟨(Below.refl _ _).alloc (Nat.le_refl _) _, ⟨_, heap_newC w _, rfl⟩, rfl, fun j hj => absurd hj (by simp)⟩, Lib.hid (by simp), hn, rfl, rfl⟩
  case round =>
    obtain ⟨v, k, l, hF, HQ, hv, rfl, rfl⟩ := hrel
    have hk : k ≤ 15 := by
      have h1 := (Lh.hexD_fill 15 n hn).1
      rw [HQ.out, List.length_append, hF.len] at h1
      have := Lh.hexD_pos v
      omega
    obtain ⟨cs, hcs, hcz⟩ := hF.heap
    have hcell : ∃ u, wr.cell? ⟨w.heap.size, 65 - k - 1, none⟩ = some u := by
      rw [Lib.cell_of_heap hcs]
      exact ⟨_, Array.getElem?_eq_getElem (by omega)⟩
    obtain ⟨u0, hcell⟩ := hcell
    have hfz : wr.frozen? ⟨w.heap.size, 65 - k - 1, none⟩ = false := Lib.frozen_of_heap hcs _
    have HF : Hid (Fb w wr k l) := hF
    clear hF hcs hcz
    have hi1 : ((65 - k : Nat) : Int) - 1 = ((65 - k - 1 : Nat) : Int) := by omega
    by_cases h16 : 16 ≤ v
    · have hvi : (16 : Int) ≤ (v : Int) := by omega
      have ha := and15 v hv
      have HV : Hid (Lh.hexD n = Lh.hexD (v / 16) ++ (Lh.hxU (v % 16) :: l)) := by
        have e1 := HQ.out
        rw [Lh.hexD_big (n := v) (by omega)] at e1
        have e2 : Lh.hexD n = Lh.hexD (v / 16) ++ (Lh.hxU (v % 16) :: l) := by rw [e1]; simp
        exact e2
      go_wp2
      refine ⟨⟨v / 16, k + 1, Lh.hxU (v % 16) :: l, ?_, HV, by omega, rfl, by congr 1⟩, by simp [intOf]; omega⟩
      have e3 := HF.out.put hk (Lh.hxU (v % 16))
      have e4 := dg36_at ⟨v % 16, Nat.mod_lt _ (by decide)⟩
      rw [← e4] at e3 ⊢
      exact e3
    · have hvi : decide ((16 : Int) ≤ (v : Int)) = false := by simp; omega
      have HV : Hid (Lh.hexD n = Lh.hxU v :: l) := by
        have e1 := HQ.out
        rw [Lh.hexD_small (n := v) (by omega)] at e1
        exact e1
      have e4 : (dg36[v]'(Nat.lt_of_lt_of_le (show v < 16 by omega) (by decide))) = Lh.hxU v := dg36_at ⟨v, by omega⟩
      have hfin := HF.out.put hk (Lh.hxU v)
      rw [← e4] at hfin
      have hlen := hfin.len
      have hcv := conv_bytes _ w.heap.size (65 - k - 1) (k + 1) (dg36[v]'(Nat.lt_of_lt_of_le (show v < 16 by omega) (by decide)) :: l) (fun j hj => by
        have := hfin.cell j hj
        rw [show 65 - (k + 1) = 65 - k - 1 by omega] at this
        exact this)
      have HFB : Hid (Below w.heap.size w (wr.setCell ⟨w.heap.size, 65 - k - 1, none⟩ (.int .u8 ((dg36[v]'(Nat.lt_of_lt_of_le (show v < 16 by omega) (by decide))).toNat : Nat)))) := hfin.below
      have hr : Lh.bt (dg36[v]'(Nat.lt_of_lt_of_le (show v < 16 by omega) (by decide)) :: l) = Lh.bt (Lh.hexD n) := by rw [e4, HV.out]
      rw [hlen, hr] at hcv
      have hsl : ∀ W, (Instr.sliceAt 222 (.pointer (some ⟨w.heap.size, 0, none⟩)) (some (.int .i64 ((65 - k - 1 : Nat) : Int))) none none).run Tryz.prog W = .ok (.slice (some ⟨w.heap.size, 65 - k - 1, none⟩) (k + 1) (k + 1)) W := by
        intro W
        have hal : Tryz.prog.arrayLen 222 = 65 := by kernel_rfl
        have hel : Tryz.prog.elem 222 = 5 := by kernel_rfl
        rw [run_sliceAt_array_l W 222 ⟨w.heap.size, 0, none⟩ (by kernel_rfl) .i64 _ (by omega) (by rw [hal]; omega), hal, hel, Tryz.sizeOf5]
        simp only [Result.andThen, slicedAt, Int.toNat_natCast, Nat.mul_one]
        rw [if_neg (by omega), show 65 - (65 - k - 1) = k + 1 by omega]
        rw [addC, Nat.zero_add]
      clear hfin hlen e4 hr
      go_wp2
      go_ret2
      exact ⟨rfl, HFB.out⟩
end Go.Proofs.YtboigdpcahdidabGreatDoor
