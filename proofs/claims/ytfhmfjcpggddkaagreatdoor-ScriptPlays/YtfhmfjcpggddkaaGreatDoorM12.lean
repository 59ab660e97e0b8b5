/- The landed script: words taken, each of its kind. -/
import Derived.Test.YtfhmfjcpggddkaaGreatDoorM10
import Derived.Test.YtfhmfjcpggddkaaGreatDoorM4
import Derived.Test.YtfhmfjcpggddkaaGreatDoorM5
import Derived.Test.YtfhmfjcpggddkaaGreatDoorM11
import Derived.Deep.AppendLies
import Derived.Test.YtfhmfjcpggddkaaGreatDoorM7
namespace Go.Proofs.YtfhmfjcpggddkaaGreatDoor
open Go.RowKit Lh

/-- words taken so far, in memory: block wb is the struct -/
structure WS (W : World) (wb : Nat) (vn vh : Value) (N : List Nat) (H : List ByteArray) : Prop where
  c0 : W.cell? ⟨wb, 0, none⟩ = some vn
  c1 : W.cell? ⟨wb, 1, none⟩ = some vh
  fz : ∀ k, W.frozen? ⟨wb, k, none⟩ = false
  on : W.ownsRow (wb + 1) 3 1 vn N.length (N.map fun n => .int .i64 (n : Nat))
  oh : W.ownsRow (wb + 1) 9 1 vh H.length (H.map Value.string)
  ap : ∀ g, vn.ownBlock = some g → vh.ownBlock = some g → False
section
variable {W W2 w1 : World} {wb : Nat} {vn vh : Value} {N : List Nat} {H : List ByteArray}
theorem WS.lt (h : WS W wb vn vh N H) : wb < W.heap.size := World.block_lt_of_cell? W _ h.c0
theorem WS.later {W' : World} (h : WS W wb vn vh N H) (hb : Below W.heap.size W W') : WS W' wb vn vh N H :=
  ⟨below_cell hb h.c0, below_cell hb h.c1, fun k => (World.frozen?_of_block (w := W) (w' := W') (a := ⟨wb, k, none⟩) (hb.block wb h.lt)).trans (h.fz k), ownsRow_below h.on hb, ownsRow_below h.oh hb, h.ap⟩
/-- a host more -/
theorem WS.host (h : WS W wb vn vh N H) (s : ByteArray) (hB : Below W.heap.size W W2) {g cap : Nat}
    (hown : w1.ownsRow (wb + 1) 9 1 (.slice (some ⟨g, 0, none⟩) (H.length + 1) cap) (H.length + 1) (H.map Value.string ++ [.string s])) (hgr : W2.grownBy w1 vh.ownBlock) (hat : vh.ownBlock = some g ∨ g = W2.heap.size) :
    WS (w1.setCell ⟨wb, 1, none⟩ (.slice (some ⟨g, 0, none⟩) (H.length + 1) cap)) wb vn (.slice (some ⟨g, 0, none⟩) (H.length + 1) cap) N (H ++ [s]) ∧ Below wb W (w1.setCell ⟨wb, 1, none⟩ (.slice (some ⟨g, 0, none⟩) (H.length + 1) cap)) := by
  have hl := h.lt
  have hs2 := hB.size
  have hnw : ∀ k, k ≤ wb → some k ≠ vh.ownBlock := fun k hk e => by
    have := (h.oh.lt k e.symm).1
    omega
  have hpb : w1.heap[wb]? = W.heap[wb]? := (hgr.block wb (by omega) (hnw wb (Nat.le_refl _))).trans (hB.block wb hl)
  have hon2 := ownsRow_below h.on hB
  have hon1 : w1.ownsRow (wb + 1) 3 1 vn N.length (N.map fun n => .int .i64 (n : Nat)) := hon2.kept hgr (by
    cases hq : vn.ownBlock with
    | none => exact Or.inl rfl
    | some k => exact Or.inr fun e => h.ap k hq e.symm)
  have k0 : w1.cell? ⟨wb, 0, none⟩ = some vn := (World.cell?_of_block (w := W) (w' := w1) (a := ⟨wb, 0, none⟩) hpb).trans h.c0
  have k1 : w1.cell? ⟨wb, 1, none⟩ = some vh := (World.cell?_of_block (w := W) (w' := w1) (a := ⟨wb, 1, none⟩) hpb).trans h.c1
  have hsz : w1.heap.size = (w1.setCell ⟨wb, 1, none⟩ (.slice (some ⟨g, 0, none⟩) (H.length + 1) cap)).heap.size := by simp [World.setCell]
  refine ⟨⟨?_, ?_, fun k => ?_, howns_setCell hon1 (Nat.lt_succ_self _) _, ?_, fun k hk1 hk2 => ?_⟩, ⟨hgr.os.trans hB.os, hgr.tape.trans hB.tape, hgr.output.trans hB.output, by have := hgr.size; omega, fun k hk => ?_⟩⟩
  · rw [World.cell?_setCell_other _ _ _ _ (by simp)]
    exact k0
  · exact World.cell?_setCell_same' _ _ _ (by rw [k1]; rfl)
  · rw [World.frozen?_setCell]
    exact (World.frozen?_of_block (w := W) (w' := w1) (a := ⟨wb, k, none⟩) hpb).trans (h.fz k)
  · have := howns_setCell (k := 1) hown (Nat.lt_succ_self wb) (.slice (some ⟨g, 0, none⟩) (H.length + 1) cap)
    rw [List.length_append, List.map_append]
    exact this
  · have hk2 : g = k := by simpa [Value.ownBlock] using hk2
    subst hk2
    rcases hat with q | q
    · exact h.ap _ hk1 q
    · have := (hon2.lt _ hk1).2
      omega
  · rw [heap_setCell_other w1 ⟨wb, 1, none⟩ k _ (fun e => by simp only at e; omega), hgr.block k (by omega) (hnw k (by omega)), hB.block k (by omega)]
/-- a number more -/
theorem WS.num (h : WS W wb vn vh N H) (x : Nat) (hB : Below W.heap.size W W2) {g cap : Nat}
    (hown : w1.ownsRow (wb + 1) 3 1 (.slice (some ⟨g, 0, none⟩) (N.length + 1) cap) (N.length + 1) ((N.map fun n => Value.int .i64 (n : Nat)) ++ [.int .i64 (x : Nat)])) (hgr : W2.grownBy w1 vn.ownBlock) (hat : vn.ownBlock = some g ∨ g = W2.heap.size) :
    WS (w1.setCell ⟨wb, 0, none⟩ (.slice (some ⟨g, 0, none⟩) (N.length + 1) cap)) wb (.slice (some ⟨g, 0, none⟩) (N.length + 1) cap) vh (N ++ [x]) H ∧ Below wb W (w1.setCell ⟨wb, 0, none⟩ (.slice (some ⟨g, 0, none⟩) (N.length + 1) cap)) := by
  have hl := h.lt
  have hs2 := hB.size
  have hnw : ∀ k, k ≤ wb → some k ≠ vn.ownBlock := fun k hk e => by
    have := (h.on.lt k e.symm).1
    omega
  have hpb : w1.heap[wb]? = W.heap[wb]? := (hgr.block wb (by omega) (hnw wb (Nat.le_refl _))).trans (hB.block wb hl)
  have hon2 := ownsRow_below h.oh hB
  have hon1 : w1.ownsRow (wb + 1) 9 1 vh H.length (H.map Value.string) := hon2.kept hgr (by
    cases hq : vh.ownBlock with
    | none => exact Or.inl rfl
    | some k => exact Or.inr fun e => h.ap k e.symm hq)
  have k0 : w1.cell? ⟨wb, 0, none⟩ = some vn := (World.cell?_of_block (w := W) (w' := w1) (a := ⟨wb, 0, none⟩) hpb).trans h.c0
  have k1 : w1.cell? ⟨wb, 1, none⟩ = some vh := (World.cell?_of_block (w := W) (w' := w1) (a := ⟨wb, 1, none⟩) hpb).trans h.c1
  have hsz : w1.heap.size = (w1.setCell ⟨wb, 0, none⟩ (.slice (some ⟨g, 0, none⟩) (N.length + 1) cap)).heap.size := by simp [World.setCell]
  refine ⟨⟨?_, ?_, fun k => ?_, ?_, howns_setCell hon1 (Nat.lt_succ_self _) _, fun k hk1 hk2 => ?_⟩, ⟨hgr.os.trans hB.os, hgr.tape.trans hB.tape, hgr.output.trans hB.output, by have := hgr.size; omega, fun k hk => ?_⟩⟩
  · exact World.cell?_setCell_same' _ _ _ (by rw [k0]; rfl)
  · rw [World.cell?_setCell_other _ _ _ _ (by simp)]
    exact k1
  · rw [World.frozen?_setCell]
    exact (World.frozen?_of_block (w := W) (w' := w1) (a := ⟨wb, k, none⟩) hpb).trans (h.fz k)
  · have := howns_setCell (k := 0) hown (Nat.lt_succ_self wb) (.slice (some ⟨g, 0, none⟩) (N.length + 1) cap)
    rw [List.length_append, List.map_append]
    exact this
  · have hk1 : g = k := by simpa [Value.ownBlock] using hk1
    subst hk1
    rcases hat with q | q
    · exact h.ap _ q hk2
    · have := (hon2.lt _ hk2).2
      omega
  · rw [heap_setCell_other w1 ⟨wb, 0, none⟩ k _ (fun e => by simp only at e; omega), hgr.block k (by omega) (hnw k (by omega)), hB.block k (by omega)]
end
/-- a word taken, of kind k -/
def stepW (k : Nat) (x : List UInt8) (A : List Nat × List ByteArray) : Option (List Nat × List ByteArray) :=
  if k = 72 then (if isNm (bt x) = true then some (A.1, A.2 ++ [bt x]) else none)
  else match numW x with
    | some n => if k = 78 ∨ n ≤ 1 then some (A.1 ++ [n], A.2) else none
    | none => none
theorem fault_single {s : ByteArray} : (isNm s = true ∧ IsFault [s] 0 (-1)) ∨ (isNm s = false ∧ IsFault [s] 4 0) := by
  cases h : isNm s with
  | true =>
    refine Or.inl ⟨rfl, Or.inr (Or.inr ⟨by simp, fun j hj => ?_, rfl, rfl⟩)⟩
    have : j = 0 := by simpa using hj
    subst this
    exact ⟨h, rfl⟩
  | false => exact Or.inr ⟨rfl, Or.inr (Or.inl ⟨by simp, 0, by simp, fun j hj => absurd hj (by omega), rfl, Or.inl ⟨h, rfl⟩⟩)⟩

theorem cellsW {w : World} {b : Nat} {v : Value} (h : w.cell? ⟨b, 0, none⟩ = some v) : ∀ j u, [v][j]? = some u → w.cell? ((⟨b, 0, none⟩ : Addr).add j) = some u := by
  intro j u hu
  cases j with
  | zero =>
    obtain rfl : v = u := by simpa using hu
    exact h
  | succ j => simp at hu
theorem strs_single (w : World) (b : Nat) (x : ByteArray) (h : w.cell? ⟨b, 0, none⟩ = some (.string x)) : Strs w (.slice (some ⟨b, 0, none⟩) 1 1) [x] := Or.inr ⟨b, 0, 1, rfl, Nat.le_refl _, fun k hk => by
  have : k = 0 := by simpa using hk
  subst this
  exact h⟩
set_option maxHeartbeats 4000000 in
theorem take_host (a : Nat → Addr) {wb : Nat} {vn vh : Value} {N : List Nat} {H : List ByteArray} (x : List UInt8) (hx : x.length ≤ 5000) (W0 W : World) (h4 : Errs4 a W0) (h0 : W0.heap.size ≤ wb) (hb0 : Below W0.heap.size W0 W) (h : WS W wb vn vh N H) (hH : H.length ≤ 10000) :
    Calls Tryz.prog 167 #[.pointer (some ⟨wb, 0, none⟩), .int .u8 72, .string (bt x)] W fun e W' => Below W0.heap.size W0 W' ∧ ((∃ N' H' vn' vh', stepW 72 x (N, H) = some (N', H') ∧ e = .returned (.bool true) ∧ WS W' wb vn' vh' N' H') ∨ (stepW 72 x (N, H) = none ∧ e = .returned (.bool false))) := by
  obtain ⟨i0, hi0, hz0, hz1, hz2⟩ := info_parts infoS
  obtain ⟨pv, cv, rfl⟩ := own_shape h.oh
  have HW : Hid (WS W wb vn (.slice pv H.length cv) N H) := h
  have HE : Hid (Errs4 a W0) := h4
  have HB0 : Hid (Below W0.heap.size W0 W) := hb0
  have c1 := h.c1
  have hl := h.lt
  have hown := h.oh.alloc (.cells #[.string (bt x)] 9)
  have hbA : Below W.heap.size W (W.alloc (.cells #[.string (bt x)] 9)) := (Below.refl _ _).alloc (Nat.le_refl _) _
  have hnews := cellsW (w := W.alloc (.cells #[.string (bt x)] 9)) (b := W.heap.size) (v := .string (bt x)) (by simp)
  have hmax : H.length + 1 ≤ maxLen := by unfold maxLen; omega
  have hszA : (W.alloc (.cells #[.string (bt x)] 9)).heap.size = W.heap.size + 1 := by simp
  have hbs : wb + 1 ≤ (W.alloc (.cells #[.string (bt x)] 9)).heap.size := by rw [hszA]; omega
  clear h h4 hb0
  go_enter Tryz.func167, Tryz.ntmps167
  go_wp2_with (at_builtin; refine wpList_append_lies _ rfl _ _ 22 rfl (wb + 1) 9 i0 _ 1 16 Tryz.underlying22 hi0 hz0 hz1 hz2 rfl (by decide) (.slice pv H.length cv) H.length (H.map Value.string) rfl hown ⟨W.heap.size, 0, none⟩ 1 1 [.string (bt x)] rfl rfl hnews (fun u hu => by simp at hu; subst hu; rfl) (by decide) hmax (by omega) hbs _ rfl ?_)
  intro g cap w1 hown1 hgr hat _
  obtain ⟨hW2, hb2⟩ := HW.out.host (bt x) hbA hown1 hgr (by rw [hszA]; exact hat)
  have hpb : w1.heap[wb]? = W.heap[wb]? := (hgr.block wb (by omega) (fun e => by have := (HW.out.oh.lt wb e.symm).1; omega)).trans (hbA.block wb hl)
  have k1 : w1.cell? ⟨wb, 1, none⟩ = some (.slice pv H.length cv) := (World.cell?_of_block (w := W) (w' := w1) (a := ⟨wb, 1, none⟩) hpb).trans HW.out.c1
  have f1 : w1.frozen? ⟨wb, 1, none⟩ = false := (World.frozen?_of_block (w := W) (w' := w1) (a := ⟨wb, 1, none⟩) hpb).trans (HW.out.fz 1)
  obtain ⟨w2, hw2⟩ : ∃ w2, w2 = w1.setCell ⟨wb, 1, none⟩ (.slice (some ⟨g, 0, none⟩) (H.length + 1) cap) := ⟨_, rfl⟩
  have hs2 : w1.heap.size = w2.heap.size := by rw [hw2]; simp [World.setCell]
  rw [← hw2] at hW2 hb2
  have hb02 : Below W0.heap.size W0 w2 := HB0.out.trans (hb2.mono h0)
  have hck : ∀ c pl, IsFault [bt x] c pl → Calls Tryz.prog 137 #[.slice (some ⟨w2.heap.size, 0, none⟩) 1 1] (w2.alloc (.cells #[.string (bt x)] 9)) fun e w' => ∃ ev, e = .returned ev ∧ ErrIs a w' c pl ev ∧ Below (w2.alloc (.cells #[.string (bt x)] 9)).heap.size (w2.alloc (.cells #[.string (bt x)] 9)) w' := fun c pl hf =>
    check_any4 a _ [bt x] _ c pl ((HE.out.later hb02).later ((Below.refl _ _).alloc (Nat.le_refl _) _)) (strs_single _ _ _ (by simp)) hf (fun k hk => by
      have : k = 0 := by simpa using hk
      subst this
      show (bt x).size ≤ 1000000
      simp [Lh.bt, ByteArray.size]
      omega) (by simp)
  have HCK : Hid (∀ c pl, IsFault [bt x] c pl → Calls Tryz.prog 137 #[.slice (some ⟨w2.heap.size, 0, none⟩) 1 1] (w2.alloc (.cells #[.string (bt x)] 9)) fun e w' => ∃ ev, e = .returned ev ∧ ErrIs a w' c pl ev ∧ Below (w2.alloc (.cells #[.string (bt x)] 9)).heap.size (w2.alloc (.cells #[.string (bt x)] 9)) w') := hck
  have HW2 : Hid (WS w2 wb vn (.slice (some ⟨g, 0, none⟩) (H.length + 1) cap) N (H ++ [bt x])) := hW2
  have HB2 : Hid (Below W0.heap.size W0 w2) := hb02
  have HEQ : Hid (w2 = w1.setCell ⟨wb, 1, none⟩ (.slice (some ⟨g, 0, none⟩) (H.length + 1) cap)) := hw2
  have HS2 : Hid (w1.heap.size = w2.heap.size) := hs2
  clear hck hW2 hb2 hb02 hown1 hgr hat hpb hown hnews hmax hszA hbs hbA c1 hw2 hs2
  go_wp2_with fail
  rw [← HEQ.out, HS2.out]
  have hbA2 : Below w2.heap.size w2 (w2.alloc (.cells #[.string (bt x)] 9)) := (Below.refl _ _).alloc (Nat.le_refl _) _
  rcases fault_single (s := bt x) with ⟨hn, hf⟩ | ⟨hn, hf⟩
  · have HN : Hid (stepW 72 x (N, H) = some (N, H ++ [bt x])) := by
      show _ = _
      unfold stepW
      rw [if_pos rfl, if_pos hn]
    refine (HCK.out _ _ hf).mono ?_
    rintro e w3 ⟨ev, rfl, hev, hb3⟩
    obtain rfl : ev = .nilIface := by
      rcases hev with ⟨_, _, h⟩ | ⟨i, _, h, _⟩
      · exact h
      · omega
    have hbT := below_then hbA2 hb3
    have HB3 : Hid (Below w2.heap.size w2 w3) := hbT
    clear hev hb3 hbT hbA2 hf hn HEQ HS2
    go_wp2
    go_ret
    exact ⟨below_then HB2.out HB3.out, Or.inl ⟨_, _, _, _, HN.out, rfl, HW2.out.later HB3.out⟩⟩
  · have HN : Hid (stepW 72 x (N, H) = none) := by
      show _ = _
      unfold stepW
      rw [if_pos rfl, if_neg (by rw [hn]; decide)]
    refine (HCK.out _ _ hf).mono ?_
    rintro e w3 ⟨ev, rfl, hev, hb3⟩
    obtain ⟨t, z, rfl⟩ := errPos hev (by decide)
    have hbT := below_then hbA2 hb3
    have HB3 : Hid (Below w2.heap.size w2 w3) := hbT
    clear hev hb3 hbT hbA2 hf hn HEQ HS2
    go_wp2
    go_ret
    exact ⟨below_then HB2.out HB3.out, Or.inr ⟨HN.out, rfl⟩⟩
set_option maxHeartbeats 4000000 in
theorem take_num (a : Nat → Addr) {wb : Nat} {vn vh : Value} {N : List Nat} {H : List ByteArray} (k : Nat) (hk : k = 78 ∨ k = 70) (x : List UInt8) (hx : x.length ≤ 5000) (W0 W : World) (he : EC a W0) (h0 : W0.heap.size ≤ wb) (hb0 : Below W0.heap.size W0 W) (h : WS W wb vn vh N H) (hN : N.length ≤ 10000) :
    Calls Tryz.prog 167 #[.pointer (some ⟨wb, 0, none⟩), .int .u8 (k : Nat), .string (bt x)] W fun e W' => Below W0.heap.size W0 W' ∧ ((∃ N' H' vn' vh', stepW k x (N, H) = some (N', H') ∧ e = .returned (.bool true) ∧ WS W' wb vn' vh' N' H') ∨ (stepW k x (N, H) = none ∧ e = .returned (.bool false))) := by
  obtain ⟨i0, hi0, hz0, hz1, hz2⟩ := info_parts infoI
  obtain ⟨pv, cv, rfl⟩ := own_shape h.on
  have hrn := readNum_any x (by omega) W (he.later hb0)
  have HW : Hid (WS W wb (.slice pv N.length cv) vh N H) := h
  have HB0 : Hid (Below W0.heap.size W0 W) := hb0
  have hmax : N.length + 1 ≤ maxLen := by unfold maxLen; omega
  have k72 : ((k : Int) == 72) = false := by rw [beq_eq_false_iff_ne]; omega
  have n72 : ¬ k = 72 := by omega
  have hlW := h.lt
  clear h he hb0
  go_enter Tryz.func167, Tryz.ntmps167
  go_wp2_with fail
  refine hrn.mono ?_
  rintro e w9 ⟨hb9, hres⟩
  have hb09 := below_then HB0.out hb9
  have hW9 := HW.out.later hb9
  obtain ⟨m, okb, rfl, hok⟩ : ∃ (m : Int) (okb : Bool), e = .returned (.tuple #[.int .i64 m, .bool okb]) ∧ ((okb = true ∧ ∃ n : Nat, numW x = some n ∧ m = (n : Nat)) ∨ (okb = false ∧ numW x = none)) := by
    rcases hres with ⟨n, h1, h2⟩ | ⟨h1, z, h2⟩
    · exact ⟨_, _, h2, Or.inl ⟨rfl, n, h1, rfl⟩⟩
    · exact ⟨_, _, h2, Or.inr ⟨rfl, h1⟩⟩
  have HOK : Hid ((okb = true ∧ ∃ n : Nat, numW x = some n ∧ m = (n : Nat)) ∨ (okb = false ∧ numW x = none)) := hok
  have HW9 : Hid (WS w9 wb (.slice pv N.length cv) vh N H) := hW9
  have HB9 : Hid (Below W0.heap.size W0 w9) := hb09
  have hl := hW9.lt
  have c0 := hW9.c0
  have hown := hW9.on.alloc (.cells #[.int .i64 m] 3)
  have hbA : Below w9.heap.size w9 (w9.alloc (.cells #[.int .i64 m] 3)) := (Below.refl _ _).alloc (Nat.le_refl _) _
  have hnews := cellsW (w := w9.alloc (.cells #[.int .i64 m] 3)) (b := w9.heap.size) (v := .int .i64 m) (by simp)
  have hszA : (w9.alloc (.cells #[.int .i64 m] 3)).heap.size = w9.heap.size + 1 := by simp
  have hbs : wb + 1 ≤ (w9.alloc (.cells #[.int .i64 m] 3)).heap.size := by rw [hszA]; omega
  clear hrn hres hok hb9 hb09 hW9
  go_wp2_with (at_builtin; refine wpList_append_lies _ rfl _ _ 34 rfl (wb + 1) 3 i0 _ 1 8 Tryz.underlying34 hi0 hz0 hz1 hz2 rfl (by decide) (.slice pv N.length cv) N.length (N.map fun n => .int .i64 (n : Nat)) rfl hown ⟨w9.heap.size, 0, none⟩ 1 1 [.int .i64 m] rfl rfl hnews (fun u hu => by simp at hu; subst hu; rfl) (by decide) hmax (by omega) hbs _ rfl ?_)
  intro g cap w1 hown1 hgr hat _
  have hpb : w1.heap[wb]? = w9.heap[wb]? := (hgr.block wb (by omega) (fun e => by have := (HW9.out.on.lt wb e.symm).1; omega)).trans (hbA.block wb hl)
  have k0 : w1.cell? ⟨wb, 0, none⟩ = some (.slice pv N.length cv) := (World.cell?_of_block (w := w9) (w' := w1) (a := ⟨wb, 0, none⟩) hpb).trans HW9.out.c0
  have f0 : w1.frozen? ⟨wb, 0, none⟩ = false := (World.frozen?_of_block (w := w9) (w' := w1) (a := ⟨wb, 0, none⟩) hpb).trans (HW9.out.fz 0)
  have hbX : Below W0.heap.size W0 (w1.setCell ⟨wb, 0, none⟩ (.slice (some ⟨g, 0, none⟩) (N.length + 1) cap)) := by
    have hsz : (w1.setCell ⟨wb, 0, none⟩ (.slice (some ⟨g, 0, none⟩) (N.length + 1) cap)).heap.size = w1.heap.size := by simp [World.setCell]
    have hs0 := HB9.out.size
    refine ⟨hgr.os.trans (hbA.os.trans HB9.out.os), hgr.tape.trans (hbA.tape.trans HB9.out.tape), hgr.output.trans (hbA.output.trans HB9.out.output), by have := hgr.size; omega, fun q hq => ?_⟩
    rw [heap_setCell_other w1 ⟨wb, 0, none⟩ q _ (fun e => by simp only at e; omega), hgr.block q (by omega) (fun e => by have := (HW9.out.on.lt q e.symm).1; omega), hbA.block q (by omega), HB9.out.block q hq]
  have HBX : Hid (Below W0.heap.size W0 (w1.setCell ⟨wb, 0, none⟩ (.slice (some ⟨g, 0, none⟩) (N.length + 1) cap))) := hbX
  rcases HOK.out with ⟨rfl, n, hn, rfl⟩ | ⟨rfl, hn⟩
  · obtain ⟨hW2, _⟩ := HW9.out.num n hbA hown1 hgr (by rw [hszA]; exact hat)
    have HW2 : Hid (WS (w1.setCell ⟨wb, 0, none⟩ (.slice (some ⟨g, 0, none⟩) (N.length + 1) cap)) wb (.slice (some ⟨g, 0, none⟩) (N.length + 1) cap) vh (N ++ [n]) H) := hW2
    have hst : stepW k x (N, H) = if k = 78 ∨ n ≤ 1 then some (N ++ [n], H) else none := by
      unfold stepW
      rw [if_neg n72, hn]
    have HST : Hid (stepW k x (N, H) = if k = 78 ∨ n ≤ 1 then some (N ++ [n], H) else none) := hst
    clear hW2 hbX hown1 hgr hat hpb hown hnews hszA hbs hbA c0 hn hst HOK
    have HK : Hid (k = 78 ∨ k = 70) := hk
    clear hk
    by_cases h8 : k = 78
    · have d8 : ((k : Int) == 78) = true := by simp; omega
      have H8 : Hid (k = 78) := h8
      clear h8
      go_wp2
      go_ret
      exact ⟨HBX.out, Or.inl ⟨_, _, _, _, by rw [HST.out, if_pos (Or.inl H8.out)], rfl, HW2.out⟩⟩
    · have d8 : ((k : Int) == 78) = false := by rw [beq_eq_false_iff_ne]; omega
      by_cases h1 : n ≤ 1
      · have d1 : decide ((n : Int) ≤ 1) = true := by simp; omega
        have H1 : Hid (n ≤ 1) := h1
        go_wp2
        go_ret
        exact ⟨HBX.out, Or.inl ⟨_, _, _, _, by rw [HST.out, if_pos (Or.inr H1.out)], rfl, HW2.out⟩⟩
      · have d1 : decide ((n : Int) ≤ 1) = false := by simp; omega
        have H1 : Hid (¬ (k = 78 ∨ n ≤ 1)) := fun h => h.elim h8 h1
        go_wp2
        go_ret
        exact ⟨HBX.out, Or.inr ⟨by rw [HST.out, if_neg H1.out], rfl⟩⟩
  · have HST : Hid (stepW k x (N, H) = none) := by
      show _ = _
      unfold stepW
      rw [if_neg n72, hn]
    clear hbX hown1 hgr hat hpb hown hnews hszA hbs hbA c0 hn HOK
    go_wp2
    go_ret
    exact ⟨HBX.out, Or.inr ⟨HST.out, rfl⟩⟩
end Go.Proofs.YtfhmfjcpggddkaaGreatDoor

/- The landed script: the words behind a command's name. -/
namespace Go.Proofs.YtfhmfjcpggddkaaGreatDoor
open Go.RowKit Lh

/-- the kind of the word at place i -/
def kindW (form : List UInt8) (i : Nat) : Nat := (form.getD (min i (form.length - 1)) 0).toNat
def scanW (form : List UInt8) : Nat → List (List UInt8) → List Nat × List ByteArray → Option (List Nat × List ByteArray)
  | _, [], A => some A
  | i, x :: xs, A => match stepW (kindW form i) x A with
    | some B => scanW form (i + 1) xs B
    | none => none
def readW (form : List UInt8) (more : Bool) (ws : List (List UInt8)) : Option (List Nat × List ByteArray) :=
  if ws.length < form.length ∨ (form.length < ws.length ∧ more = false) then none else scanW form 0 ws ([], [])
theorem stepW_len {k : Nat} {x : List UInt8} {A B : List Nat × List ByteArray} (h : stepW k x A = some B) : B.1.length ≤ A.1.length + 1 ∧ B.2.length ≤ A.2.length + 1 := by
  unfold stepW at h
  split at h
  · split at h
    · cases h
      simp
    · cases h
  · split at h
    · split at h
      · cases h
        simp
      · cases h
    · cases h
def ReadR (form : List UInt8) (more : Bool) (ws : List (List UInt8)) (e : Ending) (W' : World) (B : Nat) : Prop :=
  (∃ N H vn vh, readW form more ws = some (N, H) ∧ e = .returned (.tuple #[.agg #[vn, vh], .bool true]) ∧ W'.ownsRow B 3 1 vn N.length (N.map fun n => .int .i64 (n : Nat)) ∧ W'.ownsRow B 9 1 vh H.length (H.map Value.string)) ∨
  (readW form more ws = none ∧ e = .returned (.tuple #[.agg #[.slice none 0 0, .slice none 0 0], .bool false]))
theorem scanW_step {form : List UInt8} {ws : List (List UInt8)} {k : Nat} {A : List Nat × List ByteArray} (h : k < ws.length) : scanW form k (ws.drop k) A = match stepW (kindW form k) ws[k] A with | some B => scanW form (k + 1) (ws.drop (k + 1)) B | none => none := by
  rw [List.drop_eq_getElem_cons h]
  rfl
theorem kindW_at {form : List UInt8} {k : Nat} (h : 0 < form.length) (hm : min k (form.length - 1) < (bt form).size) : kindW form k = ((bt form)[min k (form.length - 1)]'hm).toNat := by
  unfold kindW
  have h1 : min k (form.length - 1) < form.length := by omega
  rw [List.getD_eq_getElem?_getD, List.getElem?_eq_getElem h1]
  rfl
theorem owns_base {w : World} {b b' : Nat} {e : TypeId} {n sz : Nat} {v : Value} {xs : List Value} (h : w.ownsRow b e sz v n xs) (hb : b' ≤ b) : w.ownsRow b' e sz v n xs := by
  refine ⟨h.1, ?_⟩
  rcases h.2 with q | ⟨g, cap, cur, h1, h2, r⟩
  · exact Or.inl q
  · exact Or.inr ⟨g, cap, cur, h1, Nat.le_trans hb h2, r⟩
/-- a list of words, as it is handed over -/
def WordsAt (W : World) (p : Option Addr) (ws : List (List UInt8)) : Prop := ∀ j (h : j < ws.length), ∃ b o, p = some ⟨b, o, none⟩ ∧ W.cell? ⟨b, o + j, none⟩ = some (.string (bt ws[j]))
theorem WordsAt.later {W W' : World} {p : Option Addr} {ws : List (List UInt8)} (h : WordsAt W p ws) (hb : Below W.heap.size W W') : WordsAt W' p ws := fun j hj => by
  obtain ⟨b, o, h1, h2⟩ := h j hj
  exact ⟨b, o, h1, below_cell hb h2⟩
theorem readW_no {form : List UInt8} {more : Bool} {ws : List (List UInt8)} (hl : ws.length < form.length ∨ (form.length < ws.length ∧ more = false)) : readW form more ws = none := by
  unfold readW
  rw [if_pos hl]
set_option maxHeartbeats 4000000 in
set_option maxRecDepth 100000 in
/-- too few words, or too many -/
theorem readC_len (form : List UInt8) (more early : Bool) (fv : Value) (q : Option Addr) (c : Nat) (ws : List (List UInt8)) (W : World) (hl : ws.length < form.length ∨ (form.length < ws.length ∧ more = false)) :
    Calls Tryz.prog 109 #[cmA form more early fv, .slice q ws.length c] W fun e W' => Below W.heap.size W W' ∧ ReadR form more ws e W' W.heap.size := by
  have HR : Hid (readW form more ws = none) := readW_no hl
  have hsz : (bt form).size = form.length := by simp [Lh.bt, ByteArray.size]
  have hb2 : Below W.heap.size W ((W.alloc (.cells #[.string (bt form), .bool more, .bool early, fv] 87)).alloc (.cells #[.slice none 0 0, .slice none 0 0] 83)) := ((Below.refl _ _).alloc (Nat.le_refl _) _).alloc (by simp) _
  have HB : Hid (Below W.heap.size W ((W.alloc (.cells #[.string (bt form), .bool more, .bool early, fv] 87)).alloc (.cells #[.slice none 0 0, .slice none 0 0] 83))) := hb2
  unfold cmA
  rcases hl with h1 | ⟨h2, rfl⟩
  · clear hb2
    go_enter Tryz.func109, Tryz.ntmps109
    go_wp2
    exact bodyPost_ret (v := .tuple #[.agg #[.slice none 0 0, .slice none 0 0], .bool false]) (by simp [results, Tryz.results109, go_sem]) rfl ⟨HB.out, Or.inr ⟨HR.out, rfl⟩⟩
  · have h1 : ¬ ws.length < form.length := by omega
    clear hb2
    go_enter Tryz.func109, Tryz.ntmps109
    go_wp2
    exact bodyPost_ret (v := .tuple #[.agg #[.slice none 0 0, .slice none 0 0], .bool false]) (by simp [results, Tryz.results109, go_sem]) rfl ⟨HB.out, Or.inr ⟨HR.out, rfl⟩⟩
def TakeR (k : Nat) (x : List UInt8) (N : List Nat) (H : List ByteArray) (wb : Nat) (e : Ending) (W' : World) : Prop :=
  (∃ N' H' vn' vh', stepW k x (N, H) = some (N', H') ∧ e = .returned (.bool true) ∧ WS W' wb vn' vh' N' H') ∨ (stepW k x (N, H) = none ∧ e = .returned (.bool false))
theorem takeW_any (a : Nat → Addr) {wb : Nat} {vn vh : Value} {N : List Nat} {H : List ByteArray} (k : Nat) (hk : k = 72 ∨ k = 78 ∨ k = 70) (x : List UInt8) (hx : x.length ≤ 5000) (W0 W : World) (he : EC a W0) (h4 : Errs4 a W0) (h0 : W0.heap.size ≤ wb) (hb0 : Below W0.heap.size W0 W) (h : WS W wb vn vh N H) (hN : N.length ≤ 10000) (hH : H.length ≤ 10000) :
    Calls Tryz.prog 167 #[.pointer (some ⟨wb, 0, none⟩), .int .u8 (k : Nat), .string (bt x)] W fun e W' => Below W0.heap.size W0 W' ∧ TakeR k x N H wb e W' := by
  rcases hk with rfl | hk
  · exact take_host a x hx W0 W h4 h0 hb0 h hH
  · exact take_num a k hk x hx W0 W he h0 hb0 h hN
theorem readW_yes {form : List UInt8} {more : Bool} {ws : List (List UInt8)} (h1 : ¬ ws.length < form.length) (h2 : ¬ (form.length < ws.length ∧ more = false)) : readW form more ws = scanW form 0 ws ([], []) := by
  unfold readW
  rw [if_neg fun h => h.elim h1 h2]
set_option maxHeartbeats 8000000 in
set_option maxRecDepth 100000 in
/-- as many words as a command wants -/
theorem readC_scan (a : Nat → Addr) (form : List UInt8) (more early : Bool) (fv : Value) (p : Option Addr) (c : Nat) (ws : List (List UInt8)) (W : World) (he : EC a W) (h4 : Errs4 a W) (h1 : ¬ ws.length < form.length) (h2 : ¬ (form.length < ws.length ∧ more = false)) (hf : more = true → 0 < form.length) (hfk : ∀ x ∈ form, x = 72 ∨ x = 78 ∨ x = 70) (hws : ws.length ≤ 10000) (hx : ∀ x ∈ ws, x.length ≤ 5000) (hp : WordsAt W p ws) :
    Calls Tryz.prog 109 #[cmA form more early fv, .slice p ws.length c] W fun e W' => Below W.heap.size W W' ∧ ReadR form more ws e W' W.heap.size := by
  have HR : Hid (readW form more ws = scanW form 0 ws ([], [])) := readW_yes h1 h2
  have hsz : (bt form).size = form.length := by simp [Lh.bt, ByteArray.size]
  unfold cmA
  obtain ⟨W0, hW0⟩ : ∃ W0, W0 = (W.alloc (.cells #[.string (bt form), .bool more, .bool early, fv] 87)).alloc (.cells #[.slice none 0 0, .slice none 0 0] 83) := ⟨_, rfl⟩
  have hb2 : Below W.heap.size W W0 := by rw [hW0]; exact ((Below.refl _ _).alloc (Nat.le_refl _) _).alloc (by simp) _
  have hs0 : W0.heap.size = W.heap.size + 1 + 1 := by rw [hW0]; simp
  have c0 : W0.cell? ⟨W.heap.size, 0, none⟩ = some (.string (bt form)) := by rw [hW0]; simp
  have r0 : W0.cell? ⟨W.heap.size + 1, 0, none⟩ = some (.slice none 0 0) := by rw [hW0]; simp
  have r1 : W0.cell? ⟨W.heap.size + 1, 1, none⟩ = some (.slice none 0 0) := by rw [hW0]; simp
  have rf : ∀ k, W0.frozen? ⟨W.heap.size + 1, k, none⟩ = false := fun k => by rw [hW0]; simp
  have HE : Hid (EC a W0) := he.later hb2
  have H4 : Hid (Errs4 a W0) := h4.later hb2
  have HP : Hid (WordsAt W0 p ws) := hp.later hb2
  have HX : Hid (∀ x ∈ ws, x.length ≤ 5000) := hx
  have HFK : Hid (∀ x ∈ form, x = 72 ∨ x = 78 ∨ x = 70) := hfk
  have HB2 : Hid (Below W.heap.size W W0) := hb2
  have HW0 : Hid (W0 = (W.alloc (.cells #[.string (bt form), .bool more, .bool early, fv] 87)).alloc (.cells #[.slice none 0 0, .slice none 0 0] 83)) := hW0
  have HC : Hid (W0.cell? ⟨W.heap.size, 0, none⟩ = some (.string (bt form)) ∧ W0.cell? ⟨W.heap.size + 1, 0, none⟩ = some (.slice none 0 0) ∧ W0.cell? ⟨W.heap.size + 1, 1, none⟩ = some (.slice none 0 0) ∧ ∀ k, W0.frozen? ⟨W.heap.size + 1, k, none⟩ = false) := ⟨c0, r0, r1, rf⟩
  have HS0 : Hid (W0.heap.size = W.heap.size + 1 + 1) := hs0
  have hmf : form.length < ws.length → more = true := fun h => by
    cases more with
    | true => rfl
    | false => exact absurd ⟨h, rfl⟩ h2
  have HF : Hid (0 < ws.length → 0 < form.length) := fun h => by
    rcases Nat.lt_or_ge form.length ws.length with q | q
    · exact hf (hmf q)
    · omega
  have hm : (decide (form.length < ws.length) && !more) = false := by
    cases more with
    | true => simp
    | false =>
      have : ¬ form.length < ws.length := fun h => h2 ⟨h, rfl⟩
      simp [this]
  have hWS : WS (W0.alloc (.cells #[.slice none 0 0, .slice none 0 0] 83)) (W.heap.size + 1 + 1) (.slice none 0 0) (.slice none 0 0) [] [] := by
    rw [← hs0]
    exact ⟨by simp, by simp, fun k => by simp, World.ownsRow_nil _ _ _ _, World.ownsRow_nil _ _ _ _, fun g h => by simp [Value.ownBlock] at h⟩
  have HWS : Hid (WS (W0.alloc (.cells #[.slice none 0 0, .slice none 0 0] 83)) (W.heap.size + 1 + 1) (.slice none 0 0) (.slice none 0 0) [] []) := hWS
  clear he h4 hp hx hfk hb2 hW0 c0 r0 r1 rf hs0 hWS hf hmf
  by_cases hlt : form.length < ws.length
  case' pos =>
    obtain rfl : more = true := by
      cases more with
      | true => rfl
      | false => exact absurd ⟨hlt, rfl⟩ h2
  all_goals
    clear hm h2
    go_enter Tryz.func109, Tryz.ntmps109
    go_wp2_with fail
    rw [← HW0.out]
    go_loopw [31] (fun t w' => Below W0.heap.size W0 w' ∧ ∃ (k : Nat) (N : List Nat) (H : List ByteArray) (vn vh : Value), k ≤ ws.length ∧ N.length ≤ k ∧ H.length ≤ k ∧ t = .int .i64 (k : Nat) ∧ WS w' (W.heap.size + 1 + 1) vn vh N H ∧ scanW form k (ws.drop k) (N, H) = scanW form 0 ws ([], [])) (fun t _ => ws.length - (intOf t).toNat)
    case atStart => exact ⟨(Below.refl _ _).alloc (Nat.le_refl _) _, 0, [], [], _, _, Nat.zero_le _, Nat.le_refl _, Nat.le_refl _, rfl, HWS.out, rfl⟩
    case round =>
      obtain ⟨hb, k, N, H, vn, vh, hkl, hN, hH, rfl, hW, hsc⟩ := hrel
      obtain ⟨wo, hwo⟩ : ∃ wo, wo = wr := ⟨_, rfl⟩
      subst hwo
      have HW : Hid (WS wo (W.heap.size + 1 + 1) vn vh N H) := hW
      have HB : Hid (Below W0.heap.size W0 wo) := hb
      have HSC : Hid (scanW form k (ws.drop k) (N, H) = scanW form 0 ws ([], [])) := hsc
      obtain ⟨q0, q1, q2, q3⟩ := HC.out
      have c0 := below_cell hb q0
      have r0 := below_cell hb q1
      have r1 := below_cell hb q2
      have hlt1 : W.heap.size + 1 < W0.heap.size := by rw [HS0.out]; exact Nat.lt_succ_self _
      have f0 : wo.frozen? ⟨W.heap.size + 1, 0, none⟩ = false := (World.frozen?_of_block (w := W0) (w' := wo) (a := ⟨W.heap.size + 1, 0, none⟩) (hb.block _ hlt1)).trans (q3 0)
      have f1 : wo.frozen? ⟨W.heap.size + 1, 1, none⟩ = false := (World.frozen?_of_block (w := W0) (w' := wo) (a := ⟨W.heap.size + 1, 1, none⟩) (hb.block _ hlt1)).trans (q3 1)
      by_cases hk : k < ws.length
      · obtain ⟨b, o, rfl, hcell0⟩ := HP.out k hk
        have hcell := below_cell hb hcell0
        have hx := HX.out ws[k] (List.getElem_mem hk)
        have hfl := HF.out (by omega)
        obtain ⟨j, hj⟩ : ∃ j, j = min k (form.length - 1) := ⟨_, rfl⟩
        have hjf : j < (bt form).size := by rw [hsz]; omega
        have hmn : min (k : Int) ((form.length : Int) - 1) = (j : Int) := by omega
        obtain ⟨kd, hkd⟩ : ∃ kd : Nat, kd = kindW form k := ⟨_, rfl⟩
        have hkb : (((bt form)[j]'hjf).toNat : Int) = (kd : Int) := by
          rw [hkd, kindW_at (k := k) hfl (by rw [← hj]; exact hjf)]
          simp only [hj]
        have hkin : kd = 72 ∨ kd = 78 ∨ kd = 70 := by
          have hm : ((bt form)[j]'hjf) ∈ form := by
            have hj2 : j < form.length := by omega
            have : (bt form)[j]'hjf = form[j]'hj2 := rfl
            rw [this]
            exact List.getElem_mem hj2
          have hz : ((bt form)[j]'hjf).toNat = kd := by omega
          rcases HFK.out _ hm with e | e | e <;> (rw [e] at hz; simp at hz; omega)
        have htk := takeW_any a kd hkin ws[k] hx W0 wo HE.out H4.out (by rw [HS0.out]; exact Nat.le_refl _) hb hW (by omega) (by omega)
        have hstep := scanW_step (form := form) (A := (N, H)) hk
        rw [← hkd] at hstep
        have HSTEP : Hid (scanW form k (ws.drop k) (N, H) = match stepW kd ws[k] (N, H) with | some B => scanW form (k + 1) (ws.drop (k + 1)) B | none => none) := hstep
        have hki : (k : Int) < (ws.length : Int) := by omega
        generalize ws[k]'hk = x at *
        have hjs : (j : Int) < ((bt form).size : Int) := by omega
        clear hcell0 hx hstep hkd hkin hj hW hsc hb
        go_wp2_with fail
        refine htk.mono ?_
        rintro e w9 ⟨hb9, hT⟩
        have HB9 : Hid (Below W0.heap.size W0 w9) := hb9
        rcases hT with ⟨N', H', vn', vh', hs, rfl, hW9⟩ | ⟨hs, rfl⟩
        · have HW9 : Hid (WS w9 (W.heap.size + 1 + 1) vn' vh' N' H') := hW9
          have HS : Hid (scanW form (k + 1) (ws.drop (k + 1)) (N', H') = scanW form 0 ws ([], [])) := by
            show _ = _
            rw [← HSC.out, HSTEP.out, hs]
          have hln := stepW_len hs
          have HLN : Hid (N'.length ≤ k + 1 ∧ H'.length ≤ k + 1) := ⟨by have := hln.1; simp only at this; omega, by have := hln.2; simp only at this; omega⟩
          clear htk hs hW9 hb9 hln hmn hkb hcell c0 r0 r1 f0 f1 q0 q1 q2 q3
          go_wp2_with fail
          exact ⟨⟨HB9.out, k + 1, N', H', vn', vh', hk, HLN.out.1, HLN.out.2, by go_num, HW9.out, HS.out⟩, by simp [intOf]; omega⟩
        · have HS : Hid (scanW form 0 ws ([], []) = none) := by
            show _ = _
            rw [← HSC.out, HSTEP.out, hs]
          have r0' := below_cell hb9 q1
          have r1' := below_cell hb9 q2
          have f0' : w9.frozen? ⟨W.heap.size + 1, 0, none⟩ = false := (World.frozen?_of_block (w := W0) (w' := w9) (a := ⟨W.heap.size + 1, 0, none⟩) (hb9.block _ hlt1)).trans (q3 0)
          have f1' : w9.frozen? ⟨W.heap.size + 1, 1, none⟩ = false := (World.frozen?_of_block (w := W0) (w' := w9) (a := ⟨W.heap.size + 1, 1, none⟩) (hb9.block _ hlt1)).trans (q3 1)
          clear htk hs hb9 hmn hkb hcell c0 r0 r1 f0 f1 q0 q1 q2 q3
          go_wp2_with fail
          exact bodyPost_ret (v := .tuple #[.agg #[.slice none 0 0, .slice none 0 0], .bool false]) (by simp [results, Tryz.results109, go_sem, r0', r1']) rfl ⟨((HB2.out.trans (HB9.out.mono (by rw [HS0.out]; omega))).setCell (p := ⟨W.heap.size + 1, 0, none⟩) (Nat.le_succ _) _).setCell (p := ⟨W.heap.size + 1, 1, none⟩) (Nat.le_succ _) _, Or.inr ⟨HR.out.trans HS.out, rfl⟩⟩
      · have hke : k = ws.length := by omega
        have HS : Hid (scanW form 0 ws ([], []) = some (N, H)) := by
          show _ = _
          rw [← HSC.out, hke, List.drop_length]
          rfl
        obtain ⟨pn, cn, rfl⟩ := own_shape hW.on
        obtain ⟨ph, ch, rfl⟩ := own_shape hW.oh
        have w0 := hW.c0
        have w1 := hW.c1
        have hki : ¬ (k : Int) < (ws.length : Int) := by omega
        clear hke hW hsc hb c0 q0 q1 q2 q3
        go_wp2_with fail
        refine bodyPost_ret (v := .tuple #[.agg #[.slice pn N.length cn, .slice ph H.length ch], .bool true]) (by simp [results, Tryz.results109, go_sem, r0, r1]) rfl ⟨((HB2.out.trans (HB.out.mono (by rw [HS0.out]; omega))).setCell (p := ⟨W.heap.size + 1, 0, none⟩) (Nat.le_succ _) _).setCell (p := ⟨W.heap.size + 1, 1, none⟩) (Nat.le_succ _) _, Or.inl ⟨N, H, _, _, HR.out.trans HS.out, rfl, ?_, ?_⟩⟩
        · exact owns_base (howns_setCell (howns_setCell HW.out.on (by omega) _) (by omega) _) (by omega)
        · exact owns_base (howns_setCell (howns_setCell HW.out.oh (by omega) _) (by omega) _) (by omega)
theorem readC_any (a : Nat → Addr) (form : List UInt8) (more early : Bool) (fv : Value) (p : Option Addr) (c : Nat) (ws : List (List UInt8)) (W : World) (he : EC a W) (h4 : Errs4 a W) (hf : more = true → 0 < form.length) (hfk : ∀ x ∈ form, x = 72 ∨ x = 78 ∨ x = 70) (hws : ws.length ≤ 10000) (hx : ∀ x ∈ ws, x.length ≤ 5000) (hp : WordsAt W p ws) :
    Calls Tryz.prog 109 #[cmA form more early fv, .slice p ws.length c] W fun e W' => Below W.heap.size W W' ∧ ReadR form more ws e W' W.heap.size := by
  by_cases h : ws.length < form.length ∨ (form.length < ws.length ∧ more = false)
  · exact readC_len form more early fv p c ws W h
  · exact readC_scan a form more early fv p c ws W he h4 (fun q => h (Or.inl q)) (fun q => h (Or.inr q)) hf hfk hws hx hp
end Go.Proofs.YtfhmfjcpggddkaaGreatDoor

/- What the laws of a balance ask of the landed package. -/
namespace Go.Proofs.YtfhmfjcpggddkaaGreatDoor
open Go.RowKit

/-- an error: none, or the one of a number -/
def EvOf (a : Nat → Addr) (c : Nat) (ev : Value) : Prop := (c = 0 ∧ ev = .nilIface) ∨ ∃ j, c = j + 1 ∧ ev = .iface 378 (.pointer (some (a j)))
/-- what Pick does: nw says which of those that are open a new key goes to -/
def PickR (nw : List ByteArray → Nat → Nat → ByteArray) (S : Lh.Bl) (k : Nat) (now : Int) (S' : Lh.Bl) (s : ByteArray) (kept : Bool) (c : Nat) : Prop :=
  (∃ j, TickF S.la now j ∧ S' = S ∧ s = ByteArray.empty ∧ kept = false ∧ c = j + 1) ∨
  (TickOk S.la now ∧ Lh.BKeeps S k now s ∧ kept = true ∧ c = 0 ∧ S' = { S with la := now, L := Lh.fput S.t S.L k s now }) ∨
  (TickOk S.la now ∧ (∀ z, ¬ Lh.BKeeps S k now z) ∧ Lh.bopen S = [] ∧ s = ByteArray.empty ∧ kept = false ∧ c = 5 ∧ S' = { S with la := now }) ∨
  (TickOk S.la now ∧ (∀ z, ¬ Lh.BKeeps S k now z) ∧ Lh.bopen S ≠ [] ∧ s = nw (Lh.bopen S) S.size k ∧ kept = false ∧ c = 0 ∧ S' = { S with la := now, L := Lh.fput S.t S.L k s now })
def LookR (S : Lh.Bl) (s : ByteArray) (well : Bool) (S' : Lh.Bl) (turned : Bool) (c : Nat) : Prop :=
  (∃ h : Lh.hix S.hs s < S.hs.length, turned = (Lh.hlook S.f S.r S.hs[Lh.hix S.hs s] well).2 ∧ c = 0 ∧ S' = Lh.blook S s well S.hs[Lh.hix S.hs s]) ∨
  (¬ Lh.hix S.hs s < S.hs.length ∧ turned = false ∧ c = 5 ∧ S' = S)
def DrainR (S : Lh.Bl) (s : ByteArray) (is : Bool) (S' : Lh.Bl) (c : Nat) : Prop :=
  (Lh.hix S.hs s < S.hs.length ∧ c = 0 ∧ S' = { S with dr := Lh.bdrain S.dr s is }) ∨ (¬ Lh.hix S.hs s < S.hs.length ∧ c = 5 ∧ S' = S)
def ExportR (S : Lh.Bl) (S' : Lh.Bl) (s : ByteArray) (c : Nat) : Prop :=
  (S.ep < 1099511627776 ∧ s = Lh.bt (Lh.textL (S.ep + 1).toNat S.L) ∧ c = 0 ∧ S' = { S with ep := S.ep + 1 }) ∨ (¬ S.ep < 1099511627776 ∧ s = ByteArray.empty ∧ c = 2 ∧ S' = S)
/-- The landed package's contracts, over what it says that a *Balance is (Rep), and what it asks of the package variables (E; of those for texts: X). -/
structure BalanceC where
  E : (Nat → Addr) → World → Prop
  eLater : ∀ {a : Nat → Addr} {W W' : World}, E a W → Below W.heap.size W W' → E a W'
  X : (Nat → Addr) → World → Prop
  xLater : ∀ {a : Nat → Addr} {W W' : World}, X a W → Below W.heap.size W W' → X a W'
  nw : List ByteArray → Nat → Nat → ByteArray
  nwIn : ∀ {xs : List ByteArray} {n : Nat} (k : Nat), xs ≠ [] → Lh.Prm n → nw xs n k ∈ xs
  Rep : Lh.Bl → (Nat → Prop) → Nat → World → Prop
  lt : ∀ {S : Lh.Bl} {F : Nat → Prop} {p : Nat} {W : World}, Rep S F p W → ∀ b, F b → b < W.heap.size
  stay : ∀ {S : Lh.Bl} {F : Nat → Prop} {p : Nat} {W W' : World}, Rep S F p W → W.heap.size ≤ W'.heap.size → (∀ b, F b → W'.heap[b]? = W.heap[b]?) → Rep S F p W'
  newG : ∀ (a : Nat → Addr) (v : Value) (xs : List ByteArray) (n t f r : Nat) (W : World), E a W → Strs1 W v xs → 0 < xs.length → IsFault xs 0 (-1) → (∀ s ∈ xs, s.size ≤ 300) → Lh.Prm n → n ≤ 503 → 1 ≤ t → t ≤ 1000 → 1 ≤ f → f ≤ 10 → 1 ≤ r → r ≤ 10 →
    Calls Tryz.prog 85 #[v, .int .i64 (n : Nat), .int .i64 (t : Nat), .int .i64 (f : Nat), .int .i64 (r : Nat)] W fun e W' => ∃ p F, e = .returned (.tuple #[.pointer (some ⟨p, 0, none⟩), .nilIface]) ∧ Rep ⟨f, r, n, t, Lh.hnew xs, [], 0, 0, []⟩ F p W' ∧ (∀ b, F b → W.heap.size ≤ b) ∧ Below W.heap.size W W'
  pick : ∀ (a : Nat → Addr) (S : Lh.Bl) (F : Nat → Prop) (p k : Nat) (now : Int) (W : World), E a W → Rep S F p W → Lh.BOk S → k < 18446744073709551616 →
    Calls Tryz.prog 97 #[.pointer (some ⟨p, 0, none⟩), .int .u64 (k : Nat), .int .i64 now] W fun e W' => ∃ F' S' s kept c ev, (∀ b, F' b → F b ∨ W.heap.size ≤ b) ∧ Tur F W W' ∧ e = .returned (.tuple #[.string s, .bool kept, ev]) ∧ EvOf a c ev ∧ PickR nw S k now S' s kept c ∧ Rep S' F' p W'
  look : ∀ (a : Nat → Addr) (S : Lh.Bl) (F : Nat → Prop) (p : Nat) (s : ByteArray) (well : Bool) (W : World), E a W → Rep S F p W → Lh.BOk S → s.size ≤ maxLen →
    Calls Tryz.prog 48 #[.pointer (some ⟨p, 0, none⟩), .string s, .bool well] W fun e W' => ∃ F' S' turned c ev, (∀ b, F' b → F b ∨ W.heap.size ≤ b) ∧ Tur F W W' ∧ e = .returned (.tuple #[.bool turned, ev]) ∧ EvOf a c ev ∧ LookR S s well S' turned c ∧ Rep S' F' p W'
  drain : ∀ (a : Nat → Addr) (S : Lh.Bl) (F : Nat → Prop) (p : Nat) (s : ByteArray) (is : Bool) (W : World), E a W → Rep S F p W → Lh.BOk S → s.size ≤ maxLen →
    Calls Tryz.prog 51 #[.pointer (some ⟨p, 0, none⟩), .string s, .bool is] W fun e W' => ∃ F' S' c ev, (∀ b, F' b → F b ∨ W.heap.size ≤ b) ∧ Tur F W W' ∧ e = .returned ev ∧ EvOf a c ev ∧ DrainR S s is S' c ∧ Rep S' F' p W'
  up : ∀ (S : Lh.Bl) (F : Nat → Prop) (p : Nat) (W : World), Rep S F p W → Lh.BOk S →
    Calls Tryz.prog 55 #[.pointer (some ⟨p, 0, none⟩)] W fun e W' => ∃ v, e = .returned v ∧ Strs1 W' v (Lh.hups S.hs) ∧ Below W.heap.size W W'
  flows : ∀ (S : Lh.Bl) (F : Nat → Prop) (p : Nat) (W : World), Rep S F p W → Lh.BOk S →
    Calls Tryz.prog 103 #[.pointer (some ⟨p, 0, none⟩)] W fun e W' => ∃ v, e = .returned v ∧ FlowsNew W.heap.size W' v S.L ∧ Below W.heap.size W W'
  export_ : ∀ (a : Nat → Addr) (S : Lh.Bl) (F : Nat → Prop) (p : Nat) (W : World), E a W → X a W → Rep S F p W → Lh.BOk S →
    Calls Tryz.prog 105 #[.pointer (some ⟨p, 0, none⟩)] W fun e W' => ∃ F' S' s c ev, (∀ b, F' b → F b ∨ W.heap.size ≤ b) ∧ Tur F W W' ∧ e = .returned (.tuple #[.string s, ev]) ∧ EvOf a c ev ∧ ExportR S S' s c ∧ Rep S' F' p W'
theorem BalanceC.later (hC : BalanceC) {S : Lh.Bl} {F : Nat → Prop} {p : Nat} {W W' : World} (h : hC.Rep S F p W) (hb : Below W.heap.size W W') : hC.Rep S F p W' :=
  hC.stay h hb.size fun b hf => hb.block b (hC.lt h b hf)
end Go.Proofs.YtfhmfjcpggddkaaGreatDoor

/- Picks: what a pick leaves, and what it tells. -/
namespace Go.Proofs.YtfhmfjcpggddkaaGreatDoor
open Go.RowKit

theorem keeps_one {S : Lh.Bl} {k : Nat} {now : Int} {s z : ByteArray} (h : Lh.BKeeps S k now s) (h' : Lh.BKeeps S k now z) : s = z := by
  obtain ⟨_, _, h, _⟩ := h
  obtain ⟨_, _, h', _⟩ := h'
  exact h.symm.trans h'
section
variable {nw : List ByteArray → Nat → Nat → ByteArray} {S S' : Lh.Bl} {k : Nat} {now : Int} {s z : ByteArray} {kept : Bool} {c : Nat}
theorem ok_not {la now : Int} {j : Nat} (h : TickOk la now) (h' : TickF la now j) : False := by
  obtain ⟨h1, h2, h3⟩ := h
  rcases h' with ⟨h', _⟩ | ⟨_, _, h', _⟩ <;> omega
theorem PickR.keep (h : PickR nw S k now S' s kept c) (ht : TickOk S.la now) (hz : Lh.BKeeps S k now z) : s = z ∧ kept = true ∧ c = 0 ∧ S' = { S with la := now, L := Lh.fput S.t S.L k z now } := by
  rcases h with ⟨j, hf, _⟩ | ⟨_, hk, h1, h2, h3⟩ | ⟨_, hn, _⟩ | ⟨_, hn, _⟩
  · exact (ok_not ht hf).elim
  · obtain rfl := keeps_one hk hz
    exact ⟨rfl, h1, h2, h3⟩
  · exact absurd hz (hn z)
  · exact absurd hz (hn z)
theorem PickR.new (h : PickR nw S k now S' s kept c) (ht : TickOk S.la now) (hn : ∀ z, ¬ Lh.BKeeps S k now z) (ho : Lh.bopen S ≠ []) : s = nw (Lh.bopen S) S.size k ∧ kept = false ∧ c = 0 ∧ S' = { S with la := now, L := Lh.fput S.t S.L k s now } := by
  rcases h with ⟨j, hf, _⟩ | ⟨_, hk, _⟩ | ⟨_, _, h, _⟩ | ⟨_, _, _, h1, h2, h3, h4⟩
  · exact (ok_not ht hf).elim
  · exact absurd hk (hn s)
  · exact absurd h ho
  · exact ⟨h1, h2, h3, h4⟩
end
end Go.Proofs.YtfhmfjcpggddkaaGreatDoor

/- The closed fact: a key keeps its host. -/
namespace Go.Proofs.YtfhmfjcpggddkaaGreatDoor
open Go.RowKit

def nA : ByteArray := ⟨#[97]⟩
def nB : ByteArray := ⟨#[98]⟩
def nC : ByteArray := ⟨#[99]⟩
def nD : ByteArray := ⟨#[100]⟩
/-- a new balance -/
def bnew0 (xs : List ByteArray) (n t : Nat) : Lh.Bl := ⟨1, 1, n, t, Lh.hnew xs, [], 0, 0, []⟩
theorem bok_new {xs : List ByteArray} {n t : Nat} (hl : xs.length ≤ 12) (hn : xs.Nodup) (hs : ∀ s ∈ xs, s.size ≤ 300) (hnm : ∀ s ∈ xs, Lh.isNm s = true) (hp : Lh.Prm n) (h5 : n ≤ 503) (h1 : 1 ≤ t) (h2 : t ≤ 1000) : Lh.BOk (bnew0 xs n t) := by
  refine ⟨Lh.hnew_ok (by simp [bnew0]) (by simp [bnew0]) (by simp [bnew0]) (by simp [bnew0]) hl hn hs, fun x hx => ?_, Lh.FlOk.nil, fun x hx => ?_, fun x hx => ?_, h1, h2, hp, h5, by simp [bnew0], by simp [bnew0], by simp [bnew0], by simp [bnew0]⟩
  · obtain ⟨y, hy, rfl⟩ := List.mem_map.1 hx
    exact hnm y hy
  · exact absurd hx (by simp [bnew0])
  · exact absurd hx (by simp [bnew0])
theorem prm_small {n : Nat} (h2 : 2 ≤ n) (h : ∀ k : Fin n, 2 ≤ k.val → n % k.val ≠ 0) : Lh.Prm n := ⟨h2, fun k hk hlt => h ⟨k, hlt⟩ hk⟩
theorem prm31 : Lh.Prm 31 := prm_small (by decide) (by decide)
end Go.Proofs.YtfhmfjcpggddkaaGreatDoor

/- The law BalanceFalls, over the landed package's contracts, where its numbers are right. -/
namespace Go.Proofs.YtfhmfjcpggddkaaGreatDoor
open Go.RowKit

def four : List ByteArray := [nA, nB, nC, nD]
end Go.Proofs.YtfhmfjcpggddkaaGreatDoor

/- A play: two balances, a tick, a script. -/
namespace Go.Proofs.YtfhmfjcpggddkaaGreatDoor
open Go.RowKit

/-- the two, and the tick -/
structure Lh.Duo where
  A : Lh.Bl
  B : Lh.Bl
  now : Int
def Lh.Duo.put (D : Lh.Duo) (b : Bool) (S : Lh.Bl) : Lh.Duo := if b then { D with B := S } else { D with A := S }
section
variable {nw : List ByteArray → Nat → Nat → ByteArray}
theorem pickR_one {S S1 S2 : Lh.Bl} {k : Nat} {now : Int} {s1 s2 : ByteArray} {k1 k2 : Bool} {c1 c2 : Nat} (h : PickR nw S k now S1 s1 k1 c1) (h' : PickR nw S k now S2 s2 k2 c2) : S1 = S2 ∧ c1 = c2 := by
  rcases h with ⟨j, hf, rfl, rfl, rfl, rfl⟩ | ⟨ht, hk, rfl, rfl, rfl⟩ | ⟨ht, hn, ho, rfl, rfl, rfl, rfl⟩ | ⟨ht, hn, ho, rfl, rfl, rfl, rfl⟩
  · rcases h' with ⟨j', hf', rfl, rfl, rfl, rfl⟩ | ⟨ht', _⟩ | ⟨ht', _⟩ | ⟨ht', _⟩
    · refine ⟨rfl, ?_⟩
      rcases hf with ⟨h1, rfl⟩ | ⟨h1, h2, h3, rfl⟩ <;> rcases hf' with ⟨g1, rfl⟩ | ⟨g1, g2, g3, rfl⟩ <;> first | rfl | omega
    all_goals exact (ok_not ht' hf).elim
  · obtain ⟨rfl, rfl, rfl, rfl⟩ := PickR.keep h' ht hk
    exact ⟨rfl, rfl⟩
  · rcases h' with ⟨j', hf', _⟩ | ⟨_, hk', _⟩ | ⟨_, _, _, rfl, rfl, rfl, rfl⟩ | ⟨_, _, ho', _⟩
    · exact (ok_not ht hf').elim
    · exact absurd hk' (hn _)
    · exact ⟨rfl, rfl⟩
    · exact absurd ho ho'
  · obtain ⟨rfl, rfl, rfl, rfl⟩ := PickR.new h' ht hn ho
    exact ⟨rfl, rfl⟩
theorem drainR_one {S S1 S2 : Lh.Bl} {s : ByteArray} {w : Bool} {c1 c2 : Nat} (h : DrainR S s w S1 c1) (h' : DrainR S s w S2 c2) : S1 = S2 ∧ c1 = c2 := by
  rcases h with ⟨hx, rfl, rfl⟩ | ⟨hx, rfl, rfl⟩ <;> rcases h' with ⟨hx', rfl, rfl⟩ | ⟨hx', rfl, rfl⟩
  · exact ⟨rfl, rfl⟩
  · exact absurd hx hx'
  · exact absurd hx' hx
  · exact ⟨rfl, rfl⟩
theorem exportR_one {S S1 S2 : Lh.Bl} {s1 s2 : ByteArray} {c1 c2 : Nat} (h : ExportR S S1 s1 c1) (h' : ExportR S S2 s2 c2) : S1 = S2 ∧ c1 = c2 := by
  rcases h with ⟨hx, rfl, rfl, rfl⟩ | ⟨hx, rfl, rfl, rfl⟩ <;> rcases h' with ⟨hx', rfl, rfl, rfl⟩ | ⟨hx', rfl, rfl, rfl⟩
  · exact ⟨rfl, rfl⟩
  · exact absurd hx hx'
  · exact absurd hx' hx
  · exact ⟨rfl, rfl⟩
end
end Go.Proofs.YtfhmfjcpggddkaaGreatDoor

/- A play: what is right stays right. -/
namespace Go.Proofs.YtfhmfjcpggddkaaGreatDoor
open Go.RowKit

section
variable {nw : List ByteArray → Nat → Nat → ByteArray}
theorem pickR_ok (hnwI : ∀ {xs : List ByteArray} {n : Nat} (k : Nat), xs ≠ [] → Lh.Prm n → nw xs n k ∈ xs) {S S' : Lh.Bl} {k : Nat} {now : Int} {s : ByteArray} {kept : Bool} {c : Nat} (h : Lh.BOk S) (hk : k < 18446744073709551616) (hp : PickR nw S k now S' s kept c) : Lh.BOk S' := by
  rcases hp with ⟨j, _, rfl, _⟩ | ⟨⟨h0, h1, _⟩, hkp, _, _, rfl⟩ | ⟨⟨h0, h1, _⟩, _, _, _, _, _, rfl⟩ | ⟨⟨h0, h1, _⟩, _, ho, rfl, _, _, rfl⟩
  · exact h
  · have hup : Lh.hup S.hs s = true := by obtain ⟨_, _, _, h⟩ := hkp; exact h
    obtain ⟨hn, hs⟩ := Lh.hup_nm h hup
    exact h.put hk hn hs h0 h1
  · exact h.tick h0 h1
  · obtain ⟨hn, hs⟩ := Lh.hup_nm h (Lh.bopen_mem.1 (hnwI k ho h.prm)).1
    exact h.put hk hn hs h0 h1
theorem lookR_ok {S S' : Lh.Bl} {s : ByteArray} {w t : Bool} {c : Nat} (h : Lh.BOk S) (hl : LookR S s w S' t c) : Lh.BOk S' := by
  rcases hl with ⟨hx, _, _, rfl⟩ | ⟨_, _, _, rfl⟩
  · exact h.look hx
  · exact h
theorem drainR_ok {S S' : Lh.Bl} {s : ByteArray} {w : Bool} {c : Nat} (h : Lh.BOk S) (hl : DrainR S s w S' c) : Lh.BOk S' := by
  rcases hl with ⟨_, _, rfl⟩ | ⟨_, _, rfl⟩
  · exact h.drain _
  · exact h
theorem exportR_ok {S S' : Lh.Bl} {s : ByteArray} {c : Nat} (h : Lh.BOk S) (hl : ExportR S S' s c) : Lh.BOk S' := by
  rcases hl with ⟨hx, _, _, rfl⟩ | ⟨_, _, _, rfl⟩
  · exact h.epoch (by have := h.ep0; omega) (by omega)
  · exact h
end
end Go.Proofs.YtfhmfjcpggddkaaGreatDoor
