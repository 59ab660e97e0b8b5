/- The landed take: the first free slot of the row. -/
import Derived.Test.YtmdckddenelneaaGreatDoorM14
import Derived.Carry
namespace Go.Proofs.YtmdckddenelneaaGreatDoor
open Go.RowKit

/-- Only two blocks have turned. -/
structure Two (x y : Nat) (w w' : World) : Prop where
  os : w'.os = w.os
  tape : w'.tape = w.tape
  output : w'.output = w.output
  size : w'.heap.size = w.heap.size
  block : ∀ k, k ≠ x → k ≠ y → w'.heap[k]? = w.heap[k]?
theorem Two.refl (x y : Nat) (w : World) : Two x y w w := ⟨rfl, rfl, rfl, rfl, fun _ _ _ => rfl⟩
theorem Two.drewN {x y : Nat} {w w' : World} (h : Two x y w w') (n : Nat) : Two x y w (w'.drewN n) := ⟨h.os, h.tape, h.output, h.size, h.block⟩
theorem Two.drew {x y : Nat} {w w' : World} (h : Two x y w w') : Two x y w w'.drew := ⟨h.os, h.tape, h.output, h.size, h.block⟩
theorem Two.setX {x y : Nat} {w w' : World} (h : Two x y w w') (k : Nat) (v : Value) : Two x y w (w'.setCell ⟨x, k, none⟩ v) :=
  ⟨h.os, h.tape, h.output, by simpa [World.setCell] using h.size, fun i h1 h2 => (heap_setCell_other w' ⟨x, k, none⟩ i v h1).trans (h.block i h1 h2)⟩
theorem Two.setY {x y : Nat} {w w' : World} (h : Two x y w w') (k : Nat) (v : Value) : Two x y w (w'.setCell ⟨y, k, none⟩ v) :=
  ⟨h.os, h.tape, h.output, by simpa [World.setCell] using h.size, fun i h1 h2 => (heap_setCell_other w' ⟨y, k, none⟩ i v h2).trans (h.block i h1 h2)⟩
theorem Two.below {x y B : Nat} {w0 w w' : World} (h : Two x y w w') (hb : Below B w0 w) (hx : B ≤ x) (hy : B ≤ y) : Below B w0 w' :=
  hb.trans ⟨h.os, h.tape, h.output, by rw [h.size]; exact Nat.le_refl _, fun k hk => h.block k (by omega) (by omega)⟩

/-- Block rb is a row: its host's number, its slots, the next place. -/
def RowBlk (w : World) (rb : Nat) (h : Int) (sb n : Nat) (p : Nat) : Prop := w.heap[rb]? = some (.cells #[.int .i64 h, .slice (some ⟨sb, 0, none⟩) n n, .int .i64 (p : Nat)] 142 (0, 0))
section
variable {w w' : World} {rb : Nat} {h : Int} {sb n p : Nat}
theorem RowBlk.c0 (hr : RowBlk w rb h sb n p) : w.cell? ⟨rb, 0, none⟩ = some (.int .i64 h) := by rw [cell_of_row w rb 0 _ _ _ hr]; rfl
theorem RowBlk.c1 (hr : RowBlk w rb h sb n p) : w.cell? ⟨rb, 1, none⟩ = some (.slice (some ⟨sb, 0, none⟩) n n) := by rw [cell_of_row w rb 1 _ _ _ hr]; rfl
theorem RowBlk.c2 (hr : RowBlk w rb h sb n p) : w.cell? ⟨rb, 2, none⟩ = some (.int .i64 (p : Nat)) := by rw [cell_of_row w rb 2 _ _ _ hr]; rfl
theorem RowBlk.frozen (hr : RowBlk w rb h sb n p) (k : Nat) : w.frozen? ⟨rb, k, none⟩ = false := frozen_of_row w rb k _ _ hr
theorem RowBlk.same (hr : RowBlk w rb h sb n p) (he : w'.heap[rb]? = w.heap[rb]?) : RowBlk w' rb h sb n p := by
  unfold RowBlk
  rw [he]
  exact hr
theorem RowBlk.step (hr : RowBlk w rb h sb n p) (q : Nat) : RowBlk (w.setCell ⟨rb, 2, none⟩ (.int .i64 (q : Nat))) rb h sb n q := by
  have := heap_setCell_same w rb 2 _ _ (.int .i64 (q : Nat)) hr
  unfold RowBlk
  rw [this]
  rfl
end
def nextOf (W : World) (rb : Nat) : Nat := (((W.cell? ⟨rb, 2, none⟩).map intOf).getD 0).toNat
theorem RowBlk.nextOf {w : World} {rb : Nat} {h : Int} {sb n p : Nat} (hr : RowBlk w rb h sb n p) : nextOf w rb = p := by
  unfold Go.Proofs.YtmdckddenelneaaGreatDoor.nextOf
  rw [hr.c2]
  simp [intOf]

theorem getD_at {out : List Int} {x : Nat} (h : x < out.length) : out.getD x 0 = out[x] := Lh.getD_lt h
set_option maxRecDepth 100000 in
set_option maxHeartbeats 2000000 in
theorem take_core (rb sb sl n p0 p : Nat) (h : Int) (r : Nat → Nat) (out : List Int) (w : World) (hr : RowBlk w rb h sb n p0) (hs : IntRow w sb ((List.range n).map fun j => ((r j : Nat) : Int))) (ho : IntRow w sl out) (hlen : out.length = n)
    (h1 : rb ≠ sl) (h2 : rb ≠ sb) (h3 : sb ≠ sl) (hrn : ∀ j, j < n → r j < n) (hn : n ≤ 503) (hp : p < n) (hpp : p0 ≤ p) (hb : ∀ i, p0 ≤ i → i < p → out.getD (r i) 0 ≠ -1) (hf : out.getD (r p) 0 = -1) :
    Calls Tryz.prog 46 #[.pointer (some ⟨rb, 0, none⟩), .slice (some ⟨sl, 0, none⟩) n n] w fun e w' => e = .returned (.tuple #[]) ∧ RowBlk w' rb h sb n p ∧ IntRow w' sl (out.set (r p) h) ∧ Two rb sl w w' := by
  have HS : Hid (∀ W, Two rb sl w W → ∀ j, j < n → W.cell? ⟨sb, j, none⟩ = some (.int .i64 (r j : Nat))) := fun W hW j hj => by
    have hs' := hs.same (hW.block sb (fun e => h2 e.symm) h3)
    have := hs'.cell (k := j) (by simpa using hj)
    simpa using this
  have HB : Hid (∀ i, p0 ≤ i → i < p → out.getD (r i) 0 ≠ -1) := hb
  have HF : Hid (out.getD (r p) 0 = -1) := hf
  have HLEN : Hid (out.length = n) := hlen
  have HLT : Hid (∀ j, j < n → r j < n) := hrn
  have H1 : Hid (rb ≠ sl) := h1
  clear hs hb hf hlen hrn h1 h2 h3
  go_enter Tryz.func46, Tryz.ntmps46
  go_wp2_with fail
  go_loopw [] (fun W => Two rb sl w W ∧ IntRow W sl out ∧ ∃ q : Nat, p0 ≤ q ∧ q ≤ p ∧ RowBlk W rb h sb n q) (fun W => n - nextOf W rb)
  case atStart => exact ⟨Two.refl _ _ _, ho, p0, Nat.le_refl _, hpp, hr⟩
  case round =>
    obtain ⟨h2w, ho', q, hq0, hqp, hrq⟩ := hrel
    have HO : Hid (IntRow wr sl out) := ho'
    have HRQ : Hid (RowBlk wr rb h sb n q) := hrq
    have H2W : Hid (Two rb sl w wr) := h2w
    have c1 := hrq.c1
    have c2 := hrq.c2
    have f2 := hrq.frozen 2
    have c0 := hrq.c0
    have cs := HS.out _ h2w q (by omega)
    have hxn := HLT.out q (by omega)
    have co : wr.cell? ⟨sl, r q, none⟩ = some (.int .i64 (out.getD (r q) 0)) := by
      rw [ho'.cell (by rw [HLEN.out]; exact hxn), getD_at (by rw [HLEN.out]; exact hxn)]
    have fo := ho'.frozen (r q)
    clear ho' hrq hr ho h2w
    have hqi : (q : Int) < (n : Int) := by omega
    have hxi : (r q : Int) < (n : Int) := by omega
    by_cases hqq : q < p
    · have hne := HB.out q hq0 hqq
      have hbb : (out.getD (r q) 0 != -1) = true := by simpa using hne
      clear hne
      generalize out.getD (r q) 0 = val at *
      generalize r q = x at *
      go_wp2_with fail
      go_quiet (fail)
      go_wp2_with fail
      have hcast : (q : Int) + 1 = ((q + 1 : Nat) : Int) := rfl
      have hd1 : RowBlk (wr.drewN nq) rb h sb n q := HRQ.out
      have hd2 : IntRow (wr.drewN nq) sl out := HO.out
      rw [hcast]
      have hstep := hd1.step (q + 1)
      refine ⟨⟨(H2W.out.drewN nq).setX 2 _, hd2.same (heap_setCell_other _ _ _ _ (fun e => H1.out e.symm)), q + 1, by omega, by omega, hstep⟩, ?_⟩
      rw [hstep.nextOf, HRQ.out.nextOf]
      omega
    · have hqe : q = p := by omega
      subst hqe
      have hbb : (out.getD (r q) 0 != -1) = false := by rw [HF.out]; rfl
      generalize out.getD (r q) 0 = val at *
      have HX : Hid (r q < n) := hxn
      generalize hrx : r q = x at *
      have HRX : Hid (r q = x) := hrx
      clear hrx
      go_wp2_with fail
      go_quiet (fail)
      go_wp2_with fail
      have e0 : (wr.drewN nq).cell? ⟨rb, 0, none⟩ = some (.int .i64 h) := c0
      have e1 : (wr.drewN nq).cell? ⟨rb, 1, none⟩ = some (.slice (some ⟨sb, 0, none⟩) n n) := c1
      have e2 : (wr.drewN nq).cell? ⟨rb, 2, none⟩ = some (.int .i64 (q : Nat)) := c2
      have es : (wr.drewN nq).cell? ⟨sb, q, none⟩ = some (.int .i64 (x : Nat)) := cs
      have eo : (wr.drewN nq).cell? ⟨sl, x, none⟩ = some (.int .i64 val) := co
      have ef : (wr.drewN nq).frozen? ⟨sl, x, none⟩ = false := fo
      have ER : Hid (RowBlk (wr.drewN nq) rb h sb n q) := HRQ.out
      have EO : Hid (IntRow (wr.drewN nq) sl out) := HO.out
      have E2 : Hid (Two rb sl w (wr.drewN nq)) := H2W.out.drewN nq
      clear c0 c1 c2 cs co fo f2 HRQ HO H2W
      generalize wr.drewN nq = W1 at *
      go_region
      all_goals
        go_wp2
        refine bodyPost_end (v := .tuple #[]) (by simp [results, Tryz.results46, go_sem]) rfl ⟨rfl, ?_, ?_, ?_⟩
        · exact ER.out.same (heap_setCell_other W1 ⟨sl, x, none⟩ rb (.int .i64 h) H1.out)
        · rw [HRX.out]
          exact EO.out.set x h
        · exact (E2.out.setY x (.int .i64 h)).drew
theorem take_any (rb sb sl n p0 p : Nat) (h : Int) (s : ByteArray) (out : List Int) (w : World) (hr : RowBlk w rb h sb n p0) (hs : IntRow w sb (Lh.rowL s n)) (ho : IntRow w sl out) (hlen : out.length = n)
    (h1 : rb ≠ sl) (h2 : rb ≠ sb) (h3 : sb ≠ sl) (hn2 : 2 ≤ n) (hn : n ≤ 503) (hp : p < n) (hpp : p0 ≤ p) (hb : ∀ i, p0 ≤ i → i < p → out.getD (Lh.rowN s n i) 0 ≠ -1) (hf : out.getD (Lh.rowN s n p) 0 = -1) :
    Calls Tryz.prog 46 #[.pointer (some ⟨rb, 0, none⟩), .slice (some ⟨sl, 0, none⟩) n n] w fun e w' => e = .returned (.tuple #[]) ∧ RowBlk w' rb h sb n p ∧ IntRow w' sl (out.set (Lh.rowN s n p) h) ∧ Two rb sl w w' :=
  take_core rb sb sl n p0 p h (Lh.rowN s n) out w hr hs ho hlen h1 h2 h3 (fun _ _ => Lh.rowAt_lt hn2) hn hp hpp hb hf
end Go.Proofs.YtmdckddenelneaaGreatDoor

/- The landed rowsOf: a map from names to rows. -/
namespace Go.Proofs.YtmdckddenelneaaGreatDoor
open Go.RowKit Go.Maps Go.ChangeMaps

theorem zeroRow (w : World) : (zeroValue 102).run Tryz.prog w = .ok (.pointer none) w := Tryz.zeroValue102 w
/-- What rowsOf lays for the names up to k. -/
structure Laid (xs : List ByteArray) (n B mb k : Nat) (rb sb : Nat → Nat) (D : DataW Unit) (W : World) : Prop where
  map : W.ownsMap Tryz.prog 9 ptrElem mb k D
  isMap : IsMap D
  atKey : ∀ i (h : i < xs.length), i < k → D.atKey (.string (xs[i]).data.toList) .nil = .lit (.int .i64 (rb i : Nat))
  row : ∀ i, i < k → RowBlk W (rb i) (i : Nat) (sb i) n 0
  slots : ∀ i (h : i < xs.length), i < k → IntRow W (sb i) (Lh.rowL xs[i] n)
  base : B ≤ mb
  rbLo : ∀ i, i < k → mb < rb i
  sbLo : ∀ i, i < k → mb < sb i
  rbLt : ∀ i, i < k → rb i < W.heap.size
  inj : ∀ i j, i < k → j < k → rb i = rb j → i = j
  apart : ∀ i j, i < k → j < k → rb i ≠ sb j

theorem makeMap_hint (w : World) (n : Nat) : (Instr.makeMap 100 (some (.int .i64 (n : Nat)))).run Tryz.prog w = .ok (.map (some w.heap.size)) (w.alloc (.map #[] 0)) := by
  simp [Instr.makeMap, asInt, asIntOf]
theorem key_ne {xs : List ByteArray} (hnd : xs.Nodup) {i k : Nat} (hi : i < xs.length) (hk : k < xs.length) (h : i ≠ k) : Lit.string (xs[i]).data.toList ≠ Lit.string (xs[k]).data.toList := by
  intro e
  simp only [Lit.string.injEq] at e
  refine h (Lh.nodup_inj hnd hi hk ?_)
  generalize xs[i] = x at *
  generalize xs[k] = y at *
  cases x
  cases y
  simpa using e
theorem Laid.next {xs : List ByteArray} {n B mb k : Nat} {rb sb : Nat → Nat} {D : DataW Unit} {W w1 w3 : World} (hL : Laid xs n B mb k rb sb D W) (hnd : xs.Nodup) (hk : k < xs.length) {g : Nat} (hb1 : Below W.heap.size W w1) (hg : W.heap.size ≤ g) (hrow : IntRow w1 g (Lh.rowL xs[k] n))
    (hown3 : w3.ownsMap Tryz.prog 9 ptrElem mb (k + 1) (D.put (.string (xs[k]).data.toList) (.lit (.int .i64 (w1.heap.size : Nat)))))
    (hgr : (w1.alloc (.cells #[.int .i64 (k : Nat), .slice (some ⟨g, 0, none⟩) n n, .int .i64 0] 142)).grownBy w3 (some mb)) : ∃ rb' sb' D', Laid xs n B mb (k + 1) rb' sb' D' w3 := by
  have hmb := hL.map.lt
  have hs1 := hb1.size
  have hglt := hrow.lt
  have hsa : (w1.alloc (.cells #[.int .i64 (k : Nat), .slice (some ⟨g, 0, none⟩) n n, .int .i64 0] 142)).heap.size = w1.heap.size + 1 := by simp
  have hs3 := hgr.size
  rw [hsa] at hs3
  have same : ∀ q, q < w1.heap.size → q ≠ mb → w3.heap[q]? = w1.heap[q]? := fun q hq hne => by
    rw [hgr.block q (by omega) (fun e => hne (Option.some.inj e)), Below.heap_alloc _ _ _ hq]
  have old : ∀ q, q < W.heap.size → q ≠ mb → w3.heap[q]? = W.heap[q]? := fun q hq hne => (same q (by omega) hne).trans (hb1.block q hq)
  refine ⟨fun i => if i = k then w1.heap.size else rb i, fun i => if i = k then g else sb i, _, hown3, hL.isMap.put _ _, fun i hi hik => ?_, fun i hik => ?_, fun i hi hik => ?_, hL.base, fun i hik => ?_, fun i hik => ?_, fun i hik => ?_, fun i j hi hj e => ?_, fun i j hi hj e => ?_⟩
  · by_cases e : i = k
    · subst e
      simp only [if_true]
      exact atKey_put_same (k := .string _) hL.isMap (by simp [WideAt.IsKeyLit]) _ _
    · simp only [if_neg e]
      rw [atKey_put_other (key_ne hnd hi hk e)]
      exact hL.atKey i hi (by omega)
  · by_cases e : i = k
    · subst e
      simp only [if_true]
      unfold RowBlk
      rw [hgr.block _ (by omega) (fun e => by have := Option.some.inj e; omega)]
      exact heap_alloc_new w1 _
    · simp only [if_neg e]
      have h1 := hL.rbLt i (by omega)
      have h2 := hL.rbLo i (by omega)
      exact (hL.row i (by omega)).same (old _ h1 (by omega))
  · by_cases e : i = k
    · subst e
      simp only [if_true]
      exact hrow.same (same g hglt (by omega))
    · simp only [if_neg e]
      have h2 := hL.sbLo i (by omega)
      have h3 := hL.slots i hi (by omega)
      exact h3.same (old _ h3.lt (by omega))
  · by_cases e : i = k
    · simp only [if_pos e]; omega
    · simp only [if_neg e]; exact hL.rbLo i (by omega)
  · by_cases e : i = k
    · simp only [if_pos e]; omega
    · simp only [if_neg e]; exact hL.sbLo i (by omega)
  · by_cases e : i = k
    · simp only [if_pos e]; omega
    · simp only [if_neg e]
      have := hL.rbLt i (by omega)
      omega
  · by_cases e1 : i = k <;> by_cases e2 : j = k
    · omega
    · simp only [if_pos e1, if_neg e2] at e
      have := hL.rbLt j (by omega)
      omega
    · simp only [if_neg e1, if_pos e2] at e
      have := hL.rbLt i (by omega)
      omega
    · simp only [if_neg e1, if_neg e2] at e
      exact hL.inj i j (by omega) (by omega) e
  · by_cases e1 : i = k <;> by_cases e2 : j = k
    · simp only [if_pos e1, if_pos e2] at e; omega
    · simp only [if_pos e1, if_neg e2] at e
      have hj' : j < xs.length := by omega
      have := (hL.slots j hj' (by omega)).lt
      omega
    · simp only [if_neg e1, if_pos e2] at e
      have := hL.rbLt i (by omega)
      omega
    · simp only [if_neg e1, if_neg e2] at e
      exact hL.apart i j (by omega) (by omega) e
theorem keyStr (s : ByteArray) (hs : s.size ≤ 300) : keyOf Tryz.prog 9 (.string s) = some (.string s.data.toList) := Go.WideMaps.keyOf_string_mk Tryz.underlying9 (Nat.le_trans hs (by unfold maxLen; omega))
set_option maxRecDepth 100000 in
set_option maxHeartbeats 2000000 in
theorem rowsOf_core (b o c : Nat) (xs : List ByteArray) (n : Nat) (w : World) (hx : ∀ k (h : k < xs.length), w.cell? ⟨b, o + k, none⟩ = some (.string xs[k])) (hl : xs.length ≤ 12) (hnd : xs.Nodup) (hsz : ∀ k (h : k < xs.length), (xs[k]).size ≤ 300) (h2 : 2 ≤ n) (h5 : n ≤ 503) :
    Calls Tryz.prog 45 #[.slice (some ⟨b, o, none⟩) xs.length c, .int .i64 n] w fun e w' => ∃ mb rb sb D, e = .returned (.map (some mb)) ∧ Laid xs n w.heap.size mb xs.length rb sb D w' ∧ Below w.heap.size w w' := by
  have HX : Hid (∀ k (h : k < xs.length), w.cell? ⟨b, o + k, none⟩ = some (.string xs[k])) := hx
  have HND : Hid (xs.Nodup) := hnd
  have HSZ : Hid (∀ k (h : k < xs.length), (xs[k]).size ≤ 300) := hsz
  clear hx hnd hsz
  have hmm := makeMap_hint w xs.length
  go_enter Tryz.func45, Tryz.ntmps45
  go_wp2_with fail
  go_loopw [13] (fun t W => Below w.heap.size w W ∧ ∃ k : Nat, k ≤ xs.length ∧ t = .int .i64 k ∧ ∃ rb sb D, Laid xs n w.heap.size w.heap.size k rb sb D W) (fun t _ => xs.length - (intOf t).toNat)
  case atStart =>
    refine ⟨(Below.refl _ _).alloc (Nat.le_refl _) _, 0, Nat.zero_le _, rfl, fun _ => 0, fun _ => 0, _, World.ownsMap_made w _ _ _, isMap_empty, ?_, ?_, ?_, Nat.le_refl _, ?_, ?_, ?_, ?_, ?_⟩
    all_goals intros; omega
  case round =>
    obtain ⟨hb, k, hk, rfl, rb, sb, D, hL⟩ := hrel
    clear hmm
    by_cases hlt : k < xs.length
    · have cx := below_cell hb (HX.out k hlt)
      have hsz := HSZ.out k hlt
      have hkey := keyStr xs[k] hsz
      have hslot := slotsOf_any xs[k] n wr hsz h2 h5
      have HL : Hid (Laid xs n w.heap.size w.heap.size k rb sb D wr) := hL
      clear hL
      have hkl : k < maxLen := by unfold maxLen; omega
      go_wp2_with fail
      refine hslot.mono ?_
      rintro e w1 ⟨g, rfl, hg, hrow, hb1⟩
      have hown : (w1.alloc (.cells #[.int .i64 (k : Nat), .slice (some ⟨g, 0, none⟩) n n, .int .i64 0] 142)).ownsMap Tryz.prog 9 ptrElem w.heap.size k D :=
        (ownsMap_same HL.out.map (hb1.block _ HL.out.map.lt)).alloc _
      have HR : Hid (IntRow w1 g (Lh.rowL xs[k] n)) := hrow
      clear hrow hslot
      go_wp2_with (at_mapUpdate; refine wpList_mapUpdate_own _ rfl _ _ _ 100 rfl 9 102 (string_keyed Tryz.underlying9) Tryz.underlying100 ptrElem w.heap.size k D rfl hown hkl _ _ (.string (xs[k]).data.toList) rfl rfl hkey (.lit (.int .i64 (w1.heap.size : Nat))) [] (ptrElem_mk _) ?_; intro w3 hown3 hgr3)
      go_roundw
      case rel =>
        have hb2 : Below w.heap.size w w1 := below_then hb hb1
        exact ⟨(hb2.alloc hb2.size _).grown hgr3 (by have := hb2.size; simp; omega) (fun k h => by cases h; exact Nat.le_refl _), k + 1, by omega, by go_num, HL.out.next HND.out hlt hb1 hg HR.out hown3 hgr3⟩
      case measure => simp [intOf]; omega
    · have hke : k = xs.length := by omega
      have hd : decide ((k : Int) < (xs.length : Int)) = false := by simp; omega
      have HL : Hid (∃ rb sb D, Laid xs n w.heap.size w.heap.size xs.length rb sb D wr) := ⟨rb, sb, D, hke ▸ hL⟩
      clear hL hke
      go_wp2
      go_ret
      obtain ⟨rb, sb, D, hL⟩ := HL.out
      exact ⟨_, rb, sb, D, rfl, hL, hb⟩
end Go.Proofs.YtmdckddenelneaaGreatDoor
