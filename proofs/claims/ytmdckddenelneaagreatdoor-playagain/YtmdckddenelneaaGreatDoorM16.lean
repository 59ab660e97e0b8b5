/- Sizes: what is a prime, by trial up to the root and up to the number. -/
import Derived.Test.YtmdckddenelneaaGreatDoorTMath
import Derived.Test.YtmdckddenelneaaGreatDoorM5
import Derived.Test.YtmdckddenelneaaGreatDoorM15
namespace Go.Proofs.YtmdckddenelneaaGreatDoor
namespace Lh
theorem prm_of_roots {n : Nat} (h2 : 2 ≤ n) (h : ∀ d, 2 ≤ d → d * d ≤ n → n % d ≠ 0) : Prm n := by
  refine ⟨h2, fun k hk hkn hz => ?_⟩
  obtain ⟨q, hq⟩ := Nat.dvd_of_mod_eq_zero hz
  have hq2 : 2 ≤ q := by
    rcases Nat.lt_or_ge q 2 with hlt | hge
    · have : q = 0 ∨ q = 1 := by omega
      rcases this with rfl | rfl
      · omega
      · omega
    · exact hge
  rcases Nat.le_total k q with hle | hle
  · exact h k hk (by rw [hq]; exact Nat.mul_le_mul_left _ hle) hz
  · exact h q hq2 (by rw [hq]; exact Nat.mul_le_mul_right _ hle) (by rw [hq, Nat.mul_mod_left])
theorem root_lt {n d : Nat} (h2 : 2 ≤ d) (hd : d * d ≤ n) : d < n := by
  have : d * 2 ≤ d * d := Nat.mul_le_mul_left _ h2
  omega
theorem root_small {n d : Nat} (hn : n ≤ 503) (hd : d * d ≤ n) : d ≤ 22 := by
  rcases Nat.lt_or_ge 22 d with h | h
  · have : 23 * 23 ≤ d * d := Nat.mul_le_mul (by omega) (by omega)
    omega
  · exact h
theorem sq_le {d : Nat} (h : d ≤ 23) : d * d ≤ 529 := Nat.mul_le_mul h h
end Lh
end Go.Proofs.YtmdckddenelneaaGreatDoor

/- Sizes of tables: the reference's SizeError, the landed checkSize. -/
namespace Go.Proofs.YtmdckddenelneaaGreatDoor
open Go.RowKit

theorem sq_cast (k : Nat) : (k : Int) * (k : Int) = ((k * k : Nat) : Int) := by simp

end Go.Proofs.YtmdckddenelneaaGreatDoor

/- Rows: the reference's RowOf, the landed slotsOf. -/
namespace Go.Proofs.YtmdckddenelneaaGreatDoor
open Go.RowKit

theorem num_lt (s : ByteArray) (k : Nat) : Lh.num s k < 18446744073709551616 := Lh.turn_lt _
theorem rem_small (a n : Nat) (hn : 0 < n) : a % n < n := Nat.mod_lt _ hn
theorem rowL_snoc (s : ByteArray) (n j : Nat) (h : j < n) : (Lh.rowL s n).take j ++ [((Lh.rowN s n j : Nat) : Int)] = (Lh.rowL s n).take (j + 1) := by
  rw [List.take_succ_eq_append_getElem (by rw [Lh.rowL_length]; exact h), Lh.rowL_get]
/-- offset and skip, as the program reckons them -/
theorem row_parts (s : ByteArray) (n : Nat) (h2 : 2 ≤ n) (h5 : n ≤ 503) : ∃ o k : Nat, o < n ∧ k + 1 < n ∧ (Lh.num s 1 : Int) % (n : Int) = (o : Int) ∧ (Lh.num s 2 : Int) % ((n : Int) - 1) = (k : Int) ∧
    ∀ j : Nat, j < n → 0 ≤ (j : Int) * ((k : Int) + 1) ∧ (j : Int) * ((k : Int) + 1) ≤ 300000 ∧ ((o : Int) + (j : Int) * ((k : Int) + 1)) % (n : Int) = ((Lh.rowN s n j : Nat) : Int) := by
  refine ⟨Lh.num s 1 % n, Lh.num s 2 % (n - 1), rem_small _ _ (by omega), ?_, by simp, ?_, fun j hj => ?_⟩
  · have := rem_small (Lh.num s 2) (n - 1) (by omega)
    omega
  · rw [Int.natCast_emod, Int.natCast_sub (by omega)]; rfl
  · have hk := rem_small (Lh.num s 2) (n - 1) (by omega)
    have hb : j * (Lh.num s 2 % (n - 1) + 1) ≤ 503 * 503 := Nat.mul_le_mul (by omega) (by omega)
    have e : (j : Int) * (((Lh.num s 2 % (n - 1) : Nat) : Int) + 1) = ((j * (Lh.num s 2 % (n - 1) + 1) : Nat) : Int) := by rw [Int.natCast_mul, Int.natCast_add]; rfl
    refine ⟨by omega, by omega, ?_⟩
    rw [e, ← Int.natCast_add, ← Int.natCast_emod]
    rfl

end Go.Proofs.YtmdckddenelneaaGreatDoor

/- The landed slotsOf. -/
namespace Go.Proofs.YtmdckddenelneaaGreatDoor
open Go.RowKit
theorem take_set_snoc {α : Type} {xs : List α} {j : Nat} (h : j < xs.length) (v : α) : (xs.set j v).take (j + 1) = xs.take j ++ [v] := by
  rw [List.take_succ_eq_append_getElem (by simpa using h)]
  have e : (xs.take j).set j v = xs.take j := List.set_eq_of_length_le (by simp; omega)
  simp [List.take_set, e]
set_option maxRecDepth 100000 in
set_option maxHeartbeats 2000000 in
theorem slotsOf_any (s : ByteArray) (n : Nat) (w : World) (hs : s.size ≤ 300) (h2 : 2 ≤ n) (h5 : n ≤ 503) :
    Calls Tryz.prog 69 #[.string s, .int .i64 n] w fun e w' => ∃ g, e = .returned (.slice (some ⟨g, 0, none⟩) n n) ∧ w.heap.size ≤ g ∧ IntRow w' g (Lh.rowL s n) ∧ Below w.heap.size w w' := by
  obtain ⟨i, hi, hz0, hz1, hz2⟩ := info_parts infoI
  have hA := num_lt s 1
  have hB := num_lt s 2
  obtain ⟨o, k, ho, hk, hc1, hc2, hrow⟩ := row_parts s n h2 h5
  have HROW : Hid (∀ j : Nat, j < n → 0 ≤ (j : Int) * ((k : Int) + 1) ∧ (j : Int) * ((k : Int) + 1) ≤ 300000 ∧ ((o : Int) + (j : Int) * ((k : Int) + 1)) % (n : Int) = ((Lh.rowN s n j : Nat) : Int)) := hrow
  clear hrow
  have hn0 : ((n : Int) == 0) = false := by simp; omega
  have hn1 : ((n : Int) - 1 == 0) = false := by rw [beq_eq_false_iff_ne]; omega
  have hbyt : i.bytes * n ≤ 281474976710656 := by rw [hz2]; omega
  have hmax : n ≤ maxLen := by unfold maxLen; omega
  go_enter Tryz.func69, Tryz.ntmps69
  go_wp2_with fail
  refine (of_any s 1 _ hs).mono ?_
  rintro e w1 ⟨rfl, hb1⟩
  go_wp2_with fail
  refine (of_any s 2 _ hs).mono ?_
  rintro e w2 ⟨rfl, hb2⟩
  have hbA := below_then hb1 hb2
  clear hb1 hb2
  go_wp2_with (at_make; refine wpList_make_full w2 rfl _ _ 29 rfl w2.heap.size 3 i _ 1 Tryz.underlying29 hi hz0 hz1 _ _ _ _ n rfl rfl rfl rfl hbyt hmax (Nat.le_refl _) ?_)
  intro w3 hown hgrow
  have hb3 : Below w.heap.size w w3 := hbA.trans ((below_grown hgrow (fun k h => by cases h)).mono hbA.size)
  rw [made_ints2] at hown
  have hrow0 := IntRow.of_owns hown
  have hgb := hbA.size
  clear hown hgrow hbA
  generalize w2.heap.size = g at *
  go_wp2_with fail
  try rw [hc2]
  clear hc1 hc2
  go_loopw [27] (fun t W => Below w.heap.size w W ∧ ∃ j : Nat, j ≤ n ∧ t = .int .i64 j ∧ ∃ xs : List Int, xs.length = n ∧ xs.take j = (Lh.rowL s n).take j ∧ IntRow W g xs) (fun t _ => n - (intOf t).toNat)
  case atStart => exact ⟨hb3, 0, Nat.zero_le _, rfl, _, by simp, by simp, hrow0⟩
  case round =>
    obtain ⟨hb, j, hj, rfl, xs, hlen, htake, hrow⟩ := hrel
    have HT : Hid (xs.take j = (Lh.rowL s n).take j) := htake
    have HLEN : Hid (xs.length = n) := hlen
    have HR : Hid (IntRow wr g xs) := hrow
    have HR0 : Hid (IntRow w3 g (List.replicate n 0)) := hrow0
    clear htake
    by_cases hlt : j < n
    · obtain ⟨hj0, hj1, hj2⟩ := HROW.out j hlt
      rw [show (k : Int) + 1 = 1 + (k : Int) from Int.add_comm _ _] at hj0 hj1 hj2
      obtain ⟨x0, c0⟩ : ∃ x, wr.cell? ⟨g, j, none⟩ = some (.int .i64 x) := ⟨_, hrow.cell (k := j) (by omega)⟩
      have f0 := hrow.frozen j
      have hd : decide ((j : Int) < (n : Int)) = true := by simp; omega
      clear hrow hlen hrow0
      go_wp2_with fail
      go_roundw
      case rel =>
        refine ⟨hb.setCell hgb _, j + 1, by omega, by go_num, xs.set j (Lh.rowN s n j : Nat), by simp [HLEN.out], ?_, HR.out.set _ _⟩
        rw [take_set_snoc (by rw [HLEN.out]; exact hlt), HT.out, rowL_snoc s n j hlt]
      case measure => simp [intOf]; omega
    · have hd : decide ((j : Int) < (n : Int)) = false := by simp; omega
      have hfin : IntRow wr g (Lh.rowL s n) := by
        have h1 := HT.out
        rw [List.take_of_length_le (by rw [HLEN.out]; omega), List.take_of_length_le (by rw [Lh.rowL_length]; omega)] at h1
        rw [← h1]
        exact hrow
      have HF : Hid (IntRow wr g (Lh.rowL s n)) := hfin
      clear hfin hrow hrow0 hlen
      go_wp2
      go_ret
      exact ⟨g, rfl, hgb, HF.out, hb⟩
end Go.Proofs.YtmdckddenelneaaGreatDoor

/- The landed take: the first free slot of the row. -/
namespace Go.Proofs.YtmdckddenelneaaGreatDoor
open Go.RowKit

/-- Only two blocks have turned. -/
structure Two (x y : Nat) (w w' : World) : Prop where
  os : w'.os = w.os
  tape : w'.tape = w.tape
  output : w'.output = w.output
  size : w'.heap.size = w.heap.size
  block : ∀ k, k ≠ x → k ≠ y → w'.heap[k]? = w.heap[k]?
theorem Two.refl (x y : Nat) (w : World) : Two x y w w := ⟨rfl, rfl, rfl, rfl, fun _ _ _ => rfl⟩
theorem Two.drewN {x y : Nat} {w w' : World} (h : Two x y w w') (n : Nat) : Two x y w (w'.drewN n) := ⟨h.os, h.tape, h.output, h.size, h.block⟩
theorem Two.drew {x y : Nat} {w w' : World} (h : Two x y w w') : Two x y w w'.drew := ⟨h.os, h.tape, h.output, h.size, h.block⟩
theorem Two.setX {x y : Nat} {w w' : World} (h : Two x y w w') (k : Nat) (v : Value) : Two x y w (w'.setCell ⟨x, k, none⟩ v) :=
  ⟨h.os, h.tape, h.output, by simpa [World.setCell] using h.size, fun i h1 h2 => (heap_setCell_other w' ⟨x, k, none⟩ i v h1).trans (h.block i h1 h2)⟩
theorem Two.setY {x y : Nat} {w w' : World} (h : Two x y w w') (k : Nat) (v : Value) : Two x y w (w'.setCell ⟨y, k, none⟩ v) :=
  ⟨h.os, h.tape, h.output, by simpa [World.setCell] using h.size, fun i h1 h2 => (heap_setCell_other w' ⟨y, k, none⟩ i v h2).trans (h.block i h1 h2)⟩
theorem Two.below {x y B : Nat} {w0 w w' : World} (h : Two x y w w') (hb : Below B w0 w) (hx : B ≤ x) (hy : B ≤ y) : Below B w0 w' :=
  hb.trans ⟨h.os, h.tape, h.output, by rw [h.size]; exact Nat.le_refl _, fun k hk => h.block k (by omega) (by omega)⟩

/-- Block rb is a row: its host's number, its slots, the next place. -/
def RowBlk (w : World) (rb : Nat) (h : Int) (sb n : Nat) (p : Nat) : Prop := w.heap[rb]? = some (.cells #[.int .i64 h, .slice (some ⟨sb, 0, none⟩) n n, .int .i64 (p : Nat)] 142 (0, 0))
section
variable {w w' : World} {rb : Nat} {h : Int} {sb n p : Nat}
theorem RowBlk.c0 (hr : RowBlk w rb h sb n p) : w.cell? ⟨rb, 0, none⟩ = some (.int .i64 h) := by rw [cell_of_row w rb 0 _ _ _ hr]; rfl
theorem RowBlk.c1 (hr : RowBlk w rb h sb n p) : w.cell? ⟨rb, 1, none⟩ = some (.slice (some ⟨sb, 0, none⟩) n n) := by rw [cell_of_row w rb 1 _ _ _ hr]; rfl
theorem RowBlk.c2 (hr : RowBlk w rb h sb n p) : w.cell? ⟨rb, 2, none⟩ = some (.int .i64 (p : Nat)) := by rw [cell_of_row w rb 2 _ _ _ hr]; rfl
theorem RowBlk.frozen (hr : RowBlk w rb h sb n p) (k : Nat) : w.frozen? ⟨rb, k, none⟩ = false := frozen_of_row w rb k _ _ hr
theorem RowBlk.same (hr : RowBlk w rb h sb n p) (he : w'.heap[rb]? = w.heap[rb]?) : RowBlk w' rb h sb n p := by
  unfold RowBlk
  rw [he]
  exact hr
theorem RowBlk.step (hr : RowBlk w rb h sb n p) (q : Nat) : RowBlk (w.setCell ⟨rb, 2, none⟩ (.int .i64 (q : Nat))) rb h sb n q := by
  have := heap_setCell_same w rb 2 _ _ (.int .i64 (q : Nat)) hr
  unfold RowBlk
  rw [this]
  rfl
end
def nextOf (W : World) (rb : Nat) : Nat := (((W.cell? ⟨rb, 2, none⟩).map intOf).getD 0).toNat
theorem RowBlk.nextOf {w : World} {rb : Nat} {h : Int} {sb n p : Nat} (hr : RowBlk w rb h sb n p) : nextOf w rb = p := by
  unfold Go.Proofs.YtmdckddenelneaaGreatDoor.nextOf
  rw [hr.c2]
  simp [intOf]

theorem getD_at {out : List Int} {x : Nat} (h : x < out.length) : out.getD x 0 = out[x] := Lh.getD_lt h
set_option maxRecDepth 100000 in
set_option maxHeartbeats 2000000 in
theorem take_core (rb sb sl n p0 p : Nat) (h : Int) (r : Nat → Nat) (out : List Int) (w : World) (hr : RowBlk w rb h sb n p0) (hs : IntRow w sb ((List.range n).map fun j => ((r j : Nat) : Int))) (ho : IntRow w sl out) (hlen : out.length = n)
    (h1 : rb ≠ sl) (h2 : rb ≠ sb) (h3 : sb ≠ sl) (hrn : ∀ j, j < n → r j < n) (hn : n ≤ 503) (hp : p < n) (hpp : p0 ≤ p) (hb : ∀ i, p0 ≤ i → i < p → out.getD (r i) 0 ≠ -1) (hf : out.getD (r p) 0 = -1) :
    Calls Tryz.prog 46 #[.pointer (some ⟨rb, 0, none⟩), .slice (some ⟨sl, 0, none⟩) n n] w fun e w' => e = .returned (.tuple #[]) ∧ RowBlk w' rb h sb n p ∧ IntRow w' sl (out.set (r p) h) ∧ Two rb sl w w' := by
  have HS : Hid (∀ W, Two rb sl w W → ∀ j, j < n → W.cell? ⟨sb, j, none⟩ = some (.int .i64 (r j : Nat))) := fun W hW j hj => by
    have hs' := hs.same (hW.block sb (fun e => h2 e.symm) h3)
    have := hs'.cell (k := j) (by simpa using hj)
    simpa using this
  have HB : Hid (∀ i, p0 ≤ i → i < p → out.getD (r i) 0 ≠ -1) := hb
  have HF : Hid (out.getD (r p) 0 = -1) := hf
  have HLEN : Hid (out.length = n) := hlen
  have HLT : Hid (∀ j, j < n → r j < n) := hrn
  have H1 : Hid (rb ≠ sl) := h1
  clear hs hb hf hlen hrn h1 h2 h3
  go_enter Tryz.func46, Tryz.ntmps46
  go_wp2_with fail
  go_loopw [] (fun W => Two rb sl w W ∧ IntRow W sl out ∧ ∃ q : Nat, p0 ≤ q ∧ q ≤ p ∧ RowBlk W rb h sb n q) (fun W => n - nextOf W rb)
  case atStart => exact ⟨Two.refl _ _ _, ho, p0, Nat.le_refl _, hpp, hr⟩
  case round =>
    obtain ⟨h2w, ho', q, hq0, hqp, hrq⟩ := hrel
    have HO : Hid (IntRow wr sl out) := ho'
    have HRQ : Hid (RowBlk wr rb h sb n q) := hrq
    have H2W : Hid (Two rb sl w wr) := h2w
    have c1 := hrq.c1
    have c2 := hrq.c2
    have f2 := hrq.frozen 2
    have c0 := hrq.c0
    have cs := HS.out _ h2w q (by omega)
    have hxn := HLT.out q (by omega)
    have co : wr.cell? ⟨sl, r q, none⟩ = some (.int .i64 (out.getD (r q) 0)) := by
      rw [ho'.cell (by rw [HLEN.out]; exact hxn), getD_at (by rw [HLEN.out]; exact hxn)]
    have fo := ho'.frozen (r q)
    clear ho' hrq hr ho h2w
    have hqi : (q : Int) < (n : Int) := by omega
    have hxi : (r q : Int) < (n : Int) := by omega
    by_cases hqq : q < p
    · have hne := HB.out q hq0 hqq
      have hbb : (out.getD (r q) 0 != -1) = true := by simpa using hne
      clear hne
      generalize out.getD (r q) 0 = val at *
      generalize r q = x at *
      go_wp2_with fail
      go_quiet (fail)
      go_wp2_with fail
      have hcast : (q : Int) + 1 = ((q + 1 : Nat) : Int) := rfl
      have hd1 : RowBlk (wr.drewN nq) rb h sb n q := HRQ.out
      have hd2 : IntRow (wr.drewN nq) sl out := HO.out
      rw [hcast]
      have hstep := hd1.step (q + 1)
      refine ⟨⟨(H2W.out.drewN nq).setX 2 _, hd2.same (heap_setCell_other _ _ _ _ (fun e => H1.out e.symm)), q + 1, by omega, by omega, hstep⟩, ?_⟩
      rw [hstep.nextOf, HRQ.out.nextOf]
      omega
    · have hqe : q = p := by omega
      subst hqe
      have hbb : (out.getD (r q) 0 != -1) = false := by rw [HF.out]; rfl
      generalize out.getD (r q) 0 = val at *
      have HX : Hid (r q < n) := hxn
      generalize hrx : r q = x at *
      have HRX : Hid (r q = x) := hrx
      clear hrx
      go_wp2_with fail
      go_quiet (fail)
      go_wp2_with fail
      have e0 : (wr.drewN nq).cell? ⟨rb, 0, none⟩ = some (.int .i64 h) := c0
      have e1 : (wr.drewN nq).cell? ⟨rb, 1, none⟩ = some (.slice (some ⟨sb, 0, none⟩) n n) := c1
      have e2 : (wr.drewN nq).cell? ⟨rb, 2, none⟩ = some (.int .i64 (q : Nat)) := c2
      have es : (wr.drewN nq).cell? ⟨sb, q, none⟩ = some (.int .i64 (x : Nat)) := cs
      have eo : (wr.drewN nq).cell? ⟨sl, x, none⟩ = some (.int .i64 val) := co
      have ef : (wr.drewN nq).frozen? ⟨sl, x, none⟩ = false := fo
      have ER : Hid (RowBlk (wr.drewN nq) rb h sb n q) := HRQ.out
      have EO : Hid (IntRow (wr.drewN nq) sl out) := HO.out
      have E2 : Hid (Two rb sl w (wr.drewN nq)) := H2W.out.drewN nq
      clear c0 c1 c2 cs co fo f2 HRQ HO H2W
      generalize wr.drewN nq = W1 at *
      go_region
      all_goals
        go_wp2
        refine bodyPost_end (v := .tuple #[]) (by simp [results, Tryz.results46, go_sem]) rfl ⟨rfl, ?_, ?_, ?_⟩
        · exact ER.out.same (heap_setCell_other W1 ⟨sl, x, none⟩ rb (.int .i64 h) H1.out)
        · rw [HRX.out]
          exact EO.out.set x h
        · exact (E2.out.setY x (.int .i64 h)).drew
theorem take_any (rb sb sl n p0 p : Nat) (h : Int) (s : ByteArray) (out : List Int) (w : World) (hr : RowBlk w rb h sb n p0) (hs : IntRow w sb (Lh.rowL s n)) (ho : IntRow w sl out) (hlen : out.length = n)
    (h1 : rb ≠ sl) (h2 : rb ≠ sb) (h3 : sb ≠ sl) (hn2 : 2 ≤ n) (hn : n ≤ 503) (hp : p < n) (hpp : p0 ≤ p) (hb : ∀ i, p0 ≤ i → i < p → out.getD (Lh.rowN s n i) 0 ≠ -1) (hf : out.getD (Lh.rowN s n p) 0 = -1) :
    Calls Tryz.prog 46 #[.pointer (some ⟨rb, 0, none⟩), .slice (some ⟨sl, 0, none⟩) n n] w fun e w' => e = .returned (.tuple #[]) ∧ RowBlk w' rb h sb n p ∧ IntRow w' sl (out.set (Lh.rowN s n p) h) ∧ Two rb sl w w' :=
  take_core rb sb sl n p0 p h (Lh.rowN s n) out w hr hs ho hlen h1 h2 h3 (fun _ _ => Lh.rowAt_lt hn2) hn hp hpp hb hf
end Go.Proofs.YtmdckddenelneaaGreatDoor
