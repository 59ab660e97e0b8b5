/- The landed rowsOf: a map from names to rows. -/
import Derived.Test.YtmdckddenelneaaGreatDoorM11
import Derived.Carry
namespace Go.Proofs.YtmdckddenelneaaGreatDoor
open Go.RowKit Go.Maps Go.ChangeMaps

theorem zeroRow (w : World) : (zeroValue 102).run Tryz.prog w = .ok (.pointer none) w := Tryz.zeroValue102 w
/-- What rowsOf lays for the names up to k. -/
structure Laid (xs : List ByteArray) (n B mb k : Nat) (rb sb : Nat → Nat) (D : DataW Unit) (W : World) : Prop where
  map : W.ownsMap Tryz.prog 9 ptrElem mb k D
  isMap : IsMap D
  atKey : ∀ i (h : i < xs.length), i < k → D.atKey (.string (xs[i]).data.toList) .nil = .lit (.int .i64 (rb i : Nat))
  row : ∀ i, i < k → RowBlk W (rb i) (i : Nat) (sb i) n 0
  slots : ∀ i (h : i < xs.length), i < k → IntRow W (sb i) (Lh.rowL xs[i] n)
  base : B ≤ mb
  rbLo : ∀ i, i < k → mb < rb i
  sbLo : ∀ i, i < k → mb < sb i
  rbLt : ∀ i, i < k → rb i < W.heap.size
  inj : ∀ i j, i < k → j < k → rb i = rb j → i = j
  apart : ∀ i j, i < k → j < k → rb i ≠ sb j

theorem makeMap_hint (w : World) (n : Nat) : (Instr.makeMap 100 (some (.int .i64 (n : Nat)))).run Tryz.prog w = .ok (.map (some w.heap.size)) (w.alloc (.map #[] 0)) := by
  simp [Instr.makeMap, asInt, asIntOf]
theorem key_ne {xs : List ByteArray} (hnd : xs.Nodup) {i k : Nat} (hi : i < xs.length) (hk : k < xs.length) (h : i ≠ k) : Lit.string (xs[i]).data.toList ≠ Lit.string (xs[k]).data.toList := by
  intro e
  simp only [Lit.string.injEq] at e
  refine h (Lh.nodup_inj hnd hi hk ?_)
  generalize xs[i] = x at *
  generalize xs[k] = y at *
  cases x
  cases y
  simpa using e
theorem Laid.next {xs : List ByteArray} {n B mb k : Nat} {rb sb : Nat → Nat} {D : DataW Unit} {W w1 w3 : World} (hL : Laid xs n B mb k rb sb D W) (hnd : xs.Nodup) (hk : k < xs.length) {g : Nat} (hb1 : Below W.heap.size W w1) (hg : W.heap.size ≤ g) (hrow : IntRow w1 g (Lh.rowL xs[k] n))
    (hown3 : w3.ownsMap Tryz.prog 9 ptrElem mb (k + 1) (D.put (.string (xs[k]).data.toList) (.lit (.int .i64 (w1.heap.size : Nat)))))
    (hgr : (w1.alloc (.cells #[.int .i64 (k : Nat), .slice (some ⟨g, 0, none⟩) n n, .int .i64 0] 142)).grownBy w3 (some mb)) : ∃ rb' sb' D', Laid xs n B mb (k + 1) rb' sb' D' w3 := by
  have hmb := hL.map.lt
  have hs1 := hb1.size
  have hglt := hrow.lt
  have hsa : (w1.alloc (.cells #[.int .i64 (k : Nat), .slice (some ⟨g, 0, none⟩) n n, .int .i64 0] 142)).heap.size = w1.heap.size + 1 := by simp
  have hs3 := hgr.size
  rw [hsa] at hs3
  have same : ∀ q, q < w1.heap.size → q ≠ mb → w3.heap[q]? = w1.heap[q]? := fun q hq hne => by
    rw [hgr.block q (by omega) (fun e => hne (Option.some.inj e)), Below.heap_alloc _ _ _ hq]
  have old : ∀ q, q < W.heap.size → q ≠ mb → w3.heap[q]? = W.heap[q]? := fun q hq hne => (same q (by omega) hne).trans (hb1.block q hq)
  refine ⟨fun i => if i = k then w1.heap.size else rb i, fun i => if i = k then g else sb i, _, hown3, hL.isMap.put _ _, fun i hi hik => ?_, fun i hik => ?_, fun i hi hik => ?_, hL.base, fun i hik => ?_, fun i hik => ?_, fun i hik => ?_, fun i j hi hj e => ?_, fun i j hi hj e => ?_⟩
  · by_cases e : i = k
    · subst e
      simp only [if_true]
      exact atKey_put_same (k := .string _) hL.isMap (by simp [WideAt.IsKeyLit]) _ _
    · simp only [if_neg e]
      rw [atKey_put_other (key_ne hnd hi hk e)]
      exact hL.atKey i hi (by omega)
  · by_cases e : i = k
    · subst e
      simp only [if_true]
      unfold RowBlk
      rw [hgr.block _ (by omega) (fun e => by have := Option.some.inj e; omega)]
      exact heap_alloc_new w1 _
    · simp only [if_neg e]
      have h1 := hL.rbLt i (by omega)
      have h2 := hL.rbLo i (by omega)
      exact (hL.row i (by omega)).same (old _ h1 (by omega))
  · by_cases e : i = k
    · subst e
      simp only [if_true]
      exact hrow.same (same g hglt (by omega))
    · simp only [if_neg e]
      have h2 := hL.sbLo i (by omega)
      have h3 := hL.slots i hi (by omega)
      exact h3.same (old _ h3.lt (by omega))
  · by_cases e : i = k
    · simp only [if_pos e]; omega
    · simp only [if_neg e]; exact hL.rbLo i (by omega)
  · by_cases e : i = k
    · simp only [if_pos e]; omega
    · simp only [if_neg e]; exact hL.sbLo i (by omega)
  · by_cases e : i = k
    · simp only [if_pos e]; omega
    · simp only [if_neg e]
      have := hL.rbLt i (by omega)
      omega
  · by_cases e1 : i = k <;> by_cases e2 : j = k
    · omega
    · simp only [if_pos e1, if_neg e2] at e
      have := hL.rbLt j (by omega)
      omega
    · simp only [if_neg e1, if_pos e2] at e
      have := hL.rbLt i (by omega)
      omega
    · simp only [if_neg e1, if_neg e2] at e
      exact hL.inj i j (by omega) (by omega) e
  · by_cases e1 : i = k <;> by_cases e2 : j = k
    · simp only [if_pos e1, if_pos e2] at e; omega
    · simp only [if_pos e1, if_neg e2] at e
      have hj' : j < xs.length := by omega
      have := (hL.slots j hj' (by omega)).lt
      omega
    · simp only [if_neg e1, if_pos e2] at e
      have := hL.rbLt i (by omega)
      omega
    · simp only [if_neg e1, if_neg e2] at e
      exact hL.apart i j (by omega) (by omega) e
theorem keyStr (s : ByteArray) (hs : s.size ≤ 300) : keyOf Tryz.prog 9 (.string s) = some (.string s.data.toList) := Go.WideMaps.keyOf_string_mk Tryz.underlying9 (Nat.le_trans hs (by unfold maxLen; omega))
set_option maxRecDepth 100000 in
set_option maxHeartbeats 2000000 in
theorem rowsOf_core (b o c : Nat) (xs : List ByteArray) (n : Nat) (w : World) (hx : ∀ k (h : k < xs.length), w.cell? ⟨b, o + k, none⟩ = some (.string xs[k])) (hl : xs.length ≤ 12) (hnd : xs.Nodup) (hsz : ∀ k (h : k < xs.length), (xs[k]).size ≤ 300) (h2 : 2 ≤ n) (h5 : n ≤ 503) :
    Calls Tryz.prog 45 #[.slice (some ⟨b, o, none⟩) xs.length c, .int .i64 n] w fun e w' => ∃ mb rb sb D, e = .returned (.map (some mb)) ∧ Laid xs n w.heap.size mb xs.length rb sb D w' ∧ Below w.heap.size w w' := by
  have HX : Hid (∀ k (h : k < xs.length), w.cell? ⟨b, o + k, none⟩ = some (.string xs[k])) := hx
  have HND : Hid (xs.Nodup) := hnd
  have HSZ : Hid (∀ k (h : k < xs.length), (xs[k]).size ≤ 300) := hsz
  clear hx hnd hsz
  have hmm := makeMap_hint w xs.length
  go_enter Tryz.func45, Tryz.ntmps45
  go_wp2_with fail
  go_loopw [13] (fun t W => Below w.heap.size w W ∧ ∃ k : Nat, k ≤ xs.length ∧ t = .int .i64 k ∧ ∃ rb sb D, Laid xs n w.heap.size w.heap.size k rb sb D W) (fun t _ => xs.length - (intOf t).toNat)
  case atStart =>
    refine ⟨(Below.refl _ _).alloc (Nat.le_refl _) _, 0, Nat.zero_le _, rfl, fun _ => 0, fun _ => 0, _, World.ownsMap_made w _ _ _, isMap_empty, ?_, ?_, ?_, Nat.le_refl _, ?_, ?_, ?_, ?_, ?_⟩
    all_goals intros; omega
  case round =>
    obtain ⟨hb, k, hk, rfl, rb, sb, D, hL⟩ := hrel
    clear hmm
    by_cases hlt : k < xs.length
    · have cx := below_cell hb (HX.out k hlt)
      have hsz := HSZ.out k hlt
      have hkey := keyStr xs[k] hsz
      have hslot := slotsOf_any xs[k] n wr hsz h2 h5
      have HL : Hid (Laid xs n w.heap.size w.heap.size k rb sb D wr) := hL
      clear hL
      have hkl : k < maxLen := by unfold maxLen; omega
      go_wp2_with fail
      refine hslot.mono ?_
      rintro e w1 ⟨g, rfl, hg, hrow, hb1⟩
      have hown : (w1.alloc (.cells #[.int .i64 (k : Nat), .slice (some ⟨g, 0, none⟩) n n, .int .i64 0] 142)).ownsMap Tryz.prog 9 ptrElem w.heap.size k D :=
        (ownsMap_same HL.out.map (hb1.block _ HL.out.map.lt)).alloc _
      have HR : Hid (IntRow w1 g (Lh.rowL xs[k] n)) := hrow
      clear hrow hslot
      go_wp2_with (at_mapUpdate; refine wpList_mapUpdate_own _ rfl _ _ _ 100 rfl 9 102 (string_keyed Tryz.underlying9) Tryz.underlying100 ptrElem w.heap.size k D rfl hown hkl _ _ (.string (xs[k]).data.toList) rfl rfl hkey (.lit (.int .i64 (w1.heap.size : Nat))) [] (ptrElem_mk _) ?_; intro w3 hown3 hgr3)
      go_roundw
      case rel =>
        have hb2 : Below w.heap.size w w1 := below_then hb hb1
        exact ⟨(hb2.alloc hb2.size _).grown hgr3 (by have := hb2.size; simp; omega) (fun k h => by cases h; exact Nat.le_refl _), k + 1, by omega, by go_num, HL.out.next HND.out hlt hb1 hg HR.out hown3 hgr3⟩
      case measure => simp [intOf]; omega
    · have hke : k = xs.length := by omega
      have hd : decide ((k : Int) < (xs.length : Int)) = false := by simp; omega
      have HL : Hid (∃ rb sb D, Laid xs n w.heap.size w.heap.size xs.length rb sb D wr) := ⟨rb, sb, D, hke ▸ hL⟩
      clear hL hke
      go_wp2
      go_ret
      obtain ⟨rb, sb, D, hL⟩ := HL.out
      exact ⟨_, rb, sb, D, rfl, hL, hb⟩
end Go.Proofs.YtmdckddenelneaaGreatDoor

/- The landed Make. -/
namespace Go.Proofs.YtmdckddenelneaaGreatDoor
open Go.RowKit Go.Maps Go.ChangeMaps

theorem nodup_of_good {xs : List ByteArray} (h : ∀ j, ∀ hj : j < xs.length, Good xs j hj) : xs.Nodup := by
  refine List.pairwise_iff_getElem.2 fun i j hi hj hij e => ?_
  have h2 := (h j hj).2
  rw [Lh.mem_true] at h2
  · cases h2
  · rw [List.mem_take_iff_getElem]
    exact ⟨i, by omega, e⟩
theorem fault_zero {xs : List ByteArray} {pl : Int} (h : IsFault xs 0 pl) : pl = -1 ∧ xs.length ≤ 12 ∧ xs.Nodup := by
  rcases h with ⟨_, h, _⟩ | ⟨_, i, _, _, _, ⟨_, h⟩ | ⟨_, _, h⟩⟩ | ⟨h, hg, _, h'⟩
  · cases h
  · cases h
  · cases h
  · exact ⟨h', by omega, nodup_of_good hg⟩
theorem errIs_zero {a : Nat → Addr} {W : World} {pl : Int} {v : Value} (h : ErrIs a W 0 pl v) : v = .nilIface := by
  rcases h with ⟨_, _, h⟩ | ⟨i, _, h, _⟩
  · exact h
  · omega
theorem errIs_pos {a : Nat → Addr} {W : World} {c : Nat} {pl : Int} {v : Value} (h : ErrIs a W c pl v) (hc : c ≠ 0) : ∃ t x, v = .iface t x := by
  rcases h with ⟨h, _⟩ | ⟨j, _, _, ⟨_, h⟩ | ⟨b, h, _⟩⟩
  · exact absurd h hc
  · exact ⟨_, _, h⟩
  · exact ⟨_, _, h⟩
theorem strs1_pos {w : World} {v : Value} {xs : List ByteArray} (h : Strs1 w v xs) (hp : 0 < xs.length) : ∃ b o c, v = .slice (some ⟨b, o, none⟩) xs.length c ∧ ∀ k (h : k < xs.length), w.cell? ⟨b, o + k, none⟩ = some (.string xs[k]) := by
  rcases h with ⟨rfl, _⟩ | ⟨b, o, c, rfl, _, hc⟩
  · cases hp
  · exact ⟨b, o, c, rfl, hc⟩

theorem tab_neg {xs : List ByteArray} {n t x : Nat} (h0 : 0 < xs.length) (hx : x < n) (h : (Lh.tab xs n t).getD x 0 < 0) : (Lh.tab xs n t).getD x 0 = -1 := by
  have hl : x < (Lh.tab xs n t).length := by rw [Lh.tab_length]; exact hx
  rw [getD_at hl] at h ⊢
  rcases Lh.fill_vals h0 t _ (List.getElem_mem hl) with e | ⟨k, _, e⟩
  · exact e
  · rw [e] at h
    unfold Lh.valsN at h
    omega
/-- After T turns. -/
structure St (xs : List ByteArray) (n g : Nat) (rb sb : Nat → Nat) (w5 : World) (T : Nat) (W : World) : Prop where
  os : W.os = w5.os
  tape : W.tape = w5.tape
  output : W.output = w5.output
  size : W.heap.size = w5.heap.size
  block : ∀ k, k ≠ g → (∀ i, i < xs.length → k ≠ rb i) → W.heap[k]? = w5.heap[k]?
  out : IntRow W g (Lh.tab xs n T)
  rows : ∀ i (h : i < xs.length), ∃ p, RowBlk W (rb i) (i : Nat) (sb i) n p ∧ ∀ q, q < p → 0 ≤ (Lh.tab xs n T).getD (Lh.rowN xs[i] n q) 0
theorem St.drewN {xs : List ByteArray} {n g : Nat} {rb sb : Nat → Nat} {w5 : World} {T : Nat} {W : World} (h : St xs n g rb sb w5 T W) (m : Nat) : St xs n g rb sb w5 T (W.drewN m) := ⟨h.os, h.tape, h.output, h.size, h.block, h.out, h.rows⟩
/-- what a turn finds -/
theorem St.find {xs : List ByteArray} {n g : Nat} {rb sb : Nat → Nat} {w5 : World} {T : Nat} {W : World} (h : St xs n g rb sb w5 T W) (hp : Lh.Prm n) (h0 : 0 < xs.length) (hT : T < n) :
    ∃ i, ∃ hi : i < xs.length, ∃ p0 p, Lh.nameAt (Lh.sortT xs) (T % xs.length) = xs[i] ∧ RowBlk W (rb i) (i : Nat) (sb i) n p0 ∧ p < n ∧ p0 ≤ p ∧
      (∀ q, p0 ≤ q → q < p → (Lh.tab xs n T).getD (Lh.rowN xs[i] n q) 0 ≠ -1) ∧ (Lh.tab xs n T).getD (Lh.rowN xs[i] n p) 0 = -1 ∧
      Lh.tab xs n (T + 1) = (Lh.tab xs n T).set (Lh.rowN xs[i] n p) (i : Nat) ∧ ∀ q, q < p → 0 ≤ (Lh.tab xs n (T + 1)).getD (Lh.rowN xs[i] n q) 0 := by
  have hk : T % xs.length < xs.length := Nat.mod_lt _ h0
  have hm := Lh.nameAt_mem hk
  have hi := Lh.ix_lt hm
  have hat := Lh.ix_at hm
  obtain ⟨p0, hr, htk⟩ := h.rows _ hi
  obtain ⟨hpn, hfree, hall⟩ := Lh.pick_spec (Lh.tab_free (xs := xs) hp h0 hT hk)
  have hrow : ∀ q, Lh.rowsN (Lh.sortT xs) n (T % xs.length) q = Lh.rowN xs[Lh.ix xs (Lh.nameAt (Lh.sortT xs) (T % xs.length))] n q := fun q => by rw [hat]; rfl
  have hstep := Lh.tab_step hpn hfree hall
  rw [hrow] at hfree hstep
  have hall' : ∀ q, q < Lh.pick (Lh.tab xs n T) (Lh.rowsN (Lh.sortT xs) n (T % xs.length)) n → 0 ≤ (Lh.tab xs n T).getD (Lh.rowN xs[Lh.ix xs (Lh.nameAt (Lh.sortT xs) (T % xs.length))] n q) 0 := fun q hq => by rw [← hrow]; exact hall q hq
  refine ⟨_, hi, p0, _, hat.symm, hr, hpn, ?_, fun q _ hq => ?_, tab_neg h0 (Lh.rowAt_lt hp.1) hfree, hstep, fun q hq => Lh.tab_keeps hp h0 (hall' q hq)⟩
  · rcases Nat.lt_or_ge (Lh.pick (Lh.tab xs n T) (Lh.rowsN (Lh.sortT xs) n (T % xs.length)) n) p0 with hlt | hge
    · have := htk _ hlt
      omega
    · exact hge
  · have := hall' q hq
    omega
theorem St.step {xs : List ByteArray} {n g B mb : Nat} {rb sb : Nat → Nat} {D : DataW Unit} {w5 : World} {T : Nat} {W W' : World} (h : St xs n g rb sb w5 T W) (hL : Laid xs n B mb xs.length rb sb D w5) (hg : g < B) (hp : Lh.Prm n) (h0 : 0 < xs.length) {i p : Nat} (hi : i < xs.length)
    (htab : Lh.tab xs n (T + 1) = (Lh.tab xs n T).set (Lh.rowN xs[i] n p) (i : Nat)) (htk : ∀ q, q < p → 0 ≤ (Lh.tab xs n (T + 1)).getD (Lh.rowN xs[i] n q) 0)
    (hr : RowBlk W' (rb i) (i : Nat) (sb i) n p) (ho : IntRow W' g ((Lh.tab xs n T).set (Lh.rowN xs[i] n p) (i : Nat))) (h2 : Two (rb i) g W W') : St xs n g rb sb w5 (T + 1) W' := by
  refine ⟨h2.os.trans h.os, h2.tape.trans h.tape, h2.output.trans h.output, h2.size.trans h.size, fun k hk hk' => (h2.block k (hk' i hi) hk).trans (h.block k hk hk'), by rw [htab]; exact ho, fun j hj => ?_⟩
  by_cases e : j = i
  · subst e
    exact ⟨p, hr, htk⟩
  · obtain ⟨q, hq, hqt⟩ := h.rows j hj
    have hlo := hL.rbLo j hj
    have hB := hL.base
    exact ⟨q, hq.same (h2.block _ (fun e' => e (hL.inj j i hj hi e')) (by omega)), fun r hr => Lh.tab_keeps hp h0 (hqt r hr)⟩
theorem St.below {xs : List ByteArray} {n g B : Nat} {rb sb : Nat → Nat} {w w5 : World} {T : Nat} {W : World} (h : St xs n g rb sb w5 T W) (hb : Below B w w5) (hg : B ≤ g) (hr : ∀ i, i < xs.length → B ≤ rb i) : Below B w W :=
  hb.trans ⟨h.os, h.tape, h.output, by rw [h.size]; exact Nat.le_refl _, fun k hk => h.block k (by omega) (fun i hi => by have := hr i hi; omega)⟩
theorem replicate_tab (xs : List ByteArray) (n : Nat) : List.replicate n (-1 : Int) = Lh.tab xs n 0 := rfl

end Go.Proofs.YtmdckddenelneaaGreatDoor

/- The reference's SomeFault, TableFault, Index, TableOf. -/
namespace Go.Proofs.YtmdckddenelneaaGreatDoor
open Go.RowKit

set_option maxHeartbeats 1000000 in
/-- Index of the reference, at a text that is there. -/
theorem refIx_core (b o c : Nat) (xs : List ByteArray) (s : ByteArray) (hm : s ∈ xs) (w : World) (hx : ∀ k (h : k < xs.length), w.cell? ⟨b, o + k, none⟩ = some (.string xs[k])) (hl : xs.length < 1000000) :
    Calls Tryz.prog 35 #[.slice (some ⟨b, o, none⟩) xs.length c, .string s] w fun e w' => e = .returned (.int .i64 (Lh.ix xs s : Nat)) ∧ w' = w := by
  have HX : Hid (∀ k (h : k < xs.length), w.cell? ⟨b, o + k, none⟩ = some (.string xs[k])) := hx
  have HM : Hid (s ∈ xs) := hm
  clear hx hm
  go_enter Tryz.func35, Tryz.ntmps35
  go_wp2
  go_loop [5] (fun t => ∃ k : Nat, k ≤ xs.length ∧ t = .int .i64 k ∧ ∀ j (h : j < xs.length), j < k → xs[j] ≠ s) (fun t => xs.length - (intOf t).toNat)
  case atStart => exact ⟨0, Nat.zero_le _, rfl, fun j _ h => absurd h (by omega)⟩
  case round =>
    obtain ⟨k, hk, rfl, hpre⟩ := hrel
    have HP : Hid (∀ j (h : j < xs.length), j < k → xs[j] ≠ s) := hpre
    clear hpre
    by_cases hlt : k < xs.length
    · have cx := HX.out k hlt
      by_cases heq : xs[k] = s
      · have HI : Hid (Lh.ix xs s = k) := Lh.ix_first hlt heq HP.out
        generalize xs[k] = xk at *
        have hne : (xk.toList == s.toList) = true := bytes_same heq
        clear heq
        go_wp2
        go_ret
        exact ⟨congrArg (fun z : Nat => Ending.returned (.int .i64 (z : Int))) HI.out.symm, rfl⟩
      · have HE : Hid (xs[k] ≠ s) := heq
        generalize hxk : xs[k] = xk at *
        have HXK : Hid (xs[k] = xk) := hxk
        have hne : (xk.toList == s.toList) = false := bytes_parts heq
        clear heq hxk
        go_wp2
        go_round
        case rel =>
          refine ⟨k + 1, by omega, by go_num, fun j h hj => ?_⟩
          by_cases hjk : j = k
          · subst hjk; rw [HXK.out]; exact HE.out
          · exact HP.out j h (by omega)
        case measure => simp [intOf]; omega
    · exfalso
      obtain ⟨j, hj, e⟩ := List.getElem_of_mem HM.out
      exact HP.out j hj (by omega) e

end Go.Proofs.YtmdckddenelneaaGreatDoor

/- The reference's TableOf: turn by turn. -/
namespace Go.Proofs.YtmdckddenelneaaGreatDoor
open Go.RowKit

def castL (av : List Nat) : List Int := av.map (fun k : Nat => (k : Int))
theorem castL_length (av : List Nat) : (castL av).length = av.length := by simp [castL]
theorem castL_set (av : List Nat) (k q : Nat) : (castL av).set k (q : Nat) = castL (av.set k q) := by simp [castL, List.map_set]
theorem castL_set_at (av : List Nat) (k q : Nat) (h : k < (castL (av.set k q)).length) : (castL (av.set k q))[k] = ((q : Nat) : Int) := by simp [castL]
theorem set_self (av : List Nat) (k : Nat) (h : k < av.length) : av.set k (av.getD k 0) = av := by
  rw [List.getD_eq_getElem?_getD, List.getElem?_eq_getElem h]
  simp
theorem set_set_nat (av : List Nat) (k q q' : Nat) : (av.set k q).set k q' = av.set k q' := by simp
theorem getD_set (av : List Nat) (k j q : Nat) (h : k < av.length) : (av.set k q).getD j 0 = if j = k then q else av.getD j 0 := by
  rw [List.getD_eq_getElem?_getD, List.getD_eq_getElem?_getD, List.getElem?_set]
  by_cases e : j = k
  · subst e; simp [h]
  · simp [e, Ne.symm e]
def nextA (W : World) (ga k : Nat) : Nat := (((W.cell? ⟨ga, k, none⟩).map intOf).getD 0).toNat
theorem nextA_at {W : World} {ga k q : Nat} (h : W.cell? ⟨ga, k, none⟩ = some (.int .i64 (q : Nat))) : nextA W ga k = q := by
  unfold nextA
  rw [h]
  simp [intOf]
/-- what a turn of the reference finds -/
theorem turn_find {xs : List ByteArray} {n T : Nat} (hp : Lh.Prm n) (h0 : 0 < xs.length) (hT : T < n) {p0 : Nat} (htk : ∀ q, q < p0 → 0 ≤ (Lh.tab xs n T).getD (Lh.rowsN (Lh.sortT xs) n (T % xs.length) q) 0) :
    ∃ p, p < n ∧ p0 ≤ p ∧ (∀ q, p0 ≤ q → q < p → 0 ≤ (Lh.tab xs n T).getD (Lh.rowsN (Lh.sortT xs) n (T % xs.length) q) 0) ∧ (Lh.tab xs n T).getD (Lh.rowsN (Lh.sortT xs) n (T % xs.length) p) 0 < 0 ∧
      Lh.tab xs n (T + 1) = (Lh.tab xs n T).set (Lh.rowsN (Lh.sortT xs) n (T % xs.length) p) (Lh.ix xs (Lh.nameAt (Lh.sortT xs) (T % xs.length)) : Nat) ∧ ∀ q, q < p → 0 ≤ (Lh.tab xs n (T + 1)).getD (Lh.rowsN (Lh.sortT xs) n (T % xs.length) q) 0 := by
  have hk : T % xs.length < xs.length := Nat.mod_lt _ h0
  obtain ⟨hpn, hfree, hall⟩ := Lh.pick_spec (Lh.tab_free (xs := xs) hp h0 hT hk)
  refine ⟨_, hpn, ?_, fun q _ hq => hall q hq, hfree, Lh.tab_step hpn hfree hall, fun q hq => Lh.tab_keeps hp h0 (hall q hq)⟩
  rcases Nat.lt_or_ge (Lh.pick (Lh.tab xs n T) (Lh.rowsN (Lh.sortT xs) n (T % xs.length)) n) p0 with hlt | hge
  · have := htk _ hlt
    omega
  · exact hge

/-- What the walk asks of names, rows and tables. -/
structure TAbs (xs : List ByteArray) (n : Nat) (nm : Nat → ByteArray) (R : Nat → Nat → Nat) (tb : Nat → List Int) (vx : Nat → Nat) : Prop where
  tb0 : tb 0 = List.replicate n (-1)
  len : ∀ T, (tb T).length = n
  lt : ∀ k q, R k q < n
  keeps : ∀ T x, 0 ≤ (tb T).getD x 0 → 0 ≤ (tb (T + 1)).getD x 0
  find : ∀ T p0, T < n → (∀ q, q < p0 → 0 ≤ (tb T).getD (R (T % xs.length) q) 0) → ∃ p, p < n ∧ p0 ≤ p ∧ (∀ q, p0 ≤ q → q < p → 0 ≤ (tb T).getD (R (T % xs.length) q) 0) ∧ (tb T).getD (R (T % xs.length) p) 0 < 0 ∧
    tb (T + 1) = (tb T).set (R (T % xs.length) p) (vx (T % xs.length) : Nat) ∧ ∀ q, q < p → 0 ≤ (tb (T + 1)).getD (R (T % xs.length) q) 0
  row : ∀ k, k < xs.length → ∀ W : World, Calls Tryz.prog 34 #[.string (nm k), .int .i64 n] W fun e w' => ∃ g c, e = .returned (.slice (some ⟨g, 0, none⟩) n c) ∧ W.heap.size ≤ g ∧ (∀ j, j < n → w'.cell? ⟨g, j, none⟩ = some (.int .i64 (R k j : Nat))) ∧ Below W.heap.size W w'
  name : ∀ k (h : k < (Lh.sortT xs).length), (Lh.sortT xs)[k] = nm k
  index : ∀ b o c k, k < xs.length → ∀ W : World, (∀ j (h : j < xs.length), W.cell? ⟨b, o + j, none⟩ = some (.string xs[j])) → Calls Tryz.prog 35 #[.slice (some ⟨b, o, none⟩) xs.length c, .string (nm k)] W fun e w' => e = .returned (.int .i64 (vx k : Nat)) ∧ w' = W

set_option maxRecDepth 100000 in
set_option maxHeartbeats 4000000 in
theorem tableOf_core (b o c : Nat) (xs : List ByteArray) (n : Nat) (nm : Nat → ByteArray) (R : Nat → Nat → Nat) (tb : Nat → List Int) (vx : Nat → Nat) (habs : TAbs xs n nm R tb vx) (w : World) (hx : ∀ k (h : k < xs.length), w.cell? ⟨b, o + k, none⟩ = some (.string xs[k])) (h0 : 0 < xs.length) (h12 : xs.length ≤ 12) (hcap : xs.length ≤ c) (h2 : 2 ≤ n) (h5 : n ≤ 503) :
    Calls Tryz.prog 16 #[.slice (some ⟨b, o, none⟩) xs.length c, .int .i64 n] w fun e w' => ∃ g, e = .returned (.slice (some ⟨g, 0, none⟩) n n) ∧ w.heap.size ≤ g ∧ IntRow w' g (tb n) ∧ Below w.heap.size w w' := by
  obtain ⟨i, hi, hz0, hz1, hz2⟩ := info_parts infoI
  have hsort := sortedOf_any (.slice (some ⟨b, o, none⟩) xs.length c) xs w (Or.inr ⟨b, o, c, rfl, hcap, hx⟩) (by omega)
  have HX : Hid (∀ k (h : k < xs.length), w.cell? ⟨b, o + k, none⟩ = some (.string xs[k])) := hx
  have ABS : Hid (TAbs xs n nm R tb vx) := habs
  clear hx habs
  have hl0 : ((xs.length : Int) == 0) = false := by rw [beq_eq_false_iff_ne]; omega
  have hbyt : i.bytes * n ≤ 281474976710656 := by rw [hz2]; omega
  have hmax : n ≤ maxLen := by unfold maxLen; omega
  have hbyt2 : i.bytes * xs.length ≤ 281474976710656 := by rw [hz2]; omega
  have hmax2 : xs.length ≤ maxLen := by unfold maxLen; omega
  go_enter Tryz.func16, Tryz.ntmps16
  go_wp2_with fail
  refine hsort.mono ?_
  rintro e w1 ⟨vn, rfl, hvn, hb1⟩
  clear hsort
  have hlen : (Lh.sortT xs).length = xs.length := Lh.sortT_length xs
  obtain ⟨nb, no, nc, rfl, hn⟩ := strs1_pos hvn (by omega)
  rw [hlen]
  have HN : Hid (∀ k (h : k < (Lh.sortT xs).length), w1.cell? ⟨nb, no + k, none⟩ = some (.string (Lh.sortT xs)[k])) := hn
  have HLEN : Hid ((Lh.sortT xs).length = xs.length) := hlen
  clear hn hvn hlen
  go_wp2_with (at_make; refine wpList_make_full _ rfl _ _ 29 rfl w1.heap.size 3 i _ 1 Tryz.underlying29 hi hz0 hz1 _ _ _ _ n rfl rfl rfl rfl hbyt hmax (Nat.le_refl _) ?_)
  intro w2 hown hgrow
  have hb2 : Below w1.heap.size w1 w2 := below_grown hgrow (fun k h => by cases h)
  rw [made_ints2] at hown
  have hrow0 := IntRow.of_owns hown
  have hgb := hb1.size
  have hnb : nb < w1.heap.size := World.block_lt_of_cell? w1 ⟨nb, no + 0, none⟩ (HN.out 0 (by rw [HLEN.out]; exact h0))
  clear hown hgrow
  have HB1 : Hid (Below w.heap.size w w1) := hb1
  clear hb1
  obtain ⟨g, hgg⟩ : ∃ g, w1.heap.size = g := ⟨_, rfl⟩
  rw [hgg] at hrow0 hgb hnb hb2
  rw [hgg]
  clear hgg
  go_wp2_with fail
  go_loopw [7] (fun t W => Below g w1 W ∧ ∃ j : Nat, j ≤ n ∧ t = .int .i64 j ∧ ∃ ys : List Int, ys.length = n ∧ ys.take j = List.replicate j (-1) ∧ IntRow W g ys) (fun t _ => n - (intOf t).toNat)
  case atStart => exact ⟨hb2, 0, Nat.zero_le _, rfl, _, by simp, by simp, hrow0⟩
  case round =>
    obtain ⟨hbg, j, hj, rfl, ys, hlen, htake, hrow⟩ := hrel
    have HT : Hid (ys.take j = List.replicate j (-1)) := htake
    have HYL : Hid (ys.length = n) := hlen
    have HR : Hid (IntRow wr g ys) := hrow
    clear htake hrow0 hb2
    by_cases hlt : j < n
    · obtain ⟨x0, c0⟩ : ∃ x, wr.cell? ⟨g, j, none⟩ = some (.int .i64 x) := ⟨_, hrow.cell (k := j) (by omega)⟩
      have f0 := hrow.frozen j
      have hd : decide ((j : Int) < (n : Int)) = true := by simp; omega
      clear hrow hlen
      go_wp2_with fail
      go_roundw
      case rel =>
        refine ⟨hbg.setCell (Nat.le_refl _) _, j + 1, by omega, by go_num, ys.set j (-1), by simp [HYL.out], ?_, HR.out.set _ _⟩
        rw [take_set_snoc (by rw [HYL.out]; exact hlt), HT.out, List.replicate_succ']
      case measure => simp [intOf]; omega
    · have hd : decide ((j : Int) < (n : Int)) = false := by simp; omega
      have hfin : IntRow wr g (tb 0) := by
        have h1 := HT.out
        rw [List.take_of_length_le (by rw [HYL.out]; omega), show j = n by omega, ← ABS.out.tb0] at h1
        rw [← h1]
        exact hrow
      have HF : Hid (IntRow wr g (tb 0)) := hfin
      have hglt := hfin.lt
      clear hfin hrow hlen HT HYL HR
      go_wp2_with (at_make; refine wpList_make_full _ rfl _ _ 29 rfl wr.heap.size 3 i _ 1 Tryz.underlying29 hi hz0 hz1 _ _ _ _ xs.length rfl rfl rfl rfl hbyt2 hmax2 (Nat.le_refl _) ?_)
      intro w4 hown hgrow
      have hb4 : Below wr.heap.size wr w4 := below_grown hgrow (fun k h => by cases h)
      rw [made_ints2] at hown
      have hat0 := IntRow.of_owns hown
      have HO4 : Hid (IntRow w4 g (tb 0)) := HF.out.later hb4
      have HB4 : Hid (Below g w1 w4) := hbg.trans (hb4.mono (by omega))
      have hat1 : IntRow w4 wr.heap.size (castL (List.replicate xs.length 0)) := by simpa [castL] using hat0
      have HA4 : Hid (IntRow w4 wr.heap.size (castL (List.replicate xs.length 0))) := hat1
      clear hown hgrow hbg hb4 HF hat0 hat1
      generalize wr.heap.size = ga at *
      go_wp2_with fail
      go_loopw [9] (fun t W => Below g w1 W ∧ ∃ T : Nat, T ≤ n ∧ t = .int .i64 T ∧ IntRow W g (tb T) ∧ ∃ av : List Nat, av.length = xs.length ∧ IntRow W ga (castL av) ∧ ∀ k, k < xs.length → ∀ q, q < av.getD k 0 → 0 ≤ (tb T).getD (R k q) 0) (fun t _ => n - (intOf t).toNat)
      case atStart => exact ⟨HB4.out, 0, Nat.zero_le _, rfl, HO4.out, _, by simp, HA4.out, fun k hk q hq => absurd hq (by simp [List.getD, hk])⟩
      case round =>
        obtain ⟨hbg, T, hT, rfl, hout, av, hal, hat, hprop⟩ := hrel
        have HO : Hid (IntRow wr g (tb T)) := hout
        have HA : Hid (IntRow wr ga (castL av)) := hat
        have HAL : Hid (av.length = xs.length) := hal
        have HPR : Hid (∀ k, k < xs.length → ∀ q, q < av.getD k 0 → 0 ≤ (tb T).getD (R k q) 0) := hprop
        have HBG : Hid (Below g w1 wr) := hbg
        clear hout hal hprop HO4 HB4 HA4
        by_cases hTn : T < n
        · obtain ⟨p, hpn, hpp, htk, hfree, htab, htk'⟩ := ABS.out.find T _ hTn (HPR.out _ (Nat.mod_lt _ h0))
          have hmod : T % xs.length < xs.length := Nat.mod_lt _ h0
          have hks : T % xs.length < (Lh.sortT xs).length := by rw [HLEN.out]; exact hmod
          have cn : wr.cell? ⟨nb, no + T % xs.length, none⟩ = some (.string (nm (T % xs.length))) := by
            rw [hbg.cell (p := ⟨nb, no + T % xs.length, none⟩) hnb, ← ABS.out.name _ hks]
            exact HN.out _ hks
          have hkc : (T : Int) % (xs.length : Int) = ((T % xs.length : Nat) : Int) := by simp
          have hd : decide ((T : Int) < (n : Int)) = true := by simp; omega
          have hgga : g < ga := hglt
          have hgalt := hat.lt
          clear hat hks
          generalize hk0 : T % xs.length = k0 at *
          have HK0 : Hid (T % xs.length = k0) := hk0
          have HTK : Hid (∀ q, av.getD k0 0 ≤ q → q < p → 0 ≤ (tb T).getD (R k0 q) 0) := htk
          have HFR : Hid ((tb T).getD (R k0 p) 0 < 0) := hfree
          have HTAB : Hid (tb (T + 1) = (tb T).set (R k0 p) (vx k0 : Nat)) := htab
          have HTK' : Hid (∀ q, q < p → 0 ≤ (tb (T + 1)).getD (R k0 q) 0) := htk'
          clear hk0 htk hfree htab htk'
          have hki : (k0 : Int) < (xs.length : Int) := by omega
          have hrowc := ABS.out.row k0 hmod wr
          clear hbg
          go_wp2_with fail
          refine hrowc.mono ?_
          rintro e w6 ⟨rg, rc, rfl, hrg, hrcell, hb6⟩
          have HRC : Hid (∀ j, j < n → w6.cell? ⟨rg, j, none⟩ = some (.int .i64 (R k0 j : Nat))) := hrcell
          have HO6 : Hid (IntRow w6 g (tb T)) := HO.out.later hb6
          have HA6 : Hid (IntRow w6 ga (castL av)) := HA.out.later hb6
          have HB6 : Hid (Below g w1 w6) := HBG.out.trans (hb6.mono (Nat.le_trans (Nat.le_of_lt hgga) (Nat.le_of_lt hgalt)))
          have cn6 := below_cell hb6 cn
          have hrga : rg ≠ ga := by omega
          clear hrcell hrowc hb6 cn HO HA HBG
          go_wp2_with fail
          try rw [hkc]
          clear hkc
          have HSS : Hid (IntRow w6 ga (castL (av.set k0 (av.getD k0 0)))) := by rw [set_self av k0 (by rw [HAL.out]; exact hmod)]; exact HA6.out
          go_loopw [] (fun W => Two ga ga w6 W ∧ ∃ q : Nat, av.getD k0 0 ≤ q ∧ q ≤ p ∧ IntRow W ga (castL (av.set k0 q))) (fun W => n - nextA W ga k0)
          case atStart => exact ⟨Two.refl _ _ _, _, Nat.le_refl _, hpp, HSS.out⟩
          case round =>
            obtain ⟨h2w, q, hq0, hqp, hat⟩ := hrel
            have H2W : Hid (Two ga ga w6 wr) := h2w
            have HAT : Hid (IntRow wr ga (castL (av.set k0 q))) := hat
            have hkl : ∀ q, k0 < (castL (av.set k0 q)).length := fun q => by rw [castL_length]; simp [HAL.out]; exact hmod
            have HKL : Hid (∀ q, k0 < (castL (av.set k0 q)).length) := hkl
            have ca := hat.cell (hkl q)
            rw [castL_set_at] at ca
            have fa := hat.frozen k0
            have cr : wr.cell? ⟨rg, q, none⟩ = some (.int .i64 (R k0 q : Nat)) := by
              rw [World.cell?_of_block (w := w6) (h2w.block rg hrga hrga)]
              exact HRC.out q (by omega)
            have hxn := ABS.out.lt k0 q
            have hog : IntRow wr g (tb T) := HO6.out.same (h2w.block g (by omega) (by omega))
            have HOG : Hid (IntRow wr g (tb T)) := hog
            have co : wr.cell? ⟨g, R k0 q, none⟩ = some (.int .i64 ((tb T).getD (R k0 q) 0)) := by
              rw [hog.cell (by rw [ABS.out.len]; exact hxn), getD_at (by rw [ABS.out.len]; exact hxn)]
            have fo := hog.frozen (R k0 q)
            have HNX : Hid (nextA wr ga k0 = q) := nextA_at ca
            have cn7 : wr.cell? ⟨nb, no + k0, none⟩ = some (.string (nm k0)) := by
              rw [World.cell?_of_block (w := w6) (h2w.block nb (by omega) (by omega))]
              exact cn6
            have hbW : Below g w1 wr := h2w.below HB6.out (by omega) (by omega)
            have HBW : Hid (Below g w1 wr) := hbW
            have HIX : Hid (∀ W : World, W.heap = wr.heap → Calls Tryz.prog 35 #[.slice (some ⟨b, o, none⟩) xs.length c, .string (nm k0)] W fun e w' => e = .returned (.int .i64 (vx k0 : Nat)) ∧ w' = W) := fun W hW => ABS.out.index b o c k0 hmod W (fun j h => by
              have h1 := below_cell (HB1.out.trans (hbW.mono hgb)) (HX.out j h)
              rw [World.cell?_of_block (w := wr) (by rw [hW])]
              exact h1)
            clear hog hat h2w hkl hbW
            have hqi : (q : Int) < (n : Int) := by omega
            have hxi : (R k0 q : Int) < (n : Int) := by omega
            by_cases hqq : q < p
            · have hv := HTK.out q hq0 hqq
              generalize (tb T).getD (R k0 q) 0 = val at *
              generalize R k0 q = x at *
              have hge : decide (0 ≤ val) = true := by simpa using hv
              clear HIX
              go_wp2_with fail
              have hcast : (q : Int) + 1 = ((q + 1 : Nat) : Int) := rfl
              rw [hcast]
              have hst := HAT.out.set k0 ((q + 1 : Nat) : Int)
              rw [castL_set, set_set_nat] at hst
              refine ⟨⟨H2W.out.setX k0 _, q + 1, by omega, by omega, hst⟩, ?_⟩
              have ca' := hst.cell (HKL.out _)
              rw [castL_set_at] at ca'
              rw [nextA_at ca', HNX.out]
              omega
            · have hqe : q = p := by omega
              subst hqe
              have hv := HFR.out
              generalize (tb T).getD (R k0 q) 0 = val at *
              generalize R k0 q = x at *
              have hge : decide (0 ≤ val) = false := by simp; omega
              clear hv
              go_wp2_with fail
              go_region_with (go_at_call 35; refine (HIX.out wr.drew rfl).mono ?_; rintro e w' ⟨rfl, rfl⟩)
              all_goals
                go_wp2_with fail
                refine ⟨⟨(HBW.out.setCell (Nat.le_refl _) _).drew, T + 1, by omega, by go_num, ?_, av.set k0 q, by simp [HAL.out], ?_, fun k hk q' hq' => ?_⟩, by simp [intOf]; omega⟩
                · rw [HTAB.out]
                  exact HOG.out.set x _
                · exact HAT.out.same (heap_setCell_other wr ⟨g, x, none⟩ ga _ (Nat.ne_of_gt hgga))
                · rw [getD_set _ _ _ _ (by rw [HAL.out]; exact hmod)] at hq'
                  by_cases e : k = k0
                  · rw [if_pos e] at hq'
                    rw [e]
                    exact HTK'.out q' hq'
                  · rw [if_neg e] at hq'
                    exact ABS.out.keeps T _ (HPR.out k hk q' hq')
        · have hd : decide ((T : Int) < (n : Int)) = false := by simp; omega
          have hTe : T = n := by omega
          have HFO : Hid (IntRow wr g (tb n)) := by rw [← hTe]; exact HO.out
          have HFB : Hid (Below w.heap.size w wr) := HB1.out.trans (hbg.mono hgb)
          clear hbg hat
          go_wp2
          go_ret
          exact ⟨g, rfl, hgb, HFO.out, HFB.out⟩
/-- TableOf of right hosts. -/
theorem tableOf_any (b o c : Nat) (xs : List ByteArray) (n : Nat) (w : World) (hx : ∀ k (h : k < xs.length), w.cell? ⟨b, o + k, none⟩ = some (.string xs[k])) (h0 : 0 < xs.length) (h12 : xs.length ≤ 12) (hsz : ∀ k (h : k < xs.length), (xs[k]).size ≤ 300) (hcap : xs.length ≤ c) (hp : Lh.Prm n) (h5 : n ≤ 503) :
    Calls Tryz.prog 16 #[.slice (some ⟨b, o, none⟩) xs.length c, .int .i64 n] w fun e w' => ∃ g, e = .returned (.slice (some ⟨g, 0, none⟩) n n) ∧ w.heap.size ≤ g ∧ IntRow w' g (Lh.tab xs n n) ∧ Below w.heap.size w w' := by
  refine tableOf_core b o c xs n (Lh.nameAt (Lh.sortT xs)) (Lh.rowsN (Lh.sortT xs) n) (Lh.tab xs n) (fun k => Lh.ix xs (Lh.nameAt (Lh.sortT xs) k)) ?_ w hx h0 h12 hcap hp.1 h5
  refine ⟨rfl, fun T => Lh.tab_length _ _ _, fun k q => Lh.rowAt_lt hp.1, fun T x h => Lh.tab_keeps hp h0 h, fun T p0 hT h => turn_find hp h0 hT h, fun k hk W => ?_, fun k h => (Lh.nameAt_lt h).symm, fun b o c k hk W hW => refIx_core b o c xs _ (Lh.nameAt_mem hk) W hW (by omega)⟩
  refine rowOf_at (Lh.nameAt (Lh.sortT xs) k) n W ?_ hp.1 h5
  rw [← Lh.ix_at (Lh.nameAt_mem hk)]
  exact hsz _ _
end Go.Proofs.YtmdckddenelneaaGreatDoor
