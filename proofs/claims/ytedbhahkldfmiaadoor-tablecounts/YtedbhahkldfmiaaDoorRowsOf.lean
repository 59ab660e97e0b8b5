/- The landed rowsOf: a map from names to rows. -/
import Derived.Test.YtedbhahkldfmiaaDoorTake
import Derived.Carry
namespace Go.Proofs.YtedbhahkldfmiaaDoor
open Go.RowKit Go.Maps Go.ChangeMaps

theorem zeroRow (w : World) : (zeroValue 94).run Tryd.prog w = .ok (.pointer none) w := Tryd.zeroValue94 w
/-- What rowsOf lays for the names up to k. -/
structure Laid (xs : List ByteArray) (n B mb k : Nat) (rb sb : Nat → Nat) (D : DataW Unit) (W : World) : Prop where
  map : W.ownsMap Tryd.prog 9 ptrElem mb k D
  isMap : IsMap D
  atKey : ∀ i (h : i < xs.length), i < k → D.atKey (.string (xs[i]).data.toList) .nil = .lit (.int .i64 (rb i : Nat))
  row : ∀ i, i < k → RowBlk W (rb i) (i : Nat) (sb i) n 0
  slots : ∀ i (h : i < xs.length), i < k → IntRow W (sb i) (Lh.rowL xs[i] n)
  base : B ≤ mb
  rbLo : ∀ i, i < k → mb < rb i
  sbLo : ∀ i, i < k → mb < sb i
  rbLt : ∀ i, i < k → rb i < W.heap.size
  inj : ∀ i j, i < k → j < k → rb i = rb j → i = j
  apart : ∀ i j, i < k → j < k → rb i ≠ sb j

theorem makeMap_hint (w : World) (n : Nat) : (Instr.makeMap 92 (some (.int .i64 (n : Nat)))).run Tryd.prog w = .ok (.map (some w.heap.size)) (w.alloc (.map #[] 0)) := by
  simp [Instr.makeMap, asInt, asIntOf]
theorem key_ne {xs : List ByteArray} (hnd : xs.Nodup) {i k : Nat} (hi : i < xs.length) (hk : k < xs.length) (h : i ≠ k) : Lit.string (xs[i]).data.toList ≠ Lit.string (xs[k]).data.toList := by
  intro e
  simp only [Lit.string.injEq] at e
  refine h (Lh.nodup_inj hnd hi hk ?_)
  generalize xs[i] = x at *
  generalize xs[k] = y at *
  cases x
  cases y
  simpa using e
theorem Laid.next {xs : List ByteArray} {n B mb k : Nat} {rb sb : Nat → Nat} {D : DataW Unit} {W w1 w3 : World} (hL : Laid xs n B mb k rb sb D W) (hnd : xs.Nodup) (hk : k < xs.length) {g : Nat} (hb1 : Below W.heap.size W w1) (hg : W.heap.size ≤ g) (hrow : IntRow w1 g (Lh.rowL xs[k] n))
    (hown3 : w3.ownsMap Tryd.prog 9 ptrElem mb (k + 1) (D.put (.string (xs[k]).data.toList) (.lit (.int .i64 (w1.heap.size : Nat)))))
    (hgr : (w1.alloc (.cells #[.int .i64 (k : Nat), .slice (some ⟨g, 0, none⟩) n n, .int .i64 0] 132)).grownBy w3 (some mb)) : ∃ rb' sb' D', Laid xs n B mb (k + 1) rb' sb' D' w3 := by
  have hmb := hL.map.lt
  have hs1 := hb1.size
  have hglt := hrow.lt
  have hsa : (w1.alloc (.cells #[.int .i64 (k : Nat), .slice (some ⟨g, 0, none⟩) n n, .int .i64 0] 132)).heap.size = w1.heap.size + 1 := by simp
  have hs3 := hgr.size
  rw [hsa] at hs3
  have same : ∀ q, q < w1.heap.size → q ≠ mb → w3.heap[q]? = w1.heap[q]? := fun q hq hne => by
    rw [hgr.block q (by omega) (fun e => hne (Option.some.inj e)), Below.heap_alloc _ _ _ hq]
  have old : ∀ q, q < W.heap.size → q ≠ mb → w3.heap[q]? = W.heap[q]? := fun q hq hne => (same q (by omega) hne).trans (hb1.block q hq)
  refine ⟨fun i => if i = k then w1.heap.size else rb i, fun i => if i = k then g else sb i, _, hown3, hL.isMap.put _ _, fun i hi hik => ?_, fun i hik => ?_, fun i hi hik => ?_, hL.base, fun i hik => ?_, fun i hik => ?_, fun i hik => ?_, fun i j hi hj e => ?_, fun i j hi hj e => ?_⟩
  · by_cases e : i = k
    · subst e
      simp only [if_true]
      exact atKey_put_same (k := .string _) hL.isMap (by simp [WideAt.IsKeyLit]) _ _
    · simp only [if_neg e]
      rw [atKey_put_other (key_ne hnd hi hk e)]
      exact hL.atKey i hi (by omega)
  · by_cases e : i = k
    · subst e
      simp only [if_true]
      unfold RowBlk
      rw [hgr.block _ (by omega) (fun e => by have := Option.some.inj e; omega)]
      exact heap_alloc_new w1 _
    · simp only [if_neg e]
      have h1 := hL.rbLt i (by omega)
      have h2 := hL.rbLo i (by omega)
      exact (hL.row i (by omega)).same (old _ h1 (by omega))
  · by_cases e : i = k
    · subst e
      simp only [if_true]
      exact hrow.same (same g hglt (by omega))
    · simp only [if_neg e]
      have h2 := hL.sbLo i (by omega)
      have h3 := hL.slots i hi (by omega)
      exact h3.same (old _ h3.lt (by omega))
  · by_cases e : i = k
    · simp only [if_pos e]; omega
    · simp only [if_neg e]; exact hL.rbLo i (by omega)
  · by_cases e : i = k
    · simp only [if_pos e]; omega
    · simp only [if_neg e]; exact hL.sbLo i (by omega)
  · by_cases e : i = k
    · simp only [if_pos e]; omega
    · simp only [if_neg e]
      have := hL.rbLt i (by omega)
      omega
  · by_cases e1 : i = k <;> by_cases e2 : j = k
    · omega
    · simp only [if_pos e1, if_neg e2] at e
      have := hL.rbLt j (by omega)
      omega
    · simp only [if_neg e1, if_pos e2] at e
      have := hL.rbLt i (by omega)
      omega
    · simp only [if_neg e1, if_neg e2] at e
      exact hL.inj i j (by omega) (by omega) e
  · by_cases e1 : i = k <;> by_cases e2 : j = k
    · simp only [if_pos e1, if_pos e2] at e; omega
    · simp only [if_pos e1, if_neg e2] at e
      have hj' : j < xs.length := by omega
      have := (hL.slots j hj' (by omega)).lt
      omega
    · simp only [if_neg e1, if_pos e2] at e
      have := hL.rbLt i (by omega)
      omega
    · simp only [if_neg e1, if_neg e2] at e
      exact hL.apart i j (by omega) (by omega) e
theorem keyStr (s : ByteArray) (hs : s.size ≤ 300) : keyOf Tryd.prog 9 (.string s) = some (.string s.data.toList) := Go.WideMaps.keyOf_string_mk Tryd.underlying9 (Nat.le_trans hs (by unfold maxLen; omega))
set_option maxRecDepth 100000 in
set_option maxHeartbeats 2000000 in
theorem rowsOf_core (b o c : Nat) (xs : List ByteArray) (n : Nat) (w : World) (hx : ∀ k (h : k < xs.length), w.cell? ⟨b, o + k, none⟩ = some (.string xs[k])) (hl : xs.length ≤ 12) (hnd : xs.Nodup) (hsz : ∀ k (h : k < xs.length), (xs[k]).size ≤ 300) (h2 : 2 ≤ n) (h5 : n ≤ 503) :
    Calls Tryd.prog 57 #[.slice (some ⟨b, o, none⟩) xs.length c, .int .i64 n] w fun e w' => ∃ mb rb sb D, e = .returned (.map (some mb)) ∧ Laid xs n w.heap.size mb xs.length rb sb D w' ∧ Below w.heap.size w w' := by
  have HX : Hid (∀ k (h : k < xs.length), w.cell? ⟨b, o + k, none⟩ = some (.string xs[k])) := hx
  have HND : Hid (xs.Nodup) := hnd
  have HSZ : Hid (∀ k (h : k < xs.length), (xs[k]).size ≤ 300) := hsz
  clear hx hnd hsz
  have hmm := makeMap_hint w xs.length
  go_enter Tryd.func57, Tryd.ntmps57
  go_wp2_with fail
  go_loopw [13] (fun t W => Below w.heap.size w W ∧ ∃ k : Nat, k ≤ xs.length ∧ t = .int .i64 k ∧ ∃ rb sb D, Laid xs n w.heap.size w.heap.size k rb sb D W) (fun t _ => xs.length - (intOf t).toNat)
  case atStart =>
    refine ⟨(Below.refl _ _).alloc (Nat.le_refl _) _, 0, Nat.zero_le _, rfl, fun _ => 0, fun _ => 0, _, World.ownsMap_made w _ _ _, isMap_empty, ?_, ?_, ?_, Nat.le_refl _, ?_, ?_, ?_, ?_, ?_⟩
    all_goals intros; omega
  case round =>
    obtain ⟨hb, k, hk, rfl, rb, sb, D, hL⟩ := hrel
    clear hmm
    by_cases hlt : k < xs.length
    · have cx := below_cell hb (HX.out k hlt)
      have hsz := HSZ.out k hlt
      have hkey := keyStr xs[k] hsz
      have hslot := slotsOf_any xs[k] n wr hsz h2 h5
      have HL : Hid (Laid xs n w.heap.size w.heap.size k rb sb D wr) := hL
      clear hL
      have hkl : k < maxLen := by unfold maxLen; omega
      go_wp2_with fail
      refine hslot.mono ?_
      rintro e w1 ⟨g, rfl, hg, hrow, hb1⟩
      have hown : (w1.alloc (.cells #[.int .i64 (k : Nat), .slice (some ⟨g, 0, none⟩) n n, .int .i64 0] 132)).ownsMap Tryd.prog 9 ptrElem w.heap.size k D :=
        (ownsMap_same HL.out.map (hb1.block _ HL.out.map.lt)).alloc _
      have HR : Hid (IntRow w1 g (Lh.rowL xs[k] n)) := hrow
      clear hrow hslot
      go_wp2_with (at_mapUpdate; refine wpList_mapUpdate_own _ rfl _ _ _ 92 rfl 9 94 (string_keyed Tryd.underlying9) Tryd.underlying92 ptrElem w.heap.size k D rfl hown hkl _ _ (.string (xs[k]).data.toList) rfl rfl hkey (.lit (.int .i64 (w1.heap.size : Nat))) [] (ptrElem_mk _) ?_; intro w3 hown3 hgr3)
      go_roundw
      case rel =>
        have hb2 : Below w.heap.size w w1 := below_then hb hb1
        exact ⟨(hb2.alloc hb2.size _).grown hgr3 (by have := hb2.size; simp; omega) (fun k h => by cases h; exact Nat.le_refl _), k + 1, by omega, by go_num, HL.out.next HND.out hlt hb1 hg HR.out hown3 hgr3⟩
      case measure => simp [intOf]; omega
    · have hke : k = xs.length := by omega
      have hd : decide ((k : Int) < (xs.length : Int)) = false := by simp; omega
      have HL : Hid (∃ rb sb D, Laid xs n w.heap.size w.heap.size xs.length rb sb D wr) := ⟨rb, sb, D, hke ▸ hL⟩
      clear hL hke
      go_wp2
      go_ret
      obtain ⟨rb, sb, D, hL⟩ := HL.out
      exact ⟨_, rb, sb, D, rfl, hL, hb⟩
end Go.Proofs.YtedbhahkldfmiaaDoor
