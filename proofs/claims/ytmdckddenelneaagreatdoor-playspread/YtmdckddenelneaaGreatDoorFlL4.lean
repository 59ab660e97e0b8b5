/- The landed flows: List. -/
import Derived.Test.YtmdckddenelneaaGreatDoorM9
import Derived.Test.YtmdckddenelneaaGreatDoorM22
namespace Go.Proofs.YtmdckddenelneaaGreatDoor
open Go.RowKit Go.Maps Go.ChangeMaps Go.Shelf
section
variable {W W' : World} {p mb t : Nat} {la : Int} {L : List Lh.Fl}

theorem ownsRow_base_f {w : World} {base base' : Nat} {e : TypeId} {size n : Nat} {v : Value} {xs : List Value} (h : w.ownsRow base e size v n xs) (hb : base' ≤ base) : w.ownsRow base' e size v n xs := by
  refine ⟨h.1, ?_⟩
  rcases h.2 with hn | ⟨g, cap, cur, hv, hbg, rest⟩
  · exact .inl hn
  · exact .inr ⟨g, cap, cur, hv, Nat.le_trans hb hbg, rest⟩
set_option maxHeartbeats 4000000 in
theorem collectF (mb nn : Nat) (w : World) (hown : w.ownsMap Tryz.prog 27 flElem mb nn (FD L)) (hp : L.Pairwise fun x y => x.1 < y.1) (hl : L.length ≤ 1000) :
    Calls Tryz.prog 54 #[.func (.func 89) #[] #[.pointer (some ⟨w.heap.size, 0, none⟩)]] (w.alloc (.cells #[.map (some mb)] 119)) fun e w' => ∃ (v : Value) (M : List Lh.Fl), e = .returned v ∧ M.Perm L ∧ w'.ownsRow w.heap.size 82 3 v M.length (flatF M) ∧ Below w.heap.size w w' := by
  refine (callsIn_wide (n := 6)).1 ?_
  have hb0 : Below w.heap.size w (w.alloc (.cells #[.map (some mb)] 119)) := (Below.refl _ _).alloc (Nat.le_refl _) _
  refine (collectF_in Fence.wide 6 trivial trivial rfl (by omega) _ _ trivial (enters_of Tryz.func89 (by kernel_rfl) rfl) (fun xs => xs.Perm L) L.length hl _
    (valuesF_stops Fence.wide _ trivial rfl (by omega) w.heap.size mb nn L hp _ (by simp) (by simp) (hown.alloc _))).mono ?_
  rintro e w' ⟨v, M, rfl, hM, hrow, hb⟩
  exact ⟨v, M, rfl, hM, ownsRow_base_f hrow (by simp), below_then hb0 hb⟩
theorem valuesF (mb : Option Nat) (w : World) :
    Calls Tryz.prog 55 #[.map mb] w fun e w' => e = .returned (.func (.func 89) #[] #[.pointer (some ⟨w.heap.size, 0, none⟩)]) ∧ w' = w.alloc (.cells #[.map mb] 119) :=
  (callsIn_wide (n := 3)).1 (valuesF_call Fence.wide 3 trivial rfl mb w)

set_option maxHeartbeats 4000000 in
theorem listF_any (h : FR W p mb t la L) (hp : L.Pairwise fun x y => x.1 < y.1) (hl : L.length ≤ 1000) :
    Calls Tryz.prog 38 #[.pointer (some ⟨p, 0, none⟩)] W fun e W' => ∃ v, e = .returned v ∧ ((L = [] ∧ (v = .slice none 0 0 ∨ ∃ ad c, v = .slice (some ad) 0 c)) ∨ ∃ g c, v = .slice (some ⟨g, 0, none⟩) L.length c ∧ L.length ≤ c ∧ FlsAt W' g L ∧ W.heap.size ≤ g ∧ ∀ k, k < L.length * 3 → W'.frozen? ⟨g, k, none⟩ = false) ∧ Below W.heap.size W W' := by
  have c2 := h.c2
  have hcol := collectF mb L.length W h.own hp hl
  clear h
  go_enter Tryz.func38, Tryz.ntmps38
  go_wp2_with fail
  refine (valuesF _ _).mono ?_
  rintro e w1 ⟨rfl, rfl⟩
  go_wp2_with fail
  refine hcol.mono ?_
  rintro e w2 ⟨v, M, rfl, hM, hrow, hb⟩
  clear hcol
  by_cases h0 : 0 < M.length
  · obtain ⟨g, cap, rfl, hg0, hg1, hcap, hfl, hfz⟩ := fls_of_owns hrow h0
    have hsort := sortFls g cap M L w2 hp hM hfl hfz hg1 (by have := hM.length_eq; omega)
    have HML : Hid (M.length = L.length) := hM.length_eq
    clear hrow hfl hfz hM c2
    go_wp2_with fail
    refine hsort.mono ?_
    rintro e w3 ⟨rfl, hL, hgr, hfr⟩
    have HL : Hid (FlsAt w3 g L) := hL
    have HFR : Hid (∀ k, k < L.length * 3 → w3.frozen? ⟨g, k, none⟩ = false) := hfr
    have HG0 : Hid (W.heap.size ≤ g) := hg0
    have hbW : Below W.heap.size W w3 := hb.grown hgr hb.size (fun k hk => by cases hk; exact hg0)
    clear hsort hL hfr
    go_wp2
    go_ret
    exact ⟨_, rfl, Or.inr ⟨g, cap, by rw [← HML.out]; rfl, by rw [← HML.out]; exact hcap, HL.out, HG0.out, HFR.out⟩, hbW⟩
  · obtain rfl : M = [] := List.length_eq_zero_iff.1 (by omega)
    obtain ⟨p0, c0, rfl, hpc⟩ : ∃ p0 c0, v = .slice p0 0 c0 ∧ (v = .slice none 0 0 ∨ ∃ ad c, v = .slice (some ad) 0 c) := by
      rcases hrow.2 with ⟨h, _⟩ | ⟨g, cap, cur, rfl, _⟩
      · exact ⟨_, _, h, Or.inl h⟩
      · exact ⟨_, _, rfl, Or.inr ⟨_, _, rfl⟩⟩
    have HPC : Hid _ := hpc
    have hL : L = [] := hM.symm.eq_nil
    clear hrow hM hpc
    have HLN : Hid (L = []) := hL
    clear hL
    go_wp2_with fail
    refine (AnyF.slices_SortFunc_none sortFl p0 c0 _ _).mono ?_
    rintro e w3 ⟨rfl, rfl⟩
    go_wp2
    go_ret
    exact ⟨_, rfl, Or.inl ⟨HLN.out, HPC.out⟩, hb⟩
theorem listF_flows (h : FR W p mb t la L) (hp : L.Pairwise fun x y => x.1 < y.1) (hl : L.length ≤ 1000) :
    Calls Tryz.prog 38 #[.pointer (some ⟨p, 0, none⟩)] W fun e W' => ∃ v, e = .returned v ∧ Flows1 W' v L ∧ Below W.heap.size W W' := by
  refine (listF_any h hp hl).mono ?_
  rintro e w' ⟨v, rfl, hv | ⟨g, c, rfl, hc, hf, _, _⟩, hb⟩
  · exact ⟨v, rfl, Or.inl hv, hb⟩
  · exact ⟨_, rfl, Or.inr ⟨g, 0, c, rfl, hc, fun i hi => by simpa using hf i hi⟩, hb⟩

theorem heap_set1 {W : World} {B k : Nat} {cur : Array Value} {t : TypeId} (h : W.heap[B]? = some (.cells cur t (0, 0))) (v : Value) : (W.setCell ⟨B, k, none⟩ v).heap[B]? = some (.cells (cur.setIfInBounds k v) t (0, 0)) := by
  obtain ⟨hlt, hk⟩ := Array.getElem?_eq_some_iff.1 h
  show (W.heap.modify B _)[B]? = _
  rw [Array.getElem?_eq_getElem (by rw [Array.size_modify]; exact hlt), Array.getElem_modify_self, hk]
  rfl
theorem set3 (a b c x y z : Value) : ((#[a, b, c].setIfInBounds 0 x).setIfInBounds 1 y).setIfInBounds 2 z = #[x, y, z] := rfl
theorem Cell3.set {W : World} {B : Nat} {y : Lh.Fl} (h : Cell3 W B y) (x : Lh.Fl) : Cell3 (((W.setCell ⟨B, 0, none⟩ (.int .u64 (x.1 : Nat))).setCell ⟨B, 1, none⟩ (.string x.2.1)).setCell ⟨B, 2, none⟩ (.int .i64 x.2.2)) B x := by
  have := heap_set1 (k := 2) (heap_set1 (k := 1) (heap_set1 (k := 0) h (.int .u64 (x.1 : Nat))) (.string x.2.1)) (.int .i64 x.2.2)
  rw [set3] at this
  exact this
set_option maxHeartbeats 4000000 in
/-- slices.MinFunc of flows, by the tick at which they are gone: the first of the least. -/
theorem minF (g cap : Nat) (L : List Lh.Fl) (w : World) (h0 : 0 < L.length) (hl : L.length ≤ 1000) (hH : FlsAt w g L) :
    Calls Tryz.prog 194 #[.slice (some ⟨g, 0, none⟩) L.length cap, .func (.func 195) #[] #[]] w fun e w' => ∃ h : Lh.fleast L < L.length, e = .returned (.agg #[.int .u64 ((L[Lh.fleast L]).1 : Nat), .string (L[Lh.fleast L]).2.1, .int .i64 (L[Lh.fleast L]).2.2]) ∧ Below w.heap.size w w' := by
  have HH : Hid (FlsAt w g L) := hH
  have hb0 : Below w.heap.size w (w.alloc (.cells #[.int .u64 0, .string ⟨#[]⟩, .int .i64 0] 82)) := (Below.refl _ _).alloc (Nat.le_refl _) _
  obtain ⟨x0, x1, x2⟩ := hH 0 h0
  simp only [Nat.zero_mul, Nat.zero_add] at x0 x1 x2
  replace x0 := below_cell hb0 x0
  replace x1 := below_cell hb0 x1
  replace x2 := below_cell hb0 x2
  have d1 : decide ((L.length : Int) < 1) = false := by simp; omega
  clear hH
  obtain ⟨z, hz⟩ : ∃ z, L[0] = z := ⟨_, rfl⟩
  rw [hz] at x0 x1 x2
  have HZ : Hid (L[leastTo L 1]? = some z) := by
    have : L[leastTo L 1]? = some z := by rw [leastTo_one, List.getElem?_eq_getElem h0, hz]
    exact this
  clear hz
  go_enter Tryz.func194, Tryz.ntmps194
  go_wp2
  have hbW : Below w.heap.size w ((w.alloc (.cells #[.int .u64 0, .string ⟨#[]⟩, .int .i64 0] 82)).alloc (.cells #[.int .u64 (z.1 : Nat), .string z.2.1, .int .i64 z.2.2] 82)) := hb0.alloc (by simp) _
  have C3 : Cell3 ((w.alloc (.cells #[.int .u64 0, .string ⟨#[]⟩, .int .i64 0] 82)).alloc (.cells #[.int .u64 (z.1 : Nat), .string z.2.1, .int .i64 z.2.2] 82)) (w.heap.size + 1) z := by
    have := World.alloc_heap_new (w.alloc (.cells #[.int .u64 0, .string ⟨#[]⟩, .int .i64 0] 82)) (.cells #[.int .u64 (z.1 : Nat), .string z.2.1, .int .i64 z.2.2] 82)
    rwa [World.size_alloc] at this
  have R3 : Cell3 ((w.alloc (.cells #[.int .u64 0, .string ⟨#[]⟩, .int .i64 0] 82)).alloc (.cells #[.int .u64 (z.1 : Nat), .string z.2.1, .int .i64 z.2.2] 82)) w.heap.size (0, ⟨#[]⟩, 0) := (Below.heap_alloc _ _ _ (by simp)).trans (World.alloc_heap_new w _)
  clear x0 x1 x2 hb0
  generalize ((w.alloc (.cells #[.int .u64 0, .string ⟨#[]⟩, .int .i64 0] 82)).alloc (.cells #[.int .u64 (z.1 : Nat), .string z.2.1, .int .i64 z.2.2] 82)) = W0 at *
  go_loopw [6] (fun u wr => Below w.heap.size w wr ∧ ∃ i y, 1 ≤ i ∧ i ≤ L.length ∧ u = .int .i64 ((i : Nat) : Int) ∧ L[leastTo L i]? = some y ∧ Cell3 wr (w.heap.size + 1) y ∧ Cell3 wr w.heap.size (0, ⟨#[]⟩, 0)) (fun u _ => L.length - (intOf u).toNat)
  case atStart => exact ⟨hbW, 1, z, Nat.le_refl _, h0, rfl, HZ.out, C3, R3⟩
  case round =>
    obtain ⟨hb, i, y, hi1, hi2, rfl, hy, c3, r3⟩ := hrel
    have HY : Hid (L[leastTo L i]? = some y) := hy
    have C : Hid (Cell3 wr (w.heap.size + 1) y) := c3
    have R : Hid (Cell3 wr w.heap.size (0, ⟨#[]⟩, 0)) := r3
    have y0 : wr.cell? ⟨w.heap.size + 1, 0, none⟩ = some (.int .u64 (y.1 : Nat)) := by simp [World.cell?, show wr.heap[w.heap.size + 1]? = _ from c3]
    have y1 : wr.cell? ⟨w.heap.size + 1, 1, none⟩ = some (.string y.2.1) := by simp [World.cell?, show wr.heap[w.heap.size + 1]? = _ from c3]
    have y2 : wr.cell? ⟨w.heap.size + 1, 2, none⟩ = some (.int .i64 y.2.2) := by simp [World.cell?, show wr.heap[w.heap.size + 1]? = _ from c3]
    have yf : ∀ k, wr.frozen? ⟨w.heap.size + 1, k, none⟩ = false := fun k => by simp [World.frozen?, show wr.heap[w.heap.size + 1]? = _ from c3]
    have r0 : wr.cell? ⟨w.heap.size, 0, none⟩ = some (.int .u64 0) := by simp [World.cell?, show wr.heap[w.heap.size]? = _ from r3]
    have r1 : wr.cell? ⟨w.heap.size, 1, none⟩ = some (.string ⟨#[]⟩) := by simp [World.cell?, show wr.heap[w.heap.size]? = _ from r3]
    have r2 : wr.cell? ⟨w.heap.size, 2, none⟩ = some (.int .i64 0) := by simp [World.cell?, show wr.heap[w.heap.size]? = _ from r3]
    have rf : ∀ k, wr.frozen? ⟨w.heap.size, k, none⟩ = false := fun k => by simp [World.frozen?, show wr.heap[w.heap.size]? = _ from r3]
    clear hy c3 r3 hbW C3 R3
    by_cases hlt : i < L.length
    · have hki : (i : Int) < (L.length : Int) := by omega
      obtain ⟨x0, x1, x2⟩ := HH.out i hlt
      replace x0 := below_cell hb x0
      replace x1 := below_cell hb x1
      replace x2 := below_cell hb x2
      obtain ⟨x, hx⟩ : ∃ x, L[i] = x := ⟨_, rfl⟩
      rw [hx] at x0 x1 x2
      have HX : Hid (L[i]? = some x) := by
        have : L[i]? = some x := by rw [List.getElem?_eq_getElem hlt, hx]
        exact this
      clear hx
      clear r0 r1 r2 rf
      have HKC : Hid (∀ W', Below wr.heap.size wr W' → Below wr.heap.size wr W' ∧ W'.cell? ⟨g, i * 3, none⟩ = some (.int .u64 (x.1 : Nat)) ∧ W'.cell? ⟨g, i * 3 + 1, none⟩ = some (.string x.2.1) ∧ W'.cell? ⟨g, i * 3 + 2, none⟩ = some (.int .i64 x.2.2) ∧ W'.cell? ⟨w.heap.size + 1, 0, none⟩ = some (.int .u64 (y.1 : Nat)) ∧ W'.cell? ⟨w.heap.size + 1, 1, none⟩ = some (.string y.2.1) ∧ W'.cell? ⟨w.heap.size + 1, 2, none⟩ = some (.int .i64 y.2.2)) := fun W' h => ⟨h, below_cell h x0, below_cell h x1, below_cell h x2, below_cell h y0, below_cell h y1, below_cell h y2⟩
      have HCL : Hid (∀ W', Below wr.heap.size wr W' → Calls Tryz.prog 195 #[.agg #[.int .u64 (x.1 : Nat), .string x.2.1, .int .i64 x.2.2], .agg #[.int .u64 (y.1 : Nat), .string y.2.1, .int .i64 y.2.2]] W' fun e w' => e = .returned (.int .i64 (cfUn x y)) ∧ Below wr.heap.size wr w') := fun W' h => (closureU x y W').mono fun _ _ ⟨q1, q2⟩ => ⟨q1, below_then h q2⟩
      have HYF : Hid (∀ k, wr.frozen? ⟨w.heap.size + 1, k, none⟩ = false) := yf
      clear yf
      go_wp2_with fail
      go_region_held3 (fun w' => Below wr.heap.size wr w' ∧ w'.cell? ⟨g, i * 3, none⟩ = some (.int .u64 (x.1 : Nat)) ∧ w'.cell? ⟨g, i * 3 + 1, none⟩ = some (.string x.2.1) ∧ w'.cell? ⟨g, i * 3 + 2, none⟩ = some (.int .i64 x.2.2) ∧ w'.cell? ⟨w.heap.size + 1, 0, none⟩ = some (.int .u64 (y.1 : Nat)) ∧ w'.cell? ⟨w.heap.size + 1, 1, none⟩ = some (.string y.2.1) ∧ w'.cell? ⟨w.heap.size + 1, 2, none⟩ = some (.int .i64 y.2.2))
        (first | exact HKC.out _ (by assumption) | exact HKC.out _ (below_drewN (Below.refl _ _) 1) | exact HKC.out _ (Below.refl _ _))
        (first | (go_at_call 195; refine (HCL.out _ (by first | assumption | exact Below.refl _ _ | exact below_drewN (Below.refl _ _) 1)).mono ?_; rintro e wz ⟨rfl, hbz⟩))
      have hbW : Below w.heap.size w wz := hb.trans (hbz.mono hb.size)
      have C' : Cell3 wz (w.heap.size + 1) y := (hbz.block _ (Array.getElem?_eq_some_iff.1 C.out).1).trans C.out
      have R' : Hid (Cell3 wz w.heap.size (0, ⟨#[]⟩, 0)) := (hbz.block _ (Array.getElem?_eq_some_iff.1 R.out).1).trans R.out
      have yf : ∀ k, wz.frozen? ⟨w.heap.size + 1, k, none⟩ = false := fun k => by simp [World.frozen?, show wz.heap[w.heap.size + 1]? = _ from C']
      replace x0 := below_cell hbz x0
      replace x1 := below_cell hbz x1
      replace x2 := below_cell hbz x2
      replace y0 := below_cell hbz y0
      replace y1 := below_cell hbz y1
      replace y2 := below_cell hbz y2
      have HC' : Hid (Cell3 wz (w.heap.size + 1) y) := C'
      have HBW : Hid (Below w.heap.size w wz) := hbW
      clear C' hbW hb hbz HKC HCL HYF C R
      by_cases hu : x.2.2 < y.2.2
      · have d : decide (cfUn x y < 0) = true := by simp [cfUn, cmpI, hu]
        have HN : Hid (L[leastTo L (i + 1)]? = some x) := by
          have : L[leastTo L (i + 1)]? = some x := by
            have hll : leastTo L i < L.length := Nat.lt_of_lt_of_le (leastTo_lt L hi1) hi2
            have hyy : L[leastTo L i] = y := by have := HY.out; rw [List.getElem?_eq_getElem hll] at this; injection this
            have hxx : L[i] = x := by have := HX.out; rw [List.getElem?_eq_getElem hlt] at this; injection this
            rw [leastTo_succ, until_getD hlt, until_getD hll, hxx, hyy, if_pos hu]
            exact HX.out
          exact this
        rw [d]
        clear hu d
        go_wp2
        refine ⟨⟨((HBW.out.setCell (p := ⟨w.heap.size + 1, 0, none⟩) (Nat.le_succ _) _).setCell (p := ⟨w.heap.size + 1, 1, none⟩) (Nat.le_succ _) _).setCell (p := ⟨w.heap.size + 1, 2, none⟩) (Nat.le_succ _) _, i + 1, x, by omega, by omega, by go_num, HN.out, Cell3.set HC'.out x, ?_⟩, by simp [intOf]; omega⟩
        exact (Below.heap_setCell _ _ _ _ (by simp)).trans ((Below.heap_setCell _ _ _ _ (by simp)).trans ((Below.heap_setCell _ _ _ _ (by simp)).trans R'.out))
      · have d : decide (cfUn x y < 0) = false := by
          have : cfUn x y = 0 ∨ cfUn x y = 1 := by unfold cfUn cmpI; rw [if_neg hu]; split <;> simp
          rcases this with e | e <;> rw [e] <;> rfl
        have HN : Hid (L[leastTo L (i + 1)]? = some y) := by
          have : L[leastTo L (i + 1)]? = some y := by
            have hll : leastTo L i < L.length := Nat.lt_of_lt_of_le (leastTo_lt L hi1) hi2
            have hyy : L[leastTo L i] = y := by have := HY.out; rw [List.getElem?_eq_getElem hll] at this; injection this
            have hxx : L[i] = x := by have := HX.out; rw [List.getElem?_eq_getElem hlt] at this; injection this
            rw [leastTo_succ, until_getD hlt, until_getD hll, hxx, hyy, if_neg hu]
            exact HY.out
          exact this
        rw [d]
        clear hu d
        go_wp2
        exact ⟨⟨HBW.out, i + 1, y, by omega, by omega, by go_num, HN.out, HC'.out, R'.out⟩, by simp [intOf]; omega⟩
    · obtain rfl : i = L.length := by omega
      have hki : ¬ ((L.length : Int) < (L.length : Int)) := by omega
      have HLT : Hid (Lh.fleast L < L.length) := Lh.fleast_lt h0
      have HE : Hid (∀ h : Lh.fleast L < L.length, L[Lh.fleast L] = y) := fun h => by
        have := HY.out
        rw [leastTo_all, List.getElem?_eq_getElem h] at this
        injection this
      go_wp2
      exact bodyPost_ret (v := .agg #[.int .u64 (y.1 : Nat), .string y.2.1, .int .i64 y.2.2]) (by simp [results, Tryz.results194, go_sem, r0, r1, r2]) rfl ⟨⟨HLT.out, by rw [HE.out HLT.out]⟩, ((hb.setCell (p := ⟨w.heap.size, 0, none⟩) (Nat.le_refl _) _).setCell (p := ⟨w.heap.size, 1, none⟩) (Nat.le_refl _) _).setCell (p := ⟨w.heap.size, 2, none⟩) (Nat.le_refl _) _⟩
end
end Go.Proofs.YtmdckddenelneaaGreatDoor
