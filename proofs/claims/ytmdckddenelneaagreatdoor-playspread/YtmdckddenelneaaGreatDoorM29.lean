/- slices.IndexFunc and slices.DeleteFunc of flows, with a function that lays blocks of its own. -/
import Derived.Test.YtmdckddenelneaaGreatDoorM11
import Derived.Test.YtmdckddenelneaaGreatDoorBaRow
import Derived.Test.YtmdckddenelneaaGreatDoorM26
import Derived.Deep.AppendLies
import Derived.Test.YtmdckddenelneaaGreatDoorM4
import Derived.Test.YtmdckddenelneaaGreatDoorM25
namespace Go.Proofs.YtmdckddenelneaaGreatDoor
open Go.RowKit Go.Shelf

def aggF (x : Lh.Fl) : Value := .agg #[.int .u64 (x.1 : Nat), .string x.2.1, .int .i64 x.2.2]
set_option maxRecDepth 100000 in
set_option maxHeartbeats 2000000 in
theorem indexG_core (fn : Nat) (eg : ∀ args w, (callFunc fn args).run Tryz.prog w = .ok (.enter fn args) w) (bx : Value) (q : Lh.Fl → Bool) (pv : Option Addr) (c : Nat) (xs : List Lh.Fl) (W : World) (hl : xs.length ≤ 1000)
    (hc : ∀ k (h : k < xs.length), ∃ g, pv = some ⟨g, 0, none⟩ ∧ RowAt W g k xs[k])
    (hq : ∀ W' k (h : k < xs.length), Below W.heap.size W W' → Calls Tryz.prog fn #[aggF xs[k], bx] W' fun e w' => e = .returned (.bool (q xs[k])) ∧ Below W'.heap.size W' w') :
    Calls Tryz.prog 190 #[.slice pv xs.length c, .func (.func fn) #[] #[bx]] W fun e w' => Below W.heap.size W w' ∧ (((∀ x ∈ xs, q x = false) ∧ e = .returned (.int .i64 (-1))) ∨ ∃ i, ∃ h : i < xs.length, q xs[i] = true ∧ (∀ j (hj : j < xs.length), j < i → q xs[j] = false) ∧ e = .returned (.int .i64 (i : Nat))) := by
  have HC : Hid (∀ k (h : k < xs.length), ∃ g, pv = some ⟨g, 0, none⟩ ∧ RowAt W g k xs[k]) := hc
  have HQ : Hid (∀ W' k (h : k < xs.length), Below W.heap.size W W' → Calls Tryz.prog fn #[aggF xs[k], bx] W' fun e w' => e = .returned (.bool (q xs[k])) ∧ Below W'.heap.size W' w') := hq
  clear hc hq
  go_enter Tryz.func190, Tryz.ntmps190
  go_wp2_with fail
  go_loopw [5, 8] (fun _ t W' => Below W.heap.size W W' ∧ ∃ k : Nat, k ≤ xs.length ∧ t = .int .i64 (k : Nat) ∧ ∀ j (hj : j < xs.length), j < k → q xs[j] = false) (fun _ t _ => xs.length + 1 - (intOf t).toNat)
  case atStart => exact ⟨Below.refl _ _, 0, Nat.zero_le _, rfl, fun j _ h => absurd h (by omega)⟩
  case round =>
    obtain ⟨hB, k, hk, rfl, hp⟩ := hrel
    have HP : Hid (∀ j (hj : j < xs.length), j < k → q xs[j] = false) := hp
    clear hp
    by_cases hlt : k < xs.length
    · obtain ⟨g, rfl, x0, x1, x2⟩ := HC.out k hlt
      have hki : (k : Int) < (xs.length : Int) := by omega
      have hcall := HQ.out _ k hlt hB
      replace x0 := below_cell hB x0
      replace x1 := below_cell hB x1
      replace x2 := below_cell hB x2
      have HN : Hid (q (xs[k]'hlt) = false → ∀ j (hj : j < xs.length), j < k + 1 → q xs[j] = false) := fun h j hj hjk => by
        by_cases e : j = k
        · subst e
          exact h
        · exact HP.out j hj (by omega)
      obtain ⟨s, hs⟩ : ∃ s, xs[k]'hlt = s := ⟨_, rfl⟩
      rw [hs] at x0 x1 x2 hcall HN
      have HS : Hid (xs[k]'hlt = s) := hs
      clear hs
      unfold aggF at hcall
      cases hd : q s with
      | true =>
        have HE : Hid (q (xs[k]'hlt) = true) := by rw [HS.out]; exact hd
        rw [hd] at hcall
        clear hd HN
        go_wp2_with fail
        refine hcall.mono ?_
        rintro e w' ⟨rfl, hB2⟩
        go_wp2
        go_ret
        exact ⟨below_then hB hB2, Or.inr ⟨k, hlt, HE.out, HP.out, rfl⟩⟩
      | false =>
        have HN2 : Hid (∀ j (hj : j < xs.length), j < k + 1 → q xs[j] = false) := HN.out hd
        rw [hd] at hcall
        clear hd HN
        go_wp2_with fail
        refine hcall.mono ?_
        rintro e w' ⟨rfl, hB2⟩
        go_wp2_with fail
        go_roundw
        case rel => exact ⟨below_then hB hB2, k + 1, by omega, by go_num, HN2.out⟩
        case measure => simp [intOf]; omega
    · have hki : decide ((k : Int) < (xs.length : Int)) = false := by simp; omega
      have HF : Hid (∀ x ∈ xs, q x = false) := fun x hx => by
        obtain ⟨j, hj, rfl⟩ := List.getElem_of_mem hx
        exact HP.out j hj (by omega)
      go_wp2
      go_ret
      exact ⟨hB, Or.inl ⟨HF.out, rfl⟩⟩

theorem RowAt.same {W W' : World} {g k : Nat} {x : Lh.Fl} (h : RowAt W g k x) (e : W'.heap[g]? = W.heap[g]?) : RowAt W' g k x :=
  ⟨(World.cell?_of_block (w := W) (w' := W') (a := ⟨g, k * 3, none⟩) e).trans h.1, (World.cell?_of_block (w := W) (w' := W') (a := ⟨g, k * 3 + 1, none⟩) e).trans h.2.1, (World.cell?_of_block (w := W) (w' := W') (a := ⟨g, k * 3 + 2, none⟩) e).trans h.2.2⟩
/-- a row of flows, of which the first j are looked at, and i stay -/
structure DelG (q : Lh.Fl → Bool) (xs : List Lh.Fl) (g : Nat) (W0 : World) (i j : Nat) (W : World) : Prop where
  tur : Tur (fun b => b = g) W0 W
  lt : i < j
  len : (fl q (xs.take j)).length = i
  lo : ∀ k (h : k < (fl q (xs.take j)).length), RowAt W g k (fl q (xs.take j))[k]
  hi : ∀ k (h : k < xs.length), j ≤ k → RowAt W g k xs[k]
  all : ∀ k, k < xs.length * 3 → (W.cell? ⟨g, k, none⟩).isSome = true
  fz : ∀ k, k < xs.length * 3 → W.frozen? ⟨g, k, none⟩ = false
section
variable {q : Lh.Fl → Bool} {xs : List Lh.Fl} {g i j : Nat} {W0 W W' : World}
theorem DelG.later (h : DelG q xs g W0 i j W) (hg : g < W0.heap.size) (hb : Below W.heap.size W W') : DelG q xs g W0 i j W' := by
  have hg' : g < W.heap.size := Nat.lt_of_lt_of_le hg h.tur.size
  have e := hb.block g hg'
  refine ⟨h.tur.trans (Tur.of_below (F := fun b => b = g) hb) (fun b hb => Or.inl hb), h.lt, h.len, fun k hk => (h.lo k hk).same e, fun k hk hj => (h.hi k hk hj).same e, fun k hk => ?_, fun k hk => ?_⟩
  · rw [World.cell?_of_block (w := W) (w' := W') (a := ⟨g, k, none⟩) e]; exact h.all k hk
  · rw [World.frozen?_of_block (w := W) (w' := W') (a := ⟨g, k, none⟩) e]; exact h.fz k hk
theorem DelG.gone (h : DelG q xs g W0 i j W) (hj : j < xs.length) {x : Lh.Fl} (hx : xs[j] = x) (hq : q x = true) : DelG q xs g W0 i (j + 1) W := by
  have e := fl_gone hj hx hq
  exact ⟨h.tur, by have := h.lt; omega, by rw [e]; exact h.len, by rw [e]; exact h.lo, fun k hk hjk => h.hi k hk (by omega), h.all, h.fz⟩
theorem DelG.keep (h : DelG q xs g W0 i j W) (hj : j < xs.length) {x : Lh.Fl} (hx : xs[j] = x) (hq : q x = false) : DelG q xs g W0 (i + 1) (j + 1) (put3 W g i x) := by
  have e := fl_keep hj hx hq
  have hij := h.lt
  have hlen := h.len
  have hrow : RowAt (put3 W g i x) g i x := put3_row x (h.all _ (by omega)) (h.all _ (by omega)) (h.all _ (by omega))
  refine ⟨((h.tur.setCell _ (Or.inl rfl) _).setCell _ (Or.inl rfl) _).setCell _ (Or.inl rfl) _, by omega, by rw [e, List.length_append, hlen]; rfl, ?_, fun k hk hjk => (h.hi k hk (by omega)).put (by omega), fun k hk => ?_, fun k hk => ?_⟩
  · rw [e]
    intro k hk
    rw [List.length_append, List.length_singleton] at hk
    by_cases hki : k = i
    · subst hki
      rw [List.getElem_append_right (by omega)]
      simpa [hlen] using hrow
    · have hk' : k < (fl q (xs.take j)).length := by omega
      rw [List.getElem_append_left hk']
      exact (h.lo k hk').put hki
  · by_cases hm3 : k = i * 3 ∨ k = i * 3 + 1 ∨ k = i * 3 + 2
    · rcases hm3 with rfl | rfl | rfl
      · rw [hrow.1]; rfl
      · rw [hrow.2.1]; rfl
      · rw [hrow.2.2]; rfl
    · rw [put3_other x (by omega) (by omega) (by omega)]
      exact h.all k hk
  · unfold put3
    rw [World.frozen?_setCell, World.frozen?_setCell, World.frozen?_setCell]
    exact h.fz k hk
end
/-- the cells of n empty flows -/
def zeros3 (n : Nat) : List Value := (Builtin.zeroCells #[.int .u64 0, .string ⟨#[]⟩, .int .i64 0] n).toList
theorem zeros3_len (n : Nat) : (zeros3 n).length = n * 3 := by simp [zeros3, Builtin.zeroCells]
theorem zeros3_one (n : Nat) : ∀ v ∈ zeros3 n, v.oneCell' = true := by
  intro v hv
  simp only [zeros3, Builtin.zeroCells, Array.toList_map, List.mem_map] at hv
  obtain ⟨i, _, rfl⟩ := hv
  have h3 : i % 3 = 0 ∨ i % 3 = 1 ∨ i % 3 = 2 := by omega
  rcases h3 with h | h | h <;> simp [h, Value.oneCell']
theorem clearG (g i n c : Nat) (w : World) (hi : i < n) (hs : ∀ k, k < n * 3 → (w.cell? ⟨g, k, none⟩).isSome = true) (hf : ∀ k, k < n * 3 → w.frozen? ⟨g, k, none⟩ = false) (ty : TypeId) :
    (Builtin.clear_ #[48] ty #[.slice (some ⟨g, i * 3, none⟩) (n - i) c]).run Tryz.prog w = .ok (.tuple #[]) (w.setCells g (i * 3) (zeros3 (n - i))) := by
  have hlen := zeros3_len (n - i)
  have hst := run_storeCells_cells (P := Tryz.prog) g (i * 3) (zeros3 (n - i)) 0 w (fun j hj => hs _ (by omega)) (fun j hj => hf _ (by omega)) (zeros3_one _)
  simp only [Nat.add_zero] at hst
  obtain ⟨m, hm⟩ : ∃ m, n - i = m + 1 := ⟨n - i - 1, by omega⟩
  rw [hm] at hst ⊢
  have hz : ∀ w, (zeroValue 82).run Tryz.prog w = .ok (.agg #[.int .u64 0, .string ⟨#[]⟩, .int .i64 0]) w := fun w => Tryz.zeroValue82 w
  have e : (Builtin.zeroCells (Value.agg #[.int .u64 0, .string ⟨#[]⟩, .int .i64 0]).cells (m + 1)).toList = zeros3 (m + 1) := rfl
  simp [Builtin.clear_, run_underlying Tryz.underlying48, hz, e, hst]

set_option maxRecDepth 100000 in
set_option maxHeartbeats 4000000 in
/-- slices.DeleteFunc of flows -/
theorem deleteG (fn : Nat) (eg : ∀ args w, (callFunc fn args).run Tryz.prog w = .ok (.enter fn args) w) (bx : Value) (q : Lh.Fl → Bool) (g cap : Nat) (xs : List Lh.Fl) (W : World) (hl : xs.length ≤ 1000) (hcap : xs.length ≤ cap) (hg : g < W.heap.size)
    (hc : ∀ k (h : k < xs.length), RowAt W g k xs[k]) (hf : ∀ k, k < xs.length * 3 → W.frozen? ⟨g, k, none⟩ = false)
    (hq : ∀ W' k (h : k < xs.length), Tur (fun b => b = g) W W' → Calls Tryz.prog fn #[aggF xs[k], bx] W' fun e w' => e = .returned (.bool (q xs[k])) ∧ Below W'.heap.size W' w') :
    Calls Tryz.prog 159 #[.slice (some ⟨g, 0, none⟩) xs.length cap, .func (.func fn) #[] #[bx]] W fun e w' => e = .returned (.slice (some ⟨g, 0, none⟩) (fl q xs).length cap) ∧ Tur (fun b => b = g) W w' ∧ ∀ k (h : k < (fl q xs).length), RowAt w' g k (fl q xs)[k] := by
  have hix := indexG_core fn eg bx q (some ⟨g, 0, none⟩) cap xs W hl (fun k h => ⟨g, rfl, hc k h⟩) (fun W' k h hB => hq W' k h (Tur.of_below hB))
  have HC : Hid (∀ k (h : k < xs.length), RowAt W g k xs[k]) := hc
  have HF : Hid (∀ k, k < xs.length * 3 → W.frozen? ⟨g, k, none⟩ = false) := hf
  have HQ : Hid (∀ W' k (h : k < xs.length), Tur (fun b => b = g) W W' → Calls Tryz.prog fn #[aggF xs[k], bx] W' fun e w' => e = .returned (.bool (q xs[k])) ∧ Below W'.heap.size W' w') := hq
  clear hc hf hq
  go_enter Tryz.func159, Tryz.ntmps159
  go_wp2_with fail
  refine hix.mono ?_
  rintro e w1 ⟨hb1, ⟨hall, rfl⟩ | ⟨i0, hi0, hqt, hqf, rfl⟩⟩
  · have HA : Hid (fl q xs = xs) := fl_all hall
    clear hix hall
    go_wp2
    go_ret
    exact ⟨by rw [HA.out]; rfl, Tur.of_below hb1, by rw [HA.out]; exact fun k h => (HC.out k h).same (hb1.block g hg)⟩
  · have hne : ((i0 : Int) == -1) = false := beq_eq_false_iff_ne.2 (by omega)
    have HD : Hid (DelG q xs g W i0 (i0 + 1) w1) := by
      have e := fl_first hi0 hqf hqt
      have eb := hb1.block g hg
      have hlt : (xs.take i0).length = i0 := by rw [List.length_take]; omega
      refine ⟨Tur.of_below hb1, by omega, by rw [e]; exact hlt, ?_, fun k hk _ => (HC.out k hk).same eb, fun k hk => ?_, fun k hk => (World.frozen?_of_block (w := W) (w' := w1) (a := ⟨g, k, none⟩) eb).trans (HF.out k hk)⟩
      · rw [e]
        intro k hk
        rw [List.getElem_take]
        exact (HC.out k _).same eb
      · obtain ⟨j, hj, rfl | rfl | rfl⟩ := row_cell hk
        · rw [((HC.out j hj).same eb).1]; rfl
        · rw [((HC.out j hj).same eb).2.1]; rfl
        · rw [((HC.out j hj).same eb).2.2]; rfl
    clear hix hqt hqf
    go_wp2_with fail
    go_loopw [5, 6, 7] (fun s5 s6 _ wr => ∃ i j : Nat, s5 = .int .i64 (i : Nat) ∧ s6 = .int .i64 (j : Nat) ∧ j ≤ xs.length ∧ DelG q xs g W i j wr) (fun _ s6 _ _ => xs.length - (intOf s6).toNat)
    case atStart => exact ⟨i0, i0 + 1, rfl, by go_num, hi0, HD.out⟩
    case round =>
      obtain ⟨i, j, rfl, rfl, hj, hD⟩ := hrel
      have HD2 : Hid (DelG q xs g W i j wr) := hD
      clear HD hb1
      have hij := hD.lt
      have hgw : g < wr.heap.size := Nat.lt_of_lt_of_le hg hD.tur.size
      by_cases hlt : j < xs.length
      · have hji : (j : Int) < (xs.length : Int) := by omega
        obtain ⟨x0, x1, x2⟩ := hD.hi j hlt (Nat.le_refl _)
        obtain ⟨z0, p0⟩ := Option.isSome_iff_exists.1 (hD.all (i * 3) (by omega))
        obtain ⟨z1, p1⟩ := Option.isSome_iff_exists.1 (hD.all (i * 3 + 1) (by omega))
        obtain ⟨z2, p2⟩ := Option.isSome_iff_exists.1 (hD.all (i * 3 + 2) (by omega))
        have f0 := hD.fz (i * 3) (by omega)
        have f1 := hD.fz (i * 3 + 1) (by omega)
        have f2 := hD.fz (i * 3 + 2) (by omega)
        have hii : (i : Int) < (xs.length : Int) := by omega
        obtain ⟨x, hx⟩ : ∃ x, xs[j]'hlt = x := ⟨_, rfl⟩
        have hcall : ∀ W', Tur (fun b => b = g) W W' → Calls Tryz.prog fn #[aggF x, bx] W' fun e w' => e = .returned (.bool (q x)) ∧ Below W'.heap.size W' w' := fun W' hT => by
          have := HQ.out W' j hlt hT
          rwa [hx] at this
        rw [hx] at x0 x1 x2
        have HX : Hid (xs[j]'hlt = x) := hx
        have hb0 : Below wr.heap.size wr (wr.alloc (.cells #[.int .u64 (x.1 : Nat), .string x.2.1, .int .i64 x.2.2] 82)) := (Below.refl _ _).alloc (Nat.le_refl _) _
        have hcl := hcall _ (hD.tur.trans (Tur.of_below (F := fun b => b = g) hb0) (fun b hb => Or.inl hb))
        clear hx hD hcall
        unfold aggF at hcl
        cases hqx : q x with
        | false =>
          have HQX : Hid (q x = false) := hqx
          rw [hqx] at hcl
          clear hqx
          go_wp2_with fail
          refine hcl.mono ?_
          rintro e w2 ⟨rfl, hb2⟩
          have hb02 := below_then hb0 hb2
          have eb := hb02.block g hgw
          replace p0 := (World.cell?_of_block (w := wr) (w' := w2) (a := ⟨g, i * 3, none⟩) eb).trans p0
          replace p1 := (World.cell?_of_block (w := wr) (w' := w2) (a := ⟨g, i * 3 + 1, none⟩) eb).trans p1
          replace p2 := (World.cell?_of_block (w := wr) (w' := w2) (a := ⟨g, i * 3 + 2, none⟩) eb).trans p2
          replace f0 := (World.frozen?_of_block (w := wr) (w' := w2) (a := ⟨g, i * 3, none⟩) eb).trans f0
          replace f1 := (World.frozen?_of_block (w := wr) (w' := w2) (a := ⟨g, i * 3 + 1, none⟩) eb).trans f1
          replace f2 := (World.frozen?_of_block (w := wr) (w' := w2) (a := ⟨g, i * 3 + 2, none⟩) eb).trans f2
          have y0 : w2.cell? ⟨wr.heap.size, 0, none⟩ = some (.int .u64 (x.1 : Nat)) := below_cell hb2 (by simp)
          have y1 : w2.cell? ⟨wr.heap.size, 1, none⟩ = some (.string x.2.1) := below_cell hb2 (by simp)
          have y2 : w2.cell? ⟨wr.heap.size, 2, none⟩ = some (.int .i64 x.2.2) := below_cell hb2 (by simp)
          have HD3 : Hid (DelG q xs g W (i + 1) (j + 1) (put3 w2 g i x)) := (HD2.out.later hg hb02).keep hlt HX.out HQX.out
          have hne : ¬ wr.heap.size = g := by omega
          clear hcl x0 x1 x2 hb0 hb2 eb
          go_wp2_with fail
          go_roundw
          case rel => exact ⟨i + 1, j + 1, by go_num, by go_num, by omega, HD3.out⟩
          case measure => simp [intOf]; omega
        | true =>
          have HQX : Hid (q x = true) := hqx
          rw [hqx] at hcl
          clear hqx
          go_wp2_with fail
          refine hcl.mono ?_
          rintro e w2 ⟨rfl, hb2⟩
          have HD3 : Hid (DelG q xs g W i (j + 1) w2) := (HD2.out.later hg (below_then hb0 hb2)).gone hlt HX.out HQX.out
          clear hcl x0 x1 x2 p0 p1 p2 f0 f1 f2
          go_wp2_with fail
          go_roundw
          case rel => exact ⟨i, j + 1, rfl, by go_num, by omega, HD3.out⟩
          case measure => simp [intOf]; omega
      · have hje : j = xs.length := by omega
        subst hje
        have hji : decide ((xs.length : Int) < (xs.length : Int)) = false := by simp
        have hcl := fun ty => clearG g i xs.length (cap - i) wr hij hD.all hD.fz ty
        have HI : Hid ((fl q xs).length = i) := by have := hD.len; rwa [List.take_length] at this
        have HLO : Hid (∀ k (h : k < (fl q xs).length), RowAt wr g k (fl q xs)[k]) := by have := hD.lo; rwa [List.take_length] at this
        have HT : Hid (Tur (fun b => b = g) W wr) := hD.tur
        have hic : (i : Int) < (cap : Int) := by omega
        have hii : (i : Int) < (xs.length : Int) := by omega
        clear hD HD2
        go_wp2
        go_ret
        refine ⟨by rw [HI.out]; rfl, HT.out.setCells (Or.inl rfl) _ _, fun k hk => ?_⟩
        obtain ⟨r0, r1, r2⟩ := HLO.out k hk
        have := HI.out
        exact ⟨(World.cell?_setCells_out _ _ _ _ _ (fun _ _ => Or.inl (by show k * 3 < i * 3; omega))).trans r0, (World.cell?_setCells_out _ _ _ _ _ (fun _ _ => Or.inl (by show k * 3 + 1 < i * 3; omega))).trans r1, (World.cell?_setCells_out _ _ _ _ _ (fun _ _ => Or.inl (by show k * 3 + 2 < i * 3; omega))).trans r2⟩
end Go.Proofs.YtmdckddenelneaaGreatDoor

/- Picks: what a pick leaves, and what it tells. -/
namespace Go.Proofs.YtmdckddenelneaaGreatDoor
open Go.RowKit

theorem keeps_one {S : Lh.Bl} {k : Nat} {now : Int} {s z : ByteArray} (h : Lh.BKeeps S k now s) (h' : Lh.BKeeps S k now z) : s = z := by
  obtain ⟨_, _, h, _⟩ := h
  obtain ⟨_, _, h', _⟩ := h'
  exact h.symm.trans h'
section
variable {nw : List ByteArray → Nat → Nat → ByteArray} {S S' : Lh.Bl} {k : Nat} {now : Int} {s z : ByteArray} {kept : Bool} {c : Nat}
theorem ok_not {la now : Int} {j : Nat} (h : TickOk la now) (h' : TickF la now j) : False := by
  obtain ⟨h1, h2, h3⟩ := h
  rcases h' with ⟨h', _⟩ | ⟨_, _, h', _⟩ <;> omega
theorem PickR.keep (h : PickR nw S k now S' s kept c) (ht : TickOk S.la now) (hz : Lh.BKeeps S k now z) : s = z ∧ kept = true ∧ c = 0 ∧ S' = { S with la := now, L := Lh.fput S.t S.L k z now } := by
  rcases h with ⟨j, hf, _⟩ | ⟨_, hk, h1, h2, h3⟩ | ⟨_, hn, _⟩ | ⟨_, hn, _⟩
  · exact (ok_not ht hf).elim
  · obtain rfl := keeps_one hk hz
    exact ⟨rfl, h1, h2, h3⟩
  · exact absurd hz (hn z)
  · exact absurd hz (hn z)
theorem PickR.new (h : PickR nw S k now S' s kept c) (ht : TickOk S.la now) (hn : ∀ z, ¬ Lh.BKeeps S k now z) (ho : Lh.bopen S ≠ []) : s = nw (Lh.bopen S) S.size k ∧ kept = false ∧ c = 0 ∧ S' = { S with la := now, L := Lh.fput S.t S.L k s now } := by
  rcases h with ⟨j, hf, _⟩ | ⟨_, hk, _⟩ | ⟨_, _, h, _⟩ | ⟨_, _, _, h1, h2, h3, h4⟩
  · exact (ok_not ht hf).elim
  · exact absurd hk (hn s)
  · exact absurd h ho
  · exact ⟨h1, h2, h3, h4⟩
end
end Go.Proofs.YtmdckddenelneaaGreatDoor

/- The closed fact: a key keeps its host. -/
namespace Go.Proofs.YtmdckddenelneaaGreatDoor
open Go.RowKit

def nA : ByteArray := ⟨#[97]⟩
def nB : ByteArray := ⟨#[98]⟩
def nC : ByteArray := ⟨#[99]⟩
def nD : ByteArray := ⟨#[100]⟩
def nE : ByteArray := ⟨#[101]⟩
/-- a new balance -/
def bnew0 (xs : List ByteArray) (n t : Nat) : Lh.Bl := ⟨1, 1, n, t, Lh.hnew xs, [], 0, 0, []⟩
theorem hup_new {xs : List ByteArray} {s : ByteArray} : Lh.hup (Lh.hnew xs) s = true ↔ s ∈ xs := by
  rw [Lh.hup_iff]
  unfold Lh.hnew
  constructor
  · rintro ⟨x, hx, rfl, _⟩
    obtain ⟨y, hy, rfl⟩ := List.mem_map.1 hx
    exact hy
  · intro h
    exact ⟨_, List.mem_map.2 ⟨s, h, rfl⟩, rfl, rfl⟩
theorem bok_new {xs : List ByteArray} {n t : Nat} (hl : xs.length ≤ 12) (hn : xs.Nodup) (hs : ∀ s ∈ xs, s.size ≤ 300) (hnm : ∀ s ∈ xs, Lh.isNm s = true) (hp : Lh.Prm n) (h5 : n ≤ 503) (h1 : 1 ≤ t) (h2 : t ≤ 1000) : Lh.BOk (bnew0 xs n t) := by
  refine ⟨Lh.hnew_ok (by simp [bnew0]) (by simp [bnew0]) (by simp [bnew0]) (by simp [bnew0]) hl hn hs, fun x hx => ?_, Lh.FlOk.nil, fun x hx => ?_, fun x hx => ?_, h1, h2, hp, h5, by simp [bnew0], by simp [bnew0], by simp [bnew0], by simp [bnew0]⟩
  · obtain ⟨y, hy, rfl⟩ := List.mem_map.1 hx
    exact hnm y hy
  · exact absurd hx (by simp [bnew0])
  · exact absurd hx (by simp [bnew0])
theorem open_some {S : Lh.Bl} {s : ByteArray} (h : s ∈ Lh.bopen S) : Lh.bopen S ≠ [] := fun e => by rw [e] at h; cases h
theorem prm_small {n : Nat} (h2 : 2 ≤ n) (h : ∀ k : Fin n, 2 ≤ k.val → n % k.val ≠ 0) : Lh.Prm n := ⟨h2, fun k hk hlt => h ⟨k, hlt⟩ hk⟩
theorem prm31 : Lh.Prm 31 := prm_small (by decide) (by decide)
theorem nm_ok : ∀ s ∈ [nA, nB, nC, nD, nE], Lh.isNm s = true ∧ s.size ≤ 300 := by decide
/-- the first n of them -/
theorem five_fault {xs : List ByteArray} (h : xs = [nA, nB] ∨ xs = [nA, nB, nC] ∨ xs = [nA, nB, nC, nD] ∨ xs = [nA, nB, nC, nD, nE]) : IsFault xs 0 (-1) ∧ xs.Nodup ∧ xs.length ≤ 12 ∧ 0 < xs.length ∧ (∀ s ∈ xs, s.size ≤ 300) ∧ ∀ s ∈ xs, Lh.isNm s = true := by
  have hnd : xs.Nodup := by rcases h with rfl | rfl | rfl | rfl <;> decide
  have hl : xs.length ≤ 12 := by rcases h with rfl | rfl | rfl | rfl <;> decide
  have h0 : 0 < xs.length := by rcases h with rfl | rfl | rfl | rfl <;> decide
  have hm : ∀ s ∈ xs, s ∈ [nA, nB, nC, nD, nE] := by
    intro s hs
    rcases h with rfl | rfl | rfl | rfl
    · simp at hs ⊢; rcases hs with rfl | rfl <;> simp
    · simp at hs ⊢; rcases hs with rfl | rfl | rfl <;> simp
    · simp at hs ⊢; rcases hs with rfl | rfl | rfl | rfl <;> simp
    · exact hs
  exact ⟨fault_of hl (fun s hs => (nm_ok s (hm s hs)).1) hnd, hnd, hl, h0, fun s hs => (nm_ok s (hm s hs)).2, fun s hs => (nm_ok s (hm s hs)).1⟩
end Go.Proofs.YtmdckddenelneaaGreatDoor

/- The law BalanceFalls, over the landed package's contracts, where its numbers are right. -/
namespace Go.Proofs.YtmdckddenelneaaGreatDoor
open Go.RowKit

def four : List ByteArray := [nA, nB, nC, nD]
theorem four_fault : IsFault four 0 (-1) ∧ four.Nodup ∧ four.length ≤ 12 ∧ 0 < four.length ∧ (∀ s ∈ four, s.size ≤ 300) ∧ ∀ s ∈ four, Lh.isNm s = true := five_fault (Or.inr (Or.inr (Or.inl rfl)))
theorem four_bok : Lh.BOk (bnew0 four 31 20) := by
  obtain ⟨_, hnd, hl, _, hsz, hnm⟩ := four_fault
  exact bok_new hl hnd hsz hnm prm31 (by decide) (by decide) (by decide)
end Go.Proofs.YtmdckddenelneaaGreatDoor

/- The law BalanceOver, over the landed package's contracts, where its numbers are right. -/
namespace Go.Proofs.YtmdckddenelneaaGreatDoor
open Go.RowKit

def three : List ByteArray := [nA, nB, nC]
section
variable {hC : BalanceC} {B : Nat} {w W W' : World} {S S' T T' : Lh.Bl} {F F' G G' : Nat → Prop} {p q : Nat}
end
theorem goodF_of {S : Lh.Bl} (h : Lh.BOk S) : ∀ j, ∀ hj : j < S.L.length, GoodF S.L j hj := by
  intro j hj
  have hm := List.getElem_mem hj
  refine ⟨h.host _ hm, h.ok.lo _ hm, h.hi _ hm, fun i hi hlt e => ?_⟩
  have := List.pairwise_iff_getElem.1 h.ok.rise i j hi hj hlt
  omega
theorem caF_of {S : Lh.Bl} (h : Lh.BOk S) {e : Int} (h0 : 0 ≤ e) (h1 : e ≤ 1099511627776) : CaF e S.L 0 (-1) := Or.inr (Or.inr ⟨⟨h0, h1, h.ok.len⟩, goodF_of h, rfl, rfl⟩)
theorem keyIn_of {S : Lh.Bl} (h : Lh.BOk S) : KeyIn S.L := fun x hx => h.ok.key x hx
end Go.Proofs.YtmdckddenelneaaGreatDoor
