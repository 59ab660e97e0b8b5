/- slices.IndexFunc and slices.DeleteFunc of texts, with a function that lays blocks of its own. -/
import Derived.Test.YtmkdpchodeckgaaDoorM8
import Derived.Lib.SliceRun
namespace Go.Proofs.YtmkdpchodeckgaaDoor
open Go.RowKit Go.Shelf

/-- those that stay -/
def fl {α : Type} (q : α → Bool) (l : List α) : List α := l.filter fun x => !q x
theorem fl_le {α : Type} (q : α → Bool) (l : List α) (i : Nat) : (fl q (l.take i)).length ≤ i := Nat.le_trans (List.length_filter_le _ _) (by rw [List.length_take]; exact Nat.min_le_left _ _)
theorem fl_keep {α : Type} {q : α → Bool} {l : List α} {i : Nat} (h : i < l.length) {x : α} (hx : l[i] = x) (hq : q x = false) : fl q (l.take (i + 1)) = fl q (l.take i) ++ [x] := by
  unfold fl
  rw [List.take_succ_eq_append_getElem h, List.filter_append, hx]
  simp [hq]
theorem fl_gone {α : Type} {q : α → Bool} {l : List α} {i : Nat} (h : i < l.length) {x : α} (hx : l[i] = x) (hq : q x = true) : fl q (l.take (i + 1)) = fl q (l.take i) := by
  unfold fl
  rw [List.take_succ_eq_append_getElem h, List.filter_append, hx]
  simp [hq]
theorem fl_all {α : Type} {q : α → Bool} {l : List α} (h : ∀ x ∈ l, q x = false) : fl q l = l := List.filter_eq_self.2 fun x hx => by simp [h x hx]
theorem fl_first {α : Type} {q : α → Bool} {l : List α} {i : Nat} (h : i < l.length) (ht : ∀ j (hj : j < l.length), j < i → q l[j] = false) (hq : q l[i] = true) : fl q (l.take (i + 1)) = l.take i := by
  rw [fl_gone h rfl hq]
  refine fl_all fun x hx => ?_
  obtain ⟨j, hj, rfl⟩ := List.getElem_of_mem hx
  rw [List.length_take] at hj
  rw [List.getElem_take]
  exact ht j (by omega) (by omega)

set_option maxRecDepth 100000 in
set_option maxHeartbeats 2000000 in
theorem indexT_core (fn : Nat) (eg : ∀ args w, (callFunc fn args).run Tryd.prog w = .ok (.enter fn args) w) (bx : Value) (q : ByteArray → Bool) (pv : Option Addr) (c : Nat) (xs : List ByteArray) (W : World) (hl : xs.length ≤ 1000)
    (hc : ∀ k (h : k < xs.length), ∃ g o, pv = some ⟨g, o, none⟩ ∧ W.cell? ⟨g, o + k, none⟩ = some (.string xs[k]))
    (hq : ∀ W' k (h : k < xs.length), Below W.heap.size W W' → Calls Tryd.prog fn #[.string xs[k], bx] W' fun e w' => e = .returned (.bool (q xs[k])) ∧ Below W'.heap.size W' w') :
    Calls Tryd.prog 64 #[.slice pv xs.length c, .func (.func fn) #[] #[bx]] W fun e w' => Below W.heap.size W w' ∧ (((∀ x ∈ xs, q x = false) ∧ e = .returned (.int .i64 (-1))) ∨ ∃ i, ∃ h : i < xs.length, q xs[i] = true ∧ (∀ j (hj : j < xs.length), j < i → q xs[j] = false) ∧ e = .returned (.int .i64 (i : Nat))) := by
  have HC : Hid (∀ k (h : k < xs.length), ∃ g o, pv = some ⟨g, o, none⟩ ∧ W.cell? ⟨g, o + k, none⟩ = some (.string xs[k])) := hc
  have HQ : Hid (∀ W' k (h : k < xs.length), Below W.heap.size W W' → Calls Tryd.prog fn #[.string xs[k], bx] W' fun e w' => e = .returned (.bool (q xs[k])) ∧ Below W'.heap.size W' w') := hq
  clear hc hq
  go_enter Tryd.func64, Tryd.ntmps64
  go_wp2_with fail
  go_loopw [5, 8] (fun _ t W' => Below W.heap.size W W' ∧ ∃ k : Nat, k ≤ xs.length ∧ t = .int .i64 (k : Nat) ∧ ∀ j (hj : j < xs.length), j < k → q xs[j] = false) (fun _ t _ => xs.length + 1 - (intOf t).toNat)
  case atStart => exact ⟨Below.refl _ _, 0, Nat.zero_le _, rfl, fun j _ h => absurd h (by omega)⟩
  case round =>
    obtain ⟨hB, k, hk, rfl, hp⟩ := hrel
    have HP : Hid (∀ j (hj : j < xs.length), j < k → q xs[j] = false) := hp
    clear hp
    by_cases hlt : k < xs.length
    · obtain ⟨g, o, rfl, c1⟩ := HC.out k hlt
      have hki : (k : Int) < (xs.length : Int) := by omega
      have hcall := HQ.out _ k hlt hB
      have c1' := below_cell hB c1
      have HN : Hid (q (xs[k]'hlt) = false → ∀ j (hj : j < xs.length), j < k + 1 → q xs[j] = false) := fun h j hj hjk => by
        by_cases e : j = k
        · subst e
          exact h
        · exact HP.out j hj (by omega)
      obtain ⟨s, hs⟩ : ∃ s, xs[k]'hlt = s := ⟨_, rfl⟩
      rw [hs] at c1' hcall HN
      have HS : Hid (xs[k]'hlt = s) := hs
      clear c1 hs
      cases hd : q s with
      | true =>
        have HE : Hid (q (xs[k]'hlt) = true) := by rw [HS.out]; exact hd
        rw [hd] at hcall
        clear hd HN
        go_wp2_with (go_at_fn fn; refine hcall.mono ?_; rintro e w' ⟨rfl, hB2⟩)
        go_ret
        exact ⟨below_then hB hB2, Or.inr ⟨k, hlt, HE.out, HP.out, rfl⟩⟩
      | false =>
        have HN2 : Hid (∀ j (hj : j < xs.length), j < k + 1 → q xs[j] = false) := HN.out hd
        rw [hd] at hcall
        clear hd HN
        go_wp2_with (go_at_fn fn; refine hcall.mono ?_; rintro e w' ⟨rfl, hB2⟩)
        go_roundw
        case rel => exact ⟨below_then hB hB2, k + 1, by omega, by go_num, HN2.out⟩
        case measure => simp [intOf]; omega
    · have hki : decide ((k : Int) < (xs.length : Int)) = false := by simp; omega
      have HF : Hid (∀ x ∈ xs, q x = false) := fun x hx => by
        obtain ⟨j, hj, rfl⟩ := List.getElem_of_mem hx
        exact HP.out j hj (by omega)
      go_wp2
      go_ret
      exact ⟨hB, Or.inl ⟨HF.out, rfl⟩⟩

/-- a row of texts, of which the first j are looked at, and i stay -/
structure DelT (q : ByteArray → Bool) (xs : List ByteArray) (g : Nat) (W0 : World) (i j : Nat) (W : World) : Prop where
  tur : Tur (fun b => b = g) W0 W
  lt : i < j
  len : (fl q (xs.take j)).length = i
  lo : ∀ k (h : k < (fl q (xs.take j)).length), W.cell? ⟨g, k, none⟩ = some (.string (fl q (xs.take j))[k])
  hi : ∀ k (h : k < xs.length), j ≤ k → W.cell? ⟨g, k, none⟩ = some (.string xs[k])
  all : ∀ k, k < xs.length → (W.cell? ⟨g, k, none⟩).isSome = true
  fz : ∀ k, W.frozen? ⟨g, k, none⟩ = false
section
variable {q : ByteArray → Bool} {xs : List ByteArray} {g i j : Nat} {W0 W W' : World}
theorem DelT.later (h : DelT q xs g W0 i j W) (hg : g < W0.heap.size) (hb : Below W.heap.size W W') : DelT q xs g W0 i j W' := by
  have hg' : g < W.heap.size := Nat.lt_of_lt_of_le hg h.tur.size
  have e := hb.block g hg'
  refine ⟨h.tur.trans (Tur.of_below (F := fun b => b = g) hb) (fun b hb => Or.inl hb), h.lt, h.len, fun k hk => ?_, fun k hk hj => ?_, fun k hk => ?_, fun k => ?_⟩
  · rw [World.cell?_of_block (w := W) (w' := W') (a := ⟨g, k, none⟩) e]; exact h.lo k hk
  · rw [World.cell?_of_block (w := W) (w' := W') (a := ⟨g, k, none⟩) e]; exact h.hi k hk hj
  · rw [World.cell?_of_block (w := W) (w' := W') (a := ⟨g, k, none⟩) e]; exact h.all k hk
  · rw [World.frozen?_of_block (w := W) (w' := W') (a := ⟨g, k, none⟩) e]; exact h.fz k
theorem DelT.gone (h : DelT q xs g W0 i j W) (hj : j < xs.length) {x : ByteArray} (hx : xs[j] = x) (hq : q x = true) : DelT q xs g W0 i (j + 1) W := by
  have e := fl_gone hj hx hq
  exact ⟨h.tur, by have := h.lt; omega, by rw [e]; exact h.len, by rw [e]; exact h.lo, fun k hk hjk => h.hi k hk (by omega), h.all, h.fz⟩
theorem DelT.keep (h : DelT q xs g W0 i j W) (hj : j < xs.length) {x : ByteArray} (hx : xs[j] = x) (hq : q x = false) : DelT q xs g W0 (i + 1) (j + 1) (W.setCell ⟨g, i, none⟩ (.string x)) := by
  have e := fl_keep hj hx hq
  have hij := h.lt
  have hlen := h.len
  refine ⟨h.tur.setCell i (Or.inl rfl) _, by omega, by rw [e, List.length_append, hlen]; rfl, ?_, fun k hk hjk => ?_, fun k hk => ?_, fun k => by rw [World.frozen?_setCell]; exact h.fz k⟩
  · rw [e]
    intro k hk
    rw [List.length_append, List.length_singleton] at hk
    by_cases hki : k = i
    · subst hki
      rw [World.cell?_setCell_same' _ _ _ (h.all _ (by omega)), List.getElem_append_right (by omega)]
      simp
    · have hk' : k < (fl q (xs.take j)).length := by omega
      rw [World.cell?_setCell_other _ _ _ _ (by intro e; injection e with _ e; omega), List.getElem_append_left hk']
      exact h.lo k hk'
  · rw [World.cell?_setCell_other _ _ _ _ (by intro e; injection e with _ e; omega)]
    exact h.hi k hk (by omega)
  · by_cases hki : k = i
    · subst hki
      rw [World.cell?_setCell_same' _ _ _ (h.all _ (by omega))]
      rfl
    · rw [World.cell?_setCell_other _ _ _ _ (by intro e; injection e with _ e; omega)]
      exact h.all k hk
end
theorem clearT (g i n c : Nat) (w : World) (hi : i < n) (hs : ∀ k, k < n → (w.cell? ⟨g, k, none⟩).isSome = true) (hf : ∀ k, w.frozen? ⟨g, k, none⟩ = false) (ty : TypeId) :
    (Builtin.clear_ #[24] ty #[.slice (some ⟨g, i, none⟩) (n - i) c]).run Tryd.prog w = .ok (.tuple #[]) (w.setCells g i (List.replicate (n - i) (.string ⟨#[]⟩))) :=
  Lib.run_clear_slice w 24 9 ty (.string ⟨#[]⟩) Tryd.underlying24 Tryd.zeroValue9 rfl rfl g i (n - i) c (by omega) (fun j hj => hs _ (by omega)) (fun j _ => hf _)
theorem Tur.setCells {F : Nat → Prop} {w w' : World} (h : Tur F w w') {x : Nat} (hx : F x ∨ w.heap.size ≤ x) : ∀ (vs : List Value) (o : Nat), Tur F w (w'.setCells x o vs) := by
  intro vs
  induction vs generalizing w' with
  | nil => intro o; exact h
  | cons v r ih => intro o; exact ih (h.setCell o hx v) (o + 1)

set_option maxRecDepth 100000 in
set_option maxHeartbeats 4000000 in
/-- slices.DeleteFunc of texts -/
theorem deleteT (fn : Nat) (eg : ∀ args w, (callFunc fn args).run Tryd.prog w = .ok (.enter fn args) w) (bx : Value) (q : ByteArray → Bool) (g cap : Nat) (xs : List ByteArray) (W : World) (hl : xs.length ≤ 1000) (hcap : xs.length ≤ cap) (hcm : cap ≤ maxLen) (hg : g < W.heap.size)
    (hc : ∀ k (h : k < xs.length), W.cell? ⟨g, k, none⟩ = some (.string xs[k])) (hf : ∀ k, W.frozen? ⟨g, k, none⟩ = false)
    (hq : ∀ W' k (h : k < xs.length), Tur (fun b => b = g) W W' → Calls Tryd.prog fn #[.string xs[k], bx] W' fun e w' => e = .returned (.bool (q xs[k])) ∧ Below W'.heap.size W' w') :
    Calls Tryd.prog 48 #[.slice (some ⟨g, 0, none⟩) xs.length cap, .func (.func fn) #[] #[bx]] W fun e w' => e = .returned (.slice (some ⟨g, 0, none⟩) (fl q xs).length cap) ∧ Tur (fun b => b = g) W w' ∧ ∀ k (h : k < (fl q xs).length), w'.cell? ⟨g, k, none⟩ = some (.string (fl q xs)[k]) := by
  have hix := indexT_core fn eg bx q (some ⟨g, 0, none⟩) cap xs W hl (fun k h => ⟨g, 0, rfl, by rw [Nat.zero_add]; exact hc k h⟩) (fun W' k h hB => hq W' k h (Tur.of_below hB))
  have HC : Hid (∀ k (h : k < xs.length), W.cell? ⟨g, k, none⟩ = some (.string xs[k])) := hc
  have HF : Hid (∀ k, W.frozen? ⟨g, k, none⟩ = false) := hf
  have HQ : Hid (∀ W' k (h : k < xs.length), Tur (fun b => b = g) W W' → Calls Tryd.prog fn #[.string xs[k], bx] W' fun e w' => e = .returned (.bool (q xs[k])) ∧ Below W'.heap.size W' w') := hq
  unfold maxLen at hcm
  clear hc hf hq
  go_enter Tryd.func48, Tryd.ntmps48
  go_wp2_with fail
  refine hix.mono ?_
  rintro e w1 ⟨hb1, ⟨hall, rfl⟩ | ⟨i0, hi0, hqt, hqf, rfl⟩⟩
  · have HA : Hid (fl q xs = xs) := fl_all hall
    clear hix hall
    go_wp2
    go_ret
    exact ⟨by rw [HA.out]; rfl, Tur.of_below hb1, by rw [HA.out]; exact fun k h => below_cell hb1 (HC.out k h)⟩
  · have hne : ((i0 : Int) == -1) = false := beq_eq_false_iff_ne.2 (by omega)
    have HD : Hid (DelT q xs g W i0 (i0 + 1) w1) := by
      have e := fl_first hi0 hqf hqt
      have eb := hb1.block g hg
      have hlt : (xs.take i0).length = i0 := by rw [List.length_take]; omega
      refine ⟨Tur.of_below hb1, by omega, by rw [e]; exact hlt, ?_, fun k hk _ => below_cell hb1 (HC.out k hk), fun k hk => by rw [below_cell hb1 (HC.out k hk)]; rfl, fun k => (World.frozen?_of_block (w := W) (w' := w1) (a := ⟨g, k, none⟩) eb).trans (HF.out k)⟩
      rw [e]
      intro k hk
      rw [List.getElem_take]
      exact below_cell hb1 (HC.out k _)
    clear hix hqt hqf
    go_wp2_with fail
    go_loopw [5, 6, 7] (fun s5 s6 _ wr => ∃ i j : Nat, s5 = .int .i64 (i : Nat) ∧ s6 = .int .i64 (j : Nat) ∧ j ≤ xs.length ∧ DelT q xs g W i j wr) (fun _ s6 _ _ => xs.length - (intOf s6).toNat)
    case atStart => exact ⟨i0, i0 + 1, rfl, by go_num, hi0, HD.out⟩
    case round =>
      obtain ⟨i, j, rfl, rfl, hj, hD⟩ := hrel
      have HD2 : Hid (DelT q xs g W i j wr) := hD
      clear HD hb1
      have hij := hD.lt
      by_cases hlt : j < xs.length
      · have hji : (j : Int) < (xs.length : Int) := by omega
        have cj := hD.hi j hlt (Nat.le_refl _)
        obtain ⟨zi, ci⟩ := Option.isSome_iff_exists.1 (hD.all i (by omega))
        have fi := hD.fz i
        have hii : (i : Int) < (xs.length : Int) := by omega
        have hcall := HQ.out wr j hlt hD.tur
        obtain ⟨x, hx⟩ : ∃ x, xs[j]'hlt = x := ⟨_, rfl⟩
        rw [hx] at cj hcall
        have HX : Hid (xs[j]'hlt = x) := hx
        clear hx hD
        have hgw : g < wr.heap.size := World.block_lt_of_cell? wr ⟨g, j, none⟩ cj
        cases hqx : q x with
        | false =>
          have HQX : Hid (q x = false) := hqx
          rw [hqx] at hcall
          clear hqx
          go_wp2_with fail
          refine hcall.mono ?_
          rintro e w2 ⟨rfl, hb2⟩
          have ci' := below_cell hb2 ci
          have fi' : w2.frozen? ⟨g, i, none⟩ = false := (World.frozen?_of_block (w := wr) (w' := w2) (a := ⟨g, i, none⟩) (hb2.block g hgw)).trans fi
          have HD3 : Hid (DelT q xs g W (i + 1) (j + 1) (w2.setCell ⟨g, i, none⟩ (.string x))) := (HD2.out.later hg hb2).keep hlt HX.out HQX.out
          clear hcall ci fi cj
          go_wp2_with fail
          go_roundw
          case rel => exact ⟨i + 1, j + 1, by go_num, by go_num, by omega, HD3.out⟩
          case measure => simp [intOf]; omega
        | true =>
          have HQX : Hid (q x = true) := hqx
          rw [hqx] at hcall
          clear hqx
          go_wp2_with fail
          refine hcall.mono ?_
          rintro e w2 ⟨rfl, hb2⟩
          have HD3 : Hid (DelT q xs g W i (j + 1) w2) := (HD2.out.later hg hb2).gone hlt HX.out HQX.out
          clear hcall ci fi cj
          go_wp2_with fail
          go_roundw
          case rel => exact ⟨i, j + 1, rfl, by go_num, by omega, HD3.out⟩
          case measure => simp [intOf]; omega
      · have hje : j = xs.length := by omega
        subst hje
        have hji : decide ((xs.length : Int) < (xs.length : Int)) = false := by simp
        have hcl := fun ty => clearT g i xs.length (cap - i) wr hij hD.all hD.fz ty
        have HI : Hid ((fl q xs).length = i) := by have := hD.len; rwa [List.take_length] at this
        have HLO : Hid (∀ k (h : k < (fl q xs).length), wr.cell? ⟨g, k, none⟩ = some (.string (fl q xs)[k])) := by have := hD.lo; rwa [List.take_length] at this
        have HT : Hid (Tur (fun b => b = g) W wr) := hD.tur
        have hic : (i : Int) < (cap : Int) := by omega
        have hii : (i : Int) < (xs.length : Int) := by omega
        clear hD HD2
        go_wp2
        go_ret
        refine ⟨by rw [HI.out]; rfl, HT.out.setCells (Or.inl rfl) _ _, fun k hk => ?_⟩
        rw [World.cell?_setCells_out _ _ _ _ _ (fun _ _ => Or.inl (by have := HI.out; show k < i; omega))]
        exact HLO.out k hk
end Go.Proofs.YtmkdpchodeckgaaDoor
