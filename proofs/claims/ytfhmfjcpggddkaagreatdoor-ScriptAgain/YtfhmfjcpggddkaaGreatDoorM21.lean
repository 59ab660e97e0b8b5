/- slices.IndexFunc and slices.DeleteFunc of texts, with a function that lays blocks of its own. -/
import Derived.Test.YtfhmfjcpggddkaaGreatDoorM18
import Derived.Lib.SliceRun
import Derived.Test.YtfhmfjcpggddkaaGreatDoorM20
namespace Go.Proofs.YtfhmfjcpggddkaaGreatDoor
open Go.RowKit Go.Shelf

/-- those that stay -/
def fl {α : Type} (q : α → Bool) (l : List α) : List α := l.filter fun x => !q x
theorem fl_keep {α : Type} {q : α → Bool} {l : List α} {i : Nat} (h : i < l.length) {x : α} (hx : l[i] = x) (hq : q x = false) : fl q (l.take (i + 1)) = fl q (l.take i) ++ [x] := by
  unfold fl
  rw [List.take_succ_eq_append_getElem h, List.filter_append, hx]
  simp [hq]
theorem fl_gone {α : Type} {q : α → Bool} {l : List α} {i : Nat} (h : i < l.length) {x : α} (hx : l[i] = x) (hq : q x = true) : fl q (l.take (i + 1)) = fl q (l.take i) := by
  unfold fl
  rw [List.take_succ_eq_append_getElem h, List.filter_append, hx]
  simp [hq]
theorem fl_all {α : Type} {q : α → Bool} {l : List α} (h : ∀ x ∈ l, q x = false) : fl q l = l := List.filter_eq_self.2 fun x hx => by simp [h x hx]
theorem fl_first {α : Type} {q : α → Bool} {l : List α} {i : Nat} (h : i < l.length) (ht : ∀ j (hj : j < l.length), j < i → q l[j] = false) (hq : q l[i] = true) : fl q (l.take (i + 1)) = l.take i := by
  rw [fl_gone h rfl hq]
  refine fl_all fun x hx => ?_
  obtain ⟨j, hj, rfl⟩ := List.getElem_of_mem hx
  rw [List.length_take] at hj
  rw [List.getElem_take]
  exact ht j (by omega) (by omega)

set_option maxRecDepth 100000 in
set_option maxHeartbeats 2000000 in
theorem indexT_core (fn : Nat) (eg : ∀ args w, (callFunc fn args).run Tryz.prog w = .ok (.enter fn args) w) (bx : Value) (q : ByteArray → Bool) (pv : Option Addr) (c : Nat) (xs : List ByteArray) (W : World) (hl : xs.length ≤ 1000)
    (hc : ∀ k (h : k < xs.length), ∃ g o, pv = some ⟨g, o, none⟩ ∧ W.cell? ⟨g, o + k, none⟩ = some (.string xs[k]))
    (hq : ∀ W' k (h : k < xs.length), Below W.heap.size W W' → Calls Tryz.prog fn #[.string xs[k], bx] W' fun e w' => e = .returned (.bool (q xs[k])) ∧ Below W'.heap.size W' w') :
    Calls Tryz.prog 278 #[.slice pv xs.length c, .func (.func fn) #[] #[bx]] W fun e w' => Below W.heap.size W w' ∧ (((∀ x ∈ xs, q x = false) ∧ e = .returned (.int .i64 (-1))) ∨ ∃ i, ∃ h : i < xs.length, q xs[i] = true ∧ (∀ j (hj : j < xs.length), j < i → q xs[j] = false) ∧ e = .returned (.int .i64 (i : Nat))) := by
  have HC : Hid (∀ k (h : k < xs.length), ∃ g o, pv = some ⟨g, o, none⟩ ∧ W.cell? ⟨g, o + k, none⟩ = some (.string xs[k])) := hc
  have HQ : Hid (∀ W' k (h : k < xs.length), Below W.heap.size W W' → Calls Tryz.prog fn #[.string xs[k], bx] W' fun e w' => e = .returned (.bool (q xs[k])) ∧ Below W'.heap.size W' w') := hq
  clear hc hq
  go_enter Tryz.func278, Tryz.ntmps278
  go_wp2_with fail
  go_loopw [5, 8] (fun _ t W' => Below W.heap.size W W' ∧ ∃ k : Nat, k ≤ xs.length ∧ t = .int .i64 (k : Nat) ∧ ∀ j (hj : j < xs.length), j < k → q xs[j] = false) (fun _ t _ => xs.length + 1 - (intOf t).toNat)
  case atStart => exact ⟨Below.refl _ _, 0, Nat.zero_le _, rfl, fun j _ h => absurd h (by omega)⟩
  case round =>
    obtain ⟨hB, k, hk, rfl, hp⟩ := hrel
    have HP : Hid (∀ j (hj : j < xs.length), j < k → q xs[j] = false) := hp
    clear hp
    by_cases hlt : k < xs.length
    · obtain ⟨g, o, rfl, c1⟩ := HC.out k hlt
      have hki : (k : Int) < (xs.length : Int) := by omega
      have hcall := HQ.out _ k hlt hB
      have c1' := below_cell hB c1
      have HN : Hid (q (xs[k]'hlt) = false → ∀ j (hj : j < xs.length), j < k + 1 → q xs[j] = false) := fun h j hj hjk => by
        by_cases e : j = k
        · subst e
          exact h
        · exact HP.out j hj (by omega)
      obtain ⟨s, hs⟩ : ∃ s, xs[k]'hlt = s := ⟨_, rfl⟩
      rw [hs] at c1' hcall HN
      have HS : Hid (xs[k]'hlt = s) := hs
      clear c1 hs
      cases hd : q s with
      | true =>
        have HE : Hid (q (xs[k]'hlt) = true) := by rw [HS.out]; exact hd
        rw [hd] at hcall
        clear hd HN
        go_wp2_with (go_at_fn fn; refine hcall.mono ?_; rintro e w' ⟨rfl, hB2⟩)
        go_ret
        exact ⟨below_then hB hB2, Or.inr ⟨k, hlt, HE.out, HP.out, rfl⟩⟩
      | false =>
        have HN2 : Hid (∀ j (hj : j < xs.length), j < k + 1 → q xs[j] = false) := HN.out hd
        rw [hd] at hcall
        clear hd HN
        go_wp2_with (go_at_fn fn; refine hcall.mono ?_; rintro e w' ⟨rfl, hB2⟩)
        go_roundw
        case rel => exact ⟨below_then hB hB2, k + 1, by omega, by go_num, HN2.out⟩
        case measure => simp [intOf]; omega
    · have hki : decide ((k : Int) < (xs.length : Int)) = false := by simp; omega
      have HF : Hid (∀ x ∈ xs, q x = false) := fun x hx => by
        obtain ⟨j, hj, rfl⟩ := List.getElem_of_mem hx
        exact HP.out j hj (by omega)
      go_wp2
      go_ret
      exact ⟨hB, Or.inl ⟨HF.out, rfl⟩⟩

/-- a row of texts, of which the first j are looked at, and i stay -/
structure DelT (q : ByteArray → Bool) (xs : List ByteArray) (g : Nat) (W0 : World) (i j : Nat) (W : World) : Prop where
  tur : Tur (fun b => b = g) W0 W
  lt : i < j
  len : (fl q (xs.take j)).length = i
  lo : ∀ k (h : k < (fl q (xs.take j)).length), W.cell? ⟨g, k, none⟩ = some (.string (fl q (xs.take j))[k])
  hi : ∀ k (h : k < xs.length), j ≤ k → W.cell? ⟨g, k, none⟩ = some (.string xs[k])
  all : ∀ k, k < xs.length → (W.cell? ⟨g, k, none⟩).isSome = true
  fz : ∀ k, W.frozen? ⟨g, k, none⟩ = false
section
variable {q : ByteArray → Bool} {xs : List ByteArray} {g i j : Nat} {W0 W W' : World}
theorem DelT.later (h : DelT q xs g W0 i j W) (hg : g < W0.heap.size) (hb : Below W.heap.size W W') : DelT q xs g W0 i j W' := by
  have hg' : g < W.heap.size := Nat.lt_of_lt_of_le hg h.tur.size
  have e := hb.block g hg'
  refine ⟨h.tur.trans (Tur.of_below (F := fun b => b = g) hb) (fun b hb => Or.inl hb), h.lt, h.len, fun k hk => ?_, fun k hk hj => ?_, fun k hk => ?_, fun k => ?_⟩
  · rw [World.cell?_of_block (w := W) (w' := W') (a := ⟨g, k, none⟩) e]; exact h.lo k hk
  · rw [World.cell?_of_block (w := W) (w' := W') (a := ⟨g, k, none⟩) e]; exact h.hi k hk hj
  · rw [World.cell?_of_block (w := W) (w' := W') (a := ⟨g, k, none⟩) e]; exact h.all k hk
  · rw [World.frozen?_of_block (w := W) (w' := W') (a := ⟨g, k, none⟩) e]; exact h.fz k
theorem DelT.gone (h : DelT q xs g W0 i j W) (hj : j < xs.length) {x : ByteArray} (hx : xs[j] = x) (hq : q x = true) : DelT q xs g W0 i (j + 1) W := by
  have e := fl_gone hj hx hq
  exact ⟨h.tur, by have := h.lt; omega, by rw [e]; exact h.len, by rw [e]; exact h.lo, fun k hk hjk => h.hi k hk (by omega), h.all, h.fz⟩
theorem DelT.keep (h : DelT q xs g W0 i j W) (hj : j < xs.length) {x : ByteArray} (hx : xs[j] = x) (hq : q x = false) : DelT q xs g W0 (i + 1) (j + 1) (W.setCell ⟨g, i, none⟩ (.string x)) := by
  have e := fl_keep hj hx hq
  have hij := h.lt
  have hlen := h.len
  refine ⟨h.tur.setCell i (Or.inl rfl) _, by omega, by rw [e, List.length_append, hlen]; rfl, ?_, fun k hk hjk => ?_, fun k hk => ?_, fun k => by rw [World.frozen?_setCell]; exact h.fz k⟩
  · rw [e]
    intro k hk
    rw [List.length_append, List.length_singleton] at hk
    by_cases hki : k = i
    · subst hki
      rw [World.cell?_setCell_same' _ _ _ (h.all _ (by omega)), List.getElem_append_right (by omega)]
      simp
    · have hk' : k < (fl q (xs.take j)).length := by omega
      rw [World.cell?_setCell_other _ _ _ _ (by intro e; injection e with _ e; omega), List.getElem_append_left hk']
      exact h.lo k hk'
  · rw [World.cell?_setCell_other _ _ _ _ (by intro e; injection e with _ e; omega)]
    exact h.hi k hk (by omega)
  · by_cases hki : k = i
    · subst hki
      rw [World.cell?_setCell_same' _ _ _ (h.all _ (by omega))]
      rfl
    · rw [World.cell?_setCell_other _ _ _ _ (by intro e; injection e with _ e; omega)]
      exact h.all k hk
end
theorem clearT (g i n c : Nat) (w : World) (hi : i < n) (hs : ∀ k, k < n → (w.cell? ⟨g, k, none⟩).isSome = true) (hf : ∀ k, w.frozen? ⟨g, k, none⟩ = false) (ty : TypeId) :
    (Builtin.clear_ #[22] ty #[.slice (some ⟨g, i, none⟩) (n - i) c]).run Tryz.prog w = .ok (.tuple #[]) (w.setCells g i (List.replicate (n - i) (.string ⟨#[]⟩))) :=
  Lib.run_clear_slice w 22 9 ty (.string ⟨#[]⟩) Tryz.underlying22 Tryz.zeroValue9 rfl rfl g i (n - i) c (by omega) (fun j hj => hs _ (by omega)) (fun j _ => hf _)
theorem Tur.setCells {F : Nat → Prop} {w w' : World} (h : Tur F w w') {x : Nat} (hx : F x ∨ w.heap.size ≤ x) : ∀ (vs : List Value) (o : Nat), Tur F w (w'.setCells x o vs) := by
  intro vs
  induction vs generalizing w' with
  | nil => intro o; exact h
  | cons v r ih => intro o; exact ih (h.setCell o hx v) (o + 1)

set_option maxRecDepth 100000 in
set_option maxHeartbeats 4000000 in
/-- slices.DeleteFunc of texts -/
theorem deleteT (fn : Nat) (eg : ∀ args w, (callFunc fn args).run Tryz.prog w = .ok (.enter fn args) w) (bx : Value) (q : ByteArray → Bool) (g cap : Nat) (xs : List ByteArray) (W : World) (hl : xs.length ≤ 1000) (hcap : xs.length ≤ cap) (hcm : cap ≤ maxLen) (hg : g < W.heap.size)
    (hc : ∀ k (h : k < xs.length), W.cell? ⟨g, k, none⟩ = some (.string xs[k])) (hf : ∀ k, W.frozen? ⟨g, k, none⟩ = false)
    (hq : ∀ W' k (h : k < xs.length), Tur (fun b => b = g) W W' → Calls Tryz.prog fn #[.string xs[k], bx] W' fun e w' => e = .returned (.bool (q xs[k])) ∧ Below W'.heap.size W' w') :
    Calls Tryz.prog 241 #[.slice (some ⟨g, 0, none⟩) xs.length cap, .func (.func fn) #[] #[bx]] W fun e w' => e = .returned (.slice (some ⟨g, 0, none⟩) (fl q xs).length cap) ∧ Tur (fun b => b = g) W w' ∧ ∀ k (h : k < (fl q xs).length), w'.cell? ⟨g, k, none⟩ = some (.string (fl q xs)[k]) := by
  have hix := indexT_core fn eg bx q (some ⟨g, 0, none⟩) cap xs W hl (fun k h => ⟨g, 0, rfl, by rw [Nat.zero_add]; exact hc k h⟩) (fun W' k h hB => hq W' k h (Tur.of_below hB))
  have HC : Hid (∀ k (h : k < xs.length), W.cell? ⟨g, k, none⟩ = some (.string xs[k])) := hc
  have HF : Hid (∀ k, W.frozen? ⟨g, k, none⟩ = false) := hf
  have HQ : Hid (∀ W' k (h : k < xs.length), Tur (fun b => b = g) W W' → Calls Tryz.prog fn #[.string xs[k], bx] W' fun e w' => e = .returned (.bool (q xs[k])) ∧ Below W'.heap.size W' w') := hq
  unfold maxLen at hcm
  clear hc hf hq
  go_enter Tryz.func241, Tryz.ntmps241
  go_wp2_with fail
  refine hix.mono ?_
  rintro e w1 ⟨hb1, ⟨hall, rfl⟩ | ⟨i0, hi0, hqt, hqf, rfl⟩⟩
  · have HA : Hid (fl q xs = xs) := fl_all hall
    clear hix hall
    go_wp2
    go_ret
    exact ⟨by rw [HA.out]; rfl, Tur.of_below hb1, by rw [HA.out]; exact fun k h => below_cell hb1 (HC.out k h)⟩
  · have hne : ((i0 : Int) == -1) = false := beq_eq_false_iff_ne.2 (by omega)
    have HD : Hid (DelT q xs g W i0 (i0 + 1) w1) := by
      have e := fl_first hi0 hqf hqt
      have eb := hb1.block g hg
      have hlt : (xs.take i0).length = i0 := by rw [List.length_take]; omega
      refine ⟨Tur.of_below hb1, by omega, by rw [e]; exact hlt, ?_, fun k hk _ => below_cell hb1 (HC.out k hk), fun k hk => by rw [below_cell hb1 (HC.out k hk)]; rfl, fun k => (World.frozen?_of_block (w := W) (w' := w1) (a := ⟨g, k, none⟩) eb).trans (HF.out k)⟩
      rw [e]
      intro k hk
      rw [List.getElem_take]
      exact below_cell hb1 (HC.out k _)
    clear hix hqt hqf
    go_wp2_with fail
    go_loopw [5, 6, 7] (fun s5 s6 _ wr => ∃ i j : Nat, s5 = .int .i64 (i : Nat) ∧ s6 = .int .i64 (j : Nat) ∧ j ≤ xs.length ∧ DelT q xs g W i j wr) (fun _ s6 _ _ => xs.length - (intOf s6).toNat)
    case atStart => exact ⟨i0, i0 + 1, rfl, by go_num, hi0, HD.out⟩
    case round =>
      obtain ⟨i, j, rfl, rfl, hj, hD⟩ := hrel
      have HD2 : Hid (DelT q xs g W i j wr) := hD
      clear HD hb1
      have hij := hD.lt
      by_cases hlt : j < xs.length
      · have hji : (j : Int) < (xs.length : Int) := by omega
        have cj := hD.hi j hlt (Nat.le_refl _)
        obtain ⟨zi, ci⟩ := Option.isSome_iff_exists.1 (hD.all i (by omega))
        have fi := hD.fz i
        have hii : (i : Int) < (xs.length : Int) := by omega
        have hcall := HQ.out wr j hlt hD.tur
        obtain ⟨x, hx⟩ : ∃ x, xs[j]'hlt = x := ⟨_, rfl⟩
        rw [hx] at cj hcall
        have HX : Hid (xs[j]'hlt = x) := hx
        clear hx hD
        have hgw : g < wr.heap.size := World.block_lt_of_cell? wr ⟨g, j, none⟩ cj
        cases hqx : q x with
        | false =>
          have HQX : Hid (q x = false) := hqx
          rw [hqx] at hcall
          clear hqx
          go_wp2_with fail
          refine hcall.mono ?_
          rintro e w2 ⟨rfl, hb2⟩
          have ci' := below_cell hb2 ci
          have fi' : w2.frozen? ⟨g, i, none⟩ = false := (World.frozen?_of_block (w := wr) (w' := w2) (a := ⟨g, i, none⟩) (hb2.block g hgw)).trans fi
          have HD3 : Hid (DelT q xs g W (i + 1) (j + 1) (w2.setCell ⟨g, i, none⟩ (.string x))) := (HD2.out.later hg hb2).keep hlt HX.out HQX.out
          clear hcall ci fi cj
          go_wp2_with fail
          go_roundw
          case rel => exact ⟨i + 1, j + 1, by go_num, by go_num, by omega, HD3.out⟩
          case measure => simp [intOf]; omega
        | true =>
          have HQX : Hid (q x = true) := hqx
          rw [hqx] at hcall
          clear hqx
          go_wp2_with fail
          refine hcall.mono ?_
          rintro e w2 ⟨rfl, hb2⟩
          have HD3 : Hid (DelT q xs g W i (j + 1) w2) := (HD2.out.later hg hb2).gone hlt HX.out HQX.out
          clear hcall ci fi cj
          go_wp2_with fail
          go_roundw
          case rel => exact ⟨i, j + 1, rfl, by go_num, by omega, HD3.out⟩
          case measure => simp [intOf]; omega
      · have hje : j = xs.length := by omega
        subst hje
        have hji : decide ((xs.length : Int) < (xs.length : Int)) = false := by simp
        have hcl := fun ty => clearT g i xs.length (cap - i) wr hij hD.all hD.fz ty
        have HI : Hid ((fl q xs).length = i) := by have := hD.len; rwa [List.take_length] at this
        have HLO : Hid (∀ k (h : k < (fl q xs).length), wr.cell? ⟨g, k, none⟩ = some (.string (fl q xs)[k])) := by have := hD.lo; rwa [List.take_length] at this
        have HT : Hid (Tur (fun b => b = g) W wr) := hD.tur
        have hic : (i : Int) < (cap : Int) := by omega
        have hii : (i : Int) < (xs.length : Int) := by omega
        clear hD HD2
        go_wp2
        go_ret
        refine ⟨by rw [HI.out]; rfl, HT.out.setCells (Or.inl rfl) _ _, fun k hk => ?_⟩
        rw [World.cell?_setCells_out _ _ _ _ _ (fun _ _ => Or.inl (by have := HI.out; show k < i; omega))]
        exact HLO.out k hk
end Go.Proofs.YtfhmfjcpggddkaaGreatDoor

/- The landed balance: Up, Has of its health, open. -/
namespace Go.Proofs.YtfhmfjcpggddkaaGreatDoor
open Go.RowKit Go.Shelf Go.Maps Go.ChangeMaps

section
variable {W : World} {p f r : Nat} {l : List Lh.Hh} {bs : List Nat} {lv : Value}
set_option maxHeartbeats 1000000 in
/-- Up of a health: a row of the callee's own. -/
theorem upS_row (h : HR W p f r l bs lv) (hl : l.length ≤ 12) :
    Calls Tryz.prog 102 #[.pointer (some ⟨p, 0, none⟩)] W fun e w' => ∃ v, e = .returned v ∧ w'.ownsRow W.heap.size 9 1 v (Lh.hups l).length ((Lh.hups l).map Value.string) ∧ Below W.heap.size W w' := by
  have h1 := those_core 160 entersUp (fun x => x.2.1) h hl fun k hk h2 W' hB => upC _ _ W' (below_cell hB (h.st k hk h2).c1)
  have e : thoseN (fun x => x.2.1) l l.length = Lh.hups l := by
    unfold thoseN Lh.hups
    rw [List.take_length]
  rw [e] at h1
  clear e h
  generalize Lh.hups l = ys at *
  go_enter Tryz.func102, Tryz.ntmps102
  go_wp2_with fail
  refine h1.mono ?_
  rintro e w1 ⟨v, rfl, hv, hb⟩
  clear h1
  have HV : Hid (w1.ownsRow W.heap.size 9 1 v ys.length (ys.map Value.string)) := hv
  clear hv
  go_wp2
  go_ret
  exact ⟨_, rfl, HV.out, hb⟩

set_option maxHeartbeats 1000000 in
/-- Has. -/
theorem hasS_any (h : HR W p f r l bs lv) (hl : l.length ≤ 12) (s : ByteArray) :
    Calls Tryz.prog 101 #[.pointer (some ⟨p, 0, none⟩), .string s] W fun e w' => e = .returned (.bool (decide (Lh.hix l s < l.length))) ∧ Below W.heap.size W w' := by
  by_cases hx : Lh.hix l s < l.length
  · obtain ⟨b, hb⟩ := h.at hx
    have hfd := findS_good h hl s hx hb
    rw [decide_eq_true hx]
    clear h hb hx
    go_enter Tryz.func101, Tryz.ntmps101
    go_wp2_with fail
    refine hfd.mono ?_
    rintro e w1 ⟨rfl, hb1⟩
    clear hfd
    go_wp2
    go_ret
    exact ⟨rfl, hb1⟩
  · have hfd := findS_none h hl s hx
    rw [decide_eq_false hx]
    clear h hx
    go_enter Tryz.func101, Tryz.ntmps101
    go_wp2_with fail
    refine hfd.mono ?_
    rintro e w1 ⟨rfl, hb1⟩
    clear hfd
    go_wp2
    go_ret
    exact ⟨rfl, hb1⟩
end
/-- a row of texts of the callee's own -/
theorem strRow_of {w : World} {base : Nat} {v : Value} {xs : List ByteArray} (h : w.ownsRow base 9 1 v xs.length (xs.map Value.string)) (h0 : 0 < xs.length) : ∃ g cap, v = .slice (some ⟨g, 0, none⟩) xs.length cap ∧ base ≤ g ∧ g < w.heap.size ∧ xs.length ≤ cap ∧ cap ≤ maxLen ∧ (∀ k (h : k < xs.length), w.cell? ⟨g, k, none⟩ = some (.string xs[k])) ∧ ∀ k, w.frozen? ⟨g, k, none⟩ = false := by
  obtain ⟨hl, ⟨rfl, h'⟩ | ⟨g, cap, cur, rfl, hbase, hb, hn, hm, hsz, ht⟩⟩ := h
  · omega
  · refine ⟨g, cap, rfl, hbase, (Array.getElem?_eq_some_iff.1 hb).1, hn, hm, fun k hk => ?_, fun k => by simp [World.frozen?, hb]⟩
    have h1 : (xs.map Value.string)[k]? = some (.string xs[k]) := by simp [hk]
    rw [← ht, List.getElem?_take_of_lt (by omega)] at h1
    simp only [World.cell?, hb]
    simpa using h1

set_option maxHeartbeats 2000000 in
/-- the function handed to slices.DeleteFunc -/
theorem openC (hb p db n : Nat) (D : DataW Unit) (s : ByteArray) (W : World) (h1 : W.cell? ⟨hb, 0, none⟩ = some (.pointer (some ⟨p, 0, none⟩))) (c1 : W.cell? ⟨p, 1, none⟩ = some (.map (some db))) (hown : W.ownsMap Tryz.prog 9 unitElem db n D) (hs : s.size ≤ 300) {q : Bool} (hD : has D (.string s.data.toList) = q) :
    Calls Tryz.prog 242 #[.string s, .pointer (some ⟨hb, 0, none⟩)] W fun e w' => e = .returned (.bool q) ∧ Below W.heap.size W w' := by
  have hkey := fkeyS s hs
  go_enter Tryz.func242, Tryz.ntmps242
  go_wp2_with (at_lookup; refine wpList_lookup_own_unit _ rfl _ _ 153 rfl 9 157 (string_keyed Tryz.underlying9) Tryz.underlying153 (Tryz.zeroValue157 _) db n D rfl hown _ _ rfl hkey ?_; rw [hD])
  go_ret
  exact ⟨rfl, (Below.refl _ _).alloc (Nat.le_refl _) _⟩
theorem entersOp : ∀ args w, (callFunc 242 args).run Tryz.prog w = .ok (.enter 242 args) w := enters_of Tryz.func242 (by kernel_rfl) rfl

set_option maxHeartbeats 1000000 in
/-- slices.DeleteFunc of no texts -/
theorem deleteT_nil (fn : Nat) (eg : ∀ args w, (callFunc fn args).run Tryz.prog w = .ok (.enter fn args) w) (bx : Value) (pv : Option Addr) (c : Nat) (W : World) :
    Calls Tryz.prog 241 #[.slice pv 0 c, .func (.func fn) #[] #[bx]] W fun e w' => e = .returned (.slice pv 0 c) ∧ Below W.heap.size W w' := by
  have hix := indexT_core fn eg bx (fun _ => false) pv c [] W (by simp) (fun k h => absurd h (by simp)) (fun W' k h => absurd h (by simp))
  simp only [List.length_nil] at hix
  go_enter Tryz.func241, Tryz.ntmps241
  go_wp2_with fail
  refine hix.mono ?_
  rintro e w1 ⟨hb1, ⟨_, rfl⟩ | ⟨i0, hi0, _⟩⟩
  case inr => exact absurd hi0 (by omega)
  clear hix
  go_wp2
  go_ret
  exact ⟨rfl, hb1⟩

section
variable {W W' : World} {p hp fp fm db : Nat} {bs : List Nat} {lv : Value} {S : Lh.Bl}
set_option maxHeartbeats 1000000 in
/-- Up. -/
theorem upB (h : BR W p hp fp fm db bs lv S) (hl : S.hs.length ≤ 12) :
    Calls Tryz.prog 55 #[.pointer (some ⟨p, 0, none⟩)] W fun e w' => ∃ v, e = .returned v ∧ w'.ownsRow W.heap.size 9 1 v (Lh.hups S.hs).length ((Lh.hups S.hs).map Value.string) ∧ Below W.heap.size W w' := by
  have h1 := upS_row h.h hl
  have c0 := h.c0
  clear h
  generalize Lh.hups S.hs = ys at *
  go_enter Tryz.func55, Tryz.ntmps55
  go_wp2_with fail
  refine h1.mono ?_
  rintro e w1 ⟨v, rfl, hv, hb⟩
  have HV : Hid (w1.ownsRow W.heap.size 9 1 v ys.length (ys.map Value.string)) := hv
  clear h1 hv
  go_wp2
  go_ret
  exact ⟨_, rfl, HV.out, hb⟩

/-- is one drained? -/
def drq (S : Lh.Bl) (s : ByteArray) : Bool := S.dr.any fun x => decide (x = s)
theorem drq_mem (S : Lh.Bl) (s : ByteArray) : decide (s ∈ S.dr) = drq S s := by
  unfold drq
  by_cases hm : s ∈ S.dr
  · rw [decide_eq_true hm]
    exact (List.any_eq_true.2 ⟨s, hm, by simp⟩).symm
  · rw [decide_eq_false hm]
    refine (List.any_eq_false.2 fun x hx => ?_).symm
    intro e
    have e' : x = s := by simpa using e
    exact hm (e' ▸ hx)
theorem drq_open (S : Lh.Bl) : fl (drq S) (Lh.hups S.hs) = Lh.bopen S := rfl

set_option maxRecDepth 100000 in
set_option maxHeartbeats 2000000 in
/-- open. -/
theorem openB (h : BR W p hp fp fm db bs lv S) (hk : Lh.BOk S) :
    Calls Tryz.prog 191 #[.pointer (some ⟨p, 0, none⟩)] W fun e w' => ∃ v, e = .returned v ∧ Strs1 w' v (Lh.bopen S) ∧ Below W.heap.size W w' := by
  have hb1 : Below W.heap.size W (W.alloc (.cells #[.pointer (some ⟨p, 0, none⟩)] 49)) := (Below.refl _ _).alloc (Nat.le_refl _) _
  have h1 := upB (h.later hb1) hk.h.len
  have HH : Hid (BR W p hp fp fm db bs lv S) := h
  have HK : Hid (Lh.BOk S) := hk
  have hul : (Lh.hups S.hs).length ≤ 12 := by
    unfold Lh.hups
    rw [List.length_map]
    exact Nat.le_trans (List.length_filter_le _ _) hk.h.len
  clear h hk
  have hsz : W.heap.size < (W.alloc (.cells #[.pointer (some ⟨p, 0, none⟩)] 49)).heap.size := by simp
  go_enter Tryz.func191, Tryz.ntmps191
  go_wp2_with fail
  refine h1.mono ?_
  rintro e w1 ⟨v, rfl, hv, hb2⟩
  clear h1
  have hb3 := below_then hb1 hb2
  have cb : w1.cell? ⟨W.heap.size, 0, none⟩ = some (.pointer (some ⟨p, 0, none⟩)) := below_cell hb2 (by simp)
  by_cases h0 : 0 < (Lh.hups S.hs).length
  · obtain ⟨g, cap, rfl, hg0, hg1, hcap, hcm, hcell, hfz⟩ := strRow_of hv h0
    have hBR := HH.out.later hb3
    obtain ⟨D, hown, hset⟩ := hBR.d
    have hwl := hb3.size
    have hw2 := hb2.size
    have hpl := HH.out.plt
    have hdl := HH.out.dlt
    have hdel := deleteT 242 entersOp (.pointer (some ⟨W.heap.size, 0, none⟩)) (drq S) g cap (Lh.hups S.hs) w1 (by omega) hcap hcm hg1 hcell hfz (fun W' k hk hT => by
      have hm : (Lh.hups S.hs)[k] ∈ Lh.hups S.hs := List.getElem_mem hk
      have hup := Lh.hup_nm HK.out (Lh.hups_mem.1 hm)
      refine openC W.heap.size p db S.dr.length D _ W' ?_ ?_ ?_ hup.2 ?_
      · exact (World.cell?_of_block (w := w1) (w' := W') (a := ⟨W.heap.size, 0, none⟩) (hT.block W.heap.size (by omega) (by show ¬ W.heap.size = g; omega))).trans cb
      · exact (World.cell?_of_block (w := w1) (w' := W') (a := ⟨p, 1, none⟩) (hT.block p (by omega) (by show ¬ p = g; omega))).trans hBR.c1
      · exact ownsMap_later hown (hT.block db (by omega) (by show ¬ db = g; omega))
      · rw [hset.2.2, drq_mem])
    rw [drq_open] at hdel
    have HB : Hid (Below W.heap.size W w1) := hb3
    have HC : Hid ((Lh.bopen S).length ≤ cap) := by
      have : (Lh.bopen S).length ≤ (Lh.hups S.hs).length := List.length_filter_le _ _
      show _ ≤ _
      omega
    clear hBR hown hset hcell hfz hv hb2 hb3 hb1
    go_wp2_with fail
    refine hdel.mono ?_
    rintro e w2 ⟨rfl, hT, hc2⟩
    have HC2 : Hid (∀ k (h : k < (Lh.bopen S).length), w2.cell? ⟨g, k, none⟩ = some (.string (Lh.bopen S)[k])) := hc2
    have HT : Hid (Tur (fun b => b = g) w1 w2) := hT
    clear hdel hc2 hT cb
    go_wp2
    go_ret
    exact ⟨_, rfl, Or.inr ⟨g, 0, cap, rfl, HC.out, by simpa only [Nat.zero_add] using HC2.out⟩, HT.out.below (fun k hk => by have : k = g := hk; omega) HB.out (Nat.le_refl _)⟩
  · have hn : Lh.hups S.hs = [] := List.length_eq_zero_iff.1 (by omega)
    have HN : Hid (Lh.bopen S = []) := by
      show _ = _
      rw [← drq_open, hn]
      rfl
    rw [hn] at hv
    obtain ⟨p0, c0, rfl, hpc⟩ : ∃ p0 c0, v = .slice p0 0 c0 ∧ (v = .slice none 0 0 ∨ ∃ ad c, v = .slice (some ad) 0 c) := by
      rcases hv.2 with ⟨h, _⟩ | ⟨g, cap, cur, rfl, _⟩
      · exact ⟨_, _, h, Or.inl h⟩
      · exact ⟨_, _, rfl, Or.inr ⟨_, _, rfl⟩⟩
    have HPC : Hid (Value.slice p0 0 c0 = .slice none 0 0 ∨ ∃ ad c, Value.slice p0 0 c0 = .slice (some ad) 0 c) := hpc
    have hdel := deleteT_nil 242 entersOp (.pointer (some ⟨W.heap.size, 0, none⟩)) p0 c0 w1
    clear hv hpc hn hb1 hb2
    go_wp2_with fail
    refine hdel.mono ?_
    rintro e w2 ⟨rfl, hb4⟩
    clear hdel cb
    go_wp2
    go_ret
    exact ⟨_, rfl, Or.inl ⟨HN.out, HPC.out⟩, below_then hb3 hb4⟩
end
end Go.Proofs.YtfhmfjcpggddkaaGreatDoor
