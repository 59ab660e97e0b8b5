/- The landed flows: Add. -/
import Derived.Test.YtijdaaghomclmabGreatDoorFlL7
namespace Go.Proofs.YtijdaaghomclmabGreatDoor
open Go.RowKit Go.Maps Go.ChangeMaps Go.Shelf
section
variable {W W' : World} {p mb t : Nat} {la : Int} {L : List Lh.Fl}

theorem fadd_take (now : Int) (L l : List Lh.Fl) {k : Nat} (hk : k < l.length) : Lh.fadd now L (l.take (k + 1)) = Lh.fadd1 now (Lh.fadd now L (l.take k)) l[k] := by
  rw [← Lh.fadd_snoc, List.take_succ_eq_append_getElem hk]
/-- a row's cells, where other blocks have turned -/
theorem Tur.cell {F : Nat → Prop} {w w' : World} (h : Tur F w w') {b i : Nat} {v : Value} (hf : ¬ F b) (hc : w.cell? ⟨b, i, none⟩ = some v) : w'.cell? ⟨b, i, none⟩ = some v := by
  have hlt : b < w.heap.size := World.block_lt_of_cell? w ⟨b, i, none⟩ hc
  rw [World.cell?_of_block (w := w) (w' := w') (a := ⟨b, i, none⟩) (h.block b hlt hf)]
  exact hc

set_option maxRecDepth 100000 in
set_option maxHeartbeats 8000000 in
theorem addF_ok (a : Nat → Addr) (he : EF a W) (h : FR W p mb t la L) (hk : Lh.FlOk L) (pv : Option Addr) (c : Nat) (l : List Lh.Fl) (hl : l.length ≤ 1000) (hin : FlIn l) (now : Int) (hok : TickOk la now) (hall : ∀ x ∈ l, Lh.isNm x.2.1 = true)
    (hc : ∀ i (hi : i < l.length), ∃ b o, (pv = some ⟨b, o, none⟩ ∧ ¬ FFt p mb b) ∧ W.cell? ⟨b, o + i * 3, none⟩ = some (.int .u64 (l[i].1 : Nat)) ∧ W.cell? ⟨b, o + i * 3 + 1, none⟩ = some (.string l[i].2.1) ∧ W.cell? ⟨b, o + i * 3 + 2, none⟩ = some (.int .i64 l[i].2.2)) :
    Calls Tryz.prog 16 #[.pointer (some ⟨p, 0, none⟩), .slice pv l.length c, .int .i64 now] W fun e W' => e = .returned (.tuple #[.int .i64 (((Lh.fadd now L l).length - L.length : Nat) : Int), .nilIface]) ∧ FR W' p mb t now (Lh.fadd now L l) ∧ Tur (FFt p mb) W W' := by
  have hchk := checkF_ok h now hok
  have H : Hid (FR W p mb t la L) := h
  have HK : Hid (Lh.FlOk L) := hk
  have HIN : Hid (FlIn l) := hin
  have HC : Hid (∀ i (hi : i < l.length), ∃ b o, (pv = some ⟨b, o, none⟩ ∧ ¬ FFt p mb b) ∧ W.cell? ⟨b, o + i * 3, none⟩ = some (.int .u64 (l[i].1 : Nat)) ∧ W.cell? ⟨b, o + i * 3 + 1, none⟩ = some (.string l[i].2.1) ∧ W.cell? ⟨b, o + i * 3 + 2, none⟩ = some (.int .i64 l[i].2.2)) := hc
  have HIX : Hid (∀ w1, Below W.heap.size W w1 → Calls Tryz.prog 36 #[.slice pv l.length c, .func (.func 37) #[] #[]] w1 fun e W' => Below w1.heap.size w1 W' ∧ e = .returned (.int .i64 (-1))) := fun w1 hb => by
    refine (indexF a (he.later hb) pv c l hl (fun x hx => (hin x hx).2.1) fun i hi => ?_).mono ?_
    · obtain ⟨b, o, ⟨e, _⟩, h1, h2, h3⟩ := hc i hi
      exact ⟨b, o, e, below_cell hb h1, below_cell hb h2, below_cell hb h3⟩
    · rintro e w' ⟨hb', ⟨_, rfl⟩ | ⟨j, ⟨h1, h2, _⟩, rfl⟩⟩
      · exact ⟨hb', rfl⟩
      · rw [hall _ (List.getElem_mem h1)] at h2
        cases h2
  have hnow : 0 ≤ now ∧ now ≤ 1099511627776 := ⟨hok.1, hok.2.1⟩
  have hwr : IntKind.i64.wrap (now + 1000) = now + 1000 := by
    rw [IntKind.wrap_i64]; omega
  clear h he hc hin hok hk hall
  go_enter Tryz.func16, Tryz.ntmps16
  go_wp2_with fail
  refine hchk.mono ?_
  rintro e w1 ⟨rfl, hb1⟩
  have hix := HIX.out w1 hb1
  clear hchk HIX
  go_wp2_with fail
  refine hix.mono ?_
  rintro e w2 ⟨hb2, rfl⟩
  have hbW : Below W.heap.size W w2 := below_then hb1 hb2
  have h2 := H.out.later hbW
  obtain ⟨h3, hT3⟩ := H.out.ticked hbW now
  have f1 := h2.fz 1
  have c1 := h2.c1
  have H3 : Hid (FR (w2.setCell ⟨p, 1, none⟩ (.int .i64 now)) p mb t now L) := h3
  have HT3 : Hid (Tur (FFt p mb) W (w2.setCell ⟨p, 1, none⟩ (.int .i64 now))) := hT3
  clear hix hb1 hb2 hbW h2 h3 hT3
  go_wp2_with fail
  go_loopw [10, 34] (fun u v wr => ∃ (k : Nat) (M : List Lh.Fl), k ≤ l.length ∧ v = .int .i64 (k : Nat) ∧ M = Lh.fadd now L (l.take k) ∧ u = .int .i64 ((M.length - L.length : Nat) : Int) ∧ FR wr p mb t now M ∧ Tur (FFt p mb) W wr) (fun _ v _ => l.length - (intOf v).toNat)
  case atStart => exact ⟨0, L, Nat.zero_le _, rfl, by simp [Lh.fadd], by simp, H3.out, HT3.out⟩
  case round =>
    obtain ⟨k, M, hkl, rfl, hM, rfl, hF, hT⟩ := hrel
    have HM : Hid (M = Lh.fadd now L (l.take k)) := hM
    have HMK : Hid (Lh.FlOk M) := by
      have : Lh.FlOk M := by
        rw [hM]
        exact Lh.FlOk.add hnow.1 hnow.2 _ HK.out fun x hx => ⟨(HIN.out x (List.mem_of_mem_take hx)).1, (HIN.out x (List.mem_of_mem_take hx)).2.1⟩
      exact this
    have hML : L.length ≤ M.length := by rw [hM]; exact Lh.fadd_len now _ L
    have HF : Hid (FR wr p mb t now M) := hF
    have HT : Hid (Tur (FFt p mb) W wr) := hT
    clear hM hF hT f1 c1
    by_cases hlt : k < l.length
    · have hki : (k : Int) < (l.length : Int) := by omega
      obtain ⟨b, o, ⟨rfl, hnf⟩, x0, x1, x2⟩ := HC.out k hlt
      replace x0 := HT.out.cell hnf x0
      replace x1 := HT.out.cell hnf x1
      replace x2 := HT.out.cell hnf x2
      obtain ⟨hxk, hxs, hxl, hxh⟩ := HIN.out _ (List.getElem_mem hlt)
      have HST : Hid (Lh.fadd now L (l.take (k + 1)) = Lh.fadd1 now M l[k]) := by
        have : Lh.fadd now L (l.take (k + 1)) = Lh.fadd1 now M l[k] := by rw [fadd_take now L l hlt, HM.out]
        exact this
      obtain ⟨x, hx⟩ : ∃ x, l[k] = x := ⟨_, rfl⟩
      have HST' : Hid (Lh.fadd now L (l.take (k + 1)) = Lh.fadd1 now M x) := by
        have := HST.out
        rw [hx] at this
        exact this
      rw [hx] at x0 x1 x2 hxk hxs hxl hxh
      clear hx HST
      have hba : Below wr.heap.size wr (wr.alloc (.cells #[.int .u64 (x.1 : Nat), .string x.2.1, .int .i64 x.2.2] 64)) := (Below.refl _ _).alloc (Nat.le_refl _) _
      have hhas := hasF_any (HF.out.later hba) x.1 hxk
      have HBA : Hid (Below wr.heap.size wr (wr.alloc (.cells #[.int .u64 (x.1 : Nat), .string x.2.1, .int .i64 x.2.2] 64))) := hba
      have HXA : Hid (∀ w', Below (wr.alloc (.cells #[.int .u64 (x.1 : Nat), .string x.2.1, .int .i64 x.2.2] 64)).heap.size (wr.alloc (.cells #[.int .u64 (x.1 : Nat), .string x.2.1, .int .i64 x.2.2] 64)) w' → Below wr.heap.size wr w' ∧ w'.cell? ⟨wr.heap.size, 0, none⟩ = some (.int .u64 (x.1 : Nat)) ∧ w'.cell? ⟨wr.heap.size, 1, none⟩ = some (.string x.2.1) ∧ w'.cell? ⟨wr.heap.size, 2, none⟩ = some (.int .i64 x.2.2)) := fun w' hb => ⟨below_then hba hb, below_cell hb (by simp), below_cell hb (by simp), below_cell hb (by simp)⟩
      clear hba hxs
      by_cases q1 : Lh.fix M x.1 < M.length
      · rw [decide_eq_true q1] at hhas
        have HE1 : Hid (Lh.fadd1 now M x = M) := by
          have : Lh.fadd1 now M x = M := by unfold Lh.fadd1; rw [if_pos (Or.inl q1)]
          exact this
        clear q1
        go_wp2_with fail
        refine hhas.mono ?_
        rintro e w4 ⟨rfl, hb4⟩
        obtain ⟨hbr, z0, z1, z2⟩ := HXA.out w4 hb4
        clear hhas hb4 x0 x1 x2
        go_wp2
        exact ⟨⟨k + 1, M, by omega, by go_num, by rw [HST'.out, HE1.out], rfl, HF.out.later hbr, HT.out.behind hbr⟩, by simp [intOf]; omega⟩
      · rw [decide_eq_false q1] at hhas
        go_wp2_with fail
        refine hhas.mono ?_
        rintro e w4 ⟨rfl, hb4⟩
        obtain ⟨hbr, z0, z1, z2⟩ := HXA.out w4 hb4
        have hfull := fullF_any (HF.out.later hbr)
        clear hhas
        by_cases q2 : 200 ≤ M.length
        · rw [decide_eq_true q2] at hfull
          have HE1 : Hid (Lh.fadd1 now M x = M) := by
            have : Lh.fadd1 now M x = M := by unfold Lh.fadd1; rw [if_pos (Or.inr (Or.inr (Or.inr q2)))]
            exact this
          clear q1 q2
          go_wp2_with fail
          refine hfull.mono ?_
          rintro e w5 ⟨rfl, hb5⟩
          have hbr5 := below_then hbr hb5
          clear hfull hb4 hbr hb5 x0 x1 x2 z0 z1 z2
          go_wp2
          exact ⟨⟨k + 1, M, by omega, by go_num, by rw [HST'.out, HE1.out], rfl, HF.out.later hbr5, HT.out.behind hbr5⟩, by simp [intOf]; omega⟩
        · rw [decide_eq_false q2] at hfull
          go_wp2_with fail
          refine hfull.mono ?_
          rintro e w5 ⟨rfl, hb5⟩
          have hbr5 := below_then hbr hb5
          replace z0 := below_cell hb5 z0
          replace z1 := below_cell hb5 z1
          replace z2 := below_cell hb5 z2
          clear hfull hb4 hbr hb5 x0 x1 x2
          by_cases q3 : x.2.2 ≤ now
          · have d3 : decide (x.2.2 ≤ now) = true := by simpa using q3
            have HE1 : Hid (Lh.fadd1 now M x = M) := by
              have : Lh.fadd1 now M x = M := by unfold Lh.fadd1; rw [if_pos (Or.inr (Or.inl q3))]
              exact this
            clear q1 q2 q3
            go_wp2
            exact ⟨⟨k + 1, M, by omega, by go_num, by rw [HST'.out, HE1.out], rfl, HF.out.later hbr5, HT.out.behind hbr5⟩, by simp [intOf]; omega⟩
          · have d3 : decide (x.2.2 ≤ now) = false := by simpa using q3
            by_cases q4 : now + 1000 < x.2.2
            · have d4 : decide (now + 1000 < x.2.2) = true := by simpa using q4
              have HE1 : Hid (Lh.fadd1 now M x = M) := by
                have : Lh.fadd1 now M x = M := by unfold Lh.fadd1; rw [if_pos (Or.inr (Or.inr (Or.inl (by omega))))]
                exact this
              clear q1 q2 q3 q4
              go_wp2
              exact ⟨⟨k + 1, M, by omega, by go_num, by rw [HST'.out, HE1.out], rfl, HF.out.later hbr5, HT.out.behind hbr5⟩, by simp [intOf]; omega⟩
            · have d4 : decide (now + 1000 < x.2.2) = false := by simpa using q4
              have HE1 : Hid (Lh.fadd1 now M x = Lh.flay x (M.filter fun y => !decide (y.1 = x.1))) := by
                have : Lh.fadd1 now M x = Lh.flay x (M.filter fun y => !decide (y.1 = x.1)) := by unfold Lh.fadd1; rw [if_neg (by omega), filter_none q1]
                exact this
              have hmx : M.length < maxLen := by unfold maxLen; omega
              have HLN : Hid ((Lh.flay x (M.filter fun y => !decide (y.1 = x.1))).length = M.length + 1) := by
                have : (Lh.flay x (M.filter fun y => !decide (y.1 = x.1))).length = M.length + 1 := by rw [Lh.flay_len, filter_none q1]
                exact this
              have h5 := HF.out.later hbr5
              have k2 := h5.c2
              obtain ⟨w6, hrun, own6, hg6⟩ := (own_heap h5.own (w' := w5.drew) rfl).store u64Keyed Tryz.underlying59 hmx (keyK x.1 hxk) (flElem_mk x)
              have HM2 : Hid (M.length < 200) := Nat.lt_of_not_le q2
              clear q1 q2 q3 q4 h5
              unfold valF at hrun
              go_wp2_with fail
              go_region
              obtain ⟨h6, hT6⟩ := (HF.out.later (hbr5.trans ((below_drewN (Below.refl _ _) 1).mono hbr5.size))).laid (k := x.1) (s := x.2.1) (u := x.2.2) hg6.grown own6
              have HF6 : Hid (FR w6 p mb t now (Lh.flay x (M.filter fun y => !decide (y.1 = x.1)))) := h6
              have HT6 : Hid (Tur (FFt p mb) W w6) := (HT.out.behind (hbr5.trans ((below_drewN (Below.refl _ _) 1).mono hbr5.size))).trans hT6 fun b hb => Or.inl (Or.inr hb)
              have hr : IntKind.i64.wrap (((M.length - L.length : Nat) : Int) + 1) = ((M.length - L.length : Nat) : Int) + 1 := by have := HM2.out; rw [IntKind.wrap_i64]; omega
              clear h6 hT6 hrun own6 hg6 z0 z1 z2 k2 hbr5
              go_wp2
              exact ⟨⟨k + 1, Lh.flay x (M.filter fun y => !decide (y.1 = x.1)), by omega, by go_num, by rw [HST'.out, HE1.out], by rw [HLN.out]; congr 1; omega, HF6.out, HT6.out⟩, by simp [intOf]; omega⟩
    · obtain rfl : k = l.length := by omega
      have HME : Hid (M = Lh.fadd now L l) := by
        have := HM.out
        rw [List.take_length] at this
        exact this
      go_wp2
      go_ret2
      refine ⟨by rw [← HME.out]; rfl, by rw [← HME.out]; exact HF.out, HT.out⟩
end
end Go.Proofs.YtijdaaghomclmabGreatDoor
