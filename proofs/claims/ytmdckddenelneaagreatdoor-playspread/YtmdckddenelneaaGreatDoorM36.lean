/- The landed flows: Add. -/
import Derived.Test.YtmdckddenelneaaGreatDoorM35
import Derived.Test.YtmdckddenelneaaGreatDoorM31
import Derived.Test.YtmdckddenelneaaGreatDoorM26
namespace Go.Proofs.YtmdckddenelneaaGreatDoor
open Go.RowKit Go.Maps Go.ChangeMaps Go.Shelf
section
variable {W W' : World} {p mb t : Nat} {la : Int} {L : List Lh.Fl}

theorem fadd_take (now : Int) (L l : List Lh.Fl) {k : Nat} (hk : k < l.length) : Lh.fadd now L (l.take (k + 1)) = Lh.fadd1 now (Lh.fadd now L (l.take k)) l[k] := by
  rw [← Lh.fadd_snoc, List.take_succ_eq_append_getElem hk]
/-- a row's cells, where other blocks have turned -/
theorem Tur.cell {F : Nat → Prop} {w w' : World} (h : Tur F w w') {b i : Nat} {v : Value} (hf : ¬ F b) (hc : w.cell? ⟨b, i, none⟩ = some v) : w'.cell? ⟨b, i, none⟩ = some v := by
  have hlt : b < w.heap.size := World.block_lt_of_cell? w ⟨b, i, none⟩ hc
  rw [World.cell?_of_block (w := w) (w' := w') (a := ⟨b, i, none⟩) (h.block b hlt hf)]
  exact hc

set_option maxRecDepth 100000 in
set_option maxHeartbeats 8000000 in
theorem addF_ok (a : Nat → Addr) (he : EF a W) (h : FR W p mb t la L) (hk : Lh.FlOk L) (pv : Option Addr) (c : Nat) (l : List Lh.Fl) (hl : l.length ≤ 1000) (hin : FlIn l) (now : Int) (hok : TickOk la now) (hall : ∀ x ∈ l, Lh.isNm x.2.1 = true)
    (hc : ∀ i (hi : i < l.length), ∃ b o, (pv = some ⟨b, o, none⟩ ∧ ¬ FFt p mb b) ∧ W.cell? ⟨b, o + i * 3, none⟩ = some (.int .u64 (l[i].1 : Nat)) ∧ W.cell? ⟨b, o + i * 3 + 1, none⟩ = some (.string l[i].2.1) ∧ W.cell? ⟨b, o + i * 3 + 2, none⟩ = some (.int .i64 l[i].2.2)) :
    Calls Tryz.prog 161 #[.pointer (some ⟨p, 0, none⟩), .slice pv l.length c, .int .i64 now] W fun e W' => e = .returned (.tuple #[.int .i64 (((Lh.fadd now L l).length - L.length : Nat) : Int), .nilIface]) ∧ FR W' p mb t now (Lh.fadd now L l) ∧ Tur (FFt p mb) W W' := by
  have hchk := checkF_ok h now hok
  have H : Hid (FR W p mb t la L) := h
  have HK : Hid (Lh.FlOk L) := hk
  have HIN : Hid (FlIn l) := hin
  have HC : Hid (∀ i (hi : i < l.length), ∃ b o, (pv = some ⟨b, o, none⟩ ∧ ¬ FFt p mb b) ∧ W.cell? ⟨b, o + i * 3, none⟩ = some (.int .u64 (l[i].1 : Nat)) ∧ W.cell? ⟨b, o + i * 3 + 1, none⟩ = some (.string l[i].2.1) ∧ W.cell? ⟨b, o + i * 3 + 2, none⟩ = some (.int .i64 l[i].2.2)) := hc
  have HIX : Hid (∀ w1, Below W.heap.size W w1 → Calls Tryz.prog 190 #[.slice pv l.length c, .func (.func 191) #[] #[]] w1 fun e W' => Below w1.heap.size w1 W' ∧ e = .returned (.int .i64 (-1))) := fun w1 hb => by
    refine (indexF a (he.later hb) pv c l hl (fun x hx => (hin x hx).2.1) fun i hi => ?_).mono ?_
    · obtain ⟨b, o, ⟨e, _⟩, h1, h2, h3⟩ := hc i hi
      exact ⟨b, o, e, below_cell hb h1, below_cell hb h2, below_cell hb h3⟩
    · rintro e w' ⟨hb', ⟨_, rfl⟩ | ⟨j, ⟨h1, h2, _⟩, rfl⟩⟩
      · exact ⟨hb', rfl⟩
      · rw [hall _ (List.getElem_mem h1)] at h2
        cases h2
  have hnow : 0 ≤ now ∧ now ≤ 1099511627776 := ⟨hok.1, hok.2.1⟩
  have hwr : IntKind.i64.wrap (now + 1000) = now + 1000 := by
    rw [IntKind.wrap_i64]; omega
  clear h he hc hin hok hk hall
  go_enter Tryz.func161, Tryz.ntmps161
  go_wp2_with fail
  refine hchk.mono ?_
  rintro e w1 ⟨rfl, hb1⟩
  have hix := HIX.out w1 hb1
  clear hchk HIX
  go_wp2_with fail
  refine hix.mono ?_
  rintro e w2 ⟨hb2, rfl⟩
  have hbW : Below W.heap.size W w2 := below_then hb1 hb2
  have h2 := H.out.later hbW
  obtain ⟨h3, hT3⟩ := H.out.ticked hbW now
  have f1 := h2.fz 1
  have c1 := h2.c1
  have H3 : Hid (FR (w2.setCell ⟨p, 1, none⟩ (.int .i64 now)) p mb t now L) := h3
  have HT3 : Hid (Tur (FFt p mb) W (w2.setCell ⟨p, 1, none⟩ (.int .i64 now))) := hT3
  clear hix hb1 hb2 hbW h2 h3 hT3
  go_wp2_with fail
  go_loopw [10, 34] (fun u v wr => ∃ (k : Nat) (M : List Lh.Fl), k ≤ l.length ∧ v = .int .i64 (k : Nat) ∧ M = Lh.fadd now L (l.take k) ∧ u = .int .i64 ((M.length - L.length : Nat) : Int) ∧ FR wr p mb t now M ∧ Tur (FFt p mb) W wr) (fun _ v _ => l.length - (intOf v).toNat)
  case atStart => exact ⟨0, L, Nat.zero_le _, rfl, by simp [Lh.fadd], by simp, H3.out, HT3.out⟩
  case round =>
    obtain ⟨k, M, hkl, rfl, hM, rfl, hF, hT⟩ := hrel
    have HM : Hid (M = Lh.fadd now L (l.take k)) := hM
    have HMK : Hid (Lh.FlOk M) := by
      have : Lh.FlOk M := by
        rw [hM]
        exact Lh.FlOk.add hnow.1 hnow.2 _ HK.out fun x hx => ⟨(HIN.out x (List.mem_of_mem_take hx)).1, (HIN.out x (List.mem_of_mem_take hx)).2.1⟩
      exact this
    have hML : L.length ≤ M.length := by rw [hM]; exact Lh.fadd_len now _ L
    have HF : Hid (FR wr p mb t now M) := hF
    have HT : Hid (Tur (FFt p mb) W wr) := hT
    clear hM hF hT f1 c1
    by_cases hlt : k < l.length
    · have hki : (k : Int) < (l.length : Int) := by omega
      obtain ⟨b, o, ⟨rfl, hnf⟩, x0, x1, x2⟩ := HC.out k hlt
      replace x0 := HT.out.cell hnf x0
      replace x1 := HT.out.cell hnf x1
      replace x2 := HT.out.cell hnf x2
      obtain ⟨hxk, hxs, hxl, hxh⟩ := HIN.out _ (List.getElem_mem hlt)
      have HST : Hid (Lh.fadd now L (l.take (k + 1)) = Lh.fadd1 now M l[k]) := by
        have : Lh.fadd now L (l.take (k + 1)) = Lh.fadd1 now M l[k] := by rw [fadd_take now L l hlt, HM.out]
        exact this
      obtain ⟨x, hx⟩ : ∃ x, l[k] = x := ⟨_, rfl⟩
      have HST' : Hid (Lh.fadd now L (l.take (k + 1)) = Lh.fadd1 now M x) := by
        have := HST.out
        rw [hx] at this
        exact this
      rw [hx] at x0 x1 x2 hxk hxs hxl hxh
      clear hx HST
      have hba : Below wr.heap.size wr (wr.alloc (.cells #[.int .u64 (x.1 : Nat), .string x.2.1, .int .i64 x.2.2] 82)) := (Below.refl _ _).alloc (Nat.le_refl _) _
      have hhas := hasF_any (HF.out.later hba) x.1 hxk
      have HBA : Hid (Below wr.heap.size wr (wr.alloc (.cells #[.int .u64 (x.1 : Nat), .string x.2.1, .int .i64 x.2.2] 82))) := hba
      have HXA : Hid (∀ w', Below (wr.alloc (.cells #[.int .u64 (x.1 : Nat), .string x.2.1, .int .i64 x.2.2] 82)).heap.size (wr.alloc (.cells #[.int .u64 (x.1 : Nat), .string x.2.1, .int .i64 x.2.2] 82)) w' → Below wr.heap.size wr w' ∧ w'.cell? ⟨wr.heap.size, 0, none⟩ = some (.int .u64 (x.1 : Nat)) ∧ w'.cell? ⟨wr.heap.size, 1, none⟩ = some (.string x.2.1) ∧ w'.cell? ⟨wr.heap.size, 2, none⟩ = some (.int .i64 x.2.2)) := fun w' hb => ⟨below_then hba hb, below_cell hb (by simp), below_cell hb (by simp), below_cell hb (by simp)⟩
      clear hba hxs
      by_cases q1 : Lh.fix M x.1 < M.length
      · rw [decide_eq_true q1] at hhas
        have HE1 : Hid (Lh.fadd1 now M x = M) := by
          have : Lh.fadd1 now M x = M := by unfold Lh.fadd1; rw [if_pos (Or.inl q1)]
          exact this
        clear q1
        go_wp2_with fail
        refine hhas.mono ?_
        rintro e w4 ⟨rfl, hb4⟩
        obtain ⟨hbr, z0, z1, z2⟩ := HXA.out w4 hb4
        clear hhas hb4 x0 x1 x2
        go_wp2
        exact ⟨⟨k + 1, M, by omega, by go_num, by rw [HST'.out, HE1.out], rfl, HF.out.later hbr, HT.out.behind hbr⟩, by simp [intOf]; omega⟩
      · rw [decide_eq_false q1] at hhas
        go_wp2_with fail
        refine hhas.mono ?_
        rintro e w4 ⟨rfl, hb4⟩
        obtain ⟨hbr, z0, z1, z2⟩ := HXA.out w4 hb4
        have hfull := fullF_any (HF.out.later hbr)
        clear hhas
        by_cases q2 : 200 ≤ M.length
        · rw [decide_eq_true q2] at hfull
          have HE1 : Hid (Lh.fadd1 now M x = M) := by
            have : Lh.fadd1 now M x = M := by unfold Lh.fadd1; rw [if_pos (Or.inr (Or.inr (Or.inr q2)))]
            exact this
          clear q1 q2
          go_wp2_with fail
          refine hfull.mono ?_
          rintro e w5 ⟨rfl, hb5⟩
          have hbr5 := below_then hbr hb5
          clear hfull hb4 hbr hb5 x0 x1 x2 z0 z1 z2
          go_wp2
          exact ⟨⟨k + 1, M, by omega, by go_num, by rw [HST'.out, HE1.out], rfl, HF.out.later hbr5, HT.out.behind hbr5⟩, by simp [intOf]; omega⟩
        · rw [decide_eq_false q2] at hfull
          go_wp2_with fail
          refine hfull.mono ?_
          rintro e w5 ⟨rfl, hb5⟩
          have hbr5 := below_then hbr hb5
          replace z0 := below_cell hb5 z0
          replace z1 := below_cell hb5 z1
          replace z2 := below_cell hb5 z2
          clear hfull hb4 hbr hb5 x0 x1 x2
          by_cases q3 : x.2.2 ≤ now
          · have d3 : decide (x.2.2 ≤ now) = true := by simpa using q3
            have HE1 : Hid (Lh.fadd1 now M x = M) := by
              have : Lh.fadd1 now M x = M := by unfold Lh.fadd1; rw [if_pos (Or.inr (Or.inl q3))]
              exact this
            clear q1 q2 q3
            go_wp2
            exact ⟨⟨k + 1, M, by omega, by go_num, by rw [HST'.out, HE1.out], rfl, HF.out.later hbr5, HT.out.behind hbr5⟩, by simp [intOf]; omega⟩
          · have d3 : decide (x.2.2 ≤ now) = false := by simpa using q3
            by_cases q4 : now + 1000 < x.2.2
            · have d4 : decide (now + 1000 < x.2.2) = true := by simpa using q4
              have HE1 : Hid (Lh.fadd1 now M x = M) := by
                have : Lh.fadd1 now M x = M := by unfold Lh.fadd1; rw [if_pos (Or.inr (Or.inr (Or.inl (by omega))))]
                exact this
              clear q1 q2 q3 q4
              go_wp2
              exact ⟨⟨k + 1, M, by omega, by go_num, by rw [HST'.out, HE1.out], rfl, HF.out.later hbr5, HT.out.behind hbr5⟩, by simp [intOf]; omega⟩
            · have d4 : decide (now + 1000 < x.2.2) = false := by simpa using q4
              have HE1 : Hid (Lh.fadd1 now M x = Lh.flay x (M.filter fun y => !decide (y.1 = x.1))) := by
                have : Lh.fadd1 now M x = Lh.flay x (M.filter fun y => !decide (y.1 = x.1)) := by unfold Lh.fadd1; rw [if_neg (by omega), filter_none q1]
                exact this
              have hmx : M.length < maxLen := by unfold maxLen; omega
              have HLN : Hid ((Lh.flay x (M.filter fun y => !decide (y.1 = x.1))).length = M.length + 1) := by
                have : (Lh.flay x (M.filter fun y => !decide (y.1 = x.1))).length = M.length + 1 := by rw [Lh.flay_len, filter_none q1]
                exact this
              have h5 := HF.out.later hbr5
              have k2 := h5.c2
              obtain ⟨w6, hrun, own6, hg6⟩ := (own_heap h5.own (w' := w5.drew) rfl).store u64Keyed Tryz.underlying119 hmx (keyK x.1 hxk) (flElem_mk x)
              have HM2 : Hid (M.length < 200) := Nat.lt_of_not_le q2
              clear q1 q2 q3 q4 h5
              unfold valF at hrun
              go_wp2_with fail
              go_region
              obtain ⟨h6, hT6⟩ := (HF.out.later (hbr5.trans ((below_drewN (Below.refl _ _) 1).mono hbr5.size))).laid (k := x.1) (s := x.2.1) (u := x.2.2) hg6.grown own6
              have HF6 : Hid (FR w6 p mb t now (Lh.flay x (M.filter fun y => !decide (y.1 = x.1)))) := h6
              have HT6 : Hid (Tur (FFt p mb) W w6) := (HT.out.behind (hbr5.trans ((below_drewN (Below.refl _ _) 1).mono hbr5.size))).trans hT6 fun b hb => Or.inl (Or.inr hb)
              have hr : IntKind.i64.wrap (((M.length - L.length : Nat) : Int) + 1) = ((M.length - L.length : Nat) : Int) + 1 := by have := HM2.out; rw [IntKind.wrap_i64]; omega
              clear h6 hT6 hrun own6 hg6 z0 z1 z2 k2 hbr5
              go_wp2
              exact ⟨⟨k + 1, Lh.flay x (M.filter fun y => !decide (y.1 = x.1)), by omega, by go_num, by rw [HST'.out, HE1.out], by rw [HLN.out]; congr 1; omega, HF6.out, HT6.out⟩, by simp [intOf]; omega⟩
    · obtain rfl : k = l.length := by omega
      have HME : Hid (M = Lh.fadd now L l) := by
        have := HM.out
        rw [List.take_length] at this
        exact this
      go_wp2
      go_ret2
      refine ⟨by rw [← HME.out]; rfl, by rw [← HME.out]; exact HF.out, HT.out⟩
end
end Go.Proofs.YtmdckddenelneaaGreatDoor

/- The landed readDecimal. -/
namespace Go.Proofs.YtmdckddenelneaaGreatDoor
open Go.RowKit
set_option maxHeartbeats 2000000 in
set_option maxRecDepth 100000 in
/-- readDecimal: a number as the document has it, or none. -/
theorem readDec_any {a : Nat → Addr} (s : List UInt8) (hs : s.length ≤ 100000) (w : World) (he : EC a w) :
    Calls Tryz.prog 226 #[.string (Lh.bt s)] w fun e w' => Below w.heap.size w w' ∧
      ((∃ m : Nat, Lh.numL s = some m ∧ e = .returned (.tuple #[.int .i64 (m : Nat), .bool true])) ∨ (Lh.numL s = none ∧ ∃ x, e = .returned (.tuple #[.int .i64 x, .bool false]))) := by
  have ha := atoi_any s hs w he
  have HE : Hid (EC a w) := he
  have hsz : (Lh.bt s).size = s.length := by simp [Lh.bt, ByteArray.size]
  clear he
  go_enter Tryz.func226, Tryz.ntmps226
  go_wp2_with fail
  refine ha.mono ?_
  rintro e w1 ⟨hb1, ⟨v, hv, rfl⟩ | ⟨hn, x, t, p, rfl⟩⟩
  case inr =>
    have hnone : Lh.numL s = none := by
      cases h : Lh.numL s with
      | none => rfl
      | some m => exact absurd (Lh.atoi_num h).1 (hn _)
    clear ha hn
    go_wp2
    go_ret2
    exact ⟨hb1, Or.inr ⟨hnone, _, rfl⟩⟩
  clear ha
  cases hn : Lh.numL s with
  | some m =>
    have HNS : Hid (Lh.numL s = some m) := hn
    obtain ⟨q1, q2, q3, q4⟩ := Lh.atoi_num hn
    obtain rfl : v = (m : Int) := by
      rw [q1] at hv
      cases hv
      rfl
    have hq : Lh.decL m = s := by rw [← Lh.itoa_dec]; exact q3
    have hi := itoa_any m (by omega) w1 (HE.out.later hb1)
    rw [hq] at hi
    have hsl : (s.length : Int) ≤ 14 := by omega
    have heq : ((Lh.bt s).toList == (Lh.bt s).toList) = true := by simp
    clear hv q1 q2 q3 q4 hn hq
    go_wp2_with (first | (go_at_call 184; refine hi.mono ?_; rintro e w2 ⟨rfl, hb2⟩))
    go_ret2
    exact ⟨below_then hb1 hb2, Or.inl ⟨m, HNS.out, rfl⟩⟩
  | none =>
    have HNN : Hid (Lh.numL s = none) := hn
    by_cases hv0 : 0 ≤ v
    · by_cases h14 : s.length ≤ 14
      · have hne := Lh.atoi_none hn hv0 h14
        obtain ⟨n, rfl⟩ := Int.eq_ofNat_of_zero_le hv0
        have hnb : n ≤ 9223372036854775807 := by
          have := Lib.atoiAll_bounds hv
          omega
        rw [Lh.itoa_dec] at hne
        have hi := itoa_any n hnb w1 (HE.out.later hb1)
        have hsl : (s.length : Int) ≤ 14 := by omega
        have heq : ((Lh.bt (Lh.decL n)).toList == (Lh.bt s).toList) = false := by
          rw [Lh.bt_list, Lh.bt_list, beq_eq_false_iff_ne]
          exact hne
        clear hv hn hne
        go_wp2_with (first | (go_at_call 184; refine hi.mono ?_; rintro e w2 ⟨rfl, hb2⟩))
        go_ret2
        exact ⟨below_then hb1 hb2, Or.inr ⟨HNN.out, _, rfl⟩⟩
      · have hsl : decide ((s.length : Int) ≤ 14) = false := by simp; omega
        clear hv hn
        go_wp2_with fail
        go_ret2
        exact ⟨hb1, Or.inr ⟨HNN.out, _, rfl⟩⟩
    · have hd : decide (0 ≤ v) = false := by simp; omega
      clear hv hn
      go_wp2_with fail
      go_ret2
      exact ⟨hb1, Or.inr ⟨HNN.out, _, rfl⟩⟩
end Go.Proofs.YtmdckddenelneaaGreatDoor

/- A text of flows, parted from its end: the sum's line, then the lines ahead of it: the same parts. -/
namespace Go.Proofs.YtmdckddenelneaaGreatDoor
namespace Lh
theorem cutL_mid (y : UInt8) : ∀ a b : List UInt8, cutL y (a ++ y :: b) = cutL y a ++ cutL y b
  | [], b => by
    rw [List.nil_append, cutL_cons, if_pos rfl]
    rfl
  | c :: a, b => by
    rw [List.cons_append, cutL_cons, cutL_cons, cutL_mid y a b]
    by_cases hc : c = y
    · rw [if_pos hc, if_pos hc]
      rfl
    · rw [if_neg hc, if_neg hc]
      obtain ⟨w, ws, e⟩ := cutL_some y a
      rw [e]
      rfl
theorem hexV_no {d : List UInt8} {k : Nat} (h : hexV d = some k) {y : UInt8} (hy : y.toNat < 48) : y ∉ d := by
  obtain ⟨e, _⟩ := hexL_hexV h
  rw [← e]
  exact hexL_no _ _ hy
/-- the sum's line -/
def sumD (d : List UInt8) : List UInt8 := sumW ++ 32 :: d
theorem sumD_no {d : List UInt8} {k : Nat} (h : hexV d = some k) : (10 : UInt8) ∉ sumD d := by
  have := hexV_no h (y := 10) (by decide)
  simp [sumD, sumW, this]
theorem last_sumD {d : List UInt8} {k : Nat} (hl : d.length = 8) (h : hexV d = some k) : lastL (sumD d) = some k := by
  have h1 : cutL 32 (sumD d) = [sumW, d] := by
    unfold sumD
    rw [cutL_mid, cutL_word (hexV_no h (by decide))]
    rfl
  rw [last_hex h1 rfl hl, h]
theorem cut_lines {inner d : List UInt8} {k : Nat} (h : hexV d = some k) : cutL 10 (inner ++ [10] ++ sumD d ++ [10]) = cutL 10 inner ++ [sumD d] ++ [[]] := by
  rw [show inner ++ [10] ++ sumD d ++ [10] = inner ++ 10 :: (sumD d ++ 10 :: []) by simp, cutL_mid, cutL_mid, cutL_word (sumD_no h)]
  simp [cutL]
theorem ls_last (ls : List (List UInt8)) (a : List UInt8) : (ls ++ [a] ++ [[]]).length = ls.length + 2 ∧ (ls ++ [a] ++ [[]]).getD (ls.length + 1) [] = [] ∧ (ls ++ [a] ++ [[]]).getD ls.length [] = a ∧ (ls ++ [a] ++ [[]]).take ls.length = ls := by
  refine ⟨by simp, ?_, ?_, by simp⟩
  · simp [List.getD_eq_getElem?_getD]
  · simp [List.getD_eq_getElem?_getD]
theorem ls_mid {ls : List (List UInt8)} (h : ls ≠ []) (a : List UInt8) : (ls ++ [a] ++ [[]]).getD 0 [] = ls.getD 0 [] ∧ ((ls ++ [a] ++ [[]]).drop 1).take (ls.length - 1) = ls.drop 1 := by
  match ls, h with
  | w :: ws, _ => exact ⟨rfl, by simp⟩
theorem cut_pos (y : UInt8) (l : List UInt8) : 0 < (cutL y l).length := List.length_pos_iff.2 (cutL_ne y l)
theorem parts_yes {inner d : List UInt8} {e n k : Nat} {L : List Fl} (hl : d.length = 8) (hx : hexV d = some k) (h1 : firstL ((cutL 10 inner).getD 0 []) = some (e, n)) (h2 : n + 1 = (cutL 10 inner).length) (h3 : rowsL ((cutL 10 inner).drop 1) = some L) :
    partsL (cutL 10 (inner ++ [10] ++ sumD d ++ [10])) = some (e, L, k, cutL 10 inner) := by
  have hp := cut_pos 10 inner
  obtain ⟨q1, q2, q3, q4⟩ := ls_last (cutL 10 inner) (sumD d)
  obtain ⟨q5, q6⟩ := ls_mid (cutL_ne 10 inner) (sumD d)
  rw [cut_lines hx]
  have r := parts_some (ls := cutL 10 inner ++ [sumD d] ++ [[]]) (e := e) (n := n) (k := k) (l := L) (by
    rw [q1, show (cutL 10 inner).length + 2 - 1 = (cutL 10 inner).length + 1 by omega, q2]
    simp
    omega) (by rw [q5]; exact h1) (by rw [q1]; omega) (by rw [q1, show (cutL 10 inner).length + 2 - 3 = (cutL 10 inner).length - 1 by omega, q6]; exact h3) (by rw [q1, show (cutL 10 inner).length + 2 - 2 = (cutL 10 inner).length by omega, q3]; exact last_sumD hl hx)
  rw [r, q1, show (cutL 10 inner).length + 2 - 2 = (cutL 10 inner).length by omega, q4]
theorem parts_no {inner d : List UInt8} {k : Nat} (hx : hexV d = some k) (h : firstL ((cutL 10 inner).getD 0 []) = none ∨ rowsL ((cutL 10 inner).drop 1) = none ∨ ∃ e n, firstL ((cutL 10 inner).getD 0 []) = some (e, n) ∧ n + 1 ≠ (cutL 10 inner).length) :
    partsL (cutL 10 (inner ++ [10] ++ sumD d ++ [10])) = none := by
  have hp := cut_pos 10 inner
  obtain ⟨q1, q2, q3, q4⟩ := ls_last (cutL 10 inner) (sumD d)
  obtain ⟨q5, q6⟩ := ls_mid (cutL_ne 10 inner) (sumD d)
  rw [cut_lines hx]
  rcases h with h | h | ⟨e, n, h, hn⟩
  · exact parts_first (by rw [q5]; exact h)
  · exact parts_rows (by rw [q1, show (cutL 10 inner).length + 2 - 3 = (cutL 10 inner).length - 1 by omega, q6]; exact h)
  · exact parts_many (by rw [q5]; exact h) (by rw [q1]; omega)
theorem lastL_digits {w : List UInt8} {k : Nat} (h : lastL w = some k) : ∃ d, w = sumD d ∧ d.length = 8 ∧ hexV d = some k := by
  have hj := cut_join 32 w
  unfold lastL at h
  split at h
  · rename_i a b hc
    split at h
    · cases h
    · rename_i hn
      simp only [not_or, Decidable.not_not] at hn
      rw [hc] at hj
      exact ⟨b, by rw [← hj, hn.1]; rfl, hn.2, h⟩
  · cases h
/-- A text that has parts ends with a sum's line. -/
theorem parts_back {s : List UInt8} {e k : Nat} {L : List Fl} {ps : List (List UInt8)} (h : partsL (cutL 10 s) = some (e, L, k, ps)) : ∃ inner d, s = inner ++ [10] ++ sumD d ++ [10] ∧ d.length = 8 ∧ hexV d = some k := by
  have hj := cut_join 10 s
  generalize cutL 10 s = ls at h hj
  unfold partsL at h
  split at h
  · cases h
  · rename_i hc
    simp only [not_or, Decidable.not_not, Nat.not_lt] at hc
    split at h
    · rename_i e' n l' k' hf hr hs
      split at h
      · cases h
      · cases h
        obtain ⟨d, hd, hl, hx⟩ := lastL_digits hs
        have hls : ls = ls.take (ls.length - 2) ++ [ls.getD (ls.length - 2) []] ++ [ls.getD (ls.length - 1) []] := by
          rw [List.getD_eq_getElem?_getD, List.getD_eq_getElem?_getD, List.getElem?_eq_getElem (by omega), List.getElem?_eq_getElem (by omega)]
          simp only [Option.getD_some]
          have q1 := List.take_succ_eq_append_getElem (l := ls) (i := ls.length - 2) (by omega)
          have q2 := List.take_succ_eq_append_getElem (l := ls) (i := ls.length - 2 + 1) (by omega)
          rw [q1] at q2
          have q3 : ls.take (ls.length - 2 + 1 + 1) = ls := List.take_of_length_le (by omega)
          rw [q3] at q2
          have q4 : ls[ls.length - 1] = ls[ls.length - 2 + 1]'(by omega) := by congr 1; omega
          rw [q4]
          exact q2
        have hne : ls.take (ls.length - 2) ≠ [] := fun h0 => by
          have := congrArg List.length h0
          simp at this
          omega
        refine ⟨joinL 10 (ls.take (ls.length - 2)), d, ?_, hl, hx⟩
        rw [hd, hc.2] at hls
        rw [← hj]
        conv => lhs; rw [hls]
        rw [joinL_snoc _ _ _ (by simp), joinL_snoc _ _ _ hne]
        simp
    · cases h
/-- Where the sum's line stands is told by the length. -/
theorem sum_one {b b' d d' : List UInt8} (hd : d.length = 8) (hd' : d'.length = 8) (h : b ++ sumD d ++ [10] = b' ++ sumD d' ++ [10]) : b = b' ∧ d = d' := by
  rw [List.append_assoc, List.append_assoc] at h
  have hl := congrArg List.length h
  obtain ⟨e1, e2⟩ := List.append_inj h (by simp [sumD, hd, hd'] at hl ⊢; omega)
  refine ⟨e1, ?_⟩
  have e3 := List.append_cancel_right e2
  unfold sumD at e3
  have e4 := List.append_cancel_left e3
  simpa using e4
end Lh
end Go.Proofs.YtmdckddenelneaaGreatDoor
