/- TableEven: the walk. -/
import Derived.Test.YtedbhahkldfmiaaDoorTElt
namespace Go.Proofs.YtedbhahkldfmiaaDoor
open Go.RowKit

set_option maxRecDepth 100000 in
set_option maxHeartbeats 8000000 in
theorem te_eq (a : Nat → Addr) (lv : Value) (xs : List ByteArray) (n : Nat) (w : World) (he : Errs5 a w) (hl : Strs1 w lv xs) (hsz : ∀ k (h : k < xs.length), (xs[k]).size ≤ maxLen) (hlen : xs.length ≤ maxLen) (h0 : 0 < xs.length) (hif : IsFault xs 0 (-1)) (hp : Lh.Prm n) (h5 : n ≤ 503) :
    Calls Tryd.prog 8 #[lv, .int .i64 n, .int .i64 xs.length] w fun e w' => e = .returned (.bool true) ∧ Below w.heap.size w w' := by
  have HL : Hid (Strs1 w lv xs) := hl
  have HE : Hid (Errs5 a w) := he
  have HP : Hid (Lh.Prm n) := hp
  have HIF : Hid (IsFault xs 0 (-1)) := hif
  have h2 : 2 ≤ n := hp.1
  obtain ⟨_, h12, hnd⟩ := fault_zero hif
  have HND : Hid (xs.Nodup) := hnd
  have hcap : ∀ b o c, lv = .slice (some ⟨b, o, none⟩) xs.length c → xs.length ≤ c := fun b o c e => by
    rcases hl with ⟨h1, _⟩ | ⟨b', o', c', h1, h2, _⟩
    · rw [h1] at h0; cases h0
    · rw [e] at h1
      simp only [Value.slice.injEq] at h1
      omega
  obtain ⟨b, o, cp, rfl, hx⟩ := strs1_pos hl h0
  have hcp := hcap b o cp rfl
  have HX : Hid (∀ k (h : k < xs.length), w.cell? ⟨b, o + k, none⟩ = some (.string xs[k])) := hx
  clear hl he hp hif hnd hcap hx
  go_enter Tryd.func8, Tryd.ntmps8
  go_wp2_with fail
  refine (tabled_any5 a _ HE.out).mono ?_
  rintro e w1 ⟨rfl, hb1⟩
  go_wp2_with fail
  refine (long_any _ xs _ (HL.out.later hb1).strs hsz hlen).mono ?_
  rintro e w2 ⟨hlo, rfl⟩
  rcases hlo with rfl | ⟨rfl, h30, h60⟩
  · go_wp2
    go_ret
    exact ⟨rfl, hb1⟩
  have hq0 : decide ((xs.length : Int) < 0) = false := by simp
  have hq1 : decide ((xs.length : Int) < (xs.length : Int)) = false := by simp
  have HS3 : Hid (∀ k (h : k < xs.length), (xs[k]).size ≤ 300) := fun k h => Nat.le_trans (h60 k h) (by decide)
  clear hsz hlen h60
  go_wp2_with fail
  refine (ownTexts_any _ xs _ (HL.out.later hb1) (by omega)).mono ?_
  rintro e w3 ⟨v1, rfl, hv1, hb3⟩
  have hbA := below_then hb1 hb3
  clear hb1 hb3
  go_wp2_with fail
  refine (make_good5 a v1 xs n _ (HE.out.later hbA) hv1 h0 HIF.out HS3.out HP.out h5).mono ?_
  rintro e w4 ⟨g1, rfl, hg1, hr1, hb4⟩
  have HR1 : Hid (IntRow w4 g1 (Lh.tab xs n n)) := hr1
  have hbB := below_then hbA hb4
  have hI1 : Ints w4 (.slice (some ⟨g1, 0, none⟩) n n) (Lh.tab xs n n) := by
    have h1 := hr1.ints n
    rwa [Lh.tab_length] at h1
  have hcnt := counts_any5 a _ (Lh.tab xs n n) (xs.length : Int) w4 (HE.out.later hbB) hI1 (by rw [Lh.tab_length]; omega) 0 (-1) (tab_fault HP.out h0 h12)
  clear hr1 hv1 hbA hb4 hI1
  go_wp2_with fail
  refine hcnt.mono ?_
  rintro e w5 ⟨hres, hb5⟩
  rcases hres with ⟨-, g2, m', hm', rfl, hg2, hr2⟩ | ⟨h, -⟩
  case inr => cases h
  obtain rfl : xs.length = m' := by omega
  clear hm' hcnt
  have HR2 : Hid (IntRow w5 g2 (cnt (Lh.tab xs n n) xs.length)) := hr2
  have HR1' : Hid (IntRow w5 g1 (Lh.tab xs n n)) := HR1.out.later hb5
  have hbC := below_then hbB hb5
  clear hr2 HR1 hbB hb5
  have hl0 : ((xs.length : Int) == 0) = false := by rw [beq_eq_false_iff_ne]; omega
  go_wp2_with fail
  go_loopw [11] (fun t W => Below w5.heap.size w5 W ∧ ∃ i : Nat, i ≤ xs.length ∧ t = .int .i64 i) (fun t _ => xs.length - (intOf t).toNat)
  case atStart => exact ⟨Below.refl _ _, 0, Nat.zero_le _, rfl⟩
  case round =>
    obtain ⟨hb, i, hi, rfl⟩ := hrel
    by_cases hlt : i < xs.length
    · have hil : i < (cnt (Lh.tab xs n n) xs.length).length := by rw [cnt_length]; exact hlt
      have cx := (HR2.out.later hb).cell hil
      rw [cnt_get] at cx
      obtain ⟨ev1, ev2⟩ := even_int HP.out HND.out hlt
      generalize (Lh.tab xs n n).count ((i : Nat) : Int) = q1 at *
      have e1 : decide ((q1 : Int) < (n : Int) / (xs.length : Int)) = false := by simp; omega
      have e2 : decide (((n : Int) + (xs.length : Int) - 1) / (xs.length : Int) < (q1 : Int)) = false := by simp; omega
      have hd : decide ((i : Int) < (xs.length : Int)) = true := by simp; omega
      have hii : (i : Int) < (xs.length : Int) := by omega
      have hxne : xs ≠ [] := fun e => by rw [e] at h0; cases h0
      have hw1 : IntKind.i64.wrap ((n : Int) / (xs.length : Int)) = (n : Int) / (xs.length : Int) := quo_wrap _ _ (by omega) (by omega)
      have hw2 : IntKind.i64.wrap (((n : Int) + (xs.length : Int) - 1) / (xs.length : Int)) = ((n : Int) + (xs.length : Int) - 1) / (xs.length : Int) := quo_wrap _ _ (by omega) (by omega)
      have e1w : decide ((q1 : Int) < IntKind.i64.wrap ((n : Int) / (xs.length : Int))) = false := by rw [hw1]; exact e1
      have e2w : decide (IntKind.i64.wrap (((n : Int) + (xs.length : Int) - 1) / (xs.length : Int)) < (q1 : Int)) = false := by rw [hw2]; exact e2
      clear ev1 ev2 hil
      go_wp2_with fail
      go_quiet (fail)
      go_wp2_with fail
      go_roundw
      case rel => exact ⟨below_drewN hb nq, i + 1, by omega, by go_num⟩
      case measure => simp [intOf]; omega
    · have hd : decide ((i : Int) < (xs.length : Int)) = false := by simp; omega
      obtain ⟨iS, hiS, hs0, hs1, hs2⟩ := info_parts infoS
      have hbD := below_then hbC hb
      have hcx : ∀ k (h : k < xs.length), wr.cell? ⟨b, o + k, none⟩ = some (.string xs[k]) := fun k h => below_cell hbD (HX.out k h)
      have HR1W : Hid (IntRow wr g1 (Lh.tab xs n n)) := HR1'.out.later hb
      have hn1 : ∀ (ad : Addr) j u, (([] : List ByteArray).map Value.string)[j]? = some u → wr.cell? (ad.add j) = some u := fun ad j u h => by simp at h
      obtain ⟨ad, hif⟩ : ∃ ad : Addr, (if cp = xs.length then (some ⟨b, o, none⟩ : Option Addr) else some ⟨b, o + xs.length, none⟩) = some ad := by
        by_cases h : cp = xs.length
        · exact ⟨_, by rw [if_pos h]⟩
        · exact ⟨_, by rw [if_neg h]⟩
      have hn2 : ∀ W, Below wr.heap.size wr W → ∀ j u, ((xs.take xs.length).map Value.string)[j]? = some u → W.cell? ((⟨b, o, none⟩ : Addr).add j) = some u := fun W hW => cells_strs (fun j hj => by
        have hj' : j < xs.length := by simp at hj; omega
        have h1 := below_cell hW (hcx j hj')
        rw [h1]; simp)
      have hlen2 : ((xs.take xs.length).map Value.string).length = xs.length * 1 := by simp
      have HN2 : Hid (∀ W, Below wr.heap.size wr W → ∀ j u, ((xs.take xs.length).map Value.string)[j]? = some u → W.cell? ((⟨b, o, none⟩ : Addr).add j) = some u) := hn2
      have HCX : Hid (∀ k (h : k < xs.length), wr.cell? ⟨b, o + k, none⟩ = some (.string xs[k])) := hcx
      have HBD : Hid (Below w.heap.size w wr) := hbD
      clear hn2 hcx hbD
      have hqc : (xs.length : Int) ≤ (cp : Int) := by omega
      have tok1 : True := trivial
      have tok2 : True := trivial
      go_wp2_with (first | (at_builtin; have _t := tok1; refine wpList_append_own _ rfl _ _ 35 rfl wr.heap.size 9 iS _ 1 16 Tryd.underlying35 hiS hs0 hs1 hs2 rfl (by decide) (.slice none 0 0) 0 _ rfl (owns_nil _ _ _) ad 0 (cp - xs.length) (([] : List ByteArray).map Value.string) rfl rfl (hn1 _) (strs_oneCell _) (by unfold maxLen; omega) (by omega) (Nat.le_refl _) ?_; intro va wa howna hga hnila; have hba : Below wr.heap.size wr wa := below_grown hga (fun k h => by cases h); clear tok1 _t hnila) | (at_builtin; have _t := tok2; refine wpList_append_own _ rfl _ _ 35 rfl wr.heap.size 9 iS _ 1 16 Tryd.underlying35 hiS hs0 hs1 hs2 rfl (by decide) va (0 + 0) _ rfl howna ⟨b, o, none⟩ xs.length cp ((xs.take xs.length).map Value.string) rfl hlen2 (HN2.out _ hba) (strs_oneCell _) (by unfold maxLen; omega) (by omega) hba.size ?_; intro vo wb hownb hgb hnilb; clear tok2 _t hnilb))
      have hbb : Below wr.heap.size wr wb := hba.trans ((Below.refl _ _).grown hgb hba.size (fun k h => (howna.lt k h).1))
      have hstr : Strs1 wb vo (turnL xs xs.length) := by
        have h1 : wb.ownsRow wr.heap.size 9 1 vo (0 + 0 + xs.length) ((turnL xs xs.length).map Value.string) := by simpa [turnL] using hownb
        exact strs_of_owns h1
      have htl := turnL_length xs xs.length
      have hbE := below_then HBD.out hbb
      have HSO : Hid (Strs1 wb vo (turnL xs xs.length)) := hstr
      have hmk2 := make_good5 a vo (turnL xs xs.length) n wb (HE.out.later hbE) hstr (by omega) (fault_perm HIF.out (turnL_perm xs xs.length)) (fun k h => by
        obtain ⟨j, hj, e⟩ := List.getElem_of_mem (turnL_mem (List.getElem_mem h))
        rw [← e]
        exact HS3.out j hj) HP.out h5
      have HR1B : Hid (IntRow wb g1 (Lh.tab xs n n)) := HR1W.out.later hbb
      have HCB : Hid (∀ k (h : k < xs.length), wb.cell? ⟨b, o + k, none⟩ = some (.string xs[k])) := fun k h => below_cell hbb (HCX.out k h)
      have HTL : Hid ((turnL xs xs.length).length = xs.length) := htl
      clear hownb hgb howna hga hba hbb hstr htl hn1 hlen2
      refine hmk2.mono ?_
      rintro e w7 ⟨g3, rfl, hg3, hr3, hb7⟩
      obtain ⟨ob, oo, oc, rfl, hox⟩ := strs1_pos HSO.out (by rw [HTL.out]; exact h0)
      have HOX : Hid (∀ k (h : k < (turnL xs xs.length).length), w7.cell? ⟨ob, oo + k, none⟩ = some (.string (turnL xs xs.length)[k])) := fun k h => below_cell hb7 (hox k h)
      have HR3 : Hid (IntRow w7 g3 (Lh.tab (turnL xs xs.length) n n)) := hr3
      have HR17 : Hid (IntRow w7 g1 (Lh.tab xs n n)) := HR1B.out.later hb7
      have HC7 : Hid (∀ k (h : k < xs.length), w7.cell? ⟨b, o + k, none⟩ = some (.string xs[k])) := fun k h => below_cell hb7 (HCB.out k h)
      have HB7 : Hid (Below w.heap.size w w7) := below_then hbE hb7
      rw [HTL.out]
      clear hox hr3 hmk2 hb7 hbE
      go_wp2_with fail
      go_loopw [14] (fun t W => Below w7.heap.size w7 W ∧ ∃ k : Nat, k ≤ n ∧ t = .int .i64 k) (fun t _ => n - (intOf t).toNat)
      case atStart => exact ⟨Below.refl _ _, 0, Nat.zero_le _, rfl⟩
      case round =>
        obtain ⟨hb7, k, hk, rfl⟩ := hrel
        by_cases hkn : k < n
        · obtain ⟨i1, j1, hi1, hj1, e1, e2, e3⟩ := Lh.tab_same HP.out h0 (turnL_perm xs xs.length).symm hkn
          have hk1 : k < (Lh.tab xs n n).length := by rw [Lh.tab_length]; exact hkn
          have hk3 : k < (Lh.tab (turnL xs xs.length) n n).length := by rw [Lh.tab_length]; exact hkn
          have cx := (HR17.out.later hb7).cell hk1
          rw [← getD_at hk1, e1] at cx
          have cy := (HR3.out.later hb7).cell hk3
          rw [← getD_at hk3, e2] at cy
          have cl := below_cell hb7 (HC7.out i1 hi1)
          have co := below_cell hb7 (HOX.out j1 hj1)
          rw [← e3] at co
          have hne : ((xs[i1]).toList != (xs[i1]).toList) = false := by simp
          have hj1' : j1 < xs.length := by have := HTL.out; omega
          have hi1i : (i1 : Int) < (xs.length : Int) := by omega
          have hj1i : (j1 : Int) < (xs.length : Int) := by omega
          have hki : (k : Int) < (n : Int) := by omega
          have hd2 : decide ((k : Int) < (n : Int)) = true := by simp; omega
          clear e1 e2 e3 hk1 hk3 hj1
          generalize xs[i1] = s1 at *
          go_wp2_with fail
          go_quiet (fail)
          go_wp2_with fail
          go_roundw
          case rel => exact ⟨below_drewN hb7 nq, k + 1, by omega, by go_num⟩
          case measure => simp [intOf]; omega
        · have hd2 : decide ((k : Int) < (n : Int)) = false := by simp; omega
          have c0 := below_cell hb7 (HC7.out 0 h0)
          rw [Nat.add_zero] at c0
          have hs00 := HS3.out 0 h0
          have hnm := fault_names HIF.out xs[0] (List.getElem_mem h0)
          have hb8 := below_then HB7.out hb7
          have hrw := row_good5 a xs[0] n wr (HE.out.later hb8) hs00 hnm HP.out h5
          have h0i : (0 : Int) < (xs.length : Int) := by omega
          clear hnm hs00 hb7
          go_wp2_with fail
          refine hrw.mono ?_
          rintro e w8 ⟨g4, rfl, hg4, hr4, hb9⟩
          obtain ⟨r, hrlt, hrinj, hrc⟩ : ∃ r : Nat → Nat, (∀ j, j < n → r j < n) ∧ (∀ i j, i < n → j < n → r i = r j → i = j) ∧ ∀ j, j < n → w8.cell? ⟨g4, j, none⟩ = some (.int .i64 (r j : Nat)) :=
            ⟨Lh.rowN xs[0] n, fun j _ => Lh.rowAt_lt h2, fun i j hi hj e => Lh.rowAt_inj HP.out hi hj e, fun j hj => by
              have hl : j < (Lh.rowL xs[0] n).length := by rw [Lh.rowL_length]; exact hj
              rw [hr4.cell hl, Lh.rowL_get]⟩
          have HRL : Hid (∀ j, j < n → r j < n) := hrlt
          have HRI : Hid (∀ i j, i < n → j < n → r i = r j → i = j) := hrinj
          have HRC : Hid (∀ j, j < n → w8.cell? ⟨g4, j, none⟩ = some (.int .i64 (r j : Nat))) := hrc
          have HBX : Hid (Below w.heap.size w w8) := below_then hb8 hb9
          have hg48 : g4 < w8.heap.size := hr4.lt
          obtain ⟨iB, hiB, hB0, hB1, hB2⟩ := info_parts infoB
          have hbyt : iB.bytes * n ≤ 281474976710656 := by rw [hB2]; omega
          have hmax : n ≤ maxLen := by unfold maxLen; omega
          clear hr4 hrw hb8 hb9 hrlt hrinj hrc c0
          go_wp2_with (at_make; refine wpList_make_full _ rfl _ _ 68 rfl w8.heap.size 4 iB _ 1 Tryd.underlying68 hiB hB0 hB1 _ _ _ _ n rfl rfl rfl rfl hbyt hmax (Nat.le_refl _) ?_)
          intro w9 hown9 hgrow9
          have hbS : Below w8.heap.size w8 w9 := below_grown hgrow9 (fun k h => by cases h)
          rw [made_bools] at hown9
          have hsn := BoolRow.of_owns hown9
          clear hown9 hgrow9
          go_wp2_with fail
          go_loopw [17] (fun t W => Below w8.heap.size w8 W ∧ ∃ k : Nat, k ≤ n ∧ t = .int .i64 k ∧ ∃ bs : List Bool, Met r n k bs ∧ BoolRow W w8.heap.size bs) (fun t _ => n - (intOf t).toNat)
          case atStart => exact ⟨hbS, 0, Nat.zero_le _, rfl, _, met_zero r n, hsn⟩
          case round =>
            obtain ⟨hbR, k3, hk3, rfl, bs, hmet, hbr⟩ := hrel
            have HMET : Hid (Met r n k3 bs) := hmet
            have HBR : Hid (BoolRow wr w8.heap.size bs) := hbr
            clear hsn hbS
            by_cases hkn3 : k3 < n
            · have hx := HRL.out k3 hkn3
              have cr := below_cell hbR (HRC.out k3 hkn3)
              have hfree := met_free hmet HRI.out hkn3
              have hxl : r k3 < bs.length := by rw [hmet.1]; exact hx
              have cs := hbr.cell hxl
              have hfr : bs[r k3] = false := by
                rw [List.getD_eq_getElem?_getD, List.getElem?_eq_getElem hxl] at hfree
                exact hfree
              rw [hfr] at cs
              have fs := hbr.frozen (r k3)
              have HMN : Hid (Met r n (k3 + 1) (bs.set (r k3) true)) := met_next hmet
              have HBS : Hid (BoolRow (wr.setCell ⟨w8.heap.size, r k3, none⟩ (.bool true)) w8.heap.size (bs.set (r k3) true)) := hbr.set (r k3) true
              clear hmet hbr hfree hfr hxl
              generalize r k3 = x at *
              have hki3 : (k3 : Int) < (n : Int) := by omega
              have hxi : (x : Int) < (n : Int) := by omega
              have e1 : decide ((x : Int) < 0) = false := by simp
              have e2 : decide ((n : Int) ≤ (x : Int)) = false := by simp; omega
              have hd3 : decide ((k3 : Int) < (n : Int)) = true := by simp; omega
              go_wp2_with fail
              exact ⟨⟨hbR.setCell (Nat.le_refl _) _, k3 + 1, by omega, by go_num, _, HMN.out, HBS.out⟩, by simp [intOf]; omega⟩
            · have hd3 : decide ((k3 : Int) < (n : Int)) = false := by simp; omega
              clear hmet hbr
              go_wp2
              go_ret
              exact ⟨rfl, below_then HBX.out hbR⟩
end Go.Proofs.YtedbhahkldfmiaaDoor
