/- The reference's TableOf: turn by turn. -/
import Derived.Test.YtedbhahkldfmiaaDoorTFault
namespace Go.Proofs.YtedbhahkldfmiaaDoor
open Go.RowKit

def castL (av : List Nat) : List Int := av.map (fun k : Nat => (k : Int))
theorem castL_length (av : List Nat) : (castL av).length = av.length := by simp [castL]
theorem castL_set (av : List Nat) (k q : Nat) : (castL av).set k (q : Nat) = castL (av.set k q) := by simp [castL, List.map_set]
theorem castL_set_at (av : List Nat) (k q : Nat) (h : k < (castL (av.set k q)).length) : (castL (av.set k q))[k] = ((q : Nat) : Int) := by simp [castL]
theorem set_self (av : List Nat) (k : Nat) (h : k < av.length) : av.set k (av.getD k 0) = av := by
  rw [List.getD_eq_getElem?_getD, List.getElem?_eq_getElem h]
  simp
theorem set_set_nat (av : List Nat) (k q q' : Nat) : (av.set k q).set k q' = av.set k q' := by simp
theorem getD_set (av : List Nat) (k j q : Nat) (h : k < av.length) : (av.set k q).getD j 0 = if j = k then q else av.getD j 0 := by
  rw [List.getD_eq_getElem?_getD, List.getD_eq_getElem?_getD, List.getElem?_set]
  by_cases e : j = k
  · subst e; simp [h]
  · simp [e, Ne.symm e]
def nextA (W : World) (ga k : Nat) : Nat := (((W.cell? ⟨ga, k, none⟩).map intOf).getD 0).toNat
theorem nextA_at {W : World} {ga k q : Nat} (h : W.cell? ⟨ga, k, none⟩ = some (.int .i64 (q : Nat))) : nextA W ga k = q := by
  unfold nextA
  rw [h]
  simp [intOf]
/-- what a turn of the reference finds -/
theorem turn_find {xs : List ByteArray} {n T : Nat} (hp : Lh.Prm n) (h0 : 0 < xs.length) (hT : T < n) {p0 : Nat} (htk : ∀ q, q < p0 → 0 ≤ (Lh.tab xs n T).getD (Lh.rowsN (Lh.sortT xs) n (T % xs.length) q) 0) :
    ∃ p, p < n ∧ p0 ≤ p ∧ (∀ q, p0 ≤ q → q < p → 0 ≤ (Lh.tab xs n T).getD (Lh.rowsN (Lh.sortT xs) n (T % xs.length) q) 0) ∧ (Lh.tab xs n T).getD (Lh.rowsN (Lh.sortT xs) n (T % xs.length) p) 0 < 0 ∧
      Lh.tab xs n (T + 1) = (Lh.tab xs n T).set (Lh.rowsN (Lh.sortT xs) n (T % xs.length) p) (Lh.ix xs (Lh.nameAt (Lh.sortT xs) (T % xs.length)) : Nat) ∧ ∀ q, q < p → 0 ≤ (Lh.tab xs n (T + 1)).getD (Lh.rowsN (Lh.sortT xs) n (T % xs.length) q) 0 := by
  have hk : T % xs.length < xs.length := Nat.mod_lt _ h0
  obtain ⟨hpn, hfree, hall⟩ := Lh.pick_spec (Lh.tab_free (xs := xs) hp h0 hT hk)
  refine ⟨_, hpn, ?_, fun q _ hq => hall q hq, hfree, Lh.tab_step hpn hfree hall, fun q hq => Lh.tab_keeps hp h0 (hall q hq)⟩
  rcases Nat.lt_or_ge (Lh.pick (Lh.tab xs n T) (Lh.rowsN (Lh.sortT xs) n (T % xs.length)) n) p0 with hlt | hge
  · have := htk _ hlt
    omega
  · exact hge

/-- What the walk asks of names, rows and tables. -/
structure TAbs (xs : List ByteArray) (n : Nat) (nm : Nat → ByteArray) (R : Nat → Nat → Nat) (tb : Nat → List Int) (vx : Nat → Nat) : Prop where
  tb0 : tb 0 = List.replicate n (-1)
  len : ∀ T, (tb T).length = n
  lt : ∀ k q, R k q < n
  keeps : ∀ T x, 0 ≤ (tb T).getD x 0 → 0 ≤ (tb (T + 1)).getD x 0
  find : ∀ T p0, T < n → (∀ q, q < p0 → 0 ≤ (tb T).getD (R (T % xs.length) q) 0) → ∃ p, p < n ∧ p0 ≤ p ∧ (∀ q, p0 ≤ q → q < p → 0 ≤ (tb T).getD (R (T % xs.length) q) 0) ∧ (tb T).getD (R (T % xs.length) p) 0 < 0 ∧
    tb (T + 1) = (tb T).set (R (T % xs.length) p) (vx (T % xs.length) : Nat) ∧ ∀ q, q < p → 0 ≤ (tb (T + 1)).getD (R (T % xs.length) q) 0
  row : ∀ k, k < xs.length → ∀ W : World, Calls Tryd.prog 37 #[.string (nm k), .int .i64 n] W fun e w' => ∃ g c, e = .returned (.slice (some ⟨g, 0, none⟩) n c) ∧ W.heap.size ≤ g ∧ (∀ j, j < n → w'.cell? ⟨g, j, none⟩ = some (.int .i64 (R k j : Nat))) ∧ Below W.heap.size W w'
  name : ∀ k (h : k < (Lh.sortT xs).length), (Lh.sortT xs)[k] = nm k
  index : ∀ b o c k, k < xs.length → ∀ W : World, (∀ j (h : j < xs.length), W.cell? ⟨b, o + j, none⟩ = some (.string xs[j])) → Calls Tryd.prog 52 #[.slice (some ⟨b, o, none⟩) xs.length c, .string (nm k)] W fun e w' => e = .returned (.int .i64 (vx k : Nat)) ∧ w' = W

set_option maxRecDepth 100000 in
set_option maxHeartbeats 4000000 in
theorem tableOf_core (b o c : Nat) (xs : List ByteArray) (n : Nat) (nm : Nat → ByteArray) (R : Nat → Nat → Nat) (tb : Nat → List Int) (vx : Nat → Nat) (habs : TAbs xs n nm R tb vx) (w : World) (hx : ∀ k (h : k < xs.length), w.cell? ⟨b, o + k, none⟩ = some (.string xs[k])) (h0 : 0 < xs.length) (h12 : xs.length ≤ 12) (hcap : xs.length ≤ c) (h2 : 2 ≤ n) (h5 : n ≤ 503) :
    Calls Tryd.prog 34 #[.slice (some ⟨b, o, none⟩) xs.length c, .int .i64 n] w fun e w' => ∃ g, e = .returned (.slice (some ⟨g, 0, none⟩) n n) ∧ w.heap.size ≤ g ∧ IntRow w' g (tb n) ∧ Below w.heap.size w w' := by
  obtain ⟨i, hi, hz0, hz1, hz2⟩ := info_parts infoI
  have hsort := sortedOf_any (.slice (some ⟨b, o, none⟩) xs.length c) xs w (Or.inr ⟨b, o, c, rfl, hcap, hx⟩) (by omega)
  have HX : Hid (∀ k (h : k < xs.length), w.cell? ⟨b, o + k, none⟩ = some (.string xs[k])) := hx
  have ABS : Hid (TAbs xs n nm R tb vx) := habs
  clear hx habs
  have hl0 : ((xs.length : Int) == 0) = false := by rw [beq_eq_false_iff_ne]; omega
  have hbyt : i.bytes * n ≤ 281474976710656 := by rw [hz2]; omega
  have hmax : n ≤ maxLen := by unfold maxLen; omega
  have hbyt2 : i.bytes * xs.length ≤ 281474976710656 := by rw [hz2]; omega
  have hmax2 : xs.length ≤ maxLen := by unfold maxLen; omega
  go_enter Tryd.func34, Tryd.ntmps34
  go_wp2_with fail
  refine hsort.mono ?_
  rintro e w1 ⟨vn, rfl, hvn, hb1⟩
  clear hsort
  have hlen : (Lh.sortT xs).length = xs.length := Lh.sortT_length xs
  obtain ⟨nb, no, nc, rfl, hn⟩ := strs1_pos hvn (by omega)
  rw [hlen]
  have HN : Hid (∀ k (h : k < (Lh.sortT xs).length), w1.cell? ⟨nb, no + k, none⟩ = some (.string (Lh.sortT xs)[k])) := hn
  have HLEN : Hid ((Lh.sortT xs).length = xs.length) := hlen
  clear hn hvn hlen
  go_wp2_with (at_make; refine wpList_make_full _ rfl _ _ 22 rfl w1.heap.size 3 i _ 1 Tryd.underlying22 hi hz0 hz1 _ _ _ _ n rfl rfl rfl rfl hbyt hmax (Nat.le_refl _) ?_)
  intro w2 hown hgrow
  have hb2 : Below w1.heap.size w1 w2 := below_grown hgrow (fun k h => by cases h)
  rw [made_ints2] at hown
  have hrow0 := IntRow.of_owns hown
  have hgb := hb1.size
  have hnb : nb < w1.heap.size := World.block_lt_of_cell? w1 ⟨nb, no + 0, none⟩ (HN.out 0 (by rw [HLEN.out]; exact h0))
  clear hown hgrow
  have HB1 : Hid (Below w.heap.size w w1) := hb1
  clear hb1
  obtain ⟨g, hgg⟩ : ∃ g, w1.heap.size = g := ⟨_, rfl⟩
  rw [hgg] at hrow0 hgb hnb hb2
  rw [hgg]
  clear hgg
  go_wp2_with fail
  go_loopw [7] (fun t W => Below g w1 W ∧ ∃ j : Nat, j ≤ n ∧ t = .int .i64 j ∧ ∃ ys : List Int, ys.length = n ∧ ys.take j = List.replicate j (-1) ∧ IntRow W g ys) (fun t _ => n - (intOf t).toNat)
  case atStart => exact ⟨hb2, 0, Nat.zero_le _, rfl, _, by simp, by simp, hrow0⟩
  case round =>
    obtain ⟨hbg, j, hj, rfl, ys, hlen, htake, hrow⟩ := hrel
    have HT : Hid (ys.take j = List.replicate j (-1)) := htake
    have HYL : Hid (ys.length = n) := hlen
    have HR : Hid (IntRow wr g ys) := hrow
    clear htake hrow0 hb2
    by_cases hlt : j < n
    · obtain ⟨x0, c0⟩ : ∃ x, wr.cell? ⟨g, j, none⟩ = some (.int .i64 x) := ⟨_, hrow.cell (k := j) (by omega)⟩
      have f0 := hrow.frozen j
      have hd : decide ((j : Int) < (n : Int)) = true := by simp; omega
      clear hrow hlen
      go_wp2_with fail
      go_roundw
      case rel =>
        refine ⟨hbg.setCell (Nat.le_refl _) _, j + 1, by omega, by go_num, ys.set j (-1), by simp [HYL.out], ?_, HR.out.set _ _⟩
        rw [take_set_snoc (by rw [HYL.out]; exact hlt), HT.out, List.replicate_succ']
      case measure => simp [intOf]; omega
    · have hd : decide ((j : Int) < (n : Int)) = false := by simp; omega
      have hfin : IntRow wr g (tb 0) := by
        have h1 := HT.out
        rw [List.take_of_length_le (by rw [HYL.out]; omega), show j = n by omega, ← ABS.out.tb0] at h1
        rw [← h1]
        exact hrow
      have HF : Hid (IntRow wr g (tb 0)) := hfin
      have hglt := hfin.lt
      clear hfin hrow hlen HT HYL HR
      go_wp2_with (at_make; refine wpList_make_full _ rfl _ _ 22 rfl wr.heap.size 3 i _ 1 Tryd.underlying22 hi hz0 hz1 _ _ _ _ xs.length rfl rfl rfl rfl hbyt2 hmax2 (Nat.le_refl _) ?_)
      intro w4 hown hgrow
      have hb4 : Below wr.heap.size wr w4 := below_grown hgrow (fun k h => by cases h)
      rw [made_ints2] at hown
      have hat0 := IntRow.of_owns hown
      have HO4 : Hid (IntRow w4 g (tb 0)) := HF.out.later hb4
      have HB4 : Hid (Below g w1 w4) := hbg.trans (hb4.mono (by omega))
      have hat1 : IntRow w4 wr.heap.size (castL (List.replicate xs.length 0)) := by simpa [castL] using hat0
      have HA4 : Hid (IntRow w4 wr.heap.size (castL (List.replicate xs.length 0))) := hat1
      clear hown hgrow hbg hb4 HF hat0 hat1
      generalize wr.heap.size = ga at *
      go_wp2_with fail
      go_loopw [9] (fun t W => Below g w1 W ∧ ∃ T : Nat, T ≤ n ∧ t = .int .i64 T ∧ IntRow W g (tb T) ∧ ∃ av : List Nat, av.length = xs.length ∧ IntRow W ga (castL av) ∧ ∀ k, k < xs.length → ∀ q, q < av.getD k 0 → 0 ≤ (tb T).getD (R k q) 0) (fun t _ => n - (intOf t).toNat)
      case atStart => exact ⟨HB4.out, 0, Nat.zero_le _, rfl, HO4.out, _, by simp, HA4.out, fun k hk q hq => absurd hq (by simp [List.getD, hk])⟩
      case round =>
        obtain ⟨hbg, T, hT, rfl, hout, av, hal, hat, hprop⟩ := hrel
        have HO : Hid (IntRow wr g (tb T)) := hout
        have HA : Hid (IntRow wr ga (castL av)) := hat
        have HAL : Hid (av.length = xs.length) := hal
        have HPR : Hid (∀ k, k < xs.length → ∀ q, q < av.getD k 0 → 0 ≤ (tb T).getD (R k q) 0) := hprop
        have HBG : Hid (Below g w1 wr) := hbg
        clear hout hal hprop HO4 HB4 HA4
        by_cases hTn : T < n
        · obtain ⟨p, hpn, hpp, htk, hfree, htab, htk'⟩ := ABS.out.find T _ hTn (HPR.out _ (Nat.mod_lt _ h0))
          have hmod : T % xs.length < xs.length := Nat.mod_lt _ h0
          have hks : T % xs.length < (Lh.sortT xs).length := by rw [HLEN.out]; exact hmod
          have cn : wr.cell? ⟨nb, no + T % xs.length, none⟩ = some (.string (nm (T % xs.length))) := by
            rw [hbg.cell (p := ⟨nb, no + T % xs.length, none⟩) hnb, ← ABS.out.name _ hks]
            exact HN.out _ hks
          have hkc : (T : Int) % (xs.length : Int) = ((T % xs.length : Nat) : Int) := by simp
          have hd : decide ((T : Int) < (n : Int)) = true := by simp; omega
          have hgga : g < ga := hglt
          have hgalt := hat.lt
          clear hat hks
          generalize hk0 : T % xs.length = k0 at *
          have HK0 : Hid (T % xs.length = k0) := hk0
          have HTK : Hid (∀ q, av.getD k0 0 ≤ q → q < p → 0 ≤ (tb T).getD (R k0 q) 0) := htk
          have HFR : Hid ((tb T).getD (R k0 p) 0 < 0) := hfree
          have HTAB : Hid (tb (T + 1) = (tb T).set (R k0 p) (vx k0 : Nat)) := htab
          have HTK' : Hid (∀ q, q < p → 0 ≤ (tb (T + 1)).getD (R k0 q) 0) := htk'
          clear hk0 htk hfree htab htk'
          have hki : (k0 : Int) < (xs.length : Int) := by omega
          have hrowc := ABS.out.row k0 hmod wr
          clear hbg
          go_wp2_with fail
          refine hrowc.mono ?_
          rintro e w6 ⟨rg, rc, rfl, hrg, hrcell, hb6⟩
          have HRC : Hid (∀ j, j < n → w6.cell? ⟨rg, j, none⟩ = some (.int .i64 (R k0 j : Nat))) := hrcell
          have HO6 : Hid (IntRow w6 g (tb T)) := HO.out.later hb6
          have HA6 : Hid (IntRow w6 ga (castL av)) := HA.out.later hb6
          have HB6 : Hid (Below g w1 w6) := HBG.out.trans (hb6.mono (Nat.le_trans (Nat.le_of_lt hgga) (Nat.le_of_lt hgalt)))
          have cn6 := below_cell hb6 cn
          have hrga : rg ≠ ga := by omega
          clear hrcell hrowc hb6 cn HO HA HBG
          go_wp2_with fail
          try rw [hkc]
          clear hkc
          have HSS : Hid (IntRow w6 ga (castL (av.set k0 (av.getD k0 0)))) := by rw [set_self av k0 (by rw [HAL.out]; exact hmod)]; exact HA6.out
          go_loopw [] (fun W => Two ga ga w6 W ∧ ∃ q : Nat, av.getD k0 0 ≤ q ∧ q ≤ p ∧ IntRow W ga (castL (av.set k0 q))) (fun W => n - nextA W ga k0)
          case atStart => exact ⟨Two.refl _ _ _, _, Nat.le_refl _, hpp, HSS.out⟩
          case round =>
            obtain ⟨h2w, q, hq0, hqp, hat⟩ := hrel
            have H2W : Hid (Two ga ga w6 wr) := h2w
            have HAT : Hid (IntRow wr ga (castL (av.set k0 q))) := hat
            have hkl : ∀ q, k0 < (castL (av.set k0 q)).length := fun q => by rw [castL_length]; simp [HAL.out]; exact hmod
            have HKL : Hid (∀ q, k0 < (castL (av.set k0 q)).length) := hkl
            have ca := hat.cell (hkl q)
            rw [castL_set_at] at ca
            have fa := hat.frozen k0
            have cr : wr.cell? ⟨rg, q, none⟩ = some (.int .i64 (R k0 q : Nat)) := by
              rw [World.cell?_of_block (w := w6) (h2w.block rg hrga hrga)]
              exact HRC.out q (by omega)
            have hxn := ABS.out.lt k0 q
            have hog : IntRow wr g (tb T) := HO6.out.same (h2w.block g (by omega) (by omega))
            have HOG : Hid (IntRow wr g (tb T)) := hog
            have co : wr.cell? ⟨g, R k0 q, none⟩ = some (.int .i64 ((tb T).getD (R k0 q) 0)) := by
              rw [hog.cell (by rw [ABS.out.len]; exact hxn), getD_at (by rw [ABS.out.len]; exact hxn)]
            have fo := hog.frozen (R k0 q)
            have HNX : Hid (nextA wr ga k0 = q) := nextA_at ca
            have cn7 : wr.cell? ⟨nb, no + k0, none⟩ = some (.string (nm k0)) := by
              rw [World.cell?_of_block (w := w6) (h2w.block nb (by omega) (by omega))]
              exact cn6
            have hbW : Below g w1 wr := h2w.below HB6.out (by omega) (by omega)
            have HBW : Hid (Below g w1 wr) := hbW
            have HIX : Hid (∀ W : World, W.heap = wr.heap → Calls Tryd.prog 52 #[.slice (some ⟨b, o, none⟩) xs.length c, .string (nm k0)] W fun e w' => e = .returned (.int .i64 (vx k0 : Nat)) ∧ w' = W) := fun W hW => ABS.out.index b o c k0 hmod W (fun j h => by
              have h1 := below_cell (HB1.out.trans (hbW.mono hgb)) (HX.out j h)
              rw [World.cell?_of_block (w := wr) (by rw [hW])]
              exact h1)
            clear hog hat h2w hkl hbW
            have hqi : (q : Int) < (n : Int) := by omega
            have hxi : (R k0 q : Int) < (n : Int) := by omega
            by_cases hqq : q < p
            · have hv := HTK.out q hq0 hqq
              generalize (tb T).getD (R k0 q) 0 = val at *
              generalize R k0 q = x at *
              have hge : decide (0 ≤ val) = true := by simpa using hv
              clear HIX
              go_wp2_with fail
              have hcast : (q : Int) + 1 = ((q + 1 : Nat) : Int) := rfl
              rw [hcast]
              have hst := HAT.out.set k0 ((q + 1 : Nat) : Int)
              rw [castL_set, set_set_nat] at hst
              refine ⟨⟨H2W.out.setX k0 _, q + 1, by omega, by omega, hst⟩, ?_⟩
              have ca' := hst.cell (HKL.out _)
              rw [castL_set_at] at ca'
              rw [nextA_at ca', HNX.out]
              omega
            · have hqe : q = p := by omega
              subst hqe
              have hv := HFR.out
              generalize (tb T).getD (R k0 q) 0 = val at *
              generalize R k0 q = x at *
              have hge : decide (0 ≤ val) = false := by simp; omega
              clear hv
              go_wp2_with fail
              go_region_with (go_at_call 52; refine (HIX.out wr.drew rfl).mono ?_; rintro e w' ⟨rfl, rfl⟩)
              all_goals
                go_wp2_with fail
                refine ⟨⟨(HBW.out.setCell (Nat.le_refl _) _).drew, T + 1, by omega, by go_num, ?_, av.set k0 q, by simp [HAL.out], ?_, fun k hk q' hq' => ?_⟩, by simp [intOf]; omega⟩
                · rw [HTAB.out]
                  exact HOG.out.set x _
                · exact HAT.out.same (heap_setCell_other wr ⟨g, x, none⟩ ga _ (Nat.ne_of_gt hgga))
                · rw [getD_set _ _ _ _ (by rw [HAL.out]; exact hmod)] at hq'
                  by_cases e : k = k0
                  · rw [if_pos e] at hq'
                    rw [e]
                    exact HTK'.out q' hq'
                  · rw [if_neg e] at hq'
                    exact ABS.out.keeps T _ (HPR.out k hk q' hq')
        · have hd : decide ((T : Int) < (n : Int)) = false := by simp; omega
          have hTe : T = n := by omega
          have HFO : Hid (IntRow wr g (tb n)) := by rw [← hTe]; exact HO.out
          have HFB : Hid (Below w.heap.size w wr) := HB1.out.trans (hbg.mono hgb)
          clear hbg hat
          go_wp2
          go_ret
          exact ⟨g, rfl, hgb, HFO.out, HFB.out⟩
/-- TableOf of right hosts. -/
theorem tableOf_any (b o c : Nat) (xs : List ByteArray) (n : Nat) (w : World) (hx : ∀ k (h : k < xs.length), w.cell? ⟨b, o + k, none⟩ = some (.string xs[k])) (h0 : 0 < xs.length) (h12 : xs.length ≤ 12) (hsz : ∀ k (h : k < xs.length), (xs[k]).size ≤ 300) (hcap : xs.length ≤ c) (hp : Lh.Prm n) (h5 : n ≤ 503) :
    Calls Tryd.prog 34 #[.slice (some ⟨b, o, none⟩) xs.length c, .int .i64 n] w fun e w' => ∃ g, e = .returned (.slice (some ⟨g, 0, none⟩) n n) ∧ w.heap.size ≤ g ∧ IntRow w' g (Lh.tab xs n n) ∧ Below w.heap.size w w' := by
  refine tableOf_core b o c xs n (Lh.nameAt (Lh.sortT xs)) (Lh.rowsN (Lh.sortT xs) n) (Lh.tab xs n) (fun k => Lh.ix xs (Lh.nameAt (Lh.sortT xs) k)) ?_ w hx h0 h12 hcap hp.1 h5
  refine ⟨rfl, fun T => Lh.tab_length _ _ _, fun k q => Lh.rowAt_lt hp.1, fun T x h => Lh.tab_keeps hp h0 h, fun T p0 hT h => turn_find hp h0 hT h, fun k hk W => ?_, fun k h => (Lh.nameAt_lt h).symm, fun b o c k hk W hW => refIx_core b o c xs _ (Lh.nameAt_mem hk) W hW (by omega)⟩
  refine rowOf_at (Lh.nameAt (Lh.sortT xs) k) n W ?_ hp.1 h5
  rw [← Lh.ix_at (Lh.nameAt_mem hk)]
  exact hsz _ _
end Go.Proofs.YtedbhahkldfmiaaDoor
