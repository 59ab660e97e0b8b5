/- The landed check and checkFlow. -/
import Derived.Test.YtmdckddenelneaaGreatDoorM31
import Derived.Test.YtmdckddenelneaaGreatDoorM9
import Derived.Test.YtmdckddenelneaaGreatDoorM3
import Derived.Test.YtmdckddenelneaaGreatDoorM26
namespace Go.Proofs.YtmdckddenelneaaGreatDoor
open Go.RowKit Go.Maps Go.ChangeMaps
set_option maxHeartbeats 2000000 in
/-- mix.Check of one name. -/
theorem checkOne_any {a : Nat → Addr} (b : Nat) (s : ByteArray) (w : World) (he : EC a w) (hx : w.cell? ⟨b, 0, none⟩ = some (.string s)) (hs : s.size ≤ 1000000) :
    Calls Tryz.prog 67 #[.slice (some ⟨b, 0, none⟩) 1 1] w fun e w' => Below w.heap.size w w' ∧ ((Lh.isNm s = true ∧ e = .returned .nilIface) ∨ (Lh.isNm s = false ∧ ∃ t p, e = .returned (.iface t p))) := by
  have s3 := he.s3
  clear he
  go_enter Tryz.func67, Tryz.ntmps67
  go_wp2
  go_loopw [11] (fun t W => W = w ∧ ∃ k : Nat, k ≤ 1 ∧ t = .int .i64 k ∧ (k = 1 → Lh.isNm s = true)) (fun t _ => 1 - (intOf t).toNat)
  case atStart => exact ⟨rfl, 0, Nat.zero_le _, rfl, fun h => by cases h⟩
  case round =>
    obtain ⟨rfl, k, hk, rfl, hpre⟩ := hrel
    have HP : Hid (k = 1 → Lh.isNm s = true) := hpre
    clear hpre
    by_cases hlt : k < 1
    · obtain rfl : k = 0 := by omega
      cases hn : Lh.isNm s with
      | false =>
        have HN : Hid (Lh.isNm s = false) := hn
        clear hn
        go_wp2_with fail
        refine (isName_any _ _ hs).mono ?_
        rintro e w1 ⟨rfl, rfl⟩
        rw [HN.out]
        go_wp2
        go_ret
        exact ⟨(Below.refl _ _).alloc (Nat.le_refl _) _, Or.inr ⟨HN.out, _, _, rfl⟩⟩
      | true =>
        have HN : Hid (Lh.isNm s = true) := hn
        clear hn
        go_wp2_with fail
        refine (isName_any _ _ hs).mono ?_
        rintro e w1 ⟨rfl, rfl⟩
        rw [HN.out]
        go_wp2_with fail
        refine (contains_any _ ([] : List ByteArray) _ _ (Or.inl ⟨rfl, _, _, rfl⟩) (by simp)).mono ?_
        rintro e w2 ⟨rfl, rfl⟩
        go_wp2
        refine ⟨⟨by trivial, 1, by omega, by go_num, by first | trivial | exact fun _ => HN.out⟩, by simp [intOf]⟩
    · have hk1 : k = 1 := by omega
      have HN : Hid (Lh.isNm s = true) := HP.out hk1
      subst hk1
      go_wp2
      go_ret
      exact ⟨Below.refl _ _, Or.inl ⟨HN.out, rfl⟩⟩
/-- a map from keys to numbers, of which only the keys matter -/
def KeyM (W : World) (b n : Nat) (ks : List Nat) : Prop := ∃ D : DataW Unit, W.ownsMap Tryz.prog 27 (plainElem Tryz.prog 3) b n D ∧ IsMap D ∧ ∀ z : Nat, has D (.int .u64 (z : Nat)) = decide (z ∈ ks)
theorem KeyM.lt {W : World} {b n : Nat} {ks : List Nat} (h : KeyM W b n ks) : b < W.heap.size := by
  obtain ⟨D, h, _⟩ := h
  exact h.lt
theorem KeyM.same {W W' : World} {b n : Nat} {ks : List Nat} (h : KeyM W b n ks) (he : W'.heap[b]? = W.heap[b]?) : KeyM W' b n ks := by
  obtain ⟨D, h1, h2⟩ := h
  exact ⟨D, ownsMap_later h1 he, h2⟩
theorem KeyM.later {W W' : World} {b n : Nat} {ks : List Nat} (h : KeyM W b n ks) (hb : Below W.heap.size W W') : KeyM W' b n ks := h.same (hb.block b h.lt)
theorem KeyM.made (w : World) : KeyM (w.alloc (.map #[] 0)) w.heap.size 0 [] := ⟨_, World.ownsMap_made w _ _ _, isMap_empty, fun _ => by simp [has]⟩
theorem has_putK {D : DataW Unit} {ks : List Nat} (hm : IsMap D) (h : ∀ z : Nat, has D (.int .u64 (z : Nat)) = decide (z ∈ ks)) (x : Nat) (v : DataW Unit) : IsMap (D.put (.int .u64 (x : Nat)) v) ∧ ∀ z : Nat, has (D.put (.int .u64 (x : Nat)) v) (.int .u64 (z : Nat)) = decide (z ∈ ks ++ [x]) := by
  refine ⟨hm.put _ _, fun z => ?_⟩
  by_cases e : z = x
  · subst e
    rw [has_put_same (k := .int .u64 _) hm (by simp [WideAt.IsKeyLit])]
    simp
  · have hne : Lit.int .u64 (z : Nat) ≠ Lit.int .u64 (x : Nat) := by
      intro e2
      simp only [Lit.int.injEq, true_and] at e2
      omega
    rw [has_put_other hne, h z]
    simp [e]

def flV (x : Lh.Fl) : Value := .agg #[.int .u64 (x.1 : Nat), .string x.2.1, .int .i64 x.2.2]
set_option maxRecDepth 100000 in
set_option maxHeartbeats 2000000 in
theorem checkFlow_any {a : Nat → Addr} (x : Lh.Fl) (mb n : Nat) (ks : List Nat) (w : World) (he : EC a w) (hk : KeyM w mb n ks) (hx : x.1 < 18446744073709551616) (hs : x.2.1.size ≤ 1000000) (hu : -9223372036854775808 ≤ x.2.2 ∧ x.2.2 ≤ 9223372036854775807) :
    Calls Tryz.prog 200 #[flV x, .map (some mb)] w fun e w' => Below w.heap.size w w' ∧
      ((Lh.isNm x.2.1 = false ∧ e = .returned (.iface 331 (.pointer (some (a 3))))) ∨
       (Lh.isNm x.2.1 = true ∧ (x.2.2 < 0 ∨ 1099511628776 < x.2.2) ∧ e = .returned (.iface 331 (.pointer (some (a 1))))) ∨
       (Lh.isNm x.2.1 = true ∧ 0 ≤ x.2.2 ∧ x.2.2 ≤ 1099511628776 ∧ x.1 ∈ ks ∧ e = .returned (.iface 331 (.pointer (some (a 5))))) ∨
       (Lh.isNm x.2.1 = true ∧ 0 ≤ x.2.2 ∧ x.2.2 ≤ 1099511628776 ∧ x.1 ∉ ks ∧ e = .returned .nilIface)) := by
  obtain ⟨k, s, u⟩ := x
  unfold flV
  have HE : Hid (EC a w) := he
  have HK : Hid (KeyM w mb n ks) := hk
  clear he hk
  dsimp only at *
  go_enter Tryz.func200, Tryz.ntmps200
  go_wp2_with fail
  have hb0 : Below w.heap.size w ((w.alloc (.cells #[.int .u64 (k : Nat), .string s, .int .i64 u] 82)).alloc (.cells #[.string s] 9)) := ((Below.refl _ _).alloc (Nat.le_refl _) _).alloc (by simp) _
  refine (checkOne_any (a := a) (w.heap.size + 1) s _ (HE.out.later hb0) (by simp) hs).mono ?_
  rintro e w1 ⟨hb1, hcase⟩
  have c0 : w1.cell? ⟨w.heap.size, 0, none⟩ = some (.int .u64 (k : Nat)) := below_cell hb1 (by simp)
  have c1 : w1.cell? ⟨w.heap.size, 1, none⟩ = some (.string s) := below_cell hb1 (by simp)
  have c2 : w1.cell? ⟨w.heap.size, 2, none⟩ = some (.int .i64 u) := below_cell hb1 (by simp)
  have hbw : Below w.heap.size w w1 := below_then hb0 hb1
  have s1 := (HE.out.later hbw).s1
  have s3 := (HE.out.later hbw).s3
  have s5 := (HE.out.later hbw).s5
  obtain ⟨D, hown, hmap, hhas⟩ := HK.out.later hbw
  have hhk := hhas k
  have hkey := fkeyU k hx
  have HB : Hid (Below w.heap.size w w1) := hbw
  clear hb0 hb1 hbw hhas hmap
  have tok1 : True := trivial
  rcases hcase with ⟨hn, rfl⟩ | ⟨hn, t, p, rfl⟩
  · have HN : Hid (Lh.isNm s = true) := hn
    clear hn
    by_cases hu0 : u < 0
    · clear hown hkey hhk
      go_wp2
      go_ret
      exact ⟨HB.out, Or.inr (Or.inl ⟨HN.out, Or.inl hu0, rfl⟩)⟩
    · by_cases hu1 : 1099511628776 < u
      · have d0 : decide (u < 0) = false := by simp; omega
        clear hown hkey hhk
        go_wp2
        go_ret
        exact ⟨HB.out, Or.inr (Or.inl ⟨HN.out, Or.inr hu1, rfl⟩)⟩
      · have d0 : decide (u < 0) = false := by simp; omega
        have d1 : decide (1099511628776 < u) = false := by simp; omega
        by_cases hm : k ∈ ks
        · have hT : has D (.int .u64 (k : Nat)) = true := by rw [hhk]; simpa using hm
          clear hhk
          go_wp2_with (at_lookup; clear tok1; refine wpList_lookup_own_ok_int _ rfl _ _ 280 rfl 27 3 .i64 (int_keyed Tryz.underlying27) Tryz.underlying280 Tryz.underlying3 (Tryz.zeroValue3 _) mb n D rfl hown _ _ rfl hkey ?_; intro cv hat hwc; rw [hT])
          go_ret
          exact ⟨HB.out, Or.inr (Or.inr (Or.inl ⟨HN.out, by omega, by omega, hm, rfl⟩))⟩
        · have hT : has D (.int .u64 (k : Nat)) = false := by rw [hhk]; simpa using hm
          clear hhk
          go_wp2_with (at_lookup; clear tok1; refine wpList_lookup_own_ok_int _ rfl _ _ 280 rfl 27 3 .i64 (int_keyed Tryz.underlying27) Tryz.underlying280 Tryz.underlying3 (Tryz.zeroValue3 _) mb n D rfl hown _ _ rfl hkey ?_; intro cv hat hwc; rw [hT])
          go_ret
          exact ⟨HB.out, Or.inr (Or.inr (Or.inr ⟨HN.out, by omega, by omega, hm, rfl⟩))⟩
  · have HN : Hid (Lh.isNm s = false) := hn
    clear hn hown hkey hhk
    go_wp2
    go_ret
    exact ⟨HB.out, Or.inl ⟨HN.out, rfl⟩⟩
set_option maxRecDepth 100000 in
set_option maxHeartbeats 2000000 in
/-- check: what the document finds wrong, or nothing. -/
theorem check_carry {a : Nat → Addr} (e : Int) (v : Value) (l : List Lh.Fl) (w : World) (he : EC a w) (hv : Flows1 w v l) (hl : l.length ≤ 20000) (hin : ∀ x ∈ l, x.1 < 18446744073709551616 ∧ x.2.1.size ≤ 1000000 ∧ -9223372036854775808 ≤ x.2.2 ∧ x.2.2 ≤ 9223372036854775807) :
    Calls Tryz.prog 182 #[.int .i64 e, v] w fun r w' => ∃ c pl ev, r = .returned ev ∧ CaF e l c pl ∧ ErrIs a w' c pl ev ∧ (c ≠ 0 → ev ≠ .nilIface) ∧ Below w.heap.size w w' := by
  obtain ⟨p, cp, rfl, hc⟩ := hv.cells
  have HC : Hid _ := hc
  have HE : Hid (EC a w) := he
  have HI : Hid (∀ x ∈ l, x.1 < 18446744073709551616 ∧ x.2.1.size ≤ 1000000 ∧ -9223372036854775808 ≤ x.2.2 ∧ x.2.2 ≤ 9223372036854775807) := hin
  have s1 := he.s1
  clear hc hv he hin
  go_enter Tryz.func182, Tryz.ntmps182
  by_cases h1 : e < 0
  · go_wp2
    go_ret
    exact ⟨2, -1, _, rfl, Or.inl ⟨Or.inl h1, rfl, rfl⟩, Or.inr ⟨1, by decide, rfl, Or.inl ⟨rfl, rfl⟩⟩, fun _ => by simp, Below.refl _ _⟩
  by_cases h2 : 1099511627776 < e
  · have d1 : decide (e < 0) = false := by simp; omega
    go_wp2
    go_ret
    exact ⟨2, -1, _, rfl, Or.inl ⟨Or.inr (Or.inl h2), rfl, rfl⟩, Or.inr ⟨1, by decide, rfl, Or.inl ⟨rfl, rfl⟩⟩, fun _ => by simp, Below.refl _ _⟩
  have d1 : decide (e < 0) = false := by simp; omega
  have d2 : decide (1099511627776 < e) = false := by simp; omega
  by_cases h3 : 200 < l.length
  · have d3 : (200 : Int) < (l.length : Int) := by omega
    go_wp2
    go_ret
    exact ⟨2, -1, _, rfl, Or.inl ⟨Or.inr (Or.inr h3), rfl, rfl⟩, Or.inr ⟨1, by decide, rfl, Or.inl ⟨rfl, rfl⟩⟩, fun _ => by simp, Below.refl _ _⟩
  have d3 : decide ((200 : Int) < (l.length : Int)) = false := by simp; omega
  have HH : Hid (0 ≤ e ∧ e ≤ 1099511627776 ∧ l.length ≤ 200) := ⟨by omega, by omega, by omega⟩
  have hmm : (Instr.makeMap 280 none).run Tryz.prog w = .ok (.map (some w.heap.size)) (w.alloc (.map #[] 0)) := by simp [Instr.makeMap]
  go_wp2_with fail
  go_loopw [24] (fun u24 W => Below w.heap.size w W ∧ ∃ i : Nat, i ≤ l.length ∧ u24 = .int .i64 (i : Nat) ∧ (∀ j, j < i → ∀ hj : j < l.length, GoodF l j hj) ∧ KeyM W w.heap.size i ((l.take i).map (·.1))) (fun u24 _ => l.length - (intOf u24).toNat)
  case atStart => exact ⟨(Below.refl _ _).alloc (Nat.le_refl _) _, 0, Nat.zero_le _, rfl, fun j h => absurd h (by omega), KeyM.made w⟩
  case round =>
    obtain ⟨hb, i, hi, rfl, hp, hkm⟩ := hrel
    have HP : Hid (∀ j, j < i → ∀ hj : j < l.length, GoodF l j hj) := hp
    have HKM : Hid (KeyM wr w.heap.size i ((l.take i).map (·.1))) := hkm
    clear hp hkm hmm
    by_cases hil : i < l.length
    · have hii : (i : Int) < (l.length : Int) := by omega
      obtain ⟨b, o, rfl, x0, x1, x2⟩ := HC.out i hil
      have x0' := below_cell hb x0
      have x1' := below_cell hb x1
      have x2' := below_cell hb x2
      have HX := HI.out _ (List.getElem_mem hil)
      clear x0 x1 x2
      go_wp2_with fail
      have hb0 := (Below.refl wr.heap.size wr).alloc (Nat.le_refl _) (.cells #[.int .u64 ((l[i]).1 : Nat), .string (l[i]).2.1, .int .i64 (l[i]).2.2] 82)
      refine (checkFlow_any (a := a) l[i] w.heap.size i ((l.take i).map (·.1)) _ (HE.out.later (below_then hb hb0)) (HKM.out.later hb0) HX.1 HX.2.1 HX.2.2).mono ?_
      rintro r w1 ⟨hb1, hcase⟩
      have c0 : w1.cell? ⟨wr.heap.size, 0, none⟩ = some (.int .u64 ((l[i]).1 : Nat)) := below_cell hb1 (by simp)
      have hbr1 := below_then hb0 hb1
      have hbw1 := below_then hb hbr1
      have HBW : Hid (Below w.heap.size w w1) := hbw1
      rcases hcase with ⟨g1, rfl⟩ | ⟨g1, g2, rfl⟩ | ⟨g1, g2, g3, g4, rfl⟩ | ⟨g1, g2, g3, g4, rfl⟩
      · have HF : Hid (CaF e l 4 i) := Or.inr (Or.inl ⟨HH.out, i, hil, HP.out, rfl, Or.inl ⟨g1, rfl⟩⟩)
        clear g1 hb0 hb1 hbr1 hbw1
        go_wp2
        go_ret
        exact ⟨4, i, _, rfl, HF.out, Or.inr ⟨3, by decide, rfl, Or.inr ⟨w1.heap.size, rfl, by simp, by simp⟩⟩, fun _ => by simp, HBW.out.alloc HBW.out.size _⟩
      · have HF : Hid (CaF e l 2 i) := Or.inr (Or.inl ⟨HH.out, i, hil, HP.out, rfl, Or.inr (Or.inl ⟨g1, g2, rfl⟩)⟩)
        clear g1 g2 hb0 hb1 hbr1 hbw1
        go_wp2
        go_ret
        exact ⟨2, i, _, rfl, HF.out, Or.inr ⟨1, by decide, rfl, Or.inr ⟨w1.heap.size, rfl, by simp, by simp⟩⟩, fun _ => by simp, HBW.out.alloc HBW.out.size _⟩
      · have HF : Hid (CaF e l 6 i) := Or.inr (Or.inl ⟨HH.out, i, hil, HP.out, rfl, Or.inr (Or.inr ⟨g1, g2, g3, by
          obtain ⟨y, hy, hye⟩ := List.mem_map.1 g4
          obtain ⟨j, hj, rfl⟩ := List.getElem_of_mem hy
          rw [List.length_take] at hj
          exact ⟨j, by omega, by omega, by rw [List.getElem_take] at hye; exact hye⟩, rfl⟩)⟩)
        clear g1 g2 g3 g4 hb0 hb1 hbr1 hbw1
        go_wp2
        go_ret
        exact ⟨6, i, _, rfl, HF.out, Or.inr ⟨5, by decide, rfl, Or.inr ⟨w1.heap.size, rfl, by simp, by simp⟩⟩, fun _ => by simp, HBW.out.alloc HBW.out.size _⟩
      · have HG : Hid (∀ j, j < i + 1 → ∀ hj : j < l.length, GoodF l j hj) := fun j hj hjl => by
          by_cases ej : j = i
          · subst ej
            exact ⟨g1, g2, g3, fun q hq hqi he => g4 (List.mem_map.2 ⟨l[q], List.mem_take_iff_getElem.2 ⟨q, by omega, rfl⟩, he⟩)⟩
          · exact HP.out j (by omega) hjl
        obtain ⟨D, hown, hmap, hhas⟩ := HKM.out.later hbr1
        have HPK : Hid (IsMap (D.put (.int .u64 ((l[i]).1 : Nat)) (.lit (.int .i64 (i : Nat)))) ∧ ∀ z : Nat, has (D.put (.int .u64 ((l[i]).1 : Nat)) (.lit (.int .i64 (i : Nat)))) (.int .u64 (z : Nat)) = decide (z ∈ (l.take (i + 1)).map (·.1))) := by
          have := has_putK hmap hhas (l[i]).1 (.lit (.int .i64 (i : Nat)))
          rw [List.take_succ_eq_append_getElem hil, List.map_append]
          exact this
        have hkey := fkeyU (l[i]).1 HX.1
        have hpl := plainElem_int (H := Unit) Tryz.underlying3 (wfI (n := i) (by omega))
        have hkl : i < maxLen := by unfold maxLen; omega
        clear g1 g2 g3 g4 hb0 hb1 hbr1 hmap hhas hbw1
        generalize (l[i]).1 = k at *
        go_wp2_with (at_mapUpdate; refine wpList_mapUpdate_own _ rfl _ _ _ 280 rfl 27 3 (int_keyed Tryz.underlying27) Tryz.underlying280 (plainElem Tryz.prog 3) w.heap.size i D rfl hown hkl _ _ (.int .u64 (k : Nat)) rfl rfl hkey (.lit (.int .i64 (i : Nat))) [] hpl ?_; intro w3 hown3 hgr3)
        go_roundw
        case rel =>
          exact ⟨HBW.out.grown hgr3 HBW.out.size (fun q h => by cases h; exact Nat.le_refl _), i + 1, by omega, by go_num, HG.out, _, hown3, HPK.out.1, HPK.out.2⟩
        case measure => simp [intOf]; omega
    · have hie : i = l.length := by omega
      have hii : decide ((i : Int) < (l.length : Int)) = false := by simp; omega
      have HF : Hid (CaF e l 0 (-1)) := Or.inr (Or.inr ⟨HH.out, fun j hj => HP.out j (by omega) hj, rfl, rfl⟩)
      clear hie
      go_wp2
      go_ret
      exact ⟨0, -1, _, rfl, HF.out, Or.inl ⟨rfl, rfl, rfl⟩, fun h => absurd rfl h, hb⟩
end Go.Proofs.YtmdckddenelneaaGreatDoor
