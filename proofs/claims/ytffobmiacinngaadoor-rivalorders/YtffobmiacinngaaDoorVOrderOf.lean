/- The reference's OrderOf: the walk. -/
import Derived.Test.YtffobmiacinngaaDoorVRef
namespace Go.Proofs.YtffobmiacinngaaDoor
open Go.RowKit Go.Sort

theorem owns_cells {w : World} {base n g cap : Nat} {e : TypeId} {xs : List ByteArray} (h : w.ownsRow base e 1 (.slice (some ⟨g, 0, none⟩) n cap) n (xs.map Value.string)) : ∀ k (h : k < xs.length), w.cell? ⟨g, k, none⟩ = some (.string xs[k]) := by
  intro k hk
  have hl : xs.length = n := by simpa using h.1
  rw [h.cellAt k (by omega)]
  simp [hk]
theorem owns_mono {w : World} {base base' n : Nat} {e : TypeId} {v : Value} {xs : List Value} (h : w.ownsRow base e 1 v n xs) (hb : base' ≤ base) : w.ownsRow base' e 1 v n xs := by
  obtain ⟨h1, h2 | ⟨g, cap, cur, e1, e2, e3⟩⟩ := h
  · exact ⟨h1, Or.inl h2⟩
  · exact ⟨h1, Or.inr ⟨g, cap, cur, e1, by omega, e3⟩⟩

set_option maxRecDepth 100000 in
set_option maxHeartbeats 4000000 in
theorem orderOf_core (f : ByteArray → Nat) (b o c : Nat) (xs : List ByteArray) (z : Nat) (w : World) (hx : ∀ k (h : k < xs.length), w.cell? ⟨b, o + k, none⟩ = some (.string xs[k])) (hm : xs.length < 1000000)
    (hsc : ∀ s ∈ xs, ∀ W, Calls Tryd.prog 60 #[.string s, .int .u64 (z : Nat)] W fun e w' => e = .returned (.int .u64 (f s : Nat)) ∧ w' = W) :
    Calls Tryd.prog 58 #[.slice (some ⟨b, o, none⟩) xs.length c, .int .u64 (z : Nat)] w fun e w' => ∃ v', e = .returned v' ∧ Strs1 w' v' (Lh.order f xs) ∧ Below w.heap.size w w' := by
  obtain ⟨i, hi, hz0, hz1, hz2⟩ := info_parts infoS
  have HX : Hid (∀ k (h : k < xs.length), w.cell? ⟨b, o + k, none⟩ = some (.string xs[k])) := hx
  have HSC : Hid (∀ s ∈ xs, ∀ W, Calls Tryd.prog 60 #[.string s, .int .u64 (z : Nat)] W fun e w' => e = .returned (.int .u64 (f s : Nat)) ∧ w' = W) := hsc
  clear hx hsc
  go_enter Tryd.func58, Tryd.ntmps58
  go_wp2
  go_loopw [5, 6] (fun vo t W => Below w.heap.size w W ∧ ∃ (n : Nat) (ys : List ByteArray), n ≤ xs.length ∧ t = .int .i64 n ∧ W.ownsRow w.heap.size 9 1 vo n (ys.map Value.string) ∧ ys.Pairwise (Lh.leR f) ∧ ys.Perm (xs.take n)) (fun _ t _ => xs.length - (intOf t).toNat)
  case atStart => exact ⟨Below.refl _ _, 0, [], Nat.zero_le _, rfl, owns_nil _ _ _, List.Pairwise.nil, by simp⟩
  case round =>
    obtain ⟨hb, n, ys, hn, rfl, hown, hsort, hperm⟩ := hrel
    have HSO : Hid (ys.Pairwise (Lh.leR f)) := hsort
    have HPE : Hid (ys.Perm (xs.take n)) := hperm
    have HMEM : Hid (∀ s ∈ ys, s ∈ xs) := fun s hs => List.mem_of_mem_take (hperm.mem_iff.1 hs)
    clear hsort hperm
    have hyl : ys.length = n := by simpa using hown.1
    by_cases hlt : n < xs.length
    · have cx := below_cell hb (HX.out n hlt)
      have hsx := HSC.out xs[n] (List.getElem_mem hlt)
      generalize hxn : xs[n] = x at *
      have HXN : Hid (xs[n] = x) := hxn
      clear hxn
      obtain ⟨hl, ⟨rfl, rfl⟩ | ⟨g, cap, cur, rfl, hbase, hbk, hn', hcm, hsz, ht⟩⟩ := hown
      · obtain rfl : ys = [] := by simpa using hl
        rw [Nat.add_zero] at cx
        go_wp2_with fail
        refine (hsx _).mono ?_
        rintro e w1 ⟨rfl, rfl⟩
        clear hsx
        go_wp2_with fail
        refine wp_loop_rounds 1 ?_
        rw [rounds_succ]
        have hbs : ∀ q, w.heap.size ≤ (w1.alloc q).heap.size := fun q => by
          have h1 : (w1.alloc q).heap.size = w1.heap.size + 1 := by simp
          have := hb.size
          omega
        have hnew := cell_one_new w1 (.string x) 9
        have hmx : 0 + 1 ≤ maxLen := by unfold maxLen; omega
        have tok1 : True := trivial
        have tok2 : True := trivial
        have tok3 : True := trivial
        go_wp2_with (first | (at_builtin; have _t := tok1; refine wpList_append_own_none rfl _ _ 35 rfl w.heap.size 9 i 1 Tryd.underlying35 hi (.slice none 0 0) 0 _ rfl (owns_nil _ _ _) rfl ?_; clear tok1 _t) | (at_builtin; have _t := tok2; refine wpList_append_own _ rfl _ _ 35 rfl w.heap.size 9 i _ 1 16 Tryd.underlying35 hi hz0 hz1 hz2 rfl (by decide) (.slice none 0 0) 0 _ rfl (owns_nil _ _ _) ⟨w1.heap.size, 0, none⟩ 1 1 [.string x] rfl rfl hnew (strs_oneCell [x]) hmx (by omega) (hbs _) ?_; intro v2 w2 hown2 hg2 hnil2; clear tok2 _t) | (at_builtin; have _t := tok3; refine wpList_append_own_none rfl _ _ 35 rfl w.heap.size 9 i 1 Tryd.underlying35 hi v2 (0 + 1) _ rfl hown2 rfl ?_; clear tok3 _t))
        have hb2 : Below w.heap.size w w2 := (hb.alloc hb.size _).grown hg2 (hbs _) (fun k h => by cases h)
        refine ⟨⟨hb2, 1, [x], by omega, rfl, by simpa using hown2, List.pairwise_singleton _ _, ?_⟩, by simp [intOf]; omega⟩
        have := Lh.insR_perm (ys := []) (k := 0) hlt HPE.out
        rw [HXN.out] at this
        simpa using this
      · have hcy := fun k (h : k < ys.length) => owns_cells (w := wr) (base := w.heap.size) (e := 9) (n := n) (g := g) (cap := cap) (xs := ys) ⟨hl, Or.inr ⟨g, cap, cur, rfl, hbase, hbk, hn', hcm, hsz, ht⟩⟩ k h
        have HCY : Hid (∀ k (h : k < ys.length), wr.cell? ⟨g, k, none⟩ = some (.string ys[k])) := hcy
        have HYL : Hid (ys.length = n) := hyl
        clear hcy hyl hl hsz ht hbk
        unfold maxLen at hcm
        go_wp2_with fail
        refine (hsx _).mono ?_
        rintro e w1 ⟨rfl, rfl⟩
        clear hsx
        generalize w1 = W0 at *
        generalize hfx : f x = fx at *
        have HFX : Hid (f x = fx) := hfx
        clear hfx
        go_wp2_with fail
        go_loopw [7] (fun t W => Below W0.heap.size W0 W ∧ ∃ k : Nat, k ≤ n ∧ t = .int .i64 k ∧ ∀ j (h : j < ys.length), j < k → Lh.leR f ys[j] x) (fun t _ => n - (intOf t).toNat)
        case atStart => exact ⟨Below.refl _ _, 0, Nat.zero_le _, rfl, fun j _ h => absurd h (by omega)⟩
        case round =>
          obtain ⟨hbr, k, hk, rfl, hlo⟩ := hrel
          have HLO : Hid (∀ j (h : j < ys.length), j < k → Lh.leR f ys[j] x) := hlo
          clear hlo
          have cxr := below_cell hbr cx
          by_cases hkn : k < n
          · have hky : k < ys.length := by have := HYL.out; omega
            have cyr := below_cell hbr (HCY.out k hky)
            have hd : decide ((k : Int) < (n : Int)) = true := by simp; omega
            have hi1 : (k : Int) < (n : Int) := by omega
            have hi2 : (n : Int) < (xs.length : Int) := by omega
            have hsy := HSC.out ys[k] (HMEM.out _ (List.getElem_mem hky))
            generalize hyk : ys[k] = yk at *
            have HYK : Hid (ys[k] = yk) := hyk
            clear hyk
            have HCASE : Hid ((f yk < fx) ∨ (fx = f yk ∧ Op.bytesLess x.toList yk.toList = true) ∨ (fx = f yk ∧ Op.bytesLess x.toList yk.toList = false) ∨ fx < f yk) := by
              rcases Nat.lt_trichotomy fx (f yk) with h | h | h
              · exact Or.inr (Or.inr (Or.inr h))
              · cases hq : Op.bytesLess x.toList yk.toList with
                | true => exact Or.inr (Or.inl ⟨h, rfl⟩)
                | false => exact Or.inr (Or.inr (Or.inl ⟨h, rfl⟩))
              · exact Or.inl h
            go_wp2_with fail
            refine (hsy _).mono ?_
            rintro e w1 ⟨rfl, rfl⟩
            clear hsy
            generalize hfy : f yk = fy at *
            have HFY : Hid (f yk = fy) := hfy
            clear hfy
            rcases HCASE.out with h1 | ⟨h1, hless⟩ | ⟨h1, hless⟩ | h1
            · have HHI : Hid (∀ h : k < ys.length, Lh.leR f x ys[k]) := fun h => by rw [HYK.out]; exact Lh.leR_more (by rw [HFX.out, HFY.out]; exact h1)
              have g1 : decide (fy < fx) = true := by simpa using h1
              clear h1 HCASE
              go_wp2_with fail
              go_quiet (fail)
              have hbq : Below W0.heap.size W0 (w1.drewN nq) := below_drewN hbr nq
              have hsq : W0.heap.size ≤ (w1.drewN nq).heap.size := hbq.size
              have hs1 : ∀ j u, ((ys.take k).map Value.string)[j]? = some u → (w1.drewN nq).cell? ((⟨g, 0, none⟩ : Addr).add j) = some u := cells_strs (fun j hj => by
                have hj' : j < ys.length := by simp at hj; omega
                have := below_cell hbq (HCY.out j hj')
                rw [Nat.zero_add, this]; simp)
              have hlt1 : ((ys.take k).map Value.string).length = k * 1 := by have := HYL.out; simp; omega
              have hs3 : ∀ W, Below W0.heap.size W0 W → ∀ j u, ((ys.drop k).map Value.string)[j]? = some u → W.cell? ((⟨g, k, none⟩ : Addr).add j) = some u := fun W hW => cells_strs (fun j hj => by
                have hj' : k + j < ys.length := by simp at hj; omega
                have := below_cell hW (HCY.out (k + j) hj')
                rw [this]; simp)
              have hlt3 : ((ys.drop k).map Value.string).length = (n - k) * 1 := by have := HYL.out; simp; omega
              have hm1 : 0 + k ≤ maxLen := by unfold maxLen; omega
              have hm2 : 0 + k + 1 ≤ maxLen := by unfold maxLen; omega
              have hm3 : 0 + k + 1 + (n - k) ≤ maxLen := by unfold maxLen; omega
              have HHS : Hid _ := hs3
              clear hs3
              have tok1 : True := trivial
              have tok2 : True := trivial
              have tok3 : True := trivial
              go_wp2_with (first | (at_builtin; have _t := tok1; refine wpList_append_own _ rfl _ _ 35 rfl W0.heap.size 9 i _ 1 16 Tryd.underlying35 hi hz0 hz1 hz2 rfl (by decide) (.slice none 0 0) 0 _ rfl (owns_nil _ _ _) ⟨g, 0, none⟩ k cap ((ys.take k).map Value.string) rfl hlt1 hs1 (strs_oneCell _) hm1 (by omega) hsq ?_; intro v1 w1 hown1 hg1 hnil1; have hb1 : Below W0.heap.size W0 w1 := hbq.grown hg1 hsq (fun k h => by cases h); have cx1 := below_cell hb1 cx; clear tok1 _t hnil1) | (at_builtin; have _t := tok2; refine wpList_append_own _ rfl _ _ 35 rfl W0.heap.size 9 i _ 1 16 Tryd.underlying35 hi hz0 hz1 hz2 rfl (by decide) v1 (0 + k) _ rfl (hown1.alloc _) ⟨w1.heap.size, 0, none⟩ 1 1 [.string x] rfl rfl (cell_one_new w1 (.string x) 9) (strs_oneCell [x]) hm2 (by omega) (Nat.le_trans hb1.size (by simp)) ?_; intro v2 w2 hown2 hg2 hnil2; have hb2 : Below W0.heap.size W0 w2 := (hb1.alloc hb1.size _).grown hg2 (Nat.le_trans hb1.size (by simp)) (fun k h => (hown1.lt k h).1); clear tok2 _t hnil2) | (at_builtin; have _t := tok3; refine wpList_append_own _ rfl _ _ 35 rfl W0.heap.size 9 i _ 1 16 Tryd.underlying35 hi hz0 hz1 hz2 rfl (by decide) v2 (0 + k + 1) _ rfl hown2 ⟨g, k, none⟩ (n - k) (cap - k) ((ys.drop k).map Value.string) rfl hlt3 (HHS.out _ hb2) (strs_oneCell _) hm3 (by omega) hb2.size ?_; intro v3 w3 hown3 hg3 hnil3; clear tok3 _t hnil3))
              have hb3 : Below W0.heap.size W0 w3 := hb2.grown hg3 hb2.size (fun k h => (hown2.lt k h).1)
              refine ⟨⟨hb.trans (hb3.mono hb.size), n + 1, ys.take k ++ x :: ys.drop k, by omega, by go_num, ?_, Lh.insR_sorted HSO.out HLO.out HHI.out, ?_⟩, by simp [intOf]; omega⟩
              · have h3 := owns_mono hown3 hb.size
                rw [show 0 + k + 1 + (n - k) = n + 1 by omega] at h3
                simpa using h3
              · have := Lh.insR_perm (k := k) hlt HPE.out
                rwa [HXN.out] at this
            · have HHI : Hid (∀ h : k < ys.length, Lh.leR f x ys[k]) := fun h => by rw [HYK.out]; exact Lh.leR_same (by rw [HFX.out, HFY.out]; exact h1) hless
              have g1 : decide (fy < fx) = false := by simp; omega
              have g2 : ((fx : Int) == (fy : Int)) = true := by simp; omega
              have g3 : (fx == fy) = true := by simp; omega
              clear h1 HCASE
              go_wp2_with fail
              go_quiet (fail)
              have hbq : Below W0.heap.size W0 (w1.drewN nq) := below_drewN hbr nq
              have hsq : W0.heap.size ≤ (w1.drewN nq).heap.size := hbq.size
              have hs1 : ∀ j u, ((ys.take k).map Value.string)[j]? = some u → (w1.drewN nq).cell? ((⟨g, 0, none⟩ : Addr).add j) = some u := cells_strs (fun j hj => by
                have hj' : j < ys.length := by simp at hj; omega
                have := below_cell hbq (HCY.out j hj')
                rw [Nat.zero_add, this]; simp)
              have hlt1 : ((ys.take k).map Value.string).length = k * 1 := by have := HYL.out; simp; omega
              have hs3 : ∀ W, Below W0.heap.size W0 W → ∀ j u, ((ys.drop k).map Value.string)[j]? = some u → W.cell? ((⟨g, k, none⟩ : Addr).add j) = some u := fun W hW => cells_strs (fun j hj => by
                have hj' : k + j < ys.length := by simp at hj; omega
                have := below_cell hW (HCY.out (k + j) hj')
                rw [this]; simp)
              have hlt3 : ((ys.drop k).map Value.string).length = (n - k) * 1 := by have := HYL.out; simp; omega
              have hm1 : 0 + k ≤ maxLen := by unfold maxLen; omega
              have hm2 : 0 + k + 1 ≤ maxLen := by unfold maxLen; omega
              have hm3 : 0 + k + 1 + (n - k) ≤ maxLen := by unfold maxLen; omega
              have HHS : Hid _ := hs3
              clear hs3
              have tok1 : True := trivial
              have tok2 : True := trivial
              have tok3 : True := trivial
              go_wp2_with (first | (at_builtin; have _t := tok1; refine wpList_append_own _ rfl _ _ 35 rfl W0.heap.size 9 i _ 1 16 Tryd.underlying35 hi hz0 hz1 hz2 rfl (by decide) (.slice none 0 0) 0 _ rfl (owns_nil _ _ _) ⟨g, 0, none⟩ k cap ((ys.take k).map Value.string) rfl hlt1 hs1 (strs_oneCell _) hm1 (by omega) hsq ?_; intro v1 w1 hown1 hg1 hnil1; have hb1 : Below W0.heap.size W0 w1 := hbq.grown hg1 hsq (fun k h => by cases h); have cx1 := below_cell hb1 cx; clear tok1 _t hnil1) | (at_builtin; have _t := tok2; refine wpList_append_own _ rfl _ _ 35 rfl W0.heap.size 9 i _ 1 16 Tryd.underlying35 hi hz0 hz1 hz2 rfl (by decide) v1 (0 + k) _ rfl (hown1.alloc _) ⟨w1.heap.size, 0, none⟩ 1 1 [.string x] rfl rfl (cell_one_new w1 (.string x) 9) (strs_oneCell [x]) hm2 (by omega) (Nat.le_trans hb1.size (by simp)) ?_; intro v2 w2 hown2 hg2 hnil2; have hb2 : Below W0.heap.size W0 w2 := (hb1.alloc hb1.size _).grown hg2 (Nat.le_trans hb1.size (by simp)) (fun k h => (hown1.lt k h).1); clear tok2 _t hnil2) | (at_builtin; have _t := tok3; refine wpList_append_own _ rfl _ _ 35 rfl W0.heap.size 9 i _ 1 16 Tryd.underlying35 hi hz0 hz1 hz2 rfl (by decide) v2 (0 + k + 1) _ rfl hown2 ⟨g, k, none⟩ (n - k) (cap - k) ((ys.drop k).map Value.string) rfl hlt3 (HHS.out _ hb2) (strs_oneCell _) hm3 (by omega) hb2.size ?_; intro v3 w3 hown3 hg3 hnil3; clear tok3 _t hnil3))
              have hb3 : Below W0.heap.size W0 w3 := hb2.grown hg3 hb2.size (fun k h => (hown2.lt k h).1)
              refine ⟨⟨hb.trans (hb3.mono hb.size), n + 1, ys.take k ++ x :: ys.drop k, by omega, by go_num, ?_, Lh.insR_sorted HSO.out HLO.out HHI.out, ?_⟩, by simp [intOf]; omega⟩
              · have h3 := owns_mono hown3 hb.size
                rw [show 0 + k + 1 + (n - k) = n + 1 by omega] at h3
                simpa using h3
              · have := Lh.insR_perm (k := k) hlt HPE.out
                rwa [HXN.out] at this
            · have HLE : Hid (Lh.leR f yk x) := Lh.leR_same_not (by rw [HFX.out, HFY.out]; exact h1) hless
              have g1 : decide (fy < fx) = false := by simp; omega
              have g2 : ((fx : Int) == (fy : Int)) = true := by simp; omega
              have g3 : (fx == fy) = true := by simp; omega
              clear h1 HCASE
              go_wp2_with fail
              go_quiet (fail)
              go_wp2_with fail
              refine ⟨⟨below_drewN hbr _, k + 1, by omega, by go_num, fun j h hj => ?_⟩, by simp [intOf]; omega⟩
              by_cases e : j = k
              · subst e; rw [HYK.out]; exact HLE.out
              · exact HLO.out j h (by omega)
            · have HLE : Hid (Lh.leR f yk x) := Lh.leR_less (by rw [HFX.out, HFY.out]; exact h1)
              have g1 : decide (fy < fx) = false := by simp; omega
              have g2 : ((fx : Int) == (fy : Int)) = false := by rw [beq_eq_false_iff_ne]; omega
              have g3 : (fx == fy) = false := by rw [beq_eq_false_iff_ne]; omega
              clear h1 HCASE
              go_wp2_with fail
              go_quiet (fail)
              go_wp2_with fail
              refine ⟨⟨below_drewN hbr _, k + 1, by omega, by go_num, fun j h hj => ?_⟩, by simp [intOf]; omega⟩
              by_cases e : j = k
              · subst e; rw [HYK.out]; exact HLE.out
              · exact HLO.out j h (by omega)
          · have hkk : k = n := by omega
            subst hkk
            have HHI : Hid (∀ h : k < ys.length, Lh.leR f x ys[k]) := fun h => absurd h (by have := HYL.out; omega)
            have hd : decide ((k : Int) < (k : Int)) = false := by simp
            have hi2 : (k : Int) < (xs.length : Int) := by omega
            have hbq : Below W0.heap.size W0 wr := hbr
            have hsq : W0.heap.size ≤ wr.heap.size := hbq.size
            have hs1 : ∀ j u, ((ys.take k).map Value.string)[j]? = some u → wr.cell? ((⟨g, 0, none⟩ : Addr).add j) = some u := cells_strs (fun j hj => by
              have hj' : j < ys.length := by simp at hj; omega
              have := below_cell hbq (HCY.out j hj')
              rw [Nat.zero_add, this]; simp)
            have hlt1 : ((ys.take k).map Value.string).length = k * 1 := by have := HYL.out; simp; omega
            have hs3 : ∀ (W : World) (ad : Addr) j u, (([] : List ByteArray).map Value.string)[j]? = some u → W.cell? (ad.add j) = some u := fun W ad j u h => by simp at h
            have hm1 : 0 + k ≤ maxLen := by unfold maxLen; omega
            have hm2 : 0 + k + 1 ≤ maxLen := by unfold maxLen; omega
            have hm3 : 0 + k + 1 + 0 ≤ maxLen := by unfold maxLen; omega
            obtain ⟨ad, hif⟩ : ∃ ad : Addr, (if cap = k then (some ⟨g, 0, none⟩ : Option Addr) else some ⟨g, k, none⟩) = some ad := by
              by_cases h : cap = k
              · exact ⟨_, by rw [if_pos h]⟩
              · exact ⟨_, by rw [if_neg h]⟩
            have HHS : Hid _ := hs3
            clear hs3
            have tok1 : True := trivial
            have tok2 : True := trivial
            have tok3 : True := trivial
            go_wp2_with (first | (at_builtin; have _t := tok1; refine wpList_append_own _ rfl _ _ 35 rfl W0.heap.size 9 i _ 1 16 Tryd.underlying35 hi hz0 hz1 hz2 rfl (by decide) (.slice none 0 0) 0 _ rfl (owns_nil _ _ _) ⟨g, 0, none⟩ k cap ((ys.take k).map Value.string) rfl hlt1 hs1 (strs_oneCell _) hm1 (by omega) hsq ?_; intro v1 w1 hown1 hg1 hnil1; have hb1 : Below W0.heap.size W0 w1 := hbq.grown hg1 hsq (fun k h => by cases h); have cx1 := below_cell hb1 cx; clear tok1 _t hnil1) | (at_builtin; have _t := tok2; refine wpList_append_own _ rfl _ _ 35 rfl W0.heap.size 9 i _ 1 16 Tryd.underlying35 hi hz0 hz1 hz2 rfl (by decide) v1 (0 + k) _ rfl (hown1.alloc _) ⟨w1.heap.size, 0, none⟩ 1 1 [.string x] rfl rfl (cell_one_new w1 (.string x) 9) (strs_oneCell [x]) hm2 (by omega) (Nat.le_trans hb1.size (by simp)) ?_; intro v2 w2 hown2 hg2 hnil2; have hb2 : Below W0.heap.size W0 w2 := (hb1.alloc hb1.size _).grown hg2 (Nat.le_trans hb1.size (by simp)) (fun k h => (hown1.lt k h).1); clear tok2 _t hnil2) | (at_builtin; have _t := tok3; refine wpList_append_own _ rfl _ _ 35 rfl W0.heap.size 9 i _ 1 16 Tryd.underlying35 hi hz0 hz1 hz2 rfl (by decide) v2 (0 + k + 1) _ rfl hown2 ad 0 (cap - k) (([] : List ByteArray).map Value.string) rfl rfl (HHS.out _ _) (strs_oneCell _) hm3 (by omega) hb2.size ?_; intro v3 w3 hown3 hg3 hnil3; clear tok3 _t hnil3))
            have hb3 : Below W0.heap.size W0 w3 := hb2.grown hg3 hb2.size (fun k h => (hown2.lt k h).1)
            refine ⟨⟨hb.trans (hb3.mono hb.size), k + 1, ys.take k ++ x :: ys.drop k, by omega, by go_num, ?_, Lh.insR_sorted HSO.out HLO.out HHI.out, ?_⟩, by simp [intOf]; omega⟩
            · have h3 := owns_mono hown3 hb.size
              rw [show 0 + k + 1 + 0 = k + 1 by omega] at h3
              have hdr : ys.drop k = [] := List.drop_of_length_le (by have := HYL.out; omega)
              rw [hdr]
              simpa using h3
            · have := Lh.insR_perm (k := k) hlt HPE.out
              rwa [HXN.out] at this
    · have hfull : xs.take n = xs := List.take_of_length_le (by omega)
      have hperm := HPE.out
      rw [hfull] at hperm
      have hfin := Lh.order_unique HSO.out hperm
      have hst := strs_of_owns hown
      rw [hfin] at hst
      have HST : Hid _ := hst
      clear hst hfin hperm hfull hown hyl
      go_wp2
      go_ret
      exact ⟨_, rfl, HST.out, hb⟩
end Go.Proofs.YtffobmiacinngaaDoor
