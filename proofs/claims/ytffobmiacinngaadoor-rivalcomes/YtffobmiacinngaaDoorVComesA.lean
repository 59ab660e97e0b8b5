/- RivalComes, the slice ends where it is turned. -/
import Derived.Test.YtffobmiacinngaaDoorVComes0
namespace Go.Proofs.YtffobmiacinngaaDoor
open Go.RowKit

set_option maxRecDepth 100000 in
set_option maxHeartbeats 4000000 in
theorem vcomes_coreA (a : Nat → Addr) (b o cap : Nat) (xs : List ByteArray) (s : ByteArray) (m k : Nat) (hk : k < 18446744073709551616) (w : World) (he : Errs4 a w) (hcap : xs.length ≤ cap) (hcm : cap ≤ maxLen) (hce : m = cap) (hx : ∀ k (h : k < xs.length), w.cell? ⟨b, o + k, none⟩ = some (.string xs[k])) (hs : Short xs)
    (h0 : 0 < xs.length) (hm : m ≤ xs.length) (hss : s.size ≤ 60) :
    Calls Tryd.prog 14 #[.slice (some ⟨b, o, none⟩) xs.length cap, .string s, .int .u64 (k : Nat), .int .i64 (m : Nat)] w fun e w' => e = .returned (.bool true) ∧ Below w.heap.size w w' := by
  obtain ⟨i, hi, hz0, hz1, hz2⟩ := info_parts infoS
  have hrg := rivals_any a w he
  have h30 := hs.1
  have e3 : decide (60 < (s.size : Int)) = false := by simp; omega
  have e4 : decide ((m : Int) < 0) = false := by simp
  have e5 : decide ((xs.length : Int) < (m : Int)) = false := by simp; omega
  have hlong : ∀ W, Below w.heap.size w W → Calls Tryd.prog 20 #[.slice (some ⟨b, o, none⟩) xs.length cap] W fun e w' => e = .returned (.int .i64 0) ∧ w' = W := fun W hW => long_short0 b o cap xs W (fun k h => below_cell hW (hx k h)) hs
  have HX : Hid (∀ k (h : k < xs.length), w.cell? ⟨b, o + k, none⟩ = some (.string xs[k])) := hx
  have HE : Hid (Errs4 a w) := he
  have HS : Hid (∀ k (h : k < xs.length), (xs[k]).size ≤ 60) := hs.2
  have HSS : Hid (∀ k (h : k < (xs ++ [s]).length), ((xs ++ [s])[k]).size ≤ 60) := size_snoc hs.2 hss
  have HKK : Hid (k < 18446744073709551616) := hk
  obtain ⟨c1, pl1, hf1⟩ := sFault_ex xs
  obtain ⟨c2, pl2, hf2⟩ := sFault_ex (xs ++ [s])
  have HF1 : Hid (SFault xs c1 pl1) := hf1
  have HF2 : Hid (SFault (xs ++ [s]) c2 pl2) := hf2
  clear he hs hx hk hf1 hf2
  subst hce
  go_enter Tryd.func14, Tryd.ntmps14
  go_wp2_with fail
  refine hrg.mono ?_
  rintro e w1 ⟨rfl, hb1⟩
  clear hrg
  go_wp2_with fail
  refine (hlong _ hb1).mono ?_
  rintro e w1' ⟨rfl, rfl⟩
  clear hlong
  go_wp2_with fail
  refine (ownTexts_any _ xs w1' (Or.inr ⟨b, o, m, rfl, hcap, fun k h => below_cell hb1 (HX.out k h)⟩) (by omega)).mono ?_
  rintro e w2 ⟨v2, rfl, hv2, hb2⟩
  have hbw2 : Below w.heap.size w w2 := below_then hb1 hb2
  go_wp2_with fail
  refine (vhost_any a v2 xs k HKK.out w2 c1 pl1 (HE.out.later hbw2) hv2 HF1.out HS.out (by omega)).mono ?_
  rintro e w3 ⟨x0, ev1, rfl, hH1, hb3⟩
  have hbw3 : Below w.heap.size w w3 := below_then hbw2 hb3
  have HH1 : Hid (HstIs a (Lh.score k) xs c1 pl1 w3 x0 ev1) := hH1
  clear hb1 hb2 hb3 hv2 hbw2 hH1
  go_wp2_with fail
  refine (ownTexts_own _ xs w3 (Or.inr ⟨b, o, m, rfl, hcap, fun k h => below_cell hbw3 (HX.out k h)⟩) (by omega)).mono ?_
  rintro e w4 ⟨v4, rfl, hown4, hb4⟩
  have hown5 := hown4.alloc (.cells #[.string s] 9)
  have hnews := cells_one (w := w4) (t := 9) s
  have hb5 : Below w3.heap.size w3 (w4.alloc (.cells #[.string s] 9)) := hb4.alloc hb4.size _
  have hmax : xs.length + 1 ≤ maxLen := by unfold maxLen; omega
  clear hown4 hb4
  go_wp2_with (at_builtin; refine wpList_append_own _ rfl _ _ 35 rfl w3.heap.size 9 i _ 1 16 Tryd.underlying35 hi hz0 hz1 hz2 rfl (by decide) v4 xs.length _ rfl hown5 ⟨w4.heap.size, 0, none⟩ 1 1 [.string s] rfl rfl hnews (fun u hu => by simp at hu; subst hu; rfl) hmax (by omega) hb5.size ?_)
  intro v6 w6 hown6 hg6 _
  have hlo := hown5.lt
  have hb6 : Below w3.heap.size w3 w6 := hb5.grown hg6 hb5.size (fun k hk => (hlo k hk).1)
  have hst6 : Strs1 w6 v6 (xs ++ [s]) := strs_of_owns (owns_snoc hown6)
  have hbw6 : Below w.heap.size w w6 := below_then hbw3 hb6
  have hnew := vhost_any a v6 (xs ++ [s]) k HKK.out w6 c2 pl2 (HE.out.later hbw6) hst6 HF2.out HSS.out (by simp; omega)
  clear hown5 hnews hlo hg6 hown6 hst6 hb5 hmax hbw3 hb6
  go_wp2_with fail
  refine hnew.mono ?_
  rintro e w7 ⟨y0, ev2, rfl, hH2, hb7⟩
  have hbw7 : Below w.heap.size w w7 := below_then hbw6 hb7
  have HH2 : Hid (HstIs a (Lh.score k) (xs ++ [s]) c2 pl2 w7 y0 ev2) := hH2
  clear hnew hb7 hbw6 hH2
  by_cases hc1 : c1 = 0
  · have hA : ev1 = .nilIface ∧ ∃ T, Lh.order (Lh.score k) xs = x0 :: T := by
      rcases HH1.out with ⟨_, h1, h2⟩ | ⟨h, _⟩
      · exact ⟨h1, h2⟩
      · exact absurd hc1 h
    obtain ⟨rfl, T, hT⟩ := hA
    have HT : Hid (Lh.order (Lh.score k) xs = x0 :: T) := hT
    have hF1 : IsFault xs 0 (-1) := by
      have := HF1.out
      rw [hc1] at this
      exact (sFault_zero this).2.1
    have HF1' : Hid (IsFault xs 0 (-1)) := hF1
    by_cases hc2 : c2 = 0
    · have hB : ev2 = .nilIface ∧ ∃ T, Lh.order (Lh.score k) (xs ++ [s]) = y0 :: T := by
        rcases HH2.out with ⟨_, h1, h2⟩ | ⟨h, _⟩
        · exact ⟨h1, h2⟩
        · exact absurd hc2 h
      obtain ⟨rfl, U, hU⟩ := hB
      have hF2 : IsFault (xs ++ [s]) 0 (-1) := by
        have := HF2.out
        rw [hc2] at this
        exact (sFault_zero this).2.1
      have hns : ¬ s ∈ xs := fun h => (List.nodup_append.1 (fault0 hF2).2.2).2.2 s h s (by simp) rfl
      have HXY : Hid (y0 = x0 ∨ (y0 ≠ x0 ∧ y0 = s)) := by
        rcases Lh.order_comes hns hT hU with h | h
        · exact Or.inl h
        · by_cases h' : y0 = x0
          · exact Or.inl h'
          · exact Or.inr ⟨h', h⟩
      clear hT hU hF2 hns hF1 hc1 hc2
      have hcm' := hcm
      unfold maxLen at hcm'
      have hbr : Below w7.heap.size w7 w7 := Below.refl _ _
      have hs1 : ∀ j u, ([] : List Value)[j]? = some u → w7.cell? ((⟨b, o, none⟩ : Addr).add j) = some u := fun j u hu => by
        simp at hu
      have hl1 : ([] : List Value).length = 0 * 1 := rfl
      have hm1 : 0 + 0 ≤ maxLen := by unfold maxLen; omega
      have hxm : xs.length = m := by omega
      go_wp2_with (at_builtin; refine wpList_append_own _ rfl _ _ 35 rfl w7.heap.size 9 i _ 1 16 Tryd.underlying35 hi hz0 hz1 hz2 rfl (by decide) (.slice none 0 0) 0 _ rfl (owns_nil _ _ _) ⟨b, o, none⟩ 0 _ [] rfl hl1 hs1 (fun u hu => by cases hu) hm1 (by omega) (Nat.le_refl _) ?_)
      intro v8 w8 hown8 hg8 hiff
      subst hiff
      have hb8 : Below w7.heap.size w7 w8 := below_grown hg8 (fun k h => by cases h)
      have hbw8 : Below w.heap.size w w8 := below_then hbw7 hb8
      clear hs1 hl1 hg8 hm1
      have hs2 : ∀ j u, ((xs.take m).map Value.string)[j]? = some u → w8.cell? ((⟨b, o, none⟩ : Addr).add j) = some u := cells_strs (fun j hj => by
        have hj' : j < xs.length := by simp at hj; omega
        rw [below_cell hbw8 (HX.out j hj')]
        simp)
      have hl2 : ((xs.take m).map Value.string).length = m * 1 := by simp; omega
      have hm2 : 0 + m ≤ maxLen := by unfold maxLen; omega
      go_wp2_with (at_builtin; refine wpList_append_own _ rfl _ _ 35 rfl w7.heap.size 9 i _ 1 16 Tryd.underlying35 hi hz0 hz1 hz2 rfl (by decide) (.slice none 0 0) 0 _ rfl hown8 ⟨b, o, none⟩ m _ ((xs.take m).map Value.string) rfl hl2 hs2 (strs_oneCell _) hm2 (by omega) hb8.size ?_)
      intro v9 w9 hown9 hg9 _
      have hst9 : Strs1 w9 v9 (xs.drop m ++ xs.take m) := strs_of_owns (by rw [List.drop_eq_nil_of_le (by omega)]; simpa using hown9)
      have hb9 : Below w7.heap.size w7 w9 := hb8.grown hg9 hb8.size (fun k h => by cases h)
      have hbw9 : Below w.heap.size w w9 := below_then hbw7 hb9
      clear hown8 hown9 hg9 hs2 hl2 hm2 hb8 hbw8 hb9
      have hp : (xs.drop m ++ xs.take m).Perm xs := turned_perm xs m
      have hhz := vhost_good a v9 (xs.drop m ++ xs.take m) k HKK.out w9 (HE.out.later hbw9) hst9 (by rw [hp.length_eq]; exact h0) (fault_perm HF1'.out hp) (small_of (size_perm HS.out hp) (by decide)) (by rw [hp.length_eq]; omega)
      rw [Lh.order_of_perm hp, HT.out] at hhz
      have hxx : (x0.toList == x0.toList) = true := bytes_same rfl
      clear hst9 hp
      rcases HXY.out with rfl | ⟨hne, rfl⟩
      · go_wp2_with fail
        refine hhz.mono ?_
        rintro e w10 ⟨z0, Tz, rfl, hz, hb10⟩
        obtain rfl := (List.cons.inj hz).1
        have hbw10 : Below w.heap.size w w10 := below_then hbw9 hb10
        clear hz hhz
        go_wp2
        go_ret
        exact ⟨rfl, hbw10⟩
      · have hnf : (y0.toList == x0.toList) = false := bytes_parts hne
        have hyy : (y0.toList == y0.toList) = true := bytes_same rfl
        clear hne
        go_wp2_with fail
        refine hhz.mono ?_
        rintro e w10 ⟨z0, Tz, rfl, hz, hb10⟩
        obtain rfl := (List.cons.inj hz).1
        have hbw10 : Below w.heap.size w w10 := below_then hbw9 hb10
        clear hz hhz
        go_wp2
        go_ret
        exact ⟨rfl, hbw10⟩
    · have hB : ∃ t x, ev2 = .iface t x := by
        rcases HH2.out with ⟨h, _⟩ | ⟨_, _, h⟩
        · exact absurd h hc2
        · exact errPos h hc2
      obtain ⟨t, x, rfl⟩ := hB
      clear hT hF1 hc1 hc2
      go_wp2
      go_ret
      exact ⟨rfl, hbw7⟩
  · have hA : x0 = ByteArray.empty ∧ ∃ t x, ev1 = .iface t x := by
      rcases HH1.out with ⟨h, _⟩ | ⟨_, h1, h⟩
      · exact absurd h hc1
      · exact ⟨h1, errPos h hc1⟩
    obtain ⟨rfl, t, x, rfl⟩ := hA
    clear hc1
    go_wp2
    go_ret
    exact ⟨rfl, hbw7⟩
end Go.Proofs.YtffobmiacinngaaDoor
