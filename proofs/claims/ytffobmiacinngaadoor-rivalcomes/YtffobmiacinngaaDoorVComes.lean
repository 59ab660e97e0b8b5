/- RivalComes of any arguments. -/
import Derived.Test.YtffobmiacinngaaDoorVComesA
import Derived.Test.YtffobmiacinngaaDoorVComesB
namespace Go.Proofs.YtffobmiacinngaaDoor
open Go.RowKit

set_option maxRecDepth 100000 in
set_option maxHeartbeats 2000000 in
theorem vcomes_none (a : Nat → Addr) (lp : Option Addr) (lc : Nat) (s : ByteArray) (k : Nat) (hk : k < 18446744073709551616) (w : World) (he : Errs4 a w) (hl : Strs1 w (.slice lp 0 lc) []) (hss : s.size ≤ 60)
    (hlong : ∀ W, Below w.heap.size w W → Calls Tryd.prog 20 #[.slice lp 0 lc] W fun e w' => e = .returned (.int .i64 0) ∧ w' = W) :
    Calls Tryd.prog 14 #[.slice lp 0 lc, .string s, .int .u64 (k : Nat), .int .i64 0] w fun e w' => e = .returned (.bool true) ∧ Below w.heap.size w w' := by
  obtain ⟨i, hi, hz0, hz1, hz2⟩ := info_parts infoS
  have hrg := rivals_any a w he
  have e3 : decide (60 < (s.size : Int)) = false := by simp; omega
  have HL : Hid (Strs1 w (.slice lp 0 lc) []) := hl
  have HE : Hid (Errs4 a w) := he
  have HSS : Hid (∀ k (h : k < ([] ++ [s]).length), (([] ++ [s])[k]).size ≤ 60) := size_snoc (xs := []) (fun k h => by cases h) hss
  have HKK : Hid (k < 18446744073709551616) := hk
  obtain ⟨c2, pl2, hf2⟩ := sFault_ex ([] ++ [s])
  have HF2 : Hid (SFault ([] ++ [s]) c2 pl2) := hf2
  clear he hk hf2 hl
  go_enter Tryd.func14, Tryd.ntmps14
  go_wp2_with fail
  refine hrg.mono ?_
  rintro e w1 ⟨rfl, hb1⟩
  clear hrg
  go_wp2_with fail
  refine (hlong _ hb1).mono ?_
  rintro e w1' ⟨rfl, rfl⟩
  clear hlong
  go_wp2_with fail
  refine (ownTexts_any _ [] w1' (HL.out.later hb1) (by decide)).mono ?_
  rintro e w2 ⟨v2, rfl, hv2, hb2⟩
  have hbw2 : Below w.heap.size w w2 := below_then hb1 hb2
  go_wp2_with fail
  refine (vhost_any a v2 [] k HKK.out w2 5 (-1) (HE.out.later hbw2) hv2 (Or.inl ⟨rfl, rfl, rfl⟩) (fun k h => by cases h) (by decide)).mono ?_
  rintro e w3 ⟨x0, ev1, rfl, hH1, hb3⟩
  have hbw3 : Below w.heap.size w w3 := below_then hbw2 hb3
  have hA : x0 = ByteArray.empty ∧ ∃ t x, ev1 = .iface t x := by
    rcases hH1 with ⟨h, _⟩ | ⟨_, h1, h⟩
    · cases h
    · exact ⟨h1, errPos h (by decide)⟩
  obtain ⟨rfl, t, x, rfl⟩ := hA
  clear hb1 hb2 hb3 hv2 hbw2 hH1
  go_wp2_with fail
  refine (ownTexts_own _ [] w3 (HL.out.later hbw3) (by decide)).mono ?_
  rintro e w4 ⟨v4, rfl, hown4, hb4⟩
  have hown5 := hown4.alloc (.cells #[.string s] 9)
  have hnews := cells_one (w := w4) (t := 9) s
  have hb5 : Below w3.heap.size w3 (w4.alloc (.cells #[.string s] 9)) := hb4.alloc hb4.size _
  have hmax : 0 + 1 ≤ maxLen := by unfold maxLen; omega
  clear hown4 hb4
  go_wp2_with (at_builtin; refine wpList_append_own _ rfl _ _ 35 rfl w3.heap.size 9 i _ 1 16 Tryd.underlying35 hi hz0 hz1 hz2 rfl (by decide) v4 0 _ rfl hown5 ⟨w4.heap.size, 0, none⟩ 1 1 [.string s] rfl rfl hnews (fun u hu => by simp at hu; subst hu; rfl) hmax (by omega) hb5.size ?_)
  intro v6 w6 hown6 hg6 _
  have hlo := hown5.lt
  have hb6 : Below w3.heap.size w3 w6 := hb5.grown hg6 hb5.size (fun k hk => (hlo k hk).1)
  have hst6 : Strs1 w6 v6 ([] ++ [s]) := strs_of_owns (owns_snoc (out := []) hown6)
  have hbw6 : Below w.heap.size w w6 := below_then hbw3 hb6
  have hnew := vhost_any a v6 ([] ++ [s]) k HKK.out w6 c2 pl2 (HE.out.later hbw6) hst6 HF2.out HSS.out (by simp)
  clear hown5 hnews hlo hg6 hown6 hst6 hb5 hmax hbw3 hb6
  go_wp2_with fail
  refine hnew.mono ?_
  rintro e w7 ⟨y0, ev2, rfl, hH2, hb7⟩
  have hbw7 : Below w.heap.size w w7 := below_then hbw6 hb7
  clear hnew hb7 hbw6 hH2
  go_wp2
  go_ret
  exact ⟨rfl, hbw7⟩
/-- RivalComes of any arguments. -/
theorem vcomes_any (a : Nat → Addr) (lv : Value) (xs : List ByteArray) (s : ByteArray) (k : Nat) (hk : k < 18446744073709551616) (b : Int) (w : World) (he : Errs4 a w) (hl : Strs1 w lv xs) (hcapm : ∀ p l cp, lv = .slice p l cp → cp ≤ maxLen) (hsz : ∀ k (h : k < xs.length), (xs[k]).size ≤ maxLen) (hlen : xs.length ≤ maxLen) (hss : s.size ≤ maxLen) :
    Calls Tryd.prog 14 #[lv, .string s, .int .u64 (k : Nat), .int .i64 b] w fun e w' => e = .returned (.bool true) ∧ Below w.heap.size w w' := by
  by_cases hs : Short xs
  · have hlong : ∀ W, Below w.heap.size w W → Calls Tryd.prog 20 #[lv] W fun e w' => e = .returned (.int .i64 0) ∧ w' = W := fun W hW => long_short lv xs W (hl.later hW).strs hs
    by_cases hearly : 60 < s.size ∨ b < 0 ∨ (xs.length : Int) < b
    · obtain ⟨p, cp, rfl⟩ := hl.strs.slice
      exact vcomes_early a p xs.length cp _ s b w he hss hlen hlong hearly
    · obtain ⟨m, rfl⟩ := Int.eq_ofNat_of_zero_le (show 0 ≤ b by omega)
      rcases hl with ⟨rfl, hv⟩ | ⟨bb, o, cap, rfl, hcap, hx⟩
      · obtain rfl : m = 0 := by simp at hearly; omega
        have hl' : Strs1 w lv [] := Or.inl ⟨rfl, hv⟩
        obtain ⟨p, cp, rfl⟩ := hl'.strs.slice
        exact vcomes_none a p cp s k hk w he hl' (by omega) hlong
      · have hcm : cap ≤ maxLen := hcapm _ _ _ rfl
        by_cases h0 : 0 < xs.length
        · by_cases hce : m = cap
          · exact vcomes_coreA a bb o cap xs s m k hk w he hcap hcm hce hx hs h0 (by omega) (by omega)
          · exact vcomes_coreB a bb o cap xs s m k hk w he hcap hcm (by omega) hx hs h0 (by omega) (by omega)
        · obtain rfl : xs = [] := List.length_eq_zero_iff.1 (by omega)
          obtain rfl : m = 0 := by simp at hearly; omega
          exact vcomes_none a (some ⟨bb, o, none⟩) cap s k hk w he (Or.inl ⟨rfl, Or.inr ⟨_, _, rfl⟩⟩) (by omega) hlong
  · exact vcomes_long a lv _ _ s w he (fun W hW => long_not lv xs W (hl.later hW).strs hsz hlen hs)
end Go.Proofs.YtffobmiacinngaaDoor
