/- RivalGoes: all its ways. -/
import Derived.Test.YtffobmiacinngaaDoorVGoesA
import Derived.Test.YtffobmiacinngaaDoorVGoesB
namespace Go.Proofs.YtffobmiacinngaaDoor
open Go.RowKit

set_option maxRecDepth 100000 in
set_option maxHeartbeats 2000000 in
theorem vgoes_long (a : Nat → Addr) (lv kv : Value) (which : Int) (w : World) (he : Errs4 a w)
    (hlong : ∀ W, Below w.heap.size w W → Calls Tryd.prog 20 #[lv] W fun e w' => e = .returned (.int .i64 1) ∧ w' = W) :
    Calls Tryd.prog 13 #[lv, .int .i64 which, kv] w fun e w' => e = .returned (.bool true) ∧ Below w.heap.size w w' := by
  have hrg := rivals_any a w he
  clear he
  go_enter Tryd.func13, Tryd.ntmps13
  go_wp2_with fail
  refine hrg.mono ?_
  rintro e w1 ⟨rfl, hb1⟩
  clear hrg
  go_wp2_with fail
  refine (hlong _ hb1).mono ?_
  rintro e w1' ⟨rfl, rfl⟩
  go_wp2
  go_ret
  exact ⟨rfl, hb1⟩
set_option maxRecDepth 100000 in
set_option maxHeartbeats 2000000 in
theorem vgoes_early (a : Nat → Addr) (lp : Option Addr) (n cap : Nat) (kv : Value) (which : Int) (w : World) (he : Errs4 a w) (_hn : n ≤ maxLen)
    (hlong : ∀ W, Below w.heap.size w W → Calls Tryd.prog 20 #[.slice lp n cap] W fun e w' => e = .returned (.int .i64 0) ∧ w' = W) (h : which < 0 ∨ (n : Int) ≤ which ∨ n < 2) :
    Calls Tryd.prog 13 #[.slice lp n cap, .int .i64 which, kv] w fun e w' => e = .returned (.bool true) ∧ Below w.heap.size w w' := by
  have hrg := rivals_any a w he
  clear he
  by_cases h1 : which < 0
  · have e1 : decide (which < 0) = true := by simpa using h1
    clear h h1
    go_enter Tryd.func13, Tryd.ntmps13
    go_wp2_with fail
    refine hrg.mono ?_
    rintro e w1 ⟨rfl, hb1⟩
    clear hrg
    go_wp2_with fail
    refine (hlong _ hb1).mono ?_
    rintro e w1' ⟨rfl, rfl⟩
    go_wp2
    go_ret
    exact ⟨rfl, hb1⟩
  have e1 : decide (which < 0) = false := by simpa using h1
  by_cases h2 : (n : Int) ≤ which
  · have e2 : decide ((n : Int) ≤ which) = true := by simpa using h2
    clear h h1 h2
    go_enter Tryd.func13, Tryd.ntmps13
    go_wp2_with fail
    refine hrg.mono ?_
    rintro e w1 ⟨rfl, hb1⟩
    clear hrg
    go_wp2_with fail
    refine (hlong _ hb1).mono ?_
    rintro e w1' ⟨rfl, rfl⟩
    go_wp2
    go_ret
    exact ⟨rfl, hb1⟩
  have e2 : decide ((n : Int) ≤ which) = false := by simpa using h2
  have e3 : decide ((n : Int) < 2) = true := by simp; omega
  clear h h1 h2
  go_enter Tryd.func13, Tryd.ntmps13
  go_wp2_with fail
  refine hrg.mono ?_
  rintro e w1 ⟨rfl, hb1⟩
  clear hrg
  go_wp2_with fail
  refine (hlong _ hb1).mono ?_
  rintro e w1' ⟨rfl, rfl⟩
  go_wp2
  go_ret
  exact ⟨rfl, hb1⟩
set_option maxRecDepth 100000 in
set_option maxHeartbeats 2000000 in
theorem vgoes_bad (a : Nat → Addr) (b o cap : Nat) (xs : List ByteArray) (m k : Nat) (w : World) (he : Errs4 a w) (hcap : xs.length ≤ cap) (hx : ∀ k (h : k < xs.length), w.cell? ⟨b, o + k, none⟩ = some (.string xs[k])) (hs : Short xs)
    (h2 : 2 ≤ xs.length) (hm : m < xs.length) (cc : Nat) (pl : Int) (hf : SFault xs cc pl) (hcc : cc ≠ 0) :
    Calls Tryd.prog 13 #[.slice (some ⟨b, o, none⟩) xs.length cap, .int .i64 (m : Nat), .int .u64 (k : Nat)] w fun e w' => e = .returned (.bool true) ∧ Below w.heap.size w w' := by
  have hrg := rivals_any a w he
  have h30 := hs.1
  have e1 : decide ((m : Int) < 0) = false := by simp
  have e2 : decide ((xs.length : Int) ≤ (m : Int)) = false := by simp; omega
  have e3 : decide ((xs.length : Int) < 2) = false := by simp; omega
  have hlong : ∀ W, Below w.heap.size w W → Calls Tryd.prog 20 #[.slice (some ⟨b, o, none⟩) xs.length cap] W fun e w' => e = .returned (.int .i64 0) ∧ w' = W := fun W hW => long_short0 b o cap xs W (fun k h => below_cell hW (hx k h)) hs
  have HX : Hid (∀ k (h : k < xs.length), w.cell? ⟨b, o + k, none⟩ = some (.string xs[k])) := hx
  have HE : Hid (Errs4 a w) := he
  have HF : Hid (SFault xs cc pl) := hf
  have HS : Hid (∀ k (h : k < xs.length), (xs[k]).size ≤ 60) := hs.2
  clear hx he hf hs
  go_enter Tryd.func13, Tryd.ntmps13
  go_wp2_with fail
  refine hrg.mono ?_
  rintro e w1 ⟨rfl, hb1⟩
  clear hrg
  go_wp2_with fail
  refine (hlong _ hb1).mono ?_
  rintro e w1' ⟨rfl, rfl⟩
  go_wp2_with fail
  refine (ownTexts_any _ xs w1' (Or.inr ⟨b, o, cap, rfl, hcap, fun k h => below_cell hb1 (HX.out k h)⟩) (by omega)).mono ?_
  rintro e w2 ⟨v2, rfl, hv2, hb2⟩
  have hbw2 : Below w.heap.size w w2 := below_then hb1 hb2
  go_wp2_with fail
  refine (order_bad a v2 xs _ w2 cc pl (HE.out.later hbw2) hv2 HF.out hcc (fun k h => Nat.le_trans (HS.out k h) (by decide)) (by omega)).mono ?_
  rintro e w3 ⟨ev, rfl, hev, hb3⟩
  obtain ⟨t, x, rfl⟩ := errPos hev hcc
  have hbw3 : Below w.heap.size w w3 := below_then hbw2 hb3
  clear hb1 hb2 hb3 hv2 hlong hev
  go_wp2
  go_ret
  exact ⟨rfl, hbw3⟩
/-- RivalGoes of any arguments. -/
theorem vgoes_any (a : Nat → Addr) (lv : Value) (xs : List ByteArray) (which : Int) (k : Nat) (hk : k < 18446744073709551616) (w : World) (he : Errs4 a w) (hl : Strs1 w lv xs) (hcapm : ∀ p l cp, lv = .slice p l cp → cp ≤ maxLen) (hsz : ∀ k (h : k < xs.length), (xs[k]).size ≤ maxLen) (hlen : xs.length ≤ maxLen) :
    Calls Tryd.prog 13 #[lv, .int .i64 which, .int .u64 (k : Nat)] w fun e w' => e = .returned (.bool true) ∧ Below w.heap.size w w' := by
  by_cases hs : Short xs
  · have hlong : ∀ W, Below w.heap.size w W → Calls Tryd.prog 20 #[lv] W fun e w' => e = .returned (.int .i64 0) ∧ w' = W := fun W hW => long_short lv xs W (hl.later hW).strs hs
    by_cases hearly : which < 0 ∨ (xs.length : Int) ≤ which ∨ xs.length < 2
    · obtain ⟨p, cp, rfl⟩ := hl.strs.slice
      exact vgoes_early a p xs.length cp _ which w he hlen hlong hearly
    · obtain ⟨m, rfl⟩ := Int.eq_ofNat_of_zero_le (show 0 ≤ which by omega)
      obtain ⟨b, o, cap, rfl, hcap, hx⟩ : ∃ b o cap, lv = .slice (some ⟨b, o, none⟩) xs.length cap ∧ xs.length ≤ cap ∧ ∀ k (h : k < xs.length), w.cell? ⟨b, o + k, none⟩ = some (.string xs[k]) := by
        rcases hl with ⟨rfl, _⟩ | ⟨b, o, cap, h1, h2, h3⟩
        · simp at hearly
        · exact ⟨b, o, cap, h1, h2, h3⟩
      obtain ⟨cc, pl, hf⟩ := sFault_ex xs
      by_cases hcc : cc = 0
      · subst hcc
        obtain ⟨h0, hf0, _⟩ := sFault_zero hf
        have hcm : cap ≤ maxLen := hcapm _ _ _ rfl
        by_cases hce : cap = m + 1
        · exact vgoes_goodA a b o cap xs m k hk w he hcap hcm hce hx hlong (by omega) (by omega) hs.2 hf0
        · exact vgoes_goodB a b o cap xs m k hk w he hcap hcm (by omega) hx hlong (by omega) (by omega) hs.2 hf0
      · exact vgoes_bad a b o cap xs m k w he hcap hx hs (by omega) (by omega) cc pl hf hcc
  · exact vgoes_long a lv _ which w he (fun W hW => long_not lv xs W (hl.later hW).strs hsz hlen hs)
end Go.Proofs.YtffobmiacinngaaDoor
