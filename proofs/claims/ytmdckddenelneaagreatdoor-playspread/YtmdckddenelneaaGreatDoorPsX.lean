/- The law PlaySpread, over the landed package's contracts: all hosts, all sizes, all keys, all numbers. -/
import Derived.Test.YtmdckddenelneaaGreatDoorPsLa
import Derived.Test.YtmdckddenelneaaGreatDoorPsLb
import Derived.Test.YtmdckddenelneaaGreatDoorPsLc
namespace Go.Proofs.YtmdckddenelneaaGreatDoor
open Go.RowKit

/-- PlaySpread of any hosts, size, keys and number. -/
theorem pspread_any (hC : BalanceC) (hP : PlayC hC) (a : Nat → Addr) (lv kv : Value) (xs : List ByteArray) (ks : List Nat) (size n : Int) (w : World) (he : hP.E a w) (hl : Strs1 w lv xs) (hk : Keys1 w kv ks) (hku : ∀ z ∈ ks, z < 18446744073709551616) (hkl : ks.length ≤ maxLen) (hsz : ∀ k (h : k < xs.length), (xs[k]).size ≤ maxLen) (hlen : xs.length ≤ maxLen) (hs : -9223372036854775808 ≤ size ∧ size ≤ 9223372036854775807) (hn : -9223372036854775808 ≤ n ∧ n ≤ 9223372036854775807) :
    Calls Tryz.prog 3 #[lv, .int .i64 size, kv, .int .i64 n] w fun e w' => e = .returned (.bool true) ∧ Below w.heap.size w w' := by
  have hI : PsIn a lv kv xs ks size n w := ⟨hl, hk, hku, hkl, hsz, hlen, hs, hn⟩
  by_cases hskip : (60 < ks.length ∧ ks.length ≤ 500) ∨ 600 < ks.length
  · exact ps_skip he hI hskip
  obtain ⟨c, pl, hf⟩ := tabFault_ex xs size
  by_cases h6 : ks.length ≤ 60
  · by_cases hc : c = 0
    · subst hc
      obtain ⟨rfl, _⟩ := tabFault_zero hf
      by_cases h0 : n < 0
      · exact ps_good_a he hI h0 h6 hf
      · by_cases h5 : 500 < n
        · exact ps_good_c he hI h5 h6 hf
        · exact ps_good_b he hI n.toNat (by omega) (by omega) h6 hf
    · by_cases h0 : n < 0
      · exact ps_bad1a_a he hI h0 h6 c pl hf hc
      · by_cases h5 : 500 < n
        · exact ps_bad1a_c he hI h5 h6 c pl hf hc
        · exact ps_bad1a_b he hI n.toNat (by omega) (by omega) h6 c pl hf hc
  · have h7 : 500 < ks.length ∧ ks.length ≤ 600 := by omega
    by_cases hc : c = 0
    · subst hc
      obtain ⟨rfl, _⟩ := tabFault_zero hf
      by_cases h0 : n < 0
      · exact ps_bad2_a he hI h0 h7 hf
      · by_cases h5 : 500 < n
        · exact ps_bad2_c he hI h5 h7 hf
        · exact ps_bad2_b he hI n.toNat (by omega) (by omega) h7 hf
    · by_cases h0 : n < 0
      · exact ps_bad1b_a he hI h0 h7 c pl hf hc
      · by_cases h5 : 500 < n
        · exact ps_bad1b_c he hI h5 h7 c pl hf hc
        · exact ps_bad1b_b he hI n.toNat (by omega) (by omega) h7 c pl hf hc
end Go.Proofs.YtmdckddenelneaaGreatDoor
