/- RivalOrders of any arguments. -/
import Derived.Test.YtffobmiacinngaaDoorVOBs
import Derived.Test.YtffobmiacinngaaDoorVOBm
import Derived.Test.YtffobmiacinngaaDoorVOMany
import Derived.Test.YtffobmiacinngaaDoorVOMain
namespace Go.Proofs.YtffobmiacinngaaDoor
open Go.RowKit

theorem vorders_any (a : Nat → Addr) (lv kv : Value) (xs : List ByteArray) (ks : List Nat) (w : World) (he : Errs a w) (hl : Strs1 w lv xs) (hk : Keys1 w kv ks) (hku : ∀ z ∈ ks, z < 18446744073709551616) (hkl : ks.length ≤ maxLen) (hsz : ∀ k (h : k < xs.length), (xs[k]).size ≤ maxLen) (hlen : xs.length ≤ maxLen) :
    Calls Tryd.prog 12 #[lv, kv] w fun e w' => e = .returned (.bool true) ∧ Below w.heap.size w w' := by
  by_cases hs : Short xs
  · obtain ⟨kp, kc, rfl, hkc⟩ := hk.u64s
    by_cases h60 : Some60 ks.length
    · obtain ⟨cc, pl, hf⟩ := sFault_ex xs
      by_cases hcc : cc = 0
      · subst hcc
        obtain ⟨h0, hf0, _⟩ := sFault_zero hf
        obtain ⟨b, o, lc, rfl, hx⟩ := strsPos hl h0
        rcases h60 with h60 | h60
        · exact vorders_main a b o lc kp kc xs ks w he hl hx hs hk hku h60 h0 hf0
        · exact vorders_many a b o lc kp kc xs ks w he hl hx hs hk hku h60 h0 hf0
      · obtain ⟨lp, lc, rfl⟩ := hl.strs.slice
        rcases h60 with h60 | h60
        · exact vorders_bad_s a lp lc kp kc xs ks w he hl hs hk hku h60 cc pl hf hcc
        · exact vorders_bad_m a lp lc kp kc xs ks w he hl hs hk hku h60 cc pl hf hcc
    · exact vorders_early a lv kp ks.length kc w he.four hkl (fun W hW => long_short lv xs W (hl.later hW).strs hs) h60
  · exact vorders_long a lv kv w he.four (fun W hW => long_not lv xs W (hl.later hW).strs hsz hlen hs)
end Go.Proofs.YtffobmiacinngaaDoor
