/- The law HealthActs, over the landed package's contracts: all inputs. -/
import Derived.Test.YtkpjecpaejdgaabDoorHA2
namespace Go.Proofs.YtkpjecpaejdgaabDoor
open Go.RowKit

set_option maxHeartbeats 1000000 in
theorem acts_long (hC : HealthC) (a : Nat → Addr) (v : Value) (x y : Int) (lp : Option Addr) (n lc : Nat) (w : World) (he : Errs4 a w) (hlong : ∀ W, Below w.heap.size w W → Calls Tryd.prog 19 #[v] W fun e w' => e = .returned (.int .i64 1) ∧ w' = W) :
    Calls Tryd.prog 9 #[v, .int .i64 x, .int .i64 y, .slice lp n lc] w fun e w' => e = .returned (.bool true) ∧ Below w.heap.size w w' := by
  have hwt := watched_any hC a w he
  clear he
  go_enter Tryd.func9, Tryd.ntmps9
  go_wp2_with fail
  refine hwt.mono ?_
  rintro e w1 ⟨rfl, hb1⟩
  have h1 := hlong w1 hb1
  clear hwt hlong
  go_wp2_with fail
  refine h1.mono ?_
  rintro e w2 ⟨rfl, rfl⟩
  go_wp2
  go_ret
  exact ⟨rfl, hb1⟩
set_option maxHeartbeats 1000000 in
theorem acts_many (hC : HealthC) (a : Nat → Addr) (v : Value) (x y : Int) (lp : Option Addr) (n lc : Nat) (w : World) (he : Errs4 a w) (hn : n ≤ maxLen) (h100 : 100 < n) (hlong : ∀ W, Below w.heap.size w W → Calls Tryd.prog 19 #[v] W fun e w' => e = .returned (.int .i64 0) ∧ w' = W) :
    Calls Tryd.prog 9 #[v, .int .i64 x, .int .i64 y, .slice lp n lc] w fun e w' => e = .returned (.bool true) ∧ Below w.heap.size w w' := by
  have hwt := watched_any hC a w he
  have hn2 : n ≤ 9223372036854775807 := by unfold maxLen at hn; omega
  have d1 : decide (100 < (n : Int)) = true := by simp; omega
  clear he hn
  go_enter Tryd.func9, Tryd.ntmps9
  go_wp2_with fail
  refine hwt.mono ?_
  rintro e w1 ⟨rfl, hb1⟩
  have h1 := hlong w1 hb1
  clear hwt hlong
  go_wp2_with fail
  refine h1.mono ?_
  rintro e w2 ⟨rfl, rfl⟩
  go_wp2
  go_ret
  exact ⟨rfl, hb1⟩

set_option maxRecDepth 100000 in
set_option maxHeartbeats 2000000 in
theorem acts_bad (hC : HealthC) (a : Nat → Addr) (v : Value) (xs : List ByteArray) (x y : Int) (lp : Option Addr) (n lc : Nat) (w : World) (he : Errs a w) (hst1 : Strs1 w v xs) (hsh : Short xs) (h100 : n ≤ 100) (c : Nat) (pl : Int) (hf : HlFault xs x y c pl) :
    Calls Tryd.prog 9 #[v, .int .i64 x, .int .i64 y, .slice lp n lc] w fun e w' => e = .returned (.bool true) ∧ Below w.heap.size w w' := by
  have HE : Hid (Errs a w) := he
  have HV : Hid (Strs1 w v xs) := hst1
  have HSH : Hid (Short xs) := hsh
  have HF : Hid (HlFault xs x y c pl) := hf
  have hwt := watched_any hC a w he.four
  have hc0 := hlFault_pos hf
  have d1 : decide (100 < (n : Int)) = false := by simp; omega
  have d2 : decide (0 < (c : Int)) = true := by simp; omega
  have h30 := hsh.1
  clear he hst1 hsh hf
  go_enter Tryd.func9, Tryd.ntmps9
  go_wp2_with fail
  refine hwt.mono ?_
  rintro e w1 ⟨rfl, hb1⟩
  clear hwt
  go_wp2_with fail
  refine (long_short v xs w1 (HV.out.later hb1).strs HSH.out).mono ?_
  rintro e w1' ⟨rfl, rfl⟩
  go_wp2_with fail
  refine (ownTexts_any v xs w1' (HV.out.later hb1) (by omega)).mono ?_
  rintro e w2 ⟨v2, rfl, hv2, hb2⟩
  have hbw2 : Below w.heap.size w w2 := below_then hb1 hb2
  have hnew := hC.newB a v2 xs x y w2 c pl (HE.out.later hbw2).four hv2 HF.out (fun s hs => by
    obtain ⟨k, hk, rfl⟩ := List.getElem_of_mem hs
    exact Nat.le_trans (HSH.out.2 k hk) (by decide)) (by omega)
  clear hb1 hb2 hv2
  go_wp2_with fail
  refine hnew.mono ?_
  rintro e w3 ⟨ev, rfl, hev, hb3⟩
  have hbw3 : Below w.heap.size w w3 := below_then hbw2 hb3
  have HEV : Hid (ErrIs a w3 c pl ev) := hev
  clear hnew hev hbw2 hb3
  go_wp2_with fail
  refine (healthFault_any v xs x y w3 c pl (Or.inl HF.out) (HV.out.later hbw3).strs (fun k h => Nat.le_trans (HSH.out.2 k h) (by decide)) (by omega)).mono ?_
  rintro e w4 ⟨rfl, hb4⟩
  have hb5 : Below w3.heap.size w3 (w4.alloc (.cells #[.int .i64 (c : Nat), .int .i64 pl] 46)) := hb4.alloc hb4.size _
  have hbw5 : Below w.heap.size w (w4.alloc (.cells #[.int .i64 (c : Nat), .int .i64 pl] 46)) := below_then hbw3 hb5
  have x0 : (w4.alloc (.cells #[.int .i64 (c : Nat), .int .i64 pl] 46)).cell? ⟨w4.heap.size, 0, none⟩ = some (.int .i64 (c : Nat)) := by simp
  have x1 : (w4.alloc (.cells #[.int .i64 (c : Nat), .int .i64 pl] 46)).cell? ⟨w4.heap.size, 1, none⟩ = some (.int .i64 pl) := by simp
  have HEV5 : Hid (ErrIs a (w4.alloc (.cells #[.int .i64 (c : Nat), .int .i64 pl] 46)) c pl ev) := HEV.out.later hb5
  clear hb4 hb5
  go_wp2_with fail
  refine (faulted2_is (HE.out.later hbw5) HEV5.out).mono ?_
  rintro e w6 ⟨rfl, hb6⟩
  go_wp2
  go_ret
  exact ⟨rfl, below_then hbw5 hb6⟩
/-- HealthActs of any inputs. -/
theorem acts_any (hC : HealthC) (a : Nat → Addr) (v : Value) (xs : List ByteArray) (x y : Int) (lp : Option Addr) (lc : Nat) (l : List Ac) (w : World) (he : Errs a w) (hst1 : Strs1 w v xs) (hsz : ∀ k (h : k < xs.length), (xs[k]).size ≤ maxLen) (hlen : xs.length ≤ maxLen) (hl : l.length ≤ maxLen) (hla : ActsAt w lp l) (hls : ∀ x ∈ l, x.kind.size ≤ maxLen ∧ x.host.size ≤ maxLen) :
    Calls Tryd.prog 9 #[v, .int .i64 x, .int .i64 y, .slice lp l.length lc] w fun e w' => e = .returned (.bool true) ∧ Below w.heap.size w w' := by
  by_cases hsh : Short xs
  · by_cases h100 : 100 < l.length
    · exact acts_many hC a v x y lp l.length lc w he.four hl h100 fun W hW => long_short v xs W (hst1.later hW).strs hsh
    · obtain ⟨c, pl, hf | ⟨hf, h1, h2, h3, h4, rfl, rfl⟩⟩ := hlAny_ex xs x y
      · exact acts_bad hC a v xs x y lp l.length lc w he hst1 hsh (by omega) c pl hf
      · obtain ⟨f, rfl⟩ := Int.eq_ofNat_of_zero_le (show 0 ≤ x by omega)
        obtain ⟨r, rfl⟩ := Int.eq_ofNat_of_zero_le (show 0 ≤ y by omega)
        exact acts_good hC a v xs f r lp lc l w he hst1 hsh hf (by omega) (by omega) (by omega) (by omega) (by omega) hla hls
  · exact acts_long hC a v x y lp l.length lc w he.four fun W hW => long_not v xs W (hst1.later hW).strs hsz hlen hsh
end Go.Proofs.YtkpjecpaejdgaabDoor
