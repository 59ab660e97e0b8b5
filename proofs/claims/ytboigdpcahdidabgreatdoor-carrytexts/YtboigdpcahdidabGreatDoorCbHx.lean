/- The landed hexText and readHex. -/
import Derived.Test.YtboigdpcahdidabGreatDoorCbFmt
import Derived.Test.YtboigdpcahdidabGreatDoorCbPar
import Derived.Test.YtboigdpcahdidabGreatDoorCrM
namespace Go.Proofs.YtboigdpcahdidabGreatDoor
open Go.RowKit
set_option maxHeartbeats 2000000 in
set_option maxRecDepth 100000 in
theorem fmt_any (n : Nat) (hn : n < 18446744073709551616) (w : World) (h : w.cell? ⟨15, 15, none⟩ = some (.int .u8 4)) :
    Calls Tryz.prog 86 #[.int .u64 (n : Nat), .int .i64 16] w fun e w' => e = .returned (.string (Lh.bt (Lh.hexD n))) ∧ Below w.heap.size w w' := by
  have hf := fbits_any n hn w h
  go_enter Tryz.func86, Tryz.ntmps86
  go_wp2_with (first | (go_at_call 117; go_in) | (go_at_call 142; refine hf.mono ?_; rintro e w1 ⟨rfl, hb1⟩))
  go_ret
  exact ⟨rfl, hb1⟩
set_option maxHeartbeats 2000000 in
set_option maxRecDepth 100000 in
/-- hexText: so many digits. -/
theorem hexT_any {a : Nat → Addr} (n d : Nat) (hd : d ≤ 16) (hd0 : 0 < d) (hn : n < 16 ^ d) (w : World) (he : EC a w) :
    Calls Tryz.prog 57 #[.int .u64 (n : Nat), .int .i64 (d : Nat)] w fun e w' => e = .returned (.string (Lh.bt (Lh.hexL d n))) ∧ Below w.heap.size w w' := by
  have hn64 : n < 18446744073709551616 := Nat.lt_of_lt_of_le hn (Nat.le_trans (Nat.pow_le_pow_right (by decide) hd) (by decide))
  have hf := fmt_any n hn64 w he.brj
  obtain ⟨hl, hfill⟩ : (Lh.hexD n).length ≤ d ∧ List.replicate (d - (Lh.hexD n).length) 48 ++ Lh.hexD n = Lh.hexL d n := by
    obtain ⟨k, rfl⟩ : ∃ k, d = k + 1 := ⟨d - 1, by omega⟩
    exact Lh.hexD_fill k n hn
  have HF : Hid (List.replicate (d - (Lh.hexD n).length) 48 ++ Lh.hexD n = Lh.hexL d n) := hfill
  have hsz : (Lh.bt (Lh.hexD n)).size = (Lh.hexD n).length := by simp [Lh.bt, ByteArray.size]
  clear hfill he
  go_enter Tryz.func57, Tryz.ntmps57
  go_wp2_with fail
  refine hf.mono ?_
  rintro e w1 ⟨rfl, hb1⟩
  clear hf
  have hr := repeat_any (d - (Lh.hexD n).length) (by omega) w1
  have hsub : (d : Int) - ((Lh.hexD n).length : Int) = ((d - (Lh.hexD n).length : Nat) : Int) := by omega
  have hs2 : (Lh.bt (List.replicate (d - (Lh.hexD n).length) 48)).size + (Lh.bt (Lh.hexD n)).size ≤ 1000 := by
    simp [Lh.bt, ByteArray.size]
    omega
  go_wp2_with fail
  refine hr.mono ?_
  rintro e w2 ⟨rfl, hb2⟩
  clear hr
  go_wp2
  go_ret
  refine ⟨?_, below_then hb1 hb2⟩
  rw [← HF.out, ← Lh.bt_append]
  rfl
set_option maxHeartbeats 2000000 in
set_option maxRecDepth 100000 in
theorem parse_any {a : Nat → Addr} (t : List UInt8) (hne : t ≠ []) (hl : t.length ≤ 16) (w : World) (he : EC a w) :
    Calls Tryz.prog 123 #[.string (Lh.bt t), .int .i64 16, .int .i64 64] w fun e w' => Below w.heap.size w w' ∧
      ((∃ n, Lh.hexA t = some n ∧ n < 16 ^ t.length ∧ e = .returned (.tuple #[.int .u64 (n : Nat), .nilIface])) ∨ (Lh.hexA t = none ∧ ∃ ty p, e = .returned (.tuple #[.int .u64 0, .iface ty p]))) := by
  have hp := iparse_any t hne hl w
  have HE : Hid (EC a w) := he
  have hsz : (Lh.bt t).size = t.length := by simp [Lh.bt, ByteArray.size]
  clear he hne
  go_enter Tryz.func123, Tryz.ntmps123
  go_wp2_with fail
  refine hp.mono ?_
  rintro e w1 ⟨hb1, ⟨n, h1, h2, rfl⟩ | ⟨h1, rfl⟩⟩
  · have HN : Hid (Lh.hexA t = some n ∧ n < 16 ^ t.length) := ⟨h1, h2⟩
    clear hp h1 h2
    go_wp2
    go_ret2
    exact ⟨hb1, Or.inl ⟨n, HN.out.1, HN.out.2, rfl⟩⟩
  · have HN : Hid (Lh.hexA t = none) := h1
    have ht := toErr_any (a := a) ⟨#[80, 97, 114, 115, 101, 85, 105, 110, 116]⟩ (Lh.bt t) (by omega) 16 64 w1 (HE.out.later hb1)
    clear hp h1
    go_wp2_with fail
    refine ht.mono ?_
    rintro e w2 ⟨⟨ty, p, rfl⟩, hb2⟩
    clear ht
    go_wp2
    go_ret2
    exact ⟨below_then hb1 hb2, Or.inr ⟨HN.out, _, _, rfl⟩⟩
set_option maxHeartbeats 2000000 in
set_option maxRecDepth 100000 in
/-- readHex: a number of so many digits as the document has it, or none. -/
theorem readHex_any {a : Nat → Addr} (s : List UInt8) (_hs : s.length ≤ 100000) (d : Nat) (hd : d ≤ 16) (hd0 : 0 < d) (w : World) (he : EC a w) :
    Calls Tryz.prog 90 #[.string (Lh.bt s), .int .i64 (d : Nat)] w fun e w' => Below w.heap.size w w' ∧
      ((∃ n, s.length = d ∧ Lh.hexV s = some n ∧ n < 16 ^ d ∧ e = .returned (.tuple #[.int .u64 (n : Nat), .bool true])) ∨ ((s.length ≠ d ∨ Lh.hexV s = none) ∧ ∃ n : Nat, n < 18446744073709551616 ∧ e = .returned (.tuple #[.int .u64 (n : Nat), .bool false]))) := by
  have hsz : (Lh.bt s).size = s.length := by simp [Lh.bt, ByteArray.size]
  have HE : Hid (EC a w) := he
  clear he
  by_cases hl : s.length = d
  · subst hl
    have hne : s ≠ [] := fun e => by rw [e] at hd0; simp at hd0
    have hp := parse_any s hne hd w HE.out
    go_enter Tryz.func90, Tryz.ntmps90
    go_wp2_with fail
    refine hp.mono ?_
    rintro e w1 ⟨hb1, ⟨n, h1, h2, rfl⟩ | ⟨h1, ty, p, rfl⟩⟩
    · have hn64 : n < 18446744073709551616 := Nat.lt_of_lt_of_le h2 (Nat.le_trans (Nat.pow_le_pow_right (by decide) hd) (by decide))
      have ht := hexT_any n s.length hd hd0 h2 w1 (HE.out.later hb1)
      cases hv : Lh.hexV s with
      | some m =>
        have hm : m = n := by
          have := Lh.hexV_hexA hv
          rw [h1] at this
          cases this
          rfl
        subst hm
        have hq := (Lh.hexL_hexV hv).1
        have HV : Hid (Lh.hexV s = some m ∧ m < 16 ^ s.length) := ⟨hv, h2⟩
        rw [hq] at ht
        have heq : ((Lh.bt s).toList == (Lh.bt s).toList) = true := by simp
        clear hp h1 h2 hv hq
        go_wp2_with (first | (go_at_call 57; refine ht.mono ?_; rintro e w2 ⟨rfl, hb2⟩))
        go_ret2
        exact ⟨below_then hb1 hb2, Or.inl ⟨m, by trivial, HV.out.1, HV.out.2, rfl⟩⟩
      | none =>
        have HV : Hid (Lh.hexV s = none) := hv
        have heq : ((Lh.bt (Lh.hexL s.length n)).toList == (Lh.bt s).toList) = false := by
          rw [Lh.bt_list, Lh.bt_list, beq_eq_false_iff_ne]
          exact Lh.hexV_neq hv h2
        clear hp h1 h2 hv
        go_wp2_with (first | (go_at_call 57; refine ht.mono ?_; rintro e w2 ⟨rfl, hb2⟩))
        go_ret2
        exact ⟨below_then hb1 hb2, Or.inr ⟨by first | trivial | exact Or.inr HV.out, n, hn64, rfl⟩⟩
    · have hvn : Lh.hexV s = none := by
        cases hv : Lh.hexV s with
        | none => rfl
        | some m =>
          have := Lh.hexV_hexA hv
          rw [h1] at this
          cases this
      have HV : Hid (Lh.hexV s = none) := hvn
      clear hvn
      clear hp h1
      go_wp2
      go_ret2
      exact ⟨hb1, Or.inr ⟨by first | trivial | exact Or.inr HV.out, 0, by decide, rfl⟩⟩
  · have hl' : ((s.length : Int) == (d : Int)) = false := by simp; omega
    go_enter Tryz.func90, Tryz.ntmps90
    go_wp2
    go_ret2
    exact ⟨Below.refl _ _, Or.inr ⟨Or.inl hl, 0, by decide, rfl⟩⟩
end Go.Proofs.YtboigdpcahdidabGreatDoor
