/- The landed cutSum. -/
import Derived.Test.YtboigdpcahdidabGreatDoorCbRe
namespace Go.Proofs.YtboigdpcahdidabGreatDoor
open Go.RowKit
namespace Lh
/-- the end of a text that has a sum's line -/
theorem sum_tail {s b d : List UInt8} (h : s = b ++ sumD d ++ [10]) (hd : d.length = 8) : 13 ≤ s.length ∧ s.drop (s.length - 13) = sumW ++ [32] ++ d ++ [10] ∧ s.take (s.length - 13) = b := by
  have hl : s.length = b.length + 13 := by rw [h]; simp [sumD, sumW, hd]
  have e : s = b ++ (sumW ++ [32] ++ d ++ [10]) := by rw [h]; simp [sumD]
  refine ⟨by omega, ?_, ?_⟩
  · rw [show s.length - 13 = b.length by omega, e, List.drop_left]
  · rw [show s.length - 13 = b.length by omega, e, List.take_left]
theorem pre_sum (d : List UInt8) : ([115, 117, 109, 32] : List UInt8).isPrefixOf (sumW ++ [32] ++ d ++ [10]) = true := by
  simp [sumW, List.isPrefixOf]
theorem sum_head {s : List UInt8} (hp : ([115, 117, 109, 32] : List UInt8).isPrefixOf s = true) : s = sumW ++ [32] ++ s.drop 4 := by
  obtain ⟨t, ht⟩ := List.isPrefixOf_iff_prefix.1 hp
  rw [← ht]
  rfl
theorem suf_line {s : List UInt8} (hp : ([10] : List UInt8).isSuffixOf s = true) : s = s.take (s.length - 1) ++ [10] := by
  obtain ⟨t, ht⟩ := List.isSuffixOf_iff_suffix.1 hp
  rw [← ht]
  simp
end Lh
set_option maxRecDepth 100000 in
set_option maxHeartbeats 2000000 in
/-- cutSum -/
theorem cutSum_any {a : Nat → Addr} (s : List UInt8) (hs : s.length ≤ 30000) (w : World) (he : EC a w) :
    Calls Tryz.prog 60 #[.string (Lh.bt s)] w fun e w' => Below w.heap.size w w' ∧
      ((∃ b d k, s = b ++ Lh.sumD d ++ [10] ∧ d.length = 8 ∧ Lh.hexV d = some k ∧ k < 2 ^ 32 ∧ e = .returned (.tuple #[.string (Lh.bt b), .int .u32 (k : Nat), .bool true])) ∨
       ((∀ b d, s = b ++ Lh.sumD d ++ [10] → d.length = 8 → Lh.hexV d = none) ∧ ∃ x y, e = .returned (.tuple #[.string x, .int .u32 y, .bool false]))) := by
  have hsz := Lh.bt_size s
  have HE : Hid (EC a w) := he
  clear he
  by_cases h13 : s.length < 13
  · have HN : Hid (∀ b d, s = b ++ Lh.sumD d ++ [10] → d.length = 8 → Lh.hexV d = none) := fun b d h hd => by
      have := (Lh.sum_tail h hd).1
      omega
    have hlt : (s.length : Int) - 13 < 0 := by omega
    go_enter Tryz.func60, Tryz.ntmps60
    go_wp2
    go_ret3
    exact ⟨Below.refl _ _, Or.inr ⟨HN.out, _, _, rfl⟩⟩
  · obtain ⟨m, hm⟩ : ∃ m, s.length = m + 13 := ⟨s.length - 13, by omega⟩
    have hsub : (s.length : Int) - 13 = (m : Nat) := by omega
    have hle : (m : Int) ≤ (s.length : Int) := by omega
    have hex1 : (Lh.bt s).extract m (m + 13) = Lh.bt (s.drop m) := by
      rw [Lh.bt_extract, List.take_of_length_le (by rw [List.length_drop]; omega)]
    have hex2 : (Lh.bt s).extract 0 m = Lh.bt (s.take m) := by
      rw [Lh.bt_extract]
      simp
    have hdl : (s.drop m).length = 13 := by rw [List.length_drop]; omega
    have HT : Hid (∀ b d, s = b ++ Lh.sumD d ++ [10] → d.length = 8 → s.drop m = Lh.sumW ++ [32] ++ d ++ [10]) := fun b d h hd => by
      have := (Lh.sum_tail h hd).2.1
      rw [show s.length - 13 = m by omega] at this
      exact this
    have hcp := cutPre_any (s.drop m) [115, 117, 109, 32] w
    cases hp : ([115, 117, 109, 32] : List UInt8).isPrefixOf (s.drop m) with
    | false =>
      have HN : Hid (∀ b d, s = b ++ Lh.sumD d ++ [10] → d.length = 8 → Lh.hexV d = none) := fun b d h hd => by
        have := HT.out b d h hd
        rw [this, Lh.pre_sum] at hp
        cases hp
      rw [hp] at hcp
      simp only [Bool.false_eq_true, if_false] at hcp
      clear hp HT
      go_enter Tryz.func60, Tryz.ntmps60
      go_wp2_with fail
      refine hcp.mono ?_
      rintro r w1 ⟨rfl, rfl⟩
      clear hcp
      dsimp only
      go_wp2
      go_ret3
      exact ⟨Below.refl _ _, Or.inr ⟨HN.out, _, _, rfl⟩⟩
    | true =>
      have hh := Lh.sum_head hp
      obtain ⟨t, ht⟩ : ∃ t, (s.drop m).drop 4 = t := ⟨_, rfl⟩
      have htl : t.length = 9 := by rw [← ht, List.length_drop]; omega
      rw [hp] at hcp
      simp only [if_true, List.length_cons, List.length_nil, Nat.zero_add, Nat.reduceAdd, ht] at hcp
      rw [ht] at hh
      have hcs := cutSuf_any t [10] (by omega) w
      cases hq : ([10] : List UInt8).isSuffixOf t with
      | false =>
        have HN : Hid (∀ b d, s = b ++ Lh.sumD d ++ [10] → d.length = 8 → Lh.hexV d = none) := fun b d h hd => by
          have h1 := HT.out b d h hd
          rw [h1] at ht
          have h2 : t = d ++ [10] := by rw [← ht]; rfl
          rw [h2] at hq
          have h3 : ([10] : List UInt8).isSuffixOf (d ++ [10]) = true := List.isSuffixOf_iff_suffix.2 ⟨d, rfl⟩
          rw [h3] at hq
          cases hq
        rw [hq] at hcs
        simp only [Bool.false_eq_true, if_false] at hcs
        clear hp hq HT hh ht
        go_enter Tryz.func60, Tryz.ntmps60
        go_wp2_with fail
        refine hcp.mono ?_
        rintro r w1 ⟨rfl, rfl⟩
        clear hcp
        dsimp only
        go_wp2_with fail
        refine hcs.mono ?_
        rintro r w2 ⟨rfl, rfl⟩
        clear hcs
        dsimp only
        go_wp2
        go_ret3
        exact ⟨Below.refl _ _, Or.inr ⟨HN.out, _, _, rfl⟩⟩
      | true =>
        have hg := Lh.suf_line hq
        obtain ⟨d, hd⟩ : ∃ d, t.take (t.length - 1) = d := ⟨_, rfl⟩
        have hdl8 : d.length = 8 := by rw [← hd, List.length_take]; omega
        rw [hq] at hcs
        simp only [if_true, List.length_cons, List.length_nil, Nat.zero_add, hd] at hcs
        rw [hd] at hg
        have HS : Hid (s = s.take m ++ Lh.sumD d ++ [10]) := by
          have e1 : s = s.take m ++ Lh.sumD d ++ [10] := by
            conv => lhs; rw [← List.take_append_drop m s, hh, hg]
            simp [Lh.sumD]
          exact e1
        have HU : Hid (∀ b d', s = b ++ Lh.sumD d' ++ [10] → d'.length = 8 → d' = d) := fun b d' h h8 => by
          rw [HS.out] at h
          exact (Lh.sum_one hdl8 h8 h).2.symm
        have hrh := readHex_any d (by omega) 8 (by decide) (by decide) w HE.out
        clear hp hq HT hh ht hg hd
        go_enter Tryz.func60, Tryz.ntmps60
        go_wp2_with fail
        refine hcp.mono ?_
        rintro r w1 ⟨rfl, rfl⟩
        clear hcp
        dsimp only
        go_wp2_with fail
        refine hcs.mono ?_
        rintro r w2 ⟨rfl, rfl⟩
        clear hcs
        dsimp only
        go_wp2_with fail
        refine hrh.mono ?_
        rintro r w3 ⟨hb3, ⟨k, h1, h2, h3, rfl⟩ | ⟨h1, k, h2, rfl⟩⟩
        · have HK : Hid (Lh.hexV d = some k ∧ k < 2 ^ 32) := ⟨h2, by have : (16 : Nat) ^ 8 = 2 ^ 32 := by decide
                                                                     omega⟩
          have hw32 : IntKind.u32.wrap (k : Int) = (k : Int) := by
            rw [IntKind.wrap_u32]
            have : (16 : Nat) ^ 8 = 4294967296 := by decide
            omega
          clear hrh h1 h2 h3
          dsimp only
          go_wp2
          go_ret3
          exact ⟨hb3, Or.inl ⟨s.take m, d, k, HS.out, hdl8, HK.out.1, HK.out.2, rfl⟩⟩
        · have HN : Hid (∀ b d, s = b ++ Lh.sumD d ++ [10] → d.length = 8 → Lh.hexV d = none) := fun b d' h h8 => by
            rw [HU.out b d' h h8]
            rcases h1 with h1 | h1
            · exact absurd hdl8 h1
            · exact h1
          clear hrh h1 h2
          dsimp only
          go_wp2
          go_ret3
          exact ⟨hb3, Or.inr ⟨HN.out, _, _, rfl⟩⟩
end Go.Proofs.YtboigdpcahdidabGreatDoor
