/- The landed sum. -/
import Derived.Test.YtboigdpcahdidabGreatDoorCrM
namespace Go.Proofs.YtboigdpcahdidabGreatDoor
open Go.RowKit
theorem u32_of (a : Nat) (h : a < 2 ^ 32) : (BitVec.ofInt 32 (a : Int)).toNat = a := by
  rw [BitVec.ofInt_natCast, BitVec.toNat_ofNat]; exact Nat.mod_eq_of_lt (by omega)
theorem xorU32 (a b : Nat) (ha : a < 2 ^ 32) (hb : b < 2 ^ 32) : bits .xor .u32 (a : Int) (b : Int) = ((a ^^^ b : Nat) : Int) := by
  have hx : a ^^^ b < 2 ^ 32 := Nat.xor_lt_two_pow ha hb
  show IntKind.u32.wrap ((BitVec.ofInt 32 (a : Int) ^^^ BitVec.ofInt 32 (b : Int)).toNat : Int) = _
  rw [BitVec.toNat_xor, u32_of a ha, u32_of b hb, IntKind.wrap_u32]
  omega
theorem and1U (a : Nat) (ha : a < 2 ^ 32) : bits .and .u32 (a : Int) 1 = ((a % 2 : Nat) : Int) := by
  show IntKind.u32.wrap ((BitVec.ofInt 32 (a : Int) &&& BitVec.ofInt 32 ((1 : Nat) : Int)).toNat : Int) = _
  rw [BitVec.toNat_and, u32_of a ha, u32_of 1 (by decide), IntKind.wrap_u32, Nat.and_one_is_mod]
  omega
set_option maxRecDepth 100000 in
set_option maxHeartbeats 2000000 in
theorem sumOf_any (s : List UInt8) (hs : s.length ≤ 100000) (W : World) :
    Calls Tryz.prog 58 #[.string (Lh.bt s)] W fun e w' => e = .returned (.int .u32 ((Lh.crcL s : Nat) : Int)) ∧ w' = W := by
  go_enter Tryz.func58, Tryz.ntmps58
  have hsz := Lh.bt_size s
  go_wp2_with fail
  go_loop [3, 8] (fun u3 u8 => ∃ i : Nat, i ≤ s.length ∧ u8 = .int .i64 (i : Nat) ∧ u3 = .int .u32 (((s.take i).foldl Lh.crcByte 4294967295 : Nat) : Int)) (fun _ u8 => s.length - (intOf u8).toNat)
  case atStart => exact ⟨0, Nat.zero_le _, rfl, rfl⟩
  case round =>
    obtain ⟨i, hi, rfl, rfl⟩ := hrel
    by_cases hlt : i < s.length
    · have hii : (i : Int) < (s.length : Int) := by omega
      have hbs : i < (Lh.bt s).size := by rw [hsz]; exact hlt
      obtain ⟨b, hb⟩ : ∃ b, (Lh.bt s)[i] = b := ⟨_, rfl⟩
      have hb2 : s[i] = b := hb
      have HSU : Hid ((s.take (i + 1)).foldl Lh.crcByte 4294967295 = Lh.crcByte ((s.take i).foldl Lh.crcByte 4294967295) b) := fold_take Lh.crcByte 4294967295 hlt hb2
      have hc32 : (s.take i).foldl Lh.crcByte 4294967295 < 2 ^ 32 := Lh.crcFold_lt _ (by decide)
      generalize (s.take i).foldl Lh.crcByte 4294967295 = c at *
      have hbt := b.toNat_lt
      have hx0 := xorU32 c b.toNat hc32 (by omega)
      have hbw : IntKind.u32.wrap (b.toNat : Int) = (b.toNat : Int) := by rw [IntKind.wrap_u32]; omega
      have HCX : Hid (c ^^^ b.toNat < 2 ^ 32) := Lh.crcX_lt hc32 b
      have HBY : Hid (Lh.crcByte c b = (List.range 8).foldl (Lh.crcBit 0) (c ^^^ b.toNat)) := Lh.crcByte_xor c b
      go_wp2_with fail
      go_loop [3, 17] (fun u3 u17 => ∃ k : Nat, k ≤ 8 ∧ u17 = .int .i64 (k : Nat) ∧ u3 = .int .u32 (((List.range k).foldl (Lh.crcBit 0) (c ^^^ b.toNat) : Nat) : Int)) (fun _ u17 => 8 - (intOf u17).toNat)
      case atStart => exact ⟨0, Nat.zero_le _, rfl, rfl⟩
      case round =>
        obtain ⟨k, hk, rfl, rfl⟩ := hrel
        by_cases hk8 : k < 8
        · have hki : (k : Int) < 8 := by omega
          have hd32 : (List.range k).foldl (Lh.crcBit 0) (c ^^^ b.toNat) < 2 ^ 32 := Lh.crcK_lt _ HCX.out
          have HSK : Hid ((List.range (k + 1)).foldl (Lh.crcBit 0) (c ^^^ b.toNat) = Lh.crcBit 0 ((List.range k).foldl (Lh.crcBit 0) (c ^^^ b.toNat)) k) := fold_range (Lh.crcBit 0) (c ^^^ b.toNat) k
          generalize (List.range k).foldl (Lh.crcBit 0) (c ^^^ b.toNat) = d at *
          have ha1 := and1U d hd32
          have hd2 : ((d : Int) / 2) = ((d / 2 : Nat) : Int) := by omega
          have hx2 := xorU32 (d / 2) 3988292384 (by omega) (by decide)
          have e0 : (d ^^^ (0 >>> k)) = d := by simp
          cases hbit : (bits .and .u32 (d : Int) 1 == 1) with
          | true =>
            have HB : Hid (d % 2 = 1) := by
              rw [ha1] at hbit
              have : ((d % 2 : Nat) : Int) = 1 := by simpa using hbit
              show _ = 1
              omega
            have HX3 : Hid (bits .xor .u32 ((d : Int) / 2) 3988292384 = ((d / 2 ^^^ 3988292384 : Nat) : Int)) := by
              have : bits .xor .u32 ((d : Int) / 2) 3988292384 = ((d / 2 ^^^ 3988292384 : Nat) : Int) := by rw [hd2]; exact hx2
              exact this
            have HE0 : Hid ((d ^^^ (0 >>> k)) = d) := e0
            clear ha1 hd2 hx2 e0 hx0 hbw hb hb2
            go_wp2
            refine ⟨⟨k + 1, by omega, by go_num, ?_⟩, by simp [intOf]; omega⟩
            rw [HX3.out, HSK.out]
            unfold Lh.crcBit
            rw [HE0.out, if_pos HB.out]
          | false =>
            have HB : Hid (¬ d % 2 = 1) := by
              rw [ha1] at hbit
              show ¬ _
              intro e
              rw [e] at hbit
              cases hbit
            have HD2 : Hid (((d : Int) / 2) = ((d / 2 : Nat) : Int)) := hd2
            have HE0 : Hid ((d ^^^ (0 >>> k)) = d) := e0
            clear ha1 hd2 hx2 e0 hx0 hbw hb hb2
            go_wp2
            refine ⟨⟨k + 1, by omega, by go_num, ?_⟩, by simp [intOf]; omega⟩
            rw [HD2.out, HSK.out]
            unfold Lh.crcBit
            rw [HE0.out, if_neg HB.out]
        · have hk9 : k = 8 := by omega
          have hki : decide ((k : Int) < 8) = false := by simp; omega
          have HK8 : Hid ((List.range k).foldl (Lh.crcBit 0) (c ^^^ b.toNat) = Lh.crcByte c b) := by
            have : (List.range k).foldl (Lh.crcBit 0) (c ^^^ b.toNat) = Lh.crcByte c b := by rw [hk9, HBY.out]
            exact this
          clear hk9
          generalize (List.range k).foldl (Lh.crcBit 0) (c ^^^ b.toNat) = d at *
          clear hx0 hbw hb hb2
          go_wp2
          refine ⟨⟨i + 1, by omega, by go_num, ?_⟩, by simp [intOf]; omega⟩
          rw [HSU.out, HK8.out]
    · have hii : decide ((i : Int) < (s.length : Int)) = false := by simp; omega
      have hie : i = s.length := by omega
      have HR : Hid ((s.take i).foldl Lh.crcByte 4294967295 = Lh.crcRaw s) := by rw [hie, List.take_length]; rfl
      have hc32 : (s.take i).foldl Lh.crcByte 4294967295 < 2 ^ 32 := Lh.crcFold_lt _ (by decide)
      clear hie
      generalize (s.take i).foldl Lh.crcByte 4294967295 = c at *
      have HX : Hid (bits .xor .u32 IntKind.u32.max (c : Int) = ((Lh.crcL s : Nat) : Int)) := by
        have e1 : bits .xor .u32 IntKind.u32.max (c : Int) = ((4294967295 ^^^ c : Nat) : Int) := xorU32 4294967295 c (by decide) hc32
        have e2 : Lh.crcL s = c ^^^ 4294967295 := by rw [HR.out]; rfl
        have e3 : bits .xor .u32 IntKind.u32.max (c : Int) = ((Lh.crcL s : Nat) : Int) := by rw [e1, e2, Nat.xor_comm]
        exact e3
      go_wp2
      go_ret
      refine ⟨?_, rfl⟩
      rw [← HX.out]
      rfl
end Go.Proofs.YtboigdpcahdidabGreatDoor
