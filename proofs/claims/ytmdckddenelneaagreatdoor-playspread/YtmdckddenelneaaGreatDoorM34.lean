/- strconv.ParseUint at base 16, of at most sixteen bytes. -/
import Derived.Test.YtmdckddenelneaaGreatDoorM31
import Derived.Test.YtmdckddenelneaaGreatDoorM26
import Derived.Lib.ConvBytes
import Derived.Test.YtmdckddenelneaaGreatDoorM33
import Derived.Test.YtmdckddenelneaaGreatDoorM25
namespace Go.Proofs.YtmdckddenelneaaGreatDoor
open Go.RowKit
theorem orU8 (c : UInt8) : bits .or .u8 (c.toNat : Int) 32 = (((c ||| 32).toNat : Nat) : Int) := by
  have h1 : (BitVec.ofInt 8 (c.toNat : Int)).toNat = c.toNat := by
    rw [BitVec.ofInt_natCast, BitVec.toNat_ofNat]; exact Nat.mod_eq_of_lt c.toNat_lt
  have h2 : (BitVec.ofInt 8 ((32 : Nat) : Int)).toNat = 32 := by decide
  have h3 := (c ||| 32).toNat_lt
  show IntKind.u8.wrap ((BitVec.ofInt 8 (c.toNat : Int) ||| BitVec.ofInt 8 ((32 : Nat) : Int)).toNat : Int) = _
  rw [BitVec.toNat_or, h1, h2, IntKind.wrap_u8]
  have e : (c ||| 32).toNat = c.toNat ||| 32 := by rw [UInt8.toNat_or]; rfl
  rw [e] at h3 ⊢
  omega
theorem pow16_le {i : Nat} (h : i < 16) : 16 ^ i ≤ 1152921504606846976 := Nat.le_trans (Nat.pow_le_pow_right (by decide) (show i ≤ 15 by omega)) (by decide)
set_option maxHeartbeats 32000000 in
set_option maxRecDepth 100000 in
theorem iparse_any (t : List UInt8) (hne : t ≠ []) (hl : t.length ≤ 16) (w : World) :
    Calls Tryz.prog 237 #[.string (Lh.bt t), .int .i64 16, .int .i64 64] w fun e w' => Below w.heap.size w w' ∧
      ((∃ n, Lh.hexA t = some n ∧ n < 16 ^ t.length ∧ e = .returned (.tuple #[.int .u64 (n : Nat), .nilIface])) ∨ (Lh.hexA t = none ∧ e = .returned (.tuple #[.int .u64 0, .iface 316 (.int .i64 2)]))) := by
  have hsz : (Lh.bt t).size = t.length := by simp [Lh.bt, ByteArray.size]
  have hemp : (Lh.bt t).toList.isEmpty = false := Lh.bt_some hne
  have hcv := Lib.run_convert_string_bytes (P := Tryz.prog) w 9 261 5 (Lh.bt t) (u := .string) Tryz.underlying9 Tryz.underlying261 Tryz.underlying5
  have hB : ∀ j (hj : j < t.length), (Lib.bytesWorld w 5 (Lh.bt t)).cell? ⟨w.heap.size, j, none⟩ = some (.int .u8 (t[j].toNat : Nat)) := fun j hj => by
    have := Lib.bytesWorld_cell w 5 (Lh.bt t) j (by omega)
    rw [this, Lh.bt_data, List.getD_eq_getElem?_getD, List.getElem?_eq_getElem hj]
    rfl
  have HBL : Hid (Below w.heap.size w (Lib.bytesWorld w 5 (Lh.bt t))) := Lib.bytesWorld_below w _ _
  obtain ⟨W1, hW1⟩ : ∃ W1, W1 = Lib.bytesWorld w 5 (Lh.bt t) := ⟨_, rfl⟩
  rw [← hW1] at hcv hB HBL
  clear hW1 hne
  have HB : Hid (∀ j (hj : j < t.length), W1.cell? ⟨w.heap.size, j, none⟩ = some (.int .u8 (t[j].toNat : Nat))) := hB
  clear hB
  have hmv : IntKind.u64.wrap (IntKind.u64.wrap 18446744073709551616 - 1) = 18446744073709551615 := by
    rw [IntKind.wrap_u64, IntKind.wrap_u64]
    decide
  go_enter Tryz.func237, Tryz.ntmps237
  go_wp2
  go_loop [12, 13, 101] (fun vu vn vi => ∃ (k acc : Nat) (a : Int), vu = .bool false ∧ vn = .int .u64 a ∧ vi = .int .i64 (k : Nat) ∧ k ≤ t.length ∧ Hid (a = (acc : Int) ∧ acc < 16 ^ k ∧ Lh.hexA (t.take k) = some acc))
    (fun _ _ vi => t.length - (intOf vi).toNat)
  case atStart => exact ⟨0, 0, 0, rfl, rfl, rfl, by omega, rfl, by decide, rfl⟩
  case round =>
    obtain ⟨k, acc, a, rfl, rfl, rfl, hk, hh⟩ := hrel
    obtain ⟨ha, hacc, hdec⟩ := hh.out
    clear hh
    have a0 : 0 ≤ a := by omega
    by_cases hkn : k < t.length
    · have hc := HB.out k hkn
      have hp := pow16_le (show k < 16 by omega)
      have a1 : a < 1152921504606846976 := by omega
      have hc256 : t[k].toNat < 256 := t[k].toNat_lt
      have hor := orU8 t[k]
      have hu256 : (t[k] ||| 32).toNat < 256 := (t[k] ||| 32).toNat_lt
      cases hx : Lh.hxA t[k] with
      | some d =>
        have hd16 := Lh.hxA_lt hx
        have HN : Hid (a * 16 + (d : Int) = ((16 * acc + d : Nat) : Int) ∧ 16 * acc + d < 16 ^ (k + 1) ∧ Lh.hexA (t.take (k + 1)) = some (16 * acc + d)) := Lib.hid ⟨by omega, by rw [Nat.pow_succ]; omega, Lh.hexA_take hkn hdec hx⟩
        unfold Lh.hxA at hx
        generalize t[k].toNat = c at *
        generalize (t[k] ||| 32).toNat = u at *
        clear hdec ha hacc hp
        by_cases hdig : 48 ≤ c ∧ c ≤ 57
        · obtain ⟨hd0, hd1⟩ := hdig
          rw [if_pos ⟨hd0, hd1⟩] at hx
          have hdc : (c : Int) - 48 = (d : Int) := by cases hx; omega
          clear hx hor
          go_wp2
          refine ⟨⟨k + 1, 16 * acc + d, a * 16 + (d : Int), rfl, rfl, by go_num, by omega, HN⟩, by simp [intOf]; omega⟩
        · rw [if_neg hdig] at hx
          by_cases hlet : 97 ≤ u ∧ u ≤ 102
          · obtain ⟨hl0, hl1⟩ := hlet
            rw [if_pos ⟨hl0, hl1⟩] at hx
            have hdc : (u : Int) - 97 + 10 = (d : Int) := by cases hx; omega
            have hud : decide ((48 : Int) ≤ (c : Int)) = false ∨ ((48 : Int) ≤ (c : Int) ∧ decide ((c : Int) ≤ 57) = false) := by
              rcases Nat.lt_or_ge c 48 with h | h
              · left; simp; omega
              · right; refine ⟨by omega, ?_⟩; simp; omega
            clear hx
            cases h95 : ((c : Int) == 95) <;> rcases hud with hud | ⟨hud0, hud⟩
            all_goals
              go_wp2
              refine ⟨⟨k + 1, 16 * acc + d, a * 16 + (d : Int), rfl, rfl, by go_num, by omega, HN⟩, by simp [intOf]; omega⟩
          · rw [if_neg hlet] at hx
            cases hx
      | none =>
        have HN : Hid (Lh.hexA t = none) := Lh.hexA_bad hkn hx
        unfold Lh.hxA at hx
        generalize t[k].toNat = c at *
        generalize (t[k] ||| 32).toNat = u at *
        clear hdec ha hacc hp
        have hdig : ¬ (48 ≤ c ∧ c ≤ 57) := fun h => by rw [if_pos h] at hx; cases hx
        rw [if_neg hdig] at hx
        have hlet : ¬ (97 ≤ u ∧ u ≤ 102) := fun h => by rw [if_pos h] at hx; cases hx
        clear hx
        have hud : decide ((48 : Int) ≤ (c : Int)) = false ∨ ((48 : Int) ≤ (c : Int) ∧ decide ((c : Int) ≤ 57) = false) := by
          rcases Nat.lt_or_ge c 48 with h | h
          · left; simp; omega
          · right; refine ⟨by omega, ?_⟩; simp; omega
        rcases Nat.lt_or_ge u 97 with h | h
        · have hu : decide ((97 : Int) ≤ (u : Int)) = false := by simp; omega
          cases h95 : ((c : Int) == 95) <;> rcases hud with hud | ⟨hud0, hud⟩
          all_goals
            go_wp2
            go_ret2
            exact ⟨HBL.out, Or.inr ⟨HN.out, rfl⟩⟩
        · rcases Nat.lt_or_ge 122 u with h2 | h2
          · have hu : decide ((u : Int) ≤ 122) = false := by simp; omega
            have hu1 : (97 : Int) ≤ (u : Int) := by omega
            cases h95 : ((c : Int) == 95) <;> rcases hud with hud | ⟨hud0, hud⟩
            all_goals
              go_wp2
              go_ret2
              exact ⟨HBL.out, Or.inr ⟨HN.out, rfl⟩⟩
          · have hu1 : (97 : Int) ≤ (u : Int) := by omega
            have hu2 : (u : Int) ≤ 122 := by omega
            have hu3 : (16 : Int) ≤ (u : Int) - 97 + 10 := by omega
            cases h95 : ((c : Int) == 95) <;> rcases hud with hud | ⟨hud0, hud⟩
            all_goals
              go_wp2
              go_ret2
              exact ⟨HBL.out, Or.inr ⟨HN.out, rfl⟩⟩
    · have hkk : k = t.length := by omega
      subst hkk
      rw [List.take_length] at hdec
      have HD : Hid (Lh.hexA t = some acc ∧ acc < 16 ^ t.length) := ⟨hdec, hacc⟩
      subst ha
      clear hdec hacc a0
      go_wp2
      go_ret2
      exact ⟨HBL.out, Or.inl ⟨acc, HD.out.1, HD.out.2, rfl⟩⟩
end Go.Proofs.YtmdckddenelneaaGreatDoor

/- The landed hexText and readHex. -/
namespace Go.Proofs.YtmdckddenelneaaGreatDoor
open Go.RowKit
set_option maxHeartbeats 2000000 in
set_option maxRecDepth 100000 in
theorem fmt_any (n : Nat) (hn : n < 18446744073709551616) (w : World) (h : w.cell? ⟨15, 15, none⟩ = some (.int .u8 4)) :
    Calls Tryz.prog 205 #[.int .u64 (n : Nat), .int .i64 16] w fun e w' => e = .returned (.string (Lh.bt (Lh.hexD n))) ∧ Below w.heap.size w w' := by
  have hf := fbits_any n hn w h
  go_enter Tryz.func205, Tryz.ntmps205
  go_wp2_with (first | (go_at_call 218; go_in) | (go_at_call 232; refine hf.mono ?_; rintro e w1 ⟨rfl, hb1⟩))
  go_ret
  exact ⟨rfl, hb1⟩
set_option maxHeartbeats 2000000 in
set_option maxRecDepth 100000 in
/-- hexText: so many digits. -/
theorem hexT_any {a : Nat → Addr} (n d : Nat) (hd : d ≤ 16) (hd0 : 0 < d) (hn : n < 16 ^ d) (w : World) (he : EC a w) :
    Calls Tryz.prog 185 #[.int .u64 (n : Nat), .int .i64 (d : Nat)] w fun e w' => e = .returned (.string (Lh.bt (Lh.hexL d n))) ∧ Below w.heap.size w w' := by
  have hn64 : n < 18446744073709551616 := Nat.lt_of_lt_of_le hn (Nat.le_trans (Nat.pow_le_pow_right (by decide) hd) (by decide))
  have hf := fmt_any n hn64 w he.brj
  obtain ⟨hl, hfill⟩ : (Lh.hexD n).length ≤ d ∧ List.replicate (d - (Lh.hexD n).length) 48 ++ Lh.hexD n = Lh.hexL d n := by
    obtain ⟨k, rfl⟩ : ∃ k, d = k + 1 := ⟨d - 1, by omega⟩
    exact Lh.hexD_fill k n hn
  have HF : Hid (List.replicate (d - (Lh.hexD n).length) 48 ++ Lh.hexD n = Lh.hexL d n) := hfill
  have hsz : (Lh.bt (Lh.hexD n)).size = (Lh.hexD n).length := by simp [Lh.bt, ByteArray.size]
  clear hfill he
  go_enter Tryz.func185, Tryz.ntmps185
  go_wp2_with fail
  refine hf.mono ?_
  rintro e w1 ⟨rfl, hb1⟩
  clear hf
  have hr := repeat_any (d - (Lh.hexD n).length) (by omega) w1
  have hsub : (d : Int) - ((Lh.hexD n).length : Int) = ((d - (Lh.hexD n).length : Nat) : Int) := by omega
  have hs2 : (Lh.bt (List.replicate (d - (Lh.hexD n).length) 48)).size + (Lh.bt (Lh.hexD n)).size ≤ 1000 := by
    simp [Lh.bt, ByteArray.size]
    omega
  go_wp2_with fail
  refine hr.mono ?_
  rintro e w2 ⟨rfl, hb2⟩
  clear hr
  go_wp2
  go_ret
  refine ⟨?_, below_then hb1 hb2⟩
  rw [← HF.out, ← Lh.bt_append]
  rfl
set_option maxHeartbeats 2000000 in
set_option maxRecDepth 100000 in
theorem parse_any {a : Nat → Addr} (t : List UInt8) (hne : t ≠ []) (hl : t.length ≤ 16) (w : World) (he : EC a w) :
    Calls Tryz.prog 224 #[.string (Lh.bt t), .int .i64 16, .int .i64 64] w fun e w' => Below w.heap.size w w' ∧
      ((∃ n, Lh.hexA t = some n ∧ n < 16 ^ t.length ∧ e = .returned (.tuple #[.int .u64 (n : Nat), .nilIface])) ∨ (Lh.hexA t = none ∧ ∃ ty p, e = .returned (.tuple #[.int .u64 0, .iface ty p]))) := by
  have hp := iparse_any t hne hl w
  have HE : Hid (EC a w) := he
  have hsz : (Lh.bt t).size = t.length := by simp [Lh.bt, ByteArray.size]
  clear he hne
  go_enter Tryz.func224, Tryz.ntmps224
  go_wp2_with fail
  refine hp.mono ?_
  rintro e w1 ⟨hb1, ⟨n, h1, h2, rfl⟩ | ⟨h1, rfl⟩⟩
  · have HN : Hid (Lh.hexA t = some n ∧ n < 16 ^ t.length) := ⟨h1, h2⟩
    clear hp h1 h2
    go_wp2
    go_ret2
    exact ⟨hb1, Or.inl ⟨n, HN.out.1, HN.out.2, rfl⟩⟩
  · have HN : Hid (Lh.hexA t = none) := h1
    have ht := toErr_any (a := a) ⟨#[80, 97, 114, 115, 101, 85, 105, 110, 116]⟩ (Lh.bt t) (by omega) 16 64 w1 (HE.out.later hb1)
    clear hp h1
    go_wp2_with fail
    refine ht.mono ?_
    rintro e w2 ⟨⟨ty, p, rfl⟩, hb2⟩
    clear ht
    go_wp2
    go_ret2
    exact ⟨below_then hb1 hb2, Or.inr ⟨HN.out, _, _, rfl⟩⟩
set_option maxHeartbeats 2000000 in
set_option maxRecDepth 100000 in
/-- readHex: a number of so many digits as the document has it, or none. -/
theorem readHex_any {a : Nat → Addr} (s : List UInt8) (_hs : s.length ≤ 100000) (d : Nat) (hd : d ≤ 16) (hd0 : 0 < d) (w : World) (he : EC a w) :
    Calls Tryz.prog 209 #[.string (Lh.bt s), .int .i64 (d : Nat)] w fun e w' => Below w.heap.size w w' ∧
      ((∃ n, s.length = d ∧ Lh.hexV s = some n ∧ n < 16 ^ d ∧ e = .returned (.tuple #[.int .u64 (n : Nat), .bool true])) ∨ ((s.length ≠ d ∨ Lh.hexV s = none) ∧ ∃ n : Nat, n < 18446744073709551616 ∧ e = .returned (.tuple #[.int .u64 (n : Nat), .bool false]))) := by
  have hsz : (Lh.bt s).size = s.length := by simp [Lh.bt, ByteArray.size]
  have HE : Hid (EC a w) := he
  clear he
  by_cases hl : s.length = d
  · subst hl
    have hne : s ≠ [] := fun e => by rw [e] at hd0; simp at hd0
    have hp := parse_any s hne hd w HE.out
    go_enter Tryz.func209, Tryz.ntmps209
    go_wp2_with fail
    refine hp.mono ?_
    rintro e w1 ⟨hb1, ⟨n, h1, h2, rfl⟩ | ⟨h1, ty, p, rfl⟩⟩
    · have hn64 : n < 18446744073709551616 := Nat.lt_of_lt_of_le h2 (Nat.le_trans (Nat.pow_le_pow_right (by decide) hd) (by decide))
      have ht := hexT_any n s.length hd hd0 h2 w1 (HE.out.later hb1)
      cases hv : Lh.hexV s with
      | some m =>
        have hm : m = n := by
          have := Lh.hexV_hexA hv
          rw [h1] at this
          cases this
          rfl
        subst hm
        have hq := (Lh.hexL_hexV hv).1
        have HV : Hid (Lh.hexV s = some m ∧ m < 16 ^ s.length) := ⟨hv, h2⟩
        rw [hq] at ht
        have heq : ((Lh.bt s).toList == (Lh.bt s).toList) = true := by simp
        clear hp h1 h2 hv hq
        go_wp2_with (first | (go_at_call 185; refine ht.mono ?_; rintro e w2 ⟨rfl, hb2⟩))
        go_ret2
        exact ⟨below_then hb1 hb2, Or.inl ⟨m, by trivial, HV.out.1, HV.out.2, rfl⟩⟩
      | none =>
        have HV : Hid (Lh.hexV s = none) := hv
        have heq : ((Lh.bt (Lh.hexL s.length n)).toList == (Lh.bt s).toList) = false := by
          rw [Lh.bt_list, Lh.bt_list, beq_eq_false_iff_ne]
          exact Lh.hexV_neq hv h2
        clear hp h1 h2 hv
        go_wp2_with (first | (go_at_call 185; refine ht.mono ?_; rintro e w2 ⟨rfl, hb2⟩))
        go_ret2
        exact ⟨below_then hb1 hb2, Or.inr ⟨by first | trivial | exact Or.inr HV.out, n, hn64, rfl⟩⟩
    · have hvn : Lh.hexV s = none := by
        cases hv : Lh.hexV s with
        | none => rfl
        | some m =>
          have := Lh.hexV_hexA hv
          rw [h1] at this
          cases this
      have HV : Hid (Lh.hexV s = none) := hvn
      clear hvn
      clear hp h1
      go_wp2
      go_ret2
      exact ⟨hb1, Or.inr ⟨by first | trivial | exact Or.inr HV.out, 0, by decide, rfl⟩⟩
  · have hl' : ((s.length : Int) == (d : Int)) = false := by simp; omega
    go_enter Tryz.func209, Tryz.ntmps209
    go_wp2
    go_ret2
    exact ⟨Below.refl _ _, Or.inr ⟨Or.inl hl, 0, by decide, rfl⟩⟩
end Go.Proofs.YtmdckddenelneaaGreatDoor

/- The landed sum. -/
namespace Go.Proofs.YtmdckddenelneaaGreatDoor
open Go.RowKit
theorem u32_of (a : Nat) (h : a < 2 ^ 32) : (BitVec.ofInt 32 (a : Int)).toNat = a := by
  rw [BitVec.ofInt_natCast, BitVec.toNat_ofNat]; exact Nat.mod_eq_of_lt (by omega)
theorem xorU32 (a b : Nat) (ha : a < 2 ^ 32) (hb : b < 2 ^ 32) : bits .xor .u32 (a : Int) (b : Int) = ((a ^^^ b : Nat) : Int) := by
  have hx : a ^^^ b < 2 ^ 32 := Nat.xor_lt_two_pow ha hb
  show IntKind.u32.wrap ((BitVec.ofInt 32 (a : Int) ^^^ BitVec.ofInt 32 (b : Int)).toNat : Int) = _
  rw [BitVec.toNat_xor, u32_of a ha, u32_of b hb, IntKind.wrap_u32]
  omega
theorem and1U (a : Nat) (ha : a < 2 ^ 32) : bits .and .u32 (a : Int) 1 = ((a % 2 : Nat) : Int) := by
  show IntKind.u32.wrap ((BitVec.ofInt 32 (a : Int) &&& BitVec.ofInt 32 ((1 : Nat) : Int)).toNat : Int) = _
  rw [BitVec.toNat_and, u32_of a ha, u32_of 1 (by decide), IntKind.wrap_u32, Nat.and_one_is_mod]
  omega
set_option maxRecDepth 100000 in
set_option maxHeartbeats 2000000 in
theorem sumOf_any (s : List UInt8) (hs : s.length ≤ 100000) (W : World) :
    Calls Tryz.prog 186 #[.string (Lh.bt s)] W fun e w' => e = .returned (.int .u32 ((Lh.crcL s : Nat) : Int)) ∧ w' = W := by
  go_enter Tryz.func186, Tryz.ntmps186
  have hsz := Lh.bt_size s
  go_wp2_with fail
  go_loop [3, 8] (fun u3 u8 => ∃ i : Nat, i ≤ s.length ∧ u8 = .int .i64 (i : Nat) ∧ u3 = .int .u32 (((s.take i).foldl Lh.crcByte 4294967295 : Nat) : Int)) (fun _ u8 => s.length - (intOf u8).toNat)
  case atStart => exact ⟨0, Nat.zero_le _, rfl, rfl⟩
  case round =>
    obtain ⟨i, hi, rfl, rfl⟩ := hrel
    by_cases hlt : i < s.length
    · have hii : (i : Int) < (s.length : Int) := by omega
      have hbs : i < (Lh.bt s).size := by rw [hsz]; exact hlt
      obtain ⟨b, hb⟩ : ∃ b, (Lh.bt s)[i] = b := ⟨_, rfl⟩
      have hb2 : s[i] = b := hb
      have HSU : Hid ((s.take (i + 1)).foldl Lh.crcByte 4294967295 = Lh.crcByte ((s.take i).foldl Lh.crcByte 4294967295) b) := fold_take Lh.crcByte 4294967295 hlt hb2
      have hc32 : (s.take i).foldl Lh.crcByte 4294967295 < 2 ^ 32 := Lh.crcFold_lt _ (by decide)
      generalize (s.take i).foldl Lh.crcByte 4294967295 = c at *
      have hbt := b.toNat_lt
      have hx0 := xorU32 c b.toNat hc32 (by omega)
      have hbw : IntKind.u32.wrap (b.toNat : Int) = (b.toNat : Int) := by rw [IntKind.wrap_u32]; omega
      have HCX : Hid (c ^^^ b.toNat < 2 ^ 32) := Lh.crcX_lt hc32 b
      have HBY : Hid (Lh.crcByte c b = (List.range 8).foldl (Lh.crcBit 0) (c ^^^ b.toNat)) := Lh.crcByte_xor c b
      go_wp2_with fail
      go_loop [3, 17] (fun u3 u17 => ∃ k : Nat, k ≤ 8 ∧ u17 = .int .i64 (k : Nat) ∧ u3 = .int .u32 (((List.range k).foldl (Lh.crcBit 0) (c ^^^ b.toNat) : Nat) : Int)) (fun _ u17 => 8 - (intOf u17).toNat)
      case atStart => exact ⟨0, Nat.zero_le _, rfl, rfl⟩
      case round =>
        obtain ⟨k, hk, rfl, rfl⟩ := hrel
        by_cases hk8 : k < 8
        · have hki : (k : Int) < 8 := by omega
          have hd32 : (List.range k).foldl (Lh.crcBit 0) (c ^^^ b.toNat) < 2 ^ 32 := Lh.crcK_lt _ HCX.out
          have HSK : Hid ((List.range (k + 1)).foldl (Lh.crcBit 0) (c ^^^ b.toNat) = Lh.crcBit 0 ((List.range k).foldl (Lh.crcBit 0) (c ^^^ b.toNat)) k) := fold_range (Lh.crcBit 0) (c ^^^ b.toNat) k
          generalize (List.range k).foldl (Lh.crcBit 0) (c ^^^ b.toNat) = d at *
          have ha1 := and1U d hd32
          have hd2 : ((d : Int) / 2) = ((d / 2 : Nat) : Int) := by omega
          have hx2 := xorU32 (d / 2) 3988292384 (by omega) (by decide)
          have e0 : (d ^^^ (0 >>> k)) = d := by simp
          cases hbit : (bits .and .u32 (d : Int) 1 == 1) with
          | true =>
            have HB : Hid (d % 2 = 1) := by
              rw [ha1] at hbit
              have : ((d % 2 : Nat) : Int) = 1 := by simpa using hbit
              show _ = 1
              omega
            have HX3 : Hid (bits .xor .u32 ((d : Int) / 2) 3988292384 = ((d / 2 ^^^ 3988292384 : Nat) : Int)) := by
              have : bits .xor .u32 ((d : Int) / 2) 3988292384 = ((d / 2 ^^^ 3988292384 : Nat) : Int) := by rw [hd2]; exact hx2
              exact this
            have HE0 : Hid ((d ^^^ (0 >>> k)) = d) := e0
            clear ha1 hd2 hx2 e0 hx0 hbw hb hb2
            go_wp2
            refine ⟨⟨k + 1, by omega, by go_num, ?_⟩, by simp [intOf]; omega⟩
            rw [HX3.out, HSK.out]
            unfold Lh.crcBit
            rw [HE0.out, if_pos HB.out]
          | false =>
            have HB : Hid (¬ d % 2 = 1) := by
              rw [ha1] at hbit
              show ¬ _
              intro e
              rw [e] at hbit
              cases hbit
            have HD2 : Hid (((d : Int) / 2) = ((d / 2 : Nat) : Int)) := hd2
            have HE0 : Hid ((d ^^^ (0 >>> k)) = d) := e0
            clear ha1 hd2 hx2 e0 hx0 hbw hb hb2
            go_wp2
            refine ⟨⟨k + 1, by omega, by go_num, ?_⟩, by simp [intOf]; omega⟩
            rw [HD2.out, HSK.out]
            unfold Lh.crcBit
            rw [HE0.out, if_neg HB.out]
        · have hk9 : k = 8 := by omega
          have hki : decide ((k : Int) < 8) = false := by simp; omega
          have HK8 : Hid ((List.range k).foldl (Lh.crcBit 0) (c ^^^ b.toNat) = Lh.crcByte c b) := by
            have : (List.range k).foldl (Lh.crcBit 0) (c ^^^ b.toNat) = Lh.crcByte c b := by rw [hk9, HBY.out]
            exact this
          clear hk9
          generalize (List.range k).foldl (Lh.crcBit 0) (c ^^^ b.toNat) = d at *
          clear hx0 hbw hb hb2
          go_wp2
          refine ⟨⟨i + 1, by omega, by go_num, ?_⟩, by simp [intOf]; omega⟩
          rw [HSU.out, HK8.out]
    · have hii : decide ((i : Int) < (s.length : Int)) = false := by simp; omega
      have hie : i = s.length := by omega
      have HR : Hid ((s.take i).foldl Lh.crcByte 4294967295 = Lh.crcRaw s) := by rw [hie, List.take_length]; rfl
      have hc32 : (s.take i).foldl Lh.crcByte 4294967295 < 2 ^ 32 := Lh.crcFold_lt _ (by decide)
      clear hie
      generalize (s.take i).foldl Lh.crcByte 4294967295 = c at *
      have HX : Hid (bits .xor .u32 IntKind.u32.max (c : Int) = ((Lh.crcL s : Nat) : Int)) := by
        have e1 : bits .xor .u32 IntKind.u32.max (c : Int) = ((4294967295 ^^^ c : Nat) : Int) := xorU32 4294967295 c (by decide) hc32
        have e2 : Lh.crcL s = c ^^^ 4294967295 := by rw [HR.out]; rfl
        have e3 : bits .xor .u32 IntKind.u32.max (c : Int) = ((Lh.crcL s : Nat) : Int) := by rw [e1, e2, Nat.xor_comm]
        exact e3
      go_wp2
      go_ret
      refine ⟨?_, rfl⟩
      rw [← HX.out]
      rfl
end Go.Proofs.YtmdckddenelneaaGreatDoor
