/- strconv.ParseUint at base 16, of at most sixteen bytes. -/
import Derived.Test.YtboigdpcahdidabDoorCbLib
import Derived.Test.YtboigdpcahdidabDoorMbM
import Derived.Lib.ConvBytes
namespace Go.Proofs.YtboigdpcahdidabDoor
open Go.RowKit
theorem orU8 (c : UInt8) : bits .or .u8 (c.toNat : Int) 32 = (((c ||| 32).toNat : Nat) : Int) := by
  have h1 : (BitVec.ofInt 8 (c.toNat : Int)).toNat = c.toNat := by
    rw [BitVec.ofInt_natCast, BitVec.toNat_ofNat]; exact Nat.mod_eq_of_lt c.toNat_lt
  have h2 : (BitVec.ofInt 8 ((32 : Nat) : Int)).toNat = 32 := by decide
  have h3 := (c ||| 32).toNat_lt
  show IntKind.u8.wrap ((BitVec.ofInt 8 (c.toNat : Int) ||| BitVec.ofInt 8 ((32 : Nat) : Int)).toNat : Int) = _
  rw [BitVec.toNat_or, h1, h2, IntKind.wrap_u8]
  have e : (c ||| 32).toNat = c.toNat ||| 32 := by rw [UInt8.toNat_or]; rfl
  rw [e] at h3 ⊢
  omega
theorem pow16_le {i : Nat} (h : i < 16) : 16 ^ i ≤ 1152921504606846976 := Nat.le_trans (Nat.pow_le_pow_right (by decide) (show i ≤ 15 by omega)) (by decide)
set_option maxHeartbeats 32000000 in
set_option maxRecDepth 100000 in
theorem iparse_any (t : List UInt8) (hne : t ≠ []) (hl : t.length ≤ 16) (w : World) :
    Calls Tryd.prog 215 #[.string (Lh.bt t), .int .i64 16, .int .i64 64] w fun e w' => Below w.heap.size w w' ∧
      ((∃ n, Lh.hexA t = some n ∧ n < 16 ^ t.length ∧ e = .returned (.tuple #[.int .u64 (n : Nat), .nilIface])) ∨ (Lh.hexA t = none ∧ e = .returned (.tuple #[.int .u64 0, .iface 304 (.int .i64 2)]))) := by
  have hsz : (Lh.bt t).size = t.length := by simp [Lh.bt, ByteArray.size]
  have hemp : (Lh.bt t).toList.isEmpty = false := Lh.bt_some hne
  have hcv := Lib.run_convert_string_bytes (P := Tryd.prog) w 9 97 5 (Lh.bt t) (u := .string) Tryd.underlying9 Tryd.underlying97 Tryd.underlying5
  have hB : ∀ j (hj : j < t.length), (Lib.bytesWorld w 5 (Lh.bt t)).cell? ⟨w.heap.size, j, none⟩ = some (.int .u8 (t[j].toNat : Nat)) := fun j hj => by
    have := Lib.bytesWorld_cell w 5 (Lh.bt t) j (by omega)
    rw [this, Lh.bt_data, List.getD_eq_getElem?_getD, List.getElem?_eq_getElem hj]
    rfl
  have HBL : Hid (Below w.heap.size w (Lib.bytesWorld w 5 (Lh.bt t))) := Lib.bytesWorld_below w _ _
  obtain ⟨W1, hW1⟩ : ∃ W1, W1 = Lib.bytesWorld w 5 (Lh.bt t) := ⟨_, rfl⟩
  rw [← hW1] at hcv hB HBL
  clear hW1 hne
  have HB : Hid (∀ j (hj : j < t.length), W1.cell? ⟨w.heap.size, j, none⟩ = some (.int .u8 (t[j].toNat : Nat))) := hB
  clear hB
  have hmv : IntKind.u64.wrap (IntKind.u64.wrap 18446744073709551616 - 1) = 18446744073709551615 := by
    rw [IntKind.wrap_u64, IntKind.wrap_u64]
    decide
  go_enter Tryd.func215, Tryd.ntmps215
  go_wp2
  go_loop [12, 13, 101] (fun vu vn vi => ∃ (k acc : Nat) (a : Int), vu = .bool false ∧ vn = .int .u64 a ∧ vi = .int .i64 (k : Nat) ∧ k ≤ t.length ∧ Hid (a = (acc : Int) ∧ acc < 16 ^ k ∧ Lh.hexA (t.take k) = some acc))
    (fun _ _ vi => t.length - (intOf vi).toNat)
  case atStart => exact ⟨0, 0, 0, rfl, rfl, rfl, by omega, rfl, by decide, rfl⟩
  case round =>
    obtain ⟨k, acc, a, rfl, rfl, rfl, hk, hh⟩ := hrel
    obtain ⟨ha, hacc, hdec⟩ := hh.out
    clear hh
    have a0 : 0 ≤ a := by omega
    by_cases hkn : k < t.length
    · have hc := HB.out k hkn
      have hp := pow16_le (show k < 16 by omega)
      have a1 : a < 1152921504606846976 := by omega
      have hc256 : t[k].toNat < 256 := t[k].toNat_lt
      have hor := orU8 t[k]
      have hu256 : (t[k] ||| 32).toNat < 256 := (t[k] ||| 32).toNat_lt
      cases hx : Lh.hxA t[k] with
      | some d =>
        have hd16 := Lh.hxA_lt hx
        have HN : Hid (a * 16 + (d : Int) = ((16 * acc + d : Nat) : Int) ∧ 16 * acc + d < 16 ^ (k + 1) ∧ Lh.hexA (t.take (k + 1)) = some (16 * acc + d)) := Lib.hid ⟨by omega, by rw [Nat.pow_succ]; omega, Lh.hexA_take hkn hdec hx⟩
        unfold Lh.hxA at hx
        generalize t[k].toNat = c at *
        generalize (t[k] ||| 32).toNat = u at *
        clear hdec ha hacc hp
        by_cases hdig : 48 ≤ c ∧ c ≤ 57
        · obtain ⟨hd0, hd1⟩ := hdig
          rw [if_pos ⟨hd0, hd1⟩] at hx
          have hdc : (c : Int) - 48 = (d : Int) := by cases hx; omega
          clear hx hor
          go_wp2
          refine ⟨⟨k + 1, 16 * acc + d, a * 16 + (d : Int), rfl, rfl, by go_num, by omega, HN⟩, by simp [intOf]; omega⟩
        · rw [if_neg hdig] at hx
          by_cases hlet : 97 ≤ u ∧ u ≤ 102
          · obtain ⟨hl0, hl1⟩ := hlet
            rw [if_pos ⟨hl0, hl1⟩] at hx
            have hdc : (u : Int) - 97 + 10 = (d : Int) := by cases hx; omega
            have hud : decide ((48 : Int) ≤ (c : Int)) = false ∨ ((48 : Int) ≤ (c : Int) ∧ decide ((c : Int) ≤ 57) = false) := by
              rcases Nat.lt_or_ge c 48 with h | h
              · left; simp; omega
              · right; refine ⟨by omega, ?_⟩; simp; omega
            clear hx
            cases h95 : ((c : Int) == 95) <;> rcases hud with hud | ⟨hud0, hud⟩
            all_goals
              go_wp2
              refine ⟨⟨k + 1, 16 * acc + d, a * 16 + (d : Int), rfl, rfl, by go_num, by omega, HN⟩, by simp [intOf]; omega⟩
          · rw [if_neg hlet] at hx
            cases hx
      | none =>
        have HN : Hid (Lh.hexA t = none) := Lh.hexA_bad hkn hx
        unfold Lh.hxA at hx
        generalize t[k].toNat = c at *
        generalize (t[k] ||| 32).toNat = u at *
        clear hdec ha hacc hp
        have hdig : ¬ (48 ≤ c ∧ c ≤ 57) := fun h => by rw [if_pos h] at hx; cases hx
        rw [if_neg hdig] at hx
        have hlet : ¬ (97 ≤ u ∧ u ≤ 102) := fun h => by rw [if_pos h] at hx; cases hx
        clear hx
        have hud : decide ((48 : Int) ≤ (c : Int)) = false ∨ ((48 : Int) ≤ (c : Int) ∧ decide ((c : Int) ≤ 57) = false) := by
          rcases Nat.lt_or_ge c 48 with h | h
          · left; simp; omega
          · right; refine ⟨by omega, ?_⟩; simp; omega
        rcases Nat.lt_or_ge u 97 with h | h
        · have hu : decide ((97 : Int) ≤ (u : Int)) = false := by simp; omega
          cases h95 : ((c : Int) == 95) <;> rcases hud with hud | ⟨hud0, hud⟩
          all_goals
            go_wp2
            go_ret2
            exact ⟨HBL.out, Or.inr ⟨HN.out, rfl⟩⟩
        · rcases Nat.lt_or_ge 122 u with h2 | h2
          · have hu : decide ((u : Int) ≤ 122) = false := by simp; omega
            have hu1 : (97 : Int) ≤ (u : Int) := by omega
            cases h95 : ((c : Int) == 95) <;> rcases hud with hud | ⟨hud0, hud⟩
            all_goals
              go_wp2
              go_ret2
              exact ⟨HBL.out, Or.inr ⟨HN.out, rfl⟩⟩
          · have hu1 : (97 : Int) ≤ (u : Int) := by omega
            have hu2 : (u : Int) ≤ 122 := by omega
            have hu3 : (16 : Int) ≤ (u : Int) - 97 + 10 := by omega
            cases h95 : ((c : Int) == 95) <;> rcases hud with hud | ⟨hud0, hud⟩
            all_goals
              go_wp2
              go_ret2
              exact ⟨HBL.out, Or.inr ⟨HN.out, rfl⟩⟩
    · have hkk : k = t.length := by omega
      subst hkk
      rw [List.take_length] at hdec
      have HD : Hid (Lh.hexA t = some acc ∧ acc < 16 ^ t.length) := ⟨hdec, hacc⟩
      subst ha
      clear hdec hacc a0
      go_wp2
      go_ret2
      exact ⟨HBL.out, Or.inl ⟨acc, HD.out.1, HD.out.2, rfl⟩⟩
end Go.Proofs.YtboigdpcahdidabDoor
