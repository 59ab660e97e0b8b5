/- Of, Two, and the reference's NumberOf, TurnOf: the numbers that they compute. -/
import Derived.Test.YtboigdpcahdidabDoorLiM
namespace Go.Proofs.YtboigdpcahdidabDoor
open Go.RowKit

namespace Lh
/-- one byte -/
def step (h : Nat) (c : UInt8) : Nat := (h ^^^ c.toNat) * 1099511628211 % 18446744073709551616
def hash (l : List UInt8) : Nat := l.foldl step 14695981039346656037
def num (s : ByteArray) (salt : Nat) : Nat := turn (hash s.data.toList ^^^ turn salt)
theorem xor_lt (a b : Nat) (ha : a < 18446744073709551616) (hb : b < 18446744073709551616) : a ^^^ b < 18446744073709551616 :=
  Nat.xor_lt_two_pow (n := 64) (by simpa using ha) (by simpa using hb)
theorem byte_lt (c : UInt8) : c.toNat < 18446744073709551616 := Nat.lt_trans c.toNat_lt (by decide)
theorem hash_lt (l : List UInt8) : hash l < 18446744073709551616 := by
  unfold hash
  have : ∀ (l : List UInt8) (h : Nat), h < 18446744073709551616 → l.foldl step h < 18446744073709551616 := by
    intro l
    induction l with
    | nil => intro h hh; exact hh
    | cons c r ih => intro h _; exact ih _ (Nat.mod_lt _ (by decide))
  exact this l _ (by decide)
theorem foldl_snoc {α β : Type} (f : β → α → β) (b : β) (l : List α) (a : α) : (l ++ [a]).foldl f b = f (l.foldl f b) a := by rw [List.foldl_append]; rfl
theorem hash_snoc (l : List UInt8) (c : UInt8) : hash (l ++ [c]) = step (hash l) c := foldl_snoc step _ l c
end Lh

theorem u64_int (z : Nat) (_ : z < 18446744073709551616) : (0 : Int) ≤ (z : Int) := by omega
theorem xorNat (a b : Nat) (ha : a < 18446744073709551616) (hb : b < 18446744073709551616) : bits .xor .u64 (a : Int) (b : Int) = ((a ^^^ b : Nat) : Int) := bits_xor_u64_nat a b ha hb
theorem stepNat (h : Nat) (c : UInt8) (hh : h < 18446744073709551616) : IntKind.u64.wrap (bits .xor .u64 (h : Int) (c.toNat : Int) * 1099511628211) = ((Lh.step h c : Nat) : Int) := by
  rw [xorNat h c.toNat hh (Lh.byte_lt c)]
  exact unmul _ 1099511628211

theorem quNat (X d : Nat) (hX : X < 18446744073709551616) : IntKind.u64.wrap ((X : Int).tdiv (d : Int)) = (X : Int) / (d : Int) := by
  have h1 : (X : Int).tdiv (d : Int) = ((X / d : Nat) : Int) := (Int.ofNat_tdiv X d).symm
  have h2 : X / d ≤ X := Nat.div_le_self _ _
  rw [h1, IntKind.wrap_u64, ← Int.natCast_ediv]
  generalize X / d = q at h2 ⊢
  omega
theorem qu30 (X : Nat) (hX : X < 18446744073709551616) : IntKind.u64.wrap ((X : Int).tdiv 1073741824) = (X : Int) / 1073741824 := quNat X 1073741824 hX
theorem qu27 (X : Nat) (hX : X < 18446744073709551616) : IntKind.u64.wrap ((X : Int).tdiv 134217728) = (X : Int) / 134217728 := quNat X 134217728 hX
theorem qu31 (X : Nat) (hX : X < 18446744073709551616) : IntKind.u64.wrap ((X : Int).tdiv 2147483648) = (X : Int) / 2147483648 := quNat X 2147483648 hX

set_option maxHeartbeats 400000 in
theorem turnOf_any (z : Nat) (w : World) :
    Calls Tryd.prog 119 #[.int .u64 z] w fun e w' => e = .returned (.int .u64 (Lh.turn z : Nat)) ∧ w' = w := by
  go_enter Tryd.func119, Tryd.ntmps119
  go_wp2
  go_ret
  refine ⟨?_, rfl⟩
  rw [stepAdd, qu30 _ (Nat.mod_lt _ (by decide)), step30 _ (Nat.mod_lt _ (by decide)), qu27 _ (Nat.mod_lt _ (by decide)), step27 _ (Nat.mod_lt _ (by decide)), qu31 _ (Nat.mod_lt _ (by decide)), step31 _ (Nat.mod_lt _ (by decide))]
  rfl

theorem take_snoc (s : ByteArray) (k : Nat) (h : k < s.size) : s.data.toList.take (k + 1) = s.data.toList.take k ++ [s[k]] := by
  rw [List.take_succ_eq_append_getElem (by simpa using h)]; rfl
theorem ret_u64 {a b : Int} (h : a = b) : Ending.returned (.int .u64 a) = .returned (.int .u64 b) := by rw [h]
theorem hash_next (s : ByteArray) (k : Nat) (h : k < s.size) : IntKind.u64.wrap (bits .xor .u64 (Lh.hash (s.data.toList.take k) : Int) (IntKind.u64.wrap (s[k].toNat : Int)) * 1099511628211) = ((Lh.hash (s.data.toList.take (k + 1)) : Nat) : Int) := by
  have hc : IntKind.u64.wrap (s[k].toNat : Int) = (s[k].toNat : Int) := by
    have := Lh.byte_lt s[k]
    rw [IntKind.wrap_u64]
    omega
  rw [hc, stepNat _ _ (Lh.hash_lt _), take_snoc s k h, Lh.hash_snoc]

set_option maxHeartbeats 400000 in
theorem of_any (s : ByteArray) (salt : Nat) (w : World) (hs : s.size ≤ 300) :
    Calls Tryd.prog 122 #[.string s, .int .u64 salt] w fun e w' => e = .returned (.int .u64 (Lh.num s salt : Nat)) ∧ Below w.heap.size w w' := by
  go_enter Tryd.func122, Tryd.ntmps122
  go_wp2
  go_loop [5, 9] (fun h i => ∃ k : Nat, k ≤ s.size ∧ i = .int .i64 k ∧ h = .int .u64 (Lh.hash (s.data.toList.take k) : Nat)) (fun _ i => s.size - (intOf i).toNat)
  case atStart => exact ⟨0, Nat.zero_le _, rfl, rfl⟩
  case round =>
    obtain ⟨k, hk, rfl, rfl⟩ := hrel
    by_cases hlt : k < s.size
    · have HN : Hid _ := hash_next s k hlt
      go_wp2
      go_round
      case rel => exact ⟨k + 1, by omega, by go_num, by rw [← HN.out]⟩
      case measure => simp [intOf]; omega
    · have hfull : s.data.toList.take k = s.data.toList := List.take_of_length_le (by simp; omega)
      rw [hfull]
      clear hfull
      go_wp2_with fail
      refine (turn_any salt _).mono ?_
      rintro e w1 ⟨rfl, hb1⟩
      go_wp2_with fail
      rw [xorNat _ _ (Lh.hash_lt _) (Lh.turn_lt _)]
      refine (turn_any _ _).mono ?_
      rintro e w2 ⟨rfl, hb2⟩
      go_wp2
      go_ret
      exact ⟨rfl, below_then hb1 hb2⟩

set_option maxHeartbeats 400000 in
theorem numberOf_any (s : ByteArray) (salt : Nat) (w : World) (hs : s.size ≤ 300) :
    Calls Tryd.prog 118 #[.string s, .int .u64 salt] w fun e w' => e = .returned (.int .u64 (Lh.num s salt : Nat)) ∧ w' = w := by
  go_enter Tryd.func118, Tryd.ntmps118
  go_wp2
  go_loop [5, 6] (fun h i => ∃ k : Nat, k ≤ s.size ∧ i = .int .i64 k ∧ h = .int .u64 (Lh.hash (s.data.toList.take k) : Nat)) (fun _ i => s.size - (intOf i).toNat)
  case atStart => exact ⟨0, Nat.zero_le _, rfl, rfl⟩
  case round =>
    obtain ⟨k, hk, rfl, rfl⟩ := hrel
    by_cases hlt : k < s.size
    · have HN : Hid _ := hash_next s k hlt
      go_wp2
      go_round
      case rel => exact ⟨k + 1, by omega, by go_num, by rw [← HN.out]⟩
      case measure => simp [intOf]; omega
    · have hfull : s.data.toList.take k = s.data.toList := List.take_of_length_le (by simp; omega)
      rw [hfull]
      clear hfull
      go_wp2_with fail
      refine (turnOf_any salt _).mono ?_
      rintro e w1 ⟨rfl, rfl⟩
      go_wp2_with fail
      rw [xorNat _ _ (Lh.hash_lt _) (Lh.turn_lt _)]
      refine (turnOf_any _ _).mono ?_
      rintro e w2 ⟨rfl, rfl⟩
      go_wp2
      go_ret
      exact ⟨rfl, rfl⟩
end Go.Proofs.YtboigdpcahdidabDoor

/- Names of hosts: what is a name; lists that hold a text. -/
namespace Go.Proofs.YtboigdpcahdidabDoor
open Go.RowKit

namespace Lh
def letter (c : UInt8) : Bool := decide (97 ≤ (c.toNat : Int)) && decide ((c.toNat : Int) ≤ 122)
def digit (c : UInt8) : Bool := decide (48 ≤ (c.toNat : Int)) && decide ((c.toNat : Int) ≤ 57)
def okc (c : UInt8) : Bool := letter c || digit c || ((c.toNat : Int) == 45)
def isNm (s : ByteArray) : Bool := decide (1 ≤ s.size) && decide (s.size ≤ 12) && (s.data.toList.head?.any letter) && s.data.toList.all okc
end Lh

theorem letter_any (c : UInt8) (w : World) : Calls Tryd.prog 161 #[.int .u8 c.toNat] w fun e w' => e = .returned (.bool (Lh.letter c)) ∧ w' = w := by
  by_cases h1 : 97 ≤ (c.toNat : Int)
  · by_cases h2 : (c.toNat : Int) ≤ 122
    · have hr : Lh.letter c = true := by simp [Lh.letter, h1, h2]
      rw [hr]
      go_enter Tryd.func161, Tryd.ntmps161
      go_wp2
      go_ret
      exact ⟨rfl, rfl⟩
    · have hr : Lh.letter c = false := by simp [Lh.letter, h2]
      rw [hr]
      have h3 : decide ((c.toNat : Int) ≤ 122) = false := by simpa using h2
      go_enter Tryd.func161, Tryd.ntmps161
      go_wp2
      go_ret
      exact ⟨rfl, rfl⟩
  · have hr : Lh.letter c = false := by simp [Lh.letter, h1]
    rw [hr]
    have h3 : decide (97 ≤ (c.toNat : Int)) = false := by simpa using h1
    go_enter Tryd.func161, Tryd.ntmps161
    go_wp2
    go_ret
    exact ⟨rfl, rfl⟩

theorem digit_any (c : UInt8) (w : World) : Calls Tryd.prog 162 #[.int .u8 c.toNat] w fun e w' => e = .returned (.bool (Lh.digit c)) ∧ w' = w := by
  by_cases h1 : 48 ≤ (c.toNat : Int)
  · by_cases h2 : (c.toNat : Int) ≤ 57
    · have hr : Lh.digit c = true := by simp [Lh.digit, h1, h2]
      rw [hr]
      go_enter Tryd.func162, Tryd.ntmps162
      go_wp2
      go_ret
      exact ⟨rfl, rfl⟩
    · have hr : Lh.digit c = false := by simp [Lh.digit, h2]
      rw [hr]
      have h3 : decide ((c.toNat : Int) ≤ 57) = false := by simpa using h2
      go_enter Tryd.func162, Tryd.ntmps162
      go_wp2
      go_ret
      exact ⟨rfl, rfl⟩
  · have hr : Lh.digit c = false := by simp [Lh.digit, h1]
    rw [hr]
    have h3 : decide (48 ≤ (c.toNat : Int)) = false := by simpa using h1
    go_enter Tryd.func162, Tryd.ntmps162
    go_wp2
    go_ret
    exact ⟨rfl, rfl⟩

theorem byte_at (s : ByteArray) (k : Nat) (h : k < s.size) : s.data.toList[k]'(by simpa using h) = s[k] := rfl
theorem all_take (s : ByteArray) (k : Nat) (h : k < s.size) : (s.data.toList.take (k + 1)).all Lh.okc = ((s.data.toList.take k).all Lh.okc && Lh.okc s[k]) := by
  rw [take_snoc s k h, List.all_append]; simp
theorem all_take_false (s : ByteArray) (k : Nat) (h : k < s.size) (hc : Lh.okc s[k] = false) : s.data.toList.all Lh.okc = false := by
  rw [List.all_eq_false]
  exact ⟨s[k], by rw [← byte_at s k h]; exact List.getElem_mem _, by simp [hc]⟩
theorem head_eq (s : ByteArray) (h : 0 < s.size) : s.data.toList.head?.any Lh.letter = Lh.letter s[0] := by
  rw [List.head?_eq_getElem?, List.getElem?_eq_getElem (by simpa using h), byte_at s 0 h]; rfl

set_option maxHeartbeats 1000000 in
theorem isName_any (s : ByteArray) (w : World) (hs : s.size ≤ 1000000) :
    Calls Tryd.prog 121 #[.string s] w fun e w' => e = .returned (.bool (Lh.isNm s)) ∧ w' = w := by
  obtain ⟨r, hr⟩ : ∃ r, r = Lh.isNm s := ⟨_, rfl⟩
  rw [← hr]
  have HR : Hid _ := hr
  clear hr
  by_cases h0 : s.size = 0
  · have e0 : ((s.size : Int) == 0) = true := by simp [h0]
    have : r = false := by rw [HR.out]; simp [Lh.isNm, h0]
    subst this
    clear h0
    go_enter Tryd.func121, Tryd.ntmps121
    go_wp2
    go_ret
    exact ⟨rfl, rfl⟩
  · have e0 : ((s.size : Int) == 0) = false := by rw [beq_eq_false_iff_ne]; omega
    have h0' : 0 < s.size := by omega
    clear h0
    by_cases h12 : 12 < s.size
    · have e12 : decide (12 < (s.size : Int)) = true := by simp; omega
      have : r = false := by rw [HR.out]; simp [Lh.isNm]; omega
      subst this
      go_enter Tryd.func121, Tryd.ntmps121
      go_wp2
      go_ret
      exact ⟨rfl, rfl⟩
    · have e12 : decide (12 < (s.size : Int)) = false := by simp; omega
      cases hl : Lh.letter s[0] with
      | false =>
        have : r = false := by rw [HR.out]; simp [Lh.isNm, head_eq s h0', hl]
        subst this
        have HL : Hid _ := hl
        clear hl
        go_enter Tryd.func121, Tryd.ntmps121
        go_wp2_with fail
        refine (letter_any _ _).mono ?_
        rintro e w1 ⟨rfl, rfl⟩
        rw [HL.out]
        go_wp2
        go_ret
        exact ⟨rfl, rfl⟩
      | true =>
        have hra : r = s.data.toList.all Lh.okc := by
          rw [HR.out]; simp [Lh.isNm, head_eq s h0', hl]; omega
        have HA : Hid _ := hra
        have HL : Hid _ := hl
        clear hra hl HR
        go_enter Tryd.func121, Tryd.ntmps121
        go_wp2_with fail
        refine (letter_any _ _).mono ?_
        rintro e w1 ⟨rfl, rfl⟩
        rw [HL.out]
        go_wp2_with fail
        go_loopw [20] (fun i W => W = w1 ∧ ∃ k : Nat, k ≤ s.size ∧ i = .int .i64 k ∧ (s.data.toList.take k).all Lh.okc = true) (fun i _ => s.size - (intOf i).toNat)
        case atStart => exact ⟨rfl, 0, Nat.zero_le _, rfl, rfl⟩
        case round =>
          obtain ⟨rfl, k, hk, rfl, hall⟩ := hrel
          have HP : Hid _ := hall
          clear hall
          by_cases hlt : k < s.size
          · have HT : Hid _ := all_take s k hlt
            have HF : Hid (Lh.okc s[k] = false → s.data.toList.all Lh.okc = false) := all_take_false s k hlt
            cases h1 : Lh.letter s[k] with
            | true =>
              have HO : Hid _ := (by simp [Lh.okc, h1] : Lh.okc s[k] = true)
              have H1 : Hid _ := h1
              clear h1
              go_wp2_with fail
              refine (letter_any _ _).mono ?_
              rintro e w2 ⟨rfl, rfl⟩
              rw [H1.out]
              go_wp2
              exact ⟨⟨by trivial, k + 1, by omega, by go_num, by rw [HT.out, HP.out, HO.out]; rfl⟩, by simp [intOf]; omega⟩
            | false =>
              cases h2 : Lh.digit s[k] with
              | true =>
                have HO : Hid _ := (by simp [Lh.okc, h2] : Lh.okc s[k] = true)
                have H1 : Hid _ := h1
                have H2 : Hid _ := h2
                clear h1 h2
                go_wp2_with fail
                refine (letter_any _ _).mono ?_
                rintro e w2 ⟨rfl, rfl⟩
                rw [H1.out]
                go_wp2_with fail
                refine (digit_any _ _).mono ?_
                rintro e w3 ⟨rfl, rfl⟩
                rw [H2.out]
                go_wp2
                exact ⟨⟨by trivial, k + 1, by omega, by go_num, by rw [HT.out, HP.out, HO.out]; rfl⟩, by simp [intOf]; omega⟩
              | false =>
                cases h3 : ((s[k].toNat : Int) == 45) with
                | true =>
                  have HO : Hid _ := (by simp only [Lh.okc, h3, Bool.or_true] : Lh.okc s[k] = true)
                  have hne : ((s[k].toNat : Int) != 45) = false := by rw [bne, h3]; rfl
                  have H1 : Hid _ := h1
                  have H2 : Hid _ := h2
                  clear h1 h2 h3
                  go_wp2_with fail
                  refine (letter_any _ _).mono ?_
                  rintro e w2 ⟨rfl, rfl⟩
                  rw [H1.out]
                  go_wp2_with fail
                  refine (digit_any _ _).mono ?_
                  rintro e w3 ⟨rfl, rfl⟩
                  rw [H2.out]
                  go_wp2
                  exact ⟨⟨by trivial, k + 1, by omega, by go_num, by rw [HT.out, HP.out, HO.out]; rfl⟩, by simp [intOf]; omega⟩
                | false =>
                  have HO : Hid _ := (by simp only [Lh.okc, h1, h2, h3]; rfl : Lh.okc s[k] = false)
                  have hne : ((s[k].toNat : Int) != 45) = true := by rw [bne, h3]; rfl
                  have H1 : Hid _ := h1
                  have H2 : Hid _ := h2
                  clear h1 h2 h3
                  go_wp2_with fail
                  refine (letter_any _ _).mono ?_
                  rintro e w2 ⟨rfl, rfl⟩
                  rw [H1.out]
                  go_wp2_with fail
                  refine (digit_any _ _).mono ?_
                  rintro e w3 ⟨rfl, rfl⟩
                  rw [H2.out]
                  go_wp2
                  go_ret
                  refine ⟨ret_bool ?_, rfl⟩
                  rw [HA.out, HF.out HO.out]
          · go_wp2
            go_ret
            refine ⟨ret_bool ?_, rfl⟩
            rw [HA.out, ← HP.out, List.take_of_length_le (by simp; omega)]

theorem head_false (s : ByteArray) (h : 0 < s.size) (hc : Lh.letter s[0] = false) : Lh.isNm s = false := by simp [Lh.isNm, head_eq s h, hc]
theorem all_false (s : ByteArray) (k : Nat) (h : k < s.size) (hc : Lh.okc s[k] = false) : Lh.isNm s = false := by simp only [Lh.isNm, all_take_false s k h hc, Bool.and_false]
theorem isNm_true (s : ByteArray) (h : 0 < s.size) (h12 : ¬ 12 < s.size) (hl : Lh.letter s[0] = true) (ha : s.data.toList.all Lh.okc = true) : Lh.isNm s = true := by
  simp only [Lh.isNm, head_eq s h, hl, ha, Bool.and_true]; simp; omega

set_option maxHeartbeats 1000000 in
theorem refName_any (s : ByteArray) (w : World) (hs : s.size ≤ 1000000) :
    Calls Tryd.prog 87 #[.string s] w fun e w' => e = .returned (.bool (Lh.isNm s)) ∧ w' = w := by
  obtain ⟨r, hr⟩ : ∃ r, r = Lh.isNm s := ⟨_, rfl⟩
  rw [← hr]
  have HR : Hid _ := hr
  clear hr
  by_cases h0 : s.size < 1
  · have e0 : decide ((s.size : Int) < 1) = true := by simp; omega
    have : r = false := by rw [HR.out]; simp [Lh.isNm]; omega
    subst this
    clear h0
    go_enter Tryd.func87, Tryd.ntmps87
    go_wp2
    go_ret
    exact ⟨rfl, rfl⟩
  · have e0 : decide ((s.size : Int) < 1) = false := by simp; omega
    by_cases h12 : 12 < s.size
    · have e12 : decide (12 < (s.size : Int)) = true := by simp; omega
      have : r = false := by rw [HR.out]; simp [Lh.isNm]; omega
      subst this
      go_enter Tryd.func87, Tryd.ntmps87
      go_wp2
      go_ret
      exact ⟨rfl, rfl⟩
    · have e12 : decide (12 < (s.size : Int)) = false := by simp; omega
      have h0' : 0 < s.size := by omega
      clear h0
      go_enter Tryd.func87, Tryd.ntmps87
      go_wp2
      go_loop [3] (fun i => ∃ k : Nat, k ≤ s.size ∧ i = .int .i64 k ∧ (s.data.toList.take k).all Lh.okc = true ∧ (0 < k → Lh.letter s[0] = true)) (fun i => s.size - (intOf i).toNat)
      case atStart => exact ⟨0, Nat.zero_le _, rfl, rfl, fun h => absurd h (by decide)⟩
      case round =>
        obtain ⟨k, hk, rfl, hall, hlet⟩ := hrel
        have HP : Hid _ := hall
        have HQ : Hid _ := hlet
        clear hall hlet
        by_cases hlt : k < s.size
        · have HT : Hid _ := all_take s k hlt
          obtain ⟨c, hc⟩ : ∃ c, c = s[k] := ⟨_, rfl⟩
          have HC : Hid _ := hc
          by_cases ha : 97 ≤ (s[k].toNat : Int) ∧ (s[k].toNat : Int) ≤ 122
          · have hl1 : Lh.letter s[k] = true := by simp [Lh.letter, ha.1, ha.2]
            have HO : Hid _ := (by simp [Lh.okc, hl1] : Lh.okc s[k] = true)
            have HK : Hid (0 < k + 1 → Lh.letter s[0] = true) := fun _ => by
              rcases Nat.eq_zero_or_pos k with h | h
              · subst h; exact hl1
              · exact HQ.out h
            obtain ⟨ha1, ha2⟩ := ha
            clear hl1 hc
            go_wp2
            go_round
            case rel => exact ⟨k + 1, by omega, by go_num, by rw [HT.out, HP.out, HO.out]; rfl, HK.out⟩
            case measure => simp [intOf]; omega
          · rcases (by omega : 122 < (s[k].toNat : Int) ∨ (48 ≤ (s[k].toNat : Int) ∧ (s[k].toNat : Int) ≤ 57) ∨ (s[k].toNat : Int) = 45 ∨ ((s[k].toNat : Int) < 48 ∧ (s[k].toNat : Int) ≠ 45) ∨ (57 < (s[k].toNat : Int) ∧ (s[k].toNat : Int) < 97)) with h | ⟨h, h'⟩ | h | ⟨h, h'⟩ | ⟨h, h'⟩
            · have hnl : Lh.letter s[k] = false := by simp [Lh.letter]; omega
              have hd0 : decide (97 ≤ (s[k].toNat : Int)) = true := by simp; omega
              have hd1 : decide ((s[k].toNat : Int) ≤ 122) = false := by simp; omega
              have hd2 : decide (48 ≤ (s[k].toNat : Int)) = true := by simp; omega
              have hd3 : decide ((s[k].toNat : Int) ≤ 57) = false := by simp; omega
              have heq : ((s[k].toNat : Int) == 45) = false := by rw [beq_eq_false_iff_ne]; omega
              clear ha
              have hnd : Lh.digit s[k] = false := by simp [Lh.digit]; omega
              have HB : Hid (Lh.isNm s = false) := all_false s k hlt (by simp only [Lh.okc, hnl, heq, hnd, Bool.or_false])
              clear hnl hc hnd
              go_wp2
              all_goals (go_ret; exact ⟨ret_bool (by rw [HR.out, HB.out]), rfl⟩)
            · have hnl : Lh.letter s[k] = false := by simp [Lh.letter]; omega
              have hd0 : decide (97 ≤ (s[k].toNat : Int)) = false := by simp; omega
              have hd2 : decide (48 ≤ (s[k].toNat : Int)) = true := by simp; omega
              have hd3 : decide ((s[k].toNat : Int) ≤ 57) = true := by simp; omega
              clear ha
              have HO : Hid _ := (by simp [Lh.okc, Lh.digit]; omega : Lh.okc s[k] = true)
              by_cases hk0 : k = 0
              · have HB : Hid (Lh.isNm s = false) := head_false s h0' (by have e := hk0; subst e; exact hnl)
                have ek : ((k : Int) == 0) = true := by simp [hk0]
                clear hk0 hnl hc
                go_wp2
                go_ret
                exact ⟨ret_bool (by rw [HR.out, HB.out]), rfl⟩
              · have ek : ((k : Int) == 0) = false := by rw [beq_eq_false_iff_ne]; omega
                have HK : Hid (Lh.letter s[0] = true) := HQ.out (by omega)
                clear hk0 hnl hc
                go_wp2
                go_round
                case rel => exact ⟨k + 1, by omega, by go_num, by rw [HT.out, HP.out, HO.out]; rfl, fun _ => HK.out⟩
                case measure => simp [intOf]; omega
            · have hnl : Lh.letter s[k] = false := by simp [Lh.letter]; omega
              have hd0 : decide (97 ≤ (s[k].toNat : Int)) = false := by simp; omega
              have hd2 : decide (48 ≤ (s[k].toNat : Int)) = false := by simp; omega
              have heq : ((s[k].toNat : Int) == 45) = true := by rw [beq_iff_eq]; exact h
              clear ha h
              have HO : Hid _ := (by simp only [Lh.okc, heq, Bool.or_true] : Lh.okc s[k] = true)
              by_cases hk0 : k = 0
              · have HB : Hid (Lh.isNm s = false) := head_false s h0' (by have e := hk0; subst e; exact hnl)
                have ek : ((k : Int) == 0) = true := by simp [hk0]
                clear hk0 hnl hc
                go_wp2
                go_ret
                exact ⟨ret_bool (by rw [HR.out, HB.out]), rfl⟩
              · have ek : ((k : Int) == 0) = false := by rw [beq_eq_false_iff_ne]; omega
                have HK : Hid (Lh.letter s[0] = true) := HQ.out (by omega)
                clear hk0 hnl hc
                go_wp2
                go_round
                case rel => exact ⟨k + 1, by omega, by go_num, by rw [HT.out, HP.out, HO.out]; rfl, fun _ => HK.out⟩
                case measure => simp [intOf]; omega
            · have hnl : Lh.letter s[k] = false := by simp [Lh.letter]; omega
              have hd0 : decide (97 ≤ (s[k].toNat : Int)) = false := by simp; omega
              have hd2 : decide (48 ≤ (s[k].toNat : Int)) = false := by simp; omega
              have heq : ((s[k].toNat : Int) == 45) = false := by rw [beq_eq_false_iff_ne]; omega
              clear ha
              have hnd : Lh.digit s[k] = false := by simp [Lh.digit]; omega
              have HB : Hid (Lh.isNm s = false) := all_false s k hlt (by simp only [Lh.okc, hnl, heq, hnd, Bool.or_false])
              clear hnl hc hnd
              go_wp2
              all_goals (go_ret; exact ⟨ret_bool (by rw [HR.out, HB.out]), rfl⟩)
            · have hnl : Lh.letter s[k] = false := by simp [Lh.letter]; omega
              have hd0 : decide (97 ≤ (s[k].toNat : Int)) = false := by simp; omega
              have hd2 : decide (48 ≤ (s[k].toNat : Int)) = true := by simp; omega
              have hd3 : decide ((s[k].toNat : Int) ≤ 57) = false := by simp; omega
              have heq : ((s[k].toNat : Int) == 45) = false := by rw [beq_eq_false_iff_ne]; omega
              clear ha
              have hnd : Lh.digit s[k] = false := by simp [Lh.digit]; omega
              have HB : Hid (Lh.isNm s = false) := all_false s k hlt (by simp only [Lh.okc, hnl, heq, hnd, Bool.or_false])
              clear hnl hc hnd
              go_wp2
              all_goals (go_ret; exact ⟨ret_bool (by rw [HR.out, HB.out]), rfl⟩)
        · go_wp2
          go_ret
          refine ⟨ret_bool ?_, rfl⟩
          rw [HR.out]
          exact (isNm_true s h0' h12 (HQ.out (by omega)) (by have := HP.out; rwa [List.take_of_length_le (by simp; omega)] at this)).symm
end Go.Proofs.YtboigdpcahdidabDoor

/- Errors by number and place; the first text of a list. -/
namespace Go.Proofs.YtboigdpcahdidabDoor
open Go.RowKit

namespace Lh
def mem (s : ByteArray) (xs : List ByteArray) : Bool := xs.any fun x => decide (x = s)
theorem mem_true {s : ByteArray} {xs : List ByteArray} (h : s ∈ xs) : mem s xs = true := by
  unfold mem; rw [List.any_eq_true]; exact ⟨s, h, by simp⟩
theorem mem_false {s : ByteArray} {xs : List ByteArray} (h : ¬ s ∈ xs) : mem s xs = false := by
  unfold mem; rw [List.any_eq_false]; intro x hx; simp only [decide_eq_true_eq]; intro e; subst e; exact h hx
end Lh

/-- The value v is the error of number c (0: none) at the place pl (-1: bare). -/
def ErrIs (a : Nat → Addr) (W : World) (c : Nat) (pl : Int) (v : Value) : Prop :=
  (c = 0 ∧ pl = -1 ∧ v = .nilIface) ∨
  (∃ i, i < 9 ∧ c = i + 1 ∧ ((pl = -1 ∧ v = .iface 319 (.pointer (some (a i)))) ∨
    ∃ b, v = .iface 179 (.pointer (some ⟨b, 0, none⟩)) ∧ W.cell? ⟨b, 0, none⟩ = some (.int .i64 pl) ∧ W.cell? ⟨b, 1, none⟩ = some (.iface 319 (.pointer (some (a i))))))

theorem ErrIs.later {a : Nat → Addr} {W W' : World} {c : Nat} {pl : Int} {v : Value} (h : ErrIs a W c pl v) (hb : Below W.heap.size W W') : ErrIs a W' c pl v := by
  rcases h with h | ⟨i, hi, hc, h | ⟨b, hv, h0, h1⟩⟩
  · exact Or.inl h
  · exact Or.inr ⟨i, hi, hc, Or.inl h⟩
  · exact Or.inr ⟨i, hi, hc, Or.inr ⟨b, hv, below_cell hb h0, below_cell hb h1⟩⟩

theorem code_is {a : Nat → Addr} {W : World} {c : Nat} {pl : Int} {v : Value} (he : Errs a W) (h : ErrIs a W c pl v) :
    Calls Tryd.prog 62 #[v] W fun e w' => e = .returned (.tuple #[.int .i64 c, .int .i64 pl]) ∧ Below W.heap.size W w' := by
  rcases h with ⟨rfl, rfl, rfl⟩ | ⟨i, hi, rfl, ⟨rfl, rfl⟩ | ⟨b, rfl, h0, h1⟩⟩
  · exact (code_nil W).mono fun e w' ⟨h1, h2⟩ => ⟨h1, by rw [h2]; exact Below.refl _ _⟩
  · have := code_sent a i hi W he
    rw [codeNum_lt hi] at this
    exact this
  · have := code_fault a i hi pl b W he h0 h1
    rw [codeNum_lt hi] at this
    exact this

set_option maxHeartbeats 1000000 in
/-- faulted: the error is the one that the document asks. -/
theorem faulted_is {a : Nat → Addr} {W : World} {c : Nat} {pl : Int} {v : Value} (he : Errs a W) (h : ErrIs a W c pl v) :
    Calls Tryd.prog 25 #[v, .agg #[.int .i64 c, .int .i64 pl]] W fun e w' => e = .returned (.bool true) ∧ Below W.heap.size W w' := by
  have hba : Below W.heap.size W (W.alloc (.cells #[.int .i64 c, .int .i64 pl] 46)) := (Below.refl _ _).alloc (Nat.le_refl _) _
  have hc := code_is (he.later hba) (h.later hba)
  go_enter Tryd.func25, Tryd.ntmps25
  go_wp2_with fail
  refine hc.mono ?_
  rintro e w1 ⟨rfl, hb1⟩
  have c0 : w1.cell? ⟨W.heap.size, 0, none⟩ = some (.int .i64 c) := below_cell hb1 (by simp)
  have c1 : w1.cell? ⟨W.heap.size, 1, none⟩ = some (.int .i64 pl) := below_cell hb1 (by simp)
  have hbz : Below W.heap.size W w1 := hba.trans (hb1.mono (by simp))
  clear hb1 hba hc
  cases hz : ((c : Int) == 0) with
  | true =>
    go_wp2
    go_ret
    exact ⟨rfl, hbz⟩
  | false =>
    go_wp2
    go_ret
    exact ⟨by simp, hbz⟩

/- the first place of a text in a list -/
set_option maxHeartbeats 1000000 in
theorem contains_core (b o c : Nat) (xs : List ByteArray) (s : ByteArray) (w : World) (hx : ∀ k (h : k < xs.length), w.cell? ⟨b, o + k, none⟩ = some (.string xs[k])) (hm : xs.length < 1000000) :
    Calls Tryd.prog 160 #[.slice (some ⟨b, o, none⟩) xs.length c, .string s] w fun e w' => (∃ j : Int, e = .returned (.int .i64 j) ∧ decide (0 ≤ j) = Lh.mem s xs) ∧ w' = w := by
  have HX : Hid _ := hx
  clear hx
  go_enter Tryd.func160, Tryd.ntmps160
  go_wp2
  go_loop [8] (fun t => ∃ k : Nat, k ≤ xs.length ∧ t = .int .i64 k ∧ ∀ j (h : j < xs.length), j < k → xs[j] ≠ s) (fun t => xs.length - (intOf t).toNat)
  case atStart => exact ⟨0, Nat.zero_le _, rfl, fun j _ h => absurd h (by omega)⟩
  case round =>
    obtain ⟨k, hk, rfl, hpre⟩ := hrel
    have HP : Hid _ := hpre
    clear hpre
    by_cases hlt : k < xs.length
    · have cx := HX.out k hlt
      generalize hxk : xs[k] = xk at *
      have HXK : Hid _ := hxk
      clear hxk
      by_cases heq : s = xk
      · have hne : (s.toList == xk.toList) = true := bytes_same heq
        have HE : Hid _ := heq
        clear heq
        go_wp2
        go_ret
        refine ⟨⟨(k : Int), rfl, ?_⟩, rfl⟩
        rw [decide_eq_true (by omega), Lh.mem_true]
        rw [HE.out, ← HXK.out]
        exact List.getElem_mem _
      · have hne : (s.toList == xk.toList) = false := bytes_parts heq
        have HE : Hid _ := heq
        clear heq
        go_wp2
        go_round
        case rel =>
          refine ⟨k + 1, by omega, by go_num, fun j h hj => ?_⟩
          by_cases hjk : j = k
          · subst hjk; rw [HXK.out]; exact fun e => HE.out e.symm
          · exact HP.out j h (by omega)
        case measure => simp [intOf]; omega
    · go_wp2
      go_ret
      refine ⟨⟨-1, rfl, ?_⟩, rfl⟩
      rw [decide_eq_false (by omega), Lh.mem_false]
      intro hm
      obtain ⟨j, hj, e⟩ := List.getElem_of_mem hm
      exact HP.out j hj (by omega) e

set_option maxHeartbeats 1000000 in
theorem index_zero (p : Option Addr) (c : Nat) (s : ByteArray) (w : World) :
    Calls Tryd.prog 160 #[.slice p 0 c, .string s] w fun e w' => e = .returned (.int .i64 (-1)) ∧ w' = w := by
  go_enter Tryd.func160, Tryd.ntmps160
  go_wp2
  refine wp_loop_rounds 1 ?_
  rw [rounds_succ]
  go_wp2
  go_ret
  exact ⟨rfl, rfl⟩

/-- slices.Contains of a list of texts. -/
theorem contains_any (v : Value) (xs : List ByteArray) (s : ByteArray) (w : World) (hv : Strs w v xs) (hm : xs.length < 1000000) :
    Calls Tryd.prog 116 #[v, .string s] w fun e w' => e = .returned (.bool (Lh.mem s xs)) ∧ w' = w := by
  have key : Calls Tryd.prog 160 #[v, .string s] w fun e w' => (∃ j : Int, e = .returned (.int .i64 j) ∧ decide (0 ≤ j) = Lh.mem s xs) ∧ w' = w := by
    rcases hv with ⟨rfl, p, c, rfl⟩ | ⟨b, o, c, rfl, _, hc⟩
    · exact (index_zero p c s w).mono fun e w' ⟨h1, h2⟩ => ⟨⟨-1, h1, rfl⟩, h2⟩
    · exact contains_core b o c xs s w hc hm
  clear hv
  go_enter Tryd.func116, Tryd.ntmps116
  go_wp2_with fail
  refine key.mono ?_
  rintro e w1 ⟨⟨j, rfl, hj⟩, rfl⟩
  have HJ : Hid _ := hj
  clear hj key
  go_wp2
  go_ret
  exact ⟨ret_bool HJ.out, rfl⟩

set_option maxHeartbeats 1000000 in
/-- Index of the reference, at a text of the list itself: is it ahead? -/
theorem refIndex_any (b o c : Nat) (xs : List ByteArray) (i : Nat) (hi : i < xs.length) (w : World) (hx : ∀ k (h : k < xs.length), w.cell? ⟨b, o + k, none⟩ = some (.string xs[k])) (hm : xs.length < 1000000) :
    Calls Tryd.prog 71 #[.slice (some ⟨b, o, none⟩) xs.length c, .string xs[i]] w fun e w' => (∃ j : Int, e = .returned (.int .i64 j) ∧ decide (j < (i : Int)) = Lh.mem xs[i] (xs.take i)) ∧ w' = w := by
  have HX : Hid _ := hx
  clear hx
  obtain ⟨s, hs⟩ : ∃ s, s = xs[i] := ⟨_, rfl⟩
  rw [← hs]
  have HS : Hid _ := hs
  clear hs
  go_enter Tryd.func71, Tryd.ntmps71
  go_wp2
  go_loop [5] (fun t => ∃ k : Nat, k ≤ i ∧ t = .int .i64 k ∧ ∀ j (h : j < xs.length), j < k → xs[j] ≠ s) (fun t => xs.length - (intOf t).toNat)
  case atStart => exact ⟨0, Nat.zero_le _, rfl, fun j _ h => absurd h (by omega)⟩
  case round =>
    obtain ⟨k, hk, rfl, hpre⟩ := hrel
    have HP : Hid _ := hpre
    clear hpre
    have hlt : k < xs.length := by omega
    have cx := HX.out k hlt
    generalize hxk : xs[k] = xk at *
    have HXK : Hid _ := hxk
    clear hxk
    by_cases heq : xk = s
    · have hne : (xk.toList == s.toList) = true := bytes_same heq
      have HE : Hid _ := heq
      clear heq
      go_wp2
      go_ret
      refine ⟨⟨(k : Int), rfl, ?_⟩, rfl⟩
      by_cases hki : k < i
      · rw [decide_eq_true (by omega), Lh.mem_true]
        rw [List.mem_take_iff_getElem]
        exact ⟨k, by omega, by rw [HXK.out, HE.out]⟩
      · rw [decide_eq_false (by omega), Lh.mem_false]
        intro hmem
        rw [List.mem_take_iff_getElem] at hmem
        obtain ⟨j, hj, e⟩ := hmem
        exact HP.out j (by omega) (by omega) e
    · have hne : (xk.toList == s.toList) = false := bytes_parts heq
      have hki : k < i := by
        rcases Nat.lt_or_ge k i with h | h
        · exact h
        · exfalso
          have : k = i := by omega
          subst this
          exact heq (by rw [← HXK.out, HS.out])
      have HE : Hid _ := heq
      clear heq
      go_wp2
      go_round
      case rel =>
        refine ⟨k + 1, by omega, by go_num, fun j h hj => ?_⟩
        by_cases hjk : j = k
        · subst hjk; rw [HXK.out]; exact HE.out
        · exact HP.out j h (by omega)
      case measure => simp [intOf]; omega
end Go.Proofs.YtboigdpcahdidabDoor
