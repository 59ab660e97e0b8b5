/- Names of hosts: what is a name; lists that hold a text. -/
import Derived.Test.YtmkdpchodeckgaaDoorM1
namespace Go.Proofs.YtmkdpchodeckgaaDoor
open Go.RowKit

namespace Lh
def letter (c : UInt8) : Bool := decide (97 ≤ (c.toNat : Int)) && decide ((c.toNat : Int) ≤ 122)
def digit (c : UInt8) : Bool := decide (48 ≤ (c.toNat : Int)) && decide ((c.toNat : Int) ≤ 57)
def okc (c : UInt8) : Bool := letter c || digit c || ((c.toNat : Int) == 45)
def isNm (s : ByteArray) : Bool := decide (1 ≤ s.size) && decide (s.size ≤ 12) && (s.data.toList.head?.any letter) && s.data.toList.all okc
end Lh

theorem letter_any (c : UInt8) (w : World) : Calls Tryd.prog 59 #[.int .u8 c.toNat] w fun e w' => e = .returned (.bool (Lh.letter c)) ∧ w' = w := by
  by_cases h1 : 97 ≤ (c.toNat : Int)
  · by_cases h2 : (c.toNat : Int) ≤ 122
    · have hr : Lh.letter c = true := by simp [Lh.letter, h1, h2]
      rw [hr]
      go_enter Tryd.func59, Tryd.ntmps59
      go_wp2
      go_ret
      exact ⟨rfl, rfl⟩
    · have hr : Lh.letter c = false := by simp [Lh.letter, h2]
      rw [hr]
      have h3 : decide ((c.toNat : Int) ≤ 122) = false := by simpa using h2
      go_enter Tryd.func59, Tryd.ntmps59
      go_wp2
      go_ret
      exact ⟨rfl, rfl⟩
  · have hr : Lh.letter c = false := by simp [Lh.letter, h1]
    rw [hr]
    have h3 : decide (97 ≤ (c.toNat : Int)) = false := by simpa using h1
    go_enter Tryd.func59, Tryd.ntmps59
    go_wp2
    go_ret
    exact ⟨rfl, rfl⟩

theorem digit_any (c : UInt8) (w : World) : Calls Tryd.prog 60 #[.int .u8 c.toNat] w fun e w' => e = .returned (.bool (Lh.digit c)) ∧ w' = w := by
  by_cases h1 : 48 ≤ (c.toNat : Int)
  · by_cases h2 : (c.toNat : Int) ≤ 57
    · have hr : Lh.digit c = true := by simp [Lh.digit, h1, h2]
      rw [hr]
      go_enter Tryd.func60, Tryd.ntmps60
      go_wp2
      go_ret
      exact ⟨rfl, rfl⟩
    · have hr : Lh.digit c = false := by simp [Lh.digit, h2]
      rw [hr]
      have h3 : decide ((c.toNat : Int) ≤ 57) = false := by simpa using h2
      go_enter Tryd.func60, Tryd.ntmps60
      go_wp2
      go_ret
      exact ⟨rfl, rfl⟩
  · have hr : Lh.digit c = false := by simp [Lh.digit, h1]
    rw [hr]
    have h3 : decide (48 ≤ (c.toNat : Int)) = false := by simpa using h1
    go_enter Tryd.func60, Tryd.ntmps60
    go_wp2
    go_ret
    exact ⟨rfl, rfl⟩

theorem byte_at (s : ByteArray) (k : Nat) (h : k < s.size) : s.data.toList[k]'(by simpa using h) = s[k] := rfl
theorem all_take (s : ByteArray) (k : Nat) (h : k < s.size) : (s.data.toList.take (k + 1)).all Lh.okc = ((s.data.toList.take k).all Lh.okc && Lh.okc s[k]) := by
  rw [take_snoc s k h, List.all_append]; simp
theorem all_take_false (s : ByteArray) (k : Nat) (h : k < s.size) (hc : Lh.okc s[k] = false) : s.data.toList.all Lh.okc = false := by
  rw [List.all_eq_false]
  exact ⟨s[k], by rw [← byte_at s k h]; exact List.getElem_mem _, by simp [hc]⟩
theorem head_eq (s : ByteArray) (h : 0 < s.size) : s.data.toList.head?.any Lh.letter = Lh.letter s[0] := by
  rw [List.head?_eq_getElem?, List.getElem?_eq_getElem (by simpa using h), byte_at s 0 h]; rfl

set_option maxHeartbeats 1000000 in
theorem isName_any (s : ByteArray) (w : World) (hs : s.size ≤ 1000000) :
    Calls Tryd.prog 42 #[.string s] w fun e w' => e = .returned (.bool (Lh.isNm s)) ∧ w' = w := by
  obtain ⟨r, hr⟩ : ∃ r, r = Lh.isNm s := ⟨_, rfl⟩
  rw [← hr]
  have HR : Hid _ := hr
  clear hr
  by_cases h0 : s.size = 0
  · have e0 : ((s.size : Int) == 0) = true := by simp [h0]
    have : r = false := by rw [HR.out]; simp [Lh.isNm, h0]
    subst this
    clear h0
    go_enter Tryd.func42, Tryd.ntmps42
    go_wp2
    go_ret
    exact ⟨rfl, rfl⟩
  · have e0 : ((s.size : Int) == 0) = false := by rw [beq_eq_false_iff_ne]; omega
    have h0' : 0 < s.size := by omega
    clear h0
    by_cases h12 : 12 < s.size
    · have e12 : decide (12 < (s.size : Int)) = true := by simp; omega
      have : r = false := by rw [HR.out]; simp [Lh.isNm]; omega
      subst this
      go_enter Tryd.func42, Tryd.ntmps42
      go_wp2
      go_ret
      exact ⟨rfl, rfl⟩
    · have e12 : decide (12 < (s.size : Int)) = false := by simp; omega
      cases hl : Lh.letter s[0] with
      | false =>
        have : r = false := by rw [HR.out]; simp [Lh.isNm, head_eq s h0', hl]
        subst this
        have HL : Hid _ := hl
        clear hl
        go_enter Tryd.func42, Tryd.ntmps42
        go_wp2_with fail
        refine (letter_any _ _).mono ?_
        rintro e w1 ⟨rfl, rfl⟩
        rw [HL.out]
        go_wp2
        go_ret
        exact ⟨rfl, rfl⟩
      | true =>
        have hra : r = s.data.toList.all Lh.okc := by
          rw [HR.out]; simp [Lh.isNm, head_eq s h0', hl]; omega
        have HA : Hid _ := hra
        have HL : Hid _ := hl
        clear hra hl HR
        go_enter Tryd.func42, Tryd.ntmps42
        go_wp2_with fail
        refine (letter_any _ _).mono ?_
        rintro e w1 ⟨rfl, rfl⟩
        rw [HL.out]
        go_wp2_with fail
        go_loopw [20] (fun i W => W = w1 ∧ ∃ k : Nat, k ≤ s.size ∧ i = .int .i64 k ∧ (s.data.toList.take k).all Lh.okc = true) (fun i _ => s.size - (intOf i).toNat)
        case atStart => exact ⟨rfl, 0, Nat.zero_le _, rfl, rfl⟩
        case round =>
          obtain ⟨rfl, k, hk, rfl, hall⟩ := hrel
          have HP : Hid _ := hall
          clear hall
          by_cases hlt : k < s.size
          · have HT : Hid _ := all_take s k hlt
            have HF : Hid (Lh.okc s[k] = false → s.data.toList.all Lh.okc = false) := all_take_false s k hlt
            cases h1 : Lh.letter s[k] with
            | true =>
              have HO : Hid _ := (by simp [Lh.okc, h1] : Lh.okc s[k] = true)
              have H1 : Hid _ := h1
              clear h1
              go_wp2_with fail
              refine (letter_any _ _).mono ?_
              rintro e w2 ⟨rfl, rfl⟩
              rw [H1.out]
              go_wp2
              exact ⟨⟨by trivial, k + 1, by omega, by go_num, by rw [HT.out, HP.out, HO.out]; rfl⟩, by simp [intOf]; omega⟩
            | false =>
              cases h2 : Lh.digit s[k] with
              | true =>
                have HO : Hid _ := (by simp [Lh.okc, h2] : Lh.okc s[k] = true)
                have H1 : Hid _ := h1
                have H2 : Hid _ := h2
                clear h1 h2
                go_wp2_with fail
                refine (letter_any _ _).mono ?_
                rintro e w2 ⟨rfl, rfl⟩
                rw [H1.out]
                go_wp2_with fail
                refine (digit_any _ _).mono ?_
                rintro e w3 ⟨rfl, rfl⟩
                rw [H2.out]
                go_wp2
                exact ⟨⟨by trivial, k + 1, by omega, by go_num, by rw [HT.out, HP.out, HO.out]; rfl⟩, by simp [intOf]; omega⟩
              | false =>
                cases h3 : ((s[k].toNat : Int) == 45) with
                | true =>
                  have HO : Hid _ := (by simp only [Lh.okc, h3, Bool.or_true] : Lh.okc s[k] = true)
                  have hne : ((s[k].toNat : Int) != 45) = false := by rw [bne, h3]; rfl
                  have H1 : Hid _ := h1
                  have H2 : Hid _ := h2
                  clear h1 h2 h3
                  go_wp2_with fail
                  refine (letter_any _ _).mono ?_
                  rintro e w2 ⟨rfl, rfl⟩
                  rw [H1.out]
                  go_wp2_with fail
                  refine (digit_any _ _).mono ?_
                  rintro e w3 ⟨rfl, rfl⟩
                  rw [H2.out]
                  go_wp2
                  exact ⟨⟨by trivial, k + 1, by omega, by go_num, by rw [HT.out, HP.out, HO.out]; rfl⟩, by simp [intOf]; omega⟩
                | false =>
                  have HO : Hid _ := (by simp only [Lh.okc, h1, h2, h3]; rfl : Lh.okc s[k] = false)
                  have hne : ((s[k].toNat : Int) != 45) = true := by rw [bne, h3]; rfl
                  have H1 : Hid _ := h1
                  have H2 : Hid _ := h2
                  clear h1 h2 h3
                  go_wp2_with fail
                  refine (letter_any _ _).mono ?_
                  rintro e w2 ⟨rfl, rfl⟩
                  rw [H1.out]
                  go_wp2_with fail
                  refine (digit_any _ _).mono ?_
                  rintro e w3 ⟨rfl, rfl⟩
                  rw [H2.out]
                  go_wp2
                  go_ret
                  refine ⟨ret_bool ?_, rfl⟩
                  rw [HA.out, HF.out HO.out]
          · go_wp2
            go_ret
            refine ⟨ret_bool ?_, rfl⟩
            rw [HA.out, ← HP.out, List.take_of_length_le (by simp; omega)]

theorem head_false (s : ByteArray) (h : 0 < s.size) (hc : Lh.letter s[0] = false) : Lh.isNm s = false := by simp [Lh.isNm, head_eq s h, hc]
theorem all_false (s : ByteArray) (k : Nat) (h : k < s.size) (hc : Lh.okc s[k] = false) : Lh.isNm s = false := by simp only [Lh.isNm, all_take_false s k h hc, Bool.and_false]
theorem isNm_true (s : ByteArray) (h : 0 < s.size) (h12 : ¬ 12 < s.size) (hl : Lh.letter s[0] = true) (ha : s.data.toList.all Lh.okc = true) : Lh.isNm s = true := by
  simp only [Lh.isNm, head_eq s h, hl, ha, Bool.and_true]; simp; omega

end Go.Proofs.YtmkdpchodeckgaaDoor
