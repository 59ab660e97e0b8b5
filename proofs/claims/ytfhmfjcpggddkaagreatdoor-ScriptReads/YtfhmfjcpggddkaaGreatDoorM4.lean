/- Plain facts on 64-bit turns: each step of a turn can be undone. -/
import Derived.Test.YtfhmfjcpggddkaaGreatDoorProg
import Derived.WalkKit
import Derived.WalkLawsBesides
import Derived.WalkSpells
import Derived.Laws.AppendOwnNone
import Derived.Laws.CopyOwn
import Derived.Test.YtfhmfjcpggddkaaGreatDoorM3
import Derived.Test.YtfhmfjcpggddkaaGreatDoorCaSh
import Derived.Lib.AppendIntMem
import Derived.Lib.AtoiErrMem
namespace Go.Proofs.YtfhmfjcpggddkaaGreatDoor.Lh
/-- one step: xor with itself, shifted down -/
def fold (s z : Nat) : Nat := z ^^^ z / 2 ^ s
def turn (z : Nat) : Nat :=
  fold 31 (fold 27 (fold 30 ((z + 11400714819323198485) % 18446744073709551616) * 13787848793156543929 % 18446744073709551616) * 10723151780598845931 % 18446744073709551616)
def unfold2 (s z : Nat) : Nat := z ^^^ z / 2 ^ s ^^^ z / 2 ^ (2 * s)

theorem fold_lt (s z : Nat) (h : z < 18446744073709551616) : fold s z < 18446744073709551616 := by
  have h2 : z / 2 ^ s < 2 ^ 64 := Nat.lt_of_le_of_lt (Nat.div_le_self _ _) (by simpa using h)
  have := Nat.xor_lt_two_pow (x := z) (y := z / 2 ^ s) (n := 64) (by simpa using h) h2
  unfold fold
  simpa using this

def back (x : Nat) : Nat :=
  (unfold2 30 (unfold2 27 (unfold2 31 x * 3573116690164977347 % 18446744073709551616) * 10871156337175269513 % 18446744073709551616) + 7046029254386353131) % 18446744073709551616

theorem turn_lt (z : Nat) : turn z < 18446744073709551616 := fold_lt _ _ (Nat.mod_lt _ (by decide))
end Go.Proofs.YtfhmfjcpggddkaaGreatDoor.Lh

/- Turn of mix computes 'turn'; it leaves all old memory as it was. -/
namespace Go.Proofs.YtfhmfjcpggddkaaGreatDoor
open Go.RowKit

theorem wrapNat (z c : Nat) : IntKind.u64.wrap ((z : Int) + (c : Int)) = (((z + c) % 18446744073709551616 : Nat) : Int) := by
  rw [IntKind.wrap_u64]; omega
theorem step30 (X : Nat) (hX : X < 18446744073709551616) : IntKind.u64.wrap (bits .xor .u64 (X : Int) ((X : Int) / 1073741824) * 13787848793156543929) = ((Lh.fold 30 X * 13787848793156543929 % 18446744073709551616 : Nat) : Int) :=
  mixStep_u64 X 1073741824 13787848793156543929 hX
theorem step27 (X : Nat) (hX : X < 18446744073709551616) : IntKind.u64.wrap (bits .xor .u64 (X : Int) ((X : Int) / 134217728) * 10723151780598845931) = ((Lh.fold 27 X * 10723151780598845931 % 18446744073709551616 : Nat) : Int) :=
  mixStep_u64 X 134217728 10723151780598845931 hX
theorem step31 (X : Nat) (hX : X < 18446744073709551616) : bits .xor .u64 (X : Int) ((X : Int) / 2147483648) = ((Lh.fold 31 X : Nat) : Int) :=
  xorShift_u64 X 2147483648 hX
theorem stepAdd (z : Nat) : IntKind.u64.wrap ((z : Int) + 11400714819323198485) = (((z + 11400714819323198485) % 18446744073709551616 : Nat) : Int) := wrapNat z 11400714819323198485

set_option maxHeartbeats 400000 in
theorem turn_any (z : Nat) (w : World) :
    Calls Tryz.prog 183 #[.int .u64 z] w fun e w' => e = .returned (.int .u64 (Lh.turn z : Nat)) ∧ Below w.heap.size w w' := by
  go_enter Tryz.func183, Tryz.ntmps183
  go_wp2
  go_end0
  go_wp2
  go_end0
  go_wp2
  go_end0
  go_wp2
  go_ret
  refine ⟨?_, (Below.refl _ _).alloc (Nat.le_refl _) _⟩
  rw [stepAdd, step30 _ (Nat.mod_lt _ (by decide)), step27 _ (Nat.mod_lt _ (by decide)), step31 _ (Nat.mod_lt _ (by decide))]
  rfl
end Go.Proofs.YtfhmfjcpggddkaaGreatDoor

/- What holds of memory alone. -/
namespace Go.Proofs.YtfhmfjcpggddkaaGreatDoor
open Go.RowKit

theorem below_then {w w1 w2 : World} (h : Below w.heap.size w w1) (k : Below w1.heap.size w1 w2) : Below w.heap.size w w2 :=
  h.trans (k.mono h.size)
theorem below_grown {w w' : World} {r : Option Nat} (hg : w.grownBy w' r) (hr : ∀ k, r = some k → w.heap.size ≤ k) : Below w.heap.size w w' := (Below.refl _ _).grown hg (Nat.le_refl _) hr
theorem ownsRow_below {w w' : World} {base : Nat} {e : TypeId} {size : Nat} {v : Value} {n : Nat} {xs : List Value} (h : w.ownsRow base e size v n xs) (hb : Below w.heap.size w w') : w'.ownsRow base e size v n xs :=
  h.kept (row := none) ⟨hb.os, hb.tape, hb.output, hb.size, fun k hk _ => hb.block k hk⟩ (by cases v.ownBlock <;> simp)
end Go.Proofs.YtfhmfjcpggddkaaGreatDoor

/- MixBack: the walks: 'mixed' is true, each step of a turn is undone. -/
namespace Go.Proofs.YtfhmfjcpggddkaaGreatDoor
open Go.RowKit

theorem unmul (X c : Nat) : IntKind.u64.wrap ((X : Int) * (c : Int)) = ((X * c % 18446744073709551616 : Nat) : Int) := by
  rw [IntKind.wrap_u64, Int.natCast_emod, Int.natCast_mul]; rfl
end Go.Proofs.YtfhmfjcpggddkaaGreatDoor

/- Of, Two, and the reference's NumberOf, TurnOf: the numbers that they compute. -/
namespace Go.Proofs.YtfhmfjcpggddkaaGreatDoor
open Go.RowKit

namespace Lh
/-- one byte -/
def step (h : Nat) (c : UInt8) : Nat := (h ^^^ c.toNat) * 1099511628211 % 18446744073709551616
def hash (l : List UInt8) : Nat := l.foldl step 14695981039346656037
def num (s : ByteArray) (salt : Nat) : Nat := turn (hash s.data.toList ^^^ turn salt)
theorem byte_lt (c : UInt8) : c.toNat < 18446744073709551616 := Nat.lt_trans c.toNat_lt (by decide)
theorem hash_lt (l : List UInt8) : hash l < 18446744073709551616 := by
  unfold hash
  have : ∀ (l : List UInt8) (h : Nat), h < 18446744073709551616 → l.foldl step h < 18446744073709551616 := by
    intro l
    induction l with
    | nil => intro h hh; exact hh
    | cons c r ih => intro h _; exact ih _ (Nat.mod_lt _ (by decide))
  exact this l _ (by decide)
theorem foldl_snoc {α β : Type} (f : β → α → β) (b : β) (l : List α) (a : α) : (l ++ [a]).foldl f b = f (l.foldl f b) a := by rw [List.foldl_append]; rfl
theorem hash_snoc (l : List UInt8) (c : UInt8) : hash (l ++ [c]) = step (hash l) c := foldl_snoc step _ l c
end Lh

theorem xorNat (a b : Nat) (ha : a < 18446744073709551616) (hb : b < 18446744073709551616) : bits .xor .u64 (a : Int) (b : Int) = ((a ^^^ b : Nat) : Int) := bits_xor_u64_nat a b ha hb
theorem stepNat (h : Nat) (c : UInt8) (hh : h < 18446744073709551616) : IntKind.u64.wrap (bits .xor .u64 (h : Int) (c.toNat : Int) * 1099511628211) = ((Lh.step h c : Nat) : Int) := by
  rw [xorNat h c.toNat hh (Lh.byte_lt c)]
  exact unmul _ 1099511628211

theorem take_snoc (s : ByteArray) (k : Nat) (h : k < s.size) : s.data.toList.take (k + 1) = s.data.toList.take k ++ [s[k]] := by
  rw [List.take_succ_eq_append_getElem (by simpa using h)]; rfl
theorem hash_next (s : ByteArray) (k : Nat) (h : k < s.size) : IntKind.u64.wrap (bits .xor .u64 (Lh.hash (s.data.toList.take k) : Int) (IntKind.u64.wrap (s[k].toNat : Int)) * 1099511628211) = ((Lh.hash (s.data.toList.take (k + 1)) : Nat) : Int) := by
  have hc : IntKind.u64.wrap (s[k].toNat : Int) = (s[k].toNat : Int) := by
    have := Lh.byte_lt s[k]
    rw [IntKind.wrap_u64]
    omega
  rw [hc, stepNat _ _ (Lh.hash_lt _), take_snoc s k h, Lh.hash_snoc]

set_option maxHeartbeats 400000 in
theorem of_any (s : ByteArray) (salt : Nat) (w : World) (hs : s.size ≤ 300) :
    Calls Tryz.prog 178 #[.string s, .int .u64 salt] w fun e w' => e = .returned (.int .u64 (Lh.num s salt : Nat)) ∧ Below w.heap.size w w' := by
  go_enter Tryz.func178, Tryz.ntmps178
  go_wp2
  go_loop [5, 9] (fun h i => ∃ k : Nat, k ≤ s.size ∧ i = .int .i64 k ∧ h = .int .u64 (Lh.hash (s.data.toList.take k) : Nat)) (fun _ i => s.size - (intOf i).toNat)
  case atStart => exact ⟨0, Nat.zero_le _, rfl, rfl⟩
  case round =>
    obtain ⟨k, hk, rfl, rfl⟩ := hrel
    by_cases hlt : k < s.size
    · have HN : Hid _ := hash_next s k hlt
      go_wp2
      go_round
      case rel => exact ⟨k + 1, by omega, by go_num, by rw [← HN.out]⟩
      case measure => simp [intOf]; omega
    · have hfull : s.data.toList.take k = s.data.toList := List.take_of_length_le (by simp; omega)
      rw [hfull]
      clear hfull
      go_wp2_with fail
      refine (turn_any salt _).mono ?_
      rintro e w1 ⟨rfl, hb1⟩
      go_wp2_with fail
      rw [xorNat _ _ (Lh.hash_lt _) (Lh.turn_lt _)]
      refine (turn_any _ _).mono ?_
      rintro e w2 ⟨rfl, hb2⟩
      go_wp2
      go_ret
      exact ⟨rfl, below_then hb1 hb2⟩

end Go.Proofs.YtfhmfjcpggddkaaGreatDoor

/- Names of hosts: what is a name; lists that hold a text. -/
namespace Go.Proofs.YtfhmfjcpggddkaaGreatDoor
open Go.RowKit

namespace Lh
def letter (c : UInt8) : Bool := decide (97 ≤ (c.toNat : Int)) && decide ((c.toNat : Int) ≤ 122)
def digit (c : UInt8) : Bool := decide (48 ≤ (c.toNat : Int)) && decide ((c.toNat : Int) ≤ 57)
def okc (c : UInt8) : Bool := letter c || digit c || ((c.toNat : Int) == 45)
def isNm (s : ByteArray) : Bool := decide (1 ≤ s.size) && decide (s.size ≤ 12) && (s.data.toList.head?.any letter) && s.data.toList.all okc
end Lh

theorem letter_any (c : UInt8) (w : World) : Calls Tryz.prog 219 #[.int .u8 c.toNat] w fun e w' => e = .returned (.bool (Lh.letter c)) ∧ w' = w := by
  by_cases h1 : 97 ≤ (c.toNat : Int)
  · by_cases h2 : (c.toNat : Int) ≤ 122
    · have hr : Lh.letter c = true := by simp [Lh.letter, h1, h2]
      rw [hr]
      go_enter Tryz.func219, Tryz.ntmps219
      go_wp2
      go_ret
      exact ⟨rfl, rfl⟩
    · have hr : Lh.letter c = false := by simp [Lh.letter, h2]
      rw [hr]
      have h3 : decide ((c.toNat : Int) ≤ 122) = false := by simpa using h2
      go_enter Tryz.func219, Tryz.ntmps219
      go_wp2
      go_ret
      exact ⟨rfl, rfl⟩
  · have hr : Lh.letter c = false := by simp [Lh.letter, h1]
    rw [hr]
    have h3 : decide (97 ≤ (c.toNat : Int)) = false := by simpa using h1
    go_enter Tryz.func219, Tryz.ntmps219
    go_wp2
    go_ret
    exact ⟨rfl, rfl⟩

theorem digit_any (c : UInt8) (w : World) : Calls Tryz.prog 220 #[.int .u8 c.toNat] w fun e w' => e = .returned (.bool (Lh.digit c)) ∧ w' = w := by
  by_cases h1 : 48 ≤ (c.toNat : Int)
  · by_cases h2 : (c.toNat : Int) ≤ 57
    · have hr : Lh.digit c = true := by simp [Lh.digit, h1, h2]
      rw [hr]
      go_enter Tryz.func220, Tryz.ntmps220
      go_wp2
      go_ret
      exact ⟨rfl, rfl⟩
    · have hr : Lh.digit c = false := by simp [Lh.digit, h2]
      rw [hr]
      have h3 : decide ((c.toNat : Int) ≤ 57) = false := by simpa using h2
      go_enter Tryz.func220, Tryz.ntmps220
      go_wp2
      go_ret
      exact ⟨rfl, rfl⟩
  · have hr : Lh.digit c = false := by simp [Lh.digit, h1]
    rw [hr]
    have h3 : decide (48 ≤ (c.toNat : Int)) = false := by simpa using h1
    go_enter Tryz.func220, Tryz.ntmps220
    go_wp2
    go_ret
    exact ⟨rfl, rfl⟩

theorem byte_at (s : ByteArray) (k : Nat) (h : k < s.size) : s.data.toList[k]'(by simpa using h) = s[k] := rfl
theorem all_take (s : ByteArray) (k : Nat) (h : k < s.size) : (s.data.toList.take (k + 1)).all Lh.okc = ((s.data.toList.take k).all Lh.okc && Lh.okc s[k]) := by
  rw [take_snoc s k h, List.all_append]; simp
theorem all_take_false (s : ByteArray) (k : Nat) (h : k < s.size) (hc : Lh.okc s[k] = false) : s.data.toList.all Lh.okc = false := by
  rw [List.all_eq_false]
  exact ⟨s[k], by rw [← byte_at s k h]; exact List.getElem_mem _, by simp [hc]⟩
theorem head_eq (s : ByteArray) (h : 0 < s.size) : s.data.toList.head?.any Lh.letter = Lh.letter s[0] := by
  rw [List.head?_eq_getElem?, List.getElem?_eq_getElem (by simpa using h), byte_at s 0 h]; rfl

set_option maxHeartbeats 1000000 in
theorem isName_any (s : ByteArray) (w : World) (hs : s.size ≤ 1000000) :
    Calls Tryz.prog 176 #[.string s] w fun e w' => e = .returned (.bool (Lh.isNm s)) ∧ w' = w := by
  obtain ⟨r, hr⟩ : ∃ r, r = Lh.isNm s := ⟨_, rfl⟩
  rw [← hr]
  have HR : Hid _ := hr
  clear hr
  by_cases h0 : s.size = 0
  · have e0 : ((s.size : Int) == 0) = true := by simp [h0]
    have : r = false := by rw [HR.out]; simp [Lh.isNm, h0]
    subst this
    clear h0
    go_enter Tryz.func176, Tryz.ntmps176
    go_wp2
    go_ret
    exact ⟨rfl, rfl⟩
  · have e0 : ((s.size : Int) == 0) = false := by rw [beq_eq_false_iff_ne]; omega
    have h0' : 0 < s.size := by omega
    clear h0
    by_cases h12 : 12 < s.size
    · have e12 : decide (12 < (s.size : Int)) = true := by simp; omega
      have : r = false := by rw [HR.out]; simp [Lh.isNm]; omega
      subst this
      go_enter Tryz.func176, Tryz.ntmps176
      go_wp2
      go_ret
      exact ⟨rfl, rfl⟩
    · have e12 : decide (12 < (s.size : Int)) = false := by simp; omega
      cases hl : Lh.letter s[0] with
      | false =>
        have : r = false := by rw [HR.out]; simp [Lh.isNm, head_eq s h0', hl]
        subst this
        have HL : Hid _ := hl
        clear hl
        go_enter Tryz.func176, Tryz.ntmps176
        go_wp2_with fail
        refine (letter_any _ _).mono ?_
        rintro e w1 ⟨rfl, rfl⟩
        rw [HL.out]
        go_wp2
        go_ret
        exact ⟨rfl, rfl⟩
      | true =>
        have hra : r = s.data.toList.all Lh.okc := by
          rw [HR.out]; simp [Lh.isNm, head_eq s h0', hl]; omega
        have HA : Hid _ := hra
        have HL : Hid _ := hl
        clear hra hl HR
        go_enter Tryz.func176, Tryz.ntmps176
        go_wp2_with fail
        refine (letter_any _ _).mono ?_
        rintro e w1 ⟨rfl, rfl⟩
        rw [HL.out]
        go_wp2_with fail
        go_loopw [20] (fun i W => W = w1 ∧ ∃ k : Nat, k ≤ s.size ∧ i = .int .i64 k ∧ (s.data.toList.take k).all Lh.okc = true) (fun i _ => s.size - (intOf i).toNat)
        case atStart => exact ⟨rfl, 0, Nat.zero_le _, rfl, rfl⟩
        case round =>
          obtain ⟨rfl, k, hk, rfl, hall⟩ := hrel
          have HP : Hid _ := hall
          clear hall
          by_cases hlt : k < s.size
          · have HT : Hid _ := all_take s k hlt
            have HF : Hid (Lh.okc s[k] = false → s.data.toList.all Lh.okc = false) := all_take_false s k hlt
            cases h1 : Lh.letter s[k] with
            | true =>
              have HO : Hid _ := (by simp [Lh.okc, h1] : Lh.okc s[k] = true)
              have H1 : Hid _ := h1
              clear h1
              go_wp2_with fail
              refine (letter_any _ _).mono ?_
              rintro e w2 ⟨rfl, rfl⟩
              rw [H1.out]
              go_wp2
              exact ⟨⟨by trivial, k + 1, by omega, by go_num, by rw [HT.out, HP.out, HO.out]; rfl⟩, by simp [intOf]; omega⟩
            | false =>
              cases h2 : Lh.digit s[k] with
              | true =>
                have HO : Hid _ := (by simp [Lh.okc, h2] : Lh.okc s[k] = true)
                have H1 : Hid _ := h1
                have H2 : Hid _ := h2
                clear h1 h2
                go_wp2_with fail
                refine (letter_any _ _).mono ?_
                rintro e w2 ⟨rfl, rfl⟩
                rw [H1.out]
                go_wp2_with fail
                refine (digit_any _ _).mono ?_
                rintro e w3 ⟨rfl, rfl⟩
                rw [H2.out]
                go_wp2
                exact ⟨⟨by trivial, k + 1, by omega, by go_num, by rw [HT.out, HP.out, HO.out]; rfl⟩, by simp [intOf]; omega⟩
              | false =>
                cases h3 : ((s[k].toNat : Int) == 45) with
                | true =>
                  have HO : Hid _ := (by simp only [Lh.okc, h3, Bool.or_true] : Lh.okc s[k] = true)
                  have hne : ((s[k].toNat : Int) != 45) = false := by rw [bne, h3]; rfl
                  have H1 : Hid _ := h1
                  have H2 : Hid _ := h2
                  clear h1 h2 h3
                  go_wp2_with fail
                  refine (letter_any _ _).mono ?_
                  rintro e w2 ⟨rfl, rfl⟩
                  rw [H1.out]
                  go_wp2_with fail
                  refine (digit_any _ _).mono ?_
                  rintro e w3 ⟨rfl, rfl⟩
                  rw [H2.out]
                  go_wp2
                  exact ⟨⟨by trivial, k + 1, by omega, by go_num, by rw [HT.out, HP.out, HO.out]; rfl⟩, by simp [intOf]; omega⟩
                | false =>
                  have HO : Hid _ := (by simp only [Lh.okc, h1, h2, h3]; rfl : Lh.okc s[k] = false)
                  have hne : ((s[k].toNat : Int) != 45) = true := by rw [bne, h3]; rfl
                  have H1 : Hid _ := h1
                  have H2 : Hid _ := h2
                  clear h1 h2 h3
                  go_wp2_with fail
                  refine (letter_any _ _).mono ?_
                  rintro e w2 ⟨rfl, rfl⟩
                  rw [H1.out]
                  go_wp2_with fail
                  refine (digit_any _ _).mono ?_
                  rintro e w3 ⟨rfl, rfl⟩
                  rw [H2.out]
                  go_wp2
                  go_ret
                  refine ⟨ret_bool ?_, rfl⟩
                  rw [HA.out, HF.out HO.out]
          · go_wp2
            go_ret
            refine ⟨ret_bool ?_, rfl⟩
            rw [HA.out, ← HP.out, List.take_of_length_le (by simp; omega)]

end Go.Proofs.YtfhmfjcpggddkaaGreatDoor

/- Errors by number and place; the first text of a list. -/
namespace Go.Proofs.YtfhmfjcpggddkaaGreatDoor
open Go.RowKit

namespace Lh
def mem (s : ByteArray) (xs : List ByteArray) : Bool := xs.any fun x => decide (x = s)
theorem mem_true {s : ByteArray} {xs : List ByteArray} (h : s ∈ xs) : mem s xs = true := by
  unfold mem; rw [List.any_eq_true]; exact ⟨s, h, by simp⟩
theorem mem_false {s : ByteArray} {xs : List ByteArray} (h : ¬ s ∈ xs) : mem s xs = false := by
  unfold mem; rw [List.any_eq_false]; intro x hx; simp only [decide_eq_true_eq]; intro e; subst e; exact h hx
end Lh

/-- The value v is the error of number c (0: none) at the place pl (-1: bare). -/
def ErrIs (a : Nat → Addr) (W : World) (c : Nat) (pl : Int) (v : Value) : Prop :=
  (c = 0 ∧ pl = -1 ∧ v = .nilIface) ∨
  (∃ i, i < 9 ∧ c = i + 1 ∧ ((pl = -1 ∧ v = .iface 378 (.pointer (some (a i)))) ∨
    ∃ b, v = .iface 103 (.pointer (some ⟨b, 0, none⟩)) ∧ W.cell? ⟨b, 0, none⟩ = some (.int .i64 pl) ∧ W.cell? ⟨b, 1, none⟩ = some (.iface 378 (.pointer (some (a i))))))

theorem ErrIs.later {a : Nat → Addr} {W W' : World} {c : Nat} {pl : Int} {v : Value} (h : ErrIs a W c pl v) (hb : Below W.heap.size W W') : ErrIs a W' c pl v := by
  rcases h with h | ⟨i, hi, hc, h | ⟨b, hv, h0, h1⟩⟩
  · exact Or.inl h
  · exact Or.inr ⟨i, hi, hc, Or.inl h⟩
  · exact Or.inr ⟨i, hi, hc, Or.inr ⟨b, hv, below_cell hb h0, below_cell hb h1⟩⟩

theorem code_is {a : Nat → Addr} {W : World} {c : Nat} {pl : Int} {v : Value} (he : Errs a W) (h : ErrIs a W c pl v) :
    Calls Tryz.prog 17 #[v] W fun e w' => e = .returned (.tuple #[.int .i64 c, .int .i64 pl]) ∧ Below W.heap.size W w' := by
  rcases h with ⟨rfl, rfl, rfl⟩ | ⟨i, hi, rfl, ⟨rfl, rfl⟩ | ⟨b, rfl, h0, h1⟩⟩
  · exact (code_nil W).mono fun e w' ⟨h1, h2⟩ => ⟨h1, by rw [h2]; exact Below.refl _ _⟩
  · have := code_sent a i hi W he
    rw [codeNum_lt hi] at this
    exact this
  · have := code_fault a i hi pl b W he h0 h1
    rw [codeNum_lt hi] at this
    exact this

/- the first place of a text in a list -/
set_option maxHeartbeats 1000000 in
theorem contains_core (b o c : Nat) (xs : List ByteArray) (s : ByteArray) (w : World) (hx : ∀ k (h : k < xs.length), w.cell? ⟨b, o + k, none⟩ = some (.string xs[k])) (hm : xs.length < 1000000) :
    Calls Tryz.prog 221 #[.slice (some ⟨b, o, none⟩) xs.length c, .string s] w fun e w' => (∃ j : Int, e = .returned (.int .i64 j) ∧ decide (0 ≤ j) = Lh.mem s xs) ∧ w' = w := by
  have HX : Hid _ := hx
  clear hx
  go_enter Tryz.func221, Tryz.ntmps221
  go_wp2
  go_loop [8] (fun t => ∃ k : Nat, k ≤ xs.length ∧ t = .int .i64 k ∧ ∀ j (h : j < xs.length), j < k → xs[j] ≠ s) (fun t => xs.length - (intOf t).toNat)
  case atStart => exact ⟨0, Nat.zero_le _, rfl, fun j _ h => absurd h (by omega)⟩
  case round =>
    obtain ⟨k, hk, rfl, hpre⟩ := hrel
    have HP : Hid _ := hpre
    clear hpre
    by_cases hlt : k < xs.length
    · have cx := HX.out k hlt
      generalize hxk : xs[k] = xk at *
      have HXK : Hid _ := hxk
      clear hxk
      by_cases heq : s = xk
      · have hne : (s.toList == xk.toList) = true := bytes_same heq
        have HE : Hid _ := heq
        clear heq
        go_wp2
        go_ret
        refine ⟨⟨(k : Int), rfl, ?_⟩, rfl⟩
        rw [decide_eq_true (by omega), Lh.mem_true]
        rw [HE.out, ← HXK.out]
        exact List.getElem_mem _
      · have hne : (s.toList == xk.toList) = false := bytes_parts heq
        have HE : Hid _ := heq
        clear heq
        go_wp2
        go_round
        case rel =>
          refine ⟨k + 1, by omega, by go_num, fun j h hj => ?_⟩
          by_cases hjk : j = k
          · subst hjk; rw [HXK.out]; exact fun e => HE.out e.symm
          · exact HP.out j h (by omega)
        case measure => simp [intOf]; omega
    · go_wp2
      go_ret
      refine ⟨⟨-1, rfl, ?_⟩, rfl⟩
      rw [decide_eq_false (by omega), Lh.mem_false]
      intro hm
      obtain ⟨j, hj, e⟩ := List.getElem_of_mem hm
      exact HP.out j hj (by omega) e

set_option maxHeartbeats 1000000 in
theorem index_zero (p : Option Addr) (c : Nat) (s : ByteArray) (w : World) :
    Calls Tryz.prog 221 #[.slice p 0 c, .string s] w fun e w' => e = .returned (.int .i64 (-1)) ∧ w' = w := by
  go_enter Tryz.func221, Tryz.ntmps221
  go_wp2
  refine wp_loop_rounds 1 ?_
  rw [rounds_succ]
  go_wp2
  go_ret
  exact ⟨rfl, rfl⟩

/-- slices.Contains of a list of texts. -/
theorem contains_any (v : Value) (xs : List ByteArray) (s : ByteArray) (w : World) (hv : Strs w v xs) (hm : xs.length < 1000000) :
    Calls Tryz.prog 177 #[v, .string s] w fun e w' => e = .returned (.bool (Lh.mem s xs)) ∧ w' = w := by
  have key : Calls Tryz.prog 221 #[v, .string s] w fun e w' => (∃ j : Int, e = .returned (.int .i64 j) ∧ decide (0 ≤ j) = Lh.mem s xs) ∧ w' = w := by
    rcases hv with ⟨rfl, p, c, rfl⟩ | ⟨b, o, c, rfl, _, hc⟩
    · exact (index_zero p c s w).mono fun e w' ⟨h1, h2⟩ => ⟨⟨-1, h1, rfl⟩, h2⟩
    · exact contains_core b o c xs s w hc hm
  clear hv
  go_enter Tryz.func177, Tryz.ntmps177
  go_wp2_with fail
  refine key.mono ?_
  rintro e w1 ⟨⟨j, rfl, hj⟩, rfl⟩
  have HJ : Hid _ := hj
  clear hj key
  go_wp2
  go_ret
  exact ⟨ret_bool HJ.out, rfl⟩

end Go.Proofs.YtfhmfjcpggddkaaGreatDoor

/- What the landed carry asks of the package variables, and what the library's functions do there: words joined, a text parted, a zero many times, numbers read and written. -/
namespace Go.Proofs.YtfhmfjcpggddkaaGreatDoor
open Go.RowKit

theorem heap_newC (w : World) (o : Obj) : (w.alloc o).heap[w.heap.size]? = some o := by
  unfold World.alloc
  simp
structure EC (a : Nat → Addr) (W : World) : Prop where
  s0 : W.cell? ⟨1, 0, none⟩ = some (.iface 378 (.pointer (some (a 0))))
  s1 : W.cell? ⟨0, 0, none⟩ = some (.iface 378 (.pointer (some (a 1))))
  s3 : W.cell? ⟨3, 0, none⟩ = some (.iface 378 (.pointer (some (a 3))))
  s5 : W.cell? ⟨5, 0, none⟩ = some (.iface 378 (.pointer (some (a 5))))
  syn : ∃ te pe, W.cell? ⟨16, 0, none⟩ = some (.iface te pe)
  rng : ∃ te pe, W.cell? ⟨17, 0, none⟩ = some (.iface te pe)
  tab : Lib.TabIs Tryz.prog W "internal/strconv.uint64pow10" .u64 Lib.pow10Tab
  brj : W.cell? ⟨15, 15, none⟩ = some (.int .u8 4)
  mln : ∃ m, W.cell? ⟨10, 0, none⟩ = some (.int .i64 m)
theorem EC.later {a : Nat → Addr} {W W' : World} (h : EC a W) (hb : Below W.heap.size W W') : EC a W' where
  s0 := below_cell hb h.s0
  s1 := below_cell hb h.s1
  s3 := below_cell hb h.s3
  s5 := below_cell hb h.s5
  syn := let ⟨te, pe, e⟩ := h.syn; ⟨te, pe, below_cell hb e⟩
  rng := let ⟨te, pe, e⟩ := h.rng; ⟨te, pe, below_cell hb e⟩
  tab := Lib.tabBelow_of_tabIs h.tab W' hb
  brj := below_cell hb h.brj
  mln := let ⟨m, e⟩ := h.mln; ⟨m, below_cell hb e⟩

theorem join3_any (b c : Nat) (x y z : List UInt8) (w : World) (h0 : w.cell? ⟨b, 0, none⟩ = some (.string (Lh.bt x))) (h1 : w.cell? ⟨b, 1, none⟩ = some (.string (Lh.bt y))) (h2 : w.cell? ⟨b, 2, none⟩ = some (.string (Lh.bt z))) (hb : b < w.heap.size) (hc : 3 ≤ c) (hl : (Lh.joinL 32 [x, y, z]).length ≤ 1000000) :
    Calls Tryz.prog 42 #[.slice (some ⟨b, 0, none⟩) 3 c, .string (Lh.bt [32])] w fun e w' => e = .returned (.string (Lh.bt (Lh.joinL 32 [x, y, z]))) ∧ Below w.heap.size w w' := by
  have e : Lib.join ([Lh.bt x, Lh.bt y, Lh.bt z].map (·.data.toList)) (Lh.bt [32]).data.toList = Lh.joinL 32 [x, y, z] := Lh.join_three x y z
  have h := Any.strings_Join lays156 Builder_Extra_156 b 0 c [Lh.bt x, Lh.bt y, Lh.bt z] (Lh.bt [32]) w (fun j s hj => by
    match j, hj with
    | 0, hj => cases hj; exact h0
    | 1, hj => cases hj; exact h1
    | 2, hj => cases hj; exact h2) hb (by simp) hc (by rw [e]; omega)
  rw [e] at h
  exact h
theorem join2_any (b c : Nat) (x y : List UInt8) (w : World) (h0 : w.cell? ⟨b, 0, none⟩ = some (.string (Lh.bt x))) (h1 : w.cell? ⟨b, 1, none⟩ = some (.string (Lh.bt y))) (hb : b < w.heap.size) (hc : 2 ≤ c) (hl : (Lh.joinL 32 [x, y]).length ≤ 1000000) :
    Calls Tryz.prog 42 #[.slice (some ⟨b, 0, none⟩) 2 c, .string (Lh.bt [32])] w fun e w' => e = .returned (.string (Lh.bt (Lh.joinL 32 [x, y]))) ∧ Below w.heap.size w w' := by
  have e : Lib.join ([Lh.bt x, Lh.bt y].map (·.data.toList)) (Lh.bt [32]).data.toList = Lh.joinL 32 [x, y] := Lh.join_two x y
  have h := Any.strings_Join lays156 Builder_Extra_156 b 0 c [Lh.bt x, Lh.bt y] (Lh.bt [32]) w (fun j s hj => by
    match j, hj with
    | 0, hj => cases hj; exact h0
    | 1, hj => cases hj; exact h1) hb (by simp) hc (by rw [e]; omega)
  rw [e] at h
  exact h
theorem itoa_any {a : Nat → Addr} (n : Nat) (hn : n ≤ 9223372036854775807) (w : World) (he : EC a w) :
    Calls Tryz.prog 87 #[.int .i64 (n : Nat)] w fun e w' => e = .returned (.string (Lh.bt (Lh.decL n))) ∧ Below w.heap.size w w' := by
  refine (Any.strconv_Itoa laysM171 (n : Int) (by omega) (by omega) w he.tab).mono ?_
  rintro e w' ⟨rfl, k, os, rfl⟩
  exact ⟨by rw [Lh.itoa_dec]; rfl, Lib.below_grow _ w (Nat.le_refl _) k os⟩
theorem atoi_any {a : Nat → Addr} (s : List UInt8) (hs : s.length ≤ 100000) (w : World) (he : EC a w) :
    Calls Tryz.prog 260 #[.string (Lh.bt s)] w fun e w' => Below w.heap.size w w' ∧ ((∃ v, Lib.atoiAll s = .ok v ∧ e = .returned (.tuple #[.int .i64 v, .nilIface])) ∨ ((∀ v, Lib.atoiAll s ≠ .ok v) ∧ ∃ x t p, e = .returned (.tuple #[.int .i64 x, .iface t p]))) := by
  have hsz : (Lh.bt s).size = s.length := by simp [Lh.bt, ByteArray.size]
  cases h : Lib.atoiAll s with
  | ok v =>
    refine (Any.strconv_Atoi_ok laysC172 (Lh.bt s) (by omega) v h w).mono ?_
    rintro e w' ⟨rfl, rfl | ⟨t, rfl⟩⟩
    · exact ⟨Below.refl _ _, Or.inl ⟨v, rfl, rfl⟩⟩
    · exact ⟨Lib.bytesWorld_below w _ t, Or.inl ⟨v, rfl, rfl⟩⟩
  | «syntax» =>
    obtain ⟨te, pe, hv⟩ := he.syn
    refine (Any.strconv_Atoi_syntax laysC172 (Lh.bt s) (by omega) h _ w hv (Or.inr ⟨te, pe, rfl⟩)).mono ?_
    rintro e w' ⟨N, rfl, _, _, hb⟩
    exact ⟨hb, Or.inr ⟨fun v e => (by cases e), _, _, _, rfl⟩⟩
  | range =>
    obtain ⟨te, pe, hv⟩ := he.rng
    refine (Any.strconv_Atoi_range laysC172 (Lh.bt s) (by omega) h _ w hv (Or.inr ⟨te, pe, rfl⟩)).mono ?_
    rintro e w' ⟨N, rfl, _, _, hb⟩
    exact ⟨hb, Or.inr ⟨fun v e => (by cases e), _, _, _, rfl⟩⟩
theorem split_any {a : Nat → Addr} (s : List UInt8) (y : UInt8) (hs : s.length ≤ 100000) (w : World) (he : EC a w) :
    Calls Tryz.prog 108 #[.string (Lh.bt s), .string (Lh.bt [y])] w fun e w' => e = .returned (.slice (some ⟨w.heap.size, 0, none⟩) (Lh.cutL y s).length (Lh.cutL y s).length) ∧ Below w.heap.size w w' ∧ w.heap.size < w'.heap.size ∧
      ∀ j (hj : j < (Lh.cutL y s).length), w'.cell? ⟨w.heap.size, j, none⟩ = some (.string (Lh.bt (Lh.cutL y s)[j])) := by
  have hsz : (Lh.bt s).size = s.length := by simp [Lh.bt, ByteArray.size]
  obtain ⟨m, hm⟩ := he.mln
  refine (Any.strings_Split lays146 (by kernel_rfl) (Lh.bt s) (Lh.bt [y]) m w (by omega) hm (Nat.le_refl 1)).mono ?_
  rintro e w' ⟨rfl, rfl⟩
  rw [Lh.splitB_cut, Lh.count_cut]
  refine ⟨rfl, (Below.refl _ _).alloc (Nat.le_refl _) _, by simp, fun j hj => ?_⟩
  rw [Lib.cell_of_heap (heap_newC w _)]
  simp [hj]
theorem repeat_any (c : Nat) (hc : c ≤ 1000) (w : World) :
    Calls Tryz.prog 255 #[.string (Lh.bt [48]), .int .i64 (c : Nat)] w fun e w' => e = .returned (.string (Lh.bt (List.replicate c 48))) ∧ Below w.heap.size w w' := by
  refine (Any.strings_Repeat lays105 Builder_Extra_105 (Lh.bt [48]) c w (by omega) (by
    have : (Lh.bt [48]).size = 1 := rfl
    rw [this]
    omega)).mono ?_
  rintro e w' ⟨rfl, hb⟩
  refine ⟨?_, hb⟩
  rw [← Lh.repeat_zero]
  rfl
end Go.Proofs.YtfhmfjcpggddkaaGreatDoor
