/- Lists of texts in memory; the reference's SameTexts. -/
import Derived.Test.YtfhmfjcpggddkaaGreatDoorM2
import Derived.Test.YtfhmfjcpggddkaaGreatDoorProg
import Derived.WalkKit
import Derived.WalkLawsBesides
import Derived.WalkSpells
import Derived.Laws.AppendOwnNone
import Derived.Laws.CopyOwn
namespace Go.Proofs.YtfhmfjcpggddkaaGreatDoor
open Go.RowKit

theorem bytes_same {x y : ByteArray} (h : x = y) : (x.toList == y.toList) = true := by subst h; exact beq_self_eq_true _
theorem bytes_parts {x y : ByteArray} (h : x ≠ y) : (x.toList == y.toList) = false := by
  rw [beq_eq_false_iff_ne]
  intro e
  rw [ByteArray.toList_eq, ByteArray.toList_eq] at e
  exact h (ByteArray.ext (Array.toList_inj.1 e))

/-- The slice value v reads, in w, as the texts xs. -/
def Strs (w : World) (v : Value) (xs : List ByteArray) : Prop :=
  (xs = [] ∧ ∃ p c, v = .slice p 0 c) ∨ ∃ b o c, v = .slice (some ⟨b, o, none⟩) xs.length c ∧ xs.length ≤ c ∧ ∀ k (h : k < xs.length), w.cell? ⟨b, o + k, none⟩ = some (.string xs[k])

theorem Strs.later {w w' : World} {v : Value} {xs : List ByteArray} (h : Strs w v xs) (hb : Below w.heap.size w w') : Strs w' v xs := by
  rcases h with h | ⟨b, o, c, rfl, hcap, hc⟩
  · exact Or.inl h
  · exact Or.inr ⟨b, o, c, rfl, hcap, fun k hk => below_cell hb (hc k hk)⟩

set_option maxHeartbeats 1000000 in
theorem sameTexts_core (ba oa ca bb ob cb : Nat) (xs ys : List ByteArray) (w : World) (hx : ∀ k (h : k < xs.length), w.cell? ⟨ba, oa + k, none⟩ = some (.string xs[k]))
    (hy : ∀ k (h : k < ys.length), w.cell? ⟨bb, ob + k, none⟩ = some (.string ys[k])) (hl : xs.length = ys.length) (hm : xs.length < 1000000) (r : Bool) (hr : r = decide (xs = ys)) :
    Calls Tryz.prog 13 #[.slice (some ⟨ba, oa, none⟩) xs.length ca, .slice (some ⟨bb, ob, none⟩) ys.length cb] w fun e w' => e = .returned (.bool r) ∧ Below w.heap.size w w' := by
  have hlb : ((xs.length : Int) != (ys.length : Int)) = false := by simp [hl]
  have HL : Hid (xs.length = ys.length) := hl
  have hle : ys.length < 1000000 := by omega
  have HX : Hid _ := hx
  have HY : Hid _ := hy
  have HR : Hid _ := hr
  clear hl hx hy hr
  go_enter Tryz.func13, Tryz.ntmps13
  go_wp2
  go_loopw [5] (fun t W => Below w.heap.size w W ∧ ∃ k : Nat, k ≤ xs.length ∧ t = .int .i64 k ∧ xs.take k = ys.take k) (fun t _ => xs.length - (intOf t).toNat)
  case atStart => exact ⟨Below.refl _ _, 0, Nat.zero_le _, rfl, rfl⟩
  case round =>
    obtain ⟨hb, k, hk, rfl, hpre⟩ := hrel
    have HP : Hid _ := hpre
    clear hpre
    by_cases hlt : k < xs.length
    · have hlt' : k < ys.length := by rw [← HL.out]; exact hlt
      have cx := below_cell hb (HX.out k hlt)
      have cy := below_cell hb (HY.out k hlt')
      have hi1 : (k : Int) < (xs.length : Int) := by omega
      have hi2 : (k : Int) < (ys.length : Int) := by omega
      generalize hxk : xs[k] = xk at *
      generalize hyk : ys[k] = yk at *
      have HXK : Hid _ := hxk
      have HYK : Hid _ := hyk
      clear hxk hyk
      by_cases heq : xk = yk
      · have hne : (xk.toList == yk.toList) = true := bytes_same heq
        have HE : Hid _ := heq
        clear heq
        go_wp2
        go_quiet (fail)
        go_wp2
        exact ⟨⟨below_drewN hb _, k + 1, by omega, by go_num, take_same HP.out hlt hlt' (by rw [HXK.out, HYK.out]; exact HE.out)⟩, by simp [intOf]; omega⟩
      · have hne : (xk.toList == yk.toList) = false := bytes_parts heq
        have HE : Hid _ := heq
        clear heq
        go_wp2
        go_quiet (fail)
        go_wp2
        go_ret
        refine ⟨ret_bool ?_, below_drewN hb _⟩
        rw [HR.out]
        exact (decide_eq_false (get_parts hlt hlt' (by rw [HXK.out, HYK.out]; exact HE.out))).symm
    · go_wp2
      go_ret
      refine ⟨ret_bool ?_, hb⟩
      rw [HR.out]
      exact (decide_eq_true (take_all HP.out hlt HL.out)).symm

set_option maxHeartbeats 1000000 in
theorem sameTexts_len (pa pb : Option Addr) (na nb ca cb : Nat) (w : World) (h : na ≠ nb) (_hm : na < 1000000) (_hm' : nb < 1000000) :
    Calls Tryz.prog 13 #[.slice pa na ca, .slice pb nb cb] w fun e w' => e = .returned (.bool false) ∧ w' = w := by
  have hlb : ((na : Int) != (nb : Int)) = true := by rw [bne_iff_ne]; omega
  clear h
  go_enter Tryz.func13, Tryz.ntmps13
  go_wp2
  go_ret
  exact ⟨rfl, rfl⟩

set_option maxHeartbeats 1000000 in
theorem sameTexts_zero (pa pb : Option Addr) (ca cb : Nat) (w : World) :
    Calls Tryz.prog 13 #[.slice pa 0 ca, .slice pb 0 cb] w fun e w' => e = .returned (.bool true) ∧ w' = w := by
  go_enter Tryz.func13, Tryz.ntmps13
  go_wp2
  refine wp_loop_rounds 1 ?_
  rw [rounds_succ]
  go_wp2
  go_ret
  exact ⟨rfl, rfl⟩

theorem Strs.slice {w : World} {v : Value} {xs : List ByteArray} (h : Strs w v xs) : ∃ p c, v = .slice p xs.length c := by
  rcases h with ⟨rfl, p, c, rfl⟩ | ⟨b, o, c, rfl, _, _⟩
  · exact ⟨p, c, rfl⟩
  · exact ⟨_, c, rfl⟩

/-- SameTexts of lists in memory. -/
theorem sameTexts_any (va vb : Value) (xs ys : List ByteArray) (w : World) (hx : Strs w va xs) (hy : Strs w vb ys) (hm : xs.length < 1000000) (hm' : ys.length < 1000000) :
    Calls Tryz.prog 13 #[va, vb] w fun e w' => e = .returned (.bool (decide (xs = ys))) ∧ Below w.heap.size w w' := by
  by_cases hl : xs.length = ys.length
  · rcases hx with ⟨rfl, p, c, rfl⟩ | ⟨b, o, c, rfl, _, hxc⟩
    · obtain rfl : ys = [] := List.length_eq_zero_iff.1 hl.symm
      obtain ⟨q, d, rfl⟩ := hy.slice
      exact (sameTexts_zero p q c d w).mono fun e w' ⟨he, hw⟩ => ⟨by rw [he, decide_eq_true rfl], by rw [hw]; exact Below.refl _ _⟩
    · rcases hy with ⟨rfl, q, d, rfl⟩ | ⟨b', o', c', rfl, _, hyc⟩
      · obtain rfl : xs = [] := List.length_eq_zero_iff.1 hl
        exact (sameTexts_zero _ q c d w).mono fun e w' ⟨he, hw⟩ => ⟨by rw [he, decide_eq_true rfl], by rw [hw]; exact Below.refl _ _⟩
      · exact sameTexts_core b o c b' o' c' xs ys w hxc hyc hl hm _ rfl
  · obtain ⟨p, c, rfl⟩ := hx.slice
    obtain ⟨q, d, rfl⟩ := hy.slice
    exact (sameTexts_len p q _ _ c d w hl hm hm').mono fun e w' ⟨he, hw⟩ => ⟨by rw [he, decide_eq_false (fun e => hl (by rw [e]))], by rw [hw]; exact Below.refl _ _⟩
end Go.Proofs.YtfhmfjcpggddkaaGreatDoor

/- Plain facts on 64-bit turns: each step of a turn can be undone. -/
namespace Go.Proofs.YtfhmfjcpggddkaaGreatDoor.Lh
/-- one step: xor with itself, shifted down -/
def fold (s z : Nat) : Nat := z ^^^ z / 2 ^ s
def turn (z : Nat) : Nat :=
  fold 31 (fold 27 (fold 30 ((z + 11400714819323198485) % 18446744073709551616) * 13787848793156543929 % 18446744073709551616) * 10723151780598845931 % 18446744073709551616)
def unfold2 (s z : Nat) : Nat := z ^^^ z / 2 ^ s ^^^ z / 2 ^ (2 * s)

theorem fold_lt (s z : Nat) (h : z < 18446744073709551616) : fold s z < 18446744073709551616 := by
  have h2 : z / 2 ^ s < 2 ^ 64 := Nat.lt_of_le_of_lt (Nat.div_le_self _ _) (by simpa using h)
  have := Nat.xor_lt_two_pow (x := z) (y := z / 2 ^ s) (n := 64) (by simpa using h) h2
  unfold fold
  simpa using this

def back (x : Nat) : Nat :=
  (unfold2 30 (unfold2 27 (unfold2 31 x * 3573116690164977347 % 18446744073709551616) * 10871156337175269513 % 18446744073709551616) + 7046029254386353131) % 18446744073709551616

theorem turn_lt (z : Nat) : turn z < 18446744073709551616 := fold_lt _ _ (Nat.mod_lt _ (by decide))
end Go.Proofs.YtfhmfjcpggddkaaGreatDoor.Lh

/- Turn of mix computes 'turn'; it leaves all old memory as it was. -/
namespace Go.Proofs.YtfhmfjcpggddkaaGreatDoor
open Go.RowKit

theorem wrapNat (z c : Nat) : IntKind.u64.wrap ((z : Int) + (c : Int)) = (((z + c) % 18446744073709551616 : Nat) : Int) := by
  rw [IntKind.wrap_u64]; omega
theorem step30 (X : Nat) (hX : X < 18446744073709551616) : IntKind.u64.wrap (bits .xor .u64 (X : Int) ((X : Int) / 1073741824) * 13787848793156543929) = ((Lh.fold 30 X * 13787848793156543929 % 18446744073709551616 : Nat) : Int) :=
  mixStep_u64 X 1073741824 13787848793156543929 hX
theorem step27 (X : Nat) (hX : X < 18446744073709551616) : IntKind.u64.wrap (bits .xor .u64 (X : Int) ((X : Int) / 134217728) * 10723151780598845931) = ((Lh.fold 27 X * 10723151780598845931 % 18446744073709551616 : Nat) : Int) :=
  mixStep_u64 X 134217728 10723151780598845931 hX
theorem step31 (X : Nat) (hX : X < 18446744073709551616) : bits .xor .u64 (X : Int) ((X : Int) / 2147483648) = ((Lh.fold 31 X : Nat) : Int) :=
  xorShift_u64 X 2147483648 hX
theorem stepAdd (z : Nat) : IntKind.u64.wrap ((z : Int) + 11400714819323198485) = (((z + 11400714819323198485) % 18446744073709551616 : Nat) : Int) := wrapNat z 11400714819323198485

set_option maxHeartbeats 400000 in
theorem turn_any (z : Nat) (w : World) :
    Calls Tryz.prog 183 #[.int .u64 z] w fun e w' => e = .returned (.int .u64 (Lh.turn z : Nat)) ∧ Below w.heap.size w w' := by
  go_enter Tryz.func183, Tryz.ntmps183
  go_wp2
  go_end0
  go_wp2
  go_end0
  go_wp2
  go_end0
  go_wp2
  go_ret
  refine ⟨?_, (Below.refl _ _).alloc (Nat.le_refl _) _⟩
  rw [stepAdd, step30 _ (Nat.mod_lt _ (by decide)), step27 _ (Nat.mod_lt _ (by decide)), step31 _ (Nat.mod_lt _ (by decide))]
  rfl
end Go.Proofs.YtfhmfjcpggddkaaGreatDoor

/- What holds of memory alone. -/
namespace Go.Proofs.YtfhmfjcpggddkaaGreatDoor
open Go.RowKit

theorem below_then {w w1 w2 : World} (h : Below w.heap.size w w1) (k : Below w1.heap.size w1 w2) : Below w.heap.size w w2 :=
  h.trans (k.mono h.size)
theorem below_grown {w w' : World} {r : Option Nat} (hg : w.grownBy w' r) (hr : ∀ k, r = some k → w.heap.size ≤ k) : Below w.heap.size w w' := (Below.refl _ _).grown hg (Nat.le_refl _) hr
theorem ownsRow_below {w w' : World} {base : Nat} {e : TypeId} {size : Nat} {v : Value} {n : Nat} {xs : List Value} (h : w.ownsRow base e size v n xs) (hb : Below w.heap.size w w') : w'.ownsRow base e size v n xs :=
  h.kept (row := none) ⟨hb.os, hb.tape, hb.output, hb.size, fun k hk _ => hb.block k hk⟩ (by cases v.ownBlock <;> simp)
end Go.Proofs.YtfhmfjcpggddkaaGreatDoor

/- MixBack: the walks: 'mixed' is true, each step of a turn is undone. -/
namespace Go.Proofs.YtfhmfjcpggddkaaGreatDoor
open Go.RowKit

theorem unmul (X c : Nat) : IntKind.u64.wrap ((X : Int) * (c : Int)) = ((X * c % 18446744073709551616 : Nat) : Int) := by
  rw [IntKind.wrap_u64, Int.natCast_emod, Int.natCast_mul]; rfl
end Go.Proofs.YtfhmfjcpggddkaaGreatDoor

/- Of, Two, and the reference's NumberOf, TurnOf: the numbers that they compute. -/
namespace Go.Proofs.YtfhmfjcpggddkaaGreatDoor
open Go.RowKit

namespace Lh
/-- one byte -/
def step (h : Nat) (c : UInt8) : Nat := (h ^^^ c.toNat) * 1099511628211 % 18446744073709551616
def hash (l : List UInt8) : Nat := l.foldl step 14695981039346656037
def num (s : ByteArray) (salt : Nat) : Nat := turn (hash s.data.toList ^^^ turn salt)
theorem byte_lt (c : UInt8) : c.toNat < 18446744073709551616 := Nat.lt_trans c.toNat_lt (by decide)
theorem hash_lt (l : List UInt8) : hash l < 18446744073709551616 := by
  unfold hash
  have : ∀ (l : List UInt8) (h : Nat), h < 18446744073709551616 → l.foldl step h < 18446744073709551616 := by
    intro l
    induction l with
    | nil => intro h hh; exact hh
    | cons c r ih => intro h _; exact ih _ (Nat.mod_lt _ (by decide))
  exact this l _ (by decide)
theorem foldl_snoc {α β : Type} (f : β → α → β) (b : β) (l : List α) (a : α) : (l ++ [a]).foldl f b = f (l.foldl f b) a := by rw [List.foldl_append]; rfl
theorem hash_snoc (l : List UInt8) (c : UInt8) : hash (l ++ [c]) = step (hash l) c := foldl_snoc step _ l c
end Lh

theorem xorNat (a b : Nat) (ha : a < 18446744073709551616) (hb : b < 18446744073709551616) : bits .xor .u64 (a : Int) (b : Int) = ((a ^^^ b : Nat) : Int) := bits_xor_u64_nat a b ha hb
theorem stepNat (h : Nat) (c : UInt8) (hh : h < 18446744073709551616) : IntKind.u64.wrap (bits .xor .u64 (h : Int) (c.toNat : Int) * 1099511628211) = ((Lh.step h c : Nat) : Int) := by
  rw [xorNat h c.toNat hh (Lh.byte_lt c)]
  exact unmul _ 1099511628211

theorem take_snoc (s : ByteArray) (k : Nat) (h : k < s.size) : s.data.toList.take (k + 1) = s.data.toList.take k ++ [s[k]] := by
  rw [List.take_succ_eq_append_getElem (by simpa using h)]; rfl
theorem hash_next (s : ByteArray) (k : Nat) (h : k < s.size) : IntKind.u64.wrap (bits .xor .u64 (Lh.hash (s.data.toList.take k) : Int) (IntKind.u64.wrap (s[k].toNat : Int)) * 1099511628211) = ((Lh.hash (s.data.toList.take (k + 1)) : Nat) : Int) := by
  have hc : IntKind.u64.wrap (s[k].toNat : Int) = (s[k].toNat : Int) := by
    have := Lh.byte_lt s[k]
    rw [IntKind.wrap_u64]
    omega
  rw [hc, stepNat _ _ (Lh.hash_lt _), take_snoc s k h, Lh.hash_snoc]

set_option maxHeartbeats 400000 in
theorem of_any (s : ByteArray) (salt : Nat) (w : World) (hs : s.size ≤ 300) :
    Calls Tryz.prog 178 #[.string s, .int .u64 salt] w fun e w' => e = .returned (.int .u64 (Lh.num s salt : Nat)) ∧ Below w.heap.size w w' := by
  go_enter Tryz.func178, Tryz.ntmps178
  go_wp2
  go_loop [5, 9] (fun h i => ∃ k : Nat, k ≤ s.size ∧ i = .int .i64 k ∧ h = .int .u64 (Lh.hash (s.data.toList.take k) : Nat)) (fun _ i => s.size - (intOf i).toNat)
  case atStart => exact ⟨0, Nat.zero_le _, rfl, rfl⟩
  case round =>
    obtain ⟨k, hk, rfl, rfl⟩ := hrel
    by_cases hlt : k < s.size
    · have HN : Hid _ := hash_next s k hlt
      go_wp2
      go_round
      case rel => exact ⟨k + 1, by omega, by go_num, by rw [← HN.out]⟩
      case measure => simp [intOf]; omega
    · have hfull : s.data.toList.take k = s.data.toList := List.take_of_length_le (by simp; omega)
      rw [hfull]
      clear hfull
      go_wp2_with fail
      refine (turn_any salt _).mono ?_
      rintro e w1 ⟨rfl, hb1⟩
      go_wp2_with fail
      rw [xorNat _ _ (Lh.hash_lt _) (Lh.turn_lt _)]
      refine (turn_any _ _).mono ?_
      rintro e w2 ⟨rfl, hb2⟩
      go_wp2
      go_ret
      exact ⟨rfl, below_then hb1 hb2⟩

end Go.Proofs.YtfhmfjcpggddkaaGreatDoor

/- Names of hosts: what is a name; lists that hold a text. -/
namespace Go.Proofs.YtfhmfjcpggddkaaGreatDoor
open Go.RowKit

namespace Lh
def letter (c : UInt8) : Bool := decide (97 ≤ (c.toNat : Int)) && decide ((c.toNat : Int) ≤ 122)
def digit (c : UInt8) : Bool := decide (48 ≤ (c.toNat : Int)) && decide ((c.toNat : Int) ≤ 57)
def okc (c : UInt8) : Bool := letter c || digit c || ((c.toNat : Int) == 45)
def isNm (s : ByteArray) : Bool := decide (1 ≤ s.size) && decide (s.size ≤ 12) && (s.data.toList.head?.any letter) && s.data.toList.all okc
end Lh

theorem letter_any (c : UInt8) (w : World) : Calls Tryz.prog 219 #[.int .u8 c.toNat] w fun e w' => e = .returned (.bool (Lh.letter c)) ∧ w' = w := by
  by_cases h1 : 97 ≤ (c.toNat : Int)
  · by_cases h2 : (c.toNat : Int) ≤ 122
    · have hr : Lh.letter c = true := by simp [Lh.letter, h1, h2]
      rw [hr]
      go_enter Tryz.func219, Tryz.ntmps219
      go_wp2
      go_ret
      exact ⟨rfl, rfl⟩
    · have hr : Lh.letter c = false := by simp [Lh.letter, h2]
      rw [hr]
      have h3 : decide ((c.toNat : Int) ≤ 122) = false := by simpa using h2
      go_enter Tryz.func219, Tryz.ntmps219
      go_wp2
      go_ret
      exact ⟨rfl, rfl⟩
  · have hr : Lh.letter c = false := by simp [Lh.letter, h1]
    rw [hr]
    have h3 : decide (97 ≤ (c.toNat : Int)) = false := by simpa using h1
    go_enter Tryz.func219, Tryz.ntmps219
    go_wp2
    go_ret
    exact ⟨rfl, rfl⟩

theorem digit_any (c : UInt8) (w : World) : Calls Tryz.prog 220 #[.int .u8 c.toNat] w fun e w' => e = .returned (.bool (Lh.digit c)) ∧ w' = w := by
  by_cases h1 : 48 ≤ (c.toNat : Int)
  · by_cases h2 : (c.toNat : Int) ≤ 57
    · have hr : Lh.digit c = true := by simp [Lh.digit, h1, h2]
      rw [hr]
      go_enter Tryz.func220, Tryz.ntmps220
      go_wp2
      go_ret
      exact ⟨rfl, rfl⟩
    · have hr : Lh.digit c = false := by simp [Lh.digit, h2]
      rw [hr]
      have h3 : decide ((c.toNat : Int) ≤ 57) = false := by simpa using h2
      go_enter Tryz.func220, Tryz.ntmps220
      go_wp2
      go_ret
      exact ⟨rfl, rfl⟩
  · have hr : Lh.digit c = false := by simp [Lh.digit, h1]
    rw [hr]
    have h3 : decide (48 ≤ (c.toNat : Int)) = false := by simpa using h1
    go_enter Tryz.func220, Tryz.ntmps220
    go_wp2
    go_ret
    exact ⟨rfl, rfl⟩

theorem byte_at (s : ByteArray) (k : Nat) (h : k < s.size) : s.data.toList[k]'(by simpa using h) = s[k] := rfl
theorem all_take (s : ByteArray) (k : Nat) (h : k < s.size) : (s.data.toList.take (k + 1)).all Lh.okc = ((s.data.toList.take k).all Lh.okc && Lh.okc s[k]) := by
  rw [take_snoc s k h, List.all_append]; simp
theorem all_take_false (s : ByteArray) (k : Nat) (h : k < s.size) (hc : Lh.okc s[k] = false) : s.data.toList.all Lh.okc = false := by
  rw [List.all_eq_false]
  exact ⟨s[k], by rw [← byte_at s k h]; exact List.getElem_mem _, by simp [hc]⟩
theorem head_eq (s : ByteArray) (h : 0 < s.size) : s.data.toList.head?.any Lh.letter = Lh.letter s[0] := by
  rw [List.head?_eq_getElem?, List.getElem?_eq_getElem (by simpa using h), byte_at s 0 h]; rfl

set_option maxHeartbeats 1000000 in
theorem isName_any (s : ByteArray) (w : World) (hs : s.size ≤ 1000000) :
    Calls Tryz.prog 176 #[.string s] w fun e w' => e = .returned (.bool (Lh.isNm s)) ∧ w' = w := by
  obtain ⟨r, hr⟩ : ∃ r, r = Lh.isNm s := ⟨_, rfl⟩
  rw [← hr]
  have HR : Hid _ := hr
  clear hr
  by_cases h0 : s.size = 0
  · have e0 : ((s.size : Int) == 0) = true := by simp [h0]
    have : r = false := by rw [HR.out]; simp [Lh.isNm, h0]
    subst this
    clear h0
    go_enter Tryz.func176, Tryz.ntmps176
    go_wp2
    go_ret
    exact ⟨rfl, rfl⟩
  · have e0 : ((s.size : Int) == 0) = false := by rw [beq_eq_false_iff_ne]; omega
    have h0' : 0 < s.size := by omega
    clear h0
    by_cases h12 : 12 < s.size
    · have e12 : decide (12 < (s.size : Int)) = true := by simp; omega
      have : r = false := by rw [HR.out]; simp [Lh.isNm]; omega
      subst this
      go_enter Tryz.func176, Tryz.ntmps176
      go_wp2
      go_ret
      exact ⟨rfl, rfl⟩
    · have e12 : decide (12 < (s.size : Int)) = false := by simp; omega
      cases hl : Lh.letter s[0] with
      | false =>
        have : r = false := by rw [HR.out]; simp [Lh.isNm, head_eq s h0', hl]
        subst this
        have HL : Hid _ := hl
        clear hl
        go_enter Tryz.func176, Tryz.ntmps176
        go_wp2_with fail
        refine (letter_any _ _).mono ?_
        rintro e w1 ⟨rfl, rfl⟩
        rw [HL.out]
        go_wp2
        go_ret
        exact ⟨rfl, rfl⟩
      | true =>
        have hra : r = s.data.toList.all Lh.okc := by
          rw [HR.out]; simp [Lh.isNm, head_eq s h0', hl]; omega
        have HA : Hid _ := hra
        have HL : Hid _ := hl
        clear hra hl HR
        go_enter Tryz.func176, Tryz.ntmps176
        go_wp2_with fail
        refine (letter_any _ _).mono ?_
        rintro e w1 ⟨rfl, rfl⟩
        rw [HL.out]
        go_wp2_with fail
        go_loopw [20] (fun i W => W = w1 ∧ ∃ k : Nat, k ≤ s.size ∧ i = .int .i64 k ∧ (s.data.toList.take k).all Lh.okc = true) (fun i _ => s.size - (intOf i).toNat)
        case atStart => exact ⟨rfl, 0, Nat.zero_le _, rfl, rfl⟩
        case round =>
          obtain ⟨rfl, k, hk, rfl, hall⟩ := hrel
          have HP : Hid _ := hall
          clear hall
          by_cases hlt : k < s.size
          · have HT : Hid _ := all_take s k hlt
            have HF : Hid (Lh.okc s[k] = false → s.data.toList.all Lh.okc = false) := all_take_false s k hlt
            cases h1 : Lh.letter s[k] with
            | true =>
              have HO : Hid _ := (by simp [Lh.okc, h1] : Lh.okc s[k] = true)
              have H1 : Hid _ := h1
              clear h1
              go_wp2_with fail
              refine (letter_any _ _).mono ?_
              rintro e w2 ⟨rfl, rfl⟩
              rw [H1.out]
              go_wp2
              exact ⟨⟨by trivial, k + 1, by omega, by go_num, by rw [HT.out, HP.out, HO.out]; rfl⟩, by simp [intOf]; omega⟩
            | false =>
              cases h2 : Lh.digit s[k] with
              | true =>
                have HO : Hid _ := (by simp [Lh.okc, h2] : Lh.okc s[k] = true)
                have H1 : Hid _ := h1
                have H2 : Hid _ := h2
                clear h1 h2
                go_wp2_with fail
                refine (letter_any _ _).mono ?_
                rintro e w2 ⟨rfl, rfl⟩
                rw [H1.out]
                go_wp2_with fail
                refine (digit_any _ _).mono ?_
                rintro e w3 ⟨rfl, rfl⟩
                rw [H2.out]
                go_wp2
                exact ⟨⟨by trivial, k + 1, by omega, by go_num, by rw [HT.out, HP.out, HO.out]; rfl⟩, by simp [intOf]; omega⟩
              | false =>
                cases h3 : ((s[k].toNat : Int) == 45) with
                | true =>
                  have HO : Hid _ := (by simp only [Lh.okc, h3, Bool.or_true] : Lh.okc s[k] = true)
                  have hne : ((s[k].toNat : Int) != 45) = false := by rw [bne, h3]; rfl
                  have H1 : Hid _ := h1
                  have H2 : Hid _ := h2
                  clear h1 h2 h3
                  go_wp2_with fail
                  refine (letter_any _ _).mono ?_
                  rintro e w2 ⟨rfl, rfl⟩
                  rw [H1.out]
                  go_wp2_with fail
                  refine (digit_any _ _).mono ?_
                  rintro e w3 ⟨rfl, rfl⟩
                  rw [H2.out]
                  go_wp2
                  exact ⟨⟨by trivial, k + 1, by omega, by go_num, by rw [HT.out, HP.out, HO.out]; rfl⟩, by simp [intOf]; omega⟩
                | false =>
                  have HO : Hid _ := (by simp only [Lh.okc, h1, h2, h3]; rfl : Lh.okc s[k] = false)
                  have hne : ((s[k].toNat : Int) != 45) = true := by rw [bne, h3]; rfl
                  have H1 : Hid _ := h1
                  have H2 : Hid _ := h2
                  clear h1 h2 h3
                  go_wp2_with fail
                  refine (letter_any _ _).mono ?_
                  rintro e w2 ⟨rfl, rfl⟩
                  rw [H1.out]
                  go_wp2_with fail
                  refine (digit_any _ _).mono ?_
                  rintro e w3 ⟨rfl, rfl⟩
                  rw [H2.out]
                  go_wp2
                  go_ret
                  refine ⟨ret_bool ?_, rfl⟩
                  rw [HA.out, HF.out HO.out]
          · go_wp2
            go_ret
            refine ⟨ret_bool ?_, rfl⟩
            rw [HA.out, ← HP.out, List.take_of_length_le (by simp; omega)]

theorem head_false (s : ByteArray) (h : 0 < s.size) (hc : Lh.letter s[0] = false) : Lh.isNm s = false := by simp [Lh.isNm, head_eq s h, hc]
theorem all_false (s : ByteArray) (k : Nat) (h : k < s.size) (hc : Lh.okc s[k] = false) : Lh.isNm s = false := by simp only [Lh.isNm, all_take_false s k h hc, Bool.and_false]
theorem isNm_true (s : ByteArray) (h : 0 < s.size) (h12 : ¬ 12 < s.size) (hl : Lh.letter s[0] = true) (ha : s.data.toList.all Lh.okc = true) : Lh.isNm s = true := by
  simp only [Lh.isNm, head_eq s h, hl, ha, Bool.and_true]; simp; omega

set_option maxHeartbeats 1000000 in
theorem refName_any (s : ByteArray) (w : World) (hs : s.size ≤ 1000000) :
    Calls Tryz.prog 18 #[.string s] w fun e w' => e = .returned (.bool (Lh.isNm s)) ∧ w' = w := by
  obtain ⟨r, hr⟩ : ∃ r, r = Lh.isNm s := ⟨_, rfl⟩
  rw [← hr]
  have HR : Hid _ := hr
  clear hr
  by_cases h0 : s.size < 1
  · have e0 : decide ((s.size : Int) < 1) = true := by simp; omega
    have : r = false := by rw [HR.out]; simp [Lh.isNm]; omega
    subst this
    clear h0
    go_enter Tryz.func18, Tryz.ntmps18
    go_wp2
    go_ret
    exact ⟨rfl, rfl⟩
  · have e0 : decide ((s.size : Int) < 1) = false := by simp; omega
    by_cases h12 : 12 < s.size
    · have e12 : decide (12 < (s.size : Int)) = true := by simp; omega
      have : r = false := by rw [HR.out]; simp [Lh.isNm]; omega
      subst this
      go_enter Tryz.func18, Tryz.ntmps18
      go_wp2
      go_ret
      exact ⟨rfl, rfl⟩
    · have e12 : decide (12 < (s.size : Int)) = false := by simp; omega
      have h0' : 0 < s.size := by omega
      clear h0
      go_enter Tryz.func18, Tryz.ntmps18
      go_wp2
      go_loop [3] (fun i => ∃ k : Nat, k ≤ s.size ∧ i = .int .i64 k ∧ (s.data.toList.take k).all Lh.okc = true ∧ (0 < k → Lh.letter s[0] = true)) (fun i => s.size - (intOf i).toNat)
      case atStart => exact ⟨0, Nat.zero_le _, rfl, rfl, fun h => absurd h (by decide)⟩
      case round =>
        obtain ⟨k, hk, rfl, hall, hlet⟩ := hrel
        have HP : Hid _ := hall
        have HQ : Hid _ := hlet
        clear hall hlet
        by_cases hlt : k < s.size
        · have HT : Hid _ := all_take s k hlt
          obtain ⟨c, hc⟩ : ∃ c, c = s[k] := ⟨_, rfl⟩
          have HC : Hid _ := hc
          by_cases ha : 97 ≤ (s[k].toNat : Int) ∧ (s[k].toNat : Int) ≤ 122
          · have hl1 : Lh.letter s[k] = true := by simp [Lh.letter, ha.1, ha.2]
            have HO : Hid _ := (by simp [Lh.okc, hl1] : Lh.okc s[k] = true)
            have HK : Hid (0 < k + 1 → Lh.letter s[0] = true) := fun _ => by
              rcases Nat.eq_zero_or_pos k with h | h
              · subst h; exact hl1
              · exact HQ.out h
            obtain ⟨ha1, ha2⟩ := ha
            clear hl1 hc
            go_wp2
            go_round
            case rel => exact ⟨k + 1, by omega, by go_num, by rw [HT.out, HP.out, HO.out]; rfl, HK.out⟩
            case measure => simp [intOf]; omega
          · rcases (by omega : 122 < (s[k].toNat : Int) ∨ (48 ≤ (s[k].toNat : Int) ∧ (s[k].toNat : Int) ≤ 57) ∨ (s[k].toNat : Int) = 45 ∨ ((s[k].toNat : Int) < 48 ∧ (s[k].toNat : Int) ≠ 45) ∨ (57 < (s[k].toNat : Int) ∧ (s[k].toNat : Int) < 97)) with h | ⟨h, h'⟩ | h | ⟨h, h'⟩ | ⟨h, h'⟩
            · have hnl : Lh.letter s[k] = false := by simp [Lh.letter]; omega
              have hd0 : decide (97 ≤ (s[k].toNat : Int)) = true := by simp; omega
              have hd1 : decide ((s[k].toNat : Int) ≤ 122) = false := by simp; omega
              have hd2 : decide (48 ≤ (s[k].toNat : Int)) = true := by simp; omega
              have hd3 : decide ((s[k].toNat : Int) ≤ 57) = false := by simp; omega
              have heq : ((s[k].toNat : Int) == 45) = false := by rw [beq_eq_false_iff_ne]; omega
              clear ha
              have hnd : Lh.digit s[k] = false := by simp [Lh.digit]; omega
              have HB : Hid (Lh.isNm s = false) := all_false s k hlt (by simp only [Lh.okc, hnl, heq, hnd, Bool.or_false])
              clear hnl hc hnd
              go_wp2
              all_goals (go_ret; exact ⟨ret_bool (by rw [HR.out, HB.out]), rfl⟩)
            · have hnl : Lh.letter s[k] = false := by simp [Lh.letter]; omega
              have hd0 : decide (97 ≤ (s[k].toNat : Int)) = false := by simp; omega
              have hd2 : decide (48 ≤ (s[k].toNat : Int)) = true := by simp; omega
              have hd3 : decide ((s[k].toNat : Int) ≤ 57) = true := by simp; omega
              clear ha
              have HO : Hid _ := (by simp [Lh.okc, Lh.digit]; omega : Lh.okc s[k] = true)
              by_cases hk0 : k = 0
              · have HB : Hid (Lh.isNm s = false) := head_false s h0' (by have e := hk0; subst e; exact hnl)
                have ek : ((k : Int) == 0) = true := by simp [hk0]
                clear hk0 hnl hc
                go_wp2
                go_ret
                exact ⟨ret_bool (by rw [HR.out, HB.out]), rfl⟩
              · have ek : ((k : Int) == 0) = false := by rw [beq_eq_false_iff_ne]; omega
                have HK : Hid (Lh.letter s[0] = true) := HQ.out (by omega)
                clear hk0 hnl hc
                go_wp2
                go_round
                case rel => exact ⟨k + 1, by omega, by go_num, by rw [HT.out, HP.out, HO.out]; rfl, fun _ => HK.out⟩
                case measure => simp [intOf]; omega
            · have hnl : Lh.letter s[k] = false := by simp [Lh.letter]; omega
              have hd0 : decide (97 ≤ (s[k].toNat : Int)) = false := by simp; omega
              have hd2 : decide (48 ≤ (s[k].toNat : Int)) = false := by simp; omega
              have heq : ((s[k].toNat : Int) == 45) = true := by rw [beq_iff_eq]; exact h
              clear ha h
              have HO : Hid _ := (by simp only [Lh.okc, heq, Bool.or_true] : Lh.okc s[k] = true)
              by_cases hk0 : k = 0
              · have HB : Hid (Lh.isNm s = false) := head_false s h0' (by have e := hk0; subst e; exact hnl)
                have ek : ((k : Int) == 0) = true := by simp [hk0]
                clear hk0 hnl hc
                go_wp2
                go_ret
                exact ⟨ret_bool (by rw [HR.out, HB.out]), rfl⟩
              · have ek : ((k : Int) == 0) = false := by rw [beq_eq_false_iff_ne]; omega
                have HK : Hid (Lh.letter s[0] = true) := HQ.out (by omega)
                clear hk0 hnl hc
                go_wp2
                go_round
                case rel => exact ⟨k + 1, by omega, by go_num, by rw [HT.out, HP.out, HO.out]; rfl, fun _ => HK.out⟩
                case measure => simp [intOf]; omega
            · have hnl : Lh.letter s[k] = false := by simp [Lh.letter]; omega
              have hd0 : decide (97 ≤ (s[k].toNat : Int)) = false := by simp; omega
              have hd2 : decide (48 ≤ (s[k].toNat : Int)) = false := by simp; omega
              have heq : ((s[k].toNat : Int) == 45) = false := by rw [beq_eq_false_iff_ne]; omega
              clear ha
              have hnd : Lh.digit s[k] = false := by simp [Lh.digit]; omega
              have HB : Hid (Lh.isNm s = false) := all_false s k hlt (by simp only [Lh.okc, hnl, heq, hnd, Bool.or_false])
              clear hnl hc hnd
              go_wp2
              all_goals (go_ret; exact ⟨ret_bool (by rw [HR.out, HB.out]), rfl⟩)
            · have hnl : Lh.letter s[k] = false := by simp [Lh.letter]; omega
              have hd0 : decide (97 ≤ (s[k].toNat : Int)) = false := by simp; omega
              have hd2 : decide (48 ≤ (s[k].toNat : Int)) = true := by simp; omega
              have hd3 : decide ((s[k].toNat : Int) ≤ 57) = false := by simp; omega
              have heq : ((s[k].toNat : Int) == 45) = false := by rw [beq_eq_false_iff_ne]; omega
              clear ha
              have hnd : Lh.digit s[k] = false := by simp [Lh.digit]; omega
              have HB : Hid (Lh.isNm s = false) := all_false s k hlt (by simp only [Lh.okc, hnl, heq, hnd, Bool.or_false])
              clear hnl hc hnd
              go_wp2
              all_goals (go_ret; exact ⟨ret_bool (by rw [HR.out, HB.out]), rfl⟩)
        · go_wp2
          go_ret
          refine ⟨ret_bool ?_, rfl⟩
          rw [HR.out]
          exact (isNm_true s h0' h12 (HQ.out (by omega)) (by have := HP.out; rwa [List.take_of_length_le (by simp; omega)] at this)).symm
end Go.Proofs.YtfhmfjcpggddkaaGreatDoor
