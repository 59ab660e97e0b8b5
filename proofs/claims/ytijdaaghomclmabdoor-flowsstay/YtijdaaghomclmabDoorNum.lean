/- Of, Two, and the reference's NumberOf, TurnOf: the numbers that they compute. -/
import Derived.Test.YtijdaaghomclmabDoorBack
import Derived.Test.YtijdaaghomclmabDoorLists
namespace Go.Proofs.YtijdaaghomclmabDoor
open Go.RowKit

namespace Lh
/-- one byte -/
def step (h : Nat) (c : UInt8) : Nat := (h ^^^ c.toNat) * 1099511628211 % 18446744073709551616
def hash (l : List UInt8) : Nat := l.foldl step 14695981039346656037
def num (s : ByteArray) (salt : Nat) : Nat := turn (hash s.data.toList ^^^ turn salt)
theorem xor_lt (a b : Nat) (ha : a < 18446744073709551616) (hb : b < 18446744073709551616) : a ^^^ b < 18446744073709551616 :=
  Nat.xor_lt_two_pow (n := 64) (by simpa using ha) (by simpa using hb)
theorem byte_lt (c : UInt8) : c.toNat < 18446744073709551616 := Nat.lt_trans c.toNat_lt (by decide)
theorem hash_lt (l : List UInt8) : hash l < 18446744073709551616 := by
  unfold hash
  have : ∀ (l : List UInt8) (h : Nat), h < 18446744073709551616 → l.foldl step h < 18446744073709551616 := by
    intro l
    induction l with
    | nil => intro h hh; exact hh
    | cons c r ih => intro h _; exact ih _ (Nat.mod_lt _ (by decide))
  exact this l _ (by decide)
theorem foldl_snoc {α β : Type} (f : β → α → β) (b : β) (l : List α) (a : α) : (l ++ [a]).foldl f b = f (l.foldl f b) a := by rw [List.foldl_append]; rfl
theorem hash_snoc (l : List UInt8) (c : UInt8) : hash (l ++ [c]) = step (hash l) c := foldl_snoc step _ l c
end Lh

theorem u64_int (z : Nat) (_ : z < 18446744073709551616) : (0 : Int) ≤ (z : Int) := by omega
theorem xorNat (a b : Nat) (ha : a < 18446744073709551616) (hb : b < 18446744073709551616) : bits .xor .u64 (a : Int) (b : Int) = ((a ^^^ b : Nat) : Int) := bits_xor_u64_nat a b ha hb
theorem stepNat (h : Nat) (c : UInt8) (hh : h < 18446744073709551616) : IntKind.u64.wrap (bits .xor .u64 (h : Int) (c.toNat : Int) * 1099511628211) = ((Lh.step h c : Nat) : Int) := by
  rw [xorNat h c.toNat hh (Lh.byte_lt c)]
  exact unmul _ 1099511628211

theorem quNat (X d : Nat) (hX : X < 18446744073709551616) : IntKind.u64.wrap ((X : Int).tdiv (d : Int)) = (X : Int) / (d : Int) := by
  have h1 : (X : Int).tdiv (d : Int) = ((X / d : Nat) : Int) := (Int.ofNat_tdiv X d).symm
  have h2 : X / d ≤ X := Nat.div_le_self _ _
  rw [h1, IntKind.wrap_u64, ← Int.natCast_ediv]
  generalize X / d = q at h2 ⊢
  omega
theorem qu30 (X : Nat) (hX : X < 18446744073709551616) : IntKind.u64.wrap ((X : Int).tdiv 1073741824) = (X : Int) / 1073741824 := quNat X 1073741824 hX
theorem qu27 (X : Nat) (hX : X < 18446744073709551616) : IntKind.u64.wrap ((X : Int).tdiv 134217728) = (X : Int) / 134217728 := quNat X 134217728 hX
theorem qu31 (X : Nat) (hX : X < 18446744073709551616) : IntKind.u64.wrap ((X : Int).tdiv 2147483648) = (X : Int) / 2147483648 := quNat X 2147483648 hX

set_option maxHeartbeats 400000 in
theorem turnOf_any (z : Nat) (w : World) :
    Calls Tryd.prog 105 #[.int .u64 z] w fun e w' => e = .returned (.int .u64 (Lh.turn z : Nat)) ∧ w' = w := by
  go_enter Tryd.func105, Tryd.ntmps105
  go_wp2
  go_ret
  refine ⟨?_, rfl⟩
  rw [stepAdd, qu30 _ (Nat.mod_lt _ (by decide)), step30 _ (Nat.mod_lt _ (by decide)), qu27 _ (Nat.mod_lt _ (by decide)), step27 _ (Nat.mod_lt _ (by decide)), qu31 _ (Nat.mod_lt _ (by decide)), step31 _ (Nat.mod_lt _ (by decide))]
  rfl

theorem take_snoc (s : ByteArray) (k : Nat) (h : k < s.size) : s.data.toList.take (k + 1) = s.data.toList.take k ++ [s[k]] := by
  rw [List.take_succ_eq_append_getElem (by simpa using h)]; rfl
theorem ret_u64 {a b : Int} (h : a = b) : Ending.returned (.int .u64 a) = .returned (.int .u64 b) := by rw [h]
theorem hash_next (s : ByteArray) (k : Nat) (h : k < s.size) : IntKind.u64.wrap (bits .xor .u64 (Lh.hash (s.data.toList.take k) : Int) (IntKind.u64.wrap (s[k].toNat : Int)) * 1099511628211) = ((Lh.hash (s.data.toList.take (k + 1)) : Nat) : Int) := by
  have hc : IntKind.u64.wrap (s[k].toNat : Int) = (s[k].toNat : Int) := by
    have := Lh.byte_lt s[k]
    rw [IntKind.wrap_u64]
    omega
  rw [hc, stepNat _ _ (Lh.hash_lt _), take_snoc s k h, Lh.hash_snoc]

set_option maxHeartbeats 400000 in
theorem of_any (s : ByteArray) (salt : Nat) (w : World) (hs : s.size ≤ 300) :
    Calls Tryd.prog 108 #[.string s, .int .u64 salt] w fun e w' => e = .returned (.int .u64 (Lh.num s salt : Nat)) ∧ Below w.heap.size w w' := by
  go_enter Tryd.func108, Tryd.ntmps108
  go_wp2
  go_loop [5, 9] (fun h i => ∃ k : Nat, k ≤ s.size ∧ i = .int .i64 k ∧ h = .int .u64 (Lh.hash (s.data.toList.take k) : Nat)) (fun _ i => s.size - (intOf i).toNat)
  case atStart => exact ⟨0, Nat.zero_le _, rfl, rfl⟩
  case round =>
    obtain ⟨k, hk, rfl, rfl⟩ := hrel
    by_cases hlt : k < s.size
    · have HN : Hid _ := hash_next s k hlt
      go_wp2
      go_round
      case rel => exact ⟨k + 1, by omega, by go_num, by rw [← HN.out]⟩
      case measure => simp [intOf]; omega
    · have hfull : s.data.toList.take k = s.data.toList := List.take_of_length_le (by simp; omega)
      rw [hfull]
      clear hfull
      go_wp2_with fail
      refine (turn_any salt _).mono ?_
      rintro e w1 ⟨rfl, hb1⟩
      go_wp2_with fail
      rw [xorNat _ _ (Lh.hash_lt _) (Lh.turn_lt _)]
      refine (turn_any _ _).mono ?_
      rintro e w2 ⟨rfl, hb2⟩
      go_wp2
      go_ret
      exact ⟨rfl, below_then hb1 hb2⟩

set_option maxHeartbeats 400000 in
theorem numberOf_any (s : ByteArray) (salt : Nat) (w : World) (hs : s.size ≤ 300) :
    Calls Tryd.prog 104 #[.string s, .int .u64 salt] w fun e w' => e = .returned (.int .u64 (Lh.num s salt : Nat)) ∧ w' = w := by
  go_enter Tryd.func104, Tryd.ntmps104
  go_wp2
  go_loop [5, 6] (fun h i => ∃ k : Nat, k ≤ s.size ∧ i = .int .i64 k ∧ h = .int .u64 (Lh.hash (s.data.toList.take k) : Nat)) (fun _ i => s.size - (intOf i).toNat)
  case atStart => exact ⟨0, Nat.zero_le _, rfl, rfl⟩
  case round =>
    obtain ⟨k, hk, rfl, rfl⟩ := hrel
    by_cases hlt : k < s.size
    · have HN : Hid _ := hash_next s k hlt
      go_wp2
      go_round
      case rel => exact ⟨k + 1, by omega, by go_num, by rw [← HN.out]⟩
      case measure => simp [intOf]; omega
    · have hfull : s.data.toList.take k = s.data.toList := List.take_of_length_le (by simp; omega)
      rw [hfull]
      clear hfull
      go_wp2_with fail
      refine (turnOf_any salt _).mono ?_
      rintro e w1 ⟨rfl, rfl⟩
      go_wp2_with fail
      rw [xorNat _ _ (Lh.hash_lt _) (Lh.turn_lt _)]
      refine (turnOf_any _ _).mono ?_
      rintro e w2 ⟨rfl, rfl⟩
      go_wp2
      go_ret
      exact ⟨rfl, rfl⟩
end Go.Proofs.YtijdaaghomclmabDoor
