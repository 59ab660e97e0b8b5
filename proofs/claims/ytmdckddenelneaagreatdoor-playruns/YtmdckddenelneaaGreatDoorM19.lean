/- What is carried over, as lists of bytes: hex digits and the sum. -/
import Derived.Test.YtmdckddenelneaaGreatDoorM18
import Derived.Test.YtmdckddenelneaaGreatDoorM6
import Derived.Test.YtmdckddenelneaaGreatDoorProg
import Derived.WalkKit
import Derived.WalkLawsBesides
import Derived.WalkSpells
import Derived.Below
import Derived.Laws.Concat
import Derived.Laws.Strings2
import Derived.Test.YtmdckddenelneaaGreatDoorM0
namespace Go.Proofs.YtmdckddenelneaaGreatDoor
namespace Lh

def hxU (d : Nat) : UInt8 := UInt8.ofNat (if d < 10 then 48 + d else 87 + d)
/-- the last k hex digits of a number -/
def hexL : Nat → Nat → List UInt8
  | 0, _ => []
  | k + 1, n => hexL k (n / 16) ++ [hxU (n % 16)]
def hxV (c : UInt8) : Option Nat := if 48 ≤ c.toNat ∧ c.toNat ≤ 57 then some (c.toNat - 48) else if 97 ≤ c.toNat ∧ c.toNat ≤ 102 then some (c.toNat - 87) else none
def hexV (l : List UInt8) : Option Nat := l.foldl (fun n c => n.bind fun n => (hxV c).map fun d => 16 * n + d) (some 0)
theorem hxU_nat {d : Nat} (h : d < 16) : (hxU d).toNat = if d < 10 then 48 + d else 87 + d := by
  unfold hxU
  rw [UInt8.toNat_ofNat']
  split <;> omega
theorem hxV_hxU {d : Nat} (h : d < 16) : hxV (hxU d) = some d := by
  unfold hxV
  rw [hxU_nat h]
  by_cases h1 : d < 10
  · rw [if_pos h1, if_pos (by omega)]
    congr 1
    omega
  · rw [if_neg h1, if_neg (by omega), if_pos (by omega)]
    congr 1
    omega
theorem hxU_hxV {c : UInt8} {d : Nat} (h : hxV c = some d) : hxU d = c ∧ d < 16 := by
  unfold hxV at h
  split at h
  · rename_i h1
    obtain rfl := Option.some.inj h
    refine ⟨?_, by omega⟩
    unfold hxU
    rw [if_pos (by omega), show 48 + (c.toNat - 48) = c.toNat by omega]
    simp
  · split at h
    · rename_i h1 h2
      obtain rfl := Option.some.inj h
      refine ⟨?_, by omega⟩
      unfold hxU
      rw [if_neg (by omega), show 87 + (c.toNat - 87) = c.toNat by omega]
      simp
    · cases h
theorem hexL_len : ∀ k n, (hexL k n).length = k
  | 0, _ => rfl
  | k + 1, n => by
    show (hexL k (n / 16) ++ [hxU (n % 16)]).length = _
    rw [List.length_append, hexL_len k]
    rfl
theorem hexV_snoc (l : List UInt8) (c : UInt8) : hexV (l ++ [c]) = (hexV l).bind fun n => (hxV c).map fun d => 16 * n + d := by simp [hexV, List.foldl_append]
theorem hexV_hexL : ∀ k n, n < 16 ^ k → hexV (hexL k n) = some n
  | 0, n, h => by
    have : n = 0 := by simp at h; exact h
    subst this
    rfl
  | k + 1, n, h => by
    have h2 : n / 16 < 16 ^ k := by
      rw [Nat.pow_succ] at h
      omega
    show hexV (hexL k (n / 16) ++ [hxU (n % 16)]) = _
    rw [hexV_snoc, hexV_hexL k _ h2, hxV_hxU (Nat.mod_lt _ (by decide))]
    simp
    omega
theorem hexL_hexV : ∀ {l : List UInt8} {n : Nat}, hexV l = some n → hexL l.length n = l ∧ n < 16 ^ l.length := by
  intro l
  induction hn : l.length generalizing l with
  | zero =>
    intro n h
    have : l = [] := List.eq_nil_of_length_eq_zero hn
    subst this
    have : n = 0 := (Option.some.inj h).symm
    subst this
    exact ⟨rfl, by decide⟩
  | succ k ih =>
    intro n h
    have hne : l ≠ [] := fun e => by rw [e] at hn; cases hn
    obtain ⟨m, c, rfl⟩ : ∃ m c, l = m ++ [c] := ⟨l.dropLast, l.getLast hne, (List.dropLast_concat_getLast hne).symm⟩
    have hlm : m.length = k := by simp at hn; exact hn
    rw [hexV_snoc] at h
    cases hm : hexV m with
    | none => rw [hm] at h; cases h
    | some a =>
      rw [hm] at h
      cases hc : hxV c with
      | none => rw [hc] at h; cases h
      | some d =>
        rw [hc] at h
        obtain rfl : 16 * a + d = n := by simpa using h
        obtain ⟨h1, h2⟩ := ih hlm hm
        obtain ⟨h3, h4⟩ := hxU_hxV hc
        refine ⟨?_, ?_⟩
        · show hexL k ((16 * a + d) / 16) ++ [hxU ((16 * a + d) % 16)] = _
          rw [show (16 * a + d) / 16 = a by omega, show (16 * a + d) % 16 = d by omega, h1, h3]
        · rw [Nat.pow_succ]
          omega

/-- one bit of the long division -/
def crcBit (b c k : Nat) : Nat := if (c ^^^ (b >>> k)) % 2 = 1 then (c / 2) ^^^ 3988292384 else c / 2
def crcByte (c : Nat) (b : UInt8) : Nat := (List.range 8).foldl (crcBit b.toNat) c
def crcRaw (l : List UInt8) : Nat := l.foldl crcByte 4294967295
/-- the sum of a text -/
def crcL (l : List UInt8) : Nat := crcRaw l ^^^ 4294967295
theorem crcBit_lt {b c k : Nat} (h : c < 2 ^ 32) : crcBit b c k < 2 ^ 32 := by
  unfold crcBit
  split
  · exact Nat.xor_lt_two_pow (by omega) (by decide)
  · omega
theorem crcK_lt {b : Nat} : ∀ (ks : List Nat) {c : Nat}, c < 2 ^ 32 → ks.foldl (crcBit b) c < 2 ^ 32
  | [], _, h => h
  | _ :: ks, _, h => crcK_lt ks (crcBit_lt h)
theorem crcByte_lt {c : Nat} (b : UInt8) (h : c < 2 ^ 32) : crcByte c b < 2 ^ 32 := crcK_lt _ h
theorem crcFold_lt : ∀ (l : List UInt8) {c : Nat}, c < 2 ^ 32 → l.foldl crcByte c < 2 ^ 32
  | [], _, h => h
  | b :: l, _, h => crcFold_lt l (crcByte_lt b h)
theorem crcL_lt (l : List UInt8) : crcL l < 2 ^ 32 := Nat.xor_lt_two_pow (crcFold_lt l (by decide)) (by decide)
theorem bit_xor (b c k : Nat) : crcBit 0 (c ^^^ (b >>> k)) k = crcBit b c k ^^^ (b >>> (k + 1)) := by
  have hd : (c ^^^ (b >>> k)) / 2 = (c / 2) ^^^ (b >>> (k + 1)) := by
    have h1 : (b >>> k) / 2 = b >>> (k + 1) := by rw [Nat.shiftRight_succ]
    rw [← h1]
    exact Nat.xor_div_two
  unfold crcBit
  simp only [Nat.zero_shiftRight, Nat.xor_zero]
  rw [hd]
  split
  · rw [Nat.xor_assoc, Nat.xor_assoc, Nat.xor_comm (b >>> (k + 1))]
  · rfl
theorem fold_xor (b : Nat) : ∀ n c, (List.range n).foldl (crcBit 0) (c ^^^ b) = (List.range n).foldl (crcBit b) c ^^^ (b >>> n)
  | 0, c => by simp
  | n + 1, c => by
    rw [List.range_succ, List.foldl_append, List.foldl_append, fold_xor b n c]
    exact bit_xor b _ n
theorem crcByte_xor (c : Nat) (b : UInt8) : crcByte c b = (List.range 8).foldl (crcBit 0) (c ^^^ b.toNat) := by
  rw [fold_xor b.toNat 8 c]
  have : b.toNat >>> 8 = 0 := by
    rw [Nat.shiftRight_eq_div_pow]
    have := b.toNat_lt
    omega
  rw [this, Nat.xor_zero]
  rfl
theorem crcX_lt {c : Nat} (h : c < 2 ^ 32) (b : UInt8) : c ^^^ b.toNat < 2 ^ 32 := Nat.xor_lt_two_pow h (by have := b.toNat_lt; omega)
end Lh
end Go.Proofs.YtmdckddenelneaaGreatDoor

/- What is carried over, as lists of bytes: the text of flows, and what a text is. -/
namespace Go.Proofs.YtmdckddenelneaaGreatDoor
namespace Lh

def flowsW : List UInt8 := [102, 108, 111, 119, 115]
def sumW : List UInt8 := [115, 117, 109]
def bt (l : List UInt8) : ByteArray := ⟨l.toArray⟩
theorem bt_data (l : List UInt8) : (bt l).data.toList = l := rfl
theorem bt_eta (b : ByteArray) : bt b.data.toList = b := rfl
/-- a flow's line -/
def lineF (x : Fl) : List UInt8 := joinL 32 [hexL 16 x.1, x.2.1.data.toList, decL x.2.2.toNat]
def headL (e n : Nat) : List UInt8 := joinL 32 [flowsW, decL e, decL n]
/-- the lines ahead of the sum -/
def bodyL (e : Nat) (l : List Fl) : List UInt8 := joinL 10 (headL e l.length :: l.map lineF) ++ [10]
def sumL (s : List UInt8) : List UInt8 := joinL 32 [sumW, hexL 8 (crcL s)]
/-- the text of flows -/
def textL (e : Nat) (l : List Fl) : List UInt8 := bodyL e l ++ sumL (bodyL e l) ++ [10]
/-- a line as a flow -/
def lineV (w : List UInt8) : Option Fl := match cutL 32 w with
  | [a, b, c] => if b = [] ∨ a.length ≠ 16 then none else match hexV a, numL c with
    | some k, some u => some (k, bt b, (u : Int))
    | _, _ => none
  | _ => none
def rowsL : List (List UInt8) → Option (List Fl)
  | [] => some []
  | w :: ws => match lineV w, rowsL ws with
    | some x, some l => some (x :: l)
    | _, _ => none
/-- the first line: epoch, how many -/
def firstL (w : List UInt8) : Option (Nat × Nat) := match cutL 32 w with
  | [a, b, c] => if a ≠ flowsW then none else match numL b, numL c with
    | some e, some n => some (e, n)
    | _, _ => none
  | _ => none
/-- the last line: the sum -/
def lastL (w : List UInt8) : Option Nat := match cutL 32 w with
  | [a, b] => if a ≠ sumW ∨ b.length ≠ 8 then none else hexV b
  | _ => none
/-- lines: epoch, flows, the sum, and the lines ahead of it -/
def partsL (ls : List (List UInt8)) : Option (Nat × List Fl × Nat × List (List UInt8)) :=
  if ls.length < 3 ∨ ls.getD (ls.length - 1) [] ≠ [] then none else
  match firstL (ls.getD 0 []), rowsL ((ls.drop 1).take (ls.length - 3)), lastL (ls.getD (ls.length - 2) []) with
  | some (e, n), some l, some k => if n + 3 ≠ ls.length then none else some (e, l, k, ls.take (ls.length - 2))
  | _, _, _ => none
theorem lineV_inv {w : List UInt8} {x : Fl} (h : lineV w = some x) : lineF x = w := by
  have hj := cut_join 32 w
  unfold lineV at h
  split at h
  · rename_i a b c e
    rw [e] at hj
    split at h
    · cases h
    · rename_i hc
      simp only [not_or, Decidable.not_not] at hc
      split at h
      · rename_i k u hk hu
        obtain rfl := Option.some.inj h
        have h1 := (hexL_hexV hk).1
        rw [hc.2] at h1
        unfold lineF
        show joinL 32 [hexL 16 k, b, decL (u : Int).toNat] = w
        rw [h1, Int.toNat_natCast, numL_inv hu]
        exact hj
      · cases h
  · cases h
theorem lineV_key {w : List UInt8} {x : Fl} (h : lineV w = some x) : x.1 < 18446744073709551616 ∧ 0 ≤ x.2.2 := by
  unfold lineV at h
  split at h
  · split at h
    · cases h
    · rename_i hc
      simp only [not_or, Decidable.not_not] at hc
      split at h
      · rename_i k u hk hu
        obtain rfl := Option.some.inj h
        have h1 := (hexL_hexV hk).2
        rw [hc.2] at h1
        exact ⟨h1, Int.natCast_nonneg _⟩
      · cases h
  · cases h
theorem rowsL_inv : ∀ {ws : List (List UInt8)} {l : List Fl}, rowsL ws = some l → l.map lineF = ws ∧ l.length = ws.length
  | [], l, h => by
    obtain rfl := Option.some.inj h
    exact ⟨rfl, rfl⟩
  | w :: ws, l, h => by
    unfold rowsL at h
    split at h
    · rename_i x l' hx hl
      obtain rfl := Option.some.inj h
      obtain ⟨h1, h2⟩ := rowsL_inv hl
      exact ⟨by rw [List.map_cons, lineV_inv hx, h1], by rw [List.length_cons, h2, List.length_cons]⟩
    · cases h
theorem firstL_inv {w : List UInt8} {e n : Nat} (h : firstL w = some (e, n)) : headL e n = w := by
  have hj := cut_join 32 w
  unfold firstL at h
  split at h
  · rename_i a b c ec
    rw [ec] at hj
    split at h
    · cases h
    · rename_i hc
      simp only [Decidable.not_not] at hc
      split at h
      · rename_i e' n' he hn
        cases h
        unfold headL
        rw [numL_inv he, numL_inv hn, ← hc]
        exact hj
      · cases h
  · cases h
theorem lastL_inv {w : List UInt8} {k : Nat} (h : lastL w = some k) : joinL 32 [sumW, hexL 8 k] = w := by
  have hj := cut_join 32 w
  unfold lastL at h
  split at h
  · rename_i a b ec
    rw [ec] at hj
    split at h
    · cases h
    · rename_i hc
      simp only [not_or, Decidable.not_not] at hc
      have h1 := (hexL_hexV h).1
      rw [hc.2] at h1
      rw [h1, ← hc.1]
      exact hj
  · cases h
theorem joinL_snoc (y : UInt8) : ∀ (ws : List (List UInt8)) (w : List UInt8), ws ≠ [] → joinL y (ws ++ [w]) = joinL y ws ++ y :: w
  | [v], w, _ => rfl
  | v :: u :: ws, w, _ => by
    show v ++ y :: joinL y ((u :: ws) ++ [w]) = _
    rw [joinL_snoc y (u :: ws) w (by simp)]
    show _ = (v ++ y :: joinL y (u :: ws)) ++ y :: w
    simp
/-- A text that is one is the text of what it is. -/
theorem parts_text {s : List UInt8} {e k : Nat} {l : List Fl} {ps : List (List UInt8)} (h : partsL (cutL 10 s) = some (e, l, k, ps)) : joinL 10 ps ++ [10] = bodyL e l ∧ (k = crcL (bodyL e l) → s = textL e l) ∧ s.length = (bodyL e l).length + 13 := by
  have hj := cut_join 10 s
  generalize cutL 10 s = ls at h hj
  unfold partsL at h
  split at h
  · cases h
  · rename_i hc
    simp only [not_or, Decidable.not_not, Nat.not_lt] at hc
    split at h
    · rename_i e' n l' k' hf hr hs
      split at h
      · cases h
      · rename_i hn
        simp only [Decidable.not_not] at hn
        cases h
        have h1 := firstL_inv hf
        obtain ⟨h2, h3⟩ := rowsL_inv hr
        have h4 := lastL_inv hs
        have hlen : l.length = ls.length - 3 := by rw [h3, List.length_take, List.length_drop]; omega
        have hnl : n = l.length := by omega
        have hps : ls.take (ls.length - 2) = headL e l.length :: l.map lineF := by
          rw [h2, ← hnl, h1]
          match ls, hc.1 with
          | w :: ws, hc1 =>
            rw [show (w :: ws).length - 2 = ((w :: ws).length - 3) + 1 by simp at hc1 ⊢; omega, List.take_succ_cons]
            rfl
        have hls : ls = ls.take (ls.length - 2) ++ [ls.getD (ls.length - 2) []] ++ [ls.getD (ls.length - 1) []] := by
          rw [List.getD_eq_getElem?_getD, List.getD_eq_getElem?_getD, List.getElem?_eq_getElem (by omega), List.getElem?_eq_getElem (by omega)]
          simp only [Option.getD_some]
          have q1 := List.take_succ_eq_append_getElem (l := ls) (i := ls.length - 2) (by omega)
          have q2 := List.take_succ_eq_append_getElem (l := ls) (i := ls.length - 2 + 1) (by omega)
          rw [q1] at q2
          have q3 : ls.take (ls.length - 2 + 1 + 1) = ls := List.take_of_length_le (by omega)
          rw [q3] at q2
          have q4 : ls[ls.length - 1] = ls[ls.length - 2 + 1]'(by omega) := by congr 1; omega
          rw [q4]
          exact q2
        rw [hc.2, ← h4, hps] at hls
        have hs2 : s = joinL 10 (headL e l.length :: l.map lineF) ++ 10 :: (joinL 32 [sumW, hexL 8 k]) ++ [10] := by
          rw [← hj, hls, joinL_snoc _ _ _ (by simp), joinL_snoc _ _ _ (by simp)]
        refine ⟨by rw [hps]; rfl, fun hk => ?_, ?_⟩
        · rw [hs2, hk]
          show _ = (joinL 10 (headL e l.length :: l.map lineF) ++ [10]) ++ sumL (bodyL e l) ++ [10]
          simp [sumL]
        · rw [hs2]
          show _ = (joinL 10 (headL e l.length :: l.map lineF) ++ [10]).length + 13
          have := hexL_len 8 k
          simp only [List.length_append, List.length_cons, List.length_nil, joinL, sumW, this]
    · cases h
end Lh
end Go.Proofs.YtmdckddenelneaaGreatDoor

/- The model's small functions of texts: hex. -/
namespace Go.Proofs.YtmdckddenelneaaGreatDoor
open Go.RowKit

namespace Lh
theorem bt_append (a b : List UInt8) : bt a ++ bt b = bt (a ++ b) := ByteArray.mk_append_mk a b
theorem bt_extract (l : List UInt8) (i j : Nat) : (bt l).extract i j = bt ((l.drop i).take (j - i)) := ByteArray.extract_mk l i j
theorem bt_size (l : List UInt8) : (bt l).size = l.length := by simp [bt, ByteArray.size]
theorem hexL_cons : ∀ k n, hexL (k + 1) n = hxU (n / 16 ^ k % 16) :: hexL k n
  | 0, n => by simp [hexL]
  | k + 1, n => by
    show hexL (k + 1) (n / 16) ++ [hxU (n % 16)] = _
    rw [hexL_cons k (n / 16)]
    show hxU (n / 16 / 16 ^ k % 16) :: (hexL k (n / 16) ++ [hxU (n % 16)]) = _
    rw [Nat.div_div_eq_div_mul, show 16 * 16 ^ k = 16 ^ (k + 1) by rw [Nat.pow_succ]; omega]
    rfl
def digs : List UInt8 := [48, 49, 50, 51, 52, 53, 54, 55, 56, 57, 97, 98, 99, 100, 101, 102]
theorem digs_at : ∀ d : Fin 16, (digs.drop d.1).take (d.1 + 1 - d.1) = [hxU d.1] := by decide
end Lh
set_option maxHeartbeats 1000000 in
theorem hexM_any (n k : Nat) (hn : n < 18446744073709551616) (hk : k ≤ 16) (W : World) :
    Calls Tryz.prog 139 #[.int .u64 (n : Nat), .int .i64 (k : Nat)] W fun e w' => e = .returned (.string (Lh.bt (Lh.hexL k n))) ∧ w' = W := by
  go_enter Tryz.func139, Tryz.ntmps139
  go_wp2_with fail
  go_loop [0, 5, 6, 7] (fun u0 u5 u6 _ => ∃ i : Nat, i ≤ k ∧ u6 = .int .i64 (i : Nat) ∧ u0 = .int .u64 ((n / 16 ^ i : Nat) : Int) ∧ u5 = .string (Lh.bt (Lh.hexL i n))) (fun _ _ u6 _ => k - (intOf u6).toNat)
  case atStart => exact ⟨0, Nat.zero_le _, rfl, by simp, rfl⟩
  case round =>
    obtain ⟨i, hi, rfl, rfl, rfl⟩ := hrel
    by_cases hlt : i < k
    · have hii : (i : Int) < (k : Int) := by omega
      have HC : Hid (Lh.hexL (i + 1) n = Lh.hxU (n / 16 ^ i % 16) :: Lh.hexL i n) := Lh.hexL_cons i n
      have HD : Hid (n / 16 ^ (i + 1) = n / 16 ^ i / 16) := by
        show _ = _
        rw [Nat.pow_succ, Nat.div_div_eq_div_mul]
      have hz : n / 16 ^ i < 18446744073709551616 := Nat.lt_of_le_of_lt (Nat.div_le_self _ _) hn
      have hsl : (Lh.hexL i n).length ≤ 16 := by rw [Lh.hexL_len]; omega
      have hsz := Lh.bt_size (Lh.hexL i n)
      generalize n / 16 ^ i = z at *
      generalize Lh.hexL i n = out at *
      obtain ⟨d, hd⟩ : ∃ d, z % 16 = d := ⟨_, rfl⟩
      have hd16 : d < 16 := by omega
      have hr : (z : Int) % 16 = (d : Int) := by omega
      have HDD : Hid (z % 16 = d) := hd
      clear hd
      go_wp2
      refine ⟨⟨i + 1, by omega, by go_num, ?_, ?_⟩, by simp [intOf]; omega⟩
      · rw [HD.out]
        first | rfl | simp
      · rw [HC.out, HDD.out]
        have e1 := Lh.bt_extract Lh.digs d (d + 1)
        have e2 := Lh.digs_at ⟨d, hd16⟩
        dsimp only at e2
        rw [e2] at e1
        have e3 := Lh.bt_append [Lh.hxU d] out
        rw [← e1] at e3
        exact congrArg Value.string e3
    · have hii : decide ((i : Int) < (k : Int)) = false := by simp; omega
      have hie : i = k := by omega
      subst hie
      go_wp2
      go_ret
      exact ⟨rfl, rfl⟩
end Go.Proofs.YtmdckddenelneaaGreatDoor

/- The model's small functions of texts: Byte, Decimal. -/
namespace Go.Proofs.YtmdckddenelneaaGreatDoor
open Go.RowKit

theorem fold_take {α β : Type} (f : α → β → α) (z : α) {s : List β} {i : Nat} (h : i < s.length) {b : β} (hb : s[i] = b) : (s.take (i + 1)).foldl f z = f ((s.take i).foldl f z) b := by
  subst hb
  rw [List.take_succ_eq_append_getElem h, List.foldl_append]
  rfl
theorem fold_range {α : Type} (f : α → Nat → α) (z : α) (k : Nat) : (List.range (k + 1)).foldl f z = f ((List.range k).foldl f z) k := by
  rw [List.range_succ, List.foldl_append]
  rfl
theorem xorI (a b : Nat) (ha : a < 2 ^ 32) (hb : b < 2 ^ 32) : bits .xor .i64 (a : Int) (b : Int) = ((a ^^^ b : Nat) : Int) := by
  have hx : a ^^^ b < 2 ^ 32 := Nat.xor_lt_two_pow ha hb
  have h1 : (BitVec.ofInt 64 (a : Int)).toNat = a := by
    rw [BitVec.ofInt_natCast, BitVec.toNat_ofNat]; exact Nat.mod_eq_of_lt (by omega)
  have h2 : (BitVec.ofInt 64 (b : Int)).toNat = b := by
    rw [BitVec.ofInt_natCast, BitVec.toNat_ofNat]; exact Nat.mod_eq_of_lt (by omega)
  show IntKind.i64.wrap ((BitVec.ofInt 64 (a : Int) ^^^ BitVec.ofInt 64 (b : Int)).toNat : Int) = _
  rw [BitVec.toNat_xor, h1, h2, IntKind.wrap_i64]
  omega
set_option maxRecDepth 100000 in
set_option maxHeartbeats 1000000 in
theorem byteM_any (n : Nat) (h : n < 256) (W : World) :
    Calls Tryz.prog 198 #[.int .i64 (n : Nat)] W fun e w' => e = .returned (.string (Lh.bt [UInt8.ofNat n])) ∧ Below W.heap.size W w' := by
  have hcv : (convert 261 9 (.slice (some ⟨W.heap.size, 0, none⟩) 1 1)).run Tryz.prog (W.alloc (.cells #[.int .u8 (n : Nat)] 5)) = .ok (.string (Lh.bt [UInt8.ofNat n])) (W.alloc (.cells #[.int .u8 (n : Nat)] 5)) := by
    rw [run_convert_bytes_string _ _ _ _ _ _ _ Tryz.underlying261 Tryz.underlying5 Tryz.underlying9, run_bytesToString _ ⟨W.heap.size, 0, none⟩ 1 1 [(n : Int)] (by go_simp)]
    congr 2
  go_enter Tryz.func198, Tryz.ntmps198
  go_wp2
  go_ret
  exact ⟨rfl, (Below.refl _ _).alloc (Nat.le_refl _) _⟩
set_option maxRecDepth 100000 in
set_option maxHeartbeats 2000000 in
theorem crcM_any (s : List UInt8) (hs : s.length ≤ 100000) (W : World) :
    Calls Tryz.prog 133 #[.string (Lh.bt s)] W fun e w' => e = .returned (.int .u64 ((Lh.crcL s : Nat) : Int)) ∧ w' = W := by
  go_enter Tryz.func133, Tryz.ntmps133
  have hsz := Lh.bt_size s
  go_wp2_with fail
  go_loop [3, 4, 5, 6] (fun u3 u4 _ _ => ∃ i : Nat, i ≤ s.length ∧ u4 = .int .i64 (i : Nat) ∧ u3 = .int .i64 (((s.take i).foldl Lh.crcByte 4294967295 : Nat) : Int)) (fun _ u4 _ _ => s.length - (intOf u4).toNat)
  case atStart => exact ⟨0, Nat.zero_le _, rfl, rfl⟩
  case round =>
    obtain ⟨i, hi, rfl, rfl⟩ := hrel
    by_cases hlt : i < s.length
    · have hii : (i : Int) < (s.length : Int) := by omega
      have hbs : i < (Lh.bt s).size := by rw [hsz]; exact hlt
      obtain ⟨b, hb⟩ : ∃ b, (Lh.bt s)[i] = b := ⟨_, rfl⟩
      have hb2 : s[i] = b := hb
      have HSU : Hid ((s.take (i + 1)).foldl Lh.crcByte 4294967295 = Lh.crcByte ((s.take i).foldl Lh.crcByte 4294967295) b) := fold_take Lh.crcByte 4294967295 hlt hb2
      have hc32 : (s.take i).foldl Lh.crcByte 4294967295 < 2 ^ 32 := Lh.crcFold_lt _ (by decide)
      generalize (s.take i).foldl Lh.crcByte 4294967295 = c at *
      go_wp2_with fail
      go_loop [3, 5, 6] (fun u3 u5 _ => ∃ k : Nat, k ≤ 8 ∧ u5 = .int .i64 (k : Nat) ∧ u3 = .int .i64 (((List.range k).foldl (Lh.crcBit b.toNat) c : Nat) : Int)) (fun _ u5 _ => 8 - (intOf u5).toNat)
      case atStart => exact ⟨0, Nat.zero_le _, rfl, rfl⟩
      case round =>
        obtain ⟨k, hk, rfl, rfl⟩ := hrel
        by_cases hk8 : k < 8
        · have hki : (k : Int) < 8 := by omega
          have hd32 : (List.range k).foldl (Lh.crcBit b.toNat) c < 2 ^ 32 := Lh.crcK_lt _ hc32
          have HSK : Hid ((List.range (k + 1)).foldl (Lh.crcBit b.toNat) c = Lh.crcBit b.toNat ((List.range k).foldl (Lh.crcBit b.toNat) c) k) := fold_range (Lh.crcBit b.toNat) c k
          generalize (List.range k).foldl (Lh.crcBit b.toNat) c = d at *
          have hbt := b.toNat_lt
          have hsh : b.toNat >>> k < 2 ^ 32 := by
            rw [Nat.shiftRight_eq_div_pow]
            exact Nat.lt_of_le_of_lt (Nat.div_le_self _ _) (by omega)
          have hx := xorI d (b.toNat >>> k) hd32 hsh
          have hw : wrap64 (b.toNat : Int) = (b.toNat : Int) := by unfold wrap64; omega
          have hdv : ((b.toNat : Int) / 2 ^ k) = ((b.toNat >>> k : Nat) : Int) := by
            rw [Nat.shiftRight_eq_div_pow]
            push_cast
            rfl
          have hx2 := xorI (d / 2) 3988292384 (by omega) (by decide)
          have hd2 : ((d : Int) / 2) = ((d / 2 : Nat) : Int) := by omega
          have hx3 : bits .xor .i64 ((d : Int) / 2) 3988292384 = ((d / 2 ^^^ 3988292384 : Nat) : Int) := by rw [hd2]; exact hx2
          have hmd : ((d ^^^ (b.toNat >>> k) : Nat) : Int).tmod 2 = (((d ^^^ (b.toNat >>> k)) % 2 : Nat) : Int) := rfl
          have hkey : bits .xor .i64 (d : Int) (wrap64 ((Lh.bt s)[i].toNat : Int) / 2 ^ k) = ((d ^^^ (b.toNat >>> k) : Nat) : Int) := by rw [hb, hw, hdv, hx]
          cases hbit : ((bits .xor .i64 (d : Int) (wrap64 ((Lh.bt s)[i].toNat : Int) / 2 ^ k)).tmod 2 == 1) with
          | true =>
            have HB : Hid ((d ^^^ (b.toNat >>> k)) % 2 = 1) := by
              rw [hkey, hmd] at hbit
              have : (((d ^^^ (b.toNat >>> k)) % 2 : Nat) : Int) = 1 := by simpa using hbit
              show _ = 1
              omega
            have HX3 : Hid (bits .xor .i64 ((d : Int) / 2) 3988292384 = ((d / 2 ^^^ 3988292384 : Nat) : Int)) := hx3
            clear hx hw hdv hx2 hx3 hd2 hmd hkey hsh hb hb2
            go_wp2
            refine ⟨⟨k + 1, by omega, by go_num, ?_⟩, by simp [intOf]; omega⟩
            rw [HX3.out, HSK.out]
            unfold Lh.crcBit
            rw [if_pos HB.out]
          | false =>
            have HB : Hid (¬ (d ^^^ (b.toNat >>> k)) % 2 = 1) := by
              rw [hkey, hmd] at hbit
              show ¬ _
              intro e
              rw [e] at hbit
              cases hbit
            have HD2 : Hid (((d : Int) / 2) = ((d / 2 : Nat) : Int)) := hd2
            clear hx hw hdv hx2 hx3 hd2 hmd hkey hsh hb hb2
            go_wp2
            refine ⟨⟨k + 1, by omega, by go_num, ?_⟩, by simp [intOf]; omega⟩
            rw [HD2.out, HSK.out]
            unfold Lh.crcBit
            rw [if_neg HB.out]
        · have hk9 : k = 8 := by omega
          have hki : decide ((k : Int) < 8) = false := by simp; omega
          have HK8 : Hid ((List.range k).foldl (Lh.crcBit b.toNat) c = Lh.crcByte c b) := by rw [hk9]; rfl
          clear hk9
          generalize (List.range k).foldl (Lh.crcBit b.toNat) c = d at *
          go_wp2
          refine ⟨⟨i + 1, by omega, by go_num, ?_⟩, by simp [intOf]; omega⟩
          rw [HSU.out, HK8.out]
    · have hii : decide ((i : Int) < (s.length : Int)) = false := by simp; omega
      have hie : i = s.length := by omega
      have HR : Hid ((s.take i).foldl Lh.crcByte 4294967295 = Lh.crcRaw s) := by rw [hie, List.take_length]; rfl
      have hc32 : (s.take i).foldl Lh.crcByte 4294967295 < 2 ^ 32 := Lh.crcFold_lt _ (by decide)
      clear hie
      generalize (s.take i).foldl Lh.crcByte 4294967295 = c at *
      have hx := xorI c 4294967295 hc32 (by decide)
      have HX : Hid (bits .xor .i64 (c : Int) 4294967295 = ((c ^^^ 4294967295 : Nat) : Int)) := hx
      have hxl : c ^^^ 4294967295 < 2 ^ 32 := Nat.xor_lt_two_pow hc32 (by decide)
      clear hx
      go_wp2
      go_ret
      rw [HX.out, IntKind.wrap_u64]
      have e1 : ((c ^^^ 4294967295 : Nat) : Int) % 18446744073709551616 = ((c ^^^ 4294967295 : Nat) : Int) := by omega
      have e2 : Lh.crcL s = c ^^^ 4294967295 := by rw [HR.out]; rfl
      rw [e2]
      rw [e1]
      exact ⟨rfl, rfl⟩
end Go.Proofs.YtmdckddenelneaaGreatDoor

/- The model's numbers of texts: numberOf, hexOf. -/
namespace Go.Proofs.YtmdckddenelneaaGreatDoor
open Go.RowKit

namespace Lh
theorem fold_ten : ∀ (l : List UInt8) (a : Nat), l.all isDg = true → l.foldl (fun n c => 10 * n + (c.toNat - 48)) a < (a + 1) * 10 ^ l.length
  | [], a, _ => by simp
  | c :: l, a, h => by
    simp only [List.all_cons, Bool.and_eq_true] at h
    have hc : c.toNat ≤ 57 := by
      have := h.1
      simp [isDg] at this
      omega
    have := fold_ten l (10 * a + (c.toNat - 48)) h.2
    simp only [List.foldl_cons, List.length_cons]
    refine Nat.lt_of_lt_of_le this ?_
    rw [Nat.pow_succ, Nat.mul_comm (10 ^ l.length) 10, ← Nat.mul_assoc]
    exact Nat.mul_le_mul_right _ (by omega)
theorem valL_lt {l : List UInt8} (h : l.all isDg = true) : valL l < 10 ^ l.length := by
  have := fold_ten l 0 h
  simpa [valL] using this
theorem valL_small {l : List UInt8} (h : l.all isDg = true) (hl : l.length ≤ 14) : valL l < 100000000000000 := by
  have h1 := valL_lt h
  have h2 : 10 ^ l.length ≤ 10 ^ 14 := Nat.pow_le_pow_right (by decide) hl
  omega
/-- A number of digits as the model answers it. -/
def numI (l : List UInt8) : Int := match numL l with
  | some n => (n : Int)
  | none => -1
theorem numI_bad {l : List UInt8} (h : l = [] ∨ 14 < l.length ∨ (1 < l.length ∧ l.head? = some 48) ∨ l.all isDg = false) : numI l = -1 := by
  have : numL l = none := by unfold numL; rw [if_pos h]
  unfold numI
  rw [this]
theorem numI_good {l : List UInt8} (h1 : l ≠ []) (h2 : l.length ≤ 14) (h3 : ¬ (1 < l.length ∧ l.head? = some 48)) (h4 : l.all isDg = true) : numI l = (valL l : Int) := by
  have : numL l = some (valL l) := by
    unfold numL
    rw [if_neg]
    rintro (h | h | h | h)
    · exact h1 h
    · omega
    · exact h3 h
    · rw [h4] at h; cases h
  unfold numI
  rw [this]
end Lh
set_option maxRecDepth 100000 in
set_option maxHeartbeats 2000000 in
theorem numberM_any (l : List UInt8) (hl : l.length ≤ 100000) (W : World) :
    Calls Tryz.prog 131 #[.string (Lh.bt l)] W fun e w' => e = .returned (.int .i64 (Lh.numI l)) ∧ w' = W := by
  have hsz := Lh.bt_size l
  go_enter Tryz.func131, Tryz.ntmps131
  by_cases h0 : l.length < 1
  · have d0 : decide ((l.length : Int) < 1) = true := by simp; omega
    have HB : Hid (Lh.numI l = -1) := Lh.numI_bad (Or.inl (List.eq_nil_of_length_eq_zero (by omega)))
    go_wp2
    go_ret
    exact ⟨by rw [HB.out]; rfl, rfl⟩
  have d0 : decide ((l.length : Int) < 1) = false := by simp; omega
  by_cases h14 : 14 < l.length
  · have d1 : decide ((l.length : Int) > 14) = true := by simp; omega
    have HB : Hid (Lh.numI l = -1) := Lh.numI_bad (Or.inr (Or.inl h14))
    go_wp2
    go_ret
    exact ⟨by rw [HB.out]; rfl, rfl⟩
  have d1 : decide ((l.length : Int) > 14) = false := by simp; omega
  have d1' : decide (14 < (l.length : Int)) = false := by simp; omega
  have hp : 0 < (Lh.bt l).size := by omega
  have hh : l.head? = some ((Lh.bt l)[0]) := by
    cases l with
    | nil => simp at h0
    | cons c l => rfl
  have hne : l ≠ [] := fun e => by simp [e] at h0
  by_cases hz : 1 < l.length ∧ (Lh.bt l)[0].toNat = 48
  · obtain ⟨h1, h48⟩ := hz
    have d2 : decide ((l.length : Int) > 1) = true := by simp; omega
    have d2' : decide (1 < (l.length : Int)) = true := by simp; omega
    have d3 : (((Lh.bt l)[0].toNat : Int) == 48) = true := by simp; omega
    have HB : Hid (Lh.numI l = -1) := Lh.numI_bad (Or.inr (Or.inr (Or.inl ⟨h1, by rw [hh]; congr 1; exact UInt8.toNat_inj.1 h48⟩)))
    clear hh hne h48
    go_wp2
    go_ret
    exact ⟨by rw [HB.out]; rfl, rfl⟩
  · have HG : Hid (l.all Lh.isDg = true → Lh.numI l = (Lh.valL l : Int)) := Lh.numI_good hne (by omega) (fun h => hz ⟨h.1, by
      have := h.2
      rw [hh] at this
      exact congrArg UInt8.toNat (Option.some.inj this)⟩)
    have HV : Hid (∀ i, (l.take i).all Lh.isDg = true → Lh.valL (l.take i) < 100000000000000) := fun i h => Lh.valL_small h (by rw [List.length_take]; omega)
    have HBAD : Hid (l.all Lh.isDg = false → Lh.numI l = -1) := fun h => Lh.numI_bad (Or.inr (Or.inr (Or.inr h)))
    clear hh hne
    have HZ : (decide ((l.length : Int) > 1) = true ∧ decide (1 < (l.length : Int)) = true ∧ (((Lh.bt l)[0].toNat : Int) == 48) = false) ∨ (decide ((l.length : Int) > 1) = false ∧ decide (1 < (l.length : Int)) = false ∧ (0 : Int) = 0) := by
      by_cases h1 : 1 < l.length
      · refine Or.inl ⟨by simp; omega, by simp; omega, ?_⟩
        have : ¬ (Lh.bt l)[0].toNat = 48 := fun e => hz ⟨h1, e⟩
        simp
        omega
      · exact Or.inr ⟨by simp; omega, by simp; omega, rfl⟩
    clear hz
    rcases HZ with ⟨d2, d2', d3⟩ | ⟨d2, d2', d3⟩
    all_goals
      go_wp2_with fail
      go_loop [3, 4] (fun u3 u4 => ∃ i : Nat, i ≤ l.length ∧ u4 = .int .i64 (i : Nat) ∧ (l.take i).all Lh.isDg = true ∧ u3 = .int .i64 ((Lh.valL (l.take i) : Nat) : Int)) (fun _ u4 => l.length - (intOf u4).toNat)
      case atStart => exact ⟨0, Nat.zero_le _, rfl, rfl, rfl⟩
      case round =>
        obtain ⟨i, hi, rfl, had, rfl⟩ := hrel
        have hvl := HV.out i had
        by_cases hil : i < l.length
        · have hii : (i : Int) < (l.length : Int) := by omega
          have hbs : i < (Lh.bt l).size := by rw [hsz]; exact hil
          obtain ⟨b, hb⟩ : ∃ b, (Lh.bt l)[i] = b := ⟨_, rfl⟩
          have hb2 : l[i] = b := hb
          have HSA : Hid ((l.take (i + 1)).all Lh.isDg = Lh.isDg b) := by
            show _ = _
            rw [List.take_succ_eq_append_getElem hil, List.all_append, had, Bool.true_and]
            rw [show l[i] = b from hb2]
            simp
          have HSV : Hid (Lh.valL (l.take (i + 1)) = 10 * Lh.valL (l.take i) + (b.toNat - 48)) := by
            show _ = _
            rw [List.take_succ_eq_append_getElem hil, Lh.valL_snoc]
            rw [show l[i] = b from hb2]
          have HAL : Hid (Lh.isDg b = false → l.all Lh.isDg = false) := fun h => by
            rw [List.all_eq_false]
            exact ⟨b, by rw [← hb2]; exact List.getElem_mem hil, by rw [h]; simp⟩
          have hbl := b.toNat_lt
          generalize Lh.valL (l.take i) = z at *
          by_cases hlo : b.toNat < 48
          · have e1 : decide (((Lh.bt l)[i].toNat : Int) < 48) = true := by rw [hb]; simp; omega
            have HF : Hid (Lh.isDg b = false) := by
              show _ = _
              simp [Lh.isDg]; omega
            clear hb hb2
            go_wp2
            go_ret
            exact ⟨by rw [HBAD.out (HAL.out HF.out)]; rfl, rfl⟩
          · have e1 : decide (((Lh.bt l)[i].toNat : Int) < 48) = false := by rw [hb]; simp; omega
            by_cases hhi : 57 < b.toNat
            · have e2 : decide (((Lh.bt l)[i].toNat : Int) > 57) = true := by rw [hb]; simp; omega
              have e2' : decide (57 < ((Lh.bt l)[i].toNat : Int)) = true := by rw [hb]; simp; omega
              have HF : Hid (Lh.isDg b = false) := by
                show _ = _
                simp [Lh.isDg]; omega
              clear hb hb2
              go_wp2
              go_ret
              exact ⟨by rw [HBAD.out (HAL.out HF.out)]; rfl, rfl⟩
            · have e2 : decide (((Lh.bt l)[i].toNat : Int) > 57) = false := by rw [hb]; simp; omega
              have e2' : decide (57 < ((Lh.bt l)[i].toNat : Int)) = false := by rw [hb]; simp; omega
              have hbn : ((Lh.bt l)[i].toNat : Int) = (b.toNat : Int) := by rw [hb]
              have hbl2 : 48 ≤ (Lh.bt l)[i].toNat ∧ (Lh.bt l)[i].toNat ≤ 57 := by rw [hb]; omega
              have HF : Hid (Lh.isDg b = true) := by
                show _ = _
                simp [Lh.isDg]; omega
              have HBN : Hid ((Lh.bt l)[i] = b) := hb
              clear hb hb2
              go_wp2
              refine ⟨⟨i + 1, by omega, by go_num, by rw [HSA.out]; exact HF.out, ?_⟩, by simp [intOf]; omega⟩
              rw [HSV.out]
              congr 1
              omega
        · have hii : decide ((i : Int) < (l.length : Int)) = false := by simp; omega
          have hie : l.take i = l := List.take_of_length_le (by omega)
          have HE : Hid (Lh.numI l = ((Lh.valL (l.take i) : Nat) : Int)) := by
            show _ = _
            rw [hie] at had ⊢
            exact HG.out had
          clear hie
          go_wp2
          go_ret
          exact ⟨by rw [HE.out]; rfl, rfl⟩

namespace Lh
theorem hexV_take {l : List UInt8} {i : Nat} (h : i < l.length) {b : UInt8} (hb : l[i] = b) : hexV (l.take (i + 1)) = (hexV (l.take i)).bind fun n => (hxV b).map fun d => 16 * n + d := by
  subst hb
  rw [List.take_succ_eq_append_getElem h, hexV_snoc]
theorem hexV_none : ∀ (l : List UInt8), l.foldl (fun n c => n.bind fun n => (hxV c).map fun d => 16 * n + d) (none : Option Nat) = none
  | [] => rfl
  | c :: l => by
    rw [List.foldl_cons]
    exact hexV_none l
theorem hexV_bad {l : List UInt8} {i : Nat} (h : hexV (l.take i) = none) : hexV l = none := by
  have e : hexV l = (l.drop i).foldl (fun n c => n.bind fun n => (hxV c).map fun d => 16 * n + d) (hexV (l.take i)) := by
    unfold hexV
    rw [← List.foldl_append, List.take_append_drop]
  rw [e, h, hexV_none]
theorem hexV_lt {l : List UInt8} {n : Nat} (h : hexV l = some n) : n < 16 ^ l.length := (hexL_hexV h).2
end Lh
set_option maxRecDepth 100000 in
set_option maxHeartbeats 2000000 in
theorem hexOfM_any (l : List UInt8) (k : Nat) (hk : k ≤ 16) (hl : l.length ≤ 100000) (W : World) :
    Calls Tryz.prog 132 #[.string (Lh.bt l), .int .i64 (k : Nat)] W fun e w' => ((l.length = k ∧ ∃ n : Nat, Lh.hexV l = some n ∧ e = .returned (.tuple #[.int .u64 (n : Nat), .bool true])) ∨ ((l.length ≠ k ∨ Lh.hexV l = none) ∧ e = .returned (.tuple #[.int .u64 0, .bool false]))) ∧ w' = W := by
  have hsz := Lh.bt_size l
  go_enter Tryz.func132, Tryz.ntmps132
  by_cases h0 : l.length = k
  · have d0 : ((l.length : Int) != (k : Int)) = false := by simp; omega
    have HL : Hid (l.length = k) := h0
    have hl16 : l.length ≤ 16 := by omega
    clear h0 hk
    go_wp2_with fail
    go_loop [6, 7, 8, 9] (fun u6 u7 _ _ => ∃ i z : Nat, i ≤ l.length ∧ u7 = .int .i64 (i : Nat) ∧ Lh.hexV (l.take i) = some z ∧ u6 = .int .u64 (z : Nat)) (fun _ u7 _ _ => l.length - (intOf u7).toNat)
    case atStart => exact ⟨0, 0, Nat.zero_le _, rfl, rfl, rfl⟩
    case round =>
      obtain ⟨i, z, hi, rfl, hz, rfl⟩ := hrel
      by_cases hil : i < l.length
      · have hii : (i : Int) < (l.length : Int) := by omega
        have hbs : i < (Lh.bt l).size := by rw [hsz]; exact hil
        obtain ⟨b, hb⟩ : ∃ b, (Lh.bt l)[i] = b := ⟨_, rfl⟩
        have hb2 : l[i] = b := hb
        have hst := Lh.hexV_take hil hb2
        rw [hz] at hst
        have HST : Hid (Lh.hexV (l.take (i + 1)) = (Lh.hxV b).map fun d => 16 * z + d) := hst
        have hzl : z < 16 ^ 15 := by
          have h1 := Lh.hexV_lt hz
          rw [List.length_take, Nat.min_eq_left hi] at h1
          exact Nat.lt_of_lt_of_le h1 (Nat.pow_le_pow_right (by decide) (by omega))
        have hbl := b.toNat_lt
        clear hz hst
        by_cases hd : 48 ≤ b.toNat ∧ b.toNat ≤ 57
        · have e1 : decide (((Lh.bt l)[i].toNat : Int) ≥ 48) = true := by rw [hb]; simp; omega
          have e1' : decide (48 ≤ ((Lh.bt l)[i].toNat : Int)) = true := by rw [hb]; simp; omega
          have e2 : decide (((Lh.bt l)[i].toNat : Int) ≤ 57) = true := by rw [hb]; simp; omega
          have HV : Hid (Lh.hxV b = some (b.toNat - 48)) := by show _ = _; unfold Lh.hxV; rw [if_pos hd]
          have hbl2 : 48 ≤ (Lh.bt l)[i].toNat ∧ (Lh.bt l)[i].toNat ≤ 57 := by rw [hb]; exact hd
          have HBN : Hid ((Lh.bt l)[i] = b) := hb
          clear hb hb2
          go_wp2
          refine ⟨⟨i + 1, 16 * z + (b.toNat - 48), by omega, by go_num, by rw [HST.out, HV.out]; rfl, ?_⟩, by simp [intOf]; omega⟩
          rw [HBN.out]
          congr 1
          omega
        · by_cases hd2 : 97 ≤ b.toNat ∧ b.toNat ≤ 102
          · have e1 : decide (((Lh.bt l)[i].toNat : Int) ≥ 48) = true := by rw [hb]; simp; omega
            have e1' : decide (48 ≤ ((Lh.bt l)[i].toNat : Int)) = true := by rw [hb]; simp; omega
            have e2 : decide (((Lh.bt l)[i].toNat : Int) ≤ 57) = false := by rw [hb]; simp; omega
            have e3 : decide (97 ≤ ((Lh.bt l)[i].toNat : Int)) = true := by rw [hb]; simp; omega
            have e4 : decide (((Lh.bt l)[i].toNat : Int) ≤ 102) = true := by rw [hb]; simp; omega
            have HV : Hid (Lh.hxV b = some (b.toNat - 87)) := by show _ = _; unfold Lh.hxV; rw [if_neg hd, if_pos hd2]
            have hbl2 : 97 ≤ (Lh.bt l)[i].toNat ∧ (Lh.bt l)[i].toNat ≤ 102 := by rw [hb]; exact hd2
            have HBN : Hid ((Lh.bt l)[i] = b) := hb
            clear hb hb2
            go_wp2
            refine ⟨⟨i + 1, 16 * z + (b.toNat - 87), by omega, by go_num, by rw [HST.out, HV.out]; rfl, ?_⟩, by simp [intOf]; omega⟩
            rw [HBN.out]
            congr 1
            omega
          · have HV : Hid (Lh.hexV l = none) := by
              refine Lh.hexV_bad (i := i + 1) ?_
              rw [HST.out]
              unfold Lh.hxV
              rw [if_neg hd, if_neg hd2]
              rfl
            cases e1 : decide (48 ≤ ((Lh.bt l)[i].toNat : Int)) with
            | true =>
              have e2 : decide (((Lh.bt l)[i].toNat : Int) ≤ 57) = false := by
                rw [hb] at e1 ⊢
                simp at e1 ⊢; omega
              cases e3 : decide (97 ≤ ((Lh.bt l)[i].toNat : Int)) with
              | true =>
                have e4 : decide (((Lh.bt l)[i].toNat : Int) ≤ 102) = false := by
                  rw [hb] at e3 ⊢
                  simp at e3 ⊢; omega
                clear hb hb2
                go_wp2
                go_ret2
                exact ⟨Or.inr ⟨Or.inr HV.out, rfl⟩, rfl⟩
              | false =>
                clear hb hb2
                go_wp2
                go_ret2
                exact ⟨Or.inr ⟨Or.inr HV.out, rfl⟩, rfl⟩
            | false =>
              have e3 : decide (97 ≤ ((Lh.bt l)[i].toNat : Int)) = false := by
                rw [hb] at e1 ⊢
                simp at e1 ⊢; omega
              clear hb hb2
              go_wp2
              go_ret2
              exact ⟨Or.inr ⟨Or.inr HV.out, rfl⟩, rfl⟩
      · have hii : decide ((i : Int) < (l.length : Int)) = false := by simp; omega
        have hie : l.take i = l := List.take_of_length_le (by omega)
        rw [hie] at hz
        have HZ : Hid (Lh.hexV l = some z) := hz
        clear hz hie
        go_wp2
        go_ret2
        exact ⟨Or.inl ⟨HL.out, z, HZ.out, rfl⟩, rfl⟩
  · have d0 : ((l.length : Int) != (k : Int)) = true := by simp; omega
    have HL : Hid (l.length ≠ k) := h0
    clear h0
    go_wp2
    go_ret2
    exact ⟨Or.inr ⟨Or.inl HL.out, rfl⟩, rfl⟩
end Go.Proofs.YtmdckddenelneaaGreatDoor
