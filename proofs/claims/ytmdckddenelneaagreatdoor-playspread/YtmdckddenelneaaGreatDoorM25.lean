/- What is carried over, as lists of bytes: hex digits and the sum. -/
import Derived.Test.YtmdckddenelneaaGreatDoorM24
import Derived.Test.YtmdckddenelneaaGreatDoorM7
import Derived.Test.YtmdckddenelneaaGreatDoorProg
import Derived.WalkKit
import Derived.WalkLawsBesides
import Derived.WalkSpells
import Derived.Below
import Derived.Laws.Concat
import Derived.Laws.Strings2
import Derived.Test.YtmdckddenelneaaGreatDoorM0
import Derived.Test.YtmdckddenelneaaGreatDoorM8
import Derived.BigQuiet
import Derived.Deep.QuietTactic
import Derived.Laws.StructEq
import Derived.Test.YtmdckddenelneaaGreatDoorM4
namespace Go.Proofs.YtmdckddenelneaaGreatDoor
namespace Lh

def hxU (d : Nat) : UInt8 := UInt8.ofNat (if d < 10 then 48 + d else 87 + d)
/-- the last k hex digits of a number -/
def hexL : Nat → Nat → List UInt8
  | 0, _ => []
  | k + 1, n => hexL k (n / 16) ++ [hxU (n % 16)]
def hxV (c : UInt8) : Option Nat := if 48 ≤ c.toNat ∧ c.toNat ≤ 57 then some (c.toNat - 48) else if 97 ≤ c.toNat ∧ c.toNat ≤ 102 then some (c.toNat - 87) else none
def hexV (l : List UInt8) : Option Nat := l.foldl (fun n c => n.bind fun n => (hxV c).map fun d => 16 * n + d) (some 0)
theorem hxU_nat {d : Nat} (h : d < 16) : (hxU d).toNat = if d < 10 then 48 + d else 87 + d := by
  unfold hxU
  rw [UInt8.toNat_ofNat']
  split <;> omega
theorem hxV_hxU {d : Nat} (h : d < 16) : hxV (hxU d) = some d := by
  unfold hxV
  rw [hxU_nat h]
  by_cases h1 : d < 10
  · rw [if_pos h1, if_pos (by omega)]
    congr 1
    omega
  · rw [if_neg h1, if_neg (by omega), if_pos (by omega)]
    congr 1
    omega
theorem hxU_hxV {c : UInt8} {d : Nat} (h : hxV c = some d) : hxU d = c ∧ d < 16 := by
  unfold hxV at h
  split at h
  · rename_i h1
    obtain rfl := Option.some.inj h
    refine ⟨?_, by omega⟩
    unfold hxU
    rw [if_pos (by omega), show 48 + (c.toNat - 48) = c.toNat by omega]
    simp
  · split at h
    · rename_i h1 h2
      obtain rfl := Option.some.inj h
      refine ⟨?_, by omega⟩
      unfold hxU
      rw [if_neg (by omega), show 87 + (c.toNat - 87) = c.toNat by omega]
      simp
    · cases h
theorem hexL_len : ∀ k n, (hexL k n).length = k
  | 0, _ => rfl
  | k + 1, n => by
    show (hexL k (n / 16) ++ [hxU (n % 16)]).length = _
    rw [List.length_append, hexL_len k]
    rfl
theorem hexV_snoc (l : List UInt8) (c : UInt8) : hexV (l ++ [c]) = (hexV l).bind fun n => (hxV c).map fun d => 16 * n + d := by simp [hexV, List.foldl_append]
theorem hexV_hexL : ∀ k n, n < 16 ^ k → hexV (hexL k n) = some n
  | 0, n, h => by
    have : n = 0 := by simp at h; exact h
    subst this
    rfl
  | k + 1, n, h => by
    have h2 : n / 16 < 16 ^ k := by
      rw [Nat.pow_succ] at h
      omega
    show hexV (hexL k (n / 16) ++ [hxU (n % 16)]) = _
    rw [hexV_snoc, hexV_hexL k _ h2, hxV_hxU (Nat.mod_lt _ (by decide))]
    simp
    omega
theorem hexL_hexV : ∀ {l : List UInt8} {n : Nat}, hexV l = some n → hexL l.length n = l ∧ n < 16 ^ l.length := by
  intro l
  induction hn : l.length generalizing l with
  | zero =>
    intro n h
    have : l = [] := List.eq_nil_of_length_eq_zero hn
    subst this
    have : n = 0 := (Option.some.inj h).symm
    subst this
    exact ⟨rfl, by decide⟩
  | succ k ih =>
    intro n h
    have hne : l ≠ [] := fun e => by rw [e] at hn; cases hn
    obtain ⟨m, c, rfl⟩ : ∃ m c, l = m ++ [c] := ⟨l.dropLast, l.getLast hne, (List.dropLast_concat_getLast hne).symm⟩
    have hlm : m.length = k := by simp at hn; exact hn
    rw [hexV_snoc] at h
    cases hm : hexV m with
    | none => rw [hm] at h; cases h
    | some a =>
      rw [hm] at h
      cases hc : hxV c with
      | none => rw [hc] at h; cases h
      | some d =>
        rw [hc] at h
        obtain rfl : 16 * a + d = n := by simpa using h
        obtain ⟨h1, h2⟩ := ih hlm hm
        obtain ⟨h3, h4⟩ := hxU_hxV hc
        refine ⟨?_, ?_⟩
        · show hexL k ((16 * a + d) / 16) ++ [hxU ((16 * a + d) % 16)] = _
          rw [show (16 * a + d) / 16 = a by omega, show (16 * a + d) % 16 = d by omega, h1, h3]
        · rw [Nat.pow_succ]
          omega

/-- one bit of the long division -/
def crcBit (b c k : Nat) : Nat := if (c ^^^ (b >>> k)) % 2 = 1 then (c / 2) ^^^ 3988292384 else c / 2
def crcByte (c : Nat) (b : UInt8) : Nat := (List.range 8).foldl (crcBit b.toNat) c
def crcRaw (l : List UInt8) : Nat := l.foldl crcByte 4294967295
/-- the sum of a text -/
def crcL (l : List UInt8) : Nat := crcRaw l ^^^ 4294967295
theorem crcBit_lt {b c k : Nat} (h : c < 2 ^ 32) : crcBit b c k < 2 ^ 32 := by
  unfold crcBit
  split
  · exact Nat.xor_lt_two_pow (by omega) (by decide)
  · omega
theorem crcK_lt {b : Nat} : ∀ (ks : List Nat) {c : Nat}, c < 2 ^ 32 → ks.foldl (crcBit b) c < 2 ^ 32
  | [], _, h => h
  | _ :: ks, _, h => crcK_lt ks (crcBit_lt h)
theorem crcByte_lt {c : Nat} (b : UInt8) (h : c < 2 ^ 32) : crcByte c b < 2 ^ 32 := crcK_lt _ h
theorem crcFold_lt : ∀ (l : List UInt8) {c : Nat}, c < 2 ^ 32 → l.foldl crcByte c < 2 ^ 32
  | [], _, h => h
  | b :: l, _, h => crcFold_lt l (crcByte_lt b h)
theorem crcL_lt (l : List UInt8) : crcL l < 2 ^ 32 := Nat.xor_lt_two_pow (crcFold_lt l (by decide)) (by decide)
theorem bit_xor (b c k : Nat) : crcBit 0 (c ^^^ (b >>> k)) k = crcBit b c k ^^^ (b >>> (k + 1)) := by
  have hd : (c ^^^ (b >>> k)) / 2 = (c / 2) ^^^ (b >>> (k + 1)) := by
    have h1 : (b >>> k) / 2 = b >>> (k + 1) := by rw [Nat.shiftRight_succ]
    rw [← h1]
    exact Nat.xor_div_two
  unfold crcBit
  simp only [Nat.zero_shiftRight, Nat.xor_zero]
  rw [hd]
  split
  · rw [Nat.xor_assoc, Nat.xor_assoc, Nat.xor_comm (b >>> (k + 1))]
  · rfl
theorem fold_xor (b : Nat) : ∀ n c, (List.range n).foldl (crcBit 0) (c ^^^ b) = (List.range n).foldl (crcBit b) c ^^^ (b >>> n)
  | 0, c => by simp
  | n + 1, c => by
    rw [List.range_succ, List.foldl_append, List.foldl_append, fold_xor b n c]
    exact bit_xor b _ n
theorem crcByte_xor (c : Nat) (b : UInt8) : crcByte c b = (List.range 8).foldl (crcBit 0) (c ^^^ b.toNat) := by
  rw [fold_xor b.toNat 8 c]
  have : b.toNat >>> 8 = 0 := by
    rw [Nat.shiftRight_eq_div_pow]
    have := b.toNat_lt
    omega
  rw [this, Nat.xor_zero]
  rfl
theorem crcX_lt {c : Nat} (h : c < 2 ^ 32) (b : UInt8) : c ^^^ b.toNat < 2 ^ 32 := Nat.xor_lt_two_pow h (by have := b.toNat_lt; omega)
end Lh
end Go.Proofs.YtmdckddenelneaaGreatDoor

/- What is carried over, as lists of bytes: the text of flows, and what a text is. -/
namespace Go.Proofs.YtmdckddenelneaaGreatDoor
namespace Lh

def flowsW : List UInt8 := [102, 108, 111, 119, 115]
def sumW : List UInt8 := [115, 117, 109]
def bt (l : List UInt8) : ByteArray := ⟨l.toArray⟩
theorem bt_data (l : List UInt8) : (bt l).data.toList = l := rfl
theorem bt_eta (b : ByteArray) : bt b.data.toList = b := rfl
/-- a flow's line -/
def lineF (x : Fl) : List UInt8 := joinL 32 [hexL 16 x.1, x.2.1.data.toList, decL x.2.2.toNat]
def headL (e n : Nat) : List UInt8 := joinL 32 [flowsW, decL e, decL n]
/-- the lines ahead of the sum -/
def bodyL (e : Nat) (l : List Fl) : List UInt8 := joinL 10 (headL e l.length :: l.map lineF) ++ [10]
def sumL (s : List UInt8) : List UInt8 := joinL 32 [sumW, hexL 8 (crcL s)]
/-- the text of flows -/
def textL (e : Nat) (l : List Fl) : List UInt8 := bodyL e l ++ sumL (bodyL e l) ++ [10]
/-- a line as a flow -/
def lineV (w : List UInt8) : Option Fl := match cutL 32 w with
  | [a, b, c] => if b = [] ∨ a.length ≠ 16 then none else match hexV a, numL c with
    | some k, some u => some (k, bt b, (u : Int))
    | _, _ => none
  | _ => none
def rowsL : List (List UInt8) → Option (List Fl)
  | [] => some []
  | w :: ws => match lineV w, rowsL ws with
    | some x, some l => some (x :: l)
    | _, _ => none
/-- the first line: epoch, how many -/
def firstL (w : List UInt8) : Option (Nat × Nat) := match cutL 32 w with
  | [a, b, c] => if a ≠ flowsW then none else match numL b, numL c with
    | some e, some n => some (e, n)
    | _, _ => none
  | _ => none
/-- the last line: the sum -/
def lastL (w : List UInt8) : Option Nat := match cutL 32 w with
  | [a, b] => if a ≠ sumW ∨ b.length ≠ 8 then none else hexV b
  | _ => none
/-- lines: epoch, flows, the sum, and the lines ahead of it -/
def partsL (ls : List (List UInt8)) : Option (Nat × List Fl × Nat × List (List UInt8)) :=
  if ls.length < 3 ∨ ls.getD (ls.length - 1) [] ≠ [] then none else
  match firstL (ls.getD 0 []), rowsL ((ls.drop 1).take (ls.length - 3)), lastL (ls.getD (ls.length - 2) []) with
  | some (e, n), some l, some k => if n + 3 ≠ ls.length then none else some (e, l, k, ls.take (ls.length - 2))
  | _, _, _ => none
theorem lineV_inv {w : List UInt8} {x : Fl} (h : lineV w = some x) : lineF x = w := by
  have hj := cut_join 32 w
  unfold lineV at h
  split at h
  · rename_i a b c e
    rw [e] at hj
    split at h
    · cases h
    · rename_i hc
      simp only [not_or, Decidable.not_not] at hc
      split at h
      · rename_i k u hk hu
        obtain rfl := Option.some.inj h
        have h1 := (hexL_hexV hk).1
        rw [hc.2] at h1
        unfold lineF
        show joinL 32 [hexL 16 k, b, decL (u : Int).toNat] = w
        rw [h1, Int.toNat_natCast, numL_inv hu]
        exact hj
      · cases h
  · cases h
theorem lineV_key {w : List UInt8} {x : Fl} (h : lineV w = some x) : x.1 < 18446744073709551616 ∧ 0 ≤ x.2.2 := by
  unfold lineV at h
  split at h
  · split at h
    · cases h
    · rename_i hc
      simp only [not_or, Decidable.not_not] at hc
      split at h
      · rename_i k u hk hu
        obtain rfl := Option.some.inj h
        have h1 := (hexL_hexV hk).2
        rw [hc.2] at h1
        exact ⟨h1, Int.natCast_nonneg _⟩
      · cases h
  · cases h
theorem rowsL_inv : ∀ {ws : List (List UInt8)} {l : List Fl}, rowsL ws = some l → l.map lineF = ws ∧ l.length = ws.length
  | [], l, h => by
    obtain rfl := Option.some.inj h
    exact ⟨rfl, rfl⟩
  | w :: ws, l, h => by
    unfold rowsL at h
    split at h
    · rename_i x l' hx hl
      obtain rfl := Option.some.inj h
      obtain ⟨h1, h2⟩ := rowsL_inv hl
      exact ⟨by rw [List.map_cons, lineV_inv hx, h1], by rw [List.length_cons, h2, List.length_cons]⟩
    · cases h
theorem firstL_inv {w : List UInt8} {e n : Nat} (h : firstL w = some (e, n)) : headL e n = w := by
  have hj := cut_join 32 w
  unfold firstL at h
  split at h
  · rename_i a b c ec
    rw [ec] at hj
    split at h
    · cases h
    · rename_i hc
      simp only [Decidable.not_not] at hc
      split at h
      · rename_i e' n' he hn
        cases h
        unfold headL
        rw [numL_inv he, numL_inv hn, ← hc]
        exact hj
      · cases h
  · cases h
theorem lastL_inv {w : List UInt8} {k : Nat} (h : lastL w = some k) : joinL 32 [sumW, hexL 8 k] = w := by
  have hj := cut_join 32 w
  unfold lastL at h
  split at h
  · rename_i a b ec
    rw [ec] at hj
    split at h
    · cases h
    · rename_i hc
      simp only [not_or, Decidable.not_not] at hc
      have h1 := (hexL_hexV h).1
      rw [hc.2] at h1
      rw [h1, ← hc.1]
      exact hj
  · cases h
theorem joinL_snoc (y : UInt8) : ∀ (ws : List (List UInt8)) (w : List UInt8), ws ≠ [] → joinL y (ws ++ [w]) = joinL y ws ++ y :: w
  | [v], w, _ => rfl
  | v :: u :: ws, w, _ => by
    show v ++ y :: joinL y ((u :: ws) ++ [w]) = _
    rw [joinL_snoc y (u :: ws) w (by simp)]
    show _ = (v ++ y :: joinL y (u :: ws)) ++ y :: w
    simp
/-- A text that is one is the text of what it is. -/
theorem parts_text {s : List UInt8} {e k : Nat} {l : List Fl} {ps : List (List UInt8)} (h : partsL (cutL 10 s) = some (e, l, k, ps)) : joinL 10 ps ++ [10] = bodyL e l ∧ (k = crcL (bodyL e l) → s = textL e l) ∧ s.length = (bodyL e l).length + 13 := by
  have hj := cut_join 10 s
  generalize cutL 10 s = ls at h hj
  unfold partsL at h
  split at h
  · cases h
  · rename_i hc
    simp only [not_or, Decidable.not_not, Nat.not_lt] at hc
    split at h
    · rename_i e' n l' k' hf hr hs
      split at h
      · cases h
      · rename_i hn
        simp only [Decidable.not_not] at hn
        cases h
        have h1 := firstL_inv hf
        obtain ⟨h2, h3⟩ := rowsL_inv hr
        have h4 := lastL_inv hs
        have hlen : l.length = ls.length - 3 := by rw [h3, List.length_take, List.length_drop]; omega
        have hnl : n = l.length := by omega
        have hps : ls.take (ls.length - 2) = headL e l.length :: l.map lineF := by
          rw [h2, ← hnl, h1]
          match ls, hc.1 with
          | w :: ws, hc1 =>
            rw [show (w :: ws).length - 2 = ((w :: ws).length - 3) + 1 by simp at hc1 ⊢; omega, List.take_succ_cons]
            rfl
        have hls : ls = ls.take (ls.length - 2) ++ [ls.getD (ls.length - 2) []] ++ [ls.getD (ls.length - 1) []] := by
          rw [List.getD_eq_getElem?_getD, List.getD_eq_getElem?_getD, List.getElem?_eq_getElem (by omega), List.getElem?_eq_getElem (by omega)]
          simp only [Option.getD_some]
          have q1 := List.take_succ_eq_append_getElem (l := ls) (i := ls.length - 2) (by omega)
          have q2 := List.take_succ_eq_append_getElem (l := ls) (i := ls.length - 2 + 1) (by omega)
          rw [q1] at q2
          have q3 : ls.take (ls.length - 2 + 1 + 1) = ls := List.take_of_length_le (by omega)
          rw [q3] at q2
          have q4 : ls[ls.length - 1] = ls[ls.length - 2 + 1]'(by omega) := by congr 1; omega
          rw [q4]
          exact q2
        rw [hc.2, ← h4, hps] at hls
        have hs2 : s = joinL 10 (headL e l.length :: l.map lineF) ++ 10 :: (joinL 32 [sumW, hexL 8 k]) ++ [10] := by
          rw [← hj, hls, joinL_snoc _ _ _ (by simp), joinL_snoc _ _ _ (by simp)]
        refine ⟨by rw [hps]; rfl, fun hk => ?_, ?_⟩
        · rw [hs2, hk]
          show _ = (joinL 10 (headL e l.length :: l.map lineF) ++ [10]) ++ sumL (bodyL e l) ++ [10]
          simp [sumL]
        · rw [hs2]
          show _ = (joinL 10 (headL e l.length :: l.map lineF) ++ [10]).length + 13
          have := hexL_len 8 k
          simp only [List.length_append, List.length_cons, List.length_nil, joinL, sumW, this]
    · cases h
end Lh
end Go.Proofs.YtmdckddenelneaaGreatDoor

/- The model's small functions of texts: hex. -/
namespace Go.Proofs.YtmdckddenelneaaGreatDoor
open Go.RowKit

namespace Lh
theorem bt_append (a b : List UInt8) : bt a ++ bt b = bt (a ++ b) := ByteArray.mk_append_mk a b
theorem bt_extract (l : List UInt8) (i j : Nat) : (bt l).extract i j = bt ((l.drop i).take (j - i)) := ByteArray.extract_mk l i j
theorem bt_size (l : List UInt8) : (bt l).size = l.length := by simp [bt, ByteArray.size]
end Lh
end Go.Proofs.YtmdckddenelneaaGreatDoor

/- The model's small functions of texts: Byte, Decimal. -/
namespace Go.Proofs.YtmdckddenelneaaGreatDoor
open Go.RowKit

theorem fold_take {α β : Type} (f : α → β → α) (z : α) {s : List β} {i : Nat} (h : i < s.length) {b : β} (hb : s[i] = b) : (s.take (i + 1)).foldl f z = f ((s.take i).foldl f z) b := by
  subst hb
  rw [List.take_succ_eq_append_getElem h, List.foldl_append]
  rfl
theorem fold_range {α : Type} (f : α → Nat → α) (z : α) (k : Nat) : (List.range (k + 1)).foldl f z = f ((List.range k).foldl f z) k := by
  rw [List.range_succ, List.foldl_append]
  rfl
end Go.Proofs.YtmdckddenelneaaGreatDoor

/- Flows that are the same. -/
namespace Go.Proofs.YtmdckddenelneaaGreatDoor
open Go.RowKit

theorem Flows1.cells {w : World} {v : Value} {L : List Lh.Fl} (h : Flows1 w v L) : ∃ p c, v = .slice p L.length c ∧ ∀ i (hi : i < L.length), ∃ b o, p = some ⟨b, o, none⟩ ∧ w.cell? ⟨b, o + i * 3, none⟩ = some (.int .u64 (L[i].1 : Nat)) ∧ w.cell? ⟨b, o + i * 3 + 1, none⟩ = some (.string L[i].2.1) ∧ w.cell? ⟨b, o + i * 3 + 2, none⟩ = some (.int .i64 L[i].2.2) := by
  rcases h with ⟨rfl, rfl | ⟨ad, c, rfl⟩⟩ | ⟨b, o, c, rfl, _, h⟩
  · exact ⟨_, _, rfl, fun i hi => absurd hi (by simp)⟩
  · exact ⟨_, c, rfl, fun i hi => absurd hi (by simp)⟩
  · exact ⟨_, c, rfl, fun i hi => ⟨b, o, rfl, h i hi⟩⟩

end Go.Proofs.YtmdckddenelneaaGreatDoor

/- The model's CarryFault. -/
namespace Go.Proofs.YtmdckddenelneaaGreatDoor
open Go.RowKit

def GoodF (l : List Lh.Fl) (i : Nat) (h : i < l.length) : Prop := Lh.isNm (l[i]).2.1 = true ∧ 0 ≤ (l[i]).2.2 ∧ (l[i]).2.2 ≤ 1099511628776 ∧ ∀ j (hj : j < l.length), j < i → (l[j]).1 ≠ (l[i]).1
/-- What is wrong with a flow. -/
def FlawF (l : List Lh.Fl) (i : Nat) (h : i < l.length) (c : Nat) : Prop := (Lh.isNm (l[i]).2.1 = false ∧ c = 4) ∨ (Lh.isNm (l[i]).2.1 = true ∧ ((l[i]).2.2 < 0 ∨ 1099511628776 < (l[i]).2.2) ∧ c = 2) ∨ (Lh.isNm (l[i]).2.1 = true ∧ 0 ≤ (l[i]).2.2 ∧ (l[i]).2.2 ≤ 1099511628776 ∧ (∃ j, ∃ hj : j < l.length, j < i ∧ (l[j]).1 = (l[i]).1) ∧ c = 6)
/-- What is wrong with flows that are to be carried. -/
def CaF (e : Int) (l : List Lh.Fl) (c : Nat) (pl : Int) : Prop :=
  ((e < 0 ∨ 1099511627776 < e ∨ 200 < l.length) ∧ c = 2 ∧ pl = -1) ∨
  ((0 ≤ e ∧ e ≤ 1099511627776 ∧ l.length ≤ 200) ∧ ∃ i, ∃ h : i < l.length, (∀ j, j < i → ∀ hj : j < l.length, GoodF l j hj) ∧ pl = i ∧ FlawF l i h c) ∨
  ((0 ≤ e ∧ e ≤ 1099511627776 ∧ l.length ≤ 200) ∧ (∀ j, ∀ hj : j < l.length, GoodF l j hj) ∧ c = 0 ∧ pl = -1)
theorem flaw_good {l : List Lh.Fl} {i : Nat} {h : i < l.length} {c : Nat} (hf : FlawF l i h c) : ¬ GoodF l i h := by
  rintro ⟨g1, g2, g3, g4⟩
  rcases hf with ⟨h1, _⟩ | ⟨_, h2, _⟩ | ⟨_, _, _, ⟨j, hj, h3, h4⟩, _⟩
  · rw [g1] at h1; cases h1
  · omega
  · exact g4 j hj h3 h4
theorem flaw_one {l : List Lh.Fl} {i : Nat} {h : i < l.length} {c c' : Nat} (hf : FlawF l i h c) (hf' : FlawF l i h c') : c = c' := by
  rcases hf with ⟨h1, e1⟩ | ⟨h1, h2, e1⟩ | ⟨h1, h2, h3, h4, e1⟩ <;> rcases hf' with ⟨g1, e2⟩ | ⟨g1, g2, e2⟩ | ⟨g1, g2, g3, g4, e2⟩ <;> first | omega | (rw [h1] at g1; cases g1)
theorem caF_one {e : Int} {l : List Lh.Fl} {c c' : Nat} {pl pl' : Int} (hf : CaF e l c pl) (hf' : CaF e l c' pl') : c = c' ∧ pl = pl' := by
  rcases hf with ⟨h1, e1, e2⟩ | ⟨h1, i, hi, h2, e2, h3⟩ | ⟨h1, h2, e1, e2⟩ <;> rcases hf' with ⟨g1, d1, d2⟩ | ⟨g1, k, hk, g2, d2, g3⟩ | ⟨g1, g2, d1, d2⟩
  · omega
  · omega
  · omega
  · omega
  · have : i = k := by
      rcases Nat.lt_trichotomy i k with h | h | h
      · exact absurd (g2 i h hi) (flaw_good h3)
      · exact h
      · exact absurd (h2 k h hk) (flaw_good g3)
    subst this
    exact ⟨flaw_one h3 g3, by omega⟩
  · exact absurd (g2 i hi) (flaw_good h3)
  · omega
  · exact absurd (h2 k hk) (flaw_good g3)
  · omega

end Go.Proofs.YtmdckddenelneaaGreatDoor

/- What is carried over: it comes back; what is cut off, and a byte that is turned, are seen. -/
namespace Go.Proofs.YtmdckddenelneaaGreatDoor
namespace Lh

theorem hexL_no (k n : Nat) {y : UInt8} (hy : y.toNat < 48) : y ∉ hexL k n := by
  induction k generalizing n with
  | zero => simp [hexL]
  | succ k ih =>
    show y ∉ hexL k (n / 16) ++ [hxU (n % 16)]
    rw [List.mem_append, not_or]
    refine ⟨ih _, fun h => ?_⟩
    have e : y = hxU (n % 16) := by simpa using h
    have := hxU_nat (Nat.mod_lt n (show 0 < 16 by decide))
    rw [← e] at this
    split at this <;> omega
/-- flows that may be carried: keys and ticks in bounds, hosts that are words -/
def WordF (l : List Fl) : Prop := ∀ x ∈ l, x.1 < 18446744073709551616 ∧ 0 ≤ x.2.2 ∧ x.2.2 < 100000000000000 ∧ x.2.1.data.toList ≠ [] ∧ (32 : UInt8) ∉ x.2.1.data.toList ∧ (10 : UInt8) ∉ x.2.1.data.toList
end Lh
end Go.Proofs.YtmdckddenelneaaGreatDoor

/- Texts of flows as lists: the body, line by line; how long. -/
namespace Go.Proofs.YtmdckddenelneaaGreatDoor
namespace Lh
def rowsB (l : List Fl) : List UInt8 := l.flatMap fun x => lineF x ++ [10]
theorem join_rows : ∀ (w : List UInt8) (l : List Fl), joinL 10 (w :: l.map lineF) ++ [10] = w ++ [10] ++ rowsB l
  | w, [] => by simp [joinL, rowsB]
  | w, x :: l => by
    have := join_rows (lineF x) l
    simp only [List.map_cons, rowsB, List.flatMap_cons] at this ⊢
    show w ++ 10 :: joinL 10 (lineF x :: l.map lineF) ++ [10] = _
    rw [List.append_assoc, List.cons_append, this]
    simp
theorem body_rows (e : Nat) (l : List Fl) : bodyL e l = headL e l.length ++ [10] ++ rowsB l := join_rows _ _
theorem rowsB_snoc (l : List Fl) (x : Fl) : rowsB (l ++ [x]) = rowsB l ++ (lineF x ++ [10]) := by simp [rowsB]
theorem rowsB_take {l : List Fl} {i : Nat} (h : i < l.length) : rowsB (l.take (i + 1)) = rowsB (l.take i) ++ (lineF l[i] ++ [10]) := by
  rw [List.take_succ_eq_append_getElem h, rowsB_snoc]
theorem lineF_len {x : Fl} (h1 : x.2.1.size ≤ 60) (h2 : x.2.2.toNat < 100000000000000) : (lineF x).length ≤ 92 := by
  have e1 := hexL_len 16 x.1
  have e2 := decL_len (n := x.2.2.toNat) (k := 14) (by decide) (by omega)
  have e3 : x.2.1.data.toList.length = x.2.1.size := rfl
  simp only [lineF, joinL, List.length_append, List.length_cons]
  omega
theorem rowsB_len : ∀ {l : List Fl}, (∀ x ∈ l, x.2.1.size ≤ 60 ∧ x.2.2.toNat < 100000000000000) → (rowsB l).length ≤ 93 * l.length
  | [], _ => by simp [rowsB]
  | x :: l, h => by
    have h1 := rowsB_len (l := l) fun y hy => h y (List.mem_cons_of_mem _ hy)
    have h2 := lineF_len (h x (List.mem_cons_self ..)).1 (h x (List.mem_cons_self ..)).2
    simp only [rowsB, List.flatMap_cons, List.length_append, List.length_cons, List.length_nil] at h1 ⊢
    omega
theorem headL_len {e n : Nat} (he : e < 100000000000000) (hn : n < 100000000000000) : (headL e n).length ≤ 35 := by
  have e1 := decL_len (n := e) (k := 14) (by decide) (by omega)
  have e2 := decL_len (n := n) (k := 14) (by decide) (by omega)
  simp only [headL, joinL, flowsW, List.length_append, List.length_cons, List.length_nil]
  omega
end Lh
end Go.Proofs.YtmdckddenelneaaGreatDoor
