/- Numbers in digits 0 to f: the library's own reading and writing, against the document's. -/
import Derived.Test.YtboigdpcahdidabGreatDoorMaM
import Derived.Lib.SplitLaws
import Derived.Lib.Split
import Derived.Lib.Join
import Derived.Lib.Repeat
import Derived.Lib.Strings
namespace Go.Proofs.YtboigdpcahdidabGreatDoor
namespace Lh
/-- a number's digits, as few as there are -/
def hexD (n : Nat) : List UInt8 := if _h : n < 16 then [hxU n] else hexD (n / 16) ++ [hxU (n % 16)]
  termination_by n
  decreasing_by omega
theorem hexD_small {n : Nat} (h : n < 16) : hexD n = [hxU n] := by
  rw [hexD, dif_pos h]
theorem hexD_big {n : Nat} (h : ¬ n < 16) : hexD n = hexD (n / 16) ++ [hxU (n % 16)] := by
  rw [hexD, dif_neg h]
theorem hexL_zero : ∀ k, hexL k 0 = List.replicate k 48
  | 0 => rfl
  | k + 1 => by
    show hexL k (0 / 16) ++ [hxU (0 % 16)] = _
    rw [show (0 : Nat) / 16 = 0 by decide, hexL_zero k, List.replicate_succ']
    rfl
/-- Filled with zeros it is the document's. -/
theorem hexD_fill : ∀ (k n : Nat), n < 16 ^ (k + 1) → (hexD n).length ≤ k + 1 ∧ List.replicate (k + 1 - (hexD n).length) 48 ++ hexD n = hexL (k + 1) n
  | k, n, h => by
    by_cases hs : n < 16
    · rw [hexD_small hs]
      refine ⟨by simp, ?_⟩
      show List.replicate (k + 1 - 1) 48 ++ [hxU n] = hexL k (n / 16) ++ [hxU (n % 16)]
      rw [Nat.div_eq_of_lt hs, Nat.mod_eq_of_lt hs, hexL_zero]
      rfl
    · match k, h with
      | 0, h => exact absurd (by simpa using h) hs
      | k + 1, h =>
        obtain ⟨i1, i2⟩ := hexD_fill k (n / 16) (by
          rw [Nat.pow_succ] at h
          exact Nat.div_lt_of_lt_mul (by rw [Nat.mul_comm]; exact h))
        rw [hexD_big hs]
        refine ⟨by simp; omega, ?_⟩
        show _ = hexL (k + 1) (n / 16) ++ [hxU (n % 16)]
        rw [← i2, List.length_append, List.length_singleton, show k + 1 + 1 - ((hexD (n / 16)).length + 1) = k + 1 - (hexD (n / 16)).length by omega, List.append_assoc]
theorem hexD_pos (n : Nat) : 0 < (hexD n).length := by
  rw [hexD]
  split <;> simp
/-- a digit, small or great -/
def hxA (c : UInt8) : Option Nat := if 48 ≤ c.toNat ∧ c.toNat ≤ 57 then some (c.toNat - 48) else if 97 ≤ (c ||| 32).toNat ∧ (c ||| 32).toNat ≤ 102 then some ((c ||| 32).toNat - 87) else none
def hexA (l : List UInt8) : Option Nat := l.foldl (fun n c => n.bind fun n => (hxA c).map fun d => 16 * n + d) (some 0)
theorem hexA_snoc (l : List UInt8) (c : UInt8) : hexA (l ++ [c]) = (hexA l).bind fun n => (hxA c).map fun d => 16 * n + d := by simp [hexA, List.foldl_append]
theorem hexA_take {l : List UInt8} {i : Nat} (h : i < l.length) {z d : Nat} (h1 : hexA (l.take i) = some z) (h2 : hxA l[i] = some d) : hexA (l.take (i + 1)) = some (16 * z + d) := by
  rw [List.take_succ_eq_append_getElem h, hexA_snoc, h1, h2]
  rfl
theorem foldA_none : ∀ l : List UInt8, l.foldl (fun n c => n.bind fun n => (hxA c).map fun d => 16 * n + d) none = none
  | [] => rfl
  | c :: l => by
    show l.foldl _ none = none
    exact foldA_none l
theorem hexA_bad {l : List UInt8} {i : Nat} (h : i < l.length) (h2 : hxA l[i] = none) : hexA l = none := by
  have e : l = l.take i ++ l[i] :: l.drop (i + 1) := by
    rw [← List.drop_eq_getElem_cons h, List.take_append_drop]
  rw [e]
  unfold hexA
  rw [List.foldl_append, List.foldl_cons, h2]
  have : ((l.take i).foldl (fun n c => n.bind fun n => (hxA c).map fun d => 16 * n + d) (some 0)).bind (fun n => (none : Option Nat).map fun d => 16 * n + d) = none := by
    cases (l.take i).foldl (fun n c => n.bind fun n => (hxA c).map fun d => 16 * n + d) (some 0) <;> rfl
  rw [this]
  exact foldA_none _
theorem hxA_lt {c : UInt8} {d : Nat} (h : hxA c = some d) : d < 16 := by
  unfold hxA at h
  split at h
  · cases h; omega
  · split at h
    · cases h; omega
    · cases h
theorem or_small : ∀ c : UInt8, 97 ≤ c.toNat → c.toNat ≤ 102 → c ||| 32 = c := by
  intro c h1 h2
  have : ∀ k : Fin 256, 97 ≤ k.1 → k.1 ≤ 102 → (UInt8.ofNat k.1) ||| 32 = UInt8.ofNat k.1 := by decide +kernel
  have h := this ⟨c.toNat, c.toNat_lt⟩ h1 h2
  simpa using h
theorem hxV_hxA {c : UInt8} {d : Nat} (h : hxV c = some d) : hxA c = some d := by
  unfold hxV at h
  unfold hxA
  split at h
  · rename_i h1
    rw [if_pos h1]
    exact h
  · rename_i h1
    split at h
    · rename_i h2
      rw [if_neg h1, or_small c h2.1 h2.2, if_pos h2]
      exact h
    · cases h
theorem fold_VA : ∀ (l : List UInt8) (z n : Nat), l.foldl (fun n c => n.bind fun n => (hxV c).map fun d => 16 * n + d) (some z) = some n → l.foldl (fun n c => n.bind fun n => (hxA c).map fun d => 16 * n + d) (some z) = some n
  | [], z, n, h => h
  | c :: l, z, n, h => by
    simp only [List.foldl_cons, Option.bind_some] at h ⊢
    cases hc : hxV c with
    | none =>
      rw [hc] at h
      have : l.foldl (fun n c => n.bind fun n => (hxV c).map fun d => 16 * n + d) none = none := by
        clear h hc
        induction l with
        | nil => rfl
        | cons c l ih => exact ih
      simp only [Option.map_none] at h
      rw [this] at h
      cases h
    | some d =>
      rw [hc] at h
      rw [hxV_hxA hc]
      exact fold_VA l _ n h
theorem hexV_hexA {l : List UInt8} {n : Nat} (h : hexV l = some n) : hexA l = some n := fold_VA l 0 n h
/-- A text of so many digits is the document's number just if it is written so. -/
theorem hexV_neq {l : List UInt8} (h : hexV l = none) {n : Nat} (hn : n < 16 ^ l.length) : hexL l.length n ≠ l := by
  intro e
  have := hexV_hexL l.length n hn
  rw [e, h] at this
  cases this
end Lh
end Go.Proofs.YtboigdpcahdidabGreatDoor

/- strings.Split at one byte, strings.Join of words, strings.Repeat of a zero: as lists. -/
namespace Go.Proofs.YtboigdpcahdidabGreatDoor
namespace Lh
theorem index_eq (y : UInt8) (r : List UInt8) : Lib.index (y :: r) [y] = 0 := by simp [Lib.index]
theorem index_ne {c y : UInt8} (h : c ≠ y) (r : List UInt8) : Lib.index (c :: r) [y] = if Lib.index r [y] == -1 then -1 else Lib.index r [y] + 1 := by
  have : ([y] : List UInt8).isPrefixOf (c :: r) = false := by simp [List.isPrefixOf]; exact fun e => h e.symm
  rw [Lib.index, this]
  rfl
theorem split_cut (y : UInt8) : ∀ s : List UInt8, Lib.splitK [y] 0 (Lib.count s [y]) s = cutL y s
  | [] => by
    rw [Lib.count_one]
    rfl
  | c :: r => by
    have ih := split_cut y r
    by_cases h : c = y
    · subst h
      rw [Lib.count_cons_eq, Nat.add_comm, Lib.splitK, index_eq, if_neg (by decide), cutL_cons, if_pos rfl]
      simp only [Int.toNat_zero, Nat.zero_add, List.take_zero, List.length_singleton, List.drop_succ_cons, List.drop_zero]
      rw [ih]
    · rw [Lib.count_cons_ne c y r h, cutL_cons, if_neg h]
      cases hk : Lib.count r [y] with
      | zero =>
        rw [hk] at ih
        rw [Lib.splitK] at ih ⊢
        rw [← ih]
      | succ k =>
        rw [hk] at ih
        rw [Lib.splitK] at ih ⊢
        by_cases hi : Lib.index r [y] = -1
        · rw [Lib.count_miss hi] at hk
          cases hk
        · have hb : ¬ (Lib.index r [y] == -1) = true := by simpa using hi
          have hge := Lib.index_ge r [y]
          obtain ⟨i, hii⟩ : ∃ i : Nat, Lib.index r [y] = i := ⟨(Lib.index r [y]).toNat, by omega⟩
          rw [if_neg hb] at ih
          rw [index_ne h, if_neg hb, if_neg (by rw [hii]; simp; omega), ← ih, hii]
          simp only [Nat.add_zero, List.length_singleton, Int.toNat_natCast]
          rw [show ((i : Int) + 1).toNat = i + 1 by omega, List.take_succ_cons, List.drop_succ_cons]
theorem splitB_cut (y : UInt8) (s : List UInt8) : Lib.splitB (bt [y]) 0 (Lib.countB (bt s) (bt [y])) (bt s) = (cutL y s).map bt := by
  have h := Lib.splitB_data (bt [y]) 0 (Lib.countB (bt s) (bt [y])) (bt s)
  have h2 : Lib.splitK (bt [y]).data.toList 0 (Lib.countB (bt s) (bt [y])) (bt s).data.toList = cutL y s := split_cut y s
  rw [h2] at h
  rw [← h, List.map_map]
  conv => lhs; rw [← List.map_id (Lib.splitB (bt [y]) 0 (Lib.countB (bt s) (bt [y])) (bt s))]
  exact List.map_congr_left fun b _ => (bt_eta b).symm
theorem count_cut (y : UInt8) (s : List UInt8) : Lib.countB (bt s) (bt [y]) + 1 = (cutL y s).length := by
  have h := Lib.splitB_all (bt [y]) (Nat.le_refl 1) 0 _ (bt s) rfl
  rw [splitB_cut, List.length_map] at h
  exact h.symm
theorem join_three (a b c : List UInt8) : Lib.join [a, b, c] [32] = joinL 32 [a, b, c] := by simp [Lib.join, List.intercalate, List.intersperse, joinL]
theorem join_two (a b : List UInt8) : Lib.join [a, b] [32] = joinL 32 [a, b] := by simp [Lib.join, List.intercalate, List.intersperse, joinL]
theorem repeat_zero : ∀ c, Lib.repeatL [48] c = List.replicate c 48
  | 0 => rfl
  | c + 1 => by
    rw [Lib.repeatL, repeat_zero c]
    rfl
end Lh
end Go.Proofs.YtboigdpcahdidabGreatDoor
