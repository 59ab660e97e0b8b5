/- Numbers in decimal digits: the library's own reading and writing, against the document's. -/
import Derived.Test.YtmdckddenelneaaGreatDoorM24
import Derived.Lib.AtoiAll
import Derived.Lib.ItoaNum
import Derived.Test.YtmdckddenelneaaGreatDoorM25
import Derived.Lib.SplitLaws
import Derived.Lib.Split
import Derived.Lib.Join
import Derived.Lib.Repeat
import Derived.Lib.Strings
import Derived.Test.YtmdckddenelneaaGreatDoorCaSh
import Derived.Test.YtmdckddenelneaaGreatDoorM3
import Derived.Lib.AppendIntMem
import Derived.Lib.AtoiErrMem
namespace Go.Proofs.YtmdckddenelneaaGreatDoor
namespace Lh
theorem decL_lib (n : Nat) : Lib.decDigits n = decL n := by
  induction n using Nat.strongRecOn with
  | ind n ih =>
    rw [Lib.decDigits]
    by_cases h : n < 10
    · rw [dif_pos h, decL_small h]
      rfl
    · rw [dif_neg h, decL_big h, ih (n / 10) (by omega)]
      rfl
theorem itoa_dec (n : Nat) : Lib.itoa (n : Int) = decL n := by
  unfold Lib.itoa
  rw [if_neg (by omega), decL_lib]
  rfl
theorem valL_fold (l : List UInt8) (z : Nat) : l.foldl (fun n c => 10 * n + (c.toNat - 48)) z = z * 10 ^ l.length + valL l := by
  induction l generalizing z with
  | nil => simp [valL]
  | cons c l ih =>
    show l.foldl _ (10 * z + (c.toNat - 48)) = z * 10 ^ (l.length + 1) + l.foldl _ (10 * 0 + (c.toNat - 48))
    rw [ih, ih (10 * 0 + (c.toNat - 48)), Nat.pow_succ]
    simp only [Nat.mul_zero, Nat.zero_add, Nat.add_mul]
    have : 10 * z * 10 ^ l.length = z * (10 ^ l.length * 10) := by
      rw [Nat.mul_comm 10 z, Nat.mul_assoc, Nat.mul_comm 10]
    omega
theorem valL_lt10 {l : List UInt8} (h : l.all isDg = true) : valL l < 10 ^ l.length := by
  induction l with
  | nil => simp [valL]
  | cons c l ih =>
    simp only [List.all_cons, Bool.and_eq_true] at h
    have h1 := ih h.2
    have h2 : c.toNat ≤ 57 := by have := h.1; simp only [isDg, Bool.and_eq_true, decide_eq_true_eq] at this; omega
    show l.foldl (fun n c => 10 * n + (c.toNat - 48)) (10 * 0 + (c.toNat - 48)) < 10 ^ (l.length + 1)
    rw [valL_fold, Nat.pow_succ]
    have h3 : (10 * 0 + (c.toNat - 48)) * 10 ^ l.length ≤ 9 * 10 ^ l.length := Nat.mul_le_mul_right _ (by omega)
    omega
theorem parse_digits : ∀ (l : List UInt8) (z : Nat), l.all isDg = true → (z + 1) * 10 ^ l.length ≤ 10 ^ 18 → Lib.parseUint10 z l = .ok (l.foldl (fun n c => 10 * n + (c.toNat - 48)) z)
  | [], z, _, _ => rfl
  | c :: l, z, h, hz => by
    simp only [List.all_cons, Bool.and_eq_true] at h
    have hc := h.1
    simp only [isDg, Bool.and_eq_true, decide_eq_true_eq] at hc
    have hp : 0 < 10 ^ l.length := Nat.pow_pos (by decide)
    have e1 : (z + 1) * 10 ^ (l.length + 1) = ((z + 1) * 10) * 10 ^ l.length := by rw [Nat.pow_succ, Nat.mul_assoc, Nat.mul_comm 10]
    rw [List.length_cons, e1] at hz
    have h2 : (z * 10 + (c.toNat - 48) + 1) * 10 ^ l.length ≤ 10 ^ 18 := Nat.le_trans (Nat.mul_le_mul_right _ (by omega)) hz
    have h3 : (z + 1) * 10 ≤ 10 ^ 18 := Nat.le_trans (Nat.le_mul_of_pos_right _ hp) hz
    rw [Lib.parseUint10, if_pos hc, if_neg (by omega), if_neg (by omega), parse_digits l _ h.2 h2]
    show _ = Lib.NumEnd.ok (l.foldl _ (10 * z + (c.toNat - 48)))
    rw [Nat.mul_comm z 10]
theorem dig_head {c : UInt8} (h : isDg c = true) : c.toNat ≠ 43 ∧ c.toNat ≠ 45 := by
  simp only [isDg, Bool.and_eq_true, decide_eq_true_eq] at h
  omega
/-- What the document calls a number is read as that. -/
theorem atoi_num {l : List UInt8} {n : Nat} (h : numL l = some n) : Lib.atoiAll l = .ok (n : Int) ∧ l.length ≤ 14 ∧ Lib.itoa (n : Int) = l ∧ n < 10 ^ 14 := by
  have hi := numL_inv h
  unfold numL at h
  split at h
  · cases h
  · rename_i hn
    simp only [not_or, Nat.not_lt, Bool.not_eq_false] at hn
    obtain ⟨h1, h2, _, h4⟩ := hn
    cases h
    have hlt := valL_lt10 h4
    have h14 : valL l < 10 ^ 14 := Nat.lt_of_lt_of_le hlt (Nat.pow_le_pow_right (by decide) h2)
    refine ⟨?_, h2, by rw [itoa_dec]; exact hi, h14⟩
    match l, h1, h4 with
    | c :: r, _, h4 =>
      have hc : isDg c = true := by simp only [List.all_cons, Bool.and_eq_true] at h4; exact h4.1
      obtain ⟨d1, d2⟩ := dig_head hc
      have hp := parse_digits (c :: r) 0 h4 (by
        have : 10 ^ (c :: r).length ≤ 10 ^ 14 := Nat.pow_le_pow_right (by decide) h2
        omega)
      have hv : (c :: r).foldl (fun n c => 10 * n + (c.toNat - 48)) 0 = valL (c :: r) := rfl
      rw [hv] at hp
      generalize valL (c :: r) = v at *
      unfold Lib.atoiAll
      simp only [d1, d2, or_self, if_false, Lib.parseMag, List.cons_ne_nil, hp, not_false_eq_true, true_and, false_and]
      rw [if_neg (by omega)]
/-- And no other text is. -/
theorem atoi_none {l : List UInt8} (h : numL l = none) {v : Int} (hv : 0 ≤ v) (h14 : l.length ≤ 14) : Lib.itoa v ≠ l := by
  intro e
  obtain ⟨n, rfl⟩ := Int.eq_ofNat_of_zero_le hv
  rw [itoa_dec] at e
  have hn : n < 10 ^ 14 := by
    have h1 := valL_lt10 (decL_dig n)
    rw [decL_val] at h1
    exact Nat.lt_of_lt_of_le h1 (Nat.pow_le_pow_right (by decide) (by rw [e]; exact h14))
  rw [← e, numL_dec hn] at h
  cases h
end Lh
end Go.Proofs.YtmdckddenelneaaGreatDoor

/- Numbers in digits 0 to f: the library's own reading and writing, against the document's. -/
namespace Go.Proofs.YtmdckddenelneaaGreatDoor
namespace Lh
/-- a number's digits, as few as there are -/
def hexD (n : Nat) : List UInt8 := if _h : n < 16 then [hxU n] else hexD (n / 16) ++ [hxU (n % 16)]
  termination_by n
  decreasing_by omega
theorem hexD_small {n : Nat} (h : n < 16) : hexD n = [hxU n] := by
  rw [hexD, dif_pos h]
theorem hexD_big {n : Nat} (h : ¬ n < 16) : hexD n = hexD (n / 16) ++ [hxU (n % 16)] := by
  rw [hexD, dif_neg h]
theorem hexL_zero : ∀ k, hexL k 0 = List.replicate k 48
  | 0 => rfl
  | k + 1 => by
    show hexL k (0 / 16) ++ [hxU (0 % 16)] = _
    rw [show (0 : Nat) / 16 = 0 by decide, hexL_zero k, List.replicate_succ']
    rfl
/-- Filled with zeros it is the document's. -/
theorem hexD_fill : ∀ (k n : Nat), n < 16 ^ (k + 1) → (hexD n).length ≤ k + 1 ∧ List.replicate (k + 1 - (hexD n).length) 48 ++ hexD n = hexL (k + 1) n
  | k, n, h => by
    by_cases hs : n < 16
    · rw [hexD_small hs]
      refine ⟨by simp, ?_⟩
      show List.replicate (k + 1 - 1) 48 ++ [hxU n] = hexL k (n / 16) ++ [hxU (n % 16)]
      rw [Nat.div_eq_of_lt hs, Nat.mod_eq_of_lt hs, hexL_zero]
      rfl
    · match k, h with
      | 0, h => exact absurd (by simpa using h) hs
      | k + 1, h =>
        obtain ⟨i1, i2⟩ := hexD_fill k (n / 16) (by
          rw [Nat.pow_succ] at h
          exact Nat.div_lt_of_lt_mul (by rw [Nat.mul_comm]; exact h))
        rw [hexD_big hs]
        refine ⟨by simp; omega, ?_⟩
        show _ = hexL (k + 1) (n / 16) ++ [hxU (n % 16)]
        rw [← i2, List.length_append, List.length_singleton, show k + 1 + 1 - ((hexD (n / 16)).length + 1) = k + 1 - (hexD (n / 16)).length by omega, List.append_assoc]
theorem hexD_pos (n : Nat) : 0 < (hexD n).length := by
  rw [hexD]
  split <;> simp
/-- a digit, small or great -/
def hxA (c : UInt8) : Option Nat := if 48 ≤ c.toNat ∧ c.toNat ≤ 57 then some (c.toNat - 48) else if 97 ≤ (c ||| 32).toNat ∧ (c ||| 32).toNat ≤ 102 then some ((c ||| 32).toNat - 87) else none
def hexA (l : List UInt8) : Option Nat := l.foldl (fun n c => n.bind fun n => (hxA c).map fun d => 16 * n + d) (some 0)
theorem hexA_snoc (l : List UInt8) (c : UInt8) : hexA (l ++ [c]) = (hexA l).bind fun n => (hxA c).map fun d => 16 * n + d := by simp [hexA, List.foldl_append]
theorem hexA_take {l : List UInt8} {i : Nat} (h : i < l.length) {z d : Nat} (h1 : hexA (l.take i) = some z) (h2 : hxA l[i] = some d) : hexA (l.take (i + 1)) = some (16 * z + d) := by
  rw [List.take_succ_eq_append_getElem h, hexA_snoc, h1, h2]
  rfl
theorem foldA_none : ∀ l : List UInt8, l.foldl (fun n c => n.bind fun n => (hxA c).map fun d => 16 * n + d) none = none
  | [] => rfl
  | c :: l => by
    show l.foldl _ none = none
    exact foldA_none l
theorem hexA_bad {l : List UInt8} {i : Nat} (h : i < l.length) (h2 : hxA l[i] = none) : hexA l = none := by
  have e : l = l.take i ++ l[i] :: l.drop (i + 1) := by
    rw [← List.drop_eq_getElem_cons h, List.take_append_drop]
  rw [e]
  unfold hexA
  rw [List.foldl_append, List.foldl_cons, h2]
  have : ((l.take i).foldl (fun n c => n.bind fun n => (hxA c).map fun d => 16 * n + d) (some 0)).bind (fun n => (none : Option Nat).map fun d => 16 * n + d) = none := by
    cases (l.take i).foldl (fun n c => n.bind fun n => (hxA c).map fun d => 16 * n + d) (some 0) <;> rfl
  rw [this]
  exact foldA_none _
theorem hxA_lt {c : UInt8} {d : Nat} (h : hxA c = some d) : d < 16 := by
  unfold hxA at h
  split at h
  · cases h; omega
  · split at h
    · cases h; omega
    · cases h
theorem or_small : ∀ c : UInt8, 97 ≤ c.toNat → c.toNat ≤ 102 → c ||| 32 = c := by
  intro c h1 h2
  have : ∀ k : Fin 256, 97 ≤ k.1 → k.1 ≤ 102 → (UInt8.ofNat k.1) ||| 32 = UInt8.ofNat k.1 := by decide +kernel
  have h := this ⟨c.toNat, c.toNat_lt⟩ h1 h2
  simpa using h
theorem hxV_hxA {c : UInt8} {d : Nat} (h : hxV c = some d) : hxA c = some d := by
  unfold hxV at h
  unfold hxA
  split at h
  · rename_i h1
    rw [if_pos h1]
    exact h
  · rename_i h1
    split at h
    · rename_i h2
      rw [if_neg h1, or_small c h2.1 h2.2, if_pos h2]
      exact h
    · cases h
theorem fold_VA : ∀ (l : List UInt8) (z n : Nat), l.foldl (fun n c => n.bind fun n => (hxV c).map fun d => 16 * n + d) (some z) = some n → l.foldl (fun n c => n.bind fun n => (hxA c).map fun d => 16 * n + d) (some z) = some n
  | [], z, n, h => h
  | c :: l, z, n, h => by
    simp only [List.foldl_cons, Option.bind_some] at h ⊢
    cases hc : hxV c with
    | none =>
      rw [hc] at h
      have : l.foldl (fun n c => n.bind fun n => (hxV c).map fun d => 16 * n + d) none = none := by
        clear h hc
        induction l with
        | nil => rfl
        | cons c l ih => exact ih
      simp only [Option.map_none] at h
      rw [this] at h
      cases h
    | some d =>
      rw [hc] at h
      rw [hxV_hxA hc]
      exact fold_VA l _ n h
theorem hexV_hexA {l : List UInt8} {n : Nat} (h : hexV l = some n) : hexA l = some n := fold_VA l 0 n h
/-- A text of so many digits is the document's number just if it is written so. -/
theorem hexV_neq {l : List UInt8} (h : hexV l = none) {n : Nat} (hn : n < 16 ^ l.length) : hexL l.length n ≠ l := by
  intro e
  have := hexV_hexL l.length n hn
  rw [e, h] at this
  cases this
end Lh
end Go.Proofs.YtmdckddenelneaaGreatDoor

/- strings.Split at one byte, strings.Join of words, strings.Repeat of a zero: as lists. -/
namespace Go.Proofs.YtmdckddenelneaaGreatDoor
namespace Lh
theorem index_eq (y : UInt8) (r : List UInt8) : Lib.index (y :: r) [y] = 0 := by simp [Lib.index]
theorem index_ne {c y : UInt8} (h : c ≠ y) (r : List UInt8) : Lib.index (c :: r) [y] = if Lib.index r [y] == -1 then -1 else Lib.index r [y] + 1 := by
  have : ([y] : List UInt8).isPrefixOf (c :: r) = false := by simp [List.isPrefixOf]; exact fun e => h e.symm
  rw [Lib.index, this]
  rfl
theorem split_cut (y : UInt8) : ∀ s : List UInt8, Lib.splitK [y] 0 (Lib.count s [y]) s = cutL y s
  | [] => by
    rw [Lib.count_one]
    rfl
  | c :: r => by
    have ih := split_cut y r
    by_cases h : c = y
    · subst h
      rw [Lib.count_cons_eq, Nat.add_comm, Lib.splitK, index_eq, if_neg (by decide), cutL_cons, if_pos rfl]
      simp only [Int.toNat_zero, Nat.zero_add, List.take_zero, List.length_singleton, List.drop_succ_cons, List.drop_zero]
      rw [ih]
    · rw [Lib.count_cons_ne c y r h, cutL_cons, if_neg h]
      cases hk : Lib.count r [y] with
      | zero =>
        rw [hk] at ih
        rw [Lib.splitK] at ih ⊢
        rw [← ih]
      | succ k =>
        rw [hk] at ih
        rw [Lib.splitK] at ih ⊢
        by_cases hi : Lib.index r [y] = -1
        · rw [Lib.count_miss hi] at hk
          cases hk
        · have hb : ¬ (Lib.index r [y] == -1) = true := by simpa using hi
          have hge := Lib.index_ge r [y]
          obtain ⟨i, hii⟩ : ∃ i : Nat, Lib.index r [y] = i := ⟨(Lib.index r [y]).toNat, by omega⟩
          rw [if_neg hb] at ih
          rw [index_ne h, if_neg hb, if_neg (by rw [hii]; simp; omega), ← ih, hii]
          simp only [Nat.add_zero, List.length_singleton, Int.toNat_natCast]
          rw [show ((i : Int) + 1).toNat = i + 1 by omega, List.take_succ_cons, List.drop_succ_cons]
theorem splitB_cut (y : UInt8) (s : List UInt8) : Lib.splitB (bt [y]) 0 (Lib.countB (bt s) (bt [y])) (bt s) = (cutL y s).map bt := by
  have h := Lib.splitB_data (bt [y]) 0 (Lib.countB (bt s) (bt [y])) (bt s)
  have h2 : Lib.splitK (bt [y]).data.toList 0 (Lib.countB (bt s) (bt [y])) (bt s).data.toList = cutL y s := split_cut y s
  rw [h2] at h
  rw [← h, List.map_map]
  conv => lhs; rw [← List.map_id (Lib.splitB (bt [y]) 0 (Lib.countB (bt s) (bt [y])) (bt s))]
  exact List.map_congr_left fun b _ => (bt_eta b).symm
theorem count_cut (y : UInt8) (s : List UInt8) : Lib.countB (bt s) (bt [y]) + 1 = (cutL y s).length := by
  have h := Lib.splitB_all (bt [y]) (Nat.le_refl 1) 0 _ (bt s) rfl
  rw [splitB_cut, List.length_map] at h
  exact h.symm
theorem join_three (a b c : List UInt8) : Lib.join [a, b, c] [32] = joinL 32 [a, b, c] := by simp [Lib.join, List.intercalate, List.intersperse, joinL]
theorem join_two (a b : List UInt8) : Lib.join [a, b] [32] = joinL 32 [a, b] := by simp [Lib.join, List.intercalate, List.intersperse, joinL]
theorem repeat_zero : ∀ c, Lib.repeatL [48] c = List.replicate c 48
  | 0 => rfl
  | c + 1 => by
    rw [Lib.repeatL, repeat_zero c]
    rfl
end Lh
end Go.Proofs.YtmdckddenelneaaGreatDoor

/- What the landed carry asks of the package variables, and what the library's functions do there: words joined, a text parted, a zero many times, numbers read and written. -/
namespace Go.Proofs.YtmdckddenelneaaGreatDoor
open Go.RowKit

theorem heap_newC (w : World) (o : Obj) : (w.alloc o).heap[w.heap.size]? = some o := by
  unfold World.alloc
  simp
structure EC (a : Nat → Addr) (W : World) : Prop where
  s0 : W.cell? ⟨2, 0, none⟩ = some (.iface 331 (.pointer (some (a 0))))
  s1 : W.cell? ⟨0, 0, none⟩ = some (.iface 331 (.pointer (some (a 1))))
  s3 : W.cell? ⟨4, 0, none⟩ = some (.iface 331 (.pointer (some (a 3))))
  s5 : W.cell? ⟨5, 0, none⟩ = some (.iface 331 (.pointer (some (a 5))))
  s8 : W.cell? ⟨8, 0, none⟩ = some (.iface 331 (.pointer (some (a 8))))
  syn : ∃ te pe, W.cell? ⟨12, 0, none⟩ = some (.iface te pe)
  rng : ∃ te pe, W.cell? ⟨13, 0, none⟩ = some (.iface te pe)
  tab : Lib.TabIs Tryz.prog W "internal/strconv.uint64pow10" .u64 Lib.pow10Tab
  brj : W.cell? ⟨15, 15, none⟩ = some (.int .u8 4)
  mln : ∃ m, W.cell? ⟨11, 0, none⟩ = some (.int .i64 m)
theorem EC.later {a : Nat → Addr} {W W' : World} (h : EC a W) (hb : Below W.heap.size W W') : EC a W' where
  s0 := below_cell hb h.s0
  s1 := below_cell hb h.s1
  s3 := below_cell hb h.s3
  s5 := below_cell hb h.s5
  s8 := below_cell hb h.s8
  syn := let ⟨te, pe, e⟩ := h.syn; ⟨te, pe, below_cell hb e⟩
  rng := let ⟨te, pe, e⟩ := h.rng; ⟨te, pe, below_cell hb e⟩
  tab := Lib.tabBelow_of_tabIs h.tab W' hb
  brj := below_cell hb h.brj
  mln := let ⟨m, e⟩ := h.mln; ⟨m, below_cell hb e⟩

theorem join3_any (b c : Nat) (x y z : List UInt8) (w : World) (h0 : w.cell? ⟨b, 0, none⟩ = some (.string (Lh.bt x))) (h1 : w.cell? ⟨b, 1, none⟩ = some (.string (Lh.bt y))) (h2 : w.cell? ⟨b, 2, none⟩ = some (.string (Lh.bt z))) (hb : b < w.heap.size) (hc : 3 ≤ c) (hl : (Lh.joinL 32 [x, y, z]).length ≤ 1000000) :
    Calls Tryz.prog 202 #[.slice (some ⟨b, 0, none⟩) 3 c, .string (Lh.bt [32])] w fun e w' => e = .returned (.string (Lh.bt (Lh.joinL 32 [x, y, z]))) ∧ Below w.heap.size w w' := by
  have e : Lib.join ([Lh.bt x, Lh.bt y, Lh.bt z].map (·.data.toList)) (Lh.bt [32]).data.toList = Lh.joinL 32 [x, y, z] := Lh.join_three x y z
  have h := Any.strings_Join lays156 Builder_Extra_156 b 0 c [Lh.bt x, Lh.bt y, Lh.bt z] (Lh.bt [32]) w (fun j s hj => by
    match j, hj with
    | 0, hj => cases hj; exact h0
    | 1, hj => cases hj; exact h1
    | 2, hj => cases hj; exact h2) hb (by simp) hc (by rw [e]; omega)
  rw [e] at h
  exact h
theorem join2_any (b c : Nat) (x y : List UInt8) (w : World) (h0 : w.cell? ⟨b, 0, none⟩ = some (.string (Lh.bt x))) (h1 : w.cell? ⟨b, 1, none⟩ = some (.string (Lh.bt y))) (hb : b < w.heap.size) (hc : 2 ≤ c) (hl : (Lh.joinL 32 [x, y]).length ≤ 1000000) :
    Calls Tryz.prog 202 #[.slice (some ⟨b, 0, none⟩) 2 c, .string (Lh.bt [32])] w fun e w' => e = .returned (.string (Lh.bt (Lh.joinL 32 [x, y]))) ∧ Below w.heap.size w w' := by
  have e : Lib.join ([Lh.bt x, Lh.bt y].map (·.data.toList)) (Lh.bt [32]).data.toList = Lh.joinL 32 [x, y] := Lh.join_two x y
  have h := Any.strings_Join lays156 Builder_Extra_156 b 0 c [Lh.bt x, Lh.bt y] (Lh.bt [32]) w (fun j s hj => by
    match j, hj with
    | 0, hj => cases hj; exact h0
    | 1, hj => cases hj; exact h1) hb (by simp) hc (by rw [e]; omega)
  rw [e] at h
  exact h
theorem itoa_any {a : Nat → Addr} (n : Nat) (hn : n ≤ 9223372036854775807) (w : World) (he : EC a w) :
    Calls Tryz.prog 184 #[.int .i64 (n : Nat)] w fun e w' => e = .returned (.string (Lh.bt (Lh.decL n))) ∧ Below w.heap.size w w' := by
  refine (Any.strconv_Itoa laysM171 (n : Int) (by omega) (by omega) w he.tab).mono ?_
  rintro e w' ⟨rfl, k, os, rfl⟩
  exact ⟨by rw [Lh.itoa_dec]; rfl, Lib.below_grow _ w (Nat.le_refl _) k os⟩
theorem atoi_any {a : Nat → Addr} (s : List UInt8) (hs : s.length ≤ 100000) (w : World) (he : EC a w) :
    Calls Tryz.prog 242 #[.string (Lh.bt s)] w fun e w' => Below w.heap.size w w' ∧ ((∃ v, Lib.atoiAll s = .ok v ∧ e = .returned (.tuple #[.int .i64 v, .nilIface])) ∨ ((∀ v, Lib.atoiAll s ≠ .ok v) ∧ ∃ x t p, e = .returned (.tuple #[.int .i64 x, .iface t p]))) := by
  have hsz : (Lh.bt s).size = s.length := by simp [Lh.bt, ByteArray.size]
  cases h : Lib.atoiAll s with
  | ok v =>
    refine (Any.strconv_Atoi_ok laysC172 (Lh.bt s) (by omega) v h w).mono ?_
    rintro e w' ⟨rfl, rfl | ⟨t, rfl⟩⟩
    · exact ⟨Below.refl _ _, Or.inl ⟨v, rfl, rfl⟩⟩
    · exact ⟨Lib.bytesWorld_below w _ t, Or.inl ⟨v, rfl, rfl⟩⟩
  | «syntax» =>
    obtain ⟨te, pe, hv⟩ := he.syn
    refine (Any.strconv_Atoi_syntax laysC172 (Lh.bt s) (by omega) h _ w hv (Or.inr ⟨te, pe, rfl⟩)).mono ?_
    rintro e w' ⟨N, rfl, _, _, hb⟩
    exact ⟨hb, Or.inr ⟨fun v e => (by cases e), _, _, _, rfl⟩⟩
  | range =>
    obtain ⟨te, pe, hv⟩ := he.rng
    refine (Any.strconv_Atoi_range laysC172 (Lh.bt s) (by omega) h _ w hv (Or.inr ⟨te, pe, rfl⟩)).mono ?_
    rintro e w' ⟨N, rfl, _, _, hb⟩
    exact ⟨hb, Or.inr ⟨fun v e => (by cases e), _, _, _, rfl⟩⟩
theorem split_any {a : Nat → Addr} (s : List UInt8) (y : UInt8) (hs : s.length ≤ 100000) (w : World) (he : EC a w) :
    Calls Tryz.prog 210 #[.string (Lh.bt s), .string (Lh.bt [y])] w fun e w' => e = .returned (.slice (some ⟨w.heap.size, 0, none⟩) (Lh.cutL y s).length (Lh.cutL y s).length) ∧ Below w.heap.size w w' ∧ w.heap.size < w'.heap.size ∧
      ∀ j (hj : j < (Lh.cutL y s).length), w'.cell? ⟨w.heap.size, j, none⟩ = some (.string (Lh.bt (Lh.cutL y s)[j])) := by
  have hsz : (Lh.bt s).size = s.length := by simp [Lh.bt, ByteArray.size]
  obtain ⟨m, hm⟩ := he.mln
  refine (Any.strings_Split lays146 (by kernel_rfl) (Lh.bt s) (Lh.bt [y]) m w (by omega) hm (Nat.le_refl 1)).mono ?_
  rintro e w' ⟨rfl, rfl⟩
  rw [Lh.splitB_cut, Lh.count_cut]
  refine ⟨rfl, (Below.refl _ _).alloc (Nat.le_refl _) _, by simp, fun j hj => ?_⟩
  rw [Lib.cell_of_heap (heap_newC w _)]
  simp [hj]
theorem repeat_any (c : Nat) (hc : c ≤ 1000) (w : World) :
    Calls Tryz.prog 206 #[.string (Lh.bt [48]), .int .i64 (c : Nat)] w fun e w' => e = .returned (.string (Lh.bt (List.replicate c 48))) ∧ Below w.heap.size w w' := by
  refine (Any.strings_Repeat lays105 Builder_Extra_105 (Lh.bt [48]) c w (by omega) (by
    have : (Lh.bt [48]).size = 1 := rfl
    rw [this]
    omega)).mono ?_
  rintro e w' ⟨rfl, hb⟩
  refine ⟨?_, hb⟩
  rw [← Lh.repeat_zero]
  rfl
theorem cutPre_any (s p : List UInt8) (w : World) :
    Calls Tryz.prog 207 #[.string (Lh.bt s), .string (Lh.bt p)] w fun e w' => e = .returned (.tuple #[.string (Lh.bt (if p.isPrefixOf s then s.drop p.length else s)), .bool (p.isPrefixOf s)]) ∧ w' = w := Any.strings_CutPrefix lays103 (Lh.bt s) (Lh.bt p) w
theorem cutSuf_any (s p : List UInt8) (hs : s.length ≤ 100000) (w : World) :
    Calls Tryz.prog 208 #[.string (Lh.bt s), .string (Lh.bt p)] w fun e w' => e = .returned (.tuple #[.string (Lh.bt (if p.isSuffixOf s then s.take (s.length - p.length) else s)), .bool (p.isSuffixOf s)]) ∧ w' = w :=
  Any.strings_CutSuffix lays104 (Lh.bt s) (Lh.bt p) w (by
    have hsz : (Lh.bt s).size = s.length := by simp [Lh.bt, ByteArray.size]
    omega)
theorem toErr_any {a : Nat → Addr} (fn s : ByteArray) (hs : s.size ≤ 100000) (p q : Int) (w : World) (he : EC a w) :
    Calls Tryz.prog 238 #[.string fn, .string s, .int .i64 p, .int .i64 q, .iface 316 (.int .i64 2)] w fun e w' => (∃ t p, e = .returned (.iface t p)) ∧ Below w.heap.size w w' := by
  obtain ⟨te, pe, hv⟩ := he.syn
  refine (Any.strconv_toError_syntax laysC245 fn s p q _ w (by omega) hv (Or.inr ⟨te, pe, rfl⟩)).mono ?_
  rintro e w' ⟨N, rfl, _, _, hb⟩
  exact ⟨⟨_, _, rfl⟩, hb⟩
end Go.Proofs.YtmdckddenelneaaGreatDoor
