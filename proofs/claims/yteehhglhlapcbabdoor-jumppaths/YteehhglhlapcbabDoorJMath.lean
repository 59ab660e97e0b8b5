/- Jumps as numbers: the key and the bucket behind so many jumps, how many there are, and what a path is. -/
namespace Go.Proofs.YteehhglhlapcbabDoor
namespace Lh

/-- the next key -/
def jk (k : Nat) : Nat := (k * 2862933555777941757 + 1) % 18446744073709551616
/-- the next bucket -/
def jn (k b : Nat) : Nat := (b + 1) * 2147483648 / (k / 8589934592 + 1)
/-- the key and the bucket behind t jumps -/
def jst (k : Nat) : Nat → Nat × Nat
  | 0 => (k, 0)
  | t + 1 => (jk (jst k t).1, jn (jk (jst k t).1) (jst k t).2)
def jky (k t : Nat) : Nat := (jst k t).1
def jat (k t : Nat) : Nat := (jst k t).2
theorem jky_zero (k : Nat) : jky k 0 = k := rfl
theorem jat_zero (k : Nat) : jat k 0 = 0 := rfl
theorem jky_succ (k t : Nat) : jky k (t + 1) = jk (jky k t) := rfl
theorem jat_succ (k t : Nat) : jat k (t + 1) = jn (jky k (t + 1)) (jat k t) := rfl
theorem jk_lt (k : Nat) : jk k < 18446744073709551616 := Nat.mod_lt _ (by decide)
theorem jky_lt (k t : Nat) (h : k < 18446744073709551616) : jky k t < 18446744073709551616 := by
  cases t with
  | zero => exact h
  | succ t => rw [jky_succ]; exact jk_lt _
theorem jn_rise (k b : Nat) (h : k < 18446744073709551616) : b + 1 ≤ jn k b := by
  unfold jn
  have h1 : k / 8589934592 < 2147483648 := Nat.div_lt_of_lt_mul (by omega)
  rw [Nat.le_div_iff_mul_le (by omega)]
  exact Nat.mul_le_mul_left _ (by omega)
theorem jat_rise (k t : Nat) : jat k t + 1 ≤ jat k (t + 1) := by
  rw [jat_succ, jky_succ]
  exact jn_rise _ _ (jk_lt _)
theorem jat_less (k s : Nat) : ∀ t, s < t → jat k s < jat k t
  | 0, h => absurd h (by omega)
  | t + 1, h => by
    have h1 := jat_rise k t
    by_cases e : s = t
    · subst e; omega
    · have := jat_less k s t (by omega)
      omega
theorem jat_ge (k : Nat) : ∀ t, t ≤ jat k t
  | 0 => Nat.zero_le _
  | t + 1 => by
    have h1 := jat_rise k t
    have := jat_ge k t
    omega
/-- how many jumps stay below n -/
def jlen (k : Nat) : Nat → Nat
  | 0 => 0
  | n + 1 => if jat k (jlen k n) = n then jlen k n + 1 else jlen k n
theorem jlen_spec (k : Nat) : ∀ n, (∀ t, t < jlen k n → jat k t < n) ∧ n ≤ jat k (jlen k n)
  | 0 => ⟨fun t h => absurd h (by simp [jlen]), Nat.zero_le _⟩
  | n + 1 => by
    obtain ⟨h1, h2⟩ := jlen_spec k n
    unfold jlen
    by_cases e : jat k (jlen k n) = n
    · rw [if_pos e]
      refine ⟨fun t ht => ?_, ?_⟩
      · by_cases et : t = jlen k n
        · rw [et, e]; omega
        · have := h1 t (by omega)
          omega
      · have := jat_rise k (jlen k n)
        omega
    · rw [if_neg e]
      refine ⟨fun t ht => ?_, by omega⟩
      have := h1 t ht
      omega
theorem jlen_below {k n t : Nat} : t < jlen k n ↔ jat k t < n := by
  obtain ⟨h1, h2⟩ := jlen_spec k n
  refine ⟨h1 t, fun h => ?_⟩
  by_cases e : t < jlen k n
  · exact e
  · by_cases e2 : jlen k n = t
    · rw [e2] at h2; omega
    · have := jat_less k (jlen k n) t (by omega)
      omega
theorem jlen_le (k n : Nat) : jlen k n ≤ n := by
  by_cases h : n < jlen k n
  · have h1 := jlen_below.1 h
    have := jat_ge k n
    omega
  · omega
theorem jlen_pos {k n : Nat} (h : 1 ≤ n) : 0 < jlen k n := jlen_below.2 (by rw [jat_zero]; omega)
theorem jlen_one (k : Nat) : jlen k 1 = 1 := by
  have h1 := jlen_le k 1
  have h2 := jlen_pos (k := k) (n := 1) (Nat.le_refl _)
  omega
theorem jlen_eq {k n m : Nat} (h1 : ∀ t, t < m → jat k t < n) (h2 : n ≤ jat k m) : m = jlen k n := by
  have a : ¬ m < jlen k n := fun h => by have := jlen_below.1 h; omega
  have b : ¬ jlen k n < m := fun h => by
    have h3 := h1 _ h
    have h4 := jlen_below.2 h3
    omega
  omega
theorem jlen_step (k n : Nat) : (jlen k (n + 1) = jlen k n ∧ n + 1 ≤ jat k (jlen k n)) ∨ (jlen k (n + 1) = jlen k n + 1 ∧ jat k (jlen k n) = n) := by
  obtain ⟨_, h2⟩ := jlen_spec k n
  rw [jlen]
  by_cases e : jat k (jlen k n) = n
  · rw [if_pos e]; exact Or.inr ⟨rfl, e⟩
  · rw [if_neg e]; exact Or.inl ⟨rfl, by omega⟩
theorem jlen_mono {k m n : Nat} (h : m ≤ n) : jlen k m ≤ jlen k n := by
  by_cases e : jlen k n < jlen k m
  · have h1 := jlen_below.1 e
    have := (jlen_spec k n).2
    omega
  · omega
/-- where a key is of n buckets -/
def jb (k n : Nat) : Nat := jat k (jlen k n - 1)
theorem jb_lt {k n : Nat} (h : 1 ≤ n) : jb k n < n := by
  have h1 := jlen_pos (k := k) h
  exact (jlen_spec k n).1 _ (by omega)
/-- the first m places of a key -/
def jp (k m : Nat) : List Int := (List.range m).map fun t => ((jat k t : Nat) : Int)
theorem jp_length (k m : Nat) : (jp k m).length = m := by simp [jp]
theorem jp_get (k m : Nat) {t : Nat} (h : t < (jp k m).length) : (jp k m)[t] = ((jat k t : Nat) : Int) := by simp [jp]
theorem jp_zero (k : Nat) : jp k 0 = [] := rfl
theorem jp_snoc (k m : Nat) : jp k (m + 1) = jp k m ++ [((jat k m : Nat) : Int)] := by simp [jp, List.range_succ]
theorem jp_take (k : Nat) {q m : Nat} (h : q ≤ m) : (jp k m).take q = jp k q := by
  apply List.ext_getElem
  · rw [List.length_take, jp_length, jp_length]; omega
  · intro i h1 h2
    rw [List.getElem_take, jp_get, jp_get]
/-- How many keys each bucket has. -/
def jsh (ks : List Nat) (n : Nat) : List Int := (List.range n).map fun b => (((ks.map fun k => jb k n).count b : Nat) : Int)
theorem jsh_length (ks : List Nat) (n : Nat) : (jsh ks n).length = n := by simp [jsh]
theorem jsh_get (ks : List Nat) (n : Nat) {b : Nat} (h : b < (jsh ks n).length) : (jsh ks n)[b] = (((ks.map fun k => jb k n).count b : Nat) : Int) := by simp [jsh]
theorem jsh_nil (n : Nat) : jsh [] n = List.replicate n 0 := by
  apply List.ext_getElem
  · simp [jsh]
  · intro i h1 h2
    simp [jsh]
theorem jsh_snoc (ks : List Nat) (n k : Nat) : jsh (ks ++ [k]) n = (jsh ks n).set (jb k n) ((((ks.map fun k => jb k n).count (jb k n) : Nat) : Int) + 1) := by
  apply List.ext_getElem
  · simp [jsh]
  · intro i h1 h2
    rw [jsh_get, List.getElem_set]
    by_cases e : jb k n = i
    · rw [if_pos e, ← e]
      simp [List.count_append]
    · rw [if_neg e, jsh_get]
      simp [List.count_append, e]
/-- How many keys each of the first M buckets has, of n. -/
def jsm (ks : List Nat) (n M : Nat) : List Int := (List.range M).map fun b => (((ks.map fun k => jb k n).count b : Nat) : Int)
theorem jsm_length (ks : List Nat) (n M : Nat) : (jsm ks n M).length = M := by simp [jsm]
theorem jsm_get (ks : List Nat) (n M : Nat) {b : Nat} (h : b < (jsm ks n M).length) : (jsm ks n M)[b] = (((ks.map fun k => jb k n).count b : Nat) : Int) := by simp [jsm]
theorem jsm_nil (n M : Nat) : jsm [] n M = List.replicate M 0 := by
  apply List.ext_getElem
  · simp [jsm]
  · intro i h1 h2
    simp [jsm]
theorem jsm_snoc (ks : List Nat) (n M k : Nat) : jsm (ks ++ [k]) n M = (jsm ks n M).set (jb k n) ((((ks.map fun k => jb k n).count (jb k n) : Nat) : Int) + 1) := by
  apply List.ext_getElem
  · simp [jsm]
  · intro i h1 h2
    rw [jsm_get, List.getElem_set]
    by_cases e : jb k n = i
    · rw [if_pos e, ← e]
      simp [List.count_append]
    · rw [if_neg e, jsm_get]
      simp [List.count_append, e]
theorem jsm_take (ks : List Nat) {n M : Nat} (h : n ≤ M) : (jsm ks n M).take n = jsh ks n := by
  apply List.ext_getElem
  · rw [List.length_take, jsm_length, jsh_length]; omega
  · intro i h1 h2
    rw [List.getElem_take, jsm_get, jsh_get]
end Lh
end Go.Proofs.YteehhglhlapcbabDoor
