/- Plain facts on tables of turns: a row meets each slot once; while a slot is free each row has a free one; each host has as many slots as turns. -/
namespace Go.Proofs.YtmdckddenelneaaGreatDoor
namespace Lh
/-- no prime is divided by a number between -/
def Prm (n : Nat) : Prop := 2 ≤ n ∧ ∀ k, 2 ≤ k → k < n → n % k ≠ 0
def rowAt (A B n j : Nat) : Nat := (A % n + j * (B % (n - 1) + 1)) % n

theorem prm_coprime {n s : Nat} (hp : Prm n) (h0 : 0 < s) (hs : s < n) : Nat.Coprime n s := by
  have h1 := Nat.gcd_dvd_left n s
  have h2 := Nat.gcd_dvd_right n s
  have hle := Nat.le_of_dvd h0 h2
  have hpos : 0 < Nat.gcd n s := Nat.gcd_pos_of_pos_right _ h0
  rcases Nat.lt_or_ge (Nat.gcd n s) 2 with h | h
  · show Nat.gcd n s = 1
    omega
  · exact absurd (Nat.mod_eq_zero_of_dvd h1) (hp.2 _ h (by omega))

theorem skip_lt {n B : Nat} (h : 2 ≤ n) : B % (n - 1) + 1 < n := by
  have := Nat.mod_lt B (show n - 1 > 0 by omega)
  omega

theorem rowAt_lt {A B n j : Nat} (h : 2 ≤ n) : rowAt A B n j < n := Nat.mod_lt _ (by omega)

theorem rowAt_inj_le {A B n i j : Nat} (hp : Prm n) (hij : i ≤ j) (hj : j < n) (h : rowAt A B n j = rowAt A B n i) : i = j := by
  unfold rowAt at h
  have hs := skip_lt (B := B) hp.1
  have h0 : 0 < B % (n - 1) + 1 := Nat.succ_pos _
  generalize B % (n - 1) + 1 = s at h hs h0
  have h1 := Nat.sub_mod_eq_zero_of_mod_eq h
  have h2 : A % n + j * s - (A % n + i * s) = s * (j - i) := by
    rw [Nat.add_sub_add_left, ← Nat.sub_mul, Nat.mul_comm]
  rw [h2] at h1
  have hd := Nat.Coprime.dvd_of_dvd_mul_left (prm_coprime hp h0 hs) (Nat.dvd_of_mod_eq_zero h1)
  rcases Nat.eq_zero_or_pos (j - i) with hz | hz
  · omega
  · have := Nat.le_of_dvd hz hd
    omega
theorem rowAt_inj {A B n i j : Nat} (hp : Prm n) (hi : i < n) (hj : j < n) (h : rowAt A B n i = rowAt A B n j) : i = j := by
  rcases Nat.le_total i j with hle | hle
  · exact rowAt_inj_le hp hle hj h.symm
  · exact (rowAt_inj_le hp hle hi h).symm

/-- what goes into so many places, each to another one, meets each -/
theorem inj_surj (n : Nat) (f : Nat → Nat) (hlt : ∀ i, i < n → f i < n) (hinj : ∀ i j, i < n → j < n → f i = f j → i = j) (x : Nat) (hx : x < n) : ∃ i, i < n ∧ f i = x := by
  refine Decidable.byContradiction fun hno => ?_
  have hnd : ((List.range n).map f).Nodup := by
    refine List.pairwise_map.2 ?_
    refine List.Pairwise.imp_of_mem ?_ (List.nodup_range (n := n))
    intro a b ha hb hab e
    exact hab (hinj a b (List.mem_range.1 ha) (List.mem_range.1 hb) e)
  have hsub : (List.range n).map f ⊆ (List.range n).erase x := by
    intro y hy
    obtain ⟨i, hi, rfl⟩ := List.mem_map.1 hy
    have hi' := List.mem_range.1 hi
    refine (List.mem_erase_of_ne ?_).2 (List.mem_range.2 (hlt i hi'))
    intro e
    exact hno ⟨i, hi', e⟩
  have := hnd.length_le_of_subset hsub
  rw [List.length_erase_of_mem (List.mem_range.2 hx)] at this
  simp at this
  omega

/-- the first place of a row that is free (a number below 0) -/
def pick (out : List Int) (r : Nat → Nat) (n : Nat) : Nat := ((List.range n).find? fun j => decide (out.getD (r j) 0 < 0)).getD 0
theorem pick_spec {out : List Int} {r : Nat → Nat} {n : Nat} (h : ∃ j, j < n ∧ out.getD (r j) 0 < 0) : pick out r n < n ∧ out.getD (r (pick out r n)) 0 < 0 ∧ ∀ i, i < pick out r n → 0 ≤ out.getD (r i) 0 := by
  unfold pick
  cases hf : (List.range n).find? fun j => decide (out.getD (r j) 0 < 0) with
  | none =>
    obtain ⟨j, hj, hlt⟩ := h
    have := List.find?_eq_none.1 hf j (List.mem_range.2 hj)
    exact absurd (decide_eq_true hlt) this
  | some j =>
    obtain ⟨h1, h2, h3⟩ := List.find?_range_eq_some.1 hf
    refine ⟨List.mem_range.1 h2, of_decide_eq_true h1, fun i hi => ?_⟩
    have := h3 i hi
    simp at this
    simpa using this

/-- a first free place is the only one with all ahead taken -/
theorem pick_unique {out : List Int} {r : Nat → Nat} {n j : Nat} (hj : j < n) (hf : out.getD (r j) 0 < 0) (hb : ∀ i, i < j → 0 ≤ out.getD (r i) 0) : pick out r n = j := by
  obtain ⟨h1, h2, h3⟩ := pick_spec ⟨j, hj, hf⟩
  rcases Nat.lt_trichotomy (pick out r n) j with h | h | h
  · have := hb _ h; omega
  · exact h
  · have := h3 _ h; omega

/-- one turn: host number t mod m takes the first free slot of its row, and writes its value there -/
def step1 (n m : Nat) (rows : Nat → Nat → Nat) (vals : Nat → Int) (t : Nat) (out : List Int) : List Int := out.set (rows (t % m) (pick out (rows (t % m)) n)) (vals (t % m))
def fill (n m : Nat) (rows : Nat → Nat → Nat) (vals : Nat → Int) : Nat → List Int
  | 0 => List.replicate n (-1)
  | t + 1 => step1 n m rows vals t (fill n m rows vals t)

/-- what is asked of the rows and the values -/
structure RowsOk (n m : Nat) (rows : Nat → Nat → Nat) (vals : Nat → Int) : Prop where
  pos : 0 < m
  lt : ∀ k, k < m → ∀ j, j < n → rows k j < n
  inj : ∀ k, k < m → ∀ i j, i < n → j < n → rows k i = rows k j → i = j
  val : ∀ k, k < m → 0 ≤ vals k

theorem fill_length (n m : Nat) (rows : Nat → Nat → Nat) (vals : Nat → Int) : ∀ t, (fill n m rows vals t).length = n
  | 0 => by simp [fill]
  | t + 1 => by simp [fill, step1, fill_length n m rows vals t]

theorem getD_lt {out : List Int} {x : Nat} (h : x < out.length) : out.getD x 0 = out[x] := by
  rw [List.getD_eq_getElem?_getD, List.getElem?_eq_getElem h]; rfl

theorem fill_free {n m : Nat} {rows : Nat → Nat → Nat} {vals : Nat → Int} (hr : RowsOk n m rows vals) : ∀ t, t ≤ n → (fill n m rows vals t).countP (fun v => decide (v < 0)) = n - t
  | 0, _ => by simp [fill, List.countP_replicate]
  | t + 1, ht => by
    have ih := fill_free hr t (by omega)
    have hl := fill_length n m rows vals t
    have hk : t % m < m := Nat.mod_lt _ hr.pos
    have hex : ∃ j, j < n ∧ (fill n m rows vals t).getD (rows (t % m) j) 0 < 0 := by
      have hpos : 0 < (fill n m rows vals t).countP (fun v => decide (v < 0)) := by omega
      obtain ⟨v, hv, hv0⟩ := List.countP_pos_iff.1 hpos
      obtain ⟨x, hx, rfl⟩ := List.getElem_of_mem hv
      obtain ⟨j, hj, e⟩ := inj_surj n (rows (t % m)) (hr.lt _ hk) (hr.inj _ hk) x (by omega)
      refine ⟨j, hj, ?_⟩
      rw [e, getD_lt hx]
      exact of_decide_eq_true hv0
    obtain ⟨h1, h2, _⟩ := pick_spec hex
    have hlt : rows (t % m) (pick (fill n m rows vals t) (rows (t % m)) n) < (fill n m rows vals t).length := by rw [hl]; exact hr.lt _ hk _ h1
    rw [getD_lt hlt] at h2
    show (step1 n m rows vals t (fill n m rows vals t)).countP _ = _
    unfold step1
    rw [List.countP_set hlt, ih]
    have hv := hr.val _ hk
    simp only [decide_eq_true h2, if_true]
    rw [if_neg (by simp; omega)]
    omega

/-- while a slot is free, each row has a free place -/
theorem fill_pick {n m : Nat} {rows : Nat → Nat → Nat} {vals : Nat → Int} (hr : RowsOk n m rows vals) {t : Nat} (ht : t < n) {k : Nat} (hk : k < m) : ∃ j, j < n ∧ (fill n m rows vals t).getD (rows k j) 0 < 0 := by
  have h := fill_free hr t (by omega)
  have hl := fill_length n m rows vals t
  have hpos : 0 < (fill n m rows vals t).countP (fun v => decide (v < 0)) := by omega
  obtain ⟨v, hv, hv0⟩ := List.countP_pos_iff.1 hpos
  obtain ⟨x, hx, rfl⟩ := List.getElem_of_mem hv
  obtain ⟨j, hj, e⟩ := inj_surj n (rows k) (hr.lt _ hk) (hr.inj _ hk) x (by omega)
  refine ⟨j, hj, ?_⟩
  rw [e, getD_lt hx]
  exact of_decide_eq_true hv0

/-- how many turns each host has -/
def turns (n m k : Nat) : Nat := (List.range n).countP fun t => decide (t % m = k)
theorem fill_vals {n m : Nat} {rows : Nat → Nat → Nat} {vals : Nat → Int} (hm : 0 < m) : ∀ t v, v ∈ fill n m rows vals t → v = -1 ∨ ∃ k, k < m ∧ v = vals k
  | 0, v, h => Or.inl (List.eq_of_mem_replicate h)
  | t + 1, v, h => by
    rcases List.mem_or_eq_of_mem_set h with h | h
    · exact fill_vals hm t v h
    · exact Or.inr ⟨t % m, Nat.mod_lt _ hm, h⟩

theorem pick_congr {o1 o2 : List Int} {r : Nat → Nat} {n : Nat} (h : ∀ j, j < n → (o1.getD (r j) 0 < 0 ↔ o2.getD (r j) 0 < 0)) : pick o1 r n = pick o2 r n := by
  unfold pick
  have : (List.range n).find? (fun j => decide (o1.getD (r j) 0 < 0)) = (List.range n).find? (fun j => decide (o2.getD (r j) 0 < 0)) := by
    have : ∀ l : List Nat, (∀ j ∈ l, j < n) → l.find? (fun j => decide (o1.getD (r j) 0 < 0)) = l.find? (fun j => decide (o2.getD (r j) 0 < 0)) := by
      intro l
      induction l with
      | nil => intro _; rfl
      | cons a t ih =>
        intro hl
        have e : decide (o1.getD (r a) 0 < 0) = decide (o2.getD (r a) 0 < 0) := decide_eq_decide.2 (h a (hl a (List.mem_cons_self ..)))
        rw [List.find?_cons, List.find?_cons, e, ih (fun j hj => hl j (List.mem_cons_of_mem _ hj))]
    exact this _ (fun j hj => List.mem_range.1 hj)
  rw [this]

/-- which host has a slot hangs on the rows alone -/
def over (vals : Nat → Int) (v : Int) : Int := if v < 0 then -1 else vals v.toNat
theorem fill_over {n m : Nat} {rows : Nat → Nat → Nat} {vals : Nat → Int} (hr : RowsOk n m rows vals) : ∀ t, t ≤ n → fill n m rows vals t = (fill n m rows (fun k => (k : Int)) t).map (over vals)
  | 0, _ => by simp [fill, over]
  | t + 1, ht => by
    have ih := fill_over hr t (by omega)
    have hkt : t % m < m := Nat.mod_lt _ hr.pos
    have hl0 := fill_length n m rows (fun k => (k : Int)) t
    have key : ∀ x, x < n → ((fill n m rows vals t).getD x 0 < 0 ↔ (fill n m rows (fun k => (k : Int)) t).getD x 0 < 0) := by
      intro x hx
      have hx0 : x < (fill n m rows (fun k => (k : Int)) t).length := by rw [hl0]; exact hx
      rw [ih, getD_lt (by simpa using hx0), getD_lt hx0, List.getElem_map]
      rcases fill_vals hr.pos t _ (List.getElem_mem hx0) with e | ⟨k, hk, e⟩
      · rw [e]; simp [over]
      · have := hr.val k hk
        have e' : over vals (fill n m rows (fun k => (k : Int)) t)[x] = vals k := by
          rw [e]; simp only [over]; rw [if_neg (by omega)]; simp
        rw [e', e]
        omega
    have hp := pick_congr (o1 := fill n m rows vals t) (o2 := fill n m rows (fun k => (k : Int)) t) (r := rows (t % m)) (n := n) (fun j hj => key _ (hr.lt _ hkt j hj))
    show step1 n m rows vals t (fill n m rows vals t) = (step1 n m rows (fun k => (k : Int)) t (fill n m rows (fun k => (k : Int)) t)).map (over vals)
    unfold step1
    rw [hp, List.map_set, ih]
    congr 1

/-- the whole table: each slot has a host -/
theorem fill_full {n m : Nat} {rows : Nat → Nat → Nat} {vals : Nat → Int} (hr : RowsOk n m rows vals) {x : Nat} (hx : x < n) : ∃ k, k < m ∧ (fill n m rows (fun k => (k : Int)) n).getD x 0 = k ∧ (fill n m rows vals n).getD x 0 = vals k := by
  have hr0 : RowsOk n m rows (fun k => (k : Int)) := ⟨hr.pos, hr.lt, hr.inj, fun k _ => by omega⟩
  have hl0 := fill_length n m rows (fun k => (k : Int)) n
  have hx0 : x < (fill n m rows (fun k => (k : Int)) n).length := by rw [hl0]; exact hx
  have hfree := fill_free hr0 n (Nat.le_refl _)
  rw [Nat.sub_self] at hfree
  have hge := List.countP_eq_zero.1 hfree _ (List.getElem_mem hx0)
  rcases fill_vals hr.pos n _ (List.getElem_mem hx0) with e | ⟨k, hk, e⟩
  · rw [e] at hge; simp at hge
  · refine ⟨k, hk, by rw [getD_lt hx0, e], ?_⟩
    rw [fill_over hr n (Nat.le_refl _), getD_lt (by simpa using hx0), List.getElem_map, e]
    simp only [over]
    rw [if_neg (by omega)]
    simp
end Lh
end Go.Proofs.YtmdckddenelneaaGreatDoor
