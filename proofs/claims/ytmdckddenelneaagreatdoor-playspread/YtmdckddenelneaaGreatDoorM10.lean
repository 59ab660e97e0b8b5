/- Plain facts on tables of turns: a row meets each slot once; while a slot is free each row has a free one; each host has as many slots as turns. -/
import Derived.Test.YtmdckddenelneaaGreatDoorM0
import Derived.Test.YtmdckddenelneaaGreatDoorM7
import Derived.Test.YtmdckddenelneaaGreatDoorM8
import Derived.Test.YtmdckddenelneaaGreatDoorM2
import Derived.Test.YtmdckddenelneaaGreatDoorM6
import Derived.Test.YtmdckddenelneaaGreatDoorM9
namespace Go.Proofs.YtmdckddenelneaaGreatDoor
namespace Lh
/-- no prime is divided by a number between -/
def Prm (n : Nat) : Prop := 2 ≤ n ∧ ∀ k, 2 ≤ k → k < n → n % k ≠ 0
def rowAt (A B n j : Nat) : Nat := (A % n + j * (B % (n - 1) + 1)) % n

theorem prm_coprime {n s : Nat} (hp : Prm n) (h0 : 0 < s) (hs : s < n) : Nat.Coprime n s := by
  have h1 := Nat.gcd_dvd_left n s
  have h2 := Nat.gcd_dvd_right n s
  have hle := Nat.le_of_dvd h0 h2
  have hpos : 0 < Nat.gcd n s := Nat.gcd_pos_of_pos_right _ h0
  rcases Nat.lt_or_ge (Nat.gcd n s) 2 with h | h
  · show Nat.gcd n s = 1
    omega
  · exact absurd (Nat.mod_eq_zero_of_dvd h1) (hp.2 _ h (by omega))

theorem skip_lt {n B : Nat} (h : 2 ≤ n) : B % (n - 1) + 1 < n := by
  have := Nat.mod_lt B (show n - 1 > 0 by omega)
  omega

theorem rowAt_lt {A B n j : Nat} (h : 2 ≤ n) : rowAt A B n j < n := Nat.mod_lt _ (by omega)

theorem rowAt_inj_le {A B n i j : Nat} (hp : Prm n) (hij : i ≤ j) (hj : j < n) (h : rowAt A B n j = rowAt A B n i) : i = j := by
  unfold rowAt at h
  have hs := skip_lt (B := B) hp.1
  have h0 : 0 < B % (n - 1) + 1 := Nat.succ_pos _
  generalize B % (n - 1) + 1 = s at h hs h0
  have h1 := Nat.sub_mod_eq_zero_of_mod_eq h
  have h2 : A % n + j * s - (A % n + i * s) = s * (j - i) := by
    rw [Nat.add_sub_add_left, ← Nat.sub_mul, Nat.mul_comm]
  rw [h2] at h1
  have hd := Nat.Coprime.dvd_of_dvd_mul_left (prm_coprime hp h0 hs) (Nat.dvd_of_mod_eq_zero h1)
  rcases Nat.eq_zero_or_pos (j - i) with hz | hz
  · omega
  · have := Nat.le_of_dvd hz hd
    omega
theorem rowAt_inj {A B n i j : Nat} (hp : Prm n) (hi : i < n) (hj : j < n) (h : rowAt A B n i = rowAt A B n j) : i = j := by
  rcases Nat.le_total i j with hle | hle
  · exact rowAt_inj_le hp hle hj h.symm
  · exact (rowAt_inj_le hp hle hi h).symm

/-- what goes into so many places, each to another one, meets each -/
theorem inj_surj (n : Nat) (f : Nat → Nat) (hlt : ∀ i, i < n → f i < n) (hinj : ∀ i j, i < n → j < n → f i = f j → i = j) (x : Nat) (hx : x < n) : ∃ i, i < n ∧ f i = x := by
  refine Decidable.byContradiction fun hno => ?_
  have hnd : ((List.range n).map f).Nodup := by
    refine List.pairwise_map.2 ?_
    refine List.Pairwise.imp_of_mem ?_ (List.nodup_range (n := n))
    intro a b ha hb hab e
    exact hab (hinj a b (List.mem_range.1 ha) (List.mem_range.1 hb) e)
  have hsub : (List.range n).map f ⊆ (List.range n).erase x := by
    intro y hy
    obtain ⟨i, hi, rfl⟩ := List.mem_map.1 hy
    have hi' := List.mem_range.1 hi
    refine (List.mem_erase_of_ne ?_).2 (List.mem_range.2 (hlt i hi'))
    intro e
    exact hno ⟨i, hi', e⟩
  have := hnd.length_le_of_subset hsub
  rw [List.length_erase_of_mem (List.mem_range.2 hx)] at this
  simp at this
  omega

/-- the first place of a row that is free (a number below 0) -/
def pick (out : List Int) (r : Nat → Nat) (n : Nat) : Nat := ((List.range n).find? fun j => decide (out.getD (r j) 0 < 0)).getD 0
theorem pick_spec {out : List Int} {r : Nat → Nat} {n : Nat} (h : ∃ j, j < n ∧ out.getD (r j) 0 < 0) : pick out r n < n ∧ out.getD (r (pick out r n)) 0 < 0 ∧ ∀ i, i < pick out r n → 0 ≤ out.getD (r i) 0 := by
  unfold pick
  cases hf : (List.range n).find? fun j => decide (out.getD (r j) 0 < 0) with
  | none =>
    obtain ⟨j, hj, hlt⟩ := h
    have := List.find?_eq_none.1 hf j (List.mem_range.2 hj)
    exact absurd (decide_eq_true hlt) this
  | some j =>
    obtain ⟨h1, h2, h3⟩ := List.find?_range_eq_some.1 hf
    refine ⟨List.mem_range.1 h2, of_decide_eq_true h1, fun i hi => ?_⟩
    have := h3 i hi
    simp at this
    simpa using this

/-- a first free place is the only one with all ahead taken -/
theorem pick_unique {out : List Int} {r : Nat → Nat} {n j : Nat} (hj : j < n) (hf : out.getD (r j) 0 < 0) (hb : ∀ i, i < j → 0 ≤ out.getD (r i) 0) : pick out r n = j := by
  obtain ⟨h1, h2, h3⟩ := pick_spec ⟨j, hj, hf⟩
  rcases Nat.lt_trichotomy (pick out r n) j with h | h | h
  · have := hb _ h; omega
  · exact h
  · have := h3 _ h; omega

/-- one turn: host number t mod m takes the first free slot of its row, and writes its value there -/
def step1 (n m : Nat) (rows : Nat → Nat → Nat) (vals : Nat → Int) (t : Nat) (out : List Int) : List Int := out.set (rows (t % m) (pick out (rows (t % m)) n)) (vals (t % m))
def fill (n m : Nat) (rows : Nat → Nat → Nat) (vals : Nat → Int) : Nat → List Int
  | 0 => List.replicate n (-1)
  | t + 1 => step1 n m rows vals t (fill n m rows vals t)

/-- what is asked of the rows and the values -/
structure RowsOk (n m : Nat) (rows : Nat → Nat → Nat) (vals : Nat → Int) : Prop where
  pos : 0 < m
  lt : ∀ k, k < m → ∀ j, j < n → rows k j < n
  inj : ∀ k, k < m → ∀ i j, i < n → j < n → rows k i = rows k j → i = j
  val : ∀ k, k < m → 0 ≤ vals k

theorem fill_length (n m : Nat) (rows : Nat → Nat → Nat) (vals : Nat → Int) : ∀ t, (fill n m rows vals t).length = n
  | 0 => by simp [fill]
  | t + 1 => by simp [fill, step1, fill_length n m rows vals t]

theorem getD_lt {out : List Int} {x : Nat} (h : x < out.length) : out.getD x 0 = out[x] := by
  rw [List.getD_eq_getElem?_getD, List.getElem?_eq_getElem h]; rfl

theorem fill_free {n m : Nat} {rows : Nat → Nat → Nat} {vals : Nat → Int} (hr : RowsOk n m rows vals) : ∀ t, t ≤ n → (fill n m rows vals t).countP (fun v => decide (v < 0)) = n - t
  | 0, _ => by simp [fill, List.countP_replicate]
  | t + 1, ht => by
    have ih := fill_free hr t (by omega)
    have hl := fill_length n m rows vals t
    have hk : t % m < m := Nat.mod_lt _ hr.pos
    have hex : ∃ j, j < n ∧ (fill n m rows vals t).getD (rows (t % m) j) 0 < 0 := by
      have hpos : 0 < (fill n m rows vals t).countP (fun v => decide (v < 0)) := by omega
      obtain ⟨v, hv, hv0⟩ := List.countP_pos_iff.1 hpos
      obtain ⟨x, hx, rfl⟩ := List.getElem_of_mem hv
      obtain ⟨j, hj, e⟩ := inj_surj n (rows (t % m)) (hr.lt _ hk) (hr.inj _ hk) x (by omega)
      refine ⟨j, hj, ?_⟩
      rw [e, getD_lt hx]
      exact of_decide_eq_true hv0
    obtain ⟨h1, h2, _⟩ := pick_spec hex
    have hlt : rows (t % m) (pick (fill n m rows vals t) (rows (t % m)) n) < (fill n m rows vals t).length := by rw [hl]; exact hr.lt _ hk _ h1
    rw [getD_lt hlt] at h2
    show (step1 n m rows vals t (fill n m rows vals t)).countP _ = _
    unfold step1
    rw [List.countP_set hlt, ih]
    have hv := hr.val _ hk
    simp only [decide_eq_true h2, if_true]
    rw [if_neg (by simp; omega)]
    omega

/-- while a slot is free, each row has a free place -/
theorem fill_pick {n m : Nat} {rows : Nat → Nat → Nat} {vals : Nat → Int} (hr : RowsOk n m rows vals) {t : Nat} (ht : t < n) {k : Nat} (hk : k < m) : ∃ j, j < n ∧ (fill n m rows vals t).getD (rows k j) 0 < 0 := by
  have h := fill_free hr t (by omega)
  have hl := fill_length n m rows vals t
  have hpos : 0 < (fill n m rows vals t).countP (fun v => decide (v < 0)) := by omega
  obtain ⟨v, hv, hv0⟩ := List.countP_pos_iff.1 hpos
  obtain ⟨x, hx, rfl⟩ := List.getElem_of_mem hv
  obtain ⟨j, hj, e⟩ := inj_surj n (rows k) (hr.lt _ hk) (hr.inj _ hk) x (by omega)
  refine ⟨j, hj, ?_⟩
  rw [e, getD_lt hx]
  exact of_decide_eq_true hv0

/-- how many turns each host has -/
def turns (n m k : Nat) : Nat := (List.range n).countP fun t => decide (t % m = k)
theorem fill_vals {n m : Nat} {rows : Nat → Nat → Nat} {vals : Nat → Int} (hm : 0 < m) : ∀ t v, v ∈ fill n m rows vals t → v = -1 ∨ ∃ k, k < m ∧ v = vals k
  | 0, v, h => Or.inl (List.eq_of_mem_replicate h)
  | t + 1, v, h => by
    rcases List.mem_or_eq_of_mem_set h with h | h
    · exact fill_vals hm t v h
    · exact Or.inr ⟨t % m, Nat.mod_lt _ hm, h⟩

theorem pick_congr {o1 o2 : List Int} {r : Nat → Nat} {n : Nat} (h : ∀ j, j < n → (o1.getD (r j) 0 < 0 ↔ o2.getD (r j) 0 < 0)) : pick o1 r n = pick o2 r n := by
  unfold pick
  have : (List.range n).find? (fun j => decide (o1.getD (r j) 0 < 0)) = (List.range n).find? (fun j => decide (o2.getD (r j) 0 < 0)) := by
    have : ∀ l : List Nat, (∀ j ∈ l, j < n) → l.find? (fun j => decide (o1.getD (r j) 0 < 0)) = l.find? (fun j => decide (o2.getD (r j) 0 < 0)) := by
      intro l
      induction l with
      | nil => intro _; rfl
      | cons a t ih =>
        intro hl
        have e : decide (o1.getD (r a) 0 < 0) = decide (o2.getD (r a) 0 < 0) := decide_eq_decide.2 (h a (hl a (List.mem_cons_self ..)))
        rw [List.find?_cons, List.find?_cons, e, ih (fun j hj => hl j (List.mem_cons_of_mem _ hj))]
    exact this _ (fun j hj => List.mem_range.1 hj)
  rw [this]

/-- which host has a slot hangs on the rows alone -/
def over (vals : Nat → Int) (v : Int) : Int := if v < 0 then -1 else vals v.toNat
theorem fill_over {n m : Nat} {rows : Nat → Nat → Nat} {vals : Nat → Int} (hr : RowsOk n m rows vals) : ∀ t, t ≤ n → fill n m rows vals t = (fill n m rows (fun k => (k : Int)) t).map (over vals)
  | 0, _ => by simp [fill, over]
  | t + 1, ht => by
    have ih := fill_over hr t (by omega)
    have hkt : t % m < m := Nat.mod_lt _ hr.pos
    have hl0 := fill_length n m rows (fun k => (k : Int)) t
    have key : ∀ x, x < n → ((fill n m rows vals t).getD x 0 < 0 ↔ (fill n m rows (fun k => (k : Int)) t).getD x 0 < 0) := by
      intro x hx
      have hx0 : x < (fill n m rows (fun k => (k : Int)) t).length := by rw [hl0]; exact hx
      rw [ih, getD_lt (by simpa using hx0), getD_lt hx0, List.getElem_map]
      rcases fill_vals hr.pos t _ (List.getElem_mem hx0) with e | ⟨k, hk, e⟩
      · rw [e]; simp [over]
      · have := hr.val k hk
        have e' : over vals (fill n m rows (fun k => (k : Int)) t)[x] = vals k := by
          rw [e]; simp only [over]; rw [if_neg (by omega)]; simp
        rw [e', e]
        omega
    have hp := pick_congr (o1 := fill n m rows vals t) (o2 := fill n m rows (fun k => (k : Int)) t) (r := rows (t % m)) (n := n) (fun j hj => key _ (hr.lt _ hkt j hj))
    show step1 n m rows vals t (fill n m rows vals t) = (step1 n m rows (fun k => (k : Int)) t (fill n m rows (fun k => (k : Int)) t)).map (over vals)
    unfold step1
    rw [hp, List.map_set, ih]
    congr 1

/-- the whole table: each slot has a host -/
theorem fill_full {n m : Nat} {rows : Nat → Nat → Nat} {vals : Nat → Int} (hr : RowsOk n m rows vals) {x : Nat} (hx : x < n) : ∃ k, k < m ∧ (fill n m rows (fun k => (k : Int)) n).getD x 0 = k ∧ (fill n m rows vals n).getD x 0 = vals k := by
  have hr0 : RowsOk n m rows (fun k => (k : Int)) := ⟨hr.pos, hr.lt, hr.inj, fun k _ => by omega⟩
  have hl0 := fill_length n m rows (fun k => (k : Int)) n
  have hx0 : x < (fill n m rows (fun k => (k : Int)) n).length := by rw [hl0]; exact hx
  have hfree := fill_free hr0 n (Nat.le_refl _)
  rw [Nat.sub_self] at hfree
  have hge := List.countP_eq_zero.1 hfree _ (List.getElem_mem hx0)
  rcases fill_vals hr.pos n _ (List.getElem_mem hx0) with e | ⟨k, hk, e⟩
  · rw [e] at hge; simp at hge
  · refine ⟨k, hk, by rw [getD_lt hx0, e], ?_⟩
    rw [fill_over hr n (Nat.le_refl _), getD_lt (by simpa using hx0), List.getElem_map, e]
    simp only [over]
    rw [if_neg (by omega)]
    simp
end Lh
end Go.Proofs.YtmdckddenelneaaGreatDoor

/- A balance, as data: hosts, those that are drained, an epoch, the last tick, flows. -/
namespace Go.Proofs.YtmdckddenelneaaGreatDoor
namespace Lh

/-- f, r: the edges; size: of a table; t: how long a flow stays; dr: those that are drained; ep: the epoch; la: the last tick -/
structure Bl where
  f : Nat
  r : Nat
  size : Nat
  t : Nat
  hs : List Hh
  dr : List ByteArray
  ep : Int
  la : Int
  L : List Fl
/-- those that new keys may go to -/
def bopen (S : Bl) : List ByteArray := (hups S.hs).filter fun s => !(S.dr.any fun x => decide (x = s))
/-- the key has its host still -/
def BKeeps (S : Bl) (k : Nat) (now : Int) (s : ByteArray) : Prop := ∃ h : fix S.L k < S.L.length, now < (S.L[fix S.L k]).2.2 ∧ (S.L[fix S.L k]).2.1 = s ∧ hup S.hs s = true
def bdrain (dr : List ByteArray) (s : ByteArray) (is : Bool) : List ByteArray := (dr.filter fun x => !decide (x = s)) ++ if is then [s] else []
/-- what is right of a balance -/
structure BOk (S : Bl) : Prop where
  h : HOk S.f S.r S.hs
  nm : ∀ x ∈ S.hs, isNm x.1 = true
  ok : FlOk S.L
  host : ∀ x ∈ S.L, isNm x.2.1 = true
  hi : ∀ x ∈ S.L, x.2.2 ≤ 1099511628776
  t1 : 1 ≤ S.t
  t2 : S.t ≤ 1000
  prm : Prm S.size
  s5 : S.size ≤ 503
  ep0 : 0 ≤ S.ep
  ep1 : S.ep ≤ 1099511627776
  la0 : 0 ≤ S.la
  la1 : S.la ≤ 1099511627776
theorem hup_iff {l : List Hh} {s : ByteArray} : hup l s = true ↔ ∃ x ∈ l, x.1 = s ∧ x.2.1 = true := by
  unfold hup
  rw [List.any_eq_true]
  constructor
  · rintro ⟨x, hx, h⟩
    simp at h
    exact ⟨x, hx, h.1, h.2⟩
  · rintro ⟨x, hx, h1, h2⟩
    exact ⟨x, hx, by simp [h1, h2]⟩
theorem hups_mem {l : List Hh} {s : ByteArray} : s ∈ hups l ↔ hup l s = true := by
  rw [hup_iff]
  unfold hups
  rw [List.mem_map]
  constructor
  · rintro ⟨x, hx, rfl⟩
    rw [List.mem_filter] at hx
    exact ⟨x, hx.1, rfl, hx.2⟩
  · rintro ⟨x, hx, rfl, h⟩
    exact ⟨x, List.mem_filter.2 ⟨hx, h⟩, rfl⟩
theorem bopen_mem {S : Bl} {s : ByteArray} : s ∈ bopen S ↔ hup S.hs s = true ∧ s ∉ S.dr := by
  unfold bopen
  rw [List.mem_filter, hups_mem]
  constructor
  · rintro ⟨h1, h2⟩
    refine ⟨h1, fun hm => ?_⟩
    have : (S.dr.any fun x => decide (x = s)) = true := List.any_eq_true.2 ⟨s, hm, by simp⟩
    rw [this] at h2
    cases h2
  · rintro ⟨h1, h2⟩
    refine ⟨h1, ?_⟩
    have : (S.dr.any fun x => decide (x = s)) = false := List.any_eq_false.2 fun x hx => by
      intro e
      have e' : x = s := by simpa using e
      subst e'
      exact h2 hx
    rw [this]
    rfl
theorem hup_nm {S : Bl} (h : BOk S) {s : ByteArray} (hu : hup S.hs s = true) : isNm s = true ∧ s.size ≤ 300 := by
  obtain ⟨x, hx, rfl, _⟩ := hup_iff.1 hu
  exact ⟨h.nm x hx, h.h.size x hx⟩
/-- a host more, or the same one anew -/
theorem BOk.put {S : Bl} (h : BOk S) {k : Nat} (hk : k < 18446744073709551616) {s : ByteArray} (hn : isNm s = true) (hs : s.size ≤ 300) {now : Int} (h0 : 0 ≤ now) (h1 : now ≤ 1099511627776) : BOk { S with la := now, L := fput S.t S.L k s now } := by
  refine ⟨h.h, h.nm, h.ok.put hk hs h0 h1 h.t2, fun x hx => ?_, fun x hx => ?_, h.t1, h.t2, h.prm, h.s5, h.ep0, h.ep1, h0, h1⟩
  · rcases flay_mem.1 hx with rfl | hx
    · exact hn
    · exact h.host x ((frest_sub _ _).mem hx)
  · rcases flay_mem.1 hx with rfl | hx
    · have := h.t2
      show now + (S.t : Int) ≤ 1099511628776
      omega
    · exact h.hi x ((frest_sub _ _).mem hx)
theorem BOk.tick {S : Bl} (h : BOk S) {now : Int} (h0 : 0 ≤ now) (h1 : now ≤ 1099511627776) : BOk { S with la := now } := ⟨h.h, h.nm, h.ok, h.host, h.hi, h.t1, h.t2, h.prm, h.s5, h.ep0, h.ep1, h0, h1⟩
theorem BOk.drain {S : Bl} (h : BOk S) (dr : List ByteArray) : BOk { S with dr := dr } := ⟨h.h, h.nm, h.ok, h.host, h.hi, h.t1, h.t2, h.prm, h.s5, h.ep0, h.ep1, h.la0, h.la1⟩
theorem BOk.epoch {S : Bl} (h : BOk S) {e : Int} (h0 : 0 ≤ e) (h1 : e ≤ 1099511627776) : BOk { S with ep := e } := ⟨h.h, h.nm, h.ok, h.host, h.hi, h.t1, h.t2, h.prm, h.s5, h0, h1, h.la0, h.la1⟩
theorem BOk.sub {S : Bl} (h : BOk S) {M : List Fl} (hM : M.Sublist S.L) : BOk { S with L := M } := ⟨h.h, h.nm, h.ok.sub hM, fun x hx => h.host x (hM.mem hx), fun x hx => h.hi x (hM.mem hx), h.t1, h.t2, h.prm, h.s5, h.ep0, h.ep1, h.la0, h.la1⟩
theorem BOk.hosts {S : Bl} (h : BOk S) {l : List Hh} (hl : HOk S.f S.r l) (hn : ∀ x ∈ l, isNm x.1 = true) : BOk { S with hs := l } := ⟨hl, hn, h.ok, h.host, h.hi, h.t1, h.t2, h.prm, h.s5, h.ep0, h.ep1, h.la0, h.la1⟩
/-- a look at a host that there is -/
def blook (S : Bl) (s : ByteArray) (well : Bool) (x : Hh) : Bl :=
  { S with hs := S.hs.set (hix S.hs s) (hlook S.f S.r x well).1, L := if (hlook S.f S.r x well).2 = true ∧ (hlook S.f S.r x well).1.2.1 = false then fdrop S.L s else S.L }
theorem BOk.look {S : Bl} (h : BOk S) {s : ByteArray} {well : Bool} (hx : hix S.hs s < S.hs.length) : BOk (blook S s well S.hs[hix S.hs s]) := by
  have hn : ∀ y ∈ S.hs.set (hix S.hs s) (hlook S.f S.r S.hs[hix S.hs s] well).1, isNm y.1 = true := fun y hy => by
    rcases List.mem_or_eq_of_mem_set hy with hy | rfl
    · exact h.nm y hy
    · rw [hlook_name]
      exact h.nm _ (List.getElem_mem hx)
  have h2 := h.hosts (h.h.look hx well) hn
  unfold blook
  split
  · exact h2.sub (List.filter_sublist)
  · exact h2
/-- what of a list is added: those that may come, in their order, where each key is new -/
theorem BOk.add {S : Bl} (h : BOk S) {now : Int} (h0 : 0 ≤ now) (h1 : now ≤ 1099511627776) : ∀ (l : List Fl) {M : List Fl}, BOk { S with la := now, L := M } → (∀ x ∈ l, x.1 < 18446744073709551616 ∧ x.2.1.size ≤ 300 ∧ isNm x.2.1 = true) → BOk { S with la := now, L := fadd now M l }
  | [], _, hM, _ => hM
  | x :: l, M, hM, hl => by
    show BOk { S with la := now, L := fadd now (fadd1 now M x) l }
    refine BOk.add h h0 h1 l ?_ fun y hy => hl y (by simp [hy])
    obtain ⟨hk, hs, hn⟩ := hl x (by simp)
    refine ⟨hM.h, hM.nm, hM.ok.add1 h0 h1 hk hs, fun y hy => ?_, fun y hy => ?_, hM.t1, hM.t2, hM.prm, hM.s5, hM.ep0, hM.ep1, h0, h1⟩
    · unfold fadd1 at hy
      split at hy
      · exact hM.host y hy
      · rcases flay_mem.1 hy with rfl | hy
        · exact hn
        · exact hM.host y hy
    · unfold fadd1 at hy
      split at hy
      · exact hM.hi y hy
      · rename_i hc
        rcases flay_mem.1 hy with rfl | hy
        · have : ¬ 1000 < y.2.2 - now := fun e => hc (Or.inr (Or.inr (Or.inl e)))
          omega
        · exact hM.hi y hy
end Lh
end Go.Proofs.YtmdckddenelneaaGreatDoor

/- The landed balance in memory: a block, a health, a map of those that are drained, flows. -/
namespace Go.Proofs.YtmdckddenelneaaGreatDoor
open Go.RowKit Go.Shelf Go.Maps Go.ChangeMaps

/-- a datum that is a set of names -/
def SetN (D : DataW Unit) (dr : List ByteArray) : Prop := IsMap D ∧ Maps.size D = dr.length ∧ ∀ s : ByteArray, has D (.string s.data.toList) = decide (s ∈ dr)
theorem SetN.zero : SetN (.map []) [] := ⟨isMap_empty, rfl, fun _ => by simp [has]⟩
theorem filter_out {dr : List ByteArray} {s : ByteArray} (h : s ∉ dr) : (dr.filter fun x => !decide (x = s)) = dr := List.filter_eq_self.2 fun x hx => by
  have : x ≠ s := fun e => h (e ▸ hx)
  simpa using this
theorem filter_len {dr : List ByteArray} {s : ByteArray} (hn : dr.Nodup) (h : s ∈ dr) : (dr.filter fun x => !decide (x = s)).length + 1 = dr.length := by
  induction dr with
  | nil => cases h
  | cons x l ih =>
    rw [List.nodup_cons] at hn
    by_cases e : x = s
    · subst e
      rw [List.filter_cons_of_neg (by simp), filter_out hn.1]
      rfl
    · have hm : s ∈ l := by
        rcases List.mem_cons.1 h with h | h
        · exact absurd h.symm e
        · exact h
      rw [List.filter_cons_of_pos (by simpa using e), List.length_cons, List.length_cons, ih hn.2 hm]
theorem bdrain_mem {dr : List ByteArray} {s z : ByteArray} {is : Bool} : z ∈ Lh.bdrain dr s is ↔ (z ∈ dr ∧ z ≠ s) ∨ (is = true ∧ z = s) := by
  unfold Lh.bdrain
  rw [List.mem_append, List.mem_filter]
  cases is <;> simp
theorem SetN.put {D : DataW Unit} {dr : List ByteArray} (h : SetN D dr) (ht : Tidy D) (hn : dr.Nodup) (s : ByteArray) : SetN (D.put (.string s.data.toList) (.agg [])) (Lh.bdrain dr s true) := by
  refine ⟨h.1.put _ _, ?_, fun z => ?_⟩
  · rw [size_put ht, h.2.2 s, h.2.1]
    unfold Lh.bdrain
    rw [List.length_append]
    by_cases hm : s ∈ dr
    · have := filter_len hn hm
      simp [hm]
      omega
    · rw [filter_out hm]
      simp [hm]
  · by_cases e : z = s
    · subst e
      rw [has_put_same (k := .string _) h.1 (by simp [WideAt.IsKeyLit])]
      simp [bdrain_mem]
    · rw [has_put_other (strs_lit_ne e), h.2.2 z]
      simp [bdrain_mem, e]
theorem SetN.del {D : DataW Unit} {dr : List ByteArray} (h : SetN D dr) (ht : Tidy D) (hn : dr.Nodup) (s : ByteArray) (hm : IsMap (D.del (.string s.data.toList))) : SetN (D.del (.string s.data.toList)) (Lh.bdrain dr s false) := by
  refine ⟨hm, ?_, fun z => ?_⟩
  · have h1 := size_del (k := .string s.data.toList) ht
    rw [h.2.2 s, h.2.1] at h1
    unfold Lh.bdrain
    rw [List.length_append]
    by_cases hm : s ∈ dr
    · have := filter_len hn hm
      simp [hm] at h1 ⊢
      omega
    · rw [filter_out hm]
      simp [hm] at h1 ⊢
      omega
  · by_cases e : z = s
    · subst e
      rw [has_del_same]
      simp [bdrain_mem]
    · rw [has_del_other (strs_lit_ne e), h.2.2 z]
      simp [bdrain_mem, e]
theorem bdrain_nodup {dr : List ByteArray} (hn : dr.Nodup) (s : ByteArray) (is : Bool) : (Lh.bdrain dr s is).Nodup := by
  unfold Lh.bdrain
  rw [List.nodup_append]
  refine ⟨hn.sublist List.filter_sublist, by cases is <;> simp, fun x hx y hy => ?_⟩
  rw [List.mem_filter] at hx
  cases is
  · cases hy
  · have hy' : y = s := by simpa using hy
    have := hx.2
    subst hy'
    simpa using this
theorem nodup_le : ∀ {l m : List ByteArray}, l.Nodup → (∀ x ∈ l, x ∈ m) → l.length ≤ m.length
  | [], _, _, _ => Nat.zero_le _
  | a :: l, m, hn, hs => by
    rw [List.nodup_cons] at hn
    have h1 : l.length ≤ (m.filter fun x => !decide (x = a)).length := nodup_le hn.2 fun x hx => List.mem_filter.2 ⟨hs x (by simp [hx]), by
      have : x ≠ a := fun e => hn.1 (e ▸ hx)
      simpa using this⟩
    have h2 : (m.filter fun x => !decide (x = a)).length < m.length := List.length_filter_lt_length_iff_exists.2 ⟨a, hs a (by simp), by simp⟩
    rw [List.length_cons]
    omega

/-- Block p is the landed balance: its health is block hp, those that are drained are map db, its flows are block fp (its map fm). -/
structure BR (W : World) (p hp fp fm db : Nat) (bs : List Nat) (lv : Value) (S : Lh.Bl) : Prop where
  c0 : W.cell? ⟨p, 0, none⟩ = some (.pointer (some ⟨hp, 0, none⟩))
  c1 : W.cell? ⟨p, 1, none⟩ = some (.map (some db))
  c2 : W.cell? ⟨p, 2, none⟩ = some (.pointer (some ⟨fp, 0, none⟩))
  c3 : W.cell? ⟨p, 3, none⟩ = some (.int .i64 (S.size : Nat))
  c4 : W.cell? ⟨p, 4, none⟩ = some (.int .i64 S.ep)
  fz : ∀ k, W.frozen? ⟨p, k, none⟩ = false
  h : HR W hp S.f S.r S.hs bs lv
  f : FR W fp fm S.t S.la S.L
  d : ∃ D : DataW Unit, W.ownsMap Tryz.prog 9 unitElem db S.dr.length D ∧ SetN D S.dr
  dn : S.dr.Nodup
  dh : ∀ s ∈ S.dr, Lh.hix S.hs s < S.hs.length
  pd : p ≠ db
  ph : ¬ HFoot hp bs lv p
  pf : ¬ FFt fp fm p
  dbh : ¬ HFoot hp bs lv db
  dbf : ¬ FFt fp fm db
  hf : ∀ b, HFoot hp bs lv b → ¬ FFt fp fm b
/-- the blocks that it is made of -/
def BFt (p hp fp fm db : Nat) (bs : List Nat) (lv : Value) (b : Nat) : Prop := b = p ∨ b = db ∨ HFoot hp bs lv b ∨ FFt fp fm b
section
variable {W W' : World} {p hp fp fm db : Nat} {bs : List Nat} {lv : Value} {S : Lh.Bl}
theorem BR.plt (h : BR W p hp fp fm db bs lv S) : p < W.heap.size := World.block_lt_of_cell? W ⟨p, 0, none⟩ h.c0
theorem BR.dlt (h : BR W p hp fp fm db bs lv S) : db < W.heap.size := by
  obtain ⟨D, h, _⟩ := h.d
  exact h.lt
theorem BR.lt (h : BR W p hp fp fm db bs lv S) : ∀ b, BFt p hp fp fm db bs lv b → b < W.heap.size := by
  rintro b (rfl | rfl | hb | hb)
  · exact h.plt
  · exact h.dlt
  · exact (h.h.lt b hb).1
  · exact h.f.lt b hb
/-- its own block is as it was -/
theorem BR.cells (h : BR W p hp fp fm db bs lv S) (e : W'.heap[p]? = W.heap[p]?) : W'.cell? ⟨p, 0, none⟩ = some (.pointer (some ⟨hp, 0, none⟩)) ∧ W'.cell? ⟨p, 1, none⟩ = some (.map (some db)) ∧ W'.cell? ⟨p, 2, none⟩ = some (.pointer (some ⟨fp, 0, none⟩)) ∧ W'.cell? ⟨p, 3, none⟩ = some (.int .i64 (S.size : Nat)) ∧ W'.cell? ⟨p, 4, none⟩ = some (.int .i64 S.ep) ∧ ∀ k, W'.frozen? ⟨p, k, none⟩ = false :=
  ⟨(World.cell?_of_block (w := W) (w' := W') (a := ⟨p, 0, none⟩) e).trans h.c0, (World.cell?_of_block (w := W) (w' := W') (a := ⟨p, 1, none⟩) e).trans h.c1, (World.cell?_of_block (w := W) (w' := W') (a := ⟨p, 2, none⟩) e).trans h.c2, (World.cell?_of_block (w := W) (w' := W') (a := ⟨p, 3, none⟩) e).trans h.c3, (World.cell?_of_block (w := W) (w' := W') (a := ⟨p, 4, none⟩) e).trans h.c4, fun k => (World.frozen?_of_block (w := W) (w' := W') (a := ⟨p, k, none⟩) e).trans (h.fz k)⟩
theorem BR.stay (h : BR W p hp fp fm db bs lv S) (hs : ∀ b, BFt p hp fp fm db bs lv b → W'.heap[b]? = W.heap[b]?) : BR W' p hp fp fm db bs lv S := by
  obtain ⟨a0, a1, a2, a3, a4, a5⟩ := h.cells (hs p (Or.inl rfl))
  obtain ⟨D, d1, d2⟩ := h.d
  exact ⟨a0, a1, a2, a3, a4, a5, h.h.stay fun b hb => hs b (Or.inr (Or.inr (Or.inl hb))), h.f.stay fun b hb => hs b (Or.inr (Or.inr (Or.inr hb))), ⟨D, ownsMap_later d1 (hs db (Or.inr (Or.inl rfl))), d2⟩, h.dn, h.dh, h.pd, h.ph, h.pf, h.dbh, h.dbf, h.hf⟩
theorem BR.later (h : BR W p hp fp fm db bs lv S) (hb : Below W.heap.size W W') : BR W' p hp fp fm db bs lv S := h.stay fun b hf => hb.block b (h.lt b hf)
/-- all but its flows is as it was -/
theorem BR.flows (h : BR W p hp fp fm db bs lv S) (hT : Tur (FFt fp fm) W W') {la : Int} {L : List Lh.Fl} (hF : FR W' fp fm S.t la L) : BR W' p hp fp fm db bs lv { S with la := la, L := L } := by
  obtain ⟨a0, a1, a2, a3, a4, a5⟩ := h.cells (hT.block p h.plt h.pf)
  obtain ⟨D, d1, d2⟩ := h.d
  exact ⟨a0, a1, a2, a3, a4, a5, h.h.stay fun b hb => hT.block b (h.h.lt b hb).1 (h.hf b hb), hF, ⟨D, ownsMap_later d1 (hT.block db h.dlt h.dbf), d2⟩, h.dn, h.dh, h.pd, h.ph, h.pf, h.dbh, h.dbf, h.hf⟩
/-- all but its health is as it was -/
theorem BR.health (h : BR W p hp fp fm db bs lv S) (hT : Tur (HFoot hp bs lv) W W') {l : List Lh.Hh} (hH : HR W' hp S.f S.r l bs lv) (hd : ∀ s ∈ S.dr, Lh.hix l s < l.length) : BR W' p hp fp fm db bs lv { S with hs := l } := by
  obtain ⟨a0, a1, a2, a3, a4, a5⟩ := h.cells (hT.block p h.plt h.ph)
  obtain ⟨D, d1, d2⟩ := h.d
  exact ⟨a0, a1, a2, a3, a4, a5, hH, h.f.stay fun b hb => hT.block b (h.f.lt b hb) fun hg => h.hf b hg hb, ⟨D, ownsMap_later d1 (hT.block db h.dlt h.dbh), d2⟩, h.dn, hd, h.pd, h.ph, h.pf, h.dbh, h.dbf, h.hf⟩
/-- all but its map is as it was -/
theorem BR.map (h : BR W p hp fp fm db bs lv S) (hT : Tur (fun b => b = db) W W') {dr : List ByteArray} (hn : dr.Nodup) (hd : ∀ s ∈ dr, Lh.hix S.hs s < S.hs.length) (hD : ∃ D : DataW Unit, W'.ownsMap Tryz.prog 9 unitElem db dr.length D ∧ SetN D dr) : BR W' p hp fp fm db bs lv { S with dr := dr } := by
  obtain ⟨a0, a1, a2, a3, a4, a5⟩ := h.cells (hT.block p h.plt h.pd)
  exact ⟨a0, a1, a2, a3, a4, a5, h.h.stay fun b hb => hT.block b (h.h.lt b hb).1 fun e => h.dbh (e ▸ hb), h.f.stay fun b hb => hT.block b (h.f.lt b hb) fun e => h.dbf (e ▸ hb), hD, hn, hd, h.pd, h.ph, h.pf, h.dbh, h.dbf, h.hf⟩
/-- an epoch -/
theorem BR.epoch (h : BR W p hp fp fm db bs lv S) (e : Int) : BR (W.setCell ⟨p, 4, none⟩ (.int .i64 e)) p hp fp fm db bs lv { S with ep := e } := by
  have ho : ∀ b, b ≠ p → (W.setCell ⟨p, 4, none⟩ (.int .i64 e)).heap[b]? = W.heap[b]? := fun b hb => Below.heap_setCell _ _ _ b hb
  obtain ⟨D, d1, d2⟩ := h.d
  refine ⟨?_, ?_, ?_, ?_, World.cell?_setCell_same' _ _ _ (by rw [h.c4]; rfl), fun k => by rw [World.frozen?_setCell]; exact h.fz k, h.h.stay fun b hb => ho b fun e => h.ph (e ▸ hb), h.f.stay fun b hb => ho b fun e => h.pf (e ▸ hb), ⟨D, ownsMap_later d1 (ho db fun e => h.pd e.symm), d2⟩, h.dn, h.dh, h.pd, h.ph, h.pf, h.dbh, h.dbf, h.hf⟩
  · rw [World.cell?_setCell_other _ _ _ _ (by simp)]; exact h.c0
  · rw [World.cell?_setCell_other _ _ _ _ (by simp)]; exact h.c1
  · rw [World.cell?_setCell_other _ _ _ _ (by simp)]; exact h.c2
  · rw [World.cell?_setCell_other _ _ _ _ (by simp)]; exact h.c3
theorem BR.drLen (h : BR W p hp fp fm db bs lv S) (hl : S.hs.length ≤ 12) : S.dr.length ≤ 12 := by
  refine Nat.le_trans (nodup_le (m := S.hs.map fun x => x.1) h.dn fun x hx => ?_) (by rw [List.length_map]; exact hl)
  obtain ⟨y, hy, rfl⟩ := Lh.hix_lt.1 (h.dh x hx)
  exact List.mem_map_of_mem hy
theorem Tur.flows (h : Tur (FFt fp fm) W W') : Tur (BFt p hp fp fm db bs lv) W W' := h.wide fun _ hb => Or.inr (Or.inr (Or.inr hb))
theorem Tur.health (h : Tur (HFoot hp bs lv) W W') : Tur (BFt p hp fp fm db bs lv) W W' := h.wide fun _ hb => Or.inr (Or.inr (Or.inl hb))
theorem Tur.map (h : Tur (fun b => b = db) W W') : Tur (BFt p hp fp fm db bs lv) W W' := h.wide fun _ hb => Or.inr (Or.inl hb)
end
end Go.Proofs.YtmdckddenelneaaGreatDoor
