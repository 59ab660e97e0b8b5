/- The ring of points, pure: rotated it is sorted from a place on; different hosts in order; what goes, what comes. -/
import Derived.Test.YtmkdpchodeckgaaGreatDoorM2
namespace Go.Proofs.YtmkdpchodeckgaaGreatDoor
namespace Lh
abbrev Pt := Nat × ByteArray
def bl (s : ByteArray) : List UInt8 := s.data.toList
theorem bl_inj {a b : ByteArray} (h : bl a = bl b) : a = b := ByteArray.ext (Array.toList_inj.1 h)
/-- a comes no later than b, from the place f on -/
def leF (f : Nat) (a b : Pt) : Prop := (a.1 < f → b.1 < f) ∧ ((b.1 < f → a.1 < f) → a.1 ≤ b.1 ∧ (a.1 = b.1 → bl a.2 ≤ bl b.2))
theorem leF_antisymm {f : Nat} {a b : Pt} (h : leF f a b) (k : leF f b a) : a = b := by
  obtain ⟨h1, h2⟩ := h
  obtain ⟨k1, k2⟩ := k
  obtain ⟨h3, h4⟩ := h2 k1
  obtain ⟨k3, k4⟩ := k2 h1
  have e : a.1 = b.1 := by omega
  exact Prod.ext e (bl_inj (List.le_antisymm (h4 e) (k4 e.symm)))
theorem leF_refl (f : Nat) (a : Pt) : leF f a a := ⟨id, fun _ => ⟨Nat.le_refl _, fun _ => List.le_refl _⟩⟩
theorem leF_trans {f : Nat} {a b c : Pt} (h : leF f a b) (k : leF f b c) : leF f a c := by
  obtain ⟨h1, h2⟩ := h
  obtain ⟨k1, k2⟩ := k
  refine ⟨fun x => k1 (h1 x), fun x => ?_⟩
  have hba : b.1 < f → a.1 < f := fun y => x (k1 y)
  have hcb : c.1 < f → b.1 < f := fun y => h1 (x y)
  obtain ⟨h3, h4⟩ := h2 hba
  obtain ⟨k3, k4⟩ := k2 hcb
  exact ⟨by omega, fun e => List.le_trans (h4 (by omega)) (k4 (by omega))⟩
/-- the document's own comparison -/
def lessF (f : Nat) (a b : Pt) : Bool :=
  if decide (a.1 < f) != decide (b.1 < f) then decide (b.1 < f) else if a.1 ≠ b.1 then decide (a.1 < b.1) else decide (bl a.2 < bl b.2)
theorem lessF_true {f : Nat} {a b : Pt} (h : lessF f a b = true) : leF f a b := by
  unfold lessF at h
  by_cases hx : a.1 < f <;> by_cases hy : b.1 < f <;> simp [hx, hy] at h
  · by_cases e : a.1 = b.1
    · simp [e] at h
      exact ⟨fun _ => hy, fun _ => ⟨by omega, fun _ => List.le_of_lt h⟩⟩
    · simp [e] at h
      exact ⟨fun _ => hy, fun _ => ⟨by omega, fun e' => absurd e' e⟩⟩
  · exact ⟨fun h => absurd h hx, fun h => absurd (h hy) hx⟩
  · by_cases e : a.1 = b.1
    · simp [e] at h
      exact ⟨fun h => absurd h hx, fun _ => ⟨by omega, fun _ => List.le_of_lt h⟩⟩
    · simp [e] at h
      exact ⟨fun h => absurd h hx, fun _ => ⟨by omega, fun e' => absurd e' e⟩⟩
theorem lessF_false {f : Nat} {a b : Pt} (h : lessF f a b = false) : leF f b a := by
  unfold lessF at h
  by_cases hx : a.1 < f <;> by_cases hy : b.1 < f <;> simp [hx, hy] at h
  · by_cases e : a.1 = b.1
    · simp [e] at h
      exact ⟨fun _ => hx, fun _ => ⟨by omega, fun _ => h⟩⟩
    · simp [e] at h
      exact ⟨fun _ => hx, fun _ => ⟨by omega, fun e' => absurd e'.symm e⟩⟩
  · exact ⟨fun h => absurd h hy, fun h => absurd (h hx) hy⟩
  · by_cases e : a.1 = b.1
    · simp [e] at h
      exact ⟨fun h => absurd h hy, fun _ => ⟨by omega, fun _ => h⟩⟩
    · simp [e] at h
      exact ⟨fun h => absurd h hy, fun _ => ⟨by omega, fun e' => absurd e'.symm e⟩⟩

/- the points of hosts -/
def pts1 (c : Nat) (s : ByteArray) : List Pt := (List.range c).map fun k => (num s (1000 + k), s)
def pts (c : Nat) (xs : List ByteArray) : List Pt := xs.flatMap (pts1 c)
theorem pts1_length (c : Nat) (s : ByteArray) : (pts1 c s).length = c := by simp [pts1]
theorem pts_length (c : Nat) (xs : List ByteArray) : (pts c xs).length = xs.length * c := by
  induction xs with
  | nil => simp [pts]
  | cons x xs ih => 
    have : pts c (x :: xs) = pts1 c x ++ pts c xs := rfl
    rw [this, List.length_append, pts1_length, ih, List.length_cons, Nat.add_mul, Nat.one_mul, Nat.add_comm]
theorem pts_host {c : Nat} {xs : List ByteArray} {p : Pt} (h : p ∈ pts c xs) : p.2 ∈ xs := by
  obtain ⟨x, hx, hp⟩ := List.mem_flatMap.1 h
  obtain ⟨k, _, rfl⟩ := List.mem_map.1 hp
  exact hx
theorem pts_has {c : Nat} {xs : List ByteArray} {s : ByteArray} (hc : 0 < c) (h : s ∈ xs) : ∃ p ∈ pts c xs, p.2 = s :=
  ⟨(num s (1000 + 0), s), List.mem_flatMap.2 ⟨s, h, List.mem_map.2 ⟨0, List.mem_range.2 hc, rfl⟩⟩, rfl⟩
theorem pts1_filter (c : Nat) (s w : ByteArray) : (pts1 c s).filter (fun p => decide (p.2 ≠ w)) = if s ≠ w then pts1 c s else [] := by
  by_cases h : s = w
  · subst h
    simp [pts1, List.filter_eq_nil_iff]
  · rw [if_pos h, List.filter_eq_self]
    intro p hp
    obtain ⟨k, _, rfl⟩ := List.mem_map.1 hp
    simpa using h
theorem pts_filter (c : Nat) (xs : List ByteArray) (w : ByteArray) : (pts c xs).filter (fun p => decide (p.2 ≠ w)) = pts c (xs.filter fun s => decide (s ≠ w)) := by
  induction xs with
  | nil => rfl
  | cons x xs ih =>
    have h1 : pts c (x :: xs) = pts1 c x ++ pts c xs := rfl
    rw [h1, List.filter_append, pts1_filter, ih, List.filter_cons]
    by_cases h : x = w
    · simp [h]
    · simp only [ne_eq, h, not_false_eq_true, if_true, decide_true]; rfl

/- rotated -/
def rot (f : Nat) (P : List Pt) : List Pt := (P.filter fun p => decide (f ≤ p.1)) ++ P.filter fun p => !decide (f ≤ p.1)
def cut (f : Nat) (P : List Pt) : Nat := P.countP fun p => !decide (f ≤ p.1)
theorem rot_perm (f : Nat) (P : List Pt) : (rot f P).Perm P := List.filter_append_perm _ _
theorem cut_le (f : Nat) (P : List Pt) : cut f P ≤ P.length := List.countP_le_length
theorem leF_of_zero {f : Nat} {a b : Pt} (h : leF 0 a b) (hx : a.1 < f ↔ b.1 < f) : leF f a b := by
  obtain ⟨_, h2⟩ := h
  obtain ⟨h3, h4⟩ := h2 (fun h => absurd h (by omega))
  exact ⟨hx.1, fun _ => ⟨h3, h4⟩⟩
theorem rot_sorted {f : Nat} {P : List Pt} (h : P.Pairwise (leF 0)) : (rot f P).Pairwise (leF f) := by
  unfold rot
  rw [List.pairwise_append]
  refine ⟨?_, ?_, ?_⟩
  · refine List.Pairwise.imp_of_mem ?_ (h.sublist List.filter_sublist)
    intro a b ha hb hab
    have h1 := (List.mem_filter.1 ha).2
    have h2 := (List.mem_filter.1 hb).2
    simp at h1 h2
    exact leF_of_zero hab (by omega)
  · refine List.Pairwise.imp_of_mem ?_ (h.sublist List.filter_sublist)
    intro a b ha hb hab
    have h1 := (List.mem_filter.1 ha).2
    have h2 := (List.mem_filter.1 hb).2
    simp at h1 h2
    exact leF_of_zero hab (by omega)
  · intro a ha b hb
    have h1 := (List.mem_filter.1 ha).2
    have h2 := (List.mem_filter.1 hb).2
    simp at h1 h2
    exact ⟨fun h => absurd h (by omega), fun h => absurd (h h2) (by omega)⟩
theorem split_at {f : Nat} {P : List Pt} (h : P.Pairwise (leF 0)) : P = (P.filter fun p => !decide (f ≤ p.1)) ++ P.filter fun p => decide (f ≤ p.1) := by
  induction P with
  | nil => rfl
  | cons p P ih =>
    rw [List.pairwise_cons] at h
    by_cases hp : f ≤ p.1
    · have hall : ∀ q ∈ P, f ≤ q.1 := fun q hq => by
        have := ((h.1 q hq).2 (fun h => absurd h (by omega))).1
        omega
      have e1 : P.filter (fun p => !decide (f ≤ p.1)) = [] := by
        rw [List.filter_eq_nil_iff]
        intro q hq
        simpa using hall q hq
      have e2 : P.filter (fun p => decide (f ≤ p.1)) = P := by
        rw [List.filter_eq_self]
        intro q hq
        simpa using hall q hq
      simp [hp, e1, e2]
    · have hp' : p.1 < f := by omega
      have := ih h.2
      rw [List.filter_cons, List.filter_cons]
      simp only [hp, decide_false, Bool.not_false, if_true, Bool.false_eq_true, if_false, List.cons_append]
      rw [← this]
theorem rot_cut {f : Nat} {P : List Pt} (h : P.Pairwise (leF 0)) : rot f P = P.drop (cut f P) ++ P.take (cut f P) := by
  have hs := split_at (f := f) h
  have hc : cut f P = (P.filter fun p => !decide (f ≤ p.1)).length := List.countP_eq_length_filter
  have hd : P.drop (cut f P) = P.filter fun p => decide (f ≤ p.1) := by
    rw [hc]
    generalize (P.filter fun p => !decide (f ≤ p.1)) = A at *
    generalize (P.filter fun p => decide (f ≤ p.1)) = B at *
    rw [hs]
    exact List.drop_left
  have ht : P.take (cut f P) = P.filter fun p => !decide (f ≤ p.1) := by
    rw [hc]
    generalize (P.filter fun p => !decide (f ≤ p.1)) = A at *
    generalize (P.filter fun p => decide (f ≤ p.1)) = B at *
    rw [hs]
    exact List.take_left
  rw [hd, ht]
  rfl
/-- where a key's way begins -/
def start (f : Nat) (P : List Pt) : Nat := if cut f P = P.length then 0 else cut f P
theorem start_lt {f : Nat} {P : List Pt} (h : 0 < P.length) : start f P < P.length := by
  unfold start
  have := cut_le f P
  split <;> omega
theorem rot_length (f : Nat) (P : List Pt) : (rot f P).length = P.length := (rot_perm f P).length_eq
theorem rot_at {f : Nat} {P : List Pt} (h : P.Pairwise (leF 0)) {i : Nat} (hi : i < P.length) :
    (rot f P)[i]'(by rw [rot_length]; exact hi) = P[(start f P + i) % P.length]'(Nat.mod_lt _ (by omega)) := by
  have hle := cut_le f P
  have e : (rot f P)[i]'(by rw [rot_length]; exact hi) = (P.drop (cut f P) ++ P.take (cut f P))[i]'(by simp; omega) := by
    congr 1
    exact rot_cut h
  rw [e, List.getElem_append]
  unfold start
  by_cases hc : cut f P = P.length
  · simp only [hc, if_true, List.length_drop]
    have hm : (0 + i) % P.length = i := by rw [Nat.zero_add, Nat.mod_eq_of_lt hi]
    simp only [hm]
    rw [dif_neg (by omega)]
    simp
  · simp only [hc, if_false, List.length_drop]
    by_cases hlt : i < P.length - cut f P
    · rw [dif_pos hlt, List.getElem_drop]
      congr 1
      rw [Nat.mod_eq_of_lt (by omega)]
    · rw [dif_neg hlt, List.getElem_take]
      congr 1
      rw [Nat.mod_eq_sub_mod (by omega), Nat.mod_eq_of_lt (by omega)]
      omega
theorem sorted_unique {f : Nat} {A B : List Pt} (ha : A.Pairwise (leF f)) (hb : B.Pairwise (leF f)) (h : A.Perm B) : A = B :=
  List.Perm.eq_of_pairwise (le := leF f) (fun _ _ _ _ h k => leF_antisymm h k) ha hb h

/- different hosts in order -/
instance memD (s : ByteArray) (out : List ByteArray) : Decidable (s ∈ out) :=
  if h : mem s out = true then .isTrue (by
    unfold mem at h
    rw [List.any_eq_true] at h
    obtain ⟨x, hx, e⟩ := h
    have := of_decide_eq_true e
    exact this ▸ hx) else .isFalse (fun k => h (mem_true k))
def dd (out : List ByteArray) : List Pt → List ByteArray
  | [] => out
  | r :: R => if r.2 ∈ out then dd out R else dd (out ++ [r.2]) R
theorem dd_append (R S : List Pt) : ∀ out, dd out (R ++ S) = dd (dd out R) S := by
  induction R with
  | nil => intro out; rfl
  | cons r R ih =>
    intro out
    simp only [List.cons_append, dd]
    split
    · exact ih _
    · exact ih _
theorem dd_prefix (R : List Pt) : ∀ out, ∃ T, dd out R = out ++ T := by
  induction R with
  | nil => intro out; exact ⟨[], by simp [dd]⟩
  | cons r R ih =>
    intro out
    simp only [dd]
    split
    · exact ih _
    · obtain ⟨T, hT⟩ := ih (out ++ [r.2])
      exact ⟨[r.2] ++ T, by rw [hT, List.append_assoc]⟩
theorem dd_nodup (R : List Pt) : ∀ out, out.Nodup → (dd out R).Nodup := by
  induction R with
  | nil => intro out h; exact h
  | cons r R ih =>
    intro out h
    simp only [dd]
    split
    · exact ih _ h
    · rename_i hr
      refine ih _ (List.nodup_append.2 ⟨h, by simp, fun a ha b hb e => ?_⟩)
      simp at hb
      subst hb
      subst e
      exact hr ha
theorem dd_mem (R : List Pt) : ∀ out s, s ∈ dd out R ↔ s ∈ out ∨ ∃ r ∈ R, r.2 = s := by
  induction R with
  | nil => intro out s; simp [dd]
  | cons r R ih =>
    intro out s
    simp only [dd]
    split
    · rename_i hr
      rw [ih]
      constructor
      · rintro (h | ⟨q, hq, e⟩)
        · exact Or.inl h
        · exact Or.inr ⟨q, List.mem_cons_of_mem _ hq, e⟩
      · rintro (h | ⟨q, hq, e⟩)
        · exact Or.inl h
        · rcases List.mem_cons.1 hq with rfl | hq
          · exact Or.inl (e ▸ hr)
          · exact Or.inr ⟨q, hq, e⟩
    · rw [ih]
      constructor
      · rintro (h | ⟨q, hq, e⟩)
        · rcases List.mem_append.1 h with h | h
          · exact Or.inl h
          · exact Or.inr ⟨r, List.mem_cons_self, (List.mem_singleton.1 h).symm⟩
        · exact Or.inr ⟨q, List.mem_cons_of_mem _ hq, e⟩
      · rintro (h | ⟨q, hq, e⟩)
        · exact Or.inl (List.mem_append_left _ h)
        · rcases List.mem_cons.1 hq with rfl | hq
          · exact Or.inl (List.mem_append_right _ (by simp [e]))
          · exact Or.inr ⟨q, hq, e⟩
theorem dd_take_in {R : List Pt} {i : Nat} (hi : i < R.length) (h : R[i].2 ∈ dd [] (R.take i)) : dd [] (R.take (i + 1)) = dd [] (R.take i) := by
  rw [List.take_succ_eq_append_getElem hi, dd_append]
  simp [dd, h]
theorem dd_take_new {R : List Pt} {i : Nat} (hi : i < R.length) (h : ¬ R[i].2 ∈ dd [] (R.take i)) : dd [] (R.take (i + 1)) = dd [] (R.take i) ++ [R[i].2] := by
  rw [List.take_succ_eq_append_getElem hi, dd_append]
  simp [dd, h]
theorem dd_take_le {R : List Pt} {i : Nat} : ∃ T, dd [] R = dd [] (R.take i) ++ T := by
  have h := dd_append (R.take i) (R.drop i) []
  rw [List.take_append_drop] at h
  rw [h]
  exact dd_prefix _ _
theorem dd_take_done {R : List Pt} {i m : Nat} (h : (dd [] (R.take i)).length = m) : (dd [] R).take m = dd [] (R.take i) := by
  obtain ⟨T, hT⟩ := dd_take_le (R := R) (i := i)
  rw [hT, ← h, List.take_left]
theorem dd_head {R : List Pt} (h : 0 < R.length) : (dd [] R)[0]? = some (R[0]).2 := by
  match R, h with
  | r :: R, _ =>
    obtain ⟨T, hT⟩ := dd_prefix R [r.2]
    simp [dd, hT]
theorem dd_length_le (R : List Pt) : ∀ out, (dd out R).length ≤ out.length + R.length := by
  induction R with
  | nil => intro out; simp [dd]
  | cons r R ih =>
    intro out
    simp only [dd]
    split
    · have := ih out; simp; omega
    · have := ih (out ++ [r.2]); simp at this ⊢; omega
theorem nodup_len {xs ys : List ByteArray} (hx : xs.Nodup) (hs : ∀ s ∈ xs, s ∈ ys) : xs.length ≤ ys.length := by
  induction xs generalizing ys with
  | nil => simp
  | cons x xs ih =>
    rw [List.nodup_cons] at hx
    have hy := hs x List.mem_cons_self
    obtain ⟨A, B, rfl⟩ := List.append_of_mem hy
    have : xs.length ≤ (A ++ B).length := ih hx.2 (fun s hs' => by
      have h1 := hs s (List.mem_cons_of_mem _ hs')
      have h2 : s ≠ x := fun e => hx.1 (e ▸ hs')
      rcases List.mem_append.1 h1 with h | h
      · exact List.mem_append_left _ h
      · rcases List.mem_cons.1 h with h | h
        · exact absurd h h2
        · exact List.mem_append_right _ h)
    simp at this ⊢
    omega
/-- the first point whose host is not yet named -/
theorem first_new {R : List Pt} {out : List ByteArray} (h : ∃ p ∈ R, ¬ p.2 ∈ out) : ∃ A r B, R = A ++ r :: B ∧ (∀ q ∈ A, q.2 ∈ out) ∧ ¬ r.2 ∈ out := by
  induction R with
  | nil => obtain ⟨p, hp, _⟩ := h; cases hp
  | cons x R ih =>
    by_cases hx : x.2 ∈ out
    · obtain ⟨p, hp, hpo⟩ := h
      rcases List.mem_cons.1 hp with rfl | hp
      · exact absurd hx hpo
      · obtain ⟨A, r, B, rfl, hA, hr⟩ := ih ⟨p, hp, hpo⟩
        refine ⟨x :: A, r, B, rfl, ?_, hr⟩
        intro q hq
        rcases List.mem_cons.1 hq with rfl | hq
        · exact hx
        · exact hA q hq
    · exact ⟨[], x, R, rfl, (fun q hq => absurd hq List.not_mem_nil), hx⟩
theorem dd_next {f : Nat} {R : List Pt} (hs : R.Pairwise (leF f)) {k : Nat} {p : Pt} (hp : p ∈ R) (hk : k ≤ (dd [] R).length) (hn : ¬ p.2 ∈ (dd [] R).take k) (hmin : ∀ q ∈ R, ¬ q.2 ∈ (dd [] R).take k → leF f p q) :
    k < (dd [] R).length ∧ (dd [] R).take (k + 1) = (dd [] R).take k ++ [p.2] := by
  obtain ⟨A, r, B, hR, hA, hr⟩ := first_new ⟨p, hp, hn⟩
  have hrR : r ∈ R := by rw [hR]; simp
  have hpr : p = r := by
    have h1 := hmin r hrR hr
    have h2 : leF f r p := by
      have hp' := hp
      rw [hR] at hp' hs
      rcases List.mem_append.1 hp' with h | h
      · exact absurd (hA p h) hn
      · rcases List.mem_cons.1 h with rfl | h
        · exact leF_refl _ _
        · exact (List.pairwise_cons.1 (List.pairwise_append.1 hs).2.1).1 p h
    exact leF_antisymm h1 h2
  subst hpr
  have hnod := dd_nodup R [] List.nodup_nil
  have hpA : ¬ p.2 ∈ dd [] A := fun h => by
    rcases (dd_mem A [] p.2).1 h with h | ⟨q, hq, e⟩
    · cases h
    · exact hr (e ▸ hA q hq)
  have hD : ∃ T, dd [] R = dd [] A ++ p.2 :: T := by
    rw [hR, dd_append]
    simp only [dd, hpA, if_false]
    obtain ⟨T, hT⟩ := dd_prefix B (dd [] A ++ [p.2])
    exact ⟨T, by rw [hT, List.append_assoc]; rfl⟩
  obtain ⟨T, hT⟩ := hD
  have hsub : ∀ s ∈ dd [] A, s ∈ (dd [] R).take k := fun s h => by
    rcases (dd_mem A [] s).1 h with h | ⟨q, hq, e⟩
    · cases h
    · exact e ▸ hA q hq
  have hge : (dd [] A).length ≤ k := by
    have := nodup_len (dd_nodup A [] List.nodup_nil) hsub
    rw [List.length_take] at this
    omega
  have hle : k ≤ (dd [] A).length := by
    refine Nat.le_of_not_lt fun h => hn ?_
    rw [hT, List.mem_take_iff_getElem]
    exact ⟨(dd [] A).length, by simp; omega, by simp⟩
  have hkk : k = (dd [] A).length := by omega
  subst hkk
  rw [hT]
  refine ⟨by simp, ?_⟩
  rw [List.take_left, List.take_append, List.take_of_length_le (by omega)]
  simp
theorem dd_all {R : List Pt} {k : Nat} (hk : k ≤ (dd [] R).length) (h : ∀ q ∈ R, q.2 ∈ (dd [] R).take k) : k = (dd [] R).length := by
  have hsub : ∀ s ∈ dd [] R, s ∈ (dd [] R).take k := fun s hs => by
    rcases (dd_mem R [] s).1 hs with hs | ⟨q, hq, e⟩
    · cases hs
    · exact e ▸ h q hq
  have := nodup_len (dd_nodup R [] List.nodup_nil) hsub
  rw [List.length_take] at this
  omega
theorem dd_filter (w : ByteArray) (R : List Pt) : ∀ out, dd (out.filter fun s => decide (s ≠ w)) (R.filter fun p => decide (p.2 ≠ w)) = (dd out R).filter fun s => decide (s ≠ w) := by
  induction R with
  | nil => intro out; rfl
  | cons r R ih =>
    intro out
    by_cases hw : r.2 = w
    · rw [List.filter_cons]
      simp only [hw, ne_eq, not_true_eq_false, decide_false, Bool.false_eq_true, if_false, dd]
      split
      · exact ih out
      · have := ih (out ++ [w])
        rw [List.filter_append] at this
        simpa using this
    · rw [List.filter_cons]
      simp only [hw, ne_eq, not_false_eq_true, decide_true, if_true, dd]
      have hm : r.2 ∈ (out.filter fun s => decide (¬ s = w)) ↔ r.2 ∈ out := by simp [List.mem_filter, hw]
      by_cases ho : r.2 ∈ out
      · rw [if_pos (hm.2 ho), if_pos ho]
        exact ih out
      · rw [if_neg (fun h => ho (hm.1 h)), if_neg ho]
        have := ih (out ++ [r.2])
        rw [List.filter_append] at this
        simpa [hw] using this

/-- the hosts of a ring in order, from a place on: P is any sorted list of its points -/
def hostsF (f : Nat) (P : List Pt) : List ByteArray := dd [] (rot f P)
/-- P is a ring of these hosts -/
def IsRing (c : Nat) (xs : List ByteArray) (P : List Pt) : Prop := P.Perm (pts c xs) ∧ P.Pairwise (leF 0)
theorem ring_one {c : Nat} {xs : List ByteArray} {P Q : List Pt} (h : IsRing c xs P) (k : IsRing c xs Q) : P = Q := sorted_unique h.2 k.2 (h.1.trans k.1.symm)
theorem ring_len {c : Nat} {xs : List ByteArray} {P : List Pt} (h : IsRing c xs P) : P.length = xs.length * c := by rw [h.1.length_eq, pts_length]
theorem ring_mem {c : Nat} {xs : List ByteArray} {P : List Pt} (h : IsRing c xs P) (hc : 0 < c) (f : Nat) (s : ByteArray) : s ∈ hostsF f P ↔ s ∈ xs := by
  unfold hostsF
  rw [dd_mem]
  constructor
  · rintro (h' | ⟨r, hr, rfl⟩)
    · cases h'
    · exact pts_host (h.1.mem_iff.1 ((rot_perm f P).mem_iff.1 hr))
  · intro hs
    obtain ⟨p, hp, e⟩ := pts_has hc hs
    exact Or.inr ⟨p, (rot_perm f P).mem_iff.2 (h.1.mem_iff.2 hp), e⟩
theorem ring_less {c : Nat} {xs : List ByteArray} {w : ByteArray} {P Q : List Pt} (h : IsRing c xs P) (k : IsRing c (xs.filter fun s => decide (s ≠ w)) Q) (f : Nat) : hostsF f Q = (hostsF f P).filter fun s => decide (s ≠ w) := by
  unfold hostsF
  rw [← dd_filter w (rot f P) []]
  simp only [List.filter_nil]
  congr 1
  refine sorted_unique (rot_sorted k.2) ((rot_sorted h.2).sublist List.filter_sublist) ?_
  refine (rot_perm f Q).trans (k.1.trans ?_)
  rw [← pts_filter]
  exact ((rot_perm f P).trans h.1).symm.filter _
theorem hosts_nodup (f : Nat) (P : List Pt) : (hostsF f P).Nodup := dd_nodup _ [] List.nodup_nil
theorem hosts_head {f : Nat} {P : List Pt} (h : P.Pairwise (leF 0)) (hp : 0 < P.length) : (hostsF f P)[0]? = some (P[start f P]'(start_lt hp)).2 := by
  unfold hostsF
  rw [dd_head (by rw [rot_length]; exact hp), rot_at h hp]
  congr 2
  simp only [Nat.add_zero, Nat.mod_eq_of_lt (start_lt hp)]
theorem filter_erase {xs : List ByteArray} (hn : xs.Nodup) {i : Nat} (hi : i < xs.length) : xs.take i ++ xs.drop (i + 1) = xs.filter fun s => decide (s ≠ xs[i]) := by
  have e : xs = xs.take i ++ xs[i] :: xs.drop (i + 1) := by rw [List.getElem_cons_drop, List.take_append_drop]
  have hn' := hn
  rw [e, List.nodup_append, List.nodup_cons] at hn'
  obtain ⟨_, ⟨h2, _⟩, h3⟩ := hn'
  generalize hw : xs[i] = w at *
  conv => rhs; rw [e]
  rw [List.filter_append, List.filter_cons]
  simp only [ne_eq, not_true_eq_false, decide_false, Bool.false_eq_true, if_false]
  congr 1
  · symm
    rw [List.filter_eq_self]
    intro a ha
    have := h3 a ha w List.mem_cons_self
    simpa using this
  · symm
    rw [List.filter_eq_self]
    intro a ha
    have : a ≠ w := fun e => h2 (e ▸ ha)
    simpa using this
theorem filter_snoc {xs : List ByteArray} {w : ByteArray} (h : ¬ w ∈ xs) : (xs ++ [w]).filter (fun s => decide (s ≠ w)) = xs := by
  rw [List.filter_append]
  have : xs.filter (fun s => decide (s ≠ w)) = xs := by
    rw [List.filter_eq_self]
    intro a ha
    have : a ≠ w := fun e => h (e ▸ ha)
    simpa using this
  rw [this]
  simp
theorem two_of {D xs : List ByteArray} (hm : ∀ s, s ∈ D ↔ s ∈ xs) (hn : xs.Nodup) (h2 : 2 ≤ xs.length) : ∃ x y T, D = x :: y :: T := by
  have h := nodup_len hn (fun s hs => (hm s).2 hs)
  match D, h with
  | [], h => simp at h; subst h; simp at h2
  | [x], h => simp at h; omega
  | x :: y :: T, _ => exact ⟨x, y, T, rfl⟩
theorem goes_head {x y w : ByteArray} {T : List ByteArray} (hd : (x :: y :: T).Nodup) : ((x :: y :: T).filter fun s => decide (s ≠ w))[0]? = some (if x = w then y else x) := by
  by_cases h : x = w
  · subst h
    have hy : y ≠ x := by
      rw [List.nodup_cons] at hd
      exact fun e => hd.1 (by simp [e])
    simp [hy]
  · simp [List.filter_cons, h]
theorem comes_head {D : List ByteArray} {x y w : ByteArray} (hy : D[0]? = some y) (hx : (D.filter fun s => decide (s ≠ w))[0]? = some x) (hne : y ≠ w) : x = y := by
  match D, hy with
  | d :: T, hy =>
    simp at hy
    subst hy
    simp [hne] at hx
    exact hx.symm
theorem one_host {c : Nat} {s : ByteArray} {P : List Pt} (h : IsRing c [s] P) (hc : 0 < c) (f : Nat) : hostsF f P = [s] := by
  have hm := ring_mem h hc f
  have hn := hosts_nodup f P
  match hD : hostsF f P with
  | [] => have := (hm s).2 (by simp); rw [hD] at this; cases this
  | [x] => have := (hm x).1 (by rw [hD]; simp); simp at this; rw [this]
  | x :: y :: T =>
    rw [hD] at hn hm
    have h1 := (hm x).1 (by simp)
    have h2 := (hm y).1 (by simp)
    simp at h1 h2
    subst h1
    subst h2
    simp at hn
end Lh
/- the order of the sort -/
def cfP (x y : Lh.Pt) : Int := if x.1 < y.1 then -1 else if y.1 < x.1 then 1 else if Lh.bl x.2 < Lh.bl y.2 then -1 else if Lh.bl y.2 < Lh.bl x.2 then 1 else 0
end Go.Proofs.YtmkdpchodeckgaaGreatDoor
