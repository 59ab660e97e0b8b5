/- Health, as lists: hosts, whether they are up, and how many looks of the other kind came last. -/
namespace Go.Proofs.YtkpjecpaejdgaabDoor
namespace Lh

/-- a host: its name, whether it is up, how many looks of the other kind came one behind the other -/
abbrev Hh := ByteArray × Bool × Nat
/-- the place of a host (the list's length: none) -/
def hix (l : List Hh) (s : ByteArray) : Nat := l.findIdx fun x => decide (x.1 = s)
/-- how many looks turn a host -/
def hedge (f r : Nat) (up : Bool) : Nat := if up then f else r
/-- a look at a host: what it is then, and whether it turned -/
def hlook (f r : Nat) (x : Hh) (well : Bool) : Hh × Bool :=
  if well = x.2.1 then ((x.1, x.2.1, 0), false)
  else if hedge f r x.2.1 ≤ x.2.2 + 1 then ((x.1, !x.2.1, 0), true) else ((x.1, x.2.1, x.2.2 + 1), false)
/-- hosts that are up -/
def hups (l : List Hh) : List ByteArray := (l.filter fun x => x.2.1).map fun x => x.1
/-- is it up? -/
def hup (l : List Hh) (s : ByteArray) : Bool := l.any fun x => decide (x.1 = s) && x.2.1
/-- bounds of edges, of hosts and of counts -/
structure HOk (f r : Nat) (l : List Hh) : Prop where
  f1 : 1 ≤ f
  f10 : f ≤ 10
  r1 : 1 ≤ r
  r10 : r ≤ 10
  len : l.length ≤ 12
  nodup : (l.map fun x => x.1).Nodup
  size : ∀ x ∈ l, x.1.size ≤ 300
  cnt : ∀ x ∈ l, x.2.2 < hedge f r x.2.1
theorem hlook_name (f r : Nat) (x : Hh) (well : Bool) : (hlook f r x well).1.1 = x.1 := by
  unfold hlook
  split
  · rfl
  · split <;> rfl
theorem hedge_pos {f r : Nat} (hf : 1 ≤ f) (hr : 1 ≤ r) (up : Bool) : 0 < hedge f r up := by
  unfold hedge
  split <;> omega
theorem hedge_le {f r : Nat} (hf : f ≤ 10) (hr : r ≤ 10) (up : Bool) : hedge f r up ≤ 10 := by
  unfold hedge
  split <;> omega
theorem hlook_cnt {f r : Nat} (hf : 1 ≤ f) (hr : 1 ≤ r) (x : Hh) (well : Bool) : (hlook f r x well).1.2.2 < hedge f r (hlook f r x well).1.2.1 := by
  unfold hlook
  split
  · exact hedge_pos hf hr _
  · split
    · exact hedge_pos hf hr _
    · rename_i h
      show x.2.2 + 1 < hedge f r x.2.1
      omega
theorem HOk.look {f r : Nat} {l : List Hh} (h : HOk f r l) {i : Nat} (hi : i < l.length) (well : Bool) : HOk f r (l.set i (hlook f r l[i] well).1) := by
  refine ⟨h.f1, h.f10, h.r1, h.r10, by simpa using h.len, ?_, fun x hx => ?_, fun x hx => ?_⟩
  · have e : (l.set i (hlook f r l[i] well).1).map (fun x => x.1) = l.map fun x => x.1 := by
      rw [List.map_set, hlook_name]
      apply List.ext_getElem
      · simp
      · intro j h1 h2
        rw [List.getElem_set]
        split
        · rename_i e
          subst e
          simp
        · rfl
    rw [e]
    exact h.nodup
  · rcases List.mem_or_eq_of_mem_set hx with hx | rfl
    · exact h.size x hx
    · rw [hlook_name]
      exact h.size _ (List.getElem_mem hi)
  · rcases List.mem_or_eq_of_mem_set hx with hx | rfl
    · exact h.cnt x hx
    · exact hlook_cnt h.f1 h.r1 _ _
theorem hix_lt {l : List Hh} {s : ByteArray} : hix l s < l.length ↔ ∃ x ∈ l, x.1 = s := by
  unfold hix
  rw [List.findIdx_lt_length]
  simp
theorem hix_get {l : List Hh} {s : ByteArray} (h : hix l s < l.length) : (l[hix l s]).1 = s := by
  have := List.findIdx_getElem (xs := l) (p := fun x : Hh => decide (x.1 = s)) (w := h)
  exact of_decide_eq_true this
theorem hix_first {l : List Hh} {s : ByteArray} {j : Nat} (hj : j < l.length) (h : j < hix l s) : (l[j]).1 ≠ s := by
  have := List.not_of_lt_findIdx h
  simpa using this
theorem hix_le (l : List Hh) (s : ByteArray) : hix l s ≤ l.length := List.findIdx_le_length
theorem HOk.add {f r : Nat} {l : List Hh} (h : HOk f r l) {s : ByteArray} (hl : l.length < 12) (hs : s.size ≤ 300) (hn : ¬ hix l s < l.length) : HOk f r (l ++ [(s, false, 0)]) := by
  rw [hix_lt] at hn
  refine ⟨h.f1, h.f10, h.r1, h.r10, by simp; omega, ?_, fun x hx => ?_, fun x hx => ?_⟩
  · rw [List.map_append, List.nodup_append]
    refine ⟨h.nodup, by simp, fun a ha b hb e => ?_⟩
    simp at hb
    subst hb
    subst e
    obtain ⟨x, hx, e⟩ := List.mem_map.1 ha
    exact hn ⟨x, hx, e⟩
  · rcases List.mem_append.1 hx with hx | hx
    · exact h.size x hx
    · simp at hx
      subst hx
      exact hs
  · rcases List.mem_append.1 hx with hx | hx
    · exact h.cnt x hx
    · simp at hx
      subst hx
      exact hedge_pos h.f1 h.r1 _
theorem HOk.remove {f r : Nat} {l : List Hh} (h : HOk f r l) (i : Nat) : HOk f r (l.eraseIdx i) := by
  have hs := List.eraseIdx_sublist l i
  refine ⟨h.f1, h.f10, h.r1, h.r10, Nat.le_trans hs.length_le h.len, h.nodup.sublist (hs.map _), fun x hx => h.size x (hs.mem hx), fun x hx => h.cnt x (hs.mem hx)⟩
/-- the hosts of a new one -/
def hnew (xs : List ByteArray) : List Hh := xs.map fun s => (s, true, 0)
theorem hnew_ok {f r : Nat} {xs : List ByteArray} (hf1 : 1 ≤ f) (hf : f ≤ 10) (hr1 : 1 ≤ r) (hr : r ≤ 10) (hl : xs.length ≤ 12) (hn : xs.Nodup) (hs : ∀ s ∈ xs, s.size ≤ 300) : HOk f r (hnew xs) := by
  refine ⟨hf1, hf, hr1, hr, by simpa [hnew] using hl, ?_, fun x hx => ?_, fun x hx => ?_⟩
  · have e : (hnew xs).map (fun x => x.1) = xs := by simp [hnew, Function.comp_def]
    rw [e]
    exact hn
  · obtain ⟨s, h, rfl⟩ := List.mem_map.1 hx
    exact hs s h
  · obtain ⟨s, h, rfl⟩ := List.mem_map.1 hx
    exact hedge_pos hf1 hr1 _
end Lh
end Go.Proofs.YtkpjecpaejdgaabDoor
