/- Filling evenly, as numbers: how many keys a host may have, the first one that has fewer, where all keys go. -/
import Derived.Test.YtmkdpchodeckgaaGreatDoorM0
import Derived.Maps.OwnOps
import Derived.Maps.OwnSet
import Derived.Carry
namespace Go.Proofs.YtmkdpchodeckgaaGreatDoor
namespace Lh

/-- how many keys a host may have -/
def capN (K H p : Nat) : Nat := (K * (100 + p) + 100 * H - 1) / (100 * H)
theorem capN_lt {K H p n : Nat} (hH : 0 < H) : n < capN K H p ↔ n * 100 * H < K * (100 + p) := by
  unfold capN
  have e : n * 100 * H = n * (100 * H) := Nat.mul_assoc _ _ _
  rw [e]
  generalize K * (100 + p) = X
  have hp : 0 < 100 * H := by omega
  generalize 100 * H = Y at *
  rw [Nat.lt_iff_add_one_le, Nat.le_div_iff_mul_le hp, Nat.add_mul]
  omega
theorem capN_le {K H p : Nat} (hH : 0 < H) (hK : K ≤ 500) (hp : p ≤ 100) : capN K H p ≤ 1000 := by
  by_cases h : capN K H p ≤ 1000
  · exact h
  · have h1 : 1000 < capN K H p := by omega
    have h2 := (capN_lt hH).1 h1
    have h3 : K * (100 + p) ≤ 500 * 200 := Nat.mul_le_mul hK (by omega)
    have h4 : 1000 * 100 * 1 ≤ 1000 * 100 * H := Nat.mul_le_mul_left _ hH
    omega
theorem capN_room {K H p : Nat} (hH : 0 < H) : K ≤ capN K H p * H := by
  have h : ¬ capN K H p < capN K H p := Nat.lt_irrefl _
  rw [capN_lt hH] at h
  generalize capN K H p = n at *
  have h1 : K * 100 ≤ K * (100 + p) := Nat.mul_le_mul_left _ (by omega)
  have e : n * 100 * H = n * H * 100 := by rw [Nat.mul_right_comm]
  omega

/-- the place of a text in a list -/
def ixT (xs : List ByteArray) (s : ByteArray) : Nat := xs.findIdx fun x => decide (x = s)
theorem ixT_lt {xs : List ByteArray} {s : ByteArray} (h : s ∈ xs) : ixT xs s < xs.length := List.findIdx_lt_length_of_exists ⟨s, h, by simp⟩
theorem ixT_get {xs : List ByteArray} {s : ByteArray} (h : s ∈ xs) : xs[ixT xs s]'(ixT_lt h) = s := by
  have := List.findIdx_getElem (xs := xs) (p := fun x => decide (x = s)) (w := ixT_lt h)
  unfold ixT
  simpa using this
theorem ixT_first {xs : List ByteArray} {s : ByteArray} {j : Nat} (hj : j < xs.length) (h : j < ixT xs s) : xs[j] ≠ s := by
  have := List.not_of_lt_findIdx h
  simpa using this
theorem ixT_inj {xs : List ByteArray} {s t : ByteArray} (hs : s ∈ xs) (ht : t ∈ xs) (h : ixT xs s = ixT xs t) : s = t := by
  rw [← ixT_get hs, ← ixT_get ht]
  congr 1

theorem snoc_ind {α : Type} {P : List α → Prop} (h0 : P []) (h1 : ∀ l x, P l → P (l ++ [x])) (l : List α) : P l := by
  have h : ∀ r : List α, P r.reverse := fun r => by
    induction r with
    | nil => exact h0
    | cons x r ih => rw [List.reverse_cons]; exact h1 _ _ ih
  have := h l.reverse
  rwa [List.reverse_reverse] at this

/-- one key more: it goes to the first of its hosts that has fewer than may be -/
def put1 (most : Nat) (out : List Nat) (o : List Nat) : List Nat :=
  match o.find? fun h => decide (out.count h < most) with
  | some h => out ++ [h]
  | none => out
/-- where all go -/
def places (most : Nat) (os : List (List Nat)) : List Nat := os.foldl (put1 most) []
theorem places_nil (most : Nat) : places most [] = [] := rfl
theorem places_snoc (most : Nat) (os : List (List Nat)) (o : List Nat) : places most (os ++ [o]) = put1 most (places most os) o := by simp [places, List.foldl_append]
theorem put1_some {most : Nat} {out o : List Nat} {h : Nat} (e : o.find? (fun h => decide (out.count h < most)) = some h) : put1 most out o = out ++ [h] := by
  unfold put1
  rw [e]
/-- the scan's state: the first j of o are full -/
theorem find_at {f : Nat → Bool} {o : List Nat} {j : Nat} (hj : j < o.length) (hp : ∀ i (h : i < o.length), i < j → f o[i] = false) (hf : f o[j] = true) : o.find? f = some o[j] := by
  rw [List.find?_eq_some_iff_getElem]
  exact ⟨hf, j, hj, rfl, fun i hi => by simp [hp i (by omega) hi]⟩
theorem find_none {f : Nat → Bool} {o : List Nat} (hp : ∀ i (h : i < o.length), f o[i] = false) : o.find? f = none := by
  rw [List.find?_eq_none]
  intro x hx
  obtain ⟨i, hi, rfl⟩ := List.getElem_of_mem hx
  simp [hp i hi]
theorem put1_mem {most : Nat} {out o : List Nat} {H : Nat} (hout : ∀ x ∈ out, x < H) (ho : ∀ x ∈ o, x < H) : ∀ x ∈ put1 most out o, x < H := by
  unfold put1
  split
  · rename_i h e
    intro x hx
    rcases List.mem_append.1 hx with hx | hx
    · exact hout x hx
    · simp at hx
      subst hx
      exact ho _ (List.mem_of_find?_eq_some e)
  · exact hout
theorem put1_len {most : Nat} (out o : List Nat) : (put1 most out o).length ≤ out.length + 1 := by
  unfold put1
  split <;> simp
theorem places_len (most : Nat) (os : List (List Nat)) : (places most os).length ≤ os.length := by
  refine snoc_ind (P := fun os => (places most os).length ≤ os.length) (by simp [places]) (fun os o ih => ?_) os
  rw [places_snoc]
  have := put1_len (most := most) (places most os) o
  simp
  omega
theorem places_mem {most : Nat} {os : List (List Nat)} {H : Nat} (h : ∀ o ∈ os, ∀ x ∈ o, x < H) : ∀ x ∈ places most os, x < H := by
  refine snoc_ind (P := fun os => (∀ o ∈ os, ∀ x ∈ o, x < H) → ∀ x ∈ places most os, x < H) (by simp [places]) (fun os o ih h => ?_) os h
  rw [places_snoc]
  exact put1_mem (ih fun o ho => h o (by simp [ho])) (h o (by simp))
theorem places_cap {most : Nat} (os : List (List Nat)) (h : Nat) : (places most os).count h ≤ most := by
  refine snoc_ind (P := fun os => (places most os).count h ≤ most) (by simp [places]) (fun os o ih => ?_) os
  rw [places_snoc]
  unfold put1
  split
  · rename_i g e
    have hg := List.find?_some e
    rw [List.count_append]
    by_cases e2 : g = h
    · subst e2
      simp at hg
      simp
      omega
    · simp [e2, ih]
  · exact ih
/-- where all hosts have so many, there are so many keys -/
theorem full_len (most : Nat) : ∀ (H : Nat) (out : List Nat), (∀ x ∈ out, x < H) → (∀ h, h < H → most ≤ out.count h) → most * H ≤ out.length
  | 0, _, _, _ => by simp
  | H + 1, out, h1, h2 => by
    have e1 : out.length = out.countP (fun x => x == H) + out.countP (fun x => !decide (x = H)) := by
      have := List.length_eq_countP_add_countP (l := out) (fun x => x == H)
      simpa using this
    have e2 : out.countP (fun x => !decide (x = H)) = (out.filter fun x => !decide (x = H)).length := by rw [List.countP_eq_length_filter]
    have e3 : out.countP (fun x => x == H) = out.count H := rfl
    have ih := full_len most H (out.filter fun x => !decide (x = H)) (fun x hx => by
      rw [List.mem_filter] at hx
      have := h1 x hx.1
      have h4 : x ≠ H := by simpa using hx.2
      omega) (fun h hh => by
      rw [List.count_filter (by simp; omega)]
      exact h2 h (by omega))
    have := h2 H (by omega)
    rw [Nat.mul_add, Nat.mul_one]
    omega
theorem find_free {most H : Nat} {out o : List Nat} (hout : ∀ x ∈ out, x < H) (ho : ∀ h, h < H → h ∈ o) (hl : out.length < most * H) : ∃ h, o.find? (fun h => decide (out.count h < most)) = some h := by
  cases e : o.find? (fun h => decide (out.count h < most)) with
  | some h => exact ⟨h, rfl⟩
  | none =>
    rw [List.find?_eq_none] at e
    have := full_len most H out hout (fun h hh => by
      have := e h (ho h hh)
      simpa using this)
    omega
theorem places_full {most H : Nat} (os : List (List Nat)) (h1 : ∀ o ∈ os, ∀ x ∈ o, x < H) (h2 : ∀ o ∈ os, ∀ h, h < H → h ∈ o) (hl : os.length ≤ most * H) : (places most os).length = os.length := by
  refine snoc_ind (P := fun os => (∀ o ∈ os, ∀ x ∈ o, x < H) → (∀ o ∈ os, ∀ h, h < H → h ∈ o) → os.length ≤ most * H → (places most os).length = os.length) (by simp [places]) (fun os o ih h1 h2 hl => ?_) os h1 h2 hl
  have hs : os.length < most * H := by simp at hl; omega
  have e := ih (fun o ho => h1 o (by simp [ho])) (fun o ho => h2 o (by simp [ho])) (by omega)
  obtain ⟨h, eh⟩ := find_free (most := most) (H := H) (out := places most os) (o := o) (places_mem fun o ho => h1 o (by simp [ho])) (h2 o (by simp)) (by omega)
  rw [places_snoc, put1_some eh]
  simp [e]
/-- how many each host has -/
def hasL (H : Nat) (out : List Nat) : List Int := (List.range H).map fun h => ((out.count h : Nat) : Int)
theorem hasL_length (H : Nat) (out : List Nat) : (hasL H out).length = H := by simp [hasL]
theorem hasL_get (H : Nat) (out : List Nat) {h : Nat} (hh : h < (hasL H out).length) : (hasL H out)[h] = ((out.count h : Nat) : Int) := by simp [hasL]
theorem hasL_nil (H : Nat) : hasL H [] = List.replicate H 0 := by
  apply List.ext_getElem
  · simp [hasL]
  · intro i h1 h2
    simp [hasL]
theorem hasL_snoc (H : Nat) (out : List Nat) (x : Nat) : hasL H (out ++ [x]) = (hasL H out).set x (((out.count x : Nat) : Int) + 1) := by
  apply List.ext_getElem
  · simp [hasL]
  · intro i h1 h2
    rw [hasL_get, List.getElem_set]
    by_cases e : x = i
    · subst e
      simp [List.count_append]
    · rw [if_neg e, hasL_get]
      simp [List.count_append, e]
/-- What is wrong with a list of keys: the first one that is ahead of itself. -/
def KeyFault (ks : List Nat) (c : Nat) (pl : Int) : Prop :=
  (ks.Nodup ∧ c = 0 ∧ pl = -1) ∨ ∃ i, ∃ h : i < ks.length, (ks.take i).Nodup ∧ ks[i] ∈ ks.take i ∧ c = 6 ∧ pl = i
theorem take_nodup {ks : List Nat} {i : Nat} (h : i < ks.length) (hn : (ks.take i).Nodup) (hm : ¬ ks[i] ∈ ks.take i) : (ks.take (i + 1)).Nodup := by
  rw [List.take_succ_eq_append_getElem h, List.nodup_append]
  refine ⟨hn, by simp, fun a ha b hb => ?_⟩
  simp at hb
  subst hb
  intro e
  subst e
  exact hm ha
theorem keyFault_scan (ks : List Nat) : ∀ n, n ≤ ks.length → (ks.take n).Nodup ∨ ∃ i, ∃ h : i < ks.length, (ks.take i).Nodup ∧ ks[i] ∈ ks.take i
  | 0, _ => Or.inl (by simp)
  | n + 1, hn => by
    rcases keyFault_scan ks n (by omega) with h | h
    · by_cases hm : ks[n] ∈ ks.take n
      · exact Or.inr ⟨n, by omega, h, hm⟩
      · exact Or.inl (take_nodup (by omega) h hm)
    · exact Or.inr h
theorem keyFault_ex (ks : List Nat) : ∃ c pl, KeyFault ks c pl := by
  rcases keyFault_scan ks ks.length (Nat.le_refl _) with h | ⟨i, hi, h1, h2⟩
  · rw [List.take_length] at h
    exact ⟨0, -1, Or.inl ⟨h, rfl, rfl⟩⟩
  · exact ⟨6, i, Or.inr ⟨i, hi, h1, h2, rfl, rfl⟩⟩
theorem keyFault_none {ks : List Nat} {c : Nat} {pl : Int} (hf : KeyFault ks c pl) (h : ks.Nodup) : c = 0 ∧ pl = -1 := by
  rcases hf with ⟨_, h1, h2⟩ | ⟨i, hi, _, hm, _⟩
  · exact ⟨h1, h2⟩
  · exfalso
    have h3 : (ks.take (i + 1)).Nodup := h.sublist (List.take_sublist _ _)
    rw [List.take_succ_eq_append_getElem hi, List.nodup_append] at h3
    exact h3.2.2 _ hm _ (by simp) rfl
theorem keyFault_at {ks : List Nat} {c : Nat} {pl : Int} (hf : KeyFault ks c pl) {i : Nat} (hi : i < ks.length) (hn : (ks.take i).Nodup) (hm : ks[i] ∈ ks.take i) : c = 6 ∧ pl = i := by
  have part : ∀ a b, ∀ ha : a < ks.length, a < b → ks[a] ∈ ks.take a → ¬ (ks.take b).Nodup := fun a b ha hab hma hnb => by
    have h3 : (ks.take (a + 1)).Nodup := hnb.sublist (List.take_sublist_take_left (by omega))
    rw [List.take_succ_eq_append_getElem ha, List.nodup_append] at h3
    exact h3.2.2 _ hma _ (by simp) rfl
  rcases hf with ⟨h, _⟩ | ⟨j, hj, hnj, hmj, h1, h2⟩
  · exact absurd (h.sublist (List.take_sublist _ _)) (part i (i + 1) hi (by omega) hm)
  · rcases Nat.lt_trichotomy i j with e | e | e
    · exact absurd hnj (part i j hi e hm)
    · subst e; exact ⟨h1, h2⟩
    · exact absurd hn (part j i hj e hmj)
end Lh
end Go.Proofs.YtmkdpchodeckgaaGreatDoor

/- Maps of the call's own: numbers by name, and keys that were seen. -/
namespace Go.Proofs.YtmkdpchodeckgaaGreatDoor
open Go.RowKit Go.Maps Go.ChangeMaps

theorem fkeyS (s : ByteArray) (hs : s.size ≤ 300) : keyOf Tryz.prog 9 (.string s) = some (.string s.data.toList) := Go.WideMaps.keyOf_string_mk Tryz.underlying9 (Nat.le_trans hs (by unfold maxLen; omega))
theorem wfU {z : Nat} (h : z < 18446744073709551616) : (Lit.int .u64 (z : Nat)).wf = true := by
  simp [Lit.wf, IntKind.min, IntKind.max, IntKind.signed, IntKind.bits]
  omega
theorem fkeyU (z : Nat) (h : z < 18446744073709551616) : keyOf Tryz.prog 32 (.int .u64 (z : Nat)) = some (.int .u64 (z : Nat)) := keyOf_int_mk Tryz.underlying32 (wfU h)
theorem wfI {n : Nat} (h : n ≤ 1000000) : (Lit.int .i64 (n : Nat)).wf = true := by
  simp [Lit.wf, IntKind.min, IntKind.max, IntKind.signed, IntKind.bits]
  omega
theorem strs_lit_ne {s t : ByteArray} (h : s ≠ t) : Lit.string s.data.toList ≠ Lit.string t.data.toList := by
  intro e
  simp only [Lit.string.injEq] at e
  apply h
  cases s
  cases t
  simpa using e
theorem ownsMap_later {k : TypeId} {R : Value → Option (DataW Unit × List MemPlace)} {w w' : World} {b n : Nat} {D : DataW Unit} (h : w.ownsMap Tryz.prog k R b n D) (he : w'.heap[b]? = w.heap[b]?) : w'.ownsMap Tryz.prog k R b n D := by
  obtain ⟨es, clock, hb, r⟩ := h
  exact ⟨es, clock, he.trans hb, r⟩

/-- a datum that has a number for each name -/
def NumD (D : DataW Unit) (f : ByteArray → Nat) : Prop := IsMap D ∧ ∀ s : ByteArray, D.atKey (.string s.data.toList) (.lit (.int .i64 0)) = .lit (.int .i64 (f s : Nat))
theorem NumD.zero : NumD (.map []) fun _ => 0 := ⟨isMap_empty, fun _ => rfl⟩
theorem NumD.put {D : DataW Unit} {f : ByteArray → Nat} (h : NumD D f) (s : ByteArray) (v : Nat) : NumD (D.put (.string s.data.toList) (.lit (.int .i64 (v : Nat)))) fun t => if t = s then v else f t := by
  refine ⟨h.1.put _ _, fun t => ?_⟩
  by_cases e : t = s
  · subst e
    simp only [if_true]
    exact atKey_put_same (k := .string _) h.1 (by simp [WideAt.IsKeyLit]) _ _
  · simp only [if_neg e]
    rw [atKey_put_other (strs_lit_ne e)]
    exact h.2 t
/-- a map from names to numbers -/
def NumMap (W : World) (b n : Nat) (f : ByteArray → Nat) : Prop := ∃ D : DataW Unit, W.ownsMap Tryz.prog 9 (plainElem Tryz.prog 3) b n D ∧ NumD D f
theorem NumMap.lt {W : World} {b n : Nat} {f : ByteArray → Nat} (h : NumMap W b n f) : b < W.heap.size := by
  obtain ⟨D, h, _⟩ := h
  exact h.lt
theorem NumMap.same {W W' : World} {b n : Nat} {f : ByteArray → Nat} (h : NumMap W b n f) (he : W'.heap[b]? = W.heap[b]?) : NumMap W' b n f := by
  obtain ⟨D, h1, h2⟩ := h
  exact ⟨D, ownsMap_later h1 he, h2⟩
theorem NumMap.later {W W' : World} {b n : Nat} {f : ByteArray → Nat} (h : NumMap W b n f) (hb : Below W.heap.size W W') : NumMap W' b n f := h.same (hb.block b h.lt)
theorem NumMap.congr {W : World} {b n : Nat} {f g : ByteArray → Nat} (h : NumMap W b n f) (e : ∀ t, f t = g t) : NumMap W b n g := by
  have : f = g := funext e
  rwa [← this]
theorem NumMap.made (w : World) : NumMap (w.alloc (.map #[] 0)) w.heap.size 0 fun _ => 0 := ⟨_, World.ownsMap_made w _ _ _, NumD.zero⟩
/-- a datum that is a set of keys -/
def SetD (D : DataW Unit) (ks : List Nat) : Prop := IsMap D ∧ ∀ z : Nat, has D (.int .u64 (z : Nat)) = decide (z ∈ ks)
theorem SetD.zero : SetD (.map []) [] := ⟨isMap_empty, fun _ => by simp [has]⟩
theorem SetD.put {D : DataW Unit} {ks : List Nat} (h : SetD D ks) (x : Nat) : SetD (D.put (.int .u64 (x : Nat)) (.agg [])) (ks ++ [x]) := by
  refine ⟨h.1.put _ _, fun z => ?_⟩
  by_cases e : z = x
  · subst e
    rw [has_put_same (k := .int .u64 _) h.1 (by simp [WideAt.IsKeyLit])]
    simp
  · have hne : Lit.int .u64 (z : Nat) ≠ Lit.int .u64 (x : Nat) := by
      intro e2
      simp only [Lit.int.injEq, true_and] at e2
      omega
    rw [has_put_other hne, h.2 z]
    simp [e]
end Go.Proofs.YtmkdpchodeckgaaGreatDoor
