/- The model of health: what a look is, and what it leaves in memory. -/
import Derived.Test.YtmdckddenelneaaGreatDoorM4
import Derived.Test.YtmdckddenelneaaGreatDoorM5
namespace Go.Proofs.YtmdckddenelneaaGreatDoor
open Go.RowKit

theorem trail_nil (up : Bool) : trail up [] = 0 := rfl
theorem trail_snoc (up : Bool) (l : List Bool) (b : Bool) : trail up (l ++ [b]) = if b = up then 0 else trail up l + 1 := by
  unfold trail
  rw [List.reverse_append]
  by_cases e : b = up
  · subst e
    simp
  · have hb : (b != up) = true := by simpa using e
    simp [hb, e]
/-- the scan from the end: the first n are of the other kind -/
theorem trail_at {up : Bool} {l : List Bool} {n : Nat} (hn : n < l.length) (hp : ∀ j (h : j < l.length), j < n → l[l.length - 1 - j] ≠ up) (he : l[l.length - 1 - n] = up) : trail up l = n := by
  induction n generalizing l with
  | zero =>
    obtain ⟨l', b, rfl⟩ : ∃ l' b, l = l' ++ [b] := ⟨l.dropLast, l.getLast (by intro e; subst e; simp at hn), (List.dropLast_concat_getLast _).symm⟩
    rw [trail_snoc]
    have : b = up := by simpa using he
    simp [this]
  | succ n ih =>
    obtain ⟨l', b, rfl⟩ : ∃ l' b, l = l' ++ [b] := ⟨l.dropLast, l.getLast (by intro e; subst e; simp at hn), (List.dropLast_concat_getLast _).symm⟩
    have hb : b ≠ up := by
      have := hp 0 (by simp) (by omega)
      simpa using this
    rw [trail_snoc, if_neg hb]
    have hl : n < l'.length := by simp at hn; omega
    have h3 : trail up l' = n := ih hl (fun j h hj => by
      have h1 := hp (j + 1) (by simp; omega) (by omega)
      have e1 : (l' ++ [b]).length - 1 - (j + 1) = l'.length - 1 - j := by simp; omega
      have e2 : (l' ++ [b])[(l' ++ [b]).length - 1 - (j + 1)]'(by simp; omega) = l'[l'.length - 1 - j]'(by omega) := by
        simp only [e1]
        rw [List.getElem_append_left (by omega)]
      rwa [e2] at h1) (by
      have e1 : (l' ++ [b]).length - 1 - (n + 1) = l'.length - 1 - n := by simp; omega
      have e2 : (l' ++ [b])[(l' ++ [b]).length - 1 - (n + 1)]'(by simp; omega) = l'[l'.length - 1 - n]'(by omega) := by
        simp only [e1]
        rw [List.getElem_append_left (by omega)]
      rwa [e2] at he)
    rw [h3]
theorem takeWhile_whole {α : Type} (p : α → Bool) : ∀ l : List α, (∀ b ∈ l, p b = true) → l.takeWhile p = l
  | [], _ => rfl
  | b :: l, h => by
    rw [List.takeWhile_cons, if_pos (h b (by simp)), takeWhile_whole p l fun c hc => h c (by simp [hc])]
theorem trail_all {up : Bool} {l : List Bool} (hp : ∀ j (h : j < l.length), l[l.length - 1 - j] ≠ up) : trail up l = l.length := by
  unfold trail
  rw [takeWhile_whole _ l.reverse fun b hb => ?_]
  · simp
  · rw [List.mem_reverse] at hb
    obtain ⟨j, hj, rfl⟩ := List.getElem_of_mem hb
    have h1 := hp (l.length - 1 - j) (by omega)
    have e : l.length - 1 - (l.length - 1 - j) = j := by omega
    simp only [e] at h1
    simpa using h1

/-- what a look makes of a host of the model -/
def lookM (f r : Nat) (x : Mh) (well : Bool) (v : Value) : Mh :=
  if Lh.hedge f r x.up ≤ trail x.up (x.looks ++ [well]) then ⟨x.name, !x.up, [], .slice none 0 0⟩ else ⟨x.name, x.up, x.looks ++ [well], v⟩
def turnM (f r : Nat) (x : Mh) (well : Bool) : Bool := decide (Lh.hedge f r x.up ≤ trail x.up (x.looks ++ [well]))
theorem lookM_st {f r : Nat} (hf : 1 ≤ f) (hr : 1 ≤ r) (x : Mh) (well : Bool) (v : Value) : ((lookM f r x well v).st, turnM f r x well) = Lh.hlook f r x.st well := by
  unfold lookM turnM Lh.hlook
  have hp := Lh.hedge_pos hf hr x.up
  rw [trail_snoc]
  by_cases e : well = x.up
  · have e2 : well = x.st.2.1 := e
    rw [if_pos e, if_pos e2, if_neg (by omega)]
    have h1 : trail x.up (x.looks ++ [well]) = 0 := by rw [trail_snoc, if_pos e]
    simp only [Mh.st, h1]
    simp
    omega
  · have e2 : ¬ well = x.st.2.1 := e
    rw [if_neg e, if_neg e2]
    by_cases h : Lh.hedge f r x.up ≤ trail x.up x.looks + 1
    · have h' : Lh.hedge f r x.st.2.1 ≤ x.st.2.2 + 1 := h
      rw [if_pos h, if_pos h']
      simp [Mh.st, h, trail_nil]
    · have h' : ¬ Lh.hedge f r x.st.2.1 ≤ x.st.2.2 + 1 := h
      rw [if_neg h, if_neg h']
      have h1 : trail x.up (x.looks ++ [well]) = trail x.up x.looks + 1 := by rw [trail_snoc, if_neg e]
      simp [Mh.st, h, h1]
theorem flatH_set (L : List Mh) : ∀ (k : Nat) (x : Mh), k < L.length → flatH (L.set k x) = (((flatH L).set (k * 3) (.string x.name)).set (k * 3 + 1) (.bool x.up)).set (k * 3 + 2) x.val := by
  induction L with
  | nil => intro k x h; cases h
  | cons p P ih =>
    intro k x h
    have e : flatH (p :: P) = .string p.name :: .bool p.up :: p.val :: flatH P := rfl
    match k, h with
    | 0, _ => rfl
    | k + 1, h =>
      rw [List.set_cons_succ, e]
      have e2 : flatH (p :: P.set k x) = .string p.name :: .bool p.up :: p.val :: flatH (P.set k x) := rfl
      rw [e2, ih k x (by simpa using h)]
      rw [show (k + 1) * 3 = k * 3 + 1 + 1 + 1 by omega]
      rfl
/-- one cell of a row is set -/
theorem owns_set {w : World} {base : Nat} {e : TypeId} {size g n cap : Nat} {xs : List Value} (h : w.ownsRow base e size (.slice (some ⟨g, 0, none⟩) n cap) n xs) (i : Nat) (u : Value) : (w.setCell ⟨g, i, none⟩ u).ownsRow base e size (.slice (some ⟨g, 0, none⟩) n cap) n (xs.set i u) := by
  obtain ⟨h1, ⟨h2, _⟩ | ⟨g', cap', cur, e1, e2, e3, e4, e5, e6, e7⟩⟩ := h
  · cases h2
  · cases e1
    refine ⟨by simpa using h1, Or.inr ⟨g, cap, cur.setIfInBounds i u, rfl, e2, ?_, e4, e5, by simpa using e6, ?_⟩⟩
    · exact heap_setCell_same w g i _ _ u e3
    · rw [Array.toList_setIfInBounds, List.take_set, e7]
theorem MH.looked {W w' : World} {m f r : Nat} {L : List Mh} {g cap k : Nat} (h : MH W m f r L (.slice (some ⟨g, 0, none⟩) L.length cap)) (hk : k < L.length) (x : Mh) (hs : ∀ b, b < W.heap.size → b ≠ g → some b ≠ (L[k]).val.ownBlock → w'.heap[b]? = W.heap[b]?)
    (hrow : w'.ownsRow (m + 1) 94 3 (.slice (some ⟨g, 0, none⟩) L.length cap) L.length (flatH (L.set k x))) (hlk : w'.ownsRow (m + 1) 4 1 x.val x.looks.length (x.looks.map Value.bool)) (hat : x.val.ownBlock = none ∨ x.val.ownBlock = (L[k]).val.ownBlock ∨ ∃ q, x.val.ownBlock = some q ∧ W.heap.size ≤ q) :
    MH w' m f r (L.set k x) (.slice (some ⟨g, 0, none⟩) L.length cap) ∧ ∀ b, MFoot m (L.set k x) (.slice (some ⟨g, 0, none⟩) L.length cap) b → MFoot m L (.slice (some ⟨g, 0, none⟩) L.length cap) b ∨ W.heap.size ≤ b := by
  have hm := h.mlt
  have hg := (h.own.lt g rfl).1
  have hkm := List.getElem_mem hk
  have hvm : ∀ b, b ≤ m → some b ≠ (L[k]).val.ownBlock := fun b hb e => by
    have := ((h.looks _ hkm).lt b e.symm).1
    omega
  have hmb := hs m hm (by omega) (hvm m (Nat.le_refl _))
  -- the other hosts
  have hoth : ∀ j (hj : j < L.length), j ≠ k → ∀ q, (L[j]).val.ownBlock = some q → q ≠ g ∧ some q ≠ (L[k]).val.ownBlock ∧ q < W.heap.size := fun j hj hjk q e => by
    refine ⟨fun e2 => ?_, fun e2 => ?_, ((h.looks _ (List.getElem_mem hj)).lt q e).2⟩
    · rcases h.apart _ (List.getElem_mem hj) with h1 | h1
      · rw [e] at h1; cases h1
      · exact h1 (by rw [e, e2]; rfl)
    · rcases Nat.lt_or_ge j k with h1 | h1
      · rcases List.pairwise_iff_getElem.1 h.pair j k hj hk h1 with h2 | h2
        · rw [e] at h2; cases h2
        · exact h2 (by rw [e, e2])
      · rcases List.pairwise_iff_getElem.1 h.pair k j hk hj (by omega) with h2 | h2
        · rw [h2] at e2; cases e2
        · exact h2 (by rw [e, ← e2])
  have hnew : ∀ j (hj : j < L.length), j ≠ k → x.val.ownBlock = none ∨ x.val.ownBlock ≠ (L[j]).val.ownBlock := fun j hj hjk => by
    rcases hat with h1 | h1 | ⟨q, h1, h2⟩
    · exact Or.inl h1
    · cases e3 : x.val.ownBlock with
      | none => exact Or.inl rfl
      | some q => exact Or.inr fun e2 => (hoth j hj hjk q e2.symm).2.1 (by rw [← h1, e3])
    · refine Or.inr fun e2 => ?_
      have := (hoth j hj hjk q (by rw [← e2, h1])).2.2
      omega
  refine ⟨⟨?_, ?_, ?_, fun k => ?_, by rw [List.length_set]; exact hrow, fun y hy => ?_, fun y hy => ?_, ?_⟩, fun b hb => ?_⟩
  · rw [World.cell?_of_block (w := W) (w' := w') (a := ⟨m, 0, none⟩) hmb]; exact h.c0
  · rw [World.cell?_of_block (w := W) (w' := w') (a := ⟨m, 1, none⟩) hmb]; exact h.c1
  · rw [World.cell?_of_block (w := W) (w' := w') (a := ⟨m, 2, none⟩) hmb]; exact h.c2
  · rw [World.frozen?_of_block (w := W) (w' := w') (a := ⟨m, k, none⟩) hmb]; exact h.fz k
  · obtain ⟨j, hj, rfl⟩ := List.getElem_of_mem hy
    rw [List.getElem_set]
    by_cases e : k = j
    · rw [if_pos e]; exact hlk
    · rw [if_neg e]
      have hj' : j < L.length := by simpa using hj
      refine owns_same (h.looks _ (List.getElem_mem hj')) fun q e2 => ?_
      obtain ⟨h1, h2, h3⟩ := hoth j hj' (fun e3 => e e3.symm) q e2
      exact hs q h3 h1 h2
  · obtain ⟨j, hj, rfl⟩ := List.getElem_of_mem hy
    rw [List.getElem_set]
    by_cases e : k = j
    · rw [if_pos e]
      rcases hat with h1 | h1 | ⟨q, h1, h2⟩
      · exact Or.inl h1
      · rw [h1]; exact h.apart _ hkm
      · refine Or.inr fun e2 => ?_
        rw [h1] at e2
        have e3 : q = g := Option.some.inj e2
        have := (h.own.lt g rfl).2
        omega
    · rw [if_neg e]
      exact h.apart _ (List.getElem_mem _)
  · rw [List.pairwise_iff_getElem]
    intro i j hi hj hij
    have hi' : i < L.length := by simpa using hi
    have hj' : j < L.length := by simpa using hj
    rw [List.getElem_set, List.getElem_set]
    by_cases e1 : k = i
    · rw [if_pos e1, if_neg (by omega)]
      exact hnew j hj' (by omega)
    · rw [if_neg e1]
      by_cases e2 : k = j
      · rw [if_pos e2]
        rcases hnew i hi' (by omega) with h1 | h1
        · cases e3 : (L[i]).val.ownBlock with
          | none => exact Or.inl rfl
          | some q => exact Or.inr (by rw [h1]; exact fun e4 => by cases e4)
        · exact Or.inr fun e3 => h1 e3.symm
      · rw [if_neg e2]
        exact List.pairwise_iff_getElem.1 h.pair i j hi' hj' hij
  · rcases hb with rfl | e | ⟨y, hy, e⟩
    · exact Or.inl (Or.inl rfl)
    · exact Or.inl (Or.inr (Or.inl e))
    · rcases List.mem_or_eq_of_mem_set hy with hy | rfl
      · exact Or.inl (Or.inr (Or.inr ⟨y, hy, e⟩))
      · rcases hat with h1 | h1 | ⟨q, h1, h2⟩
        · rw [h1] at e; cases e
        · exact Or.inl (Or.inr (Or.inr ⟨_, hkm, by rw [← h1]; exact e⟩))
        · rw [h1] at e
          have : q = b := Option.some.inj e
          exact Or.inr (by omega)
end Go.Proofs.YtmdckddenelneaaGreatDoor
