/- The model of health: Add. -/
import Derived.Test.YtkpjecpaejdgaabDoorHRef1
import Derived.Test.YtkpjecpaejdgaabDoorHRef2
namespace Go.Proofs.YtkpjecpaejdgaabDoor
open Go.RowKit

theorem alloc_heap (w : World) (cs : Array Value) (t : TypeId) : (w.alloc (.cells cs t)).heap = w.heap.push (.cells cs t (0, 0)) := rfl
theorem MH.added {W W2 w1 : World} {m f r : Nat} {L : List Mh} {lv : Value} (h : MH W m f r L lv) (x : Mh) (hx1 : x.looks = []) (hx2 : x.val = .slice none 0 0) {o : Obj} (hB : Below W.heap.size W W2) (hW : W2.heap = W.heap.push o) {g cap : Nat} (hown : w1.ownsRow (m + 1) 122 3 (.slice (some ⟨g, 0, none⟩) (L.length + 1) cap) (L.length + 1) (flatH (L ++ [x]))) (hgr : W2.grownBy w1 lv.ownBlock) (hat : lv.ownBlock = some g ∨ g = W.heap.size + 1) :
    MH (w1.setCell ⟨m, 2, none⟩ (.slice (some ⟨g, 0, none⟩) (L.length + 1) cap)) m f r (L ++ [x]) (.slice (some ⟨g, 0, none⟩) (L.length + 1) cap) ∧ Tur (MFoot m L lv) W (w1.setCell ⟨m, 2, none⟩ (.slice (some ⟨g, 0, none⟩) (L.length + 1) cap)) ∧ ∀ b, MFoot m (L ++ [x]) (.slice (some ⟨g, 0, none⟩) (L.length + 1) cap) b → MFoot m L lv b ∨ W.heap.size ≤ b := by
  have hm := h.mlt
  have hsz : W2.heap.size = W.heap.size + 1 := by rw [hW]; simp
  have hne : ∀ k, k ≤ m → some k ≠ lv.ownBlock := fun k hk e => by
    have := (h.own.lt k e.symm).1
    omega
  have hsame : ∀ k, k < W.heap.size → k ≠ m → some k ≠ lv.ownBlock → (w1.setCell ⟨m, 2, none⟩ (.slice (some ⟨g, 0, none⟩) (L.length + 1) cap)).heap[k]? = W.heap[k]? := fun k hk hkm hkr => by
    rw [heap_setCell_other w1 ⟨m, 2, none⟩ k _ (fun e => hkm e), hgr.block k (by omega) hkr, hB.block k hk]
  refine ⟨⟨?_, ?_, ?_, fun k => ?_, ?_, fun y hy => ?_, fun y hy => ?_, ?_⟩, ⟨?_, ?_, ?_, ?_, fun k hk hf => ?_⟩, fun b hb => ?_⟩
  · have := hfar_cell hW hgr (hne m (Nat.le_refl _)) h.c0
    simp [go_sem, this]
  · have := hfar_cell hW hgr (hne m (Nat.le_refl _)) h.c1
    simp [go_sem, this]
  · have := hfar_cell hW hgr (hne m (Nat.le_refl _)) h.c2
    simp [go_sem, this]
  · have := hfar_frozen hW hgr (hne m (Nat.le_refl _)) hm (h.fz k)
    simp [go_sem, this]
  · have h1 := howns_setCell (k := 2) hown (Nat.lt_succ_self m) (.slice (some ⟨g, 0, none⟩) (L.length + 1) cap)
    rw [List.length_append]
    exact h1
  · rcases List.mem_append.1 hy with hy | hy
    · refine owns_same (h.looks y hy) fun q e => ?_
      have h1 := (h.looks y hy).lt q e
      refine hsame q h1.2 (by omega) (fun e2 => ?_)
      rcases h.apart y hy with h2 | h2
      · rw [e] at h2; cases h2
      · exact h2 (by rw [e, e2])
    · simp at hy
      subst hy
      rw [hx1, hx2]
      exact World.ownsRow_nil _ _ _ _
  · rcases List.mem_append.1 hy with hy | hy
    · rcases h.apart y hy with h2 | h2
      · exact Or.inl h2
      · rcases hat with e | e
        · exact Or.inr (by show y.val.ownBlock ≠ some g; rw [← e]; exact h2)
        · refine Or.inr fun e2 => ?_
          have := ((h.looks y hy).lt g e2).2
          omega
    · simp at hy
      subst hy
      rw [hx2]
      exact Or.inl rfl
  · rw [List.pairwise_append]
    refine ⟨h.pair, by simp, fun y hy z hz => ?_⟩
    simp at hz
    subst hz
    cases hv : y.val.ownBlock with
    | none => exact Or.inl rfl
    | some q =>
      refine Or.inr fun e => ?_
      rw [hx2] at e
      cases e
  · exact hgr.os.trans hB.os
  · exact hgr.tape.trans hB.tape
  · exact hgr.output.trans hB.output
  · have := hgr.size
    simp [World.setCell]
    omega
  · exact hsame k hk (fun e => hf (Or.inl e)) (fun e => hf (Or.inr (Or.inl e.symm)))
  · rcases hb with rfl | e | ⟨y, hy, e⟩
    · exact Or.inl (Or.inl rfl)
    · have e' : g = b := Option.some.inj e
      subst e'
      rcases hat with e2 | e2
      · exact Or.inl (Or.inr (Or.inl e2))
      · exact Or.inr (by omega)
    · rcases List.mem_append.1 hy with hy | hy
      · exact Or.inl (Or.inr (Or.inr ⟨y, hy, e⟩))
      · simp at hy
        subst hy
        rw [hx2] at e
        cases e

set_option maxRecDepth 100000 in
set_option maxHeartbeats 2000000 in
/-- Add, where nothing is wrong. -/
theorem addM_good {W : World} {m f r : Nat} {L : List Mh} {lv : Value} (h : MH W m f r L lv) (s : ByteArray) (hs : s.size ≤ 300) (hl : L.length < 12) (hnm : Lh.isNm s = true) (hnx : ¬ Lh.hix (hst L) s < (hst L).length) :
    Calls Tryd.prog 37 #[.pointer (some ⟨m, 0, none⟩), .string s] W fun e w' => ∃ lv', e = .returned (.int .i64 0) ∧ MH w' m f r (L ++ [⟨s, false, [], .slice none 0 0⟩]) lv' ∧ Tur (MFoot m L lv) W w' ∧ ∀ b, MFoot m (L ++ [⟨s, false, [], .slice none 0 0⟩]) lv' b → MFoot m L lv b ∨ W.heap.size ≤ b := by
  obtain ⟨i, hi, hz0, hz1, hz2⟩ := info_parts infoH
  have hfd := find_any h (by omega) s
  have e1 : fi (hst L) s = -1 := by unfold fi; rw [if_neg hnx]
  rw [e1] at hfd
  have hin := refName_any s W (Nat.le_trans hs (by decide))
  rw [hnm] at hin
  obtain ⟨p, cap, hlv⟩ : ∃ p cap, lv = .slice p L.length cap := by
    by_cases h0 : 0 < L.length
    · obtain ⟨g, cap, rfl, _⟩ := row_of_owns3 h.own h0
      exact ⟨_, _, rfl⟩
    · have e0 : L.length = 0 := by omega
      have := h.own
      rw [e0] at this
      rw [e0]
      exact own_zero this
  subst hlv
  have c2 := h.c2
  have f2 := h.fz 2
  have HM : Hid (MH W m f r L (.slice p L.length cap)) := h
  have d1 : decide (12 ≤ (L.length : Int)) = false := by simp; omega
  have hrl := h.mlt
  have c2' : (W.alloc (.cells #[.string s, .bool false, .slice none 0 0] 122)).cell? ⟨m, 2, none⟩ = some (.slice p L.length cap) := below_cell ((Below.refl _ _).alloc (Nat.le_refl _) _) c2
  have hown2 := howns_heap h.own (alloc_heap W #[.string s, .bool false, .slice none 0 0] 122)
  have hnews := cellsH_heap (wr := W) ⟨s, false, [], .slice none 0 0⟩ (alloc_heap W #[.string s, .bool false, .slice none 0 0] 122)
  have h1c := encH_one ⟨s, false, [], .slice none 0 0⟩ rfl
  have hsz2 : (W.alloc (.cells #[.string s, .bool false, .slice none 0 0] 122)).heap.size = W.heap.size + 1 := by simp
  have hmx : L.length + 1 ≤ maxLen := by unfold maxLen; omega
  clear h hnm hnx e1
  go_enter Tryd.func37, Tryd.ntmps37
  go_wp2_with fail
  refine hin.mono ?_
  rintro e w1 ⟨rfl, rfl⟩
  clear hin
  go_wp2_with fail
  refine hfd.mono ?_
  rintro e w2 ⟨rfl, rfl⟩
  clear hfd
  go_wp2_with (at_builtin; refine wpList_append_lies _ rfl _ _ 117 rfl (m + 1) 122 i _ 3 48 Tryd.underlying117 hi hz0 hz1 hz2 rfl (by decide) (.slice p L.length cap) L.length (flatH L) rfl hown2 ⟨w2.heap.size, 0, none⟩ 1 1 (encH ⟨s, false, [], .slice none 0 0⟩) rfl rfl hnews h1c (by decide) hmx (by omega) (by omega) (w2.heap.size + 1) hsz2 ?_)
  intro g cp w3 hown3 hgr hat _
  rw [← flatH_snoc] at hown3
  have HADD := HM.out.added ⟨s, false, [], .slice none 0 0⟩ rfl rfl ((Below.refl _ _).alloc (Nat.le_refl _) _) (alloc_heap w2 #[.string s, .bool false, .slice none 0 0] 122) hown3 hgr hat
  have HA : Hid _ := HADD
  have c3 := hfar_cell (alloc_heap w2 #[.string s, .bool false, .slice none 0 0] 122) hgr (x := m) (k := 2) (fun e => by have := (hown2.lt m e.symm).1; omega) c2
  have f3 := hfar_frozen (alloc_heap w2 #[.string s, .bool false, .slice none 0 0] 122) hgr (x := m) (k := 2) (fun e => by have := (hown2.lt m e.symm).1; omega) hrl f2
  clear HADD hown3 hgr hat hown2 hnews h1c c2' c2 f2
  go_wp2
  go_ret
  obtain ⟨h1, h2, h3⟩ := HA.out
  exact ⟨_, rfl, h1, h2, h3⟩

set_option maxHeartbeats 1000000 in
/-- Add, where something is wrong: the error's number. -/
theorem addM_bad {W : World} {m f r : Nat} {L : List Mh} {lv : Value} (h : MH W m f r L lv) (hl : L.length ≤ 12) (s : ByteArray) (hs : s.size ≤ 300) (k : Nat) (hf : AddFault (hst L) s k) :
    Calls Tryd.prog 37 #[.pointer (some ⟨m, 0, none⟩), .string s] W fun e w' => e = .returned (.int .i64 ((k + 1 : Nat) : Int)) ∧ w' = W := by
  have hfd := find_any h hl s
  have hin := refName_any s W (Nat.le_trans hs (by decide))
  obtain ⟨p, cap, hlv⟩ : ∃ p cap, lv = .slice p L.length cap := by
    by_cases h0 : 0 < L.length
    · obtain ⟨g, cap, rfl, _⟩ := row_of_owns3 h.own h0
      exact ⟨_, _, rfl⟩
    · have e0 : L.length = 0 := by omega
      have := h.own
      rw [e0] at this
      rw [e0]
      exact own_zero this
  subst hlv
  have c2 := h.c2
  clear h
  rcases hf with ⟨h1, rfl⟩ | ⟨h1, h2, rfl⟩ | ⟨h1, h2, h3, rfl⟩
  · rw [hst_length] at h1
    have d1 : decide (12 ≤ (L.length : Int)) = true := by simp; omega
    clear hfd hin
    go_enter Tryd.func37, Tryd.ntmps37
    go_wp2
    go_ret
    exact ⟨rfl, rfl⟩
  · rw [hst_length] at h1
    have d1 : decide (12 ≤ (L.length : Int)) = false := by simp; omega
    rw [h2] at hin
    clear hfd h2
    go_enter Tryd.func37, Tryd.ntmps37
    go_wp2_with fail
    refine hin.mono ?_
    rintro e w1 ⟨rfl, rfl⟩
    clear hin
    go_wp2
    go_ret
    exact ⟨rfl, rfl⟩
  · rw [hst_length] at h1
    have d1 : decide (12 ≤ (L.length : Int)) = false := by simp; omega
    rw [h2] at hin
    have e1 : fi (hst L) s = (Lh.hix (hst L) s : Nat) := by unfold fi; rw [if_pos h3]
    rw [e1] at hfd
    generalize Lh.hix (hst L) s = q at *
    have d2 : decide (0 ≤ (q : Int)) = true := by simp
    clear h2 h3 e1
    go_enter Tryd.func37, Tryd.ntmps37
    go_wp2_with fail
    refine hin.mono ?_
    rintro e w1 ⟨rfl, rfl⟩
    clear hin
    go_wp2_with fail
    refine hfd.mono ?_
    rintro e w2 ⟨rfl, rfl⟩
    clear hfd
    go_wp2
    go_ret
    exact ⟨rfl, rfl⟩
end Go.Proofs.YtkpjecpaejdgaabDoor

/- The model of health: what a look is, and what it leaves in memory. -/
namespace Go.Proofs.YtkpjecpaejdgaabDoor
open Go.RowKit

theorem trail_nil (up : Bool) : trail up [] = 0 := rfl
theorem trail_snoc (up : Bool) (l : List Bool) (b : Bool) : trail up (l ++ [b]) = if b = up then 0 else trail up l + 1 := by
  unfold trail
  rw [List.reverse_append]
  by_cases e : b = up
  · subst e
    simp
  · have hb : (b != up) = true := by simpa using e
    simp [hb, e]
theorem trail_le (up : Bool) (l : List Bool) : trail up l ≤ l.length := by
  unfold trail
  have := (List.takeWhile_prefix (p := fun b => b != up) (l := l.reverse)).length_le
  simpa using this
/-- the scan from the end: the first n are of the other kind -/
theorem trail_at {up : Bool} {l : List Bool} {n : Nat} (hn : n < l.length) (hp : ∀ j (h : j < l.length), j < n → l[l.length - 1 - j] ≠ up) (he : l[l.length - 1 - n] = up) : trail up l = n := by
  induction n generalizing l with
  | zero =>
    obtain ⟨l', b, rfl⟩ : ∃ l' b, l = l' ++ [b] := ⟨l.dropLast, l.getLast (by intro e; subst e; simp at hn), (List.dropLast_concat_getLast _).symm⟩
    rw [trail_snoc]
    have : b = up := by simpa using he
    simp [this]
  | succ n ih =>
    obtain ⟨l', b, rfl⟩ : ∃ l' b, l = l' ++ [b] := ⟨l.dropLast, l.getLast (by intro e; subst e; simp at hn), (List.dropLast_concat_getLast _).symm⟩
    have hb : b ≠ up := by
      have := hp 0 (by simp) (by omega)
      simpa using this
    rw [trail_snoc, if_neg hb]
    have hl : n < l'.length := by simp at hn; omega
    have h3 : trail up l' = n := ih hl (fun j h hj => by
      have h1 := hp (j + 1) (by simp; omega) (by omega)
      have e1 : (l' ++ [b]).length - 1 - (j + 1) = l'.length - 1 - j := by simp; omega
      have e2 : (l' ++ [b])[(l' ++ [b]).length - 1 - (j + 1)]'(by simp; omega) = l'[l'.length - 1 - j]'(by omega) := by
        simp only [e1]
        rw [List.getElem_append_left (by omega)]
      rwa [e2] at h1) (by
      have e1 : (l' ++ [b]).length - 1 - (n + 1) = l'.length - 1 - n := by simp; omega
      have e2 : (l' ++ [b])[(l' ++ [b]).length - 1 - (n + 1)]'(by simp; omega) = l'[l'.length - 1 - n]'(by omega) := by
        simp only [e1]
        rw [List.getElem_append_left (by omega)]
      rwa [e2] at he)
    rw [h3]
theorem takeWhile_whole {α : Type} (p : α → Bool) : ∀ l : List α, (∀ b ∈ l, p b = true) → l.takeWhile p = l
  | [], _ => rfl
  | b :: l, h => by
    rw [List.takeWhile_cons, if_pos (h b (by simp)), takeWhile_whole p l fun c hc => h c (by simp [hc])]
theorem trail_all {up : Bool} {l : List Bool} (hp : ∀ j (h : j < l.length), l[l.length - 1 - j] ≠ up) : trail up l = l.length := by
  unfold trail
  rw [takeWhile_whole _ l.reverse fun b hb => ?_]
  · simp
  · rw [List.mem_reverse] at hb
    obtain ⟨j, hj, rfl⟩ := List.getElem_of_mem hb
    have h1 := hp (l.length - 1 - j) (by omega)
    have e : l.length - 1 - (l.length - 1 - j) = j := by omega
    simp only [e] at h1
    simpa using h1

/-- what a look makes of a host of the model -/
def lookM (f r : Nat) (x : Mh) (well : Bool) (v : Value) : Mh :=
  if Lh.hedge f r x.up ≤ trail x.up (x.looks ++ [well]) then ⟨x.name, !x.up, [], .slice none 0 0⟩ else ⟨x.name, x.up, x.looks ++ [well], v⟩
def turnM (f r : Nat) (x : Mh) (well : Bool) : Bool := decide (Lh.hedge f r x.up ≤ trail x.up (x.looks ++ [well]))
theorem lookM_st {f r : Nat} (hf : 1 ≤ f) (hr : 1 ≤ r) (x : Mh) (well : Bool) (v : Value) : ((lookM f r x well v).st, turnM f r x well) = Lh.hlook f r x.st well := by
  unfold lookM turnM Lh.hlook
  have hp := Lh.hedge_pos hf hr x.up
  rw [trail_snoc]
  by_cases e : well = x.up
  · have e2 : well = x.st.2.1 := e
    rw [if_pos e, if_pos e2, if_neg (by omega)]
    have h1 : trail x.up (x.looks ++ [well]) = 0 := by rw [trail_snoc, if_pos e]
    simp only [Mh.st, h1]
    simp
    omega
  · have e2 : ¬ well = x.st.2.1 := e
    rw [if_neg e, if_neg e2]
    by_cases h : Lh.hedge f r x.up ≤ trail x.up x.looks + 1
    · have h' : Lh.hedge f r x.st.2.1 ≤ x.st.2.2 + 1 := h
      rw [if_pos h, if_pos h']
      simp [Mh.st, h, trail_nil]
    · have h' : ¬ Lh.hedge f r x.st.2.1 ≤ x.st.2.2 + 1 := h
      rw [if_neg h, if_neg h']
      have h1 : trail x.up (x.looks ++ [well]) = trail x.up x.looks + 1 := by rw [trail_snoc, if_neg e]
      simp [Mh.st, h, h1]
theorem flatH_set (L : List Mh) : ∀ (k : Nat) (x : Mh), k < L.length → flatH (L.set k x) = (((flatH L).set (k * 3) (.string x.name)).set (k * 3 + 1) (.bool x.up)).set (k * 3 + 2) x.val := by
  induction L with
  | nil => intro k x h; cases h
  | cons p P ih =>
    intro k x h
    have e : flatH (p :: P) = .string p.name :: .bool p.up :: p.val :: flatH P := rfl
    match k, h with
    | 0, _ => rfl
    | k + 1, h =>
      rw [List.set_cons_succ, e]
      have e2 : flatH (p :: P.set k x) = .string p.name :: .bool p.up :: p.val :: flatH (P.set k x) := rfl
      rw [e2, ih k x (by simpa using h)]
      rw [show (k + 1) * 3 = k * 3 + 1 + 1 + 1 by omega]
      rfl
/-- one cell of a row is set -/
theorem owns_set {w : World} {base : Nat} {e : TypeId} {size g n cap : Nat} {xs : List Value} (h : w.ownsRow base e size (.slice (some ⟨g, 0, none⟩) n cap) n xs) (i : Nat) (u : Value) : (w.setCell ⟨g, i, none⟩ u).ownsRow base e size (.slice (some ⟨g, 0, none⟩) n cap) n (xs.set i u) := by
  obtain ⟨h1, ⟨h2, _⟩ | ⟨g', cap', cur, e1, e2, e3, e4, e5, e6, e7⟩⟩ := h
  · cases h2
  · cases e1
    refine ⟨by simpa using h1, Or.inr ⟨g, cap, cur.setIfInBounds i u, rfl, e2, ?_, e4, e5, by simpa using e6, ?_⟩⟩
    · exact heap_setCell_same w g i _ _ u e3
    · rw [Array.toList_setIfInBounds, List.take_set, e7]
theorem MH.looked {W w' : World} {m f r : Nat} {L : List Mh} {g cap k : Nat} (h : MH W m f r L (.slice (some ⟨g, 0, none⟩) L.length cap)) (hk : k < L.length) (x : Mh) (hs : ∀ b, b < W.heap.size → b ≠ g → some b ≠ (L[k]).val.ownBlock → w'.heap[b]? = W.heap[b]?)
    (hrow : w'.ownsRow (m + 1) 122 3 (.slice (some ⟨g, 0, none⟩) L.length cap) L.length (flatH (L.set k x))) (hlk : w'.ownsRow (m + 1) 4 1 x.val x.looks.length (x.looks.map Value.bool)) (hat : x.val.ownBlock = none ∨ x.val.ownBlock = (L[k]).val.ownBlock ∨ ∃ q, x.val.ownBlock = some q ∧ W.heap.size ≤ q) :
    MH w' m f r (L.set k x) (.slice (some ⟨g, 0, none⟩) L.length cap) ∧ ∀ b, MFoot m (L.set k x) (.slice (some ⟨g, 0, none⟩) L.length cap) b → MFoot m L (.slice (some ⟨g, 0, none⟩) L.length cap) b ∨ W.heap.size ≤ b := by
  have hm := h.mlt
  have hg := (h.own.lt g rfl).1
  have hkm := List.getElem_mem hk
  have hvm : ∀ b, b ≤ m → some b ≠ (L[k]).val.ownBlock := fun b hb e => by
    have := ((h.looks _ hkm).lt b e.symm).1
    omega
  have hmb := hs m hm (by omega) (hvm m (Nat.le_refl _))
  -- the other hosts
  have hoth : ∀ j (hj : j < L.length), j ≠ k → ∀ q, (L[j]).val.ownBlock = some q → q ≠ g ∧ some q ≠ (L[k]).val.ownBlock ∧ q < W.heap.size := fun j hj hjk q e => by
    refine ⟨fun e2 => ?_, fun e2 => ?_, ((h.looks _ (List.getElem_mem hj)).lt q e).2⟩
    · rcases h.apart _ (List.getElem_mem hj) with h1 | h1
      · rw [e] at h1; cases h1
      · exact h1 (by rw [e, e2]; rfl)
    · rcases Nat.lt_or_ge j k with h1 | h1
      · rcases List.pairwise_iff_getElem.1 h.pair j k hj hk h1 with h2 | h2
        · rw [e] at h2; cases h2
        · exact h2 (by rw [e, e2])
      · rcases List.pairwise_iff_getElem.1 h.pair k j hk hj (by omega) with h2 | h2
        · rw [h2] at e2; cases e2
        · exact h2 (by rw [e, ← e2])
  have hnew : ∀ j (hj : j < L.length), j ≠ k → x.val.ownBlock = none ∨ x.val.ownBlock ≠ (L[j]).val.ownBlock := fun j hj hjk => by
    rcases hat with h1 | h1 | ⟨q, h1, h2⟩
    · exact Or.inl h1
    · cases e3 : x.val.ownBlock with
      | none => exact Or.inl rfl
      | some q => exact Or.inr fun e2 => (hoth j hj hjk q e2.symm).2.1 (by rw [← h1, e3])
    · refine Or.inr fun e2 => ?_
      have := (hoth j hj hjk q (by rw [← e2, h1])).2.2
      omega
  refine ⟨⟨?_, ?_, ?_, fun k => ?_, by rw [List.length_set]; exact hrow, fun y hy => ?_, fun y hy => ?_, ?_⟩, fun b hb => ?_⟩
  · rw [World.cell?_of_block (w := W) (w' := w') (a := ⟨m, 0, none⟩) hmb]; exact h.c0
  · rw [World.cell?_of_block (w := W) (w' := w') (a := ⟨m, 1, none⟩) hmb]; exact h.c1
  · rw [World.cell?_of_block (w := W) (w' := w') (a := ⟨m, 2, none⟩) hmb]; exact h.c2
  · rw [World.frozen?_of_block (w := W) (w' := w') (a := ⟨m, k, none⟩) hmb]; exact h.fz k
  · obtain ⟨j, hj, rfl⟩ := List.getElem_of_mem hy
    rw [List.getElem_set]
    by_cases e : k = j
    · rw [if_pos e]; exact hlk
    · rw [if_neg e]
      have hj' : j < L.length := by simpa using hj
      refine owns_same (h.looks _ (List.getElem_mem hj')) fun q e2 => ?_
      obtain ⟨h1, h2, h3⟩ := hoth j hj' (fun e3 => e e3.symm) q e2
      exact hs q h3 h1 h2
  · obtain ⟨j, hj, rfl⟩ := List.getElem_of_mem hy
    rw [List.getElem_set]
    by_cases e : k = j
    · rw [if_pos e]
      rcases hat with h1 | h1 | ⟨q, h1, h2⟩
      · exact Or.inl h1
      · rw [h1]; exact h.apart _ hkm
      · refine Or.inr fun e2 => ?_
        rw [h1] at e2
        have e3 : q = g := Option.some.inj e2
        have := (h.own.lt g rfl).2
        omega
    · rw [if_neg e]
      exact h.apart _ (List.getElem_mem _)
  · rw [List.pairwise_iff_getElem]
    intro i j hi hj hij
    have hi' : i < L.length := by simpa using hi
    have hj' : j < L.length := by simpa using hj
    rw [List.getElem_set, List.getElem_set]
    by_cases e1 : k = i
    · rw [if_pos e1, if_neg (by omega)]
      exact hnew j hj' (by omega)
    · rw [if_neg e1]
      by_cases e2 : k = j
      · rw [if_pos e2]
        rcases hnew i hi' (by omega) with h1 | h1
        · cases e3 : (L[i]).val.ownBlock with
          | none => exact Or.inl rfl
          | some q => exact Or.inr (by rw [h1]; exact fun e4 => by cases e4)
        · exact Or.inr fun e3 => h1 e3.symm
      · rw [if_neg e2]
        exact List.pairwise_iff_getElem.1 h.pair i j hi' hj' hij
  · rcases hb with rfl | e | ⟨y, hy, e⟩
    · exact Or.inl (Or.inl rfl)
    · exact Or.inl (Or.inr (Or.inl e))
    · rcases List.mem_or_eq_of_mem_set hy with hy | rfl
      · exact Or.inl (Or.inr (Or.inr ⟨y, hy, e⟩))
      · rcases hat with h1 | h1 | ⟨q, h1, h2⟩
        · rw [h1] at e; cases e
        · exact Or.inl (Or.inr (Or.inr ⟨_, hkm, by rw [← h1]; exact e⟩))
        · rw [h1] at e
          have : q = b := Option.some.inj e
          exact Or.inr (by omega)
end Go.Proofs.YtkpjecpaejdgaabDoor

/- The model of health: Look. -/
namespace Go.Proofs.YtkpjecpaejdgaabDoor
open Go.RowKit

theorem MH.drew {W : World} {m f r : Nat} {L : List Mh} {lv : Value} (h : MH W m f r L lv) : MH W.drew m f r L lv := ⟨h.c0, h.c1, h.c2, h.fz, h.own, h.looks, h.apart, h.pair⟩
theorem Tur.drew {F : Nat → Prop} {w w' : World} (h : Tur F w w') : Tur F w w'.drew := ⟨h.os, h.tape, h.output, h.size, h.block⟩
theorem infoB : (Tryd.prog.info? 4).map (fun i => (i.zero, i.size, i.bytes)) = some (some (.bool false), 1, 1) := by kernel_rfl
theorem cells_bool {w : World} {t : TypeId} (b : Bool) : ∀ j u, [Value.bool b][j]? = some u → (w.alloc (.cells #[.bool b] t)).cell? ((⟨w.heap.size, 0, none⟩ : Addr).add j) = some u := by
  intro j u hu
  match j, hu with
  | 0, hu => simp at hu; subst hu; simp [Addr.add]
  | j + 1, hu => simp at hu
theorem bools_one (l : List Bool) : ∀ u ∈ l.map Value.bool, u.oneCell' = true := by
  intro u hu
  obtain ⟨b, _, rfl⟩ := List.mem_map.1 hu
  rfl
theorem bools_of_owns {w : World} {base n : Nat} {g cap : Nat} {e : TypeId} {l : List Bool} (h : w.ownsRow base e 1 (.slice (some ⟨g, 0, none⟩) n cap) n (l.map Value.bool)) : ∀ j (hj : j < l.length), w.cell? ⟨g, j, none⟩ = some (.bool l[j]) := fun j hj => by
  obtain ⟨hl, ⟨e0, _⟩ | ⟨g', cap', cur, e1, _, hb, hn, hm, hsz, ht⟩⟩ := h
  · cases e0
  · cases e1
    have hl' : l.length = n := by simpa using hl
    have hk : (cur.toList.take (n * 1))[j]? = some (.bool l[j]) := by rw [ht]; simp [hj]
    rw [List.getElem?_take_of_lt (by omega)] at hk
    simp only [World.cell?, hb]
    simpa using hk
theorem look_end {w1 wz : World} {m f r : Nat} {L : List Mh} {g cap k : Nat} (h : MH w1 m f r L (.slice (some ⟨g, 0, none⟩) L.length cap)) (hk : k < L.length) (x : Mh) (hos : wz.os = w1.os) (htp : wz.tape = w1.tape) (hout : wz.output = w1.output) (hsz : w1.heap.size ≤ wz.heap.size) (hkeep : ∀ b, b < w1.heap.size → some b ≠ (L[k]).val.ownBlock → wz.heap[b]? = w1.heap[b]?) (hgv : some g ≠ (L[k]).val.ownBlock)
    (hlk : wz.ownsRow (m + 1) 4 1 x.val x.looks.length (x.looks.map Value.bool)) (hgx : ∀ q, x.val.ownBlock = some q → q ≠ g) (hat : x.val.ownBlock = none ∨ x.val.ownBlock = (L[k]).val.ownBlock ∨ ∃ q, x.val.ownBlock = some q ∧ w1.heap.size ≤ q) :
    MH (((wz.setCell ⟨g, k * 3, none⟩ (.string x.name)).setCell ⟨g, k * 3 + 1, none⟩ (.bool x.up)).setCell ⟨g, k * 3 + 2, none⟩ x.val) m f r (L.set k x) (.slice (some ⟨g, 0, none⟩) L.length cap) ∧
    Tur (MFoot m L (.slice (some ⟨g, 0, none⟩) L.length cap)) w1 (((wz.setCell ⟨g, k * 3, none⟩ (.string x.name)).setCell ⟨g, k * 3 + 1, none⟩ (.bool x.up)).setCell ⟨g, k * 3 + 2, none⟩ x.val) ∧
    ∀ b, MFoot m (L.set k x) (.slice (some ⟨g, 0, none⟩) L.length cap) b → MFoot m L (.slice (some ⟨g, 0, none⟩) L.length cap) b ∨ w1.heap.size ≤ b := by
  have hoth : ∀ b, b ≠ g → (((wz.setCell ⟨g, k * 3, none⟩ (.string x.name)).setCell ⟨g, k * 3 + 1, none⟩ (.bool x.up)).setCell ⟨g, k * 3 + 2, none⟩ x.val).heap[b]? = wz.heap[b]? := fun b hb => by
    rw [heap_setCell_other _ ⟨g, k * 3 + 2, none⟩ b _ hb, heap_setCell_other _ ⟨g, k * 3 + 1, none⟩ b _ hb, heap_setCell_other _ ⟨g, k * 3, none⟩ b _ hb]
  have hglt := (h.own.lt g rfl).2
  have hrow0 : wz.ownsRow (m + 1) 122 3 (.slice (some ⟨g, 0, none⟩) L.length cap) L.length (flatH L) := owns_same h.own fun q e => by
    have e2 : g = q := Option.some.inj e
    subst e2
    exact hkeep g hglt hgv
  have hrow := owns_set (owns_set (owns_set hrow0 (k * 3) (.string x.name)) (k * 3 + 1) (.bool x.up)) (k * 3 + 2) x.val
  rw [← flatH_set L k x hk] at hrow
  obtain ⟨h1, h2⟩ := h.looked hk x (fun b hb hbg hbv => (hoth b hbg).trans (hkeep b hb hbv)) hrow (owns_same hlk fun q e => hoth q (hgx q e)) hat
  refine ⟨h1, ⟨hos, htp, hout, by simpa [World.setCell] using hsz, fun b hb hf => ?_⟩, h2⟩
  rw [hoth b fun e => hf (Or.inr (Or.inl (by rw [e]; rfl)))]
  exact hkeep b hb fun e => hf (Or.inr (Or.inr ⟨_, List.getElem_mem hk, e.symm⟩))
set_option maxRecDepth 100000 in
set_option maxHeartbeats 4000000 in
theorem lookM_core {W : World} {m f r : Nat} {L : List Mh} {g cap : Nat} (h : MH W m f r L (.slice (some ⟨g, 0, none⟩) L.length cap)) (hl : L.length ≤ 12) (s : ByteArray) (well : Bool) (k : Nat) (hk : k < L.length) (hfi : fi (hst L) s = (k : Nat)) (hlk : (L[k]).looks.length ≤ 200) :
    Calls Tryd.prog 40 #[.pointer (some ⟨m, 0, none⟩), .string s, .bool well] W fun e w' => ∃ v, e = .returned (.tuple #[.bool (turnM f r L[k] well), .int .i64 0]) ∧ MH w' m f r (L.set k (lookM f r L[k] well v)) (.slice (some ⟨g, 0, none⟩) L.length cap) ∧ Tur (MFoot m L (.slice (some ⟨g, 0, none⟩) L.length cap)) W w' ∧ ∀ b, MFoot m (L.set k (lookM f r L[k] well v)) (.slice (some ⟨g, 0, none⟩) L.length cap) b → MFoot m L (.slice (some ⟨g, 0, none⟩) L.length cap) b ∨ W.heap.size ≤ b := by
  have hfd := find_any h hl s
  rw [hfi] at hfd
  obtain ⟨g', cap', e', _, hglt, _, hc, hgf⟩ := row_of_owns3 h.own (by omega)
  cases e'
  obtain ⟨cn, cu, cv⟩ := hc k hk
  have c2 := h.c2
  have hki : (k : Int) < (L.length : Int) := by omega
  have hown := h.looks _ (List.getElem_mem hk)
  have HM : Hid (MH W m f r L (.slice (some ⟨g, 0, none⟩) L.length cap)) := h
  clear hc h hfi
  obtain ⟨X, hX⟩ : ∃ X, L[k] = X := ⟨_, rfl⟩
  rw [hX] at cn cu cv hown hlk
  have HX : Hid (L[k] = X) := hX
  rw [hX]
  clear hX
  obtain ⟨nm, up, lk, vv⟩ := X
  dsimp only at cn cu cv hown hlk
  obtain ⟨vp, vc, hv⟩ : ∃ p c, vv = .slice p lk.length c := by
    rcases hown.2 with ⟨e1, e2⟩ | ⟨q, c, cur, e1, _⟩
    · have : lk.length = 0 := by simpa using e2
      exact ⟨_, _, by rw [this]; exact e1⟩
    · exact ⟨_, _, e1⟩
  subst hv
  have hnl : lk.length ≤ 200 := hlk
  obtain ⟨i, hi, hz0, hz1, hz2⟩ := info_parts infoB
  have hown2 := (hown.alloc (.cells #[.string nm, .bool up, .slice vp lk.length vc] 122)).alloc (.cells #[.bool well] 4)
  have hnews := cells_bool (w := W.alloc (.cells #[.string nm, .bool up, .slice vp lk.length vc] 122)) (t := 4) well
  have hsz1 : (W.alloc (.cells #[.string nm, .bool up, .slice vp lk.length vc] 122)).heap.size = W.heap.size + 1 := by simp
  rw [hsz1] at hnews
  have hsz2 : ((W.alloc (.cells #[.string nm, .bool up, .slice vp lk.length vc] 122)).alloc (.cells #[.bool well] 4)).heap.size = W.heap.size + 2 := by simp
  have hmx : lk.length + 1 ≤ maxLen := by unfold maxLen; omega
  have hmlt := HM.out.mlt
  have d0 : decide ((k : Int) < 0) = false := by simp
  go_enter Tryd.func40, Tryd.ntmps40
  go_wp2_with fail
  refine hfd.mono ?_
  rintro e w1 ⟨rfl, rfl⟩
  clear hfd
  have tok1 : True := trivial
  go_wp2_with (at_builtin; clear tok1; refine wpList_append_lies _ rfl _ _ 120 rfl (m + 1) 4 i _ 1 1 Tryd.underlying120 hi hz0 hz1 hz2 rfl (by decide) (.slice vp lk.length vc) lk.length (lk.map Value.bool) rfl hown2 ⟨w1.heap.size + 1, 0, none⟩ 1 1 [.bool well] rfl rfl hnews (bools_one [well]) (by decide) hmx (by omega) (by omega) (w1.heap.size + 2) hsz2 ?_)
  intro g2 cp w3 hown3 hgr hat hg2
  obtain ⟨xb, hxb⟩ : ∃ xb, w1.heap.size = xb := ⟨_, rfl⟩
  have hvne : ∀ b, (b ≤ m ∨ w1.heap.size ≤ b ∨ b = g) → some b ≠ (Value.slice vp lk.length vc).ownBlock := fun b hb e => by
    have h1 := hown.lt b e.symm
    rcases hb with h2 | h2 | rfl
    · omega
    · omega
    · rcases HM.out.apart _ (List.getElem_mem hk) with h3 | h3
      · rw [HX.out] at h3
        rw [← e] at h3
        cases h3
      · rw [HX.out] at h3
        exact h3 e.symm
  have hkeep : ∀ b, b < w1.heap.size → some b ≠ (Value.slice vp lk.length vc).ownBlock → w3.heap[b]? = w1.heap[b]? := fun b hb hne => by
    rw [hgr.block b (by rw [hsz2]; omega) hne]
    exact (((Below.refl w1.heap.size w1).alloc (Nat.le_refl _) _).alloc (by simp) _).block b hb
  have hx3 : w3.heap[xb]? = some (.cells #[.string nm, .bool up, .slice vp lk.length vc] 122 (0, 0)) := by
    rw [hgr.block xb (by rw [hsz2]; omega) (hvne xb (by omega)), ← hxb]
    have e1 : ((w1.alloc (.cells #[.string nm, .bool up, .slice vp lk.length vc] 122)).alloc (.cells #[.bool well] 4)).heap[w1.heap.size]? = (w1.alloc (.cells #[.string nm, .bool up, .slice vp lk.length vc] 122)).heap[w1.heap.size]? := Below.heap_alloc _ _ _ (by simp)
    rw [e1]
    exact (Go.MapKept.heap_alloc w1 _).1
  have hown4 := hown3
  have hg2x : g2 ≠ xb := by
    rcases hat with e | e
    · have := hown.lt g2 e
      omega
    · omega
  have hx4 := heap_setCell_same w3 xb 2 _ _ (.slice (some ⟨g2, 0, none⟩) (lk.length + 1) cp) hx3
  have hkeep4 : ∀ b, b < w1.heap.size → some b ≠ (Value.slice vp lk.length vc).ownBlock → (w3.setCell ⟨xb, 2, none⟩ (.slice (some ⟨g2, 0, none⟩) (lk.length + 1) cp)).heap[b]? = w1.heap[b]? := fun b hb hne => by
    rw [heap_setCell_other w3 ⟨xb, 2, none⟩ b _ (show b ≠ xb by omega)]
    exact hkeep b hb hne
  have hown5 : (w3.setCell ⟨xb, 2, none⟩ (.slice (some ⟨g2, 0, none⟩) (lk.length + 1) cp)).ownsRow (m + 1) 4 1 (.slice (some ⟨g2, 0, none⟩) (lk.length + 1) cp) (lk.length + 1) ((lk ++ [well]).map Value.bool) := by
    rw [List.map_append]
    refine owns_same hown3 fun q e => ?_
    have e2 : g2 = q := Option.some.inj e
    rw [heap_setCell_other w3 ⟨xb, 2, none⟩ q _ (show q ≠ xb by omega)]
  have hT4 : Tur (MFoot m L (.slice (some ⟨g, 0, none⟩) L.length cap)) w1 (w3.setCell ⟨xb, 2, none⟩ (.slice (some ⟨g2, 0, none⟩) (lk.length + 1) cp)) := by
    refine ⟨hgr.os, hgr.tape, hgr.output, ?_, fun b hb hf => hkeep4 b hb fun e => hf (Or.inr (Or.inr ⟨_, List.getElem_mem hk, ?_⟩))⟩
    · have := hgr.size
      simp [World.setCell]
      omega
    · rw [HX.out]
      exact e.symm
  have c3 := cell_of_row w3 xb 2 _ _ _ hx3
  have f3 := frozen_of_row w3 xb 2 _ _ hx3
  have HK4 : Hid (∀ b, b < w1.heap.size → some b ≠ (Value.slice vp lk.length vc).ownBlock → (w3.setCell ⟨xb, 2, none⟩ (.slice (some ⟨g2, 0, none⟩) (lk.length + 1) cp)).heap[b]? = w1.heap[b]?) := hkeep4
  have HO5 : Hid ((w3.setCell ⟨xb, 2, none⟩ (.slice (some ⟨g2, 0, none⟩) (lk.length + 1) cp)).ownsRow (m + 1) 4 1 (.slice (some ⟨g2, 0, none⟩) (lk.length + 1) cp) (lk.length + 1) ((lk ++ [well]).map Value.bool)) := hown5
  have HT4 : Hid (Tur (MFoot m L (.slice (some ⟨g, 0, none⟩) L.length cap)) w1 (w3.setCell ⟨xb, 2, none⟩ (.slice (some ⟨g2, 0, none⟩) (lk.length + 1) cp))) := hT4
  have HVN : Hid (∀ b, (b ≤ m ∨ w1.heap.size ≤ b ∨ b = g) → some b ≠ (Value.slice vp lk.length vc).ownBlock) := hvne
  have HAT : Hid ((Value.slice vp lk.length vc).ownBlock = some g2 ∨ g2 = w1.heap.size + 2) := hat
  have HX4 : Hid ((w3.setCell ⟨xb, 2, none⟩ (.slice (some ⟨g2, 0, none⟩) (lk.length + 1) cp)).heap[xb]? = some (.cells #[.string nm, .bool up, .slice (some ⟨g2, 0, none⟩) (lk.length + 1) cp] 122 (0, 0))) := by
    have e : (#[.string nm, .bool up, .slice vp lk.length vc] : Array Value).setIfInBounds 2 (.slice (some ⟨g2, 0, none⟩) (lk.length + 1) cp) = #[.string nm, .bool up, .slice (some ⟨g2, 0, none⟩) (lk.length + 1) cp] := rfl
    rw [e] at hx4
    exact hx4
  have HXB : Hid (w1.heap.size = xb) := hxb
  clear hown3 hown4 hown5 hkeep hkeep4 hgr hx3 hx4 hT4 hvne hat hown2 hnews hsz1 hsz2 hown
  rw [hxb]
  clear hxb
  go_wp2_with fail
  generalize w3.setCell ⟨xb, 2, none⟩ (.slice (some ⟨g2, 0, none⟩) (lk.length + 1) cp) = w4 at *
  obtain ⟨ll, hll⟩ : ∃ ll, lk ++ [well] = ll := ⟨_, rfl⟩
  have hN : lk.length + 1 = ll.length := by rw [← hll]; simp
  rw [hll] at HO5
  have HLL : Hid (lk ++ [well] = ll) := hll
  rw [hN] at HO5 HX4
  simp only [hN]
  have hNl : ll.length ≤ 201 := by omega
  have HC5 : Hid (∀ j (hj : j < ll.length), w4.cell? ⟨g2, j, none⟩ = some (.bool ll[j])) := bools_of_owns HO5.out
  clear hll hmx c3 f3
  go_loopw [10] (fun t W' => Below w4.heap.size w4 W' ∧ ∃ n : Nat, n ≤ ll.length ∧ t = .int .i64 (n : Nat) ∧ ∀ j (hj : j < ll.length), j < n → ll[ll.length - 1 - j] ≠ up) (fun t _ => ll.length - (intOf t).toNat)
  case atStart => exact ⟨Below.refl _ _, 0, Nat.zero_le _, rfl, fun j _ h => absurd h (by omega)⟩
  case round =>
    obtain ⟨hb, n, hn, rfl, hp⟩ := hrel
    have HP : Hid (∀ j (hj : j < ll.length), j < n → ll[ll.length - 1 - j] ≠ up) := hp
    clear hp
    have hxr : wr.heap[xb]? = some (.cells #[.string nm, .bool up, .slice (some ⟨g2, 0, none⟩) ll.length cp] 122 (0, 0)) := (hb.block xb ((Array.getElem?_eq_some_iff.1 HX4.out).1)).trans HX4.out
    have x1 : wr.cell? ⟨xb, 1, none⟩ = some (.bool up) := cell_of_row wr xb 1 _ _ _ hxr
    have x2 : wr.cell? ⟨xb, 2, none⟩ = some (.slice (some ⟨g2, 0, none⟩) ll.length cp) := cell_of_row wr xb 2 _ _ _ hxr
    have HXR : Hid (wr.heap[xb]? = some (.cells #[.string nm, .bool up, .slice (some ⟨g2, 0, none⟩) ll.length cp] 122 (0, 0))) := hxr
    clear hxr
    by_cases hlt : n < ll.length
    · have hd : decide ((n : Int) < (ll.length : Int)) = true := by simp; omega
      have cq := below_cell hb (HC5.out (ll.length - 1 - n) (by omega))
      have hix : (ll.length : Int) - 1 - (n : Int) = ((ll.length - 1 - n : Nat) : Int) := by omega
      have hil : ll.length - 1 - n < ll.length := by omega
      by_cases he : ll[ll.length - 1 - n] = up
      · have HTR : Hid (trail up ll = n) := trail_at hlt HP.out he
        go_wp2_with fail
        go_quiet (fail)
        clear cq he
        have hbq : Below w4.heap.size w4 (wr.drewN nq) := below_drewN hb nq
        have hxq : (wr.drewN nq).heap[xb]? = some (.cells #[.string nm, .bool up, .slice (some ⟨g2, 0, none⟩) ll.length cp] 122 (0, 0)) := HXR.out
        generalize wr.drewN nq = wq at *
        have HXQ : Hid (wq.heap[xb]? = some (.cells #[.string nm, .bool up, .slice (some ⟨g2, 0, none⟩) ll.length cp] 122 (0, 0))) := hxq
        have hsz4 := HT4.out.size
        have HKQ : Hid (∀ b, b < w1.heap.size → some b ≠ (Value.slice vp lk.length vc).ownBlock → wq.heap[b]? = w1.heap[b]?) := fun b hb hne => (hbq.block b (by omega)).trans (HK4.out b hb hne)
        have HQS : Hid (w1.heap.size ≤ wq.heap.size) := Nat.le_trans hsz4 hbq.size
        have HQO : Hid (wq.os = w1.os ∧ wq.tape = w1.tape ∧ wq.output = w1.output) := ⟨hbq.os.trans HT4.out.os, hbq.tape.trans HT4.out.tape, hbq.output.trans HT4.out.output⟩
        have HO6 : Hid (wq.ownsRow (m + 1) 4 1 (.slice (some ⟨g2, 0, none⟩) ll.length cp) ll.length (ll.map Value.bool)) := ownsRow_below HO5.out hbq
        have y1 : wq.cell? ⟨xb, 1, none⟩ = some (.bool up) := cell_of_row wq xb 1 _ _ _ hxq
        have f1 : wq.frozen? ⟨xb, 1, none⟩ = false := frozen_of_row wq xb 1 _ _ hxq
        have y2 : wq.cell? ⟨xb, 2, none⟩ = some (.slice (some ⟨g2, 0, none⟩) ll.length cp) := cell_of_row wq xb 2 _ _ _ hxq
        have f2 : wq.frozen? ⟨xb, 2, none⟩ = false := frozen_of_row wq xb 2 _ _ hxq
        have hmq := HKQ.out m hmlt (HVN.out m (Or.inl (Nat.le_refl _)))
        have m0 : wq.cell? ⟨m, 0, none⟩ = some (.int .i64 (f : Nat)) := (World.cell?_of_block (w := w1) (w' := wq) (a := ⟨m, 0, none⟩) hmq).trans HM.out.c0
        have m1 : wq.cell? ⟨m, 1, none⟩ = some (.int .i64 (r : Nat)) := (World.cell?_of_block (w := w1) (w' := wq) (a := ⟨m, 1, none⟩) hmq).trans HM.out.c1
        clear hxq hmq hbq hsz4 x1 x2 hb HXR
        cases up with
        | true =>
          by_cases hED : f ≤ n
          · have hd1 : decide (f ≤ n) = true := by simpa using hED
            have hx6 := heap_setCell_same wq xb 1 _ _ (.bool false) HXQ.out
            have hx7 := heap_setCell_same (wq.setCell ⟨xb, 1, none⟩ (.bool false)) xb 2 _ _ (.slice none 0 0) hx6
            have hx8 : ((wq.setCell ⟨xb, 1, none⟩ (.bool false)).setCell ⟨xb, 2, none⟩ (.slice none 0 0)).heap[xb]? = some (.cells #[.string nm, .bool false, .slice none 0 0] 122 (0, 0)) := hx7
            have ho8 : ∀ b, b ≠ xb → ((wq.setCell ⟨xb, 1, none⟩ (.bool false)).setCell ⟨xb, 2, none⟩ (.slice none 0 0)).heap[b]? = wq.heap[b]? := fun b hb => by
              rw [heap_setCell_other _ ⟨xb, 2, none⟩ b _ hb, heap_setCell_other _ ⟨xb, 1, none⟩ b _ hb]
            have hs8 : w1.heap.size ≤ ((wq.setCell ⟨xb, 1, none⟩ (.bool false)).setCell ⟨xb, 2, none⟩ (.slice none 0 0)).heap.size := by
              have h1 := HQS.out
              simpa [World.setCell] using h1
            have HK8 : Hid (∀ b, b < w1.heap.size → some b ≠ (Value.slice vp lk.length vc).ownBlock → ((wq.setCell ⟨xb, 1, none⟩ (.bool false)).setCell ⟨xb, 2, none⟩ (.slice none 0 0)).heap[b]? = w1.heap[b]?) := fun b hb hne => (ho8 b (by have := HXB.out; omega)).trans (HKQ.out b hb hne)
            have HS8 : Hid (w1.heap.size ≤ ((wq.setCell ⟨xb, 1, none⟩ (.bool false)).setCell ⟨xb, 2, none⟩ (.slice none 0 0)).heap.size) := hs8
            have hq8 : ((wq.setCell ⟨xb, 1, none⟩ (.bool false)).setCell ⟨xb, 2, none⟩ (.slice none 0 0)).os = w1.os ∧ ((wq.setCell ⟨xb, 1, none⟩ (.bool false)).setCell ⟨xb, 2, none⟩ (.slice none 0 0)).tape = w1.tape ∧ ((wq.setCell ⟨xb, 1, none⟩ (.bool false)).setCell ⟨xb, 2, none⟩ (.slice none 0 0)).output = w1.output := HQO.out
            have HQ8 : Hid (((wq.setCell ⟨xb, 1, none⟩ (.bool false)).setCell ⟨xb, 2, none⟩ (.slice none 0 0)).os = w1.os ∧ ((wq.setCell ⟨xb, 1, none⟩ (.bool false)).setCell ⟨xb, 2, none⟩ (.slice none 0 0)).tape = w1.tape ∧ ((wq.setCell ⟨xb, 1, none⟩ (.bool false)).setCell ⟨xb, 2, none⟩ (.slice none 0 0)).output = w1.output) := hq8
            have HX8 : Hid (((wq.setCell ⟨xb, 1, none⟩ (.bool false)).setCell ⟨xb, 2, none⟩ (.slice none 0 0)).heap[xb]? = some (.cells #[.string nm, .bool false, .slice none 0 0] 122 (0, 0))) := hx8
            have HED : Hid (f ≤ n) := hED
            clear hx6 hx7 hx8 ho8 hs8 hq8 hED
            go_wp2_with fail
            generalize (wq.setCell ⟨xb, 1, none⟩ (.bool false)).setCell ⟨xb, 2, none⟩ (.slice none 0 0) = wz at *
            clear y1 m0 m1
            have z0 : wz.cell? ⟨xb, 0, none⟩ = some (.string nm) := cell_of_row wz xb 0 _ _ _ HX8.out
            have z1 : wz.cell? ⟨xb, 1, none⟩ = some (.bool false) := cell_of_row wz xb 1 _ _ _ HX8.out
            have z2 : wz.cell? ⟨xb, 2, none⟩ = some (.slice none 0 0) := cell_of_row wz xb 2 _ _ _ HX8.out
            have hmz := HK8.out m hmlt (HVN.out m (Or.inl (Nat.le_refl _)))
            have n2 : wz.cell? ⟨m, 2, none⟩ = some (.slice (some ⟨g, 0, none⟩) L.length cap) := (World.cell?_of_block (w := w1) (w' := wz) (a := ⟨m, 2, none⟩) hmz).trans c2
            have hgz := HK8.out g hglt (HVN.out g (Or.inr (Or.inr rfl)))
            have g0 : wz.cell? ⟨g, k * 3, none⟩ = some (.string nm) := (World.cell?_of_block (w := w1) (w' := wz) (a := ⟨g, k * 3, none⟩) hgz).trans cn
            have g1 : wz.cell? ⟨g, k * 3 + 1, none⟩ = some (.bool true) := (World.cell?_of_block (w := w1) (w' := wz) (a := ⟨g, k * 3 + 1, none⟩) hgz).trans cu
            have g2' : wz.cell? ⟨g, k * 3 + 2, none⟩ = some (.slice vp lk.length vc) := (World.cell?_of_block (w := w1) (w' := wz) (a := ⟨g, k * 3 + 2, none⟩) hgz).trans cv
            have k0 : wz.frozen? ⟨g, k * 3, none⟩ = false := (World.frozen?_of_block (w := w1) (w' := wz) (a := ⟨g, k * 3, none⟩) hgz).trans (hgf _)
            have k1 : wz.frozen? ⟨g, k * 3 + 1, none⟩ = false := (World.frozen?_of_block (w := w1) (w' := wz) (a := ⟨g, k * 3 + 1, none⟩) hgz).trans (hgf _)
            have k2 : wz.frozen? ⟨g, k * 3 + 2, none⟩ = false := (World.frozen?_of_block (w := w1) (w' := wz) (a := ⟨g, k * 3 + 2, none⟩) hgz).trans (hgf _)
            clear hmz hgz cn cu cv c2
            go_region
            all_goals
              go_wp2
              go_ret2
              have eL : lookM f r ⟨nm, true, lk, .slice vp lk.length vc⟩ well (.slice (some ⟨g2, 0, none⟩) ll.length cp) = ⟨nm, false, [], .slice none 0 0⟩ := by
                unfold lookM
                rw [if_pos (by show Lh.hedge f r true ≤ trail true (lk ++ [well]); rw [HLL.out, HTR.out]; exact HED.out)]
                rfl
              have eT : turnM f r ⟨nm, true, lk, .slice vp lk.length vc⟩ well = true := by
                unfold turnM
                exact decide_eq_true (by show Lh.hedge f r true ≤ trail true (lk ++ [well]); rw [HLL.out, HTR.out]; exact HED.out)
              have hE := look_end HM.out hk ⟨nm, false, [], .slice none 0 0⟩ HQ8.out.1 HQ8.out.2.1 HQ8.out.2.2 HS8.out (by rw [HX.out]; exact HK8.out) (by rw [HX.out]; exact HVN.out g (Or.inr (Or.inr rfl))) (World.ownsRow_nil _ _ _ _) (fun q e => by cases e) (Or.inl rfl)
              exact ⟨.slice (some ⟨g2, 0, none⟩) ll.length cp, by rw [eT]; rfl, by rw [eL]; exact hE.1.drew, hE.2.1.drew, by rw [eL]; exact hE.2.2⟩
          · have hd1 : decide (f ≤ n) = false := by simpa using hED
            have HED : Hid (¬ f ≤ n) := hED
            clear hED
            go_wp2_with fail
            obtain ⟨wz, hwz⟩ : ∃ wz, wz = wq := ⟨_, rfl⟩
            subst hwz
            have HK8 := HKQ
            have HS8 := HQS
            have HQ8 := HQO
            have HX8 := HXQ
            clear y1 m0 m1
            have z0 : wz.cell? ⟨xb, 0, none⟩ = some (.string nm) := cell_of_row wz xb 0 _ _ _ HX8.out
            have z1 : wz.cell? ⟨xb, 1, none⟩ = some (.bool true) := cell_of_row wz xb 1 _ _ _ HX8.out
            have z2 : wz.cell? ⟨xb, 2, none⟩ = some (.slice (some ⟨g2, 0, none⟩) ll.length cp) := cell_of_row wz xb 2 _ _ _ HX8.out
            have hmz := HK8.out m hmlt (HVN.out m (Or.inl (Nat.le_refl _)))
            have n2 : wz.cell? ⟨m, 2, none⟩ = some (.slice (some ⟨g, 0, none⟩) L.length cap) := (World.cell?_of_block (w := w1) (w' := wz) (a := ⟨m, 2, none⟩) hmz).trans c2
            have hgz := HK8.out g hglt (HVN.out g (Or.inr (Or.inr rfl)))
            have g0 : wz.cell? ⟨g, k * 3, none⟩ = some (.string nm) := (World.cell?_of_block (w := w1) (w' := wz) (a := ⟨g, k * 3, none⟩) hgz).trans cn
            have g1 : wz.cell? ⟨g, k * 3 + 1, none⟩ = some (.bool true) := (World.cell?_of_block (w := w1) (w' := wz) (a := ⟨g, k * 3 + 1, none⟩) hgz).trans cu
            have g2' : wz.cell? ⟨g, k * 3 + 2, none⟩ = some (.slice vp lk.length vc) := (World.cell?_of_block (w := w1) (w' := wz) (a := ⟨g, k * 3 + 2, none⟩) hgz).trans cv
            have k0 : wz.frozen? ⟨g, k * 3, none⟩ = false := (World.frozen?_of_block (w := w1) (w' := wz) (a := ⟨g, k * 3, none⟩) hgz).trans (hgf _)
            have k1 : wz.frozen? ⟨g, k * 3 + 1, none⟩ = false := (World.frozen?_of_block (w := w1) (w' := wz) (a := ⟨g, k * 3 + 1, none⟩) hgz).trans (hgf _)
            have k2 : wz.frozen? ⟨g, k * 3 + 2, none⟩ = false := (World.frozen?_of_block (w := w1) (w' := wz) (a := ⟨g, k * 3 + 2, none⟩) hgz).trans (hgf _)
            clear hmz hgz cn cu cv c2
            go_region
            all_goals
              go_wp2
              go_ret2
              have eL : lookM f r ⟨nm, true, lk, .slice vp lk.length vc⟩ well (.slice (some ⟨g2, 0, none⟩) ll.length cp) = ⟨nm, true, ll, .slice (some ⟨g2, 0, none⟩) ll.length cp⟩ := by
                unfold lookM
                rw [if_neg (by show ¬ Lh.hedge f r true ≤ trail true (lk ++ [well]); rw [HLL.out, HTR.out]; exact HED.out)]
                show Mh.mk nm true (lk ++ [well]) _ = _
                rw [HLL.out]
              have eT : turnM f r ⟨nm, true, lk, .slice vp lk.length vc⟩ well = false := by
                unfold turnM
                exact decide_eq_false (by show ¬ Lh.hedge f r true ≤ trail true (lk ++ [well]); rw [HLL.out, HTR.out]; exact HED.out)
              have hE := look_end HM.out hk ⟨nm, true, ll, .slice (some ⟨g2, 0, none⟩) ll.length cp⟩ HQ8.out.1 HQ8.out.2.1 HQ8.out.2.2 HS8.out (by rw [HX.out]; exact HK8.out) (by rw [HX.out]; exact HVN.out g (Or.inr (Or.inr rfl))) HO6.out (fun q e => by
                have e2 : g2 = q := Option.some.inj e
                rcases HAT.out with e3 | e3
                · intro e4
                  exact HVN.out g (Or.inr (Or.inr rfl)) (by rw [e3, e2, e4])
                · omega) (by
                rcases HAT.out with e3 | e3
                · exact Or.inr (Or.inl (by rw [HX.out]; exact e3.symm))
                · exact Or.inr (Or.inr ⟨g2, rfl, by omega⟩))
              exact ⟨.slice (some ⟨g2, 0, none⟩) ll.length cp, by rw [eT]; rfl, by rw [eL]; exact hE.1.drew, hE.2.1.drew, by rw [eL]; exact hE.2.2⟩
        | false =>
          by_cases hED : r ≤ n
          · have hd1 : decide (r ≤ n) = true := by simpa using hED
            have hx6 := heap_setCell_same wq xb 1 _ _ (.bool true) HXQ.out
            have hx7 := heap_setCell_same (wq.setCell ⟨xb, 1, none⟩ (.bool true)) xb 2 _ _ (.slice none 0 0) hx6
            have hx8 : ((wq.setCell ⟨xb, 1, none⟩ (.bool true)).setCell ⟨xb, 2, none⟩ (.slice none 0 0)).heap[xb]? = some (.cells #[.string nm, .bool true, .slice none 0 0] 122 (0, 0)) := hx7
            have ho8 : ∀ b, b ≠ xb → ((wq.setCell ⟨xb, 1, none⟩ (.bool true)).setCell ⟨xb, 2, none⟩ (.slice none 0 0)).heap[b]? = wq.heap[b]? := fun b hb => by
              rw [heap_setCell_other _ ⟨xb, 2, none⟩ b _ hb, heap_setCell_other _ ⟨xb, 1, none⟩ b _ hb]
            have hs8 : w1.heap.size ≤ ((wq.setCell ⟨xb, 1, none⟩ (.bool true)).setCell ⟨xb, 2, none⟩ (.slice none 0 0)).heap.size := by
              have h1 := HQS.out
              simpa [World.setCell] using h1
            have HK8 : Hid (∀ b, b < w1.heap.size → some b ≠ (Value.slice vp lk.length vc).ownBlock → ((wq.setCell ⟨xb, 1, none⟩ (.bool true)).setCell ⟨xb, 2, none⟩ (.slice none 0 0)).heap[b]? = w1.heap[b]?) := fun b hb hne => (ho8 b (by have := HXB.out; omega)).trans (HKQ.out b hb hne)
            have HS8 : Hid (w1.heap.size ≤ ((wq.setCell ⟨xb, 1, none⟩ (.bool true)).setCell ⟨xb, 2, none⟩ (.slice none 0 0)).heap.size) := hs8
            have hq8 : ((wq.setCell ⟨xb, 1, none⟩ (.bool true)).setCell ⟨xb, 2, none⟩ (.slice none 0 0)).os = w1.os ∧ ((wq.setCell ⟨xb, 1, none⟩ (.bool true)).setCell ⟨xb, 2, none⟩ (.slice none 0 0)).tape = w1.tape ∧ ((wq.setCell ⟨xb, 1, none⟩ (.bool true)).setCell ⟨xb, 2, none⟩ (.slice none 0 0)).output = w1.output := HQO.out
            have HQ8 : Hid (((wq.setCell ⟨xb, 1, none⟩ (.bool true)).setCell ⟨xb, 2, none⟩ (.slice none 0 0)).os = w1.os ∧ ((wq.setCell ⟨xb, 1, none⟩ (.bool true)).setCell ⟨xb, 2, none⟩ (.slice none 0 0)).tape = w1.tape ∧ ((wq.setCell ⟨xb, 1, none⟩ (.bool true)).setCell ⟨xb, 2, none⟩ (.slice none 0 0)).output = w1.output) := hq8
            have HX8 : Hid (((wq.setCell ⟨xb, 1, none⟩ (.bool true)).setCell ⟨xb, 2, none⟩ (.slice none 0 0)).heap[xb]? = some (.cells #[.string nm, .bool true, .slice none 0 0] 122 (0, 0))) := hx8
            have HED : Hid (r ≤ n) := hED
            clear hx6 hx7 hx8 ho8 hs8 hq8 hED
            go_wp2_with fail
            generalize (wq.setCell ⟨xb, 1, none⟩ (.bool true)).setCell ⟨xb, 2, none⟩ (.slice none 0 0) = wz at *
            clear y1 m0 m1
            have z0 : wz.cell? ⟨xb, 0, none⟩ = some (.string nm) := cell_of_row wz xb 0 _ _ _ HX8.out
            have z1 : wz.cell? ⟨xb, 1, none⟩ = some (.bool true) := cell_of_row wz xb 1 _ _ _ HX8.out
            have z2 : wz.cell? ⟨xb, 2, none⟩ = some (.slice none 0 0) := cell_of_row wz xb 2 _ _ _ HX8.out
            have hmz := HK8.out m hmlt (HVN.out m (Or.inl (Nat.le_refl _)))
            have n2 : wz.cell? ⟨m, 2, none⟩ = some (.slice (some ⟨g, 0, none⟩) L.length cap) := (World.cell?_of_block (w := w1) (w' := wz) (a := ⟨m, 2, none⟩) hmz).trans c2
            have hgz := HK8.out g hglt (HVN.out g (Or.inr (Or.inr rfl)))
            have g0 : wz.cell? ⟨g, k * 3, none⟩ = some (.string nm) := (World.cell?_of_block (w := w1) (w' := wz) (a := ⟨g, k * 3, none⟩) hgz).trans cn
            have g1 : wz.cell? ⟨g, k * 3 + 1, none⟩ = some (.bool false) := (World.cell?_of_block (w := w1) (w' := wz) (a := ⟨g, k * 3 + 1, none⟩) hgz).trans cu
            have g2' : wz.cell? ⟨g, k * 3 + 2, none⟩ = some (.slice vp lk.length vc) := (World.cell?_of_block (w := w1) (w' := wz) (a := ⟨g, k * 3 + 2, none⟩) hgz).trans cv
            have k0 : wz.frozen? ⟨g, k * 3, none⟩ = false := (World.frozen?_of_block (w := w1) (w' := wz) (a := ⟨g, k * 3, none⟩) hgz).trans (hgf _)
            have k1 : wz.frozen? ⟨g, k * 3 + 1, none⟩ = false := (World.frozen?_of_block (w := w1) (w' := wz) (a := ⟨g, k * 3 + 1, none⟩) hgz).trans (hgf _)
            have k2 : wz.frozen? ⟨g, k * 3 + 2, none⟩ = false := (World.frozen?_of_block (w := w1) (w' := wz) (a := ⟨g, k * 3 + 2, none⟩) hgz).trans (hgf _)
            clear hmz hgz cn cu cv c2
            go_region
            all_goals
              go_wp2
              go_ret2
              have eL : lookM f r ⟨nm, false, lk, .slice vp lk.length vc⟩ well (.slice (some ⟨g2, 0, none⟩) ll.length cp) = ⟨nm, true, [], .slice none 0 0⟩ := by
                unfold lookM
                rw [if_pos (by show Lh.hedge f r false ≤ trail false (lk ++ [well]); rw [HLL.out, HTR.out]; exact HED.out)]
                rfl
              have eT : turnM f r ⟨nm, false, lk, .slice vp lk.length vc⟩ well = true := by
                unfold turnM
                exact decide_eq_true (by show Lh.hedge f r false ≤ trail false (lk ++ [well]); rw [HLL.out, HTR.out]; exact HED.out)
              have hE := look_end HM.out hk ⟨nm, true, [], .slice none 0 0⟩ HQ8.out.1 HQ8.out.2.1 HQ8.out.2.2 HS8.out (by rw [HX.out]; exact HK8.out) (by rw [HX.out]; exact HVN.out g (Or.inr (Or.inr rfl))) (World.ownsRow_nil _ _ _ _) (fun q e => by cases e) (Or.inl rfl)
              exact ⟨.slice (some ⟨g2, 0, none⟩) ll.length cp, by rw [eT]; rfl, by rw [eL]; exact hE.1.drew, hE.2.1.drew, by rw [eL]; exact hE.2.2⟩
          · have hd1 : decide (r ≤ n) = false := by simpa using hED
            have HED : Hid (¬ r ≤ n) := hED
            clear hED
            go_wp2_with fail
            obtain ⟨wz, hwz⟩ : ∃ wz, wz = wq := ⟨_, rfl⟩
            subst hwz
            have HK8 := HKQ
            have HS8 := HQS
            have HQ8 := HQO
            have HX8 := HXQ
            clear y1 m0 m1
            have z0 : wz.cell? ⟨xb, 0, none⟩ = some (.string nm) := cell_of_row wz xb 0 _ _ _ HX8.out
            have z1 : wz.cell? ⟨xb, 1, none⟩ = some (.bool false) := cell_of_row wz xb 1 _ _ _ HX8.out
            have z2 : wz.cell? ⟨xb, 2, none⟩ = some (.slice (some ⟨g2, 0, none⟩) ll.length cp) := cell_of_row wz xb 2 _ _ _ HX8.out
            have hmz := HK8.out m hmlt (HVN.out m (Or.inl (Nat.le_refl _)))
            have n2 : wz.cell? ⟨m, 2, none⟩ = some (.slice (some ⟨g, 0, none⟩) L.length cap) := (World.cell?_of_block (w := w1) (w' := wz) (a := ⟨m, 2, none⟩) hmz).trans c2
            have hgz := HK8.out g hglt (HVN.out g (Or.inr (Or.inr rfl)))
            have g0 : wz.cell? ⟨g, k * 3, none⟩ = some (.string nm) := (World.cell?_of_block (w := w1) (w' := wz) (a := ⟨g, k * 3, none⟩) hgz).trans cn
            have g1 : wz.cell? ⟨g, k * 3 + 1, none⟩ = some (.bool false) := (World.cell?_of_block (w := w1) (w' := wz) (a := ⟨g, k * 3 + 1, none⟩) hgz).trans cu
            have g2' : wz.cell? ⟨g, k * 3 + 2, none⟩ = some (.slice vp lk.length vc) := (World.cell?_of_block (w := w1) (w' := wz) (a := ⟨g, k * 3 + 2, none⟩) hgz).trans cv
            have k0 : wz.frozen? ⟨g, k * 3, none⟩ = false := (World.frozen?_of_block (w := w1) (w' := wz) (a := ⟨g, k * 3, none⟩) hgz).trans (hgf _)
            have k1 : wz.frozen? ⟨g, k * 3 + 1, none⟩ = false := (World.frozen?_of_block (w := w1) (w' := wz) (a := ⟨g, k * 3 + 1, none⟩) hgz).trans (hgf _)
            have k2 : wz.frozen? ⟨g, k * 3 + 2, none⟩ = false := (World.frozen?_of_block (w := w1) (w' := wz) (a := ⟨g, k * 3 + 2, none⟩) hgz).trans (hgf _)
            clear hmz hgz cn cu cv c2
            go_region
            all_goals
              go_wp2
              go_ret2
              have eL : lookM f r ⟨nm, false, lk, .slice vp lk.length vc⟩ well (.slice (some ⟨g2, 0, none⟩) ll.length cp) = ⟨nm, false, ll, .slice (some ⟨g2, 0, none⟩) ll.length cp⟩ := by
                unfold lookM
                rw [if_neg (by show ¬ Lh.hedge f r false ≤ trail false (lk ++ [well]); rw [HLL.out, HTR.out]; exact HED.out)]
                show Mh.mk nm false (lk ++ [well]) _ = _
                rw [HLL.out]
              have eT : turnM f r ⟨nm, false, lk, .slice vp lk.length vc⟩ well = false := by
                unfold turnM
                exact decide_eq_false (by show ¬ Lh.hedge f r false ≤ trail false (lk ++ [well]); rw [HLL.out, HTR.out]; exact HED.out)
              have hE := look_end HM.out hk ⟨nm, false, ll, .slice (some ⟨g2, 0, none⟩) ll.length cp⟩ HQ8.out.1 HQ8.out.2.1 HQ8.out.2.2 HS8.out (by rw [HX.out]; exact HK8.out) (by rw [HX.out]; exact HVN.out g (Or.inr (Or.inr rfl))) HO6.out (fun q e => by
                have e2 : g2 = q := Option.some.inj e
                rcases HAT.out with e3 | e3
                · intro e4
                  exact HVN.out g (Or.inr (Or.inr rfl)) (by rw [e3, e2, e4])
                · omega) (by
                rcases HAT.out with e3 | e3
                · exact Or.inr (Or.inl (by rw [HX.out]; exact e3.symm))
                · exact Or.inr (Or.inr ⟨g2, rfl, by omega⟩))
              exact ⟨.slice (some ⟨g2, 0, none⟩) ll.length cp, by rw [eT]; rfl, by rw [eL]; exact hE.1.drew, hE.2.1.drew, by rw [eL]; exact hE.2.2⟩
      · have HPN : Hid (∀ j (hj : j < ll.length), j < n + 1 → ll[ll.length - 1 - j] ≠ up) := fun j hj hjn => by
          by_cases e : j = n
          · subst e; exact he
          · exact HP.out j hj (by omega)
        have hne : (ll[ll.length - 1 - n] != up) = true := by simpa using he
        have hne2 : (ll[ll.length - 1 - n] == up) = false := by simpa using he
        clear he
        generalize ll[ll.length - 1 - n] = bq at *
        go_wp2_with fail
        go_quiet (fail)
        go_wp2
        exact ⟨⟨below_drewN hb nq, n + 1, by omega, by go_num, HPN.out⟩, by simp [intOf]; omega⟩
    · have hd : decide ((n : Int) < (ll.length : Int)) = false := by simp; omega
      have HTR : Hid (trail up ll = n) := by
        have e : n = ll.length := by omega
        show trail up ll = n
        rw [e]
        exact trail_all fun j hj => HP.out j hj (by omega)
      go_wp2_with fail
      go_quiet (fail)
      have hbq : Below w4.heap.size w4 (wr.drewN nq) := below_drewN hb nq
      have hxq : (wr.drewN nq).heap[xb]? = some (.cells #[.string nm, .bool up, .slice (some ⟨g2, 0, none⟩) ll.length cp] 122 (0, 0)) := HXR.out
      generalize wr.drewN nq = wq at *
      have HXQ : Hid (wq.heap[xb]? = some (.cells #[.string nm, .bool up, .slice (some ⟨g2, 0, none⟩) ll.length cp] 122 (0, 0))) := hxq
      have hsz4 := HT4.out.size
      have HKQ : Hid (∀ b, b < w1.heap.size → some b ≠ (Value.slice vp lk.length vc).ownBlock → wq.heap[b]? = w1.heap[b]?) := fun b hb hne => (hbq.block b (by omega)).trans (HK4.out b hb hne)
      have HQS : Hid (w1.heap.size ≤ wq.heap.size) := Nat.le_trans hsz4 hbq.size
      have HQO : Hid (wq.os = w1.os ∧ wq.tape = w1.tape ∧ wq.output = w1.output) := ⟨hbq.os.trans HT4.out.os, hbq.tape.trans HT4.out.tape, hbq.output.trans HT4.out.output⟩
      have HO6 : Hid (wq.ownsRow (m + 1) 4 1 (.slice (some ⟨g2, 0, none⟩) ll.length cp) ll.length (ll.map Value.bool)) := ownsRow_below HO5.out hbq
      have y1 : wq.cell? ⟨xb, 1, none⟩ = some (.bool up) := cell_of_row wq xb 1 _ _ _ hxq
      have f1 : wq.frozen? ⟨xb, 1, none⟩ = false := frozen_of_row wq xb 1 _ _ hxq
      have y2 : wq.cell? ⟨xb, 2, none⟩ = some (.slice (some ⟨g2, 0, none⟩) ll.length cp) := cell_of_row wq xb 2 _ _ _ hxq
      have f2 : wq.frozen? ⟨xb, 2, none⟩ = false := frozen_of_row wq xb 2 _ _ hxq
      have hmq := HKQ.out m hmlt (HVN.out m (Or.inl (Nat.le_refl _)))
      have m0 : wq.cell? ⟨m, 0, none⟩ = some (.int .i64 (f : Nat)) := (World.cell?_of_block (w := w1) (w' := wq) (a := ⟨m, 0, none⟩) hmq).trans HM.out.c0
      have m1 : wq.cell? ⟨m, 1, none⟩ = some (.int .i64 (r : Nat)) := (World.cell?_of_block (w := w1) (w' := wq) (a := ⟨m, 1, none⟩) hmq).trans HM.out.c1
      clear hxq hmq hbq hsz4 x1 x2 hb HXR
      cases up with
      | true =>
        by_cases hED : f ≤ n
        · have hd1 : decide (f ≤ n) = true := by simpa using hED
          have hx6 := heap_setCell_same wq xb 1 _ _ (.bool false) HXQ.out
          have hx7 := heap_setCell_same (wq.setCell ⟨xb, 1, none⟩ (.bool false)) xb 2 _ _ (.slice none 0 0) hx6
          have hx8 : ((wq.setCell ⟨xb, 1, none⟩ (.bool false)).setCell ⟨xb, 2, none⟩ (.slice none 0 0)).heap[xb]? = some (.cells #[.string nm, .bool false, .slice none 0 0] 122 (0, 0)) := hx7
          have ho8 : ∀ b, b ≠ xb → ((wq.setCell ⟨xb, 1, none⟩ (.bool false)).setCell ⟨xb, 2, none⟩ (.slice none 0 0)).heap[b]? = wq.heap[b]? := fun b hb => by
            rw [heap_setCell_other _ ⟨xb, 2, none⟩ b _ hb, heap_setCell_other _ ⟨xb, 1, none⟩ b _ hb]
          have hs8 : w1.heap.size ≤ ((wq.setCell ⟨xb, 1, none⟩ (.bool false)).setCell ⟨xb, 2, none⟩ (.slice none 0 0)).heap.size := by
            have h1 := HQS.out
            simpa [World.setCell] using h1
          have HK8 : Hid (∀ b, b < w1.heap.size → some b ≠ (Value.slice vp lk.length vc).ownBlock → ((wq.setCell ⟨xb, 1, none⟩ (.bool false)).setCell ⟨xb, 2, none⟩ (.slice none 0 0)).heap[b]? = w1.heap[b]?) := fun b hb hne => (ho8 b (by have := HXB.out; omega)).trans (HKQ.out b hb hne)
          have HS8 : Hid (w1.heap.size ≤ ((wq.setCell ⟨xb, 1, none⟩ (.bool false)).setCell ⟨xb, 2, none⟩ (.slice none 0 0)).heap.size) := hs8
          have hq8 : ((wq.setCell ⟨xb, 1, none⟩ (.bool false)).setCell ⟨xb, 2, none⟩ (.slice none 0 0)).os = w1.os ∧ ((wq.setCell ⟨xb, 1, none⟩ (.bool false)).setCell ⟨xb, 2, none⟩ (.slice none 0 0)).tape = w1.tape ∧ ((wq.setCell ⟨xb, 1, none⟩ (.bool false)).setCell ⟨xb, 2, none⟩ (.slice none 0 0)).output = w1.output := HQO.out
          have HQ8 : Hid (((wq.setCell ⟨xb, 1, none⟩ (.bool false)).setCell ⟨xb, 2, none⟩ (.slice none 0 0)).os = w1.os ∧ ((wq.setCell ⟨xb, 1, none⟩ (.bool false)).setCell ⟨xb, 2, none⟩ (.slice none 0 0)).tape = w1.tape ∧ ((wq.setCell ⟨xb, 1, none⟩ (.bool false)).setCell ⟨xb, 2, none⟩ (.slice none 0 0)).output = w1.output) := hq8
          have HX8 : Hid (((wq.setCell ⟨xb, 1, none⟩ (.bool false)).setCell ⟨xb, 2, none⟩ (.slice none 0 0)).heap[xb]? = some (.cells #[.string nm, .bool false, .slice none 0 0] 122 (0, 0))) := hx8
          have HED : Hid (f ≤ n) := hED
          clear hx6 hx7 hx8 ho8 hs8 hq8 hED
          go_wp2_with fail
          generalize (wq.setCell ⟨xb, 1, none⟩ (.bool false)).setCell ⟨xb, 2, none⟩ (.slice none 0 0) = wz at *
          clear y1 m0 m1
          have z0 : wz.cell? ⟨xb, 0, none⟩ = some (.string nm) := cell_of_row wz xb 0 _ _ _ HX8.out
          have z1 : wz.cell? ⟨xb, 1, none⟩ = some (.bool false) := cell_of_row wz xb 1 _ _ _ HX8.out
          have z2 : wz.cell? ⟨xb, 2, none⟩ = some (.slice none 0 0) := cell_of_row wz xb 2 _ _ _ HX8.out
          have hmz := HK8.out m hmlt (HVN.out m (Or.inl (Nat.le_refl _)))
          have n2 : wz.cell? ⟨m, 2, none⟩ = some (.slice (some ⟨g, 0, none⟩) L.length cap) := (World.cell?_of_block (w := w1) (w' := wz) (a := ⟨m, 2, none⟩) hmz).trans c2
          have hgz := HK8.out g hglt (HVN.out g (Or.inr (Or.inr rfl)))
          have g0 : wz.cell? ⟨g, k * 3, none⟩ = some (.string nm) := (World.cell?_of_block (w := w1) (w' := wz) (a := ⟨g, k * 3, none⟩) hgz).trans cn
          have g1 : wz.cell? ⟨g, k * 3 + 1, none⟩ = some (.bool true) := (World.cell?_of_block (w := w1) (w' := wz) (a := ⟨g, k * 3 + 1, none⟩) hgz).trans cu
          have g2' : wz.cell? ⟨g, k * 3 + 2, none⟩ = some (.slice vp lk.length vc) := (World.cell?_of_block (w := w1) (w' := wz) (a := ⟨g, k * 3 + 2, none⟩) hgz).trans cv
          have k0 : wz.frozen? ⟨g, k * 3, none⟩ = false := (World.frozen?_of_block (w := w1) (w' := wz) (a := ⟨g, k * 3, none⟩) hgz).trans (hgf _)
          have k1 : wz.frozen? ⟨g, k * 3 + 1, none⟩ = false := (World.frozen?_of_block (w := w1) (w' := wz) (a := ⟨g, k * 3 + 1, none⟩) hgz).trans (hgf _)
          have k2 : wz.frozen? ⟨g, k * 3 + 2, none⟩ = false := (World.frozen?_of_block (w := w1) (w' := wz) (a := ⟨g, k * 3 + 2, none⟩) hgz).trans (hgf _)
          clear hmz hgz cn cu cv c2
          go_region
          all_goals
            go_wp2
            go_ret2
            have eL : lookM f r ⟨nm, true, lk, .slice vp lk.length vc⟩ well (.slice (some ⟨g2, 0, none⟩) ll.length cp) = ⟨nm, false, [], .slice none 0 0⟩ := by
              unfold lookM
              rw [if_pos (by show Lh.hedge f r true ≤ trail true (lk ++ [well]); rw [HLL.out, HTR.out]; exact HED.out)]
              rfl
            have eT : turnM f r ⟨nm, true, lk, .slice vp lk.length vc⟩ well = true := by
              unfold turnM
              exact decide_eq_true (by show Lh.hedge f r true ≤ trail true (lk ++ [well]); rw [HLL.out, HTR.out]; exact HED.out)
            have hE := look_end HM.out hk ⟨nm, false, [], .slice none 0 0⟩ HQ8.out.1 HQ8.out.2.1 HQ8.out.2.2 HS8.out (by rw [HX.out]; exact HK8.out) (by rw [HX.out]; exact HVN.out g (Or.inr (Or.inr rfl))) (World.ownsRow_nil _ _ _ _) (fun q e => by cases e) (Or.inl rfl)
            exact ⟨.slice (some ⟨g2, 0, none⟩) ll.length cp, by rw [eT]; rfl, by rw [eL]; exact hE.1.drew, hE.2.1.drew, by rw [eL]; exact hE.2.2⟩
        · have hd1 : decide (f ≤ n) = false := by simpa using hED
          have HED : Hid (¬ f ≤ n) := hED
          clear hED
          go_wp2_with fail
          obtain ⟨wz, hwz⟩ : ∃ wz, wz = wq := ⟨_, rfl⟩
          subst hwz
          have HK8 := HKQ
          have HS8 := HQS
          have HQ8 := HQO
          have HX8 := HXQ
          clear y1 m0 m1
          have z0 : wz.cell? ⟨xb, 0, none⟩ = some (.string nm) := cell_of_row wz xb 0 _ _ _ HX8.out
          have z1 : wz.cell? ⟨xb, 1, none⟩ = some (.bool true) := cell_of_row wz xb 1 _ _ _ HX8.out
          have z2 : wz.cell? ⟨xb, 2, none⟩ = some (.slice (some ⟨g2, 0, none⟩) ll.length cp) := cell_of_row wz xb 2 _ _ _ HX8.out
          have hmz := HK8.out m hmlt (HVN.out m (Or.inl (Nat.le_refl _)))
          have n2 : wz.cell? ⟨m, 2, none⟩ = some (.slice (some ⟨g, 0, none⟩) L.length cap) := (World.cell?_of_block (w := w1) (w' := wz) (a := ⟨m, 2, none⟩) hmz).trans c2
          have hgz := HK8.out g hglt (HVN.out g (Or.inr (Or.inr rfl)))
          have g0 : wz.cell? ⟨g, k * 3, none⟩ = some (.string nm) := (World.cell?_of_block (w := w1) (w' := wz) (a := ⟨g, k * 3, none⟩) hgz).trans cn
          have g1 : wz.cell? ⟨g, k * 3 + 1, none⟩ = some (.bool true) := (World.cell?_of_block (w := w1) (w' := wz) (a := ⟨g, k * 3 + 1, none⟩) hgz).trans cu
          have g2' : wz.cell? ⟨g, k * 3 + 2, none⟩ = some (.slice vp lk.length vc) := (World.cell?_of_block (w := w1) (w' := wz) (a := ⟨g, k * 3 + 2, none⟩) hgz).trans cv
          have k0 : wz.frozen? ⟨g, k * 3, none⟩ = false := (World.frozen?_of_block (w := w1) (w' := wz) (a := ⟨g, k * 3, none⟩) hgz).trans (hgf _)
          have k1 : wz.frozen? ⟨g, k * 3 + 1, none⟩ = false := (World.frozen?_of_block (w := w1) (w' := wz) (a := ⟨g, k * 3 + 1, none⟩) hgz).trans (hgf _)
          have k2 : wz.frozen? ⟨g, k * 3 + 2, none⟩ = false := (World.frozen?_of_block (w := w1) (w' := wz) (a := ⟨g, k * 3 + 2, none⟩) hgz).trans (hgf _)
          clear hmz hgz cn cu cv c2
          go_region
          all_goals
            go_wp2
            go_ret2
            have eL : lookM f r ⟨nm, true, lk, .slice vp lk.length vc⟩ well (.slice (some ⟨g2, 0, none⟩) ll.length cp) = ⟨nm, true, ll, .slice (some ⟨g2, 0, none⟩) ll.length cp⟩ := by
              unfold lookM
              rw [if_neg (by show ¬ Lh.hedge f r true ≤ trail true (lk ++ [well]); rw [HLL.out, HTR.out]; exact HED.out)]
              show Mh.mk nm true (lk ++ [well]) _ = _
              rw [HLL.out]
            have eT : turnM f r ⟨nm, true, lk, .slice vp lk.length vc⟩ well = false := by
              unfold turnM
              exact decide_eq_false (by show ¬ Lh.hedge f r true ≤ trail true (lk ++ [well]); rw [HLL.out, HTR.out]; exact HED.out)
            have hE := look_end HM.out hk ⟨nm, true, ll, .slice (some ⟨g2, 0, none⟩) ll.length cp⟩ HQ8.out.1 HQ8.out.2.1 HQ8.out.2.2 HS8.out (by rw [HX.out]; exact HK8.out) (by rw [HX.out]; exact HVN.out g (Or.inr (Or.inr rfl))) HO6.out (fun q e => by
              have e2 : g2 = q := Option.some.inj e
              rcases HAT.out with e3 | e3
              · intro e4
                exact HVN.out g (Or.inr (Or.inr rfl)) (by rw [e3, e2, e4])
              · omega) (by
              rcases HAT.out with e3 | e3
              · exact Or.inr (Or.inl (by rw [HX.out]; exact e3.symm))
              · exact Or.inr (Or.inr ⟨g2, rfl, by omega⟩))
            exact ⟨.slice (some ⟨g2, 0, none⟩) ll.length cp, by rw [eT]; rfl, by rw [eL]; exact hE.1.drew, hE.2.1.drew, by rw [eL]; exact hE.2.2⟩
      | false =>
        by_cases hED : r ≤ n
        · have hd1 : decide (r ≤ n) = true := by simpa using hED
          have hx6 := heap_setCell_same wq xb 1 _ _ (.bool true) HXQ.out
          have hx7 := heap_setCell_same (wq.setCell ⟨xb, 1, none⟩ (.bool true)) xb 2 _ _ (.slice none 0 0) hx6
          have hx8 : ((wq.setCell ⟨xb, 1, none⟩ (.bool true)).setCell ⟨xb, 2, none⟩ (.slice none 0 0)).heap[xb]? = some (.cells #[.string nm, .bool true, .slice none 0 0] 122 (0, 0)) := hx7
          have ho8 : ∀ b, b ≠ xb → ((wq.setCell ⟨xb, 1, none⟩ (.bool true)).setCell ⟨xb, 2, none⟩ (.slice none 0 0)).heap[b]? = wq.heap[b]? := fun b hb => by
            rw [heap_setCell_other _ ⟨xb, 2, none⟩ b _ hb, heap_setCell_other _ ⟨xb, 1, none⟩ b _ hb]
          have hs8 : w1.heap.size ≤ ((wq.setCell ⟨xb, 1, none⟩ (.bool true)).setCell ⟨xb, 2, none⟩ (.slice none 0 0)).heap.size := by
            have h1 := HQS.out
            simpa [World.setCell] using h1
          have HK8 : Hid (∀ b, b < w1.heap.size → some b ≠ (Value.slice vp lk.length vc).ownBlock → ((wq.setCell ⟨xb, 1, none⟩ (.bool true)).setCell ⟨xb, 2, none⟩ (.slice none 0 0)).heap[b]? = w1.heap[b]?) := fun b hb hne => (ho8 b (by have := HXB.out; omega)).trans (HKQ.out b hb hne)
          have HS8 : Hid (w1.heap.size ≤ ((wq.setCell ⟨xb, 1, none⟩ (.bool true)).setCell ⟨xb, 2, none⟩ (.slice none 0 0)).heap.size) := hs8
          have hq8 : ((wq.setCell ⟨xb, 1, none⟩ (.bool true)).setCell ⟨xb, 2, none⟩ (.slice none 0 0)).os = w1.os ∧ ((wq.setCell ⟨xb, 1, none⟩ (.bool true)).setCell ⟨xb, 2, none⟩ (.slice none 0 0)).tape = w1.tape ∧ ((wq.setCell ⟨xb, 1, none⟩ (.bool true)).setCell ⟨xb, 2, none⟩ (.slice none 0 0)).output = w1.output := HQO.out
          have HQ8 : Hid (((wq.setCell ⟨xb, 1, none⟩ (.bool true)).setCell ⟨xb, 2, none⟩ (.slice none 0 0)).os = w1.os ∧ ((wq.setCell ⟨xb, 1, none⟩ (.bool true)).setCell ⟨xb, 2, none⟩ (.slice none 0 0)).tape = w1.tape ∧ ((wq.setCell ⟨xb, 1, none⟩ (.bool true)).setCell ⟨xb, 2, none⟩ (.slice none 0 0)).output = w1.output) := hq8
          have HX8 : Hid (((wq.setCell ⟨xb, 1, none⟩ (.bool true)).setCell ⟨xb, 2, none⟩ (.slice none 0 0)).heap[xb]? = some (.cells #[.string nm, .bool true, .slice none 0 0] 122 (0, 0))) := hx8
          have HED : Hid (r ≤ n) := hED
          clear hx6 hx7 hx8 ho8 hs8 hq8 hED
          go_wp2_with fail
          generalize (wq.setCell ⟨xb, 1, none⟩ (.bool true)).setCell ⟨xb, 2, none⟩ (.slice none 0 0) = wz at *
          clear y1 m0 m1
          have z0 : wz.cell? ⟨xb, 0, none⟩ = some (.string nm) := cell_of_row wz xb 0 _ _ _ HX8.out
          have z1 : wz.cell? ⟨xb, 1, none⟩ = some (.bool true) := cell_of_row wz xb 1 _ _ _ HX8.out
          have z2 : wz.cell? ⟨xb, 2, none⟩ = some (.slice none 0 0) := cell_of_row wz xb 2 _ _ _ HX8.out
          have hmz := HK8.out m hmlt (HVN.out m (Or.inl (Nat.le_refl _)))
          have n2 : wz.cell? ⟨m, 2, none⟩ = some (.slice (some ⟨g, 0, none⟩) L.length cap) := (World.cell?_of_block (w := w1) (w' := wz) (a := ⟨m, 2, none⟩) hmz).trans c2
          have hgz := HK8.out g hglt (HVN.out g (Or.inr (Or.inr rfl)))
          have g0 : wz.cell? ⟨g, k * 3, none⟩ = some (.string nm) := (World.cell?_of_block (w := w1) (w' := wz) (a := ⟨g, k * 3, none⟩) hgz).trans cn
          have g1 : wz.cell? ⟨g, k * 3 + 1, none⟩ = some (.bool false) := (World.cell?_of_block (w := w1) (w' := wz) (a := ⟨g, k * 3 + 1, none⟩) hgz).trans cu
          have g2' : wz.cell? ⟨g, k * 3 + 2, none⟩ = some (.slice vp lk.length vc) := (World.cell?_of_block (w := w1) (w' := wz) (a := ⟨g, k * 3 + 2, none⟩) hgz).trans cv
          have k0 : wz.frozen? ⟨g, k * 3, none⟩ = false := (World.frozen?_of_block (w := w1) (w' := wz) (a := ⟨g, k * 3, none⟩) hgz).trans (hgf _)
          have k1 : wz.frozen? ⟨g, k * 3 + 1, none⟩ = false := (World.frozen?_of_block (w := w1) (w' := wz) (a := ⟨g, k * 3 + 1, none⟩) hgz).trans (hgf _)
          have k2 : wz.frozen? ⟨g, k * 3 + 2, none⟩ = false := (World.frozen?_of_block (w := w1) (w' := wz) (a := ⟨g, k * 3 + 2, none⟩) hgz).trans (hgf _)
          clear hmz hgz cn cu cv c2
          go_region
          all_goals
            go_wp2
            go_ret2
            have eL : lookM f r ⟨nm, false, lk, .slice vp lk.length vc⟩ well (.slice (some ⟨g2, 0, none⟩) ll.length cp) = ⟨nm, true, [], .slice none 0 0⟩ := by
              unfold lookM
              rw [if_pos (by show Lh.hedge f r false ≤ trail false (lk ++ [well]); rw [HLL.out, HTR.out]; exact HED.out)]
              rfl
            have eT : turnM f r ⟨nm, false, lk, .slice vp lk.length vc⟩ well = true := by
              unfold turnM
              exact decide_eq_true (by show Lh.hedge f r false ≤ trail false (lk ++ [well]); rw [HLL.out, HTR.out]; exact HED.out)
            have hE := look_end HM.out hk ⟨nm, true, [], .slice none 0 0⟩ HQ8.out.1 HQ8.out.2.1 HQ8.out.2.2 HS8.out (by rw [HX.out]; exact HK8.out) (by rw [HX.out]; exact HVN.out g (Or.inr (Or.inr rfl))) (World.ownsRow_nil _ _ _ _) (fun q e => by cases e) (Or.inl rfl)
            exact ⟨.slice (some ⟨g2, 0, none⟩) ll.length cp, by rw [eT]; rfl, by rw [eL]; exact hE.1.drew, hE.2.1.drew, by rw [eL]; exact hE.2.2⟩
        · have hd1 : decide (r ≤ n) = false := by simpa using hED
          have HED : Hid (¬ r ≤ n) := hED
          clear hED
          go_wp2_with fail
          obtain ⟨wz, hwz⟩ : ∃ wz, wz = wq := ⟨_, rfl⟩
          subst hwz
          have HK8 := HKQ
          have HS8 := HQS
          have HQ8 := HQO
          have HX8 := HXQ
          clear y1 m0 m1
          have z0 : wz.cell? ⟨xb, 0, none⟩ = some (.string nm) := cell_of_row wz xb 0 _ _ _ HX8.out
          have z1 : wz.cell? ⟨xb, 1, none⟩ = some (.bool false) := cell_of_row wz xb 1 _ _ _ HX8.out
          have z2 : wz.cell? ⟨xb, 2, none⟩ = some (.slice (some ⟨g2, 0, none⟩) ll.length cp) := cell_of_row wz xb 2 _ _ _ HX8.out
          have hmz := HK8.out m hmlt (HVN.out m (Or.inl (Nat.le_refl _)))
          have n2 : wz.cell? ⟨m, 2, none⟩ = some (.slice (some ⟨g, 0, none⟩) L.length cap) := (World.cell?_of_block (w := w1) (w' := wz) (a := ⟨m, 2, none⟩) hmz).trans c2
          have hgz := HK8.out g hglt (HVN.out g (Or.inr (Or.inr rfl)))
          have g0 : wz.cell? ⟨g, k * 3, none⟩ = some (.string nm) := (World.cell?_of_block (w := w1) (w' := wz) (a := ⟨g, k * 3, none⟩) hgz).trans cn
          have g1 : wz.cell? ⟨g, k * 3 + 1, none⟩ = some (.bool false) := (World.cell?_of_block (w := w1) (w' := wz) (a := ⟨g, k * 3 + 1, none⟩) hgz).trans cu
          have g2' : wz.cell? ⟨g, k * 3 + 2, none⟩ = some (.slice vp lk.length vc) := (World.cell?_of_block (w := w1) (w' := wz) (a := ⟨g, k * 3 + 2, none⟩) hgz).trans cv
          have k0 : wz.frozen? ⟨g, k * 3, none⟩ = false := (World.frozen?_of_block (w := w1) (w' := wz) (a := ⟨g, k * 3, none⟩) hgz).trans (hgf _)
          have k1 : wz.frozen? ⟨g, k * 3 + 1, none⟩ = false := (World.frozen?_of_block (w := w1) (w' := wz) (a := ⟨g, k * 3 + 1, none⟩) hgz).trans (hgf _)
          have k2 : wz.frozen? ⟨g, k * 3 + 2, none⟩ = false := (World.frozen?_of_block (w := w1) (w' := wz) (a := ⟨g, k * 3 + 2, none⟩) hgz).trans (hgf _)
          clear hmz hgz cn cu cv c2
          go_region
          all_goals
            go_wp2
            go_ret2
            have eL : lookM f r ⟨nm, false, lk, .slice vp lk.length vc⟩ well (.slice (some ⟨g2, 0, none⟩) ll.length cp) = ⟨nm, false, ll, .slice (some ⟨g2, 0, none⟩) ll.length cp⟩ := by
              unfold lookM
              rw [if_neg (by show ¬ Lh.hedge f r false ≤ trail false (lk ++ [well]); rw [HLL.out, HTR.out]; exact HED.out)]
              show Mh.mk nm false (lk ++ [well]) _ = _
              rw [HLL.out]
            have eT : turnM f r ⟨nm, false, lk, .slice vp lk.length vc⟩ well = false := by
              unfold turnM
              exact decide_eq_false (by show ¬ Lh.hedge f r false ≤ trail false (lk ++ [well]); rw [HLL.out, HTR.out]; exact HED.out)
            have hE := look_end HM.out hk ⟨nm, false, ll, .slice (some ⟨g2, 0, none⟩) ll.length cp⟩ HQ8.out.1 HQ8.out.2.1 HQ8.out.2.2 HS8.out (by rw [HX.out]; exact HK8.out) (by rw [HX.out]; exact HVN.out g (Or.inr (Or.inr rfl))) HO6.out (fun q e => by
              have e2 : g2 = q := Option.some.inj e
              rcases HAT.out with e3 | e3
              · intro e4
                exact HVN.out g (Or.inr (Or.inr rfl)) (by rw [e3, e2, e4])
              · omega) (by
              rcases HAT.out with e3 | e3
              · exact Or.inr (Or.inl (by rw [HX.out]; exact e3.symm))
              · exact Or.inr (Or.inr ⟨g2, rfl, by omega⟩))
            exact ⟨.slice (some ⟨g2, 0, none⟩) ll.length cp, by rw [eT]; rfl, by rw [eL]; exact hE.1.drew, hE.2.1.drew, by rw [eL]; exact hE.2.2⟩

set_option maxHeartbeats 1000000 in
/-- Look at a host that is none. -/
theorem lookM_none {W : World} {m f r : Nat} {L : List Mh} {lv : Value} (h : MH W m f r L lv) (hl : L.length ≤ 12) (s : ByteArray) (well : Bool) (hnx : ¬ Lh.hix (hst L) s < (hst L).length) :
    Calls Tryd.prog 40 #[.pointer (some ⟨m, 0, none⟩), .string s, .bool well] W fun e w' => e = .returned (.tuple #[.bool false, .int .i64 5]) ∧ w' = W := by
  have hfd := find_any h hl s
  have e1 : fi (hst L) s = -1 := by unfold fi; rw [if_neg hnx]
  rw [e1] at hfd
  clear h hnx e1
  go_enter Tryd.func40, Tryd.ntmps40
  go_wp2_with fail
  refine hfd.mono ?_
  rintro e w1 ⟨rfl, rfl⟩
  clear hfd
  go_wp2
  go_ret2
  exact ⟨rfl, rfl⟩
theorem hst_set (L : List Mh) (k : Nat) (x : Mh) : hst (L.set k x) = (hst L).set k x.st := by simp [hst, List.map_set]
/-- Look at any host. -/
theorem lookM_any {W : World} {m f r : Nat} {L : List Mh} {lv : Value} (h : MH W m f r L lv) (hok : Lh.HOk f r (hst L)) (s : ByteArray) (well : Bool) (B : Nat) (hB : B ≤ 200) (hlk : ∀ x ∈ L, x.looks.length ≤ B) :
    Calls Tryd.prog 40 #[.pointer (some ⟨m, 0, none⟩), .string s, .bool well] W fun e w' => ∃ L' lv', MH w' m f r L' lv' ∧ Tur (MFoot m L lv) W w' ∧ (∀ b, MFoot m L' lv' b → MFoot m L lv b ∨ W.heap.size ≤ b) ∧ (∀ x ∈ L', x.looks.length ≤ B + 1) ∧
      ((∃ hx : Lh.hix (hst L) s < (hst L).length, e = .returned (.tuple #[.bool (Lh.hlook f r (hst L)[Lh.hix (hst L) s] well).2, .int .i64 0]) ∧ hst L' = (hst L).set (Lh.hix (hst L) s) (Lh.hlook f r (hst L)[Lh.hix (hst L) s] well).1) ∨
       (¬ Lh.hix (hst L) s < (hst L).length ∧ e = .returned (.tuple #[.bool false, .int .i64 5]) ∧ hst L' = hst L)) := by
  have hl : L.length ≤ 12 := by have := hok.len; rwa [hst_length] at this
  by_cases hx : Lh.hix (hst L) s < (hst L).length
  · have hx' : Lh.hix (hst L) s < L.length := by rwa [hst_length] at hx
    obtain ⟨g, cap, rfl, _⟩ := row_of_owns3 h.own (by omega)
    refine (lookM_core h hl s well (Lh.hix (hst L) s) hx' (by unfold fi; rw [if_pos hx]) (Nat.le_trans (hlk _ (List.getElem_mem hx')) hB)).mono ?_
    rintro e w' ⟨v, rfl, h1, h2, h3⟩
    have hst1 := lookM_st hok.f1 hok.r1 (L[Lh.hix (hst L) s]) well v
    have e2 : (hst L)[Lh.hix (hst L) s] = (L[Lh.hix (hst L) s]).st := hst_get L hx
    refine ⟨_, _, h1, h2, h3, fun y hy => ?_, Or.inl ⟨hx, ?_, ?_⟩⟩
    · rcases List.mem_or_eq_of_mem_set hy with hy | rfl
      · have := hlk y hy
        omega
      · unfold lookM
        split
        · simp
        · have := hlk _ (List.getElem_mem hx')
          simp
          omega
    · rw [e2, ← hst1]
    · rw [hst_set, e2, ← hst1]
  · refine (lookM_none h hl s well hx).mono ?_
    rintro e w' ⟨rfl, rfl⟩
    exact ⟨L, lv, h, Tur.of_below (Below.refl _ _), fun b hb => Or.inl hb, fun y hy => by have := hlk y hy; omega, Or.inr ⟨hx, rfl, rfl⟩⟩
end Go.Proofs.YtkpjecpaejdgaabDoor

/- The model of health: Remove. -/
namespace Go.Proofs.YtkpjecpaejdgaabDoor
open Go.RowKit

theorem own_shape {w : World} {base : Nat} {e : TypeId} {size n : Nat} {v : Value} {xs : List Value} (h : w.ownsRow base e size v n xs) : ∃ p cap, v = .slice p n cap := by
  obtain ⟨h1, ⟨rfl, rfl⟩ | ⟨g, cap, cur, rfl, _⟩⟩ := h
  · exact ⟨_, _, rfl⟩
  · exact ⟨_, _, rfl⟩
theorem own_mono {w : World} {base base' : Nat} {e : TypeId} {size n : Nat} {v : Value} {xs : List Value} (h : w.ownsRow base e size v n xs) (hb : base' ≤ base) : w.ownsRow base' e size v n xs := by
  obtain ⟨h1, h2 | ⟨g, cap, cur, e1, e2, e3⟩⟩ := h
  · exact ⟨h1, Or.inl h2⟩
  · exact ⟨h1, Or.inr ⟨g, cap, cur, e1, Nat.le_trans hb e2, e3⟩⟩
theorem row_cells {w : World} {base : Nat} {e : TypeId} {g n cap : Nat} {xs : List Value} (h : w.ownsRow base e 3 (.slice (some ⟨g, 0, none⟩) n cap) n xs) : ∀ j u, xs[j]? = some u → w.cell? ⟨g, j, none⟩ = some u := fun j u hu => by
  obtain ⟨hl, ⟨e0, _⟩ | ⟨g', cap', cur, e1, _, hb, hn, hm, hsz, ht⟩⟩ := h
  · cases e0
  · cases e1
    have hj : j < xs.length := (List.getElem?_eq_some_iff.1 hu).1
    rw [← ht, List.getElem?_take_of_lt (by omega)] at hu
    simp only [World.cell?, hb]
    simpa using hu
theorem flatH_take (L : List Mh) : ∀ k, flatH (L.take k) = (flatH L).take (k * 3) := by
  induction L with
  | nil => intro k; simp [flatH]
  | cons p P ih =>
    intro k
    match k with
    | 0 => rfl
    | k + 1 =>
      rw [List.take_succ_cons, show (k + 1) * 3 = k * 3 + 1 + 1 + 1 by omega]
      have e : ∀ M, flatH (p :: M) = .string p.name :: .bool p.up :: p.val :: flatH M := fun _ => rfl
      rw [e, e, ih k, List.take_succ_cons, List.take_succ_cons, List.take_succ_cons]
theorem flatH_drop (L : List Mh) : ∀ k, flatH (L.drop k) = (flatH L).drop (k * 3) := by
  induction L with
  | nil => intro k; simp [flatH]
  | cons p P ih =>
    intro k
    match k with
    | 0 => rfl
    | k + 1 =>
      rw [List.drop_succ_cons, show (k + 1) * 3 = k * 3 + 1 + 1 + 1 by omega]
      have e : ∀ M, flatH (p :: M) = .string p.name :: .bool p.up :: p.val :: flatH M := fun _ => rfl
      rw [e, ih k, List.drop_succ_cons, List.drop_succ_cons, List.drop_succ_cons]
theorem MH.one {W : World} {m f r : Nat} {L : List Mh} {lv : Value} (h : MH W m f r L lv) {M : List Mh} (hM : ∀ x ∈ M, x ∈ L) : ∀ u ∈ flatH M, u.oneCell' = true := by
  intro u hu
  obtain ⟨x, hx, hu⟩ := List.mem_flatMap.1 hu
  obtain ⟨p, c, e⟩ := own_shape (h.looks x (hM x hx))
  exact encH_one x (by rw [e]; rfl) u hu
theorem MH.removed {W w3 : World} {m f r : Nat} {L M : List Mh} {lv v : Value} (h : MH W m f r L lv) (hM : M.Sublist L) (hB : Below W.heap.size W w3) (hown : w3.ownsRow W.heap.size 122 3 v M.length (flatH M)) :
    MH (w3.setCell ⟨m, 2, none⟩ v) m f r M v ∧ Tur (MFoot m L lv) W (w3.setCell ⟨m, 2, none⟩ v) ∧ ∀ b, MFoot m M v b → MFoot m L lv b ∨ W.heap.size ≤ b := by
  have hm := h.mlt
  have hm3 := hB.block m hm
  have hsame : ∀ b, b ≠ m → (w3.setCell ⟨m, 2, none⟩ v).heap[b]? = w3.heap[b]? := fun b hb => heap_setCell_other w3 ⟨m, 2, none⟩ b _ hb
  refine ⟨⟨?_, ?_, ?_, fun k => ?_, ?_, fun y hy => ?_, fun y hy => ?_, h.pair.sublist hM⟩, ⟨hB.os, hB.tape, hB.output, by have := hB.size; simpa [World.setCell] using this, fun b hb hf => (hsame b (fun e => hf (Or.inl e))).trans (hB.block b hb)⟩, fun b hb => ?_⟩
  · have : w3.cell? ⟨m, 0, none⟩ = _ := (World.cell?_of_block (w := W) (w' := w3) (a := ⟨m, 0, none⟩) hm3).trans h.c0
    simp [go_sem, this]
  · have : w3.cell? ⟨m, 1, none⟩ = _ := (World.cell?_of_block (w := W) (w' := w3) (a := ⟨m, 1, none⟩) hm3).trans h.c1
    simp [go_sem, this]
  · have : w3.cell? ⟨m, 2, none⟩ = _ := (World.cell?_of_block (w := W) (w' := w3) (a := ⟨m, 2, none⟩) hm3).trans h.c2
    simp [go_sem, this]
  · have : w3.frozen? ⟨m, k, none⟩ = _ := (World.frozen?_of_block (w := W) (w' := w3) (a := ⟨m, k, none⟩) hm3).trans (h.fz k)
    simp [go_sem, this]
  · exact howns_setCell (own_mono hown hm) (Nat.lt_succ_self m) _
  · have hl := h.looks y (hM.mem hy)
    refine owns_same hl fun q e => ?_
    have h1 := hl.lt q e
    exact (hsame q (by omega)).trans (hB.block q h1.2)
  · cases hv : y.val.ownBlock with
    | none => exact Or.inl rfl
    | some q =>
      refine Or.inr fun e => ?_
      have h1 := ((h.looks y (hM.mem hy)).lt q hv).2
      have h2 := (hown.lt q e.symm).1
      omega
  · rcases hb with rfl | e | ⟨y, hy, e⟩
    · exact Or.inl (Or.inl rfl)
    · exact Or.inr (hown.lt b e).1
    · exact Or.inl (Or.inr (Or.inr ⟨y, hM.mem hy, e⟩))

set_option maxRecDepth 100000 in
set_option maxHeartbeats 2000000 in
theorem removeM_A {W : World} {m f r : Nat} {L : List Mh} {g : Nat} (k : Nat) (hkl : L.length = k + 1) (h : MH W m f r L (.slice (some ⟨g, 0, none⟩) L.length (k + 1))) (hl : L.length ≤ 12) (s : ByteArray) (hcm : (k + 1) ≤ maxLen) (hfi : fi (hst L) s = (k : Nat)) :
    Calls Tryd.prog 39 #[.pointer (some ⟨m, 0, none⟩), .string s] W fun e w' => ∃ lv', e = .returned (.int .i64 0) ∧ MH w' m f r (L.eraseIdx k) lv' ∧ Tur (MFoot m L (.slice (some ⟨g, 0, none⟩) L.length (k + 1))) W w' ∧ ∀ b, MFoot m (L.eraseIdx k) lv' b → MFoot m L (.slice (some ⟨g, 0, none⟩) L.length (k + 1)) b ∨ W.heap.size ≤ b := by
  obtain ⟨i, hi, hz0, hz1, hz2⟩ := info_parts infoH
  have hfd := find_any h hl s
  rw [hfi] at hfd
  have c2 := h.c2
  have f2 := h.fz 2
  have hmlt := h.mlt
  have HM : Hid (MH W m f r L (.slice (some ⟨g, 0, none⟩) L.length (k + 1))) := h
  have d0 : decide ((k : Int) < 0) = false := by simp
  have hki : (k : Int) < (L.length : Int) := by omega
  have hcm' := hcm
  unfold maxLen at hcm'
  clear h hfi
  go_enter Tryd.func39, Tryd.ntmps39
  go_wp2_with fail
  refine hfd.mono ?_
  rintro e w1 ⟨rfl, rfl⟩
  clear hfd
  have hs1 : ∀ j u, (flatH (L.take k))[j]? = some u → w1.cell? ((⟨g, 0, none⟩ : Addr).add j) = some u := fun j u hu => by
    have hj : j < (flatH (L.take k)).length := (List.getElem?_eq_some_iff.1 hu).1
    rw [flatH_length, List.length_take] at hj
    rw [flatH_take, List.getElem?_take_of_lt (by omega)] at hu
    rw [Addr.add_lit, Nat.zero_add]
    exact row_cells HM.out.own j u hu
  have hl1 : (flatH (L.take k)).length = k * 3 := by rw [flatH_length, List.length_take]; congr 1; omega
  have hm1 : 0 + k ≤ maxLen := by unfold maxLen; omega
  have ho1 := HM.out.one (M := L.take k) fun x hx => List.mem_of_mem_take hx
  go_wp2_with (at_builtin; refine wpList_append_own _ rfl _ _ 117 rfl w1.heap.size 122 i _ 3 48 Tryd.underlying117 hi hz0 hz1 hz2 rfl (by decide) (.slice none 0 0) 0 [] rfl (World.ownsRow_nil _ _ _ _) ⟨g, 0, none⟩ k (k + 1) (flatH (L.take k)) rfl hl1 hs1 ho1 hm1 (by omega) (Nat.le_refl _) ?_)
  intro v4 w4 hown4 hg4 _
  have hR4 : Below w1.heap.size w1 w4 := below_grown hg4 (fun k h => by cases h)
  have c4 := below_cell hR4 c2
  clear hs1 hl1 hg4 ho1
  have hs2 : ∀ j u, ([] : List Value)[j]? = some u → w4.cell? ((⟨g, 0, none⟩ : Addr).add j) = some u := fun j u hu => by
    simp at hu
  have hl2 : ([] : List Value).length = 0 * 3 := rfl
  have hm2 : k + 0 ≤ maxLen := by unfold maxLen; omega
  go_wp2_with (at_builtin; refine wpList_append_own _ rfl _ _ 117 rfl w1.heap.size 122 i _ 3 48 Tryd.underlying117 hi hz0 hz1 hz2 rfl (by decide) v4 k (flatH (L.take k)) rfl hown4 ⟨g, 0, none⟩ 0 _ [] rfl hl2 hs2 (fun u hu => by cases hu) hm2 (by omega) hR4.size ?_)
  intro v5 w5 hown5 hg5 _
  have hb5 : Below w1.heap.size w1 w5 := hR4.grown hg5 hR4.size (fun k h => (hown4.lt k h).1)
  have hown6 : w5.ownsRow w1.heap.size 122 3 v5 (L.eraseIdx k).length (flatH (L.eraseIdx k)) := by
    have e1 : L.eraseIdx k = L.take k := by rw [List.eraseIdx_eq_take_drop_succ, List.drop_eq_nil_of_le (by omega), List.append_nil]
    have e2 : (L.take k).length = k + 0 := by rw [List.length_take]; omega
    rw [e1, e2]
    simpa using hown5
  obtain ⟨p5, c5, rfl⟩ := own_shape hown5
  have HE := HM.out.removed (List.eraseIdx_sublist L k) hb5 hown6
  have HEH : Hid _ := HE
  have c6 := below_cell hb5 c2
  have f6 : w5.frozen? ⟨m, 2, none⟩ = false := by rw [hb5.frozen hmlt]; exact f2
  clear HE hown4 hown5 hown6 hg5 hs2 hl2 hm2 hm1 hR4 c4 c2 f2
  go_wp2
  go_ret
  exact ⟨_, rfl, HEH.out⟩

set_option maxRecDepth 100000 in
set_option maxHeartbeats 2000000 in
theorem removeM_B {W : World} {m f r : Nat} {L : List Mh} {g : Nat} (cap : Nat) (k : Nat) (hkl : k < L.length) (hcc : k + 1 < cap) (_hcap : L.length ≤ cap) (h : MH W m f r L (.slice (some ⟨g, 0, none⟩) L.length cap)) (hl : L.length ≤ 12) (s : ByteArray) (hcm : cap ≤ maxLen) (hfi : fi (hst L) s = (k : Nat)) :
    Calls Tryd.prog 39 #[.pointer (some ⟨m, 0, none⟩), .string s] W fun e w' => ∃ lv', e = .returned (.int .i64 0) ∧ MH w' m f r (L.eraseIdx k) lv' ∧ Tur (MFoot m L (.slice (some ⟨g, 0, none⟩) L.length cap)) W w' ∧ ∀ b, MFoot m (L.eraseIdx k) lv' b → MFoot m L (.slice (some ⟨g, 0, none⟩) L.length cap) b ∨ W.heap.size ≤ b := by
  obtain ⟨i, hi, hz0, hz1, hz2⟩ := info_parts infoH
  have hfd := find_any h hl s
  rw [hfi] at hfd
  have c2 := h.c2
  have f2 := h.fz 2
  have hmlt := h.mlt
  have HM : Hid (MH W m f r L (.slice (some ⟨g, 0, none⟩) L.length cap)) := h
  have d0 : decide ((k : Int) < 0) = false := by simp
  have hki : (k : Int) < (L.length : Int) := by omega
  have hcm' := hcm
  unfold maxLen at hcm'
  clear h hfi
  go_enter Tryd.func39, Tryd.ntmps39
  go_wp2_with fail
  refine hfd.mono ?_
  rintro e w1 ⟨rfl, rfl⟩
  clear hfd
  have hs1 : ∀ j u, (flatH (L.take k))[j]? = some u → w1.cell? ((⟨g, 0, none⟩ : Addr).add j) = some u := fun j u hu => by
    have hj : j < (flatH (L.take k)).length := (List.getElem?_eq_some_iff.1 hu).1
    rw [flatH_length, List.length_take] at hj
    rw [flatH_take, List.getElem?_take_of_lt (by omega)] at hu
    rw [Addr.add_lit, Nat.zero_add]
    exact row_cells HM.out.own j u hu
  have hl1 : (flatH (L.take k)).length = k * 3 := by rw [flatH_length, List.length_take]; congr 1; omega
  have hm1 : 0 + k ≤ maxLen := by unfold maxLen; omega
  have ho1 := HM.out.one (M := L.take k) fun x hx => List.mem_of_mem_take hx
  go_wp2_with (at_builtin; refine wpList_append_own _ rfl _ _ 117 rfl w1.heap.size 122 i _ 3 48 Tryd.underlying117 hi hz0 hz1 hz2 rfl (by decide) (.slice none 0 0) 0 [] rfl (World.ownsRow_nil _ _ _ _) ⟨g, 0, none⟩ k cap (flatH (L.take k)) rfl hl1 hs1 ho1 hm1 (by omega) (Nat.le_refl _) ?_)
  intro v4 w4 hown4 hg4 _
  have hR4 : Below w1.heap.size w1 w4 := below_grown hg4 (fun k h => by cases h)
  have c4 := below_cell hR4 c2
  clear hs1 hl1 hg4 ho1
  have hs2 : ∀ j u, (flatH (L.drop (k + 1)))[j]? = some u → w4.cell? ((⟨g, (k + 1) * 3, none⟩ : Addr).add j) = some u := fun j u hu => by
    rw [flatH_drop, List.getElem?_drop] at hu
    rw [Addr.add_lit]
    exact below_cell hR4 (row_cells HM.out.own _ u hu)
  have hl2 : (flatH (L.drop (k + 1))).length = (L.length - (k + 1)) * 3 := by rw [flatH_length, List.length_drop]
  have hm2 : k + (L.length - (k + 1)) ≤ maxLen := by unfold maxLen; omega
  go_wp2_with (at_builtin; refine wpList_append_own _ rfl _ _ 117 rfl w1.heap.size 122 i _ 3 48 Tryd.underlying117 hi hz0 hz1 hz2 rfl (by decide) v4 k (flatH (L.take k)) rfl hown4 ⟨g, (k + 1) * 3, none⟩ (L.length - (k + 1)) _ (flatH (L.drop (k + 1))) rfl hl2 hs2 (HM.out.one fun x hx => List.mem_of_mem_drop hx) hm2 (by omega) hR4.size ?_)
  intro v5 w5 hown5 hg5 _
  have hb5 : Below w1.heap.size w1 w5 := hR4.grown hg5 hR4.size (fun k h => (hown4.lt k h).1)
  have hown6 : w5.ownsRow w1.heap.size 122 3 v5 (L.eraseIdx k).length (flatH (L.eraseIdx k)) := by
    have e1 : L.eraseIdx k = L.take k ++ L.drop (k + 1) := List.eraseIdx_eq_take_drop_succ _ _
    have e2 : (L.take k ++ L.drop (k + 1)).length = k + (L.length - (k + 1)) := by rw [List.length_append, List.length_take, List.length_drop]; omega
    rw [e1, e2, flatH_append]
    exact hown5
  obtain ⟨p5, c5, rfl⟩ := own_shape hown5
  have HE := HM.out.removed (List.eraseIdx_sublist L k) hb5 hown6
  have HEH : Hid _ := HE
  have c6 := below_cell hb5 c2
  have f6 : w5.frozen? ⟨m, 2, none⟩ = false := by rw [hb5.frozen hmlt]; exact f2
  clear HE hown4 hown5 hown6 hg5 hs2 hl2 hm2 hm1 hR4 c4 c2 f2
  go_wp2
  go_ret
  exact ⟨_, rfl, HEH.out⟩

set_option maxHeartbeats 1000000 in
theorem removeM_none {W : World} {m f r : Nat} {L : List Mh} {lv : Value} (h : MH W m f r L lv) (hl : L.length ≤ 12) (s : ByteArray) (hnx : ¬ Lh.hix (hst L) s < (hst L).length) :
    Calls Tryd.prog 39 #[.pointer (some ⟨m, 0, none⟩), .string s] W fun e w' => e = .returned (.int .i64 5) ∧ w' = W := by
  have hfd := find_any h hl s
  have e1 : fi (hst L) s = -1 := by unfold fi; rw [if_neg hnx]
  rw [e1] at hfd
  clear h hnx e1
  go_enter Tryd.func39, Tryd.ntmps39
  go_wp2_with fail
  refine hfd.mono ?_
  rintro e w1 ⟨rfl, rfl⟩
  clear hfd
  go_wp2
  go_ret
  exact ⟨rfl, rfl⟩
/-- Remove a host that is there. -/
theorem removeM_good {W : World} {m f r : Nat} {L : List Mh} {lv : Value} (h : MH W m f r L lv) (hl : L.length ≤ 12) (s : ByteArray) (hx : Lh.hix (hst L) s < (hst L).length) :
    Calls Tryd.prog 39 #[.pointer (some ⟨m, 0, none⟩), .string s] W fun e w' => ∃ lv', e = .returned (.int .i64 0) ∧ MH w' m f r (L.eraseIdx (Lh.hix (hst L) s)) lv' ∧ Tur (MFoot m L lv) W w' ∧ ∀ b, MFoot m (L.eraseIdx (Lh.hix (hst L) s)) lv' b → MFoot m L lv b ∨ W.heap.size ≤ b := by
  have hx' : Lh.hix (hst L) s < L.length := by rwa [hst_length] at hx
  have e1 : fi (hst L) s = (Lh.hix (hst L) s : Nat) := by unfold fi; rw [if_pos hx]
  have hcm : ∀ g cap, lv = .slice (some ⟨g, 0, none⟩) L.length cap → cap ≤ maxLen := fun g cap e => by
    subst e
    obtain ⟨_, ⟨e0, _⟩ | ⟨g', cap', cur, e1, _, _, _, hm, _⟩⟩ := h.own
    · cases e0
    · cases e1
      exact hm
  obtain ⟨g, cap, rfl, _, _, hcap, _⟩ := row_of_owns3 h.own (by omega)
  have hcm' := hcm g cap rfl
  by_cases hc : Lh.hix (hst L) s + 1 < cap
  · exact removeM_B cap _ hx' hc hcap h hl s hcm' e1
  · have e2 : cap = Lh.hix (hst L) s + 1 := by omega
    subst e2
    exact removeM_A _ (by omega) h hl s hcm' e1
end Go.Proofs.YtkpjecpaejdgaabDoor
