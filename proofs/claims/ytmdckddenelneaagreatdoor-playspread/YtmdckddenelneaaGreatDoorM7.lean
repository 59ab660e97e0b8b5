/- Flows, as lists by key: a key, its host, and the tick at which it is gone. -/
import Derived.Maps.OwnSet
import Derived.Maps.Ext
namespace Go.Proofs.YtmdckddenelneaaGreatDoor
namespace Lh

abbrev Fl := Nat × ByteArray × Int
/-- the place of a key (the list's length: none) -/
def fix (L : List Fl) (k : Nat) : Nat := L.findIdx fun x => decide (x.1 = k)
/-- a flow is laid in, by key -/
def flay (x : Fl) (L : List Fl) : List Fl := (L.takeWhile fun y => decide (y.1 < x.1)) ++ x :: L.dropWhile fun y => decide (y.1 < x.1)
/-- the one that is gone first: the first of the least tick -/
def fleast (L : List Fl) : Nat := (List.range L.length).foldl (fun b i => if ((L.map fun x => x.2.2).getD i 0) < ((L.map fun x => x.2.2).getD b 0) then i else b) 0
/-- what a Put leaves -/
def frest (L : List Fl) (k : Nat) : List Fl := if fix L k < L.length then L.eraseIdx (fix L k) else if 200 ≤ L.length then L.eraseIdx (fleast L) else L
def fput (time : Nat) (L : List Fl) (k : Nat) (h : ByteArray) (now : Int) : List Fl := flay (k, h, now + time) (frest L k)
def fdrop (L : List Fl) (h : ByteArray) : List Fl := L.filter fun x => !decide (x.2.1 = h)
/-- one flow more, if it may come -/
def fadd1 (now : Int) (L : List Fl) (x : Fl) : List Fl := if fix L x.1 < L.length ∨ x.2.2 ≤ now ∨ 1000 < x.2.2 - now ∨ 200 ≤ L.length then L else flay x L
def fadd (now : Int) (L l : List Fl) : List Fl := l.foldl (fadd1 now) L
/-- by key, each once; not too many; hosts are names; ticks in bounds -/
structure FlOk (L : List Fl) : Prop where
  rise : L.Pairwise fun x y => x.1 < y.1
  len : L.length ≤ 200
  key : ∀ x ∈ L, x.1 < 18446744073709551616
  size : ∀ x ∈ L, x.2.1.size ≤ 300
  lo : ∀ x ∈ L, 0 ≤ x.2.2
  hi : ∀ x ∈ L, x.2.2 ≤ 2000000000000
theorem flay_mem {x y : Fl} {L : List Fl} : y ∈ flay x L ↔ y = x ∨ y ∈ L := by
  unfold flay
  rw [List.mem_append, List.mem_cons]
  constructor
  · rintro (h | h | h)
    · exact Or.inr ((List.takeWhile_prefix _).sublist.mem h)
    · exact Or.inl h
    · exact Or.inr ((List.dropWhile_suffix _).sublist.mem h)
  · rintro (h | h)
    · exact Or.inr (Or.inl h)
    · rw [← List.takeWhile_append_dropWhile (p := fun y : Fl => decide (y.1 < x.1)) (l := L)] at h
      rcases List.mem_append.1 h with h | h
      · exact Or.inl h
      · exact Or.inr (Or.inr h)
theorem flay_len (x : Fl) (L : List Fl) : (flay x L).length = L.length + 1 := by
  unfold flay
  rw [List.length_append, List.length_cons]
  have h : (L.takeWhile (fun y : Fl => decide (y.1 < x.1)) ++ L.dropWhile (fun y : Fl => decide (y.1 < x.1))).length = L.length := by rw [List.takeWhile_append_dropWhile]
  rw [List.length_append] at h
  omega
theorem takeWhile_lt {k : Nat} : ∀ {L : List Fl} {y : Fl}, y ∈ L.takeWhile (fun y => decide (y.1 < k)) → y.1 < k
  | a :: L, y, h => by
    rw [List.takeWhile_cons] at h
    split at h
    · rename_i ha
      rcases List.mem_cons.1 h with rfl | h
      · simpa using ha
      · exact takeWhile_lt h
    · cases h
theorem dropWhile_ge {k : Nat} : ∀ {L : List Fl} {y : Fl}, L.Pairwise (fun x y => x.1 < y.1) → y ∈ L.dropWhile (fun y => decide (y.1 < k)) → k ≤ y.1
  | a :: L, y, hp, h => by
    rw [List.dropWhile_cons] at h
    rw [List.pairwise_cons] at hp
    split at h
    · exact dropWhile_ge hp.2 h
    · rename_i ha
      have ha' : k ≤ a.1 := by simpa using ha
      rcases List.mem_cons.1 h with rfl | h
      · exact ha'
      · have := hp.1 y h
        omega
theorem flay_rise {x : Fl} {L : List Fl} (h : L.Pairwise fun x y => x.1 < y.1) (hx : ∀ y ∈ L, y.1 ≠ x.1) : (flay x L).Pairwise fun x y => x.1 < y.1 := by
  unfold flay
  rw [List.pairwise_append]
  refine ⟨h.sublist (List.takeWhile_prefix _).sublist, ?_, fun a ha b hb => ?_⟩
  · rw [List.pairwise_cons]
    refine ⟨fun y hy => ?_, h.sublist (List.dropWhile_suffix _).sublist⟩
    have h1 := dropWhile_ge h hy
    have h2 := hx y ((List.dropWhile_suffix _).sublist.mem hy)
    show x.1 < y.1
    omega
  · have h1 := takeWhile_lt ha
    rcases List.mem_cons.1 hb with rfl | hb
    · exact h1
    · have h2 := dropWhile_ge h hb
      omega
theorem fix_lt {L : List Fl} {k : Nat} : fix L k < L.length ↔ ∃ x ∈ L, x.1 = k := by
  unfold fix
  rw [List.findIdx_lt_length]
  simp
theorem fix_get {L : List Fl} {k : Nat} (h : fix L k < L.length) : (L[fix L k]).1 = k := by
  have := List.findIdx_getElem (xs := L) (p := fun x : Fl => decide (x.1 = k)) (w := h)
  exact of_decide_eq_true this
theorem erase_key {L : List Fl} (hp : L.Pairwise fun x y => x.1 < y.1) {i : Nat} (hi : i < L.length) : ∀ y ∈ L.eraseIdx i, y.1 ≠ (L[i]).1 := by
  intro y hy
  rw [List.eraseIdx_eq_take_drop_succ] at hy
  rcases List.mem_append.1 hy with h | h
  · rw [List.mem_take_iff_getElem] at h
    obtain ⟨j, hj, rfl⟩ := h
    have := List.pairwise_iff_getElem.1 hp j i (by omega) hi (by omega)
    omega
  · rw [List.mem_drop_iff_getElem] at h
    obtain ⟨j, hj, rfl⟩ := h
    have := List.pairwise_iff_getElem.1 hp i (i + 1 + j) hi (by omega) (by omega)
    omega
theorem frest_sub (L : List Fl) (k : Nat) : (frest L k).Sublist L := by
  unfold frest
  split
  · exact List.eraseIdx_sublist _ _
  · split
    · exact List.eraseIdx_sublist _ _
    · exact List.Sublist.refl _
theorem frest_key {L : List Fl} (hp : L.Pairwise fun x y => x.1 < y.1) (k : Nat) : ∀ y ∈ frest L k, y.1 ≠ k := by
  intro y hy
  unfold frest at hy
  split at hy
  · rename_i h
    have := erase_key hp h y hy
    rwa [fix_get h] at this
  · rename_i h
    have hy2 : y ∈ L := by
      split at hy
      · exact (List.eraseIdx_sublist _ _).mem hy
      · exact hy
    intro e
    exact h (fix_lt.2 ⟨y, hy2, e⟩)
theorem foldl_lt {n : Nat} (f : Nat → Nat → Nat) (hf : ∀ b i, f b i = b ∨ f b i = i) : ∀ (l : List Nat) (b : Nat), b < n → (∀ i ∈ l, i < n) → l.foldl f b < n
  | [], b, hb, _ => hb
  | i :: l, b, hb, h => by
    rw [List.foldl_cons]
    refine foldl_lt f hf l _ ?_ fun j hj => h j (by simp [hj])
    rcases hf b i with e | e
    · rw [e]; exact hb
    · rw [e]; exact h i (by simp)
theorem fleast_lt {L : List Fl} (h : 0 < L.length) : fleast L < L.length := by
  unfold fleast
  refine foldl_lt _ (fun b i => ?_) _ _ h fun i hi => List.mem_range.1 hi
  split
  · exact Or.inr rfl
  · exact Or.inl rfl
theorem frest_len {L : List Fl} (h : L.length ≤ 200) (k : Nat) : (frest L k).length < 200 := by
  unfold frest
  split
  · rename_i hx
    rw [List.length_eraseIdx_of_lt hx]
    omega
  · split
    · rename_i h2
      rw [List.length_eraseIdx_of_lt (fleast_lt (by omega))]
      omega
    · omega
theorem FlOk.put {L : List Fl} (h : FlOk L) {time k : Nat} {s : ByteArray} {now : Int} (hk : k < 18446744073709551616) (hs : s.size ≤ 300) (hn : 0 ≤ now) (hn2 : now ≤ 1099511627776) (ht : time ≤ 1000) : FlOk (fput time L k s now) := by
  have hsub := frest_sub L k
  unfold fput
  refine ⟨flay_rise (h.rise.sublist hsub) (frest_key h.rise k), ?_, fun x hx => ?_, fun x hx => ?_, fun x hx => ?_, fun x hx => ?_⟩
  · rw [flay_len]
    have := frest_len h.len k
    omega
  all_goals
    rcases flay_mem.1 hx with rfl | hx
  · exact hk
  · exact h.key x (hsub.mem hx)
  · exact hs
  · exact h.size x (hsub.mem hx)
  · show 0 ≤ now + (time : Int)
    omega
  · exact h.lo x (hsub.mem hx)
  · show now + (time : Int) ≤ 2000000000000
    omega
  · exact h.hi x (hsub.mem hx)
theorem FlOk.sub {L M : List Fl} (h : FlOk L) (hs : M.Sublist L) : FlOk M :=
  ⟨h.rise.sublist hs, Nat.le_trans hs.length_le h.len, fun x hx => h.key x (hs.mem hx), fun x hx => h.size x (hs.mem hx), fun x hx => h.lo x (hs.mem hx), fun x hx => h.hi x (hs.mem hx)⟩
theorem FlOk.add1 {L : List Fl} (h : FlOk L) {now : Int} (hn : 0 ≤ now) (hn2 : now ≤ 1099511627776) {x : Fl} (hk : x.1 < 18446744073709551616) (hs : x.2.1.size ≤ 300) : FlOk (fadd1 now L x) := by
  unfold fadd1
  split
  · exact h
  · rename_i hc
    have h1 : ¬ fix L x.1 < L.length := fun e => hc (Or.inl e)
    have h2 : now < x.2.2 := by
      have : ¬ x.2.2 ≤ now := fun e => hc (Or.inr (Or.inl e))
      omega
    have h3 : x.2.2 - now ≤ 1000 := by
      have : ¬ 1000 < x.2.2 - now := fun e => hc (Or.inr (Or.inr (Or.inl e)))
      omega
    have h4 : L.length < 200 := by
      have : ¬ 200 ≤ L.length := fun e => hc (Or.inr (Or.inr (Or.inr e)))
      omega
    refine ⟨flay_rise h.rise (fun y hy e => h1 (fix_lt.2 ⟨y, hy, e⟩)), by rw [flay_len]; omega, fun y hy => ?_, fun y hy => ?_, fun y hy => ?_, fun y hy => ?_⟩
    all_goals
      rcases flay_mem.1 hy with rfl | hy
    · exact hk
    · exact h.key y hy
    · exact hs
    · exact h.size y hy
    · omega
    · exact h.lo y hy
    · omega
    · exact h.hi y hy
theorem FlOk.add {now : Int} (hn : 0 ≤ now) (hn2 : now ≤ 1099511627776) : ∀ (l : List Fl) {L : List Fl}, FlOk L → (∀ x ∈ l, x.1 < 18446744073709551616 ∧ x.2.1.size ≤ 300) → FlOk (fadd now L l)
  | [], _, h, _ => h
  | x :: l, L, h, hl => by
    show FlOk (fadd now (fadd1 now L x) l)
    exact FlOk.add hn hn2 l (h.add1 hn hn2 (hl x (by simp)).1 (hl x (by simp)).2) fun y hy => hl y (by simp [hy])
theorem fadd1_len (now : Int) (L : List Fl) (x : Fl) : L.length ≤ (fadd1 now L x).length := by
  unfold fadd1
  split
  · exact Nat.le_refl _
  · rw [flay_len]; omega
theorem fadd_len (now : Int) : ∀ (l L : List Fl), L.length ≤ (fadd now L l).length
  | [], _ => Nat.le_refl _
  | x :: l, L => Nat.le_trans (fadd1_len now L x) (fadd_len now l (fadd1 now L x))
theorem fadd_snoc (now : Int) (L l : List Fl) (x : Fl) : fadd now L (l ++ [x]) = fadd1 now (fadd now L l) x := by simp [fadd, List.foldl_append]
theorem FlOk.nil : FlOk [] := by refine ⟨List.Pairwise.nil, by simp, ?_, ?_, ?_, ?_⟩ <;> simp
end Lh
end Go.Proofs.YtmdckddenelneaaGreatDoor

/- Flows in a map: what the map reads as, key by key. -/
namespace Go.Proofs.YtmdckddenelneaaGreatDoor
open Go.RowKit Go.Maps Go.ChangeMaps

/-- a flow as a value, and as a datum -/
def valF (x : Lh.Fl) : Value := .agg #[.int .u64 (x.1 : Nat), .string x.2.1, .int .i64 x.2.2]
def datF (x : Lh.Fl) : DataW Unit := .agg [.lit (.int .u64 (x.1 : Nat)), .lit (.string x.2.1.data.toList), .lit (.int .i64 x.2.2)]
def keyF (k : Nat) : Lit := .int .u64 (k : Nat)
def entF (x : Lh.Fl) : Lit × DataW Unit := (keyF x.1, datF x)
def FD (L : List Lh.Fl) : DataW Unit := .map (L.map entF)
/-- how a flow in a map is read -/
def flElem (v : Value) : Option (DataW Unit × List MemPlace) :=
  match v with
  | .agg a =>
    match a.toList with
    | [.int .u64 k, .string s, .int .i64 u] => some (.agg [.lit (.int .u64 k), .lit (.string s.data.toList), .lit (.int .i64 u)], [])
    | _ => none
  | _ => none
theorem flElem_mk (x : Lh.Fl) : flElem (valF x) = some (datF x, []) := rfl
theorem flElem_any {v : Value} {z : DataW Unit × List MemPlace} (h : flElem v = some z) : ∃ k s u, v = .agg #[.int .u64 k, .string s, .int .i64 u] ∧ z = (.agg [.lit (.int .u64 k), .lit (.string s.data.toList), .lit (.int .i64 u)], []) := by
  unfold flElem at h
  split at h
  · split at h
    · rename_i a _ k s u e
      refine ⟨k, s, u, ?_, by injection h with h; exact h.symm⟩
      congr 1
      exact Array.toList_inj.1 e
    · cases h
  · cases h
theorem flElem_inv {v : Value} {x : Lh.Fl} {ps : List MemPlace} (h : flElem v = some (datF x, ps)) : v = valF x := by
  obtain ⟨k, s, u, rfl, hz⟩ := flElem_any h
  simp only [datF, Prod.mk.injEq, DataW.agg.injEq, List.cons.injEq, DataW.lit.injEq, Lit.int.injEq, Lit.string.injEq, true_and, and_true] at hz
  obtain ⟨⟨h1, h2, h3⟩, _⟩ := hz
  have h2' : s = x.2.1 := by
    obtain ⟨sd⟩ := s
    obtain ⟨a, ⟨td⟩, c⟩ := x
    simp only [ByteArray.mk.injEq]
    exact (Array.toList_inj.1 h2).symm
  rw [← h1, h2', ← h3]
  rfl
theorem same_keyF (a b : Nat) : (keyF a).sameKey (keyF b) = decide (a = b) := by
  simp only [keyF, Lit.sameKey, true_and]
  by_cases h : a = b
  · simp [h]
  · have : ¬ ((a : Nat) : Int) = (b : Nat) := by omega
    simp [h, this]
theorem before_keyF (a b : Nat) : (keyF a).before (keyF b) = decide (a < b) := by
  simp only [keyF, Lit.before]
  by_cases h : a < b
  · simp [h]
  · simp [h]
theorem FD_size (L : List Lh.Fl) : Maps.size (FD L) = L.length := by simp [FD, Maps.size]
theorem find_entF (k : Nat) : ∀ L : List Lh.Fl, (L.map entF).find? (fun p => p.1.sameKey (keyF k)) = (L.find? fun x => decide (x.1 = k)).map entF
  | [] => rfl
  | x :: L => by
    rw [List.map_cons, List.find?_cons, List.find?_cons, show (entF x).1 = keyF x.1 from rfl, same_keyF]
    by_cases h : x.1 = k
    · simp [h]
    · simp only [h, decide_false]
      exact find_entF k L
theorem find_fix {L : List Lh.Fl} {k : Nat} (h : Lh.fix L k < L.length) : (L.find? fun x => decide (x.1 = k)) = some (L[Lh.fix L k]) := by
  unfold Lh.fix at h ⊢
  rw [← List.getElem?_eq_getElem h]
  exact (List.find?_eq_getElem?_findIdx).trans rfl
theorem find_nofix {L : List Lh.Fl} {k : Nat} (h : ¬ Lh.fix L k < L.length) : (L.find? fun x => decide (x.1 = k)) = none := by
  rw [List.find?_eq_none]
  intro x hx he
  exact h (Lh.fix_lt.2 ⟨x, hx, by simpa using he⟩)
theorem FD_hit {L : List Lh.Fl} {k : Nat} (h : Lh.fix L k < L.length) (z : DataW Unit) : (FD L).atKey (keyF k) z = datF (L[Lh.fix L k]) := by
  simp only [FD, DataW.atKey]
  rw [find_entF, find_fix h]
  rfl
theorem FD_miss {L : List Lh.Fl} {k : Nat} (h : ¬ Lh.fix L k < L.length) (z : DataW Unit) : (FD L).atKey (keyF k) z = z := by
  simp only [FD, DataW.atKey]
  rw [find_entF, find_nofix h]
  rfl
theorem FD_has (L : List Lh.Fl) (k : Nat) : has (FD L) (keyF k) = decide (Lh.fix L k < L.length) := by
  simp only [FD, has]
  by_cases h : Lh.fix L k < L.length
  · rw [decide_eq_true h, List.any_eq_true]
    obtain ⟨x, hx, e⟩ := Lh.fix_lt.1 h
    exact ⟨entF x, List.mem_map.2 ⟨x, hx, rfl⟩, by rw [show (entF x).1 = keyF x.1 from rfl, same_keyF, e]; simp⟩
  · rw [decide_eq_false h, List.any_eq_false]
    intro p hp he
    obtain ⟨x, hx, rfl⟩ := List.mem_map.1 hp
    rw [show (entF x).1 = keyF x.1 from rfl, same_keyF] at he
    exact h (Lh.fix_lt.2 ⟨x, hx, by simpa using he⟩)
theorem filter_entF (p : Lh.Fl → Bool) (q : Lit × DataW Unit → Bool) (h : ∀ x, q (entF x) = p x) (L : List Lh.Fl) : (L.map entF).filter q = (L.filter p).map entF := by
  rw [List.filter_map]
  congr 1
  exact List.filter_congr fun x _ => h x
theorem FD_del (L : List Lh.Fl) (k : Nat) : (FD L).del (keyF k) = FD (L.filter fun x => !decide (x.1 = k)) := by
  simp only [FD, DataW.del]
  rw [filter_entF (fun x => !decide (x.1 = k)) _ (fun x => by rw [show (entF x).1 = keyF x.1 from rfl, same_keyF])]
theorem insert_entF (x : Lh.Fl) : ∀ L : List Lh.Fl, (∀ y ∈ L, y.1 ≠ x.1) → DataW.insert (entF x) (L.map entF) = (Lh.flay x L).map entF
  | [], _ => rfl
  | y :: L, h => by
    have hy := h y (by simp)
    rw [List.map_cons, DataW.insert, show (entF x).1 = keyF x.1 from rfl, show (entF y).1 = keyF y.1 from rfl, before_keyF]
    by_cases hlt : x.1 < y.1
    · have h2 : decide (y.1 < x.1) = false := by simp; omega
      rw [if_pos (by simpa using hlt)]
      simp [Lh.flay, h2]
    · have h2 : decide (y.1 < x.1) = true := by simp; omega
      rw [if_neg (by simpa using hlt), insert_entF x L fun z hz => h z (by simp [hz])]
      simp [Lh.flay, h2]
theorem FD_put (L : List Lh.Fl) (x : Lh.Fl) : (FD L).put (keyF x.1) (datF x) = FD (Lh.flay x (L.filter fun y => !decide (y.1 = x.1))) := by
  simp only [FD, DataW.put]
  rw [filter_entF (fun y => !decide (y.1 = x.1)) _ (fun y => by rw [show (entF y).1 = keyF y.1 from rfl, same_keyF]), show (keyF x.1, datF x) = entF x from rfl, insert_entF]
  intro y hy
  have := (List.mem_filter.1 hy).2
  simpa using this
/-- without the one at a place -/
theorem filter_erase : ∀ {L : List Lh.Fl} {i : Nat} (_ : L.Pairwise fun x y => x.1 < y.1) (hi : i < L.length), (L.filter fun y => !decide (y.1 = (L[i]).1)) = L.eraseIdx i
  | y :: L, 0, hp, hi => by
    rw [List.pairwise_cons] at hp
    simp only [List.getElem_cons_zero, List.eraseIdx_zero, List.tail_cons]
    rw [List.filter_cons_of_neg (by simp), List.filter_eq_self]
    intro z hz
    have := hp.1 z hz
    simp
    omega
  | y :: L, i + 1, hp, hi => by
    rw [List.pairwise_cons] at hp
    simp only [List.getElem_cons_succ, List.eraseIdx_cons_succ]
    have hi' : i < L.length := by simpa using hi
    have := hp.1 (L[i]) (List.getElem_mem hi')
    rw [List.filter_cons_of_pos (by simp; omega), filter_erase hp.2 hi']
theorem filter_none {L : List Lh.Fl} {k : Nat} (h : ¬ Lh.fix L k < L.length) : (L.filter fun y => !decide (y.1 = k)) = L := by
  rw [List.filter_eq_self]
  intro y hy
  have : y.1 ≠ k := fun e => h (Lh.fix_lt.2 ⟨y, hy, e⟩)
  simp [this]
theorem filter_fix {L : List Lh.Fl} {k : Nat} (hp : L.Pairwise fun x y => x.1 < y.1) (h : Lh.fix L k < L.length) : (L.filter fun y => !decide (y.1 = k)) = L.eraseIdx (Lh.fix L k) := by
  rw [← filter_erase hp h, Lh.fix_get h]
/-- what Put leaves: where the key has a flow, or there is room -/
theorem put_plain {L : List Lh.Fl} {k : Nat} (hp : L.Pairwise fun x y => x.1 < y.1) (h : Lh.fix L k < L.length ∨ L.length < 200) : (L.filter fun y => !decide (y.1 = k)) = Lh.frest L k := by
  unfold Lh.frest
  by_cases hf : Lh.fix L k < L.length
  · rw [if_pos hf, filter_fix hp hf]
  · rw [if_neg hf, if_neg (by omega), filter_none hf]
theorem put_full {L : List Lh.Fl} {k : Nat} (hf : ¬ Lh.fix L k < L.length) (h : 200 ≤ L.length) : ((L.eraseIdx (Lh.fleast L)).filter fun y => !decide (y.1 = k)) = Lh.frest L k := by
  unfold Lh.frest
  rw [if_neg hf, if_pos h, List.filter_eq_self]
  intro y hy
  have : y.1 ≠ k := fun e => hf (Lh.fix_lt.2 ⟨y, (List.eraseIdx_sublist _ _).mem hy, e⟩)
  simp [this]
/-- the first of the least tick, of the first i -/
def leastTo (L : List Lh.Fl) (i : Nat) : Nat := (List.range i).foldl (fun b i => if ((L.map fun x => x.2.2).getD i 0) < ((L.map fun x => x.2.2).getD b 0) then i else b) 0
theorem leastTo_all (L : List Lh.Fl) : leastTo L L.length = Lh.fleast L := rfl
theorem leastTo_one (L : List Lh.Fl) : leastTo L 1 = 0 := by simp [leastTo, List.range_succ]
theorem leastTo_succ (L : List Lh.Fl) (i : Nat) : leastTo L (i + 1) = if ((L.map fun x => x.2.2).getD i 0) < ((L.map fun x => x.2.2).getD (leastTo L i) 0) then i else leastTo L i := by
  simp [leastTo, List.range_succ, List.foldl_append]
theorem leastTo_lt (L : List Lh.Fl) {i : Nat} (h : 0 < i) : leastTo L i < i := by
  unfold leastTo
  refine Lh.foldl_lt _ (fun b i => ?_) _ _ h fun j hj => List.mem_range.1 hj
  split
  · exact Or.inr rfl
  · exact Or.inl rfl
theorem until_getD {L : List Lh.Fl} {i : Nat} (h : i < L.length) : (L.map fun x => x.2.2).getD i 0 = (L[i]).2.2 := by
  rw [List.getD_eq_getElem?_getD, List.getElem?_map, List.getElem?_eq_getElem h]
  rfl
end Go.Proofs.YtmdckddenelneaaGreatDoor
