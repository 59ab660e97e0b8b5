/- Flows in a map: what the map reads as, key by key. -/
import Derived.Test.YtmkdpchodeckgaaDoorFlMath
import Derived.Maps.OwnSet
import Derived.Maps.Ext
namespace Go.Proofs.YtmkdpchodeckgaaDoor
open Go.RowKit Go.Maps Go.ChangeMaps

/-- a flow as a value, and as a datum -/
def valF (x : Lh.Fl) : Value := .agg #[.int .u64 (x.1 : Nat), .string x.2.1, .int .i64 x.2.2]
def datF (x : Lh.Fl) : DataW Unit := .agg [.lit (.int .u64 (x.1 : Nat)), .lit (.string x.2.1.data.toList), .lit (.int .i64 x.2.2)]
def keyF (k : Nat) : Lit := .int .u64 (k : Nat)
def entF (x : Lh.Fl) : Lit × DataW Unit := (keyF x.1, datF x)
def FD (L : List Lh.Fl) : DataW Unit := .map (L.map entF)
/-- how a flow in a map is read -/
def flElem (v : Value) : Option (DataW Unit × List MemPlace) :=
  match v with
  | .agg a =>
    match a.toList with
    | [.int .u64 k, .string s, .int .i64 u] => some (.agg [.lit (.int .u64 k), .lit (.string s.data.toList), .lit (.int .i64 u)], [])
    | _ => none
  | _ => none
theorem flElem_mk (x : Lh.Fl) : flElem (valF x) = some (datF x, []) := rfl
theorem flElem_any {v : Value} {z : DataW Unit × List MemPlace} (h : flElem v = some z) : ∃ k s u, v = .agg #[.int .u64 k, .string s, .int .i64 u] ∧ z = (.agg [.lit (.int .u64 k), .lit (.string s.data.toList), .lit (.int .i64 u)], []) := by
  unfold flElem at h
  split at h
  · split at h
    · rename_i a _ k s u e
      refine ⟨k, s, u, ?_, by injection h with h; exact h.symm⟩
      congr 1
      exact Array.toList_inj.1 e
    · cases h
  · cases h
theorem flElem_inv {v : Value} {x : Lh.Fl} {ps : List MemPlace} (h : flElem v = some (datF x, ps)) : v = valF x := by
  obtain ⟨k, s, u, rfl, hz⟩ := flElem_any h
  simp only [datF, Prod.mk.injEq, DataW.agg.injEq, List.cons.injEq, DataW.lit.injEq, Lit.int.injEq, Lit.string.injEq, true_and, and_true] at hz
  obtain ⟨⟨h1, h2, h3⟩, _⟩ := hz
  have h2' : s = x.2.1 := by
    obtain ⟨sd⟩ := s
    obtain ⟨a, ⟨td⟩, c⟩ := x
    simp only [ByteArray.mk.injEq]
    exact (Array.toList_inj.1 h2).symm
  rw [← h1, h2', ← h3]
  rfl
theorem same_keyF (a b : Nat) : (keyF a).sameKey (keyF b) = decide (a = b) := by
  simp only [keyF, Lit.sameKey, true_and]
  by_cases h : a = b
  · simp [h]
  · have : ¬ ((a : Nat) : Int) = (b : Nat) := by omega
    simp [h, this]
theorem before_keyF (a b : Nat) : (keyF a).before (keyF b) = decide (a < b) := by
  simp only [keyF, Lit.before]
  by_cases h : a < b
  · simp [h]
  · simp [h]
theorem isKey_keyF (a : Nat) : WideAt.IsKeyLit (keyF a) := by simp [keyF, WideAt.IsKeyLit]
theorem keyF_inj {a b : Nat} (h : keyF a = keyF b) : a = b := by
  simp only [keyF, Lit.int.injEq, true_and] at h
  omega
theorem FD_size (L : List Lh.Fl) : Maps.size (FD L) = L.length := by simp [FD, Maps.size]
theorem FD_nil : FD [] = .map [] := rfl
theorem find_entF (k : Nat) : ∀ L : List Lh.Fl, (L.map entF).find? (fun p => p.1.sameKey (keyF k)) = (L.find? fun x => decide (x.1 = k)).map entF
  | [] => rfl
  | x :: L => by
    rw [List.map_cons, List.find?_cons, List.find?_cons, show (entF x).1 = keyF x.1 from rfl, same_keyF]
    by_cases h : x.1 = k
    · simp [h]
    · simp only [h, decide_false]
      exact find_entF k L
theorem find_fix {L : List Lh.Fl} {k : Nat} (h : Lh.fix L k < L.length) : (L.find? fun x => decide (x.1 = k)) = some (L[Lh.fix L k]) := by
  unfold Lh.fix at h ⊢
  rw [← List.getElem?_eq_getElem h]
  exact (List.find?_eq_getElem?_findIdx).trans rfl
theorem find_nofix {L : List Lh.Fl} {k : Nat} (h : ¬ Lh.fix L k < L.length) : (L.find? fun x => decide (x.1 = k)) = none := by
  rw [List.find?_eq_none]
  intro x hx he
  exact h (Lh.fix_lt.2 ⟨x, hx, by simpa using he⟩)
theorem FD_hit {L : List Lh.Fl} {k : Nat} (h : Lh.fix L k < L.length) (z : DataW Unit) : (FD L).atKey (keyF k) z = datF (L[Lh.fix L k]) := by
  simp only [FD, DataW.atKey]
  rw [find_entF, find_fix h]
  rfl
theorem FD_miss {L : List Lh.Fl} {k : Nat} (h : ¬ Lh.fix L k < L.length) (z : DataW Unit) : (FD L).atKey (keyF k) z = z := by
  simp only [FD, DataW.atKey]
  rw [find_entF, find_nofix h]
  rfl
theorem FD_has (L : List Lh.Fl) (k : Nat) : has (FD L) (keyF k) = decide (Lh.fix L k < L.length) := by
  simp only [FD, has]
  by_cases h : Lh.fix L k < L.length
  · rw [decide_eq_true h, List.any_eq_true]
    obtain ⟨x, hx, e⟩ := Lh.fix_lt.1 h
    exact ⟨entF x, List.mem_map.2 ⟨x, hx, rfl⟩, by rw [show (entF x).1 = keyF x.1 from rfl, same_keyF, e]; simp⟩
  · rw [decide_eq_false h, List.any_eq_false]
    intro p hp he
    obtain ⟨x, hx, rfl⟩ := List.mem_map.1 hp
    rw [show (entF x).1 = keyF x.1 from rfl, same_keyF] at he
    exact h (Lh.fix_lt.2 ⟨x, hx, by simpa using he⟩)
theorem filter_entF (p : Lh.Fl → Bool) (q : Lit × DataW Unit → Bool) (h : ∀ x, q (entF x) = p x) (L : List Lh.Fl) : (L.map entF).filter q = (L.filter p).map entF := by
  rw [List.filter_map]
  congr 1
  exact List.filter_congr fun x _ => h x
theorem FD_del (L : List Lh.Fl) (k : Nat) : (FD L).del (keyF k) = FD (L.filter fun x => !decide (x.1 = k)) := by
  simp only [FD, DataW.del]
  rw [filter_entF (fun x => !decide (x.1 = k)) _ (fun x => by rw [show (entF x).1 = keyF x.1 from rfl, same_keyF])]
theorem insert_entF (x : Lh.Fl) : ∀ L : List Lh.Fl, (∀ y ∈ L, y.1 ≠ x.1) → DataW.insert (entF x) (L.map entF) = (Lh.flay x L).map entF
  | [], _ => rfl
  | y :: L, h => by
    have hy := h y (by simp)
    rw [List.map_cons, DataW.insert, show (entF x).1 = keyF x.1 from rfl, show (entF y).1 = keyF y.1 from rfl, before_keyF]
    by_cases hlt : x.1 < y.1
    · have h2 : decide (y.1 < x.1) = false := by simp; omega
      rw [if_pos (by simpa using hlt)]
      simp [Lh.flay, h2]
    · have h2 : decide (y.1 < x.1) = true := by simp; omega
      rw [if_neg (by simpa using hlt), insert_entF x L fun z hz => h z (by simp [hz])]
      simp [Lh.flay, h2]
theorem FD_put (L : List Lh.Fl) (x : Lh.Fl) : (FD L).put (keyF x.1) (datF x) = FD (Lh.flay x (L.filter fun y => !decide (y.1 = x.1))) := by
  simp only [FD, DataW.put]
  rw [filter_entF (fun y => !decide (y.1 = x.1)) _ (fun y => by rw [show (entF y).1 = keyF y.1 from rfl, same_keyF]), show (keyF x.1, datF x) = entF x from rfl, insert_entF]
  intro y hy
  have := (List.mem_filter.1 hy).2
  simpa using this
/-- without the one at a place -/
theorem filter_erase : ∀ {L : List Lh.Fl} {i : Nat} (_ : L.Pairwise fun x y => x.1 < y.1) (hi : i < L.length), (L.filter fun y => !decide (y.1 = (L[i]).1)) = L.eraseIdx i
  | y :: L, 0, hp, hi => by
    rw [List.pairwise_cons] at hp
    simp only [List.getElem_cons_zero, List.eraseIdx_zero, List.tail_cons]
    rw [List.filter_cons_of_neg (by simp), List.filter_eq_self]
    intro z hz
    have := hp.1 z hz
    simp
    omega
  | y :: L, i + 1, hp, hi => by
    rw [List.pairwise_cons] at hp
    simp only [List.getElem_cons_succ, List.eraseIdx_cons_succ]
    have hi' : i < L.length := by simpa using hi
    have := hp.1 (L[i]) (List.getElem_mem hi')
    rw [List.filter_cons_of_pos (by simp; omega), filter_erase hp.2 hi']
theorem filter_none {L : List Lh.Fl} {k : Nat} (h : ¬ Lh.fix L k < L.length) : (L.filter fun y => !decide (y.1 = k)) = L := by
  rw [List.filter_eq_self]
  intro y hy
  have : y.1 ≠ k := fun e => h (Lh.fix_lt.2 ⟨y, hy, e⟩)
  simp [this]
theorem filter_fix {L : List Lh.Fl} {k : Nat} (hp : L.Pairwise fun x y => x.1 < y.1) (h : Lh.fix L k < L.length) : (L.filter fun y => !decide (y.1 = k)) = L.eraseIdx (Lh.fix L k) := by
  rw [← filter_erase hp h, Lh.fix_get h]
/-- what Put leaves: where the key has a flow, or there is room -/
theorem put_plain {L : List Lh.Fl} {k : Nat} (hp : L.Pairwise fun x y => x.1 < y.1) (h : Lh.fix L k < L.length ∨ L.length < 200) : (L.filter fun y => !decide (y.1 = k)) = Lh.frest L k := by
  unfold Lh.frest
  by_cases hf : Lh.fix L k < L.length
  · rw [if_pos hf, filter_fix hp hf]
  · rw [if_neg hf, if_neg (by omega), filter_none hf]
theorem put_full {L : List Lh.Fl} {k : Nat} (hf : ¬ Lh.fix L k < L.length) (h : 200 ≤ L.length) : ((L.eraseIdx (Lh.fleast L)).filter fun y => !decide (y.1 = k)) = Lh.frest L k := by
  unfold Lh.frest
  rw [if_neg hf, if_pos h, List.filter_eq_self]
  intro y hy
  have : y.1 ≠ k := fun e => hf (Lh.fix_lt.2 ⟨y, (List.eraseIdx_sublist _ _).mem hy, e⟩)
  simp [this]
/-- the first of the least tick, of the first i -/
def leastTo (L : List Lh.Fl) (i : Nat) : Nat := (List.range i).foldl (fun b i => if ((L.map fun x => x.2.2).getD i 0) < ((L.map fun x => x.2.2).getD b 0) then i else b) 0
theorem leastTo_all (L : List Lh.Fl) : leastTo L L.length = Lh.fleast L := rfl
theorem leastTo_one (L : List Lh.Fl) : leastTo L 1 = 0 := by simp [leastTo, List.range_succ]
theorem leastTo_succ (L : List Lh.Fl) (i : Nat) : leastTo L (i + 1) = if ((L.map fun x => x.2.2).getD i 0) < ((L.map fun x => x.2.2).getD (leastTo L i) 0) then i else leastTo L i := by
  simp [leastTo, List.range_succ, List.foldl_append]
theorem leastTo_lt (L : List Lh.Fl) {i : Nat} (h : 0 < i) : leastTo L i < i := by
  unfold leastTo
  refine Lh.foldl_lt _ (fun b i => ?_) _ _ h fun j hj => List.mem_range.1 hj
  split
  · exact Or.inr rfl
  · exact Or.inl rfl
theorem until_getD {L : List Lh.Fl} {i : Nat} (h : i < L.length) : (L.map fun x => x.2.2).getD i 0 = (L[i]).2.2 := by
  rw [List.getD_eq_getElem?_getD, List.getElem?_map, List.getElem?_eq_getElem h]
  rfl
end Go.Proofs.YtmkdpchodeckgaaDoor
