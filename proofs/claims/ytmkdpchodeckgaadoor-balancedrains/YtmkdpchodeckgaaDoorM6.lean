/- Small things that rings and rivals share: a list without a fault, errors, texts and keys in memory. -/
import Derived.Test.YtmkdpchodeckgaaDoorM4
import Derived.Test.YtmkdpchodeckgaaDoorRMath
import Derived.Test.YtmkdpchodeckgaaDoorM0
namespace Go.Proofs.YtmkdpchodeckgaaDoor
open Go.RowKit

theorem nodup_good {xs : List ByteArray} (h : ∀ j, ∀ hj : j < xs.length, Good xs j hj) : xs.Nodup := by
  refine List.pairwise_iff_getElem.2 fun i j hi hj hij e => ?_
  have h2 := (h j hj).2
  rw [Lh.mem_true] at h2
  · cases h2
  · rw [List.mem_take_iff_getElem]
    exact ⟨i, by omega, e⟩
theorem fault0 {xs : List ByteArray} {pl : Int} (h : IsFault xs 0 pl) : pl = -1 ∧ xs.length ≤ 12 ∧ xs.Nodup := by
  rcases h with ⟨_, h, _⟩ | ⟨_, i, _, _, _, ⟨_, h⟩ | ⟨_, _, h⟩⟩ | ⟨h, hg, _, h'⟩
  · cases h
  · cases h
  · cases h
  · exact ⟨h', by omega, nodup_good hg⟩
theorem err0 {a : Nat → Addr} {W : World} {pl : Int} {v : Value} (h : ErrIs a W 0 pl v) : v = .nilIface := by
  rcases h with ⟨_, _, h⟩ | ⟨i, _, h, _⟩
  · exact h
  · omega
theorem errPos {a : Nat → Addr} {W : World} {c : Nat} {pl : Int} {v : Value} (h : ErrIs a W c pl v) (hc : c ≠ 0) : ∃ t x, v = .iface t x := by
  rcases h with ⟨h, _⟩ | ⟨j, _, _, ⟨_, h⟩ | ⟨b, h, _⟩⟩
  · exact absurd h hc
  · exact ⟨_, _, h⟩
  · exact ⟨_, _, h⟩
theorem strsPos {w : World} {v : Value} {xs : List ByteArray} (h : Strs1 w v xs) (hp : 0 < xs.length) : ∃ b o c, v = .slice (some ⟨b, o, none⟩) xs.length c ∧ ∀ k (h : k < xs.length), w.cell? ⟨b, o + k, none⟩ = some (.string xs[k]) := by
  rcases h with ⟨rfl, _⟩ | ⟨b, o, c, rfl, _, hc⟩
  · cases hp
  · exact ⟨b, o, c, rfl, hc⟩

theorem owns_snoc {w : World} {base n : Nat} {v : Value} {e : TypeId} {out : List ByteArray} {s : ByteArray} (h : w.ownsRow base e 1 v n (out.map Value.string ++ [.string s])) : w.ownsRow base e 1 v n ((out ++ [s]).map Value.string) := by simpa using h
theorem cells_one {w : World} {t : TypeId} (s : ByteArray) : ∀ j u, [Value.string s][j]? = some u → (w.alloc (.cells #[.string s] t)).cell? ((⟨w.heap.size, 0, none⟩ : Addr).add j) = some u := by
  intro j u hu
  match j, hu with
  | 0, hu => simp at hu; subst hu; simp [Addr.add]
  | j + 1, hu => simp at hu
def hostA : ByteArray := ⟨#[97]⟩
theorem hostA_nm : Lh.isNm hostA = true := by decide +kernel
theorem faultsA : IsFault [hostA] 0 (-1) := by
  refine Or.inr (Or.inr ⟨by simp, fun j hj => ?_, rfl, rfl⟩)
  have : j = 0 := by simp at hj; omega
  subst this
  exact ⟨hostA_nm, rfl⟩
theorem lenA : hostA.size ≤ 300 := by decide +kernel
theorem strsA (w : World) : Strs1 (w.alloc (.cells #[.string hostA] 9)) (.slice (some ⟨w.heap.size, 0, none⟩) 1 1) [hostA] :=
  Or.inr ⟨w.heap.size, 0, 1, rfl, by simp, fun k hk => by
    have : k = 0 := by simp at hk; omega
    subst this
    simp⟩
theorem size_snoc {xs : List ByteArray} {s : ByteArray} (hs : ∀ k (h : k < xs.length), (xs[k]).size ≤ 60) (h : s.size ≤ 60) : ∀ k (h : k < (xs ++ [s]).length), ((xs ++ [s])[k]).size ≤ 60 := by
  intro k hk
  rw [List.getElem_append]
  split
  · exact hs _ _
  · simpa using h
theorem fault_nm {xs : List ByteArray} {pl : Int} (h : IsFault xs 0 pl) : ∀ s ∈ xs, Lh.isNm s = true := by
  rcases h with ⟨_, h, _⟩ | ⟨_, i, _, _, _, ⟨_, h⟩ | ⟨_, _, h⟩⟩ | ⟨_, hg, _, _⟩
  · cases h
  · cases h
  · cases h
  · intro s hs
    obtain ⟨j, hj, rfl⟩ := List.getElem_of_mem hs
    exact (hg j hj).1
theorem fault_of {xs : List ByteArray} (h12 : xs.length ≤ 12) (hn : ∀ s ∈ xs, Lh.isNm s = true) (hd : xs.Nodup) : IsFault xs 0 (-1) := by
  refine Or.inr (Or.inr ⟨by omega, fun j hj => ⟨hn _ (List.getElem_mem hj), Lh.mem_false fun h => ?_⟩, rfl, rfl⟩)
  rw [List.mem_take_iff_getElem] at h
  obtain ⟨i, hi, e⟩ := h
  exact List.pairwise_iff_getElem.1 hd i j (by omega) hj (by omega) e
theorem fault_less {xs : List ByteArray} (h : IsFault xs 0 (-1)) {m : Nat} (hm : m < xs.length) : IsFault (xs.take m ++ xs.drop (m + 1)) 0 (-1) ∧ xs.take m ++ xs.drop (m + 1) = xs.filter fun s => decide (s ≠ xs[m]) := by
  obtain ⟨_, h12, hnd⟩ := fault0 h
  have e := Lh.filter_erase hnd hm
  refine ⟨?_, e⟩
  rw [e]
  refine fault_of (Nat.le_trans (List.length_filter_le _ _) h12) (fun s hs => fault_nm h s (List.mem_filter.1 hs).1) (hnd.sublist List.filter_sublist)
end Go.Proofs.YtmkdpchodeckgaaDoor

/- What the laws of health ask of the landed package. -/
namespace Go.Proofs.YtmkdpchodeckgaaDoor
open Go.RowKit

/-- What is wrong with hosts and edges: the error's number, and where. -/
def HlFault (xs : List ByteArray) (x y : Int) (c : Nat) (pl : Int) : Prop :=
  (c ≠ 0 ∧ IsFault xs c pl) ∨ (IsFault xs 0 (-1) ∧ (x < 1 ∨ 10 < x ∨ y < 1 ∨ 10 < y) ∧ c = 2 ∧ pl = -1)
/-- What is wrong with a host that is to come: the error. -/
def AddFault (l : List Lh.Hh) (s : ByteArray) (k : Nat) : Prop :=
  (12 ≤ l.length ∧ k = 1) ∨ (l.length < 12 ∧ Lh.isNm s = false ∧ k = 3) ∨ (l.length < 12 ∧ Lh.isNm s = true ∧ Lh.hix l s < l.length ∧ k = 5)

end Go.Proofs.YtmkdpchodeckgaaDoor

/- The model of health in memory; Find and IsUp. -/
namespace Go.Proofs.YtmkdpchodeckgaaDoor
open Go.RowKit

/-- a host of the model: its name, whether it is up, its looks since it turned, the slice that holds them -/
structure Mh where
  name : ByteArray
  up : Bool
  looks : List Bool
  val : Value
/-- how many of the other kind are at the end -/
def trail (up : Bool) (looks : List Bool) : Nat := (looks.reverse.takeWhile fun b => b != up).length
def Mh.st (x : Mh) : Lh.Hh := (x.name, x.up, trail x.up x.looks)
def hst (L : List Mh) : List Lh.Hh := L.map Mh.st
theorem hst_length (L : List Mh) : (hst L).length = L.length := by simp [hst]
theorem hst_get (L : List Mh) {i : Nat} (h : i < (hst L).length) : (hst L)[i] = (L[i]'(by simpa [hst] using h)).st := by simp [hst]
def encH (x : Mh) : List Value := [.string x.name, .bool x.up, x.val]
def flatH (L : List Mh) : List Value := L.flatMap encH
theorem flatH_snoc (L : List Mh) (x : Mh) : flatH (L ++ [x]) = flatH L ++ encH x := by simp [flatH, List.flatMap_append]
theorem flatH_append (L M : List Mh) : flatH (L ++ M) = flatH L ++ flatH M := by simp [flatH, List.flatMap_append]
theorem flatH_length (L : List Mh) : (flatH L).length = L.length * 3 := by
  induction L with
  | nil => rfl
  | cons p P ih =>
    have : flatH (p :: P) = encH p ++ flatH P := rfl
    rw [this, List.length_append, ih, List.length_cons]
    simp [encH]
    omega
theorem flatH_get (L : List Mh) : ∀ i (h : i < L.length), (flatH L)[i * 3]? = some (.string L[i].name) ∧ (flatH L)[i * 3 + 1]? = some (.bool L[i].up) ∧ (flatH L)[i * 3 + 2]? = some L[i].val := by
  induction L with
  | nil => intro i h; cases h
  | cons p P ih =>
    intro i h
    have e : flatH (p :: P) = .string p.name :: .bool p.up :: p.val :: flatH P := rfl
    rw [e]
    match i, h with
    | 0, _ => exact ⟨rfl, rfl, rfl⟩
    | i + 1, h =>
      have := ih i (by simpa using h)
      rw [show (i + 1) * 3 = i * 3 + 1 + 1 + 1 by omega]
      simpa using this
/-- the blocks that it is made of -/
def MFoot (m : Nat) (L : List Mh) (lv : Value) (b : Nat) : Prop := b = m ∨ lv.ownBlock = some b ∨ ∃ x ∈ L, x.val.ownBlock = some b
theorem owns_same {w w' : World} {base : Nat} {e : TypeId} {size : Nat} {v : Value} {n : Nat} {xs : List Value} (h : w.ownsRow base e size v n xs) (he : ∀ g, v.ownBlock = some g → w'.heap[g]? = w.heap[g]?) : w'.ownsRow base e size v n xs := by
  obtain ⟨h1, h2 | ⟨g, cap, cur, rfl, e2, e3, e4⟩⟩ := h
  · exact ⟨h1, Or.inl h2⟩
  · exact ⟨h1, Or.inr ⟨g, cap, cur, rfl, e2, (he g rfl).trans e3, e4⟩⟩
/-- the row's cells -/
theorem row_of_owns3 {w : World} {base : Nat} {v : Value} {e : TypeId} {L : List Mh} (h : w.ownsRow base e 3 v L.length (flatH L)) (h0 : 0 < L.length) : ∃ g cap, v = .slice (some ⟨g, 0, none⟩) L.length cap ∧ base ≤ g ∧ g < w.heap.size ∧ L.length ≤ cap ∧ (∀ i (h : i < L.length), w.cell? ⟨g, i * 3, none⟩ = some (.string L[i].name) ∧ w.cell? ⟨g, i * 3 + 1, none⟩ = some (.bool L[i].up) ∧ w.cell? ⟨g, i * 3 + 2, none⟩ = some L[i].val) ∧ ∀ k, w.frozen? ⟨g, k, none⟩ = false := by
  obtain ⟨hl, ⟨rfl, h'⟩ | ⟨g, cap, cur, rfl, hbase, hb, hn, hm, hsz, ht⟩⟩ := h
  · omega
  · have hlt : g < w.heap.size := (Array.getElem?_eq_some_iff.1 hb).1
    refine ⟨g, cap, rfl, hbase, hlt, hn, fun i hi => ?_, fun k => by simp [World.frozen?, hb]⟩
    obtain ⟨h1, h2, h3⟩ := flatH_get L i hi
    rw [← ht] at h1 h2 h3
    rw [List.getElem?_take_of_lt (by omega)] at h1 h2 h3
    simp only [World.cell?, hb]
    exact ⟨by simpa using h1, by simpa using h2, by simpa using h3⟩
/-- the number that Find answers -/
def fi (l : List Lh.Hh) (s : ByteArray) : Int := if Lh.hix l s < l.length then ((Lh.hix l s : Nat) : Int) else -1
theorem fi_at {l : List Lh.Hh} {s : ByteArray} {k : Nat} (hk : k < l.length) (hp : ∀ j (h : j < l.length), j < k → (l[j]).1 ≠ s) (he : (l[k]).1 = s) : Lh.hix l s = k := by
  have h1 : Lh.hix l s < l.length := Lh.hix_lt.2 ⟨_, List.getElem_mem hk, he⟩
  rcases Nat.lt_trichotomy (Lh.hix l s) k with h | h | h
  · exact absurd (Lh.hix_get h1) (hp _ h1 h)
  · exact h
  · exact absurd he (Lh.hix_first hk h)

end Go.Proofs.YtmkdpchodeckgaaDoor

/- The model of health: Find, IsUp and Ups. -/
namespace Go.Proofs.YtmkdpchodeckgaaDoor
open Go.RowKit

theorem own_zero {w : World} {base : Nat} {e : TypeId} {size : Nat} {v : Value} {xs : List Value} (h : w.ownsRow base e size v 0 xs) : ∃ p cap, v = .slice p 0 cap := by
  obtain ⟨h1, ⟨rfl, _⟩ | ⟨g, cap, cur, rfl, _⟩⟩ := h
  · exact ⟨_, _, rfl⟩
  · exact ⟨_, _, rfl⟩
theorem hup_at {l : List Lh.Hh} {s : ByteArray} (hn : (l.map fun x => x.1).Nodup) (h : Lh.hix l s < l.length) : Lh.hup l s = (l[Lh.hix l s]).2.1 := by
  have h1 := Lh.hix_get h
  cases e : (l[Lh.hix l s]).2.1 with
  | true =>
    unfold Lh.hup
    rw [List.any_eq_true]
    exact ⟨_, List.getElem_mem h, by simp [h1, e]⟩
  | false =>
    unfold Lh.hup
    rw [List.any_eq_false]
    intro x hx hc
    simp only [Bool.and_eq_true, decide_eq_true_eq] at hc
    obtain ⟨j, hj, rfl⟩ := List.getElem_of_mem hx
    have h2 : j = Lh.hix l s := by
      have h3 : (l.map fun x => x.1)[j]'(by simpa using hj) = (l.map fun x => x.1)[Lh.hix l s]'(by simpa using h) := by
        simp only [List.getElem_map]
        rw [hc.1, h1]
      exact (List.getElem_inj hn).1 h3
    subst h2
    rw [e] at hc
    cases hc.2
theorem hup_none {l : List Lh.Hh} {s : ByteArray} (h : ¬ Lh.hix l s < l.length) : Lh.hup l s = false := by
  unfold Lh.hup
  rw [List.any_eq_false]
  intro x hx hc
  simp only [Bool.and_eq_true, decide_eq_true_eq] at hc
  exact h (Lh.hix_lt.2 ⟨x, hx, hc.1⟩)

def upsN (L : List Mh) (k : Nat) : List ByteArray := Lh.hups (hst (L.take k))
theorem upsN_succ (L : List Mh) {k : Nat} (h : k < L.length) : upsN L (k + 1) = upsN L k ++ (if (L[k]).up then [(L[k]).name] else []) := by
  unfold upsN Lh.hups hst
  rw [List.take_succ_eq_append_getElem h, List.map_append, List.filter_append, List.map_append]
  congr 1
  cases e : (L[k]).up <;> simp [Mh.st, e]
theorem upsN_len (L : List Mh) (k : Nat) (h : k ≤ L.length) : (upsN L k).length ≤ k := by
  unfold upsN Lh.hups hst
  rw [List.length_map]
  refine Nat.le_trans (List.length_filter_le _ _) ?_
  rw [List.length_map, List.length_take]
  omega

end Go.Proofs.YtmkdpchodeckgaaDoor
