/- mix.Check once more, where only four of the package variables are known. -/
import Derived.Test.YtmdckddenelneaaGreatDoorM4
import Derived.Laws.AppendOwnNone
import Derived.Laws.CopyOwn
import Derived.Test.YtmdckddenelneaaGreatDoorM0
namespace Go.Proofs.YtmdckddenelneaaGreatDoor
open Go.RowKit

/-- ErrBound, ErrName, ErrNone, ErrExist: each holds a pointer. -/
structure Errs4 (a : Nat → Addr) (w : World) : Prop where
  s1 : w.cell? ⟨0, 0, none⟩ = some (.iface 331 (.pointer (some (a 1))))
  s3 : w.cell? ⟨4, 0, none⟩ = some (.iface 331 (.pointer (some (a 3))))
  s4 : w.cell? ⟨1, 0, none⟩ = some (.iface 331 (.pointer (some (a 4))))
  s5 : w.cell? ⟨5, 0, none⟩ = some (.iface 331 (.pointer (some (a 5))))
theorem Errs4.later {a : Nat → Addr} {w w' : World} (h : Errs4 a w) (hb : Below w.heap.size w w') : Errs4 a w' := ⟨below_cell hb h.s1, below_cell hb h.s3, below_cell hb h.s4, below_cell hb h.s5⟩
theorem Errs.four {a : Nat → Addr} {w : World} (h : Errs a w) : Errs4 a w := ⟨h.s1, h.s3, h.s4, h.s5⟩

set_option maxHeartbeats 2000000 in
theorem check_core4 (a : Nat → Addr) (b o cap : Nat) (xs : List ByteArray) (w : World) (c : Nat) (pl : Int) (he : Errs4 a w) (hcap : xs.length ≤ cap) (hx : ∀ k (h : k < xs.length), w.cell? ⟨b, o + k, none⟩ = some (.string xs[k]))
    (hf : IsFault xs c pl) (h12 : ¬ 12 < xs.length) (hs : ∀ k (h : k < xs.length), (xs[k]).size ≤ 1000000) :
    Calls Tryz.prog 67 #[.slice (some ⟨b, o, none⟩) xs.length cap] w fun e w' => ∃ ev, e = .returned ev ∧ ErrIs a w' c pl ev ∧ Below w.heap.size w w' := by
  have HX : Hid _ := hx
  have HF : Hid _ := hf
  have HS : Hid _ := hs
  have e12 : decide (12 < (xs.length : Int)) = false := by simp; omega
  have s3 := he.s3
  have s5 := he.s5
  clear hx hf hs
  go_enter Tryz.func67, Tryz.ntmps67
  go_wp2
  go_loopw [11] (fun t W => W = w ∧ ∃ k : Nat, k ≤ xs.length ∧ t = .int .i64 k ∧ ∀ j, j < k → ∀ hj : j < xs.length, Good xs j hj) (fun t _ => xs.length - (intOf t).toNat)
  case atStart => exact ⟨rfl, 0, Nat.zero_le _, rfl, fun j h => absurd h (by omega)⟩
  case round =>
    obtain ⟨rfl, k, hk, rfl, hpre⟩ := hrel
    have HP : Hid _ := hpre
    clear hpre
    by_cases hlt : k < xs.length
    · have cx := HX.out k hlt
      have hsz := HS.out k hlt
      cases hn : Lh.isNm xs[k] with
      | false =>
        have HC : Hid _ := fault_name HF.out h12 hlt HP.out hn
        have HN : Hid _ := hn
        clear hn
        go_wp2_with fail
        refine (isName_any _ _ hsz).mono ?_
        rintro e w1 ⟨rfl, rfl⟩
        rw [HN.out]
        go_wp2
        go_ret
        refine ⟨_, rfl, Or.inr ⟨3, by decide, HC.out.1, Or.inr ⟨w1.heap.size, rfl, by rw [HC.out.2]; simp, by simp⟩⟩, (Below.refl _ _).alloc (Nat.le_refl _) _⟩
      | true =>
        have HN : Hid _ := hn
        have hst := strs_take hcap HX.out k hk
        have HST : Hid _ := hst
        clear hst
        cases hme : Lh.mem xs[k] (xs.take k) with
        | true =>
          have HC : Hid _ := fault_exist HF.out h12 hlt HP.out hn hme
          have HM : Hid _ := hme
          clear hn hme
          go_wp2_with fail
          refine (isName_any _ _ hsz).mono ?_
          rintro e w1 ⟨rfl, rfl⟩
          rw [HN.out]
          go_wp2_with fail
          refine (contains_any _ (xs.take k) _ _ HST.out (by simp; omega)).mono ?_
          rintro e w2 ⟨rfl, rfl⟩
          rw [HM.out]
          go_wp2
          go_ret
          refine ⟨_, rfl, Or.inr ⟨5, by decide, HC.out.1, Or.inr ⟨w2.heap.size, rfl, by rw [HC.out.2]; simp, by simp⟩⟩, (Below.refl _ _).alloc (Nat.le_refl _) _⟩
        | false =>
          have HM : Hid _ := hme
          clear hn hme
          go_wp2_with fail
          refine (isName_any _ _ hsz).mono ?_
          rintro e w1 ⟨rfl, rfl⟩
          rw [HN.out]
          go_wp2_with fail
          refine (contains_any _ (xs.take k) _ _ HST.out (by simp; omega)).mono ?_
          rintro e w2 ⟨rfl, rfl⟩
          rw [HM.out]
          go_wp2
          refine ⟨⟨by trivial, k + 1, by omega, by go_num, fun j hj hl => ?_⟩, by simp [intOf]; omega⟩
          by_cases e : j = k
          · subst e; exact ⟨HN.out, HM.out⟩
          · exact HP.out j (by omega) hl
    · have HC : Hid _ := fault_none HF.out h12 (fun j hj => HP.out j (by omega) hj)
      go_wp2
      go_ret
      refine ⟨_, rfl, Or.inl ⟨HC.out.1, HC.out.2, rfl⟩, Below.refl _ _⟩

set_option maxHeartbeats 1000000 in
theorem check_long4 (a : Nat → Addr) (p : Option Addr) (n cap : Nat) (w : World) (he : Errs4 a w) (h12 : 12 < n) (_hm : n < 1000000) :
    Calls Tryz.prog 67 #[.slice p n cap] w fun e w' => e = .returned (.iface 331 (.pointer (some (a 1)))) ∧ w' = w := by
  have e12 : decide (12 < (n : Int)) = true := by simp; omega
  have s1 := he.s1
  go_enter Tryz.func67, Tryz.ntmps67
  go_wp2
  go_ret
  exact ⟨rfl, rfl⟩

/-- mix.Check of any list of texts. -/
theorem check_any4 (a : Nat → Addr) (v : Value) (xs : List ByteArray) (w : World) (c : Nat) (pl : Int) (he : Errs4 a w) (hv : Strs w v xs) (hf : IsFault xs c pl) (hs : ∀ k (h : k < xs.length), (xs[k]).size ≤ 1000000) (hm : xs.length < 1000000) :
    Calls Tryz.prog 67 #[v] w fun e w' => ∃ ev, e = .returned ev ∧ ErrIs a w' c pl ev ∧ Below w.heap.size w w' := by
  by_cases h12 : 12 < xs.length
  · obtain ⟨rfl, rfl⟩ := fault_long hf h12
    obtain ⟨p, cap, rfl⟩ := hv.slice
    exact (check_long4 a p _ cap w he h12 hm).mono fun e w' ⟨h1, h2⟩ => ⟨_, h1, Or.inr ⟨1, by decide, rfl, Or.inl ⟨rfl, rfl⟩⟩, by rw [h2]; exact Below.refl _ _⟩
  · rcases hv with ⟨rfl, p, cap, rfl⟩ | ⟨b, o, cap, rfl, hcap, hx⟩
    · obtain ⟨rfl, rfl⟩ := fault_none hf h12 (fun j hj => absurd hj (by simp))
      exact (check_zero p cap w).mono fun e w' ⟨h1, h2⟩ => ⟨_, h1, Or.inl ⟨rfl, rfl, rfl⟩, by rw [h2]; exact Below.refl _ _⟩
    · exact check_core4 a b o cap xs w c pl he hcap hx hf h12 hs
end Go.Proofs.YtmdckddenelneaaGreatDoor

/- Own memory: OwnTexts. -/
namespace Go.Proofs.YtmdckddenelneaaGreatDoor
open Go.RowKit

/-- As a caller hands it over. -/
def Strs1 (w : World) (v : Value) (xs : List ByteArray) : Prop :=
  (xs = [] ∧ (v = .slice none 0 0 ∨ ∃ a c, v = .slice (some a) 0 c)) ∨ ∃ b o c, v = .slice (some ⟨b, o, none⟩) xs.length c ∧ xs.length ≤ c ∧ ∀ k (h : k < xs.length), w.cell? ⟨b, o + k, none⟩ = some (.string xs[k])
theorem Strs1.strs {w : World} {v : Value} {xs : List ByteArray} (h : Strs1 w v xs) : Strs w v xs := by
  rcases h with ⟨rfl, rfl | ⟨a, c, rfl⟩⟩ | h
  · exact Or.inl ⟨rfl, _, _, rfl⟩
  · exact Or.inl ⟨rfl, _, _, rfl⟩
  · exact Or.inr h
theorem Strs1.later {w w' : World} {v : Value} {xs : List ByteArray} (h : Strs1 w v xs) (hb : Below w.heap.size w w') : Strs1 w' v xs := by
  rcases h with h | ⟨b, o, c, rfl, hcap, hc⟩
  · exact Or.inl h
  · exact Or.inr ⟨b, o, c, rfl, hcap, fun k hk => below_cell hb (hc k hk)⟩

theorem infoS : (Tryz.prog.info? 9).map (fun i => (i.zero, i.size, i.bytes)) = some (some (.string ByteArray.empty), 1, 16) := by kernel_rfl

theorem strs_of_owns {w : World} {base n : Nat} {v : Value} {e : TypeId} {xs : List ByteArray} (h : w.ownsRow base e 1 v n (xs.map Value.string)) : Strs1 w v xs := by
  obtain ⟨hl, ⟨rfl, rfl⟩ | ⟨g, cap, cur, rfl, hbase, hb, hn, hm, hsz, ht⟩⟩ := h
  · have : xs = [] := by simpa using hl
    exact Or.inl ⟨this, Or.inl rfl⟩
  · have hl' : xs.length = n := by simpa using hl
    refine Or.inr ⟨g, 0, cap, by rw [hl'], by omega, fun k hk => ?_⟩
    have hk' : (cur.toList.take (n * 1))[k]? = some (.string xs[k]) := by rw [ht]; simp [hk]
    rw [List.getElem?_take_of_lt (by omega)] at hk'
    simp only [World.cell?, hb, Nat.zero_add]
    simpa using hk'

theorem strs_oneCell (xs : List ByteArray) : ∀ u ∈ xs.map Value.string, u.oneCell' = true := by
  intro u hu
  obtain ⟨_, _, rfl⟩ := List.mem_map.1 hu
  rfl
theorem cells_strs {w : World} {b o : Nat} {xs : List ByteArray} (hx : ∀ k (h : k < xs.length), w.cell? ⟨b, o + k, none⟩ = some (.string xs[k])) : ∀ j u, (xs.map Value.string)[j]? = some u → w.cell? ((⟨b, o, none⟩ : Addr).add j) = some u := by
  intro j u hu
  obtain ⟨hj, rfl⟩ := List.getElem?_eq_some_iff.1 hu
  rw [Addr.add_lit, hx j (by simpa using hj)]
  simp
end Go.Proofs.YtmdckddenelneaaGreatDoor

/- The ring of points, pure: rotated it is sorted from a place on; different hosts in order; what goes, what comes. -/
namespace Go.Proofs.YtmdckddenelneaaGreatDoor
namespace Lh
abbrev Pt := Nat × ByteArray
def bl (s : ByteArray) : List UInt8 := s.data.toList
/- the points of hosts -/
/- rotated -/
def cut (f : Nat) (P : List Pt) : Nat := P.countP fun p => !decide (f ≤ p.1)
/-- where a key's way begins -/
def start (f : Nat) (P : List Pt) : Nat := if cut f P = P.length then 0 else cut f P
/- different hosts in order -/
instance memD (s : ByteArray) (out : List ByteArray) : Decidable (s ∈ out) :=
  if h : mem s out = true then .isTrue (by
    unfold mem at h
    rw [List.any_eq_true] at h
    obtain ⟨x, hx, e⟩ := h
    have := of_decide_eq_true e
    exact this ▸ hx) else .isFalse (fun k => h (mem_true k))
theorem filter_erase {xs : List ByteArray} (hn : xs.Nodup) {i : Nat} (hi : i < xs.length) : xs.take i ++ xs.drop (i + 1) = xs.filter fun s => decide (s ≠ xs[i]) := by
  have e : xs = xs.take i ++ xs[i] :: xs.drop (i + 1) := by rw [List.getElem_cons_drop, List.take_append_drop]
  have hn' := hn
  rw [e, List.nodup_append, List.nodup_cons] at hn'
  obtain ⟨_, ⟨h2, _⟩, h3⟩ := hn'
  generalize hw : xs[i] = w at *
  conv => rhs; rw [e]
  rw [List.filter_append, List.filter_cons]
  simp only [ne_eq, not_true_eq_false, decide_false, Bool.false_eq_true, if_false]
  congr 1
  · symm
    rw [List.filter_eq_self]
    intro a ha
    have := h3 a ha w List.mem_cons_self
    simpa using this
  · symm
    rw [List.filter_eq_self]
    intro a ha
    have : a ≠ w := fun e => h2 (e ▸ ha)
    simpa using this
end Lh
/- the order of the sort -/
end Go.Proofs.YtmdckddenelneaaGreatDoor

/- Small things that rings and rivals share: a list without a fault, errors, texts and keys in memory. -/
namespace Go.Proofs.YtmdckddenelneaaGreatDoor
open Go.RowKit

theorem nodup_good {xs : List ByteArray} (h : ∀ j, ∀ hj : j < xs.length, Good xs j hj) : xs.Nodup := by
  refine List.pairwise_iff_getElem.2 fun i j hi hj hij e => ?_
  have h2 := (h j hj).2
  rw [Lh.mem_true] at h2
  · cases h2
  · rw [List.mem_take_iff_getElem]
    exact ⟨i, by omega, e⟩
theorem fault0 {xs : List ByteArray} {pl : Int} (h : IsFault xs 0 pl) : pl = -1 ∧ xs.length ≤ 12 ∧ xs.Nodup := by
  rcases h with ⟨_, h, _⟩ | ⟨_, i, _, _, _, ⟨_, h⟩ | ⟨_, _, h⟩⟩ | ⟨h, hg, _, h'⟩
  · cases h
  · cases h
  · cases h
  · exact ⟨h', by omega, nodup_good hg⟩
theorem err0 {a : Nat → Addr} {W : World} {pl : Int} {v : Value} (h : ErrIs a W 0 pl v) : v = .nilIface := by
  rcases h with ⟨_, _, h⟩ | ⟨i, _, h, _⟩
  · exact h
  · omega
theorem errPos {a : Nat → Addr} {W : World} {c : Nat} {pl : Int} {v : Value} (h : ErrIs a W c pl v) (hc : c ≠ 0) : ∃ t x, v = .iface t x := by
  rcases h with ⟨h, _⟩ | ⟨j, _, _, ⟨_, h⟩ | ⟨b, h, _⟩⟩
  · exact absurd h hc
  · exact ⟨_, _, h⟩
  · exact ⟨_, _, h⟩
theorem owns_snoc {w : World} {base n : Nat} {v : Value} {e : TypeId} {out : List ByteArray} {s : ByteArray} (h : w.ownsRow base e 1 v n (out.map Value.string ++ [.string s])) : w.ownsRow base e 1 v n ((out ++ [s]).map Value.string) := by simpa using h
theorem cells_one {w : World} {t : TypeId} (s : ByteArray) : ∀ j u, [Value.string s][j]? = some u → (w.alloc (.cells #[.string s] t)).cell? ((⟨w.heap.size, 0, none⟩ : Addr).add j) = some u := by
  intro j u hu
  match j, hu with
  | 0, hu => simp at hu; subst hu; simp [Addr.add]
  | j + 1, hu => simp at hu
theorem fault_of {xs : List ByteArray} (h12 : xs.length ≤ 12) (hn : ∀ s ∈ xs, Lh.isNm s = true) (hd : xs.Nodup) : IsFault xs 0 (-1) := by
  refine Or.inr (Or.inr ⟨by omega, fun j hj => ⟨hn _ (List.getElem_mem hj), Lh.mem_false fun h => ?_⟩, rfl, rfl⟩)
  rw [List.mem_take_iff_getElem] at h
  obtain ⟨i, hi, e⟩ := h
  exact List.pairwise_iff_getElem.1 hd i j (by omega) hj (by omega) e
end Go.Proofs.YtmdckddenelneaaGreatDoor

/- The model of health in memory; Find and IsUp. -/
namespace Go.Proofs.YtmdckddenelneaaGreatDoor
open Go.RowKit

/-- a host of the model: its name, whether it is up, its looks since it turned, the slice that holds them -/
structure Mh where
  name : ByteArray
  up : Bool
  looks : List Bool
  val : Value
/-- how many of the other kind are at the end -/
def trail (up : Bool) (looks : List Bool) : Nat := (looks.reverse.takeWhile fun b => b != up).length
def Mh.st (x : Mh) : Lh.Hh := (x.name, x.up, trail x.up x.looks)
def hst (L : List Mh) : List Lh.Hh := L.map Mh.st
theorem owns_same {w w' : World} {base : Nat} {e : TypeId} {size : Nat} {v : Value} {n : Nat} {xs : List Value} (h : w.ownsRow base e size v n xs) (he : ∀ g, v.ownBlock = some g → w'.heap[g]? = w.heap[g]?) : w'.ownsRow base e size v n xs := by
  obtain ⟨h1, h2 | ⟨g, cap, cur, rfl, e2, e3, e4⟩⟩ := h
  · exact ⟨h1, Or.inl h2⟩
  · exact ⟨h1, Or.inr ⟨g, cap, cur, rfl, e2, (he g rfl).trans e3, e4⟩⟩
/-- the number that Find answers -/
def fi (l : List Lh.Hh) (s : ByteArray) : Int := if Lh.hix l s < l.length then ((Lh.hix l s : Nat) : Int) else -1
theorem fi_at {l : List Lh.Hh} {s : ByteArray} {k : Nat} (hk : k < l.length) (hp : ∀ j (h : j < l.length), j < k → (l[j]).1 ≠ s) (he : (l[k]).1 = s) : Lh.hix l s = k := by
  have h1 : Lh.hix l s < l.length := Lh.hix_lt.2 ⟨_, List.getElem_mem hk, he⟩
  rcases Nat.lt_trichotomy (Lh.hix l s) k with h | h | h
  · exact absurd (Lh.hix_get h1) (hp _ h1 h)
  · exact h
  · exact absurd he (Lh.hix_first hk h)

end Go.Proofs.YtmdckddenelneaaGreatDoor

/- The model of health: Find, IsUp and Ups. -/
namespace Go.Proofs.YtmdckddenelneaaGreatDoor
open Go.RowKit

theorem hup_at {l : List Lh.Hh} {s : ByteArray} (hn : (l.map fun x => x.1).Nodup) (h : Lh.hix l s < l.length) : Lh.hup l s = (l[Lh.hix l s]).2.1 := by
  have h1 := Lh.hix_get h
  cases e : (l[Lh.hix l s]).2.1 with
  | true =>
    unfold Lh.hup
    rw [List.any_eq_true]
    exact ⟨_, List.getElem_mem h, by simp [h1, e]⟩
  | false =>
    unfold Lh.hup
    rw [List.any_eq_false]
    intro x hx hc
    simp only [Bool.and_eq_true, decide_eq_true_eq] at hc
    obtain ⟨j, hj, rfl⟩ := List.getElem_of_mem hx
    have h2 : j = Lh.hix l s := by
      have h3 : (l.map fun x => x.1)[j]'(by simpa using hj) = (l.map fun x => x.1)[Lh.hix l s]'(by simpa using h) := by
        simp only [List.getElem_map]
        rw [hc.1, h1]
      exact (List.getElem_inj hn).1 h3
    subst h2
    rw [e] at hc
    cases hc.2
theorem hup_none {l : List Lh.Hh} {s : ByteArray} (h : ¬ Lh.hix l s < l.length) : Lh.hup l s = false := by
  unfold Lh.hup
  rw [List.any_eq_false]
  intro x hx hc
  simp only [Bool.and_eq_true, decide_eq_true_eq] at hc
  exact h (Lh.hix_lt.2 ⟨x, hx, hc.1⟩)

end Go.Proofs.YtmdckddenelneaaGreatDoor
