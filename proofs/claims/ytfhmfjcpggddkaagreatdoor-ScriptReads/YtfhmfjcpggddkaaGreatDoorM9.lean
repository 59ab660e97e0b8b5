/- From the row's list of package variables, and the world's shape, to what the landed carry asks. -/
import Derived.Test.YtfhmfjcpggddkaaGreatDoorRows
import Derived.Test.YtfhmfjcpggddkaaGreatDoorM1
import Derived.Test.YtfhmfjcpggddkaaGreatDoorM8
import Derived.Test.YtfhmfjcpggddkaaGreatDoorM4
import Derived.Test.YtfhmfjcpggddkaaGreatDoorM6
import Derived.Test.YtfhmfjcpggddkaaGreatDoorM5
import Derived.BigQuiet
import Derived.Deep.QuietTactic
import Derived.Laws.AppendOwnNone
import Derived.Deep.AppendLies
import Derived.Lib.LaidTab
import Derived.Lib.TrailingZeros
import Derived.Shelf.Vars
import Derived.Stop.LaidErr
import Derived.MapKept
namespace Go.Proofs.YtfhmfjcpggddkaaGreatDoor
open Go.RowKit

def conv2 : List (String × List UInt8) := [
  ("strconv.ErrRange", [118, 97, 108, 117, 101, 32, 111, 117, 116, 32, 111, 102, 32, 114, 97, 110, 103, 101]),
  ("strconv.ErrSyntax", [105, 110, 118, 97, 108, 105, 100, 32, 115, 121, 110, 116, 97, 120])]
theorem gConv : ∀ x ∈ conv2, ∃ g, Tryz.prog.globalNamed x.1 = some g ∧ (Tryz.prog.globals[g]?).map (·.type) = some 25 := by
  intro x hx
  simp only [conv2, List.mem_cons, List.not_mem_nil, or_false] at hx
  rcases hx with rfl | rfl
  · exact ⟨17, by kernel_rfl, by kernel_rfl⟩
  · exact ⟨16, by kernel_rfl, by kernel_rfl⟩
theorem mln_of {W : World} (h : W.ShapedOpen Tryz.prog) : ∃ m, W.cell? ⟨10, 0, none⟩ = some (.int .i64 m) :=
  cell_of_shapedOpen_int (t := 3) (zero := #[.int .i64 0]) h (of_decide_eq_true (by kernel_rfl)) (by kernel_rfl) rfl (by kernel_rfl) (by kernel_rfl) Tryz.underlying3
def brjI : List Int := Lib.deBruijn64tab.map fun (n : Nat) => ((n : Nat) : Int)
def tabs2 : List (String × DataW Unit) := [("math/bits.deBruijn64tab", Lib.tabData .u8 brjI), ("internal/strconv.uint64pow10", Lib.tabData .u64 Lib.pow10Tab)]
theorem tabs_of {W : World} {r : List (String × DataW Unit)} (h : laidMet Tryz.prog (tabs2 ++ r) W) : W.cell? ⟨15, 15, none⟩ = some (.int .u8 4) ∧ Lib.TabIs Tryz.prog W "internal/strconv.uint64pow10" .u64 Lib.pow10Tab := by
  have h1 : laidMet Tryz.prog (("math/bits.deBruijn64tab", Lib.tabData .u8 brjI) :: ("internal/strconv.uint64pow10", Lib.tabData .u64 Lib.pow10Tab) :: r) W := h
  have hg : Tryz.prog.globalNamed "math/bits.deBruijn64tab" = some 15 := by kernel_rfl
  have t1 := Lib.tabIs_of_head hg (t := 360) (by kernel_rfl) Tryz.underlying360 Tryz.underlying5 (by kernel_rfl) (by kernel_rfl) h1
  have t2 := Lib.tabIs_of_head (show Tryz.prog.globalNamed "internal/strconv.uint64pow10" = some 11 by kernel_rfl) (t := 318) (by kernel_rfl) Tryz.underlying318 Tryz.underlying63 (by kernel_rfl) (by kernel_rfl) (laidMet.tail h1)
  exact ⟨t1.cell hg 15 (by decide), t2⟩
theorem conv_of {W : World} (h : laidMet Tryz.prog (sentList conv2) W) : (∃ te pe, W.cell? ⟨16, 0, none⟩ = some (.iface te pe)) ∧ ∃ te pe, W.cell? ⟨17, 0, none⟩ = some (.iface te pe) := by
  obtain ⟨ads, _, hc⟩ := sentCells h gConv
  exact ⟨⟨_, _, hc 1 (by decide) 16 (by kernel_rfl)⟩, ⟨_, _, hc 0 (by decide) 17 (by kernel_rfl)⟩⟩
end Go.Proofs.YtfhmfjcpggddkaaGreatDoor

/- A map of one's own from texts to values, as a list. -/
namespace Go.Proofs.YtfhmfjcpggddkaaGreatDoor
open Go.RowKit

/-- block m is a map that holds just these -/
def MapIs (W : World) (m : Nat) (es : List (ByteArray × Value)) : Prop :=
  ∃ arr clock, W.heap[m]? = some (.map arr clock) ∧ arr.toList.map (fun e => (e.key, e.val)) = es.map fun x => (Value.string x.1, x.2)
theorem MapIs.same {W W' : World} {m : Nat} {es : List (ByteArray × Value)} (h : MapIs W m es) (he : W'.heap[m]? = W.heap[m]?) : MapIs W' m es := by
  obtain ⟨arr, c, h1, h2⟩ := h
  exact ⟨arr, c, he.trans h1, h2⟩
theorem MapIs.lt {W : World} {m : Nat} {es : List (ByteArray × Value)} (h : MapIs W m es) : m < W.heap.size := by
  obtain ⟨arr, c, h1, _⟩ := h
  rcases Nat.lt_or_ge m W.heap.size with h | h
  · exact h
  · rw [Array.getElem?_eq_none h] at h1
    cases h1
theorem mapKeys {l : List MapEntry} {es : List (ByteArray × Value)} (h : l.map (fun e => (e.key, e.val)) = es.map fun x => (Value.string x.1, x.2)) : ∀ x ∈ l, MapKept.IsKey .string x.key := by
  intro x hx
  have : (x.key, x.val) ∈ es.map fun x => (Value.string x.1, x.2) := by
    rw [← h]
    exact List.mem_map.2 ⟨x, hx, rfl⟩
  obtain ⟨y, _, hy⟩ := List.mem_map.1 this
  injection hy with h1 _
  rw [← h1]
  simp [MapKept.IsKey]
theorem isKeyS (s : ByteArray) : MapKept.IsKey .string (.string s) := by simp [MapKept.IsKey]
/-- what a text finds -/
theorem MapIs.find {W : World} {m : Nat} {es : List (ByteArray × Value)} (h : MapIs W m es) (s : ByteArray) :
    ∃ arr clock, W.heap[m]? = some (.map arr clock) ∧ ((∃ i v, Instr.findNow .string (.string s) arr.toList 0 = some (some (i, v)) ∧ (s, v) ∈ es) ∨ (Instr.findNow .string (.string s) arr.toList 0 = some none ∧ ∀ v, (s, v) ∉ es)) := by
  obtain ⟨arr, c, h1, h2⟩ := h
  refine ⟨arr, c, h1, ?_⟩
  rcases MapKept.findNow_spec (isKeyS s) arr.toList 0 (mapKeys h2) with ⟨q1, q2⟩ | ⟨j, e, q1, q2, q3⟩
  · refine Or.inr ⟨q1, fun v hv => ?_⟩
    have : (Value.string s, v) ∈ arr.toList.map (fun e => (e.key, e.val)) := by
      rw [h2]
      exact List.mem_map.2 ⟨_, hv, rfl⟩
    obtain ⟨x, hx, hy⟩ := List.mem_map.1 this
    injection hy with h3 _
    exact q2 x hx h3
  · refine Or.inl ⟨0 + j, e.val, q1, ?_⟩
    have hm : e ∈ arr.toList := List.mem_of_getElem? q2
    have : (e.key, e.val) ∈ es.map fun x => (Value.string x.1, x.2) := by
      rw [← h2]
      exact List.mem_map.2 ⟨e, hm, rfl⟩
    obtain ⟨y, hy, hz⟩ := List.mem_map.1 this
    injection hz with h3 h4
    rw [q3] at h3
    injection h3 with h3
    rw [← h4, ← h3]
    exact hy
/-- 'v, ok := m[s]' -/
theorem MapIs.look {P : Program} {W : World} {m : Nat} {es : List (ByteArray × Value)} (h : MapIs W m es) (s : ByteArray) {t kt et : TypeId} (ht : P.underlying t = some (.map kt et)) (hk : P.underlying kt = some .string) {z : Value} (hz : (zeroValue et).run P W = .ok z W) :
    (∃ v, (s, v) ∈ es ∧ (Instr.lookup t (.map (some m)) (.string s) true).run P W = .ok (.tuple #[v, .bool true]) W) ∨ ((∀ v, (s, v) ∉ es) ∧ (Instr.lookup t (.map (some m)) (.string s) true).run P W = .ok (.tuple #[z, .bool false]) W) := by
  obtain ⟨arr, c, h1, h2⟩ := h.find s
  have hc : ∀ b, (Instr.checkKey b 10000 kt (.string s)).run P W = .ok () W := fun b => MapKept.run_checkKey (k := .string s) hk (isKeyS s) b 9999
  rcases h2 with ⟨i, v, q1, q2⟩ | ⟨q1, q2⟩
  · exact Or.inl ⟨v, q2, by simp [Instr.lookup, run_underlying ht, MapKept.run_getObj_map h1, hc, MapKept.run_findKey hk q1, Result.andThen]⟩
  · exact Or.inr ⟨q2, by simp [Instr.lookup, run_underlying ht, MapKept.run_getObj_map h1, hc, MapKept.run_findKey hk q1, hz, Result.andThen]⟩
/-- a text more in a literal -/
theorem MapIs.ins {P : Program} {w : World} {b : Nat} {es : List (ByteArray × Value)} (hM : MapIs w b es) {t kt et : TypeId} (ht : P.underlying t = some (.map kt et)) (hk : P.underlying kt = some .string) (s : ByteArray) (val : Value) (ks : List (List UInt8)) (hks : es.map (fun x => x.1.data.toList) = ks) (hnew : s.data.toList ∉ ks) :
    ∃ w', (Instr.mapUpdate t (.map (some b)) (.string s) val).run P w = .ok () w' ∧ MapIs w' b (es ++ [(s, val)]) ∧ Below b w w' ∧ w'.heap.size = w.heap.size := by
  have hlt := hM.lt
  obtain ⟨arr, c, h1, h2⟩ := hM
  have hf : Instr.findNow .string (.string s) arr.toList 0 = some none := by
    rcases MapKept.findNow_spec (isKeyS s) arr.toList 0 (mapKeys h2) with ⟨q1, _⟩ | ⟨j, e, q1, q2, q3⟩
    · exact q1
    · refine absurd ?_ hnew
      have hme : e ∈ arr.toList := List.mem_of_getElem? q2
      have : (e.key, e.val) ∈ es.map fun x => (Value.string x.1, x.2) := by
        rw [← h2]
        exact List.mem_map.2 ⟨e, hme, rfl⟩
      obtain ⟨y, hy, hz⟩ := List.mem_map.1 this
      injection hz with h3 h4
      rw [q3] at h3
      injection h3 with h3
      rw [← hks, ← h3]
      exact List.mem_map.2 ⟨y, hy, rfl⟩
  have hc : (Instr.checkKey false 10000 kt (.string s)).run P w = .ok () w := MapKept.run_checkKey (k := .string s) hk (isKeyS s) false 9999
  have hrun : (Instr.mapUpdate t (.map (some b)) (.string s) val).run P w = .ok () { w with heap := w.heap.setIfInBounds b (.map (arr.push { key := .string s, val := val, born := c }) (c + 1)) } := by
    simp [Instr.mapUpdate, run_underlying ht, MapKept.run_getObj_map h1, hc, MapKept.run_findKey hk hf, MapKept.run_setObj_map _ h1, Result.andThen]
  refine ⟨_, hrun, ⟨_, _, Array.getElem?_setIfInBounds_self_of_lt hlt, ?_⟩, ⟨rfl, rfl, rfl, by simp, fun k hk => ?_⟩, by simp⟩
  · simp [h2]
  · exact Array.getElem?_setIfInBounds_ne (by omega)
theorem mapIs_made (w : World) : MapIs (w.alloc (.map #[] 0)) w.heap.size [] := ⟨#[], 0, (show (w.heap.push (.map #[] 0))[w.heap.size]? = _ from Array.getElem?_push_size), rfl⟩
end Go.Proofs.YtfhmfjcpggddkaaGreatDoor

/- Health, as lists: hosts, whether they are up, and how many looks of the other kind came last. -/
namespace Go.Proofs.YtfhmfjcpggddkaaGreatDoor
namespace Lh

/-- a host: its name, whether it is up, how many looks of the other kind came one behind the other -/
abbrev Hh := ByteArray × Bool × Nat
/-- the place of a host (the list's length: none) -/
def hix (l : List Hh) (s : ByteArray) : Nat := l.findIdx fun x => decide (x.1 = s)
/-- how many looks turn a host -/
def hedge (f r : Nat) (up : Bool) : Nat := if up then f else r
/-- a look at a host: what it is then, and whether it turned -/
def hlook (f r : Nat) (x : Hh) (well : Bool) : Hh × Bool :=
  if well = x.2.1 then ((x.1, x.2.1, 0), false)
  else if hedge f r x.2.1 ≤ x.2.2 + 1 then ((x.1, !x.2.1, 0), true) else ((x.1, x.2.1, x.2.2 + 1), false)
/-- hosts that are up -/
def hups (l : List Hh) : List ByteArray := (l.filter fun x => x.2.1).map fun x => x.1
/-- is it up? -/
def hup (l : List Hh) (s : ByteArray) : Bool := l.any fun x => decide (x.1 = s) && x.2.1
/-- bounds of edges, of hosts and of counts -/
structure HOk (f r : Nat) (l : List Hh) : Prop where
  f1 : 1 ≤ f
  f10 : f ≤ 10
  r1 : 1 ≤ r
  r10 : r ≤ 10
  len : l.length ≤ 12
  nodup : (l.map fun x => x.1).Nodup
  size : ∀ x ∈ l, x.1.size ≤ 300
  cnt : ∀ x ∈ l, x.2.2 < hedge f r x.2.1
theorem hlook_name (f r : Nat) (x : Hh) (well : Bool) : (hlook f r x well).1.1 = x.1 := by
  unfold hlook
  split
  · rfl
  · split <;> rfl
theorem hedge_pos {f r : Nat} (hf : 1 ≤ f) (hr : 1 ≤ r) (up : Bool) : 0 < hedge f r up := by
  unfold hedge
  split <;> omega
theorem hedge_le {f r : Nat} (hf : f ≤ 10) (hr : r ≤ 10) (up : Bool) : hedge f r up ≤ 10 := by
  unfold hedge
  split <;> omega
theorem hlook_cnt {f r : Nat} (hf : 1 ≤ f) (hr : 1 ≤ r) (x : Hh) (well : Bool) : (hlook f r x well).1.2.2 < hedge f r (hlook f r x well).1.2.1 := by
  unfold hlook
  split
  · exact hedge_pos hf hr _
  · split
    · exact hedge_pos hf hr _
    · rename_i h
      show x.2.2 + 1 < hedge f r x.2.1
      omega
theorem HOk.look {f r : Nat} {l : List Hh} (h : HOk f r l) {i : Nat} (hi : i < l.length) (well : Bool) : HOk f r (l.set i (hlook f r l[i] well).1) := by
  refine ⟨h.f1, h.f10, h.r1, h.r10, by simpa using h.len, ?_, fun x hx => ?_, fun x hx => ?_⟩
  · have e : (l.set i (hlook f r l[i] well).1).map (fun x => x.1) = l.map fun x => x.1 := by
      rw [List.map_set, hlook_name]
      apply List.ext_getElem
      · simp
      · intro j h1 h2
        rw [List.getElem_set]
        split
        · rename_i e
          subst e
          simp
        · rfl
    rw [e]
    exact h.nodup
  · rcases List.mem_or_eq_of_mem_set hx with hx | rfl
    · exact h.size x hx
    · rw [hlook_name]
      exact h.size _ (List.getElem_mem hi)
  · rcases List.mem_or_eq_of_mem_set hx with hx | rfl
    · exact h.cnt x hx
    · exact hlook_cnt h.f1 h.r1 _ _
theorem hix_lt {l : List Hh} {s : ByteArray} : hix l s < l.length ↔ ∃ x ∈ l, x.1 = s := by
  unfold hix
  rw [List.findIdx_lt_length]
  simp
theorem hix_get {l : List Hh} {s : ByteArray} (h : hix l s < l.length) : (l[hix l s]).1 = s := by
  have := List.findIdx_getElem (xs := l) (p := fun x : Hh => decide (x.1 = s)) (w := h)
  exact of_decide_eq_true this
theorem hix_first {l : List Hh} {s : ByteArray} {j : Nat} (hj : j < l.length) (h : j < hix l s) : (l[j]).1 ≠ s := by
  have := List.not_of_lt_findIdx h
  simpa using this
theorem HOk.add {f r : Nat} {l : List Hh} (h : HOk f r l) {s : ByteArray} (hl : l.length < 12) (hs : s.size ≤ 300) (hn : ¬ hix l s < l.length) : HOk f r (l ++ [(s, false, 0)]) := by
  rw [hix_lt] at hn
  refine ⟨h.f1, h.f10, h.r1, h.r10, by simp; omega, ?_, fun x hx => ?_, fun x hx => ?_⟩
  · rw [List.map_append, List.nodup_append]
    refine ⟨h.nodup, by simp, fun a ha b hb e => ?_⟩
    simp at hb
    subst hb
    subst e
    obtain ⟨x, hx, e⟩ := List.mem_map.1 ha
    exact hn ⟨x, hx, e⟩
  · rcases List.mem_append.1 hx with hx | hx
    · exact h.size x hx
    · simp at hx
      subst hx
      exact hs
  · rcases List.mem_append.1 hx with hx | hx
    · exact h.cnt x hx
    · simp at hx
      subst hx
      exact hedge_pos h.f1 h.r1 _
/-- the hosts of a new one -/
def hnew (xs : List ByteArray) : List Hh := xs.map fun s => (s, true, 0)
theorem hnew_ok {f r : Nat} {xs : List ByteArray} (hf1 : 1 ≤ f) (hf : f ≤ 10) (hr1 : 1 ≤ r) (hr : r ≤ 10) (hl : xs.length ≤ 12) (hn : xs.Nodup) (hs : ∀ s ∈ xs, s.size ≤ 300) : HOk f r (hnew xs) := by
  refine ⟨hf1, hf, hr1, hr, by simpa [hnew] using hl, ?_, fun x hx => ?_, fun x hx => ?_⟩
  · have e : (hnew xs).map (fun x => x.1) = xs := by simp [hnew, Function.comp_def]
    rw [e]
    exact hn
  · obtain ⟨s, h, rfl⟩ := List.mem_map.1 hx
    exact hs s h
  · obtain ⟨s, h, rfl⟩ := List.mem_map.1 hx
    exact hedge_pos hf1 hr1 _
end Lh
end Go.Proofs.YtfhmfjcpggddkaaGreatDoor

/- Plain facts on tables of turns: a row meets each slot once; while a slot is free each row has a free one; each host has as many slots as turns. -/
namespace Go.Proofs.YtfhmfjcpggddkaaGreatDoor
namespace Lh
/-- no prime is divided by a number between -/
def Prm (n : Nat) : Prop := 2 ≤ n ∧ ∀ k, 2 ≤ k → k < n → n % k ≠ 0
def rowAt (A B n j : Nat) : Nat := (A % n + j * (B % (n - 1) + 1)) % n

theorem prm_coprime {n s : Nat} (hp : Prm n) (h0 : 0 < s) (hs : s < n) : Nat.Coprime n s := by
  have h1 := Nat.gcd_dvd_left n s
  have h2 := Nat.gcd_dvd_right n s
  have hle := Nat.le_of_dvd h0 h2
  have hpos : 0 < Nat.gcd n s := Nat.gcd_pos_of_pos_right _ h0
  rcases Nat.lt_or_ge (Nat.gcd n s) 2 with h | h
  · show Nat.gcd n s = 1
    omega
  · exact absurd (Nat.mod_eq_zero_of_dvd h1) (hp.2 _ h (by omega))

theorem skip_lt {n B : Nat} (h : 2 ≤ n) : B % (n - 1) + 1 < n := by
  have := Nat.mod_lt B (show n - 1 > 0 by omega)
  omega

theorem rowAt_lt {A B n j : Nat} (h : 2 ≤ n) : rowAt A B n j < n := Nat.mod_lt _ (by omega)

theorem rowAt_inj_le {A B n i j : Nat} (hp : Prm n) (hij : i ≤ j) (hj : j < n) (h : rowAt A B n j = rowAt A B n i) : i = j := by
  unfold rowAt at h
  have hs := skip_lt (B := B) hp.1
  have h0 : 0 < B % (n - 1) + 1 := Nat.succ_pos _
  generalize B % (n - 1) + 1 = s at h hs h0
  have h1 := Nat.sub_mod_eq_zero_of_mod_eq h
  have h2 : A % n + j * s - (A % n + i * s) = s * (j - i) := by
    rw [Nat.add_sub_add_left, ← Nat.sub_mul, Nat.mul_comm]
  rw [h2] at h1
  have hd := Nat.Coprime.dvd_of_dvd_mul_left (prm_coprime hp h0 hs) (Nat.dvd_of_mod_eq_zero h1)
  rcases Nat.eq_zero_or_pos (j - i) with hz | hz
  · omega
  · have := Nat.le_of_dvd hz hd
    omega
theorem rowAt_inj {A B n i j : Nat} (hp : Prm n) (hi : i < n) (hj : j < n) (h : rowAt A B n i = rowAt A B n j) : i = j := by
  rcases Nat.le_total i j with hle | hle
  · exact rowAt_inj_le hp hle hj h.symm
  · exact (rowAt_inj_le hp hle hi h).symm

/-- what goes into so many places, each to another one, meets each -/
theorem inj_surj (n : Nat) (f : Nat → Nat) (hlt : ∀ i, i < n → f i < n) (hinj : ∀ i j, i < n → j < n → f i = f j → i = j) (x : Nat) (hx : x < n) : ∃ i, i < n ∧ f i = x := by
  refine Decidable.byContradiction fun hno => ?_
  have hnd : ((List.range n).map f).Nodup := by
    refine List.pairwise_map.2 ?_
    refine List.Pairwise.imp_of_mem ?_ (List.nodup_range (n := n))
    intro a b ha hb hab e
    exact hab (hinj a b (List.mem_range.1 ha) (List.mem_range.1 hb) e)
  have hsub : (List.range n).map f ⊆ (List.range n).erase x := by
    intro y hy
    obtain ⟨i, hi, rfl⟩ := List.mem_map.1 hy
    have hi' := List.mem_range.1 hi
    refine (List.mem_erase_of_ne ?_).2 (List.mem_range.2 (hlt i hi'))
    intro e
    exact hno ⟨i, hi', e⟩
  have := hnd.length_le_of_subset hsub
  rw [List.length_erase_of_mem (List.mem_range.2 hx)] at this
  simp at this
  omega

/-- the first place of a row that is free (a number below 0) -/
def pick (out : List Int) (r : Nat → Nat) (n : Nat) : Nat := ((List.range n).find? fun j => decide (out.getD (r j) 0 < 0)).getD 0
theorem pick_spec {out : List Int} {r : Nat → Nat} {n : Nat} (h : ∃ j, j < n ∧ out.getD (r j) 0 < 0) : pick out r n < n ∧ out.getD (r (pick out r n)) 0 < 0 ∧ ∀ i, i < pick out r n → 0 ≤ out.getD (r i) 0 := by
  unfold pick
  cases hf : (List.range n).find? fun j => decide (out.getD (r j) 0 < 0) with
  | none =>
    obtain ⟨j, hj, hlt⟩ := h
    have := List.find?_eq_none.1 hf j (List.mem_range.2 hj)
    exact absurd (decide_eq_true hlt) this
  | some j =>
    obtain ⟨h1, h2, h3⟩ := List.find?_range_eq_some.1 hf
    refine ⟨List.mem_range.1 h2, of_decide_eq_true h1, fun i hi => ?_⟩
    have := h3 i hi
    simp at this
    simpa using this

/-- a first free place is the only one with all ahead taken -/
theorem pick_unique {out : List Int} {r : Nat → Nat} {n j : Nat} (hj : j < n) (hf : out.getD (r j) 0 < 0) (hb : ∀ i, i < j → 0 ≤ out.getD (r i) 0) : pick out r n = j := by
  obtain ⟨h1, h2, h3⟩ := pick_spec ⟨j, hj, hf⟩
  rcases Nat.lt_trichotomy (pick out r n) j with h | h | h
  · have := hb _ h; omega
  · exact h
  · have := h3 _ h; omega

/-- one turn: host number t mod m takes the first free slot of its row, and writes its value there -/
def step1 (n m : Nat) (rows : Nat → Nat → Nat) (vals : Nat → Int) (t : Nat) (out : List Int) : List Int := out.set (rows (t % m) (pick out (rows (t % m)) n)) (vals (t % m))
def fill (n m : Nat) (rows : Nat → Nat → Nat) (vals : Nat → Int) : Nat → List Int
  | 0 => List.replicate n (-1)
  | t + 1 => step1 n m rows vals t (fill n m rows vals t)

/-- what is asked of the rows and the values -/
structure RowsOk (n m : Nat) (rows : Nat → Nat → Nat) (vals : Nat → Int) : Prop where
  pos : 0 < m
  lt : ∀ k, k < m → ∀ j, j < n → rows k j < n
  inj : ∀ k, k < m → ∀ i j, i < n → j < n → rows k i = rows k j → i = j
  val : ∀ k, k < m → 0 ≤ vals k

theorem fill_length (n m : Nat) (rows : Nat → Nat → Nat) (vals : Nat → Int) : ∀ t, (fill n m rows vals t).length = n
  | 0 => by simp [fill]
  | t + 1 => by simp [fill, step1, fill_length n m rows vals t]

theorem getD_lt {out : List Int} {x : Nat} (h : x < out.length) : out.getD x 0 = out[x] := by
  rw [List.getD_eq_getElem?_getD, List.getElem?_eq_getElem h]; rfl

theorem fill_free {n m : Nat} {rows : Nat → Nat → Nat} {vals : Nat → Int} (hr : RowsOk n m rows vals) : ∀ t, t ≤ n → (fill n m rows vals t).countP (fun v => decide (v < 0)) = n - t
  | 0, _ => by simp [fill, List.countP_replicate]
  | t + 1, ht => by
    have ih := fill_free hr t (by omega)
    have hl := fill_length n m rows vals t
    have hk : t % m < m := Nat.mod_lt _ hr.pos
    have hex : ∃ j, j < n ∧ (fill n m rows vals t).getD (rows (t % m) j) 0 < 0 := by
      have hpos : 0 < (fill n m rows vals t).countP (fun v => decide (v < 0)) := by omega
      obtain ⟨v, hv, hv0⟩ := List.countP_pos_iff.1 hpos
      obtain ⟨x, hx, rfl⟩ := List.getElem_of_mem hv
      obtain ⟨j, hj, e⟩ := inj_surj n (rows (t % m)) (hr.lt _ hk) (hr.inj _ hk) x (by omega)
      refine ⟨j, hj, ?_⟩
      rw [e, getD_lt hx]
      exact of_decide_eq_true hv0
    obtain ⟨h1, h2, _⟩ := pick_spec hex
    have hlt : rows (t % m) (pick (fill n m rows vals t) (rows (t % m)) n) < (fill n m rows vals t).length := by rw [hl]; exact hr.lt _ hk _ h1
    rw [getD_lt hlt] at h2
    show (step1 n m rows vals t (fill n m rows vals t)).countP _ = _
    unfold step1
    rw [List.countP_set hlt, ih]
    have hv := hr.val _ hk
    simp only [decide_eq_true h2, if_true]
    rw [if_neg (by simp; omega)]
    omega

/-- while a slot is free, each row has a free place -/
theorem fill_pick {n m : Nat} {rows : Nat → Nat → Nat} {vals : Nat → Int} (hr : RowsOk n m rows vals) {t : Nat} (ht : t < n) {k : Nat} (hk : k < m) : ∃ j, j < n ∧ (fill n m rows vals t).getD (rows k j) 0 < 0 := by
  have h := fill_free hr t (by omega)
  have hl := fill_length n m rows vals t
  have hpos : 0 < (fill n m rows vals t).countP (fun v => decide (v < 0)) := by omega
  obtain ⟨v, hv, hv0⟩ := List.countP_pos_iff.1 hpos
  obtain ⟨x, hx, rfl⟩ := List.getElem_of_mem hv
  obtain ⟨j, hj, e⟩ := inj_surj n (rows k) (hr.lt _ hk) (hr.inj _ hk) x (by omega)
  refine ⟨j, hj, ?_⟩
  rw [e, getD_lt hx]
  exact of_decide_eq_true hv0

/-- how many turns each host has -/
def turns (n m k : Nat) : Nat := (List.range n).countP fun t => decide (t % m = k)
theorem fill_vals {n m : Nat} {rows : Nat → Nat → Nat} {vals : Nat → Int} (hm : 0 < m) : ∀ t v, v ∈ fill n m rows vals t → v = -1 ∨ ∃ k, k < m ∧ v = vals k
  | 0, v, h => Or.inl (List.eq_of_mem_replicate h)
  | t + 1, v, h => by
    rcases List.mem_or_eq_of_mem_set h with h | h
    · exact fill_vals hm t v h
    · exact Or.inr ⟨t % m, Nat.mod_lt _ hm, h⟩

theorem pick_congr {o1 o2 : List Int} {r : Nat → Nat} {n : Nat} (h : ∀ j, j < n → (o1.getD (r j) 0 < 0 ↔ o2.getD (r j) 0 < 0)) : pick o1 r n = pick o2 r n := by
  unfold pick
  have : (List.range n).find? (fun j => decide (o1.getD (r j) 0 < 0)) = (List.range n).find? (fun j => decide (o2.getD (r j) 0 < 0)) := by
    have : ∀ l : List Nat, (∀ j ∈ l, j < n) → l.find? (fun j => decide (o1.getD (r j) 0 < 0)) = l.find? (fun j => decide (o2.getD (r j) 0 < 0)) := by
      intro l
      induction l with
      | nil => intro _; rfl
      | cons a t ih =>
        intro hl
        have e : decide (o1.getD (r a) 0 < 0) = decide (o2.getD (r a) 0 < 0) := decide_eq_decide.2 (h a (hl a (List.mem_cons_self ..)))
        rw [List.find?_cons, List.find?_cons, e, ih (fun j hj => hl j (List.mem_cons_of_mem _ hj))]
    exact this _ (fun j hj => List.mem_range.1 hj)
  rw [this]

/-- which host has a slot hangs on the rows alone -/
def over (vals : Nat → Int) (v : Int) : Int := if v < 0 then -1 else vals v.toNat
theorem fill_over {n m : Nat} {rows : Nat → Nat → Nat} {vals : Nat → Int} (hr : RowsOk n m rows vals) : ∀ t, t ≤ n → fill n m rows vals t = (fill n m rows (fun k => (k : Int)) t).map (over vals)
  | 0, _ => by simp [fill, over]
  | t + 1, ht => by
    have ih := fill_over hr t (by omega)
    have hkt : t % m < m := Nat.mod_lt _ hr.pos
    have hl0 := fill_length n m rows (fun k => (k : Int)) t
    have key : ∀ x, x < n → ((fill n m rows vals t).getD x 0 < 0 ↔ (fill n m rows (fun k => (k : Int)) t).getD x 0 < 0) := by
      intro x hx
      have hx0 : x < (fill n m rows (fun k => (k : Int)) t).length := by rw [hl0]; exact hx
      rw [ih, getD_lt (by simpa using hx0), getD_lt hx0, List.getElem_map]
      rcases fill_vals hr.pos t _ (List.getElem_mem hx0) with e | ⟨k, hk, e⟩
      · rw [e]; simp [over]
      · have := hr.val k hk
        have e' : over vals (fill n m rows (fun k => (k : Int)) t)[x] = vals k := by
          rw [e]; simp only [over]; rw [if_neg (by omega)]; simp
        rw [e', e]
        omega
    have hp := pick_congr (o1 := fill n m rows vals t) (o2 := fill n m rows (fun k => (k : Int)) t) (r := rows (t % m)) (n := n) (fun j hj => key _ (hr.lt _ hkt j hj))
    show step1 n m rows vals t (fill n m rows vals t) = (step1 n m rows (fun k => (k : Int)) t (fill n m rows (fun k => (k : Int)) t)).map (over vals)
    unfold step1
    rw [hp, List.map_set, ih]
    congr 1

/-- the whole table: each slot has a host -/
theorem fill_full {n m : Nat} {rows : Nat → Nat → Nat} {vals : Nat → Int} (hr : RowsOk n m rows vals) {x : Nat} (hx : x < n) : ∃ k, k < m ∧ (fill n m rows (fun k => (k : Int)) n).getD x 0 = k ∧ (fill n m rows vals n).getD x 0 = vals k := by
  have hr0 : RowsOk n m rows (fun k => (k : Int)) := ⟨hr.pos, hr.lt, hr.inj, fun k _ => by omega⟩
  have hl0 := fill_length n m rows (fun k => (k : Int)) n
  have hx0 : x < (fill n m rows (fun k => (k : Int)) n).length := by rw [hl0]; exact hx
  have hfree := fill_free hr0 n (Nat.le_refl _)
  rw [Nat.sub_self] at hfree
  have hge := List.countP_eq_zero.1 hfree _ (List.getElem_mem hx0)
  rcases fill_vals hr.pos n _ (List.getElem_mem hx0) with e | ⟨k, hk, e⟩
  · rw [e] at hge; simp at hge
  · refine ⟨k, hk, by rw [getD_lt hx0, e], ?_⟩
    rw [fill_over hr n (Nat.le_refl _), getD_lt (by simpa using hx0), List.getElem_map, e]
    simp only [over]
    rw [if_neg (by omega)]
    simp
end Lh
end Go.Proofs.YtfhmfjcpggddkaaGreatDoor
