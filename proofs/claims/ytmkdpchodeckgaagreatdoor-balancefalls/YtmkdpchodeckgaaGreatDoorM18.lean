/- The landed Make. -/
import Derived.Test.YtmkdpchodeckgaaGreatDoorM17
namespace Go.Proofs.YtmkdpchodeckgaaGreatDoor
open Go.RowKit Go.Maps Go.ChangeMaps

theorem nodup_of_good {xs : List ByteArray} (h : ∀ j, ∀ hj : j < xs.length, Good xs j hj) : xs.Nodup := by
  refine List.pairwise_iff_getElem.2 fun i j hi hj hij e => ?_
  have h2 := (h j hj).2
  rw [Lh.mem_true] at h2
  · cases h2
  · rw [List.mem_take_iff_getElem]
    exact ⟨i, by omega, e⟩
theorem fault_zero {xs : List ByteArray} {pl : Int} (h : IsFault xs 0 pl) : pl = -1 ∧ xs.length ≤ 12 ∧ xs.Nodup := by
  rcases h with ⟨_, h, _⟩ | ⟨_, i, _, _, _, ⟨_, h⟩ | ⟨_, _, h⟩⟩ | ⟨h, hg, _, h'⟩
  · cases h
  · cases h
  · cases h
  · exact ⟨h', by omega, nodup_of_good hg⟩
theorem errIs_zero {a : Nat → Addr} {W : World} {pl : Int} {v : Value} (h : ErrIs a W 0 pl v) : v = .nilIface := by
  rcases h with ⟨_, _, h⟩ | ⟨i, _, h, _⟩
  · exact h
  · omega
theorem errIs_pos {a : Nat → Addr} {W : World} {c : Nat} {pl : Int} {v : Value} (h : ErrIs a W c pl v) (hc : c ≠ 0) : ∃ t x, v = .iface t x := by
  rcases h with ⟨h, _⟩ | ⟨j, _, _, ⟨_, h⟩ | ⟨b, h, _⟩⟩
  · exact absurd h hc
  · exact ⟨_, _, h⟩
  · exact ⟨_, _, h⟩
theorem strs1_pos {w : World} {v : Value} {xs : List ByteArray} (h : Strs1 w v xs) (hp : 0 < xs.length) : ∃ b o c, v = .slice (some ⟨b, o, none⟩) xs.length c ∧ ∀ k (h : k < xs.length), w.cell? ⟨b, o + k, none⟩ = some (.string xs[k]) := by
  rcases h with ⟨rfl, _⟩ | ⟨b, o, c, rfl, _, hc⟩
  · cases hp
  · exact ⟨b, o, c, rfl, hc⟩

theorem tab_neg {xs : List ByteArray} {n t x : Nat} (h0 : 0 < xs.length) (hx : x < n) (h : (Lh.tab xs n t).getD x 0 < 0) : (Lh.tab xs n t).getD x 0 = -1 := by
  have hl : x < (Lh.tab xs n t).length := by rw [Lh.tab_length]; exact hx
  rw [getD_at hl] at h ⊢
  rcases Lh.fill_vals h0 t _ (List.getElem_mem hl) with e | ⟨k, _, e⟩
  · exact e
  · rw [e] at h
    unfold Lh.valsN at h
    omega
/-- After T turns. -/
structure St (xs : List ByteArray) (n g : Nat) (rb sb : Nat → Nat) (w5 : World) (T : Nat) (W : World) : Prop where
  os : W.os = w5.os
  tape : W.tape = w5.tape
  output : W.output = w5.output
  size : W.heap.size = w5.heap.size
  block : ∀ k, k ≠ g → (∀ i, i < xs.length → k ≠ rb i) → W.heap[k]? = w5.heap[k]?
  out : IntRow W g (Lh.tab xs n T)
  rows : ∀ i (h : i < xs.length), ∃ p, RowBlk W (rb i) (i : Nat) (sb i) n p ∧ ∀ q, q < p → 0 ≤ (Lh.tab xs n T).getD (Lh.rowN xs[i] n q) 0
theorem St.drewN {xs : List ByteArray} {n g : Nat} {rb sb : Nat → Nat} {w5 : World} {T : Nat} {W : World} (h : St xs n g rb sb w5 T W) (m : Nat) : St xs n g rb sb w5 T (W.drewN m) := ⟨h.os, h.tape, h.output, h.size, h.block, h.out, h.rows⟩
/-- what a turn finds -/
theorem St.find {xs : List ByteArray} {n g : Nat} {rb sb : Nat → Nat} {w5 : World} {T : Nat} {W : World} (h : St xs n g rb sb w5 T W) (hp : Lh.Prm n) (h0 : 0 < xs.length) (hT : T < n) :
    ∃ i, ∃ hi : i < xs.length, ∃ p0 p, Lh.nameAt (Lh.sortT xs) (T % xs.length) = xs[i] ∧ RowBlk W (rb i) (i : Nat) (sb i) n p0 ∧ p < n ∧ p0 ≤ p ∧
      (∀ q, p0 ≤ q → q < p → (Lh.tab xs n T).getD (Lh.rowN xs[i] n q) 0 ≠ -1) ∧ (Lh.tab xs n T).getD (Lh.rowN xs[i] n p) 0 = -1 ∧
      Lh.tab xs n (T + 1) = (Lh.tab xs n T).set (Lh.rowN xs[i] n p) (i : Nat) ∧ ∀ q, q < p → 0 ≤ (Lh.tab xs n (T + 1)).getD (Lh.rowN xs[i] n q) 0 := by
  have hk : T % xs.length < xs.length := Nat.mod_lt _ h0
  have hm := Lh.nameAt_mem hk
  have hi := Lh.ix_lt hm
  have hat := Lh.ix_at hm
  obtain ⟨p0, hr, htk⟩ := h.rows _ hi
  obtain ⟨hpn, hfree, hall⟩ := Lh.pick_spec (Lh.tab_free (xs := xs) hp h0 hT hk)
  have hrow : ∀ q, Lh.rowsN (Lh.sortT xs) n (T % xs.length) q = Lh.rowN xs[Lh.ix xs (Lh.nameAt (Lh.sortT xs) (T % xs.length))] n q := fun q => by rw [hat]; rfl
  have hstep := Lh.tab_step hpn hfree hall
  rw [hrow] at hfree hstep
  have hall' : ∀ q, q < Lh.pick (Lh.tab xs n T) (Lh.rowsN (Lh.sortT xs) n (T % xs.length)) n → 0 ≤ (Lh.tab xs n T).getD (Lh.rowN xs[Lh.ix xs (Lh.nameAt (Lh.sortT xs) (T % xs.length))] n q) 0 := fun q hq => by rw [← hrow]; exact hall q hq
  refine ⟨_, hi, p0, _, hat.symm, hr, hpn, ?_, fun q _ hq => ?_, tab_neg h0 (Lh.rowAt_lt hp.1) hfree, hstep, fun q hq => Lh.tab_keeps hp h0 (hall' q hq)⟩
  · rcases Nat.lt_or_ge (Lh.pick (Lh.tab xs n T) (Lh.rowsN (Lh.sortT xs) n (T % xs.length)) n) p0 with hlt | hge
    · have := htk _ hlt
      omega
    · exact hge
  · have := hall' q hq
    omega
theorem St.step {xs : List ByteArray} {n g B mb : Nat} {rb sb : Nat → Nat} {D : DataW Unit} {w5 : World} {T : Nat} {W W' : World} (h : St xs n g rb sb w5 T W) (hL : Laid xs n B mb xs.length rb sb D w5) (hg : g < B) (hp : Lh.Prm n) (h0 : 0 < xs.length) {i p : Nat} (hi : i < xs.length)
    (htab : Lh.tab xs n (T + 1) = (Lh.tab xs n T).set (Lh.rowN xs[i] n p) (i : Nat)) (htk : ∀ q, q < p → 0 ≤ (Lh.tab xs n (T + 1)).getD (Lh.rowN xs[i] n q) 0)
    (hr : RowBlk W' (rb i) (i : Nat) (sb i) n p) (ho : IntRow W' g ((Lh.tab xs n T).set (Lh.rowN xs[i] n p) (i : Nat))) (h2 : Two (rb i) g W W') : St xs n g rb sb w5 (T + 1) W' := by
  refine ⟨h2.os.trans h.os, h2.tape.trans h.tape, h2.output.trans h.output, h2.size.trans h.size, fun k hk hk' => (h2.block k (hk' i hi) hk).trans (h.block k hk hk'), by rw [htab]; exact ho, fun j hj => ?_⟩
  by_cases e : j = i
  · subst e
    exact ⟨p, hr, htk⟩
  · obtain ⟨q, hq, hqt⟩ := h.rows j hj
    have hlo := hL.rbLo j hj
    have hB := hL.base
    exact ⟨q, hq.same (h2.block _ (fun e' => e (hL.inj j i hj hi e')) (by omega)), fun r hr => Lh.tab_keeps hp h0 (hqt r hr)⟩
theorem St.below {xs : List ByteArray} {n g B : Nat} {rb sb : Nat → Nat} {w w5 : World} {T : Nat} {W : World} (h : St xs n g rb sb w5 T W) (hb : Below B w w5) (hg : B ≤ g) (hr : ∀ i, i < xs.length → B ≤ rb i) : Below B w W :=
  hb.trans ⟨h.os, h.tape, h.output, by rw [h.size]; exact Nat.le_refl _, fun k hk => h.block k (by omega) (fun i hi => by have := hr i hi; omega)⟩
theorem replicate_tab (xs : List ByteArray) (n : Nat) : List.replicate n (-1 : Int) = Lh.tab xs n 0 := rfl

/-- What is wrong with hosts and a size: the error's number, and where. -/
def TabFault (xs : List ByteArray) (n : Int) (c : Nat) (pl : Int) : Prop :=
  (xs = [] ∧ c = 5 ∧ pl = -1) ∨ (0 < xs.length ∧ IsFault xs c pl ∧ c ≠ 0) ∨ (0 < xs.length ∧ IsFault xs 0 (-1) ∧ Lh.SizeIs n c ∧ pl = -1)
theorem tabFault_ex (xs : List ByteArray) (n : Int) : ∃ c pl, TabFault xs n c pl := by
  rcases Nat.eq_zero_or_pos xs.length with h | h
  · exact ⟨5, -1, Or.inl ⟨List.length_eq_zero_iff.1 h, rfl, rfl⟩⟩
  · obtain ⟨c, pl, hf⟩ := isFault_ex xs
    by_cases hc : c = 0
    · subst hc
      obtain ⟨e, he⟩ := Lh.sizeIs_ex n
      exact ⟨e, -1, Or.inr (Or.inr ⟨h, by have := (fault_zero hf).1; rwa [this] at hf, he, rfl⟩)⟩
    · exact ⟨c, pl, Or.inr (Or.inl ⟨h, hf, hc⟩)⟩
/-- nothing is wrong -/
theorem tabFault_zero {xs : List ByteArray} {n : Int} {pl : Int} (h : TabFault xs n 0 pl) : pl = -1 ∧ 0 < xs.length ∧ IsFault xs 0 (-1) ∧ ∃ m : Nat, n = m ∧ Lh.Prm m ∧ 2 ≤ m ∧ m ≤ 503 := by
  rcases h with ⟨_, h, _⟩ | ⟨_, _, h⟩ | ⟨h0, hf, hs, hp⟩
  · cases h
  · exact absurd rfl h
  · rcases hs with ⟨_, h⟩ | ⟨m, hm, h2, h5, ⟨_, h⟩ | ⟨hprm, _⟩⟩
    · cases h
    · cases h
    · exact ⟨hp, h0, hf, m, hm, hprm, h2, h5⟩
end Go.Proofs.YtmkdpchodeckgaaGreatDoor

/- The reference's SomeFault, TableFault, Index, TableOf. -/
namespace Go.Proofs.YtmkdpchodeckgaaGreatDoor
open Go.RowKit

theorem cells_two {W : World} {b : Nat} {x y x0 y0 : Value} (c0 : W.cell? ⟨b, 0, none⟩ = some x0) (c1 : W.cell? ⟨b, 1, none⟩ = some y0) (q : Obj) :
    (((W.setCell ⟨b, 0, none⟩ x).setCell ⟨b, 1, none⟩ y).alloc q).cell? ⟨b, 0, none⟩ = some x ∧ (((W.setCell ⟨b, 0, none⟩ x).setCell ⟨b, 1, none⟩ y).alloc q).cell? ⟨b, 1, none⟩ = some y := by
  have e0 : ((W.setCell ⟨b, 0, none⟩ x).setCell ⟨b, 1, none⟩ y).cell? ⟨b, 0, none⟩ = some x := by simp [go_sem, c0]
  have e1 : ((W.setCell ⟨b, 0, none⟩ x).setCell ⟨b, 1, none⟩ y).cell? ⟨b, 1, none⟩ = some y := by simp [go_sem, c1]
  exact ⟨below_cell ((Below.refl _ _).alloc (Nat.le_refl _) _) e0, below_cell ((Below.refl _ _).alloc (Nat.le_refl _) _) e1⟩
end Go.Proofs.YtmkdpchodeckgaaGreatDoor

/- The reference's TableOf: turn by turn. -/
namespace Go.Proofs.YtmkdpchodeckgaaGreatDoor
open Go.RowKit

def castL (av : List Nat) : List Int := av.map (fun k : Nat => (k : Int))
theorem castL_length (av : List Nat) : (castL av).length = av.length := by simp [castL]
theorem castL_set (av : List Nat) (k q : Nat) : (castL av).set k (q : Nat) = castL (av.set k q) := by simp [castL, List.map_set]
theorem castL_set_at (av : List Nat) (k q : Nat) (h : k < (castL (av.set k q)).length) : (castL (av.set k q))[k] = ((q : Nat) : Int) := by simp [castL]
theorem set_self (av : List Nat) (k : Nat) (h : k < av.length) : av.set k (av.getD k 0) = av := by
  rw [List.getD_eq_getElem?_getD, List.getElem?_eq_getElem h]
  simp
theorem set_set_nat (av : List Nat) (k q q' : Nat) : (av.set k q).set k q' = av.set k q' := by simp
theorem getD_set (av : List Nat) (k j q : Nat) (h : k < av.length) : (av.set k q).getD j 0 = if j = k then q else av.getD j 0 := by
  rw [List.getD_eq_getElem?_getD, List.getD_eq_getElem?_getD, List.getElem?_set]
  by_cases e : j = k
  · subst e; simp [h]
  · simp [e, Ne.symm e]
def nextA (W : World) (ga k : Nat) : Nat := (((W.cell? ⟨ga, k, none⟩).map intOf).getD 0).toNat
theorem nextA_at {W : World} {ga k q : Nat} (h : W.cell? ⟨ga, k, none⟩ = some (.int .i64 (q : Nat))) : nextA W ga k = q := by
  unfold nextA
  rw [h]
  simp [intOf]
/-- what a turn of the reference finds -/
theorem turn_find {xs : List ByteArray} {n T : Nat} (hp : Lh.Prm n) (h0 : 0 < xs.length) (hT : T < n) {p0 : Nat} (htk : ∀ q, q < p0 → 0 ≤ (Lh.tab xs n T).getD (Lh.rowsN (Lh.sortT xs) n (T % xs.length) q) 0) :
    ∃ p, p < n ∧ p0 ≤ p ∧ (∀ q, p0 ≤ q → q < p → 0 ≤ (Lh.tab xs n T).getD (Lh.rowsN (Lh.sortT xs) n (T % xs.length) q) 0) ∧ (Lh.tab xs n T).getD (Lh.rowsN (Lh.sortT xs) n (T % xs.length) p) 0 < 0 ∧
      Lh.tab xs n (T + 1) = (Lh.tab xs n T).set (Lh.rowsN (Lh.sortT xs) n (T % xs.length) p) (Lh.ix xs (Lh.nameAt (Lh.sortT xs) (T % xs.length)) : Nat) ∧ ∀ q, q < p → 0 ≤ (Lh.tab xs n (T + 1)).getD (Lh.rowsN (Lh.sortT xs) n (T % xs.length) q) 0 := by
  have hk : T % xs.length < xs.length := Nat.mod_lt _ h0
  obtain ⟨hpn, hfree, hall⟩ := Lh.pick_spec (Lh.tab_free (xs := xs) hp h0 hT hk)
  refine ⟨_, hpn, ?_, fun q _ hq => hall q hq, hfree, Lh.tab_step hpn hfree hall, fun q hq => Lh.tab_keeps hp h0 (hall q hq)⟩
  rcases Nat.lt_or_ge (Lh.pick (Lh.tab xs n T) (Lh.rowsN (Lh.sortT xs) n (T % xs.length)) n) p0 with hlt | hge
  · have := htk _ hlt
    omega
  · exact hge

end Go.Proofs.YtmkdpchodeckgaaGreatDoor
