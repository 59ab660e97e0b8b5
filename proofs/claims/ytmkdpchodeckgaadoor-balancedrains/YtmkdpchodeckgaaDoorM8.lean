/- The landed health: find, Is and Look. -/
import Derived.Test.YtmkdpchodeckgaaDoorHL0
import Derived.Test.YtmkdpchodeckgaaDoorM6
import Derived.Deep.AppendLies
import Derived.Deep.RegionLaw
namespace Go.Proofs.YtmkdpchodeckgaaDoor
open Go.RowKit Go.Shelf

theorem Tur.setCell {F : Nat → Prop} {w w' : World} (h : Tur F w w') {x : Nat} (k : Nat) (hx : F x ∨ w.heap.size ≤ x) (v : Value) : Tur F w (w'.setCell ⟨x, k, none⟩ v) :=
  ⟨h.os, h.tape, h.output, by simpa [World.setCell] using h.size, fun j hj hf => (heap_setCell_other w' ⟨x, k, none⟩ j v (fun e => by
    rcases hx with h1 | h1
    · exact hf (e ▸ h1)
    · have : j = x := e
      omega)).trans (h.block j hj hf)⟩
section
variable {W W' : World} {p f r : Nat} {l : List Lh.Hh} {bs : List Nat} {lv : Value}
theorem HR.at (h : HR W p f r l bs lv) {k : Nat} (hk : k < l.length) : ∃ b, bs[k]? = some b := ⟨bs[k]'(by rw [h.len]; exact hk), by simp [h.len, hk]⟩
theorem HR.stAt (h : HR W p f r l bs lv) {k b : Nat} (hb : bs[k]? = some b) (hk : k < l.length) : HSt W b l[k] := by
  obtain ⟨h2, rfl⟩ := List.getElem?_eq_some_iff.1 hb
  exact h.st k hk h2
theorem HR.turned (h : HR W p f r l bs lv) {k b : Nat} (hb : bs[k]? = some b) (_hk : k < l.length) (hT : Tur (fun j => j = b) W W') {x : Lh.Hh} (hx : HSt W' b x) : HR W' p f r (l.set k x) bs lv ∧ Tur (HFoot p bs lv) W W' := by
  obtain ⟨h2, e⟩ := List.getElem?_eq_some_iff.1 hb
  have hmem : b ∈ bs := e ▸ List.getElem_mem h2
  have hp := hT.block p h.plt (fun e1 => by have := h.gt b hmem; omega)
  refine ⟨⟨?_, ?_, ?_, fun j => ?_, ?_, by simpa using h.len, fun i h3 h4 => ?_, h.nd, h.gt, h.apart⟩, ⟨hT.os, hT.tape, hT.output, hT.size, fun j hj hf => hT.block j hj fun e1 => hf (Or.inr (Or.inr (e1 ▸ hmem)))⟩⟩
  · rw [World.cell?_of_block (w := W) (w' := W') (a := ⟨p, 0, none⟩) hp]; exact h.c0
  · rw [World.cell?_of_block (w := W) (w' := W') (a := ⟨p, 1, none⟩) hp]; exact h.c1
  · rw [World.cell?_of_block (w := W) (w' := W') (a := ⟨p, 2, none⟩) hp]; exact h.c2
  · rw [World.frozen?_of_block (w := W) (w' := W') (a := ⟨p, j, none⟩) hp]; exact h.fz j
  · rw [List.length_set]
    exact owns_same h.own fun g eg => hT.block g (h.own.lt g eg).2 (fun e1 => h.apart b hmem (by rw [eg, e1]))
  · by_cases eik : k = i
    · subst eik
      rw [List.getElem_set_self]
      rw [e]
      exact hx
    · rw [List.getElem_set_ne eik]
      have h5 : i < l.length := by simpa using h3
      refine (h.st i h5 h4).same (hT.block _ (h.st i h5 h4).lt fun e1 => eik ?_)
      have e2 : bs[k] = bs[i] := by rw [e, e1]
      exact (List.getElem_inj h.nd).1 e2

set_option maxHeartbeats 1000000 in
theorem findS_good (h : HR W p f r l bs lv) (hl : l.length ≤ 12) (s : ByteArray) (hx : Lh.hix l s < l.length) {b : Nat} (hb : bs[Lh.hix l s]? = some b) :
    Calls Tryd.prog 28 #[.pointer (some ⟨p, 0, none⟩), .string s] W fun e w' => e = .returned (.pointer (some ⟨b, 0, none⟩)) ∧ Below W.heap.size W w' := by
  have hb1 : Below W.heap.size W (W.alloc (.cells #[.string s] 9)) := (Below.refl _ _).alloc (Nat.le_refl _) _
  have h' := h.later hb1
  obtain ⟨g, cap, rfl, hcap, hcm, _, hrow, _⟩ := h'.row (by omega)
  have c2 := h'.c2
  have hxx := indexS_core W.heap.size (some ⟨g, 0, none⟩) cap l bs s _ h.len hl (fun k h1 h2 => ⟨g, rfl, hrow k h2, (h'.st k h1 h2).c0⟩) (by simp)
  have e1 : fi l s = (Lh.hix l s : Nat) := by unfold fi; rw [if_pos hx]
  rw [e1] at hxx
  obtain ⟨h2, e⟩ := List.getElem?_eq_some_iff.1 hb
  have cb := hrow _ h2
  rw [e] at cb
  have hki : ((Lh.hix l s : Nat) : Int) < (l.length : Int) := by omega
  unfold maxLen at hcm
  unfold ptrS at cb hxx
  clear h h' hrow e hb h2 e1 hx
  generalize Lh.hix l s = k at *
  have d0 : decide ((k : Int) < 0) = false := by simp
  go_enter Tryd.func28, Tryd.ntmps28
  go_wp2_with fail
  refine hxx.mono ?_
  rintro e w' ⟨rfl, hb2⟩
  have hb3 := below_then hb1 hb2
  have c2' := below_cell hb2 c2
  have cb' := below_cell hb2 cb
  clear hxx hb1 hb2 c2 cb
  go_wp2
  go_ret
  exact ⟨rfl, hb3⟩

set_option maxHeartbeats 1000000 in
theorem findS_none (h : HR W p f r l bs lv) (hl : l.length ≤ 12) (s : ByteArray) (hx : ¬ Lh.hix l s < l.length) :
    Calls Tryd.prog 28 #[.pointer (some ⟨p, 0, none⟩), .string s] W fun e w' => e = .returned (.pointer none) ∧ Below W.heap.size W w' := by
  have hb1 : Below W.heap.size W (W.alloc (.cells #[.string s] 9)) := (Below.refl _ _).alloc (Nat.le_refl _) _
  have h' := h.later hb1
  obtain ⟨q, cap, rfl⟩ := h'.shape
  have c2 := h'.c2
  have hxx := indexS_core W.heap.size q cap l bs s _ h.len hl (fun k h1 h2 => by
    obtain ⟨g, cap', e, _, _, _, hrow, _⟩ := h'.row (by omega)
    cases e
    exact ⟨g, rfl, hrow k h2, (h'.st k h1 h2).c0⟩) (by simp)
  have e1 : fi l s = -1 := by unfold fi; rw [if_neg hx]
  rw [e1] at hxx
  unfold ptrS at hxx
  clear h h' e1 hx
  go_enter Tryd.func28, Tryd.ntmps28
  go_wp2_with fail
  refine hxx.mono ?_
  rintro e w' ⟨rfl, hb2⟩
  have hb3 := below_then hb1 hb2
  clear hxx hb1 hb2 c2
  go_wp2
  go_ret
  exact ⟨rfl, hb3⟩

set_option maxHeartbeats 1000000 in
/-- Is. -/
theorem isS_any (h : HR W p f r l bs lv) (hk : Lh.HOk f r l) (s : ByteArray) :
    Calls Tryd.prog 15 #[.pointer (some ⟨p, 0, none⟩), .string s] W fun e w' => e = .returned (.bool (Lh.hup l s)) ∧ Below W.heap.size W w' := by
  by_cases hx : Lh.hix l s < l.length
  · have HU : Hid (Lh.hup l s = (l[Lh.hix l s]).2.1) := hup_at hk.nodup hx
    obtain ⟨b, hb⟩ := h.at hx
    have hfd := findS_good h hk.len s hx hb
    have c1 := (h.stAt hb hx).c1
    clear h hb hk
    generalize (l[Lh.hix l s]).2.1 = u at *
    rw [HU.out]
    clear HU hx
    go_enter Tryd.func15, Tryd.ntmps15
    go_wp2_with fail
    refine hfd.mono ?_
    rintro e w1 ⟨rfl, hb1⟩
    have c1' := below_cell hb1 c1
    clear hfd c1
    go_wp2
    go_ret
    exact ⟨rfl, hb1⟩
  · have hfd := findS_none h hk.len s hx
    rw [hup_none hx]
    clear h hk hx
    go_enter Tryd.func15, Tryd.ntmps15
    go_wp2_with fail
    refine hfd.mono ?_
    rintro e w1 ⟨rfl, hb1⟩
    clear hfd
    go_wp2
    go_ret
    exact ⟨rfl, hb1⟩

end
end Go.Proofs.YtmkdpchodeckgaaDoor

/- The landed health: Look. -/
namespace Go.Proofs.YtmkdpchodeckgaaDoor
open Go.RowKit Go.Shelf

section
variable {W : World} {p f r : Nat} {l : List Lh.Hh} {bs : List Nat} {lv : Value}

theorem blk_set {w : World} {b : Nat} (h : ∃ cs t, w.heap[b]? = some (.cells cs t (0, 0))) (k : Nat) (v : Value) : ∃ cs t, (w.setCell ⟨b, k, none⟩ v).heap[b]? = some (.cells cs t (0, 0)) := by
  obtain ⟨cs, t, h⟩ := h
  exact ⟨_, _, heap_setCell_same w b k _ _ v h⟩
theorem HSt.set2 {w : World} {b : Nat} {x1 : ByteArray} {u : Bool} {c : Nat} (h : HSt w b (x1, u, c)) (d : Nat) : HSt (w.setCell ⟨b, 2, none⟩ (.int .i64 (d : Nat))) b (x1, u, d) := by
  have c0 := h.c0
  have c1 := h.c1
  have c2 := h.c2
  refine ⟨?_, ?_, ?_, fun k => ?_, blk_set h.blk _ _⟩
  · simp [go_sem, c0]
  · simp [go_sem, c1]
  · simp [go_sem, c2]
  · have := h.fz k
    simp [go_sem, this]
theorem HSt.set1 {w : World} {b : Nat} {x1 : ByteArray} {u : Bool} {c : Nat} (h : HSt w b (x1, u, c)) (v : Bool) : HSt (w.setCell ⟨b, 1, none⟩ (.bool v)) b (x1, v, c) := by
  have c0 := h.c0
  have c1 := h.c1
  have c2 := h.c2
  refine ⟨?_, ?_, ?_, fun k => ?_, blk_set h.blk _ _⟩
  · simp [go_sem, c0]
  · simp [go_sem, c1]
  · simp [go_sem, c2]
  · have := h.fz k
    simp [go_sem, this]
theorem Tur.then {F : Nat → Prop} {w w1 w2 : World} (h : Tur F w w1) (hb : Below w1.heap.size w1 w2) : Tur F w w2 :=
  ⟨hb.os.trans h.os, hb.tape.trans h.tape, hb.output.trans h.output, Nat.le_trans h.size hb.size, fun j hj hf => (hb.block j (Nat.lt_of_lt_of_le hj h.size)).trans (h.block j hj hf)⟩

end
end Go.Proofs.YtmkdpchodeckgaaDoor

/- The model of health: NewHealth. -/
namespace Go.Proofs.YtmkdpchodeckgaaDoor
open Go.RowKit

theorem hfar_cell {wr W w1 : World} {o : Obj} {row : Option Nat} {x k : Nat} {val : Value} (hW : W.heap = wr.heap.push o) (hg : W.grownBy w1 row) (hne : some x ≠ row) (h : wr.cell? ⟨x, k, none⟩ = some val) : w1.cell? ⟨x, k, none⟩ = some val := by
  have hx : x < wr.heap.size := World.block_lt_of_cell? wr ⟨x, k, none⟩ h
  have hx2 : x < W.heap.size := by rw [hW]; simp; omega
  have e : w1.heap[x]? = wr.heap[x]? := by
    rw [hg.block x hx2 hne, hW, Array.getElem?_push_lt hx, Array.getElem?_eq_getElem hx]
  rw [World.cell?_of_block (w := wr) (w' := w1) (a := ⟨x, k, none⟩) e]
  exact h
theorem hfar_frozen {wr W w1 : World} {o : Obj} {row : Option Nat} {x k : Nat} (hW : W.heap = wr.heap.push o) (hg : W.grownBy w1 row) (hne : some x ≠ row) (hx : x < wr.heap.size) (h : wr.frozen? ⟨x, k, none⟩ = false) : w1.frozen? ⟨x, k, none⟩ = false := by
  have hx2 : x < W.heap.size := by rw [hW]; simp; omega
  have e : w1.heap[x]? = wr.heap[x]? := by
    rw [hg.block x hx2 hne, hW, Array.getElem?_push_lt hx, Array.getElem?_eq_getElem hx]
  rw [World.frozen?_of_block (w := wr) (w' := w1) (a := ⟨x, k, none⟩) e]
  exact h
theorem howns_setCell {w : World} {base : Nat} {e : TypeId} {size : Nat} {v : Value} {n : Nat} {xs : List Value} (h : w.ownsRow base e size v n xs) {x k : Nat} (hx : x < base) (u : Value) : (w.setCell ⟨x, k, none⟩ u).ownsRow base e size v n xs := by
  refine h.kept (row := some x) ⟨rfl, rfl, rfl, by simp [World.setCell], fun j _ hne => heap_setCell_other w ⟨x, k, none⟩ j u (fun e => hne (by rw [e]))⟩ ?_
  cases hv : v.ownBlock with
  | none => exact Or.inl rfl
  | some g =>
    have := (h.lt g hv).1
    exact Or.inr (fun e => by cases e; omega)
theorem howns_heap {w W : World} {base : Nat} {e : TypeId} {size : Nat} {v : Value} {n : Nat} {xs : List Value} {o : Obj} (h : w.ownsRow base e size v n xs) (hW : W.heap = w.heap.push o) : W.ownsRow base e size v n xs :=
  owns_same h fun g hv => by
    have hg := (h.lt g hv).2
    rw [hW, Array.getElem?_push_lt hg, ← Array.getElem?_eq_getElem hg]
theorem cellsH_heap {wr W : World} {t : TypeId} (x : Mh) (hW : W.heap = wr.heap.push (.cells #[.string x.name, .bool x.up, x.val] t (0, 0))) : ∀ j u, (encH x)[j]? = some u → W.cell? ((⟨wr.heap.size, 0, none⟩ : Addr).add j) = some u := by
  intro j u hu
  have e : W.heap[wr.heap.size]? = some (.cells #[.string x.name, .bool x.up, x.val] t (0, 0)) := by rw [hW]; simp
  match j, hu with
  | 0, hu => simp [encH] at hu; subst hu; simp [Addr.add, World.cell?, e]
  | 1, hu => simp [encH] at hu; subst hu; simp [Addr.add, World.cell?, e]
  | 2, hu => simp [encH] at hu; subst hu; simp [Addr.add, World.cell?, e]
  | j + 3, hu => simp [encH] at hu
theorem encH_one (x : Mh) (hx : x.val.oneCell' = true) : ∀ v ∈ encH x, v.oneCell' = true := by
  intro v hv
  simp [encH] at hv
  rcases hv with rfl | rfl | rfl
  · rfl
  · rfl
  · exact hx
/-- the model's hosts, when it is new -/
def newM (xs : List ByteArray) : List Mh := xs.map fun s => ⟨s, true, [], .slice none 0 0⟩
theorem newM_snoc (xs : List ByteArray) {k : Nat} (h : k < xs.length) : newM (xs.take (k + 1)) = newM (xs.take k) ++ [⟨xs[k], true, [], .slice none 0 0⟩] := by
  unfold newM
  rw [List.take_succ_eq_append_getElem h, List.map_append]
  rfl
theorem newM_hst (xs : List ByteArray) : hst (newM xs) = Lh.hnew xs := by
  unfold hst newM Lh.hnew
  rw [List.map_map]
  rfl
end Go.Proofs.YtmkdpchodeckgaaDoor
