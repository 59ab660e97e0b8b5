/- The landed health: a host more. -/
import Derived.Test.YtkpjecpaejdgaabDoorHLM
import Derived.Test.YtkpjecpaejdgaabDoorHRef2
namespace Go.Proofs.YtkpjecpaejdgaabDoor
open Go.RowKit Go.Shelf

theorem infoP : (Tryd.prog.info? 111).map (fun i => (i.zero, i.size, i.bytes)) = some (some (.pointer none), 1, 8) := by kernel_rfl
section
variable {W W2 w1 : World} {p f r : Nat} {l : List Lh.Hh} {bs : List Nat} {lv : Value}
theorem HR.added (h : HR W p f r l bs lv) (x : Lh.Hh) {b : Nat} (hb : b = W.heap.size) (hB : Below W.heap.size W W2) (hst : HSt W2 b x) {g cap : Nat} (hown : w1.ownsRow (p + 1) 111 1 (.slice (some ⟨g, 0, none⟩) (l.length + 1) cap) (l.length + 1) ((bs ++ [b]).map ptrS)) (hgr : W2.grownBy w1 lv.ownBlock) (hat : lv.ownBlock = some g ∨ g = W2.heap.size) :
    HR (w1.setCell ⟨p, 2, none⟩ (.slice (some ⟨g, 0, none⟩) (l.length + 1) cap)) p f r (l ++ [x]) (bs ++ [b]) (.slice (some ⟨g, 0, none⟩) (l.length + 1) cap) ∧ Tur (HFoot p bs lv) W (w1.setCell ⟨p, 2, none⟩ (.slice (some ⟨g, 0, none⟩) (l.length + 1) cap)) ∧ ∀ j, HFoot p (bs ++ [b]) (.slice (some ⟨g, 0, none⟩) (l.length + 1) cap) j → HFoot p bs lv j ∨ W.heap.size ≤ j := by
  have hp := h.plt
  have hs2 := hB.size
  have hbl := hst.lt
  have hne : ∀ k, k ≤ p → some k ≠ lv.ownBlock := fun k hk e => by
    have := (h.own.lt k e.symm).1
    omega
  have hneb : some b ≠ lv.ownBlock := fun e => by
    have := (h.own.lt b e.symm).2
    omega
  have hsame : ∀ k, k < W2.heap.size → k ≠ p → some k ≠ lv.ownBlock → (w1.setCell ⟨p, 2, none⟩ (.slice (some ⟨g, 0, none⟩) (l.length + 1) cap)).heap[k]? = W2.heap[k]? := fun k hk hkm hkr => by
    rw [heap_setCell_other w1 ⟨p, 2, none⟩ k _ (fun e => hkm e), hgr.block k hk hkr]
  have hpb : w1.heap[p]? = W.heap[p]? := (hgr.block p (by omega) (hne p (Nat.le_refl _))).trans (hB.block p hp)
  refine ⟨⟨?_, ?_, ?_, fun k => ?_, ?_, ?_, fun i h1 h2 => ?_, ?_, fun y hy => ?_, fun y hy => ?_⟩, ⟨?_, ?_, ?_, ?_, fun k hk hf => ?_⟩, fun j hj => ?_⟩
  · have : w1.cell? ⟨p, 0, none⟩ = _ := (World.cell?_of_block (w := W) (w' := w1) (a := ⟨p, 0, none⟩) hpb).trans h.c0
    simp [go_sem, this]
  · have : w1.cell? ⟨p, 1, none⟩ = _ := (World.cell?_of_block (w := W) (w' := w1) (a := ⟨p, 1, none⟩) hpb).trans h.c1
    simp [go_sem, this]
  · have : w1.cell? ⟨p, 2, none⟩ = _ := (World.cell?_of_block (w := W) (w' := w1) (a := ⟨p, 2, none⟩) hpb).trans h.c2
    simp [go_sem, this]
  · have : w1.frozen? ⟨p, k, none⟩ = _ := (World.frozen?_of_block (w := W) (w' := w1) (a := ⟨p, k, none⟩) hpb).trans (h.fz k)
    simp [go_sem, this]
  · have h1 := howns_setCell (k := 2) hown (Nat.lt_succ_self p) (.slice (some ⟨g, 0, none⟩) (l.length + 1) cap)
    rw [List.length_append]
    exact h1
  · simp [h.len]
  · by_cases hi : i < l.length
    · have hi2 : i < bs.length := by rw [h.len]; exact hi
      rw [List.getElem_append_left hi, List.getElem_append_left hi2]
      have hs := h.st i hi hi2
      have hm := List.getElem_mem hi2
      have hl := hs.lt
      have hg := h.gt _ hm
      exact hs.same ((hsame _ (by omega) (by omega) (fun e => h.apart _ hm e.symm)).trans (hB.block _ hl))
    · have e : i = l.length := by simp at h1; omega
      subst e
      have e2 : (bs ++ [b])[l.length]'h2 = b := by simp [← h.len]
      have e3 : (l ++ [x])[l.length]'h1 = x := by simp
      rw [e2, e3]
      exact hst.same (hsame b hbl (by omega) hneb)
  · rw [List.nodup_append]
    refine ⟨h.nd, by simp, fun y hy z hz e => ?_⟩
    simp at hz
    have := h.blt hy
    omega
  · rcases List.mem_append.1 hy with hy | hy
    · exact h.gt y hy
    · simp at hy
      omega
  · show some g ≠ some y
    intro e
    cases e
    rcases List.mem_append.1 hy with hy | hy
    · rcases hat with e | e
      · exact h.apart g hy e
      · have := h.blt hy
        omega
    · simp at hy
      rcases hat with e | e
      · exact hneb (by rw [e, hy])
      · omega
  · exact hgr.os.trans hB.os
  · exact hgr.tape.trans hB.tape
  · exact hgr.output.trans hB.output
  · have := hgr.size
    simp [World.setCell]
    omega
  · exact (hsame k (by omega) (fun e => hf (Or.inl e)) (fun e => hf (Or.inr (Or.inl e.symm)))).trans (hB.block k hk)
  · rcases hj with rfl | e | hy
    · exact Or.inl (Or.inl rfl)
    · have e' : g = j := Option.some.inj e
      subst e'
      rcases hat with e2 | e2
      · exact Or.inl (Or.inr (Or.inl e2))
      · exact Or.inr (by omega)
    · rcases List.mem_append.1 hy with hy | hy
      · exact Or.inl (Or.inr (Or.inr hy))
      · simp at hy
        exact Or.inr (by omega)
theorem HR.grown (h : HR W p f r l bs lv) (hB : Below W.heap.size W W2) (hgr : W2.grownBy w1 lv.ownBlock) : w1.cell? ⟨p, 2, none⟩ = some lv ∧ w1.frozen? ⟨p, 2, none⟩ = false := by
  have hp := h.plt
  have hs2 := hB.size
  have hpb : w1.heap[p]? = W.heap[p]? := (hgr.block p (by omega) (fun e => by have := (h.own.lt p e.symm).1; omega)).trans (hB.block p hp)
  exact ⟨(World.cell?_of_block (w := W) (w' := w1) (a := ⟨p, 2, none⟩) hpb).trans h.c2, (World.frozen?_of_block (w := W) (w' := w1) (a := ⟨p, 2, none⟩) hpb).trans (h.fz 2)⟩
end
theorem cellsP {W : World} {q b : Nat} (h : W.cell? ⟨q, 0, none⟩ = some (ptrS b)) : ∀ j u, [ptrS b][j]? = some u → W.cell? ((⟨q, 0, none⟩ : Addr).add j) = some u := by
  intro j u hu
  match j, hu with
  | 0, hu => simp at hu; subst hu; simpa [Addr.add] using h
  | j + 1, hu => simp at hu
theorem wpList_append_s {ops : Array Oper} {rest : List Oper} {o : Oper} {a : Act} {Q : Exit → Act → World → Prop} {W : World} (p q b : Nat) (hgd : o.guard = none) (so xo : Operand)
    (ho : o.op = .call { callee := .builtin .append, args := #[so, xo], argTypes := #[108, 108] })
    (v : Value) (bs : List Nat) (n : Nat) (hs : a.eval so = v) (hx : a.eval xo = .slice (some ⟨q, 0, none⟩) 1 1) (hown : W.ownsRow (p + 1) 111 1 v n (bs.map ptrS)) (hl : n ≤ 208) (hp : p < W.heap.size) (hq : W.cell? ⟨q, 0, none⟩ = some (ptrS b))
    (h : ∀ g cap w', w'.ownsRow (p + 1) 111 1 (.slice (some ⟨g, 0, none⟩) (n + 1) cap) (n + 1) ((bs ++ [b]).map ptrS) → W.grownBy w' v.ownBlock → (v.ownBlock = some g ∨ g = W.heap.size) → wpList Tryd.prog ops Q rest (a.put o.dst (.slice (some ⟨g, 0, none⟩) (n + 1) cap)) w') :
    wpList Tryd.prog ops Q (o :: rest) a W := by
  obtain ⟨i, hi, hz0, hz1, hz2⟩ := info_parts infoP
  refine wpList_append_lies W hgd so xo 108 ho (p + 1) 111 i _ 1 8 Tryd.underlying108 hi hz0 hz1 hz2 rfl (by decide) v n (bs.map ptrS) hs hown ⟨q, 0, none⟩ 1 1 [ptrS b] hx rfl (cellsP hq) (fun u hu => by simp at hu; subst hu; rfl) (by decide) (by unfold maxLen; omega) (by omega) (by omega) W.heap.size rfl ?_
  intro g cp w1 hown1 hgr hat _
  have e : bs.map ptrS ++ [ptrS b] = (bs ++ [b]).map ptrS := by simp
  rw [e] at hown1
  exact h g cp w1 hown1 hgr hat
/-- the two blocks that a host more lays: its state, and the one of append's argument -/
theorem laid2 (W : World) (s : ByteArray) (u : Bool) : Below W.heap.size W ((W.alloc (.cells #[.string s, .bool u, .int .i64 0] 113)).alloc (.cells #[.pointer (some ⟨W.heap.size, 0, none⟩)] 111)) ∧ HSt ((W.alloc (.cells #[.string s, .bool u, .int .i64 0] 113)).alloc (.cells #[.pointer (some ⟨W.heap.size, 0, none⟩)] 111)) W.heap.size (s, u, 0) ∧ ((W.alloc (.cells #[.string s, .bool u, .int .i64 0] 113)).alloc (.cells #[.pointer (some ⟨W.heap.size, 0, none⟩)] 111)).cell? ⟨W.heap.size + 1, 0, none⟩ = some (ptrS W.heap.size) := by
  have h1 : Below W.heap.size W (W.alloc (.cells #[.string s, .bool u, .int .i64 0] 113)) := (Below.refl _ _).alloc (Nat.le_refl _) _
  have hst : HSt (W.alloc (.cells #[.string s, .bool u, .int .i64 0] 113)) W.heap.size (s, u, 0) := ⟨by simp, by simp, by simp, fun k => by simp, _, _, show (W.heap.push (.cells #[.string s, .bool u, .int .i64 0] 113 (0, 0)))[W.heap.size]? = _ from Array.getElem?_push_size⟩
  have h2 : Below (W.alloc (.cells #[.string s, .bool u, .int .i64 0] 113)).heap.size (W.alloc (.cells #[.string s, .bool u, .int .i64 0] 113)) ((W.alloc (.cells #[.string s, .bool u, .int .i64 0] 113)).alloc (.cells #[.pointer (some ⟨W.heap.size, 0, none⟩)] 111)) := (Below.refl _ _).alloc (Nat.le_refl _) _
  exact ⟨below_then h1 h2, hst.same (h2.block _ hst.lt), by rw [World.cell?_alloc_at _ _ _ _ (by simp)]; rfl⟩
end Go.Proofs.YtkpjecpaejdgaabDoor
