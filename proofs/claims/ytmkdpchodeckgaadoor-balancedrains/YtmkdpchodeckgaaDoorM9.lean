/- The landed health: a host more. -/
import Derived.Test.YtmkdpchodeckgaaDoorM8
namespace Go.Proofs.YtmkdpchodeckgaaDoor
open Go.RowKit Go.Shelf

theorem infoP : (Tryd.prog.info? 61).map (fun i => (i.zero, i.size, i.bytes)) = some (some (.pointer none), 1, 8) := by kernel_rfl
section
variable {W W2 w1 : World} {p f r : Nat} {l : List Lh.Hh} {bs : List Nat} {lv : Value}
theorem HR.added (h : HR W p f r l bs lv) (x : Lh.Hh) {b : Nat} (hb : b = W.heap.size) (hB : Below W.heap.size W W2) (hst : HSt W2 b x) {g cap : Nat} (hown : w1.ownsRow (p + 1) 61 1 (.slice (some ⟨g, 0, none⟩) (l.length + 1) cap) (l.length + 1) ((bs ++ [b]).map ptrS)) (hgr : W2.grownBy w1 lv.ownBlock) (hat : lv.ownBlock = some g ∨ g = W2.heap.size) :
    HR (w1.setCell ⟨p, 2, none⟩ (.slice (some ⟨g, 0, none⟩) (l.length + 1) cap)) p f r (l ++ [x]) (bs ++ [b]) (.slice (some ⟨g, 0, none⟩) (l.length + 1) cap) ∧ Tur (HFoot p bs lv) W (w1.setCell ⟨p, 2, none⟩ (.slice (some ⟨g, 0, none⟩) (l.length + 1) cap)) ∧ ∀ j, HFoot p (bs ++ [b]) (.slice (some ⟨g, 0, none⟩) (l.length + 1) cap) j → HFoot p bs lv j ∨ W.heap.size ≤ j := by
  have hp := h.plt
  have hs2 := hB.size
  have hbl := hst.lt
  have hne : ∀ k, k ≤ p → some k ≠ lv.ownBlock := fun k hk e => by
    have := (h.own.lt k e.symm).1
    omega
  have hneb : some b ≠ lv.ownBlock := fun e => by
    have := (h.own.lt b e.symm).2
    omega
  have hsame : ∀ k, k < W2.heap.size → k ≠ p → some k ≠ lv.ownBlock → (w1.setCell ⟨p, 2, none⟩ (.slice (some ⟨g, 0, none⟩) (l.length + 1) cap)).heap[k]? = W2.heap[k]? := fun k hk hkm hkr => by
    rw [heap_setCell_other w1 ⟨p, 2, none⟩ k _ (fun e => hkm e), hgr.block k hk hkr]
  have hpb : w1.heap[p]? = W.heap[p]? := (hgr.block p (by omega) (hne p (Nat.le_refl _))).trans (hB.block p hp)
  refine ⟨⟨?_, ?_, ?_, fun k => ?_, ?_, ?_, fun i h1 h2 => ?_, ?_, fun y hy => ?_, fun y hy => ?_⟩, ⟨?_, ?_, ?_, ?_, fun k hk hf => ?_⟩, fun j hj => ?_⟩
  · have : w1.cell? ⟨p, 0, none⟩ = _ := (World.cell?_of_block (w := W) (w' := w1) (a := ⟨p, 0, none⟩) hpb).trans h.c0
    simp [go_sem, this]
  · have : w1.cell? ⟨p, 1, none⟩ = _ := (World.cell?_of_block (w := W) (w' := w1) (a := ⟨p, 1, none⟩) hpb).trans h.c1
    simp [go_sem, this]
  · have : w1.cell? ⟨p, 2, none⟩ = _ := (World.cell?_of_block (w := W) (w' := w1) (a := ⟨p, 2, none⟩) hpb).trans h.c2
    simp [go_sem, this]
  · have : w1.frozen? ⟨p, k, none⟩ = _ := (World.frozen?_of_block (w := W) (w' := w1) (a := ⟨p, k, none⟩) hpb).trans (h.fz k)
    simp [go_sem, this]
  · have h1 := howns_setCell (k := 2) hown (Nat.lt_succ_self p) (.slice (some ⟨g, 0, none⟩) (l.length + 1) cap)
    rw [List.length_append]
    exact h1
  · simp [h.len]
  · by_cases hi : i < l.length
    · have hi2 : i < bs.length := by rw [h.len]; exact hi
      rw [List.getElem_append_left hi, List.getElem_append_left hi2]
      have hs := h.st i hi hi2
      have hm := List.getElem_mem hi2
      have hl := hs.lt
      have hg := h.gt _ hm
      exact hs.same ((hsame _ (by omega) (by omega) (fun e => h.apart _ hm e.symm)).trans (hB.block _ hl))
    · have e : i = l.length := by simp at h1; omega
      subst e
      have e2 : (bs ++ [b])[l.length]'h2 = b := by simp [← h.len]
      have e3 : (l ++ [x])[l.length]'h1 = x := by simp
      rw [e2, e3]
      exact hst.same (hsame b hbl (by omega) hneb)
  · rw [List.nodup_append]
    refine ⟨h.nd, by simp, fun y hy z hz e => ?_⟩
    simp at hz
    have := h.blt hy
    omega
  · rcases List.mem_append.1 hy with hy | hy
    · exact h.gt y hy
    · simp at hy
      omega
  · show some g ≠ some y
    intro e
    cases e
    rcases List.mem_append.1 hy with hy | hy
    · rcases hat with e | e
      · exact h.apart g hy e
      · have := h.blt hy
        omega
    · simp at hy
      rcases hat with e | e
      · exact hneb (by rw [e, hy])
      · omega
  · exact hgr.os.trans hB.os
  · exact hgr.tape.trans hB.tape
  · exact hgr.output.trans hB.output
  · have := hgr.size
    simp [World.setCell]
    omega
  · exact (hsame k (by omega) (fun e => hf (Or.inl e)) (fun e => hf (Or.inr (Or.inl e.symm)))).trans (hB.block k hk)
  · rcases hj with rfl | e | hy
    · exact Or.inl (Or.inl rfl)
    · have e' : g = j := Option.some.inj e
      subst e'
      rcases hat with e2 | e2
      · exact Or.inl (Or.inr (Or.inl e2))
      · exact Or.inr (by omega)
    · rcases List.mem_append.1 hy with hy | hy
      · exact Or.inl (Or.inr (Or.inr hy))
      · simp at hy
        exact Or.inr (by omega)
theorem HR.grown (h : HR W p f r l bs lv) (hB : Below W.heap.size W W2) (hgr : W2.grownBy w1 lv.ownBlock) : w1.cell? ⟨p, 2, none⟩ = some lv ∧ w1.frozen? ⟨p, 2, none⟩ = false := by
  have hp := h.plt
  have hs2 := hB.size
  have hpb : w1.heap[p]? = W.heap[p]? := (hgr.block p (by omega) (fun e => by have := (h.own.lt p e.symm).1; omega)).trans (hB.block p hp)
  exact ⟨(World.cell?_of_block (w := W) (w' := w1) (a := ⟨p, 2, none⟩) hpb).trans h.c2, (World.frozen?_of_block (w := W) (w' := w1) (a := ⟨p, 2, none⟩) hpb).trans (h.fz 2)⟩
end
theorem cellsP {W : World} {q b : Nat} (h : W.cell? ⟨q, 0, none⟩ = some (ptrS b)) : ∀ j u, [ptrS b][j]? = some u → W.cell? ((⟨q, 0, none⟩ : Addr).add j) = some u := by
  intro j u hu
  match j, hu with
  | 0, hu => simp at hu; subst hu; simpa [Addr.add] using h
  | j + 1, hu => simp at hu
theorem wpList_append_s {ops : Array Oper} {rest : List Oper} {o : Oper} {a : Act} {Q : Exit → Act → World → Prop} {W : World} (p q b : Nat) (hgd : o.guard = none) (so xo : Operand)
    (ho : o.op = .call { callee := .builtin .append, args := #[so, xo], argTypes := #[58, 58] })
    (v : Value) (bs : List Nat) (n : Nat) (hs : a.eval so = v) (hx : a.eval xo = .slice (some ⟨q, 0, none⟩) 1 1) (hown : W.ownsRow (p + 1) 61 1 v n (bs.map ptrS)) (hl : n ≤ 208) (hp : p < W.heap.size) (hq : W.cell? ⟨q, 0, none⟩ = some (ptrS b))
    (h : ∀ g cap w', w'.ownsRow (p + 1) 61 1 (.slice (some ⟨g, 0, none⟩) (n + 1) cap) (n + 1) ((bs ++ [b]).map ptrS) → W.grownBy w' v.ownBlock → (v.ownBlock = some g ∨ g = W.heap.size) → wpList Tryd.prog ops Q rest (a.put o.dst (.slice (some ⟨g, 0, none⟩) (n + 1) cap)) w') :
    wpList Tryd.prog ops Q (o :: rest) a W := by
  obtain ⟨i, hi, hz0, hz1, hz2⟩ := info_parts infoP
  refine wpList_append_lies W hgd so xo 58 ho (p + 1) 61 i _ 1 8 Tryd.underlying58 hi hz0 hz1 hz2 rfl (by decide) v n (bs.map ptrS) hs hown ⟨q, 0, none⟩ 1 1 [ptrS b] hx rfl (cellsP hq) (fun u hu => by simp at hu; subst hu; rfl) (by decide) (by unfold maxLen; omega) (by omega) (by omega) W.heap.size rfl ?_
  intro g cp w1 hown1 hgr hat _
  have e : bs.map ptrS ++ [ptrS b] = (bs ++ [b]).map ptrS := by simp
  rw [e] at hown1
  exact h g cp w1 hown1 hgr hat
/-- the two blocks that a host more lays: its state, and the one of append's argument -/
theorem laid2 (W : World) (s : ByteArray) (u : Bool) : Below W.heap.size W ((W.alloc (.cells #[.string s, .bool u, .int .i64 0] 63)).alloc (.cells #[.pointer (some ⟨W.heap.size, 0, none⟩)] 61)) ∧ HSt ((W.alloc (.cells #[.string s, .bool u, .int .i64 0] 63)).alloc (.cells #[.pointer (some ⟨W.heap.size, 0, none⟩)] 61)) W.heap.size (s, u, 0) ∧ ((W.alloc (.cells #[.string s, .bool u, .int .i64 0] 63)).alloc (.cells #[.pointer (some ⟨W.heap.size, 0, none⟩)] 61)).cell? ⟨W.heap.size + 1, 0, none⟩ = some (ptrS W.heap.size) := by
  have h1 : Below W.heap.size W (W.alloc (.cells #[.string s, .bool u, .int .i64 0] 63)) := (Below.refl _ _).alloc (Nat.le_refl _) _
  have hst : HSt (W.alloc (.cells #[.string s, .bool u, .int .i64 0] 63)) W.heap.size (s, u, 0) := ⟨by simp, by simp, by simp, fun k => by simp, _, _, show (W.heap.push (.cells #[.string s, .bool u, .int .i64 0] 63 (0, 0)))[W.heap.size]? = _ from Array.getElem?_push_size⟩
  have h2 : Below (W.alloc (.cells #[.string s, .bool u, .int .i64 0] 63)).heap.size (W.alloc (.cells #[.string s, .bool u, .int .i64 0] 63)) ((W.alloc (.cells #[.string s, .bool u, .int .i64 0] 63)).alloc (.cells #[.pointer (some ⟨W.heap.size, 0, none⟩)] 61)) := (Below.refl _ _).alloc (Nat.le_refl _) _
  exact ⟨below_then h1 h2, hst.same (h2.block _ hst.lt), by rw [World.cell?_alloc_at _ _ _ _ (by simp)]; rfl⟩
end Go.Proofs.YtmkdpchodeckgaaDoor

/- The landed health: those, Up. -/
namespace Go.Proofs.YtmkdpchodeckgaaDoor
open Go.RowKit Go.Shelf

/-- the names of those of the first k that q takes -/
def thoseN (q : Lh.Hh → Bool) (l : List Lh.Hh) (k : Nat) : List ByteArray := ((l.take k).filter q).map fun x => x.1
theorem thoseN_succ (q : Lh.Hh → Bool) (l : List Lh.Hh) {k : Nat} (h : k < l.length) : thoseN q l (k + 1) = thoseN q l k ++ (if q l[k] then [(l[k]).1] else []) := by
  unfold thoseN
  rw [List.take_succ_eq_append_getElem h, List.filter_append, List.map_append]
  congr 1
  cases e : q l[k] <;> simp [e]
theorem thoseN_len (q : Lh.Hh → Bool) (l : List Lh.Hh) (k : Nat) : (thoseN q l k).length ≤ k := by
  unfold thoseN
  rw [List.length_map]
  refine Nat.le_trans (List.length_filter_le _ _) ?_
  rw [List.length_take]
  omega

set_option maxRecDepth 100000 in
set_option maxHeartbeats 2000000 in
theorem those_core (fn : Nat) (eg : ∀ args w, (callFunc fn args).run Tryd.prog w = .ok (.enter fn args) w) (q : Lh.Hh → Bool) {W : World} {p f r : Nat} {l : List Lh.Hh} {bs : List Nat} {lv : Value} (h : HR W p f r l bs lv) (hl : l.length ≤ 12)
    (hq : ∀ k (h1 : k < l.length) (h2 : k < bs.length) W', Below W.heap.size W W' → Calls Tryd.prog fn #[.pointer (some ⟨bs[k], 0, none⟩)] W' fun e w' => e = .returned (.bool (q l[k])) ∧ w' = W') :
    Calls Tryd.prog 40 #[.pointer (some ⟨p, 0, none⟩), .func (.func fn) #[] #[]] W fun e w' => ∃ v, e = .returned v ∧ w'.ownsRow W.heap.size 9 1 v (thoseN q l l.length).length ((thoseN q l l.length).map Value.string) ∧ Below W.heap.size W w' := by
  obtain ⟨i, hi, hz0, hz1, hz2⟩ := info_parts infoS
  obtain ⟨p0, cap, hlv⟩ := h.shape
  have HC : Hid (∀ i (hi : i < l.length) (h2 : i < bs.length), ∃ g, p0 = some ⟨g, 0, none⟩ ∧ W.cell? ⟨g, i, none⟩ = some (.pointer (some ⟨bs[i], 0, none⟩)) ∧ W.cell? ⟨bs[i], 0, none⟩ = some (.string (l[i]).1)) := fun i hi h2 => by
    obtain ⟨g, cap', e, _, _, _, hc, _⟩ := h.row (by omega)
    rw [hlv] at e
    cases e
    exact ⟨g, rfl, hc i h2, (h.st i hi h2).c0⟩
  have HQ : Hid (∀ k (h1 : k < l.length) (h2 : k < bs.length) W', Below W.heap.size W W' → Calls Tryd.prog fn #[.pointer (some ⟨bs[k], 0, none⟩)] W' fun e w' => e = .returned (.bool (q l[k])) ∧ w' = W') := hq
  have HLN : Hid (bs.length = l.length) := h.len
  have c2 := h.c2
  subst hlv
  clear h hq
  go_enter Tryd.func40, Tryd.ntmps40
  go_wp2_with fail
  go_loopw [5, 7, 15] (fun v _ t W' => Below W.heap.size W W' ∧ ∃ k : Nat, k ≤ l.length ∧ t = .int .i64 (k : Nat) ∧ W'.ownsRow W.heap.size 9 1 v (thoseN q l k).length ((thoseN q l k).map Value.string)) (fun _ _ t _ => l.length - (intOf t).toNat)
  case atStart => exact ⟨Below.refl _ _, 0, Nat.zero_le _, rfl, World.ownsRow_nil _ _ _ _⟩
  case round =>
    obtain ⟨hb, k, hk, rfl, hown⟩ := hrel
    obtain ⟨wo, hwo⟩ : ∃ wo, wo = wr := ⟨_, rfl⟩
    subst hwo
    obtain ⟨vo, hvo⟩ : ∃ vo, vo = u5 := ⟨_, rfl⟩
    subst hvo
    clear c2
    by_cases hlt : k < l.length
    · have hlt2 : k < bs.length := by rw [HLN.out]; exact hlt
      obtain ⟨g, rfl, cn, cu⟩ := HC.out k hlt hlt2
      have cn' := below_cell hb cn
      have cu' := below_cell hb cu
      have hcall := HQ.out k hlt hlt2 wo hb
      have hki : (k : Int) < (l.length : Int) := by omega
      have hul := thoseN_len q l k
      have hsu := thoseN_succ q l hlt
      clear cn cu
      generalize (l[k]).1 = s at *
      generalize bs[k] = b at *
      cases hu : q l[k] with
      | true =>
        rw [hu] at hcall hsu
        simp only [if_true] at hsu
        have HSU : Hid (thoseN q l (k + 1) = thoseN q l k ++ [s]) := hsu
        clear hu hsu
        generalize thoseN q l k = out at *
        have hown3 := hown.alloc (.cells #[.string s] 9)
        have hnews := cells_one (w := wo) (t := 9) s
        have hbw3 : Below W.heap.size W (wo.alloc (.cells #[.string s] 9)) := hb.alloc hb.size _
        have hmax : out.length + 1 ≤ maxLen := by unfold maxLen; omega
        clear hown
        go_wp2_with (first | (go_at_fn fn; refine hcall.mono ?_; rintro e w' ⟨rfl, rfl⟩; clear hcall) | (at_builtin; refine wpList_append_own _ rfl _ _ 24 rfl W.heap.size 9 i _ 1 16 Tryd.underlying24 hi hz0 hz1 hz2 rfl (by decide) vo out.length (out.map Value.string) rfl hown3 ⟨_, 0, none⟩ 1 1 [.string s] rfl rfl hnews (fun u hu => by simp at hu; subst hu; rfl) hmax (by omega) hbw3.size ?_))
        intro v' w4 hown4 hg4 _
        have hlo := hown3.lt
        have hb4 : Below W.heap.size W w4 := hbw3.grown hg4 hbw3.size (fun k hk => (hlo k hk).1)
        have hown5 := owns_snoc hown4
        have HOUT : Hid (w4.ownsRow W.heap.size 9 1 v' (out ++ [s]).length ((out ++ [s]).map Value.string)) := by rw [List.length_append]; exact hown5
        clear hown3 hnews hlo hg4 hbw3 hmax hown4 hown5
        go_wp2
        exact ⟨⟨hb4, k + 1, by omega, by go_num, by rw [HSU.out]; exact HOUT.out⟩, by simp [intOf]; omega⟩
      | false =>
        rw [hu] at hcall hsu
        simp only [Bool.false_eq_true, if_false, List.append_nil] at hsu
        have HOUT : Hid (wo.ownsRow W.heap.size 9 1 vo (thoseN q l (k + 1)).length ((thoseN q l (k + 1)).map Value.string)) := by rw [hsu]; exact hown
        clear hu hsu hown
        go_wp2_with (go_at_fn fn; refine hcall.mono ?_; rintro e w' ⟨rfl, rfl⟩; clear hcall)
        exact ⟨⟨hb, k + 1, by omega, by go_num, HOUT.out⟩, by simp [intOf]; omega⟩
    · have hki : decide ((k : Int) < (l.length : Int)) = false := by simp; omega
      have HS : Hid (wo.ownsRow W.heap.size 9 1 vo (thoseN q l l.length).length ((thoseN q l l.length).map Value.string)) := by
        have e : k = l.length := by omega
        rw [← e]
        exact hown
      clear hown
      go_wp2
      go_ret
      exact ⟨_, rfl, HS.out, hb⟩

set_option maxHeartbeats 1000000 in
theorem upC (b : Nat) (u : Bool) (W : World) (h1 : W.cell? ⟨b, 1, none⟩ = some (.bool u)) :
    Calls Tryd.prog 41 #[.pointer (some ⟨b, 0, none⟩)] W fun e w' => e = .returned (.bool u) ∧ w' = W := by
  go_enter Tryd.func41, Tryd.ntmps41
  go_wp2
  go_ret
  exact ⟨rfl, rfl⟩
theorem entersUp : ∀ args w, (callFunc 41 args).run Tryd.prog w = .ok (.enter 41 args) w := enters_of Tryd.func41 (by kernel_rfl) rfl
section
variable {W : World} {p f r : Nat} {l : List Lh.Hh} {bs : List Nat} {lv : Value}
set_option maxHeartbeats 1000000 in
/-- Up. -/
theorem upS_any (h : HR W p f r l bs lv) (hl : l.length ≤ 12) :
    Calls Tryd.prog 20 #[.pointer (some ⟨p, 0, none⟩)] W fun e w' => ∃ v, e = .returned v ∧ Strs1 w' v (Lh.hups l) ∧ Below W.heap.size W w' := by
  have h1 := those_core 41 entersUp (fun x => x.2.1) h hl fun k hk h2 W' hB => upC _ _ W' (below_cell hB (h.st k hk h2).c1)
  have e : thoseN (fun x => x.2.1) l l.length = Lh.hups l := by
    unfold thoseN Lh.hups
    rw [List.take_length]
  rw [e] at h1
  have h2 : Calls Tryd.prog 40 #[.pointer (some ⟨p, 0, none⟩), .func (.func 41) #[] #[]] W fun e w' => ∃ v, e = .returned v ∧ Strs1 w' v (Lh.hups l) ∧ Below W.heap.size W w' := h1.mono fun _ _ ⟨v, q1, q2, q3⟩ => ⟨v, q1, strs_of_owns q2, q3⟩
  clear h1 e h
  generalize Lh.hups l = ys at *
  go_enter Tryd.func20, Tryd.ntmps20
  go_wp2_with fail
  refine h2.mono ?_
  rintro e w1 ⟨v, rfl, hv, hb⟩
  clear h2
  go_wp2
  go_ret
  exact ⟨_, rfl, hv, hb⟩
end
end Go.Proofs.YtmkdpchodeckgaaDoor
