/- The landed health: a host more. -/
import Derived.Test.YtfhmfjcpggddkaaGreatDoorM18
import Derived.Test.YtfhmfjcpggddkaaGreatDoorM12
import Derived.Test.YtfhmfjcpggddkaaGreatDoorM10
import Derived.Test.YtfhmfjcpggddkaaGreatDoorM6
import Derived.Maps.OwnOps
import Derived.BigQuiet
import Derived.Deep.RegionHeld3
namespace Go.Proofs.YtfhmfjcpggddkaaGreatDoor
open Go.RowKit Go.Shelf

theorem infoP : (Tryz.prog.info? 217).map (fun i => (i.zero, i.size, i.bytes)) = some (some (.pointer none), 1, 8) := by kernel_rfl
section
variable {W W2 w1 : World} {p f r : Nat} {l : List Lh.Hh} {bs : List Nat} {lv : Value}
theorem HR.added (h : HR W p f r l bs lv) (x : Lh.Hh) {b : Nat} (hb : b = W.heap.size) (hB : Below W.heap.size W W2) (hst : HSt W2 b x) {g cap : Nat} (hown : w1.ownsRow (p + 1) 217 1 (.slice (some ⟨g, 0, none⟩) (l.length + 1) cap) (l.length + 1) ((bs ++ [b]).map ptrS)) (hgr : W2.grownBy w1 lv.ownBlock) (hat : lv.ownBlock = some g ∨ g = W2.heap.size) :
    HR (w1.setCell ⟨p, 2, none⟩ (.slice (some ⟨g, 0, none⟩) (l.length + 1) cap)) p f r (l ++ [x]) (bs ++ [b]) (.slice (some ⟨g, 0, none⟩) (l.length + 1) cap) ∧ Tur (HFoot p bs lv) W (w1.setCell ⟨p, 2, none⟩ (.slice (some ⟨g, 0, none⟩) (l.length + 1) cap)) ∧ ∀ j, HFoot p (bs ++ [b]) (.slice (some ⟨g, 0, none⟩) (l.length + 1) cap) j → HFoot p bs lv j ∨ W.heap.size ≤ j := by
  have hp := h.plt
  have hs2 := hB.size
  have hbl := hst.lt
  have hne : ∀ k, k ≤ p → some k ≠ lv.ownBlock := fun k hk e => by
    have := (h.own.lt k e.symm).1
    omega
  have hneb : some b ≠ lv.ownBlock := fun e => by
    have := (h.own.lt b e.symm).2
    omega
  have hsame : ∀ k, k < W2.heap.size → k ≠ p → some k ≠ lv.ownBlock → (w1.setCell ⟨p, 2, none⟩ (.slice (some ⟨g, 0, none⟩) (l.length + 1) cap)).heap[k]? = W2.heap[k]? := fun k hk hkm hkr => by
    rw [heap_setCell_other w1 ⟨p, 2, none⟩ k _ (fun e => hkm e), hgr.block k hk hkr]
  have hpb : w1.heap[p]? = W.heap[p]? := (hgr.block p (by omega) (hne p (Nat.le_refl _))).trans (hB.block p hp)
  refine ⟨⟨?_, ?_, ?_, fun k => ?_, ?_, ?_, fun i h1 h2 => ?_, ?_, fun y hy => ?_, fun y hy => ?_⟩, ⟨?_, ?_, ?_, ?_, fun k hk hf => ?_⟩, fun j hj => ?_⟩
  · have : w1.cell? ⟨p, 0, none⟩ = _ := (World.cell?_of_block (w := W) (w' := w1) (a := ⟨p, 0, none⟩) hpb).trans h.c0
    simp [go_sem, this]
  · have : w1.cell? ⟨p, 1, none⟩ = _ := (World.cell?_of_block (w := W) (w' := w1) (a := ⟨p, 1, none⟩) hpb).trans h.c1
    simp [go_sem, this]
  · have : w1.cell? ⟨p, 2, none⟩ = _ := (World.cell?_of_block (w := W) (w' := w1) (a := ⟨p, 2, none⟩) hpb).trans h.c2
    simp [go_sem, this]
  · have : w1.frozen? ⟨p, k, none⟩ = _ := (World.frozen?_of_block (w := W) (w' := w1) (a := ⟨p, k, none⟩) hpb).trans (h.fz k)
    simp [go_sem, this]
  · have h1 := howns_setCell (k := 2) hown (Nat.lt_succ_self p) (.slice (some ⟨g, 0, none⟩) (l.length + 1) cap)
    rw [List.length_append]
    exact h1
  · simp [h.len]
  · by_cases hi : i < l.length
    · have hi2 : i < bs.length := by rw [h.len]; exact hi
      rw [List.getElem_append_left hi, List.getElem_append_left hi2]
      have hs := h.st i hi hi2
      have hm := List.getElem_mem hi2
      have hl := hs.lt
      have hg := h.gt _ hm
      exact hs.same ((hsame _ (by omega) (by omega) (fun e => h.apart _ hm e.symm)).trans (hB.block _ hl))
    · have e : i = l.length := by simp at h1; omega
      subst e
      have e2 : (bs ++ [b])[l.length]'h2 = b := by simp [← h.len]
      have e3 : (l ++ [x])[l.length]'h1 = x := by simp
      rw [e2, e3]
      exact hst.same (hsame b hbl (by omega) hneb)
  · rw [List.nodup_append]
    refine ⟨h.nd, by simp, fun y hy z hz e => ?_⟩
    simp at hz
    have := h.blt hy
    omega
  · rcases List.mem_append.1 hy with hy | hy
    · exact h.gt y hy
    · simp at hy
      omega
  · show some g ≠ some y
    intro e
    cases e
    rcases List.mem_append.1 hy with hy | hy
    · rcases hat with e | e
      · exact h.apart g hy e
      · have := h.blt hy
        omega
    · simp at hy
      rcases hat with e | e
      · exact hneb (by rw [e, hy])
      · omega
  · exact hgr.os.trans hB.os
  · exact hgr.tape.trans hB.tape
  · exact hgr.output.trans hB.output
  · have := hgr.size
    simp [World.setCell]
    omega
  · exact (hsame k (by omega) (fun e => hf (Or.inl e)) (fun e => hf (Or.inr (Or.inl e.symm)))).trans (hB.block k hk)
  · rcases hj with rfl | e | hy
    · exact Or.inl (Or.inl rfl)
    · have e' : g = j := Option.some.inj e
      subst e'
      rcases hat with e2 | e2
      · exact Or.inl (Or.inr (Or.inl e2))
      · exact Or.inr (by omega)
    · rcases List.mem_append.1 hy with hy | hy
      · exact Or.inl (Or.inr (Or.inr hy))
      · simp at hy
        exact Or.inr (by omega)
theorem HR.grown (h : HR W p f r l bs lv) (hB : Below W.heap.size W W2) (hgr : W2.grownBy w1 lv.ownBlock) : w1.cell? ⟨p, 2, none⟩ = some lv ∧ w1.frozen? ⟨p, 2, none⟩ = false := by
  have hp := h.plt
  have hs2 := hB.size
  have hpb : w1.heap[p]? = W.heap[p]? := (hgr.block p (by omega) (fun e => by have := (h.own.lt p e.symm).1; omega)).trans (hB.block p hp)
  exact ⟨(World.cell?_of_block (w := W) (w' := w1) (a := ⟨p, 2, none⟩) hpb).trans h.c2, (World.frozen?_of_block (w := W) (w' := w1) (a := ⟨p, 2, none⟩) hpb).trans (h.fz 2)⟩
end
theorem cellsP {W : World} {q b : Nat} (h : W.cell? ⟨q, 0, none⟩ = some (ptrS b)) : ∀ j u, [ptrS b][j]? = some u → W.cell? ((⟨q, 0, none⟩ : Addr).add j) = some u := by
  intro j u hu
  match j, hu with
  | 0, hu => simp at hu; subst hu; simpa [Addr.add] using h
  | j + 1, hu => simp at hu
theorem wpList_append_s {ops : Array Oper} {rest : List Oper} {o : Oper} {a : Act} {Q : Exit → Act → World → Prop} {W : World} (p q b : Nat) (hgd : o.guard = none) (so xo : Operand)
    (ho : o.op = .call { callee := .builtin .append, args := #[so, xo], argTypes := #[248, 248] })
    (v : Value) (bs : List Nat) (n : Nat) (hs : a.eval so = v) (hx : a.eval xo = .slice (some ⟨q, 0, none⟩) 1 1) (hown : W.ownsRow (p + 1) 217 1 v n (bs.map ptrS)) (hl : n ≤ 208) (hp : p < W.heap.size) (hq : W.cell? ⟨q, 0, none⟩ = some (ptrS b))
    (h : ∀ g cap w', w'.ownsRow (p + 1) 217 1 (.slice (some ⟨g, 0, none⟩) (n + 1) cap) (n + 1) ((bs ++ [b]).map ptrS) → W.grownBy w' v.ownBlock → (v.ownBlock = some g ∨ g = W.heap.size) → wpList Tryz.prog ops Q rest (a.put o.dst (.slice (some ⟨g, 0, none⟩) (n + 1) cap)) w') :
    wpList Tryz.prog ops Q (o :: rest) a W := by
  obtain ⟨i, hi, hz0, hz1, hz2⟩ := info_parts infoP
  refine wpList_append_lies W hgd so xo 248 ho (p + 1) 217 i _ 1 8 Tryz.underlying248 hi hz0 hz1 hz2 rfl (by decide) v n (bs.map ptrS) hs hown ⟨q, 0, none⟩ 1 1 [ptrS b] hx rfl (cellsP hq) (fun u hu => by simp at hu; subst hu; rfl) (by decide) (by unfold maxLen; omega) (by omega) (by omega) W.heap.size rfl ?_
  intro g cp w1 hown1 hgr hat _
  have e : bs.map ptrS ++ [ptrS b] = (bs ++ [b]).map ptrS := by simp
  rw [e] at hown1
  exact h g cp w1 hown1 hgr hat
/-- the two blocks that a host more lays: its state, and the one of append's argument -/
theorem laid2 (W : World) (s : ByteArray) (u : Bool) : Below W.heap.size W ((W.alloc (.cells #[.string s, .bool u, .int .i64 0] 220)).alloc (.cells #[.pointer (some ⟨W.heap.size, 0, none⟩)] 217)) ∧ HSt ((W.alloc (.cells #[.string s, .bool u, .int .i64 0] 220)).alloc (.cells #[.pointer (some ⟨W.heap.size, 0, none⟩)] 217)) W.heap.size (s, u, 0) ∧ ((W.alloc (.cells #[.string s, .bool u, .int .i64 0] 220)).alloc (.cells #[.pointer (some ⟨W.heap.size, 0, none⟩)] 217)).cell? ⟨W.heap.size + 1, 0, none⟩ = some (ptrS W.heap.size) := by
  have h1 : Below W.heap.size W (W.alloc (.cells #[.string s, .bool u, .int .i64 0] 220)) := (Below.refl _ _).alloc (Nat.le_refl _) _
  have hst : HSt (W.alloc (.cells #[.string s, .bool u, .int .i64 0] 220)) W.heap.size (s, u, 0) := ⟨by simp, by simp, by simp, fun k => by simp, _, _, show (W.heap.push (.cells #[.string s, .bool u, .int .i64 0] 220 (0, 0)))[W.heap.size]? = _ from Array.getElem?_push_size⟩
  have h2 : Below (W.alloc (.cells #[.string s, .bool u, .int .i64 0] 220)).heap.size (W.alloc (.cells #[.string s, .bool u, .int .i64 0] 220)) ((W.alloc (.cells #[.string s, .bool u, .int .i64 0] 220)).alloc (.cells #[.pointer (some ⟨W.heap.size, 0, none⟩)] 217)) := (Below.refl _ _).alloc (Nat.le_refl _) _
  exact ⟨below_then h1 h2, hst.same (h2.block _ hst.lt), by rw [World.cell?_alloc_at _ _ _ _ (by simp)]; rfl⟩
end Go.Proofs.YtfhmfjcpggddkaaGreatDoor

/- The landed health: those, Up. -/
namespace Go.Proofs.YtfhmfjcpggddkaaGreatDoor
open Go.RowKit Go.Shelf

/-- the names of those of the first k that q takes -/
def thoseN (q : Lh.Hh → Bool) (l : List Lh.Hh) (k : Nat) : List ByteArray := ((l.take k).filter q).map fun x => x.1
theorem thoseN_succ (q : Lh.Hh → Bool) (l : List Lh.Hh) {k : Nat} (h : k < l.length) : thoseN q l (k + 1) = thoseN q l k ++ (if q l[k] then [(l[k]).1] else []) := by
  unfold thoseN
  rw [List.take_succ_eq_append_getElem h, List.filter_append, List.map_append]
  congr 1
  cases e : q l[k] <;> simp [e]
theorem thoseN_len (q : Lh.Hh → Bool) (l : List Lh.Hh) (k : Nat) : (thoseN q l k).length ≤ k := by
  unfold thoseN
  rw [List.length_map]
  refine Nat.le_trans (List.length_filter_le _ _) ?_
  rw [List.length_take]
  omega

set_option maxRecDepth 100000 in
set_option maxHeartbeats 2000000 in
theorem those_core (fn : Nat) (eg : ∀ args w, (callFunc fn args).run Tryz.prog w = .ok (.enter fn args) w) (q : Lh.Hh → Bool) {W : World} {p f r : Nat} {l : List Lh.Hh} {bs : List Nat} {lv : Value} (h : HR W p f r l bs lv) (hl : l.length ≤ 12)
    (hq : ∀ k (h1 : k < l.length) (h2 : k < bs.length) W', Below W.heap.size W W' → Calls Tryz.prog fn #[.pointer (some ⟨bs[k], 0, none⟩)] W' fun e w' => e = .returned (.bool (q l[k])) ∧ w' = W') :
    Calls Tryz.prog 159 #[.pointer (some ⟨p, 0, none⟩), .func (.func fn) #[] #[]] W fun e w' => ∃ v, e = .returned v ∧ w'.ownsRow W.heap.size 9 1 v (thoseN q l l.length).length ((thoseN q l l.length).map Value.string) ∧ Below W.heap.size W w' := by
  obtain ⟨i, hi, hz0, hz1, hz2⟩ := info_parts infoS
  obtain ⟨p0, cap, hlv⟩ := h.shape
  have HC : Hid (∀ i (hi : i < l.length) (h2 : i < bs.length), ∃ g, p0 = some ⟨g, 0, none⟩ ∧ W.cell? ⟨g, i, none⟩ = some (.pointer (some ⟨bs[i], 0, none⟩)) ∧ W.cell? ⟨bs[i], 0, none⟩ = some (.string (l[i]).1)) := fun i hi h2 => by
    obtain ⟨g, cap', e, _, _, _, hc, _⟩ := h.row (by omega)
    rw [hlv] at e
    cases e
    exact ⟨g, rfl, hc i h2, (h.st i hi h2).c0⟩
  have HQ : Hid (∀ k (h1 : k < l.length) (h2 : k < bs.length) W', Below W.heap.size W W' → Calls Tryz.prog fn #[.pointer (some ⟨bs[k], 0, none⟩)] W' fun e w' => e = .returned (.bool (q l[k])) ∧ w' = W') := hq
  have HLN : Hid (bs.length = l.length) := h.len
  have c2 := h.c2
  subst hlv
  clear h hq
  go_enter Tryz.func159, Tryz.ntmps159
  go_wp2_with fail
  go_loopw [5, 7, 15] (fun v _ t W' => Below W.heap.size W W' ∧ ∃ k : Nat, k ≤ l.length ∧ t = .int .i64 (k : Nat) ∧ W'.ownsRow W.heap.size 9 1 v (thoseN q l k).length ((thoseN q l k).map Value.string)) (fun _ _ t _ => l.length - (intOf t).toNat)
  case atStart => exact ⟨Below.refl _ _, 0, Nat.zero_le _, rfl, World.ownsRow_nil _ _ _ _⟩
  case round =>
    obtain ⟨hb, k, hk, rfl, hown⟩ := hrel
    obtain ⟨wo, hwo⟩ : ∃ wo, wo = wr := ⟨_, rfl⟩
    subst hwo
    obtain ⟨vo, hvo⟩ : ∃ vo, vo = u5 := ⟨_, rfl⟩
    subst hvo
    clear c2
    by_cases hlt : k < l.length
    · have hlt2 : k < bs.length := by rw [HLN.out]; exact hlt
      obtain ⟨g, rfl, cn, cu⟩ := HC.out k hlt hlt2
      have cn' := below_cell hb cn
      have cu' := below_cell hb cu
      have hcall := HQ.out k hlt hlt2 wo hb
      have hki : (k : Int) < (l.length : Int) := by omega
      have hul := thoseN_len q l k
      have hsu := thoseN_succ q l hlt
      clear cn cu
      generalize (l[k]).1 = s at *
      generalize bs[k] = b at *
      cases hu : q l[k] with
      | true =>
        rw [hu] at hcall hsu
        simp only [if_true] at hsu
        have HSU : Hid (thoseN q l (k + 1) = thoseN q l k ++ [s]) := hsu
        clear hu hsu
        generalize thoseN q l k = out at *
        have hown3 := hown.alloc (.cells #[.string s] 9)
        have hnews := cells_one (w := wo) (t := 9) s
        have hbw3 : Below W.heap.size W (wo.alloc (.cells #[.string s] 9)) := hb.alloc hb.size _
        have hmax : out.length + 1 ≤ maxLen := by unfold maxLen; omega
        clear hown
        go_wp2_with (first | (go_at_fn fn; refine hcall.mono ?_; rintro e w' ⟨rfl, rfl⟩; clear hcall) | (at_builtin; refine wpList_append_own _ rfl _ _ 22 rfl W.heap.size 9 i _ 1 16 Tryz.underlying22 hi hz0 hz1 hz2 rfl (by decide) vo out.length (out.map Value.string) rfl hown3 ⟨_, 0, none⟩ 1 1 [.string s] rfl rfl hnews (fun u hu => by simp at hu; subst hu; rfl) hmax (by omega) hbw3.size ?_))
        intro v' w4 hown4 hg4 _
        have hlo := hown3.lt
        have hb4 : Below W.heap.size W w4 := hbw3.grown hg4 hbw3.size (fun k hk => (hlo k hk).1)
        have hown5 := owns_snoc hown4
        have HOUT : Hid (w4.ownsRow W.heap.size 9 1 v' (out ++ [s]).length ((out ++ [s]).map Value.string)) := by rw [List.length_append]; exact hown5
        clear hown3 hnews hlo hg4 hbw3 hmax hown4 hown5
        go_wp2
        exact ⟨⟨hb4, k + 1, by omega, by go_num, by rw [HSU.out]; exact HOUT.out⟩, by simp [intOf]; omega⟩
      | false =>
        rw [hu] at hcall hsu
        simp only [Bool.false_eq_true, if_false, List.append_nil] at hsu
        have HOUT : Hid (wo.ownsRow W.heap.size 9 1 vo (thoseN q l (k + 1)).length ((thoseN q l (k + 1)).map Value.string)) := by rw [hsu]; exact hown
        clear hu hsu hown
        go_wp2_with (go_at_fn fn; refine hcall.mono ?_; rintro e w' ⟨rfl, rfl⟩; clear hcall)
        exact ⟨⟨hb, k + 1, by omega, by go_num, HOUT.out⟩, by simp [intOf]; omega⟩
    · have hki : decide ((k : Int) < (l.length : Int)) = false := by simp; omega
      have HS : Hid (wo.ownsRow W.heap.size 9 1 vo (thoseN q l l.length).length ((thoseN q l l.length).map Value.string)) := by
        have e : k = l.length := by omega
        rw [← e]
        exact hown
      clear hown
      go_wp2
      go_ret
      exact ⟨_, rfl, HS.out, hb⟩

set_option maxHeartbeats 1000000 in
theorem upC (b : Nat) (u : Bool) (W : World) (h1 : W.cell? ⟨b, 1, none⟩ = some (.bool u)) :
    Calls Tryz.prog 160 #[.pointer (some ⟨b, 0, none⟩)] W fun e w' => e = .returned (.bool u) ∧ w' = W := by
  go_enter Tryz.func160, Tryz.ntmps160
  go_wp2
  go_ret
  exact ⟨rfl, rfl⟩
theorem entersUp : ∀ args w, (callFunc 160 args).run Tryz.prog w = .ok (.enter 160 args) w := enters_of Tryz.func160 (by kernel_rfl) rfl
section
variable {W : World} {p f r : Nat} {l : List Lh.Hh} {bs : List Nat} {lv : Value}
end
end Go.Proofs.YtfhmfjcpggddkaaGreatDoor

/- The landed flows in memory: a block and a map; New, checkNow, has, isFull. -/
namespace Go.Proofs.YtfhmfjcpggddkaaGreatDoor
open Go.RowKit Go.Maps Go.ChangeMaps

/-- Block p is the landed flows, its map is block mb. -/
structure FR (W : World) (p mb t : Nat) (la : Int) (L : List Lh.Fl) : Prop where
  c0 : W.cell? ⟨p, 0, none⟩ = some (.int .i64 (t : Nat))
  c1 : W.cell? ⟨p, 1, none⟩ = some (.int .i64 la)
  c2 : W.cell? ⟨p, 2, none⟩ = some (.map (some mb))
  fz : ∀ k, W.frozen? ⟨p, k, none⟩ = false
  own : W.ownsMap Tryz.prog 63 flElem mb L.length (FD L)
  ne : p ≠ mb
def FFt (p mb : Nat) (b : Nat) : Prop := b = p ∨ b = mb
section
variable {W W' : World} {p mb t : Nat} {la : Int} {L : List Lh.Fl}
theorem FR.plt (h : FR W p mb t la L) : p < W.heap.size := World.block_lt_of_cell? W ⟨p, 0, none⟩ h.c0
theorem FR.mlt (h : FR W p mb t la L) : mb < W.heap.size := h.own.lt
theorem FR.lt (h : FR W p mb t la L) : ∀ b, FFt p mb b → b < W.heap.size := by
  rintro b (rfl | rfl)
  · exact h.plt
  · exact h.mlt
theorem FR.stay (h : FR W p mb t la L) (hs : ∀ b, FFt p mb b → W'.heap[b]? = W.heap[b]?) : FR W' p mb t la L := by
  have hm := hs p (Or.inl rfl)
  have hn := hs mb (Or.inr rfl)
  refine ⟨?_, ?_, ?_, fun k => ?_, ?_, h.ne⟩
  · rw [World.cell?_of_block (w := W) (w' := W') (a := ⟨p, 0, none⟩) hm]; exact h.c0
  · rw [World.cell?_of_block (w := W) (w' := W') (a := ⟨p, 1, none⟩) hm]; exact h.c1
  · rw [World.cell?_of_block (w := W) (w' := W') (a := ⟨p, 2, none⟩) hm]; exact h.c2
  · rw [World.frozen?_of_block (w := W) (w' := W') (a := ⟨p, k, none⟩) hm]; exact h.fz k
  · obtain ⟨es, clock, hb, r⟩ := h.own
    exact ⟨es, clock, hn.trans hb, r⟩
theorem FR.later (h : FR W p mb t la L) (hb : Below W.heap.size W W') : FR W' p mb t la L := h.stay fun b hf => hb.block b (h.lt b hf)
theorem FR.tick (h : FR W p mb t la L) (now : Int) : FR (W.setCell ⟨p, 1, none⟩ (.int .i64 now)) p mb t now L := by
  refine ⟨?_, ?_, ?_, fun k => ?_, ?_, h.ne⟩
  · rw [World.cell?_setCell_other _ _ _ _ (by simp)]; exact h.c0
  · exact World.cell?_setCell_same' _ _ _ (by rw [h.c1]; rfl)
  · rw [World.cell?_setCell_other _ _ _ _ (by simp)]; exact h.c2
  · rw [World.frozen?_setCell]; exact h.fz k
  · exact h.own.setCell (fun e => h.ne e.symm) _
theorem ownsMap_tight {w : World} {P : Program} {k : TypeId} {R : Value → Option (DataW Unit × List MemPlace)} {b n : Nat} {D : DataW Unit} (h : w.ownsMap P k R b n D) : w.ownsMap P k R b (Maps.size D) D := by
  obtain ⟨es, clock, hb, F, hs, rfl⟩ := h
  refine ⟨es, clock, hb, F, ?_, rfl⟩
  simp [Maps.size, length_sorted]
theorem Tur.ticked (now : Int) : Tur (FFt p mb) W (W.setCell ⟨p, 1, none⟩ (.int .i64 now)) :=
  ⟨rfl, rfl, rfl, by simp, fun k _ hf => Below.heap_setCell _ _ _ k (fun e => hf (Or.inl e))⟩

/-- what the package asks of the variables -/
structure EF (a : Nat → Addr) (w : World) : Prop where
  e4 : Errs4 a w
  s7 : w.cell? ⟨7, 0, none⟩ = some (.iface 378 (.pointer (some (a 7))))
theorem EF.later {a : Nat → Addr} {w w' : World} (h : EF a w) (hb : Below w.heap.size w w') : EF a w' := ⟨h.e4.later hb, below_cell hb h.s7⟩
theorem EF.of {a : Nat → Addr} {w : World} (h : Errs a w) : EF a w := ⟨h.four, h.s7⟩

set_option maxHeartbeats 2000000 in
theorem newF_good (t : Nat) (W : World) (h1 : 1 ≤ t) (h2 : t ≤ 1000) :
    Calls Tryz.prog 131 #[.int .i64 (t : Nat)] W fun e W' => ∃ p mb, e = .returned (.tuple #[.pointer (some ⟨p, 0, none⟩), .nilIface]) ∧ FR W' p mb t 0 [] ∧ W.heap.size ≤ p ∧ W.heap.size ≤ mb ∧ Below W.heap.size W W' := by
  have d1 : decide ((t : Int) < 1) = false := by simp; omega
  have d2 : decide (1000 < (t : Int)) = false := by simp; omega
  have hmm := @run_makeMap Tryz.prog
  go_enter Tryz.func131, Tryz.ntmps131
  go_wp2
  go_ret2
  refine ⟨W.heap.size + 1, W.heap.size, rfl, ⟨by simp, by simp, by simp, fun k => by simp, ?_, by omega⟩, by omega, Nat.le_refl _, ((Below.refl _ _).alloc (Nat.le_refl _) _).alloc (by simp) _⟩
  exact (World.ownsMap_made W _ _ _).alloc _

set_option maxHeartbeats 2000000 in
theorem checkF_ok (h : FR W p mb t la L) (now : Int) (hok : TickOk la now) :
    Calls Tryz.prog 190 #[.pointer (some ⟨p, 0, none⟩), .int .i64 now] W fun e W' => e = .returned .nilIface ∧ Below W.heap.size W W' := by
  obtain ⟨h1, h2, h3⟩ := hok
  have c1 := h.c1
  have d1 : decide (now < 0) = false := by simp; omega
  have d2 : decide (1099511627776 < now) = false := by simp; omega
  have d3 : decide (now < la) = false := by simp; omega
  clear h h1 h2 h3
  go_enter Tryz.func190, Tryz.ntmps190
  go_wp2
  go_ret
  exact ⟨rfl, Below.refl _ _⟩
set_option maxHeartbeats 2000000 in
theorem checkF_bad (a : Nat → Addr) (he : EF a W) (h : FR W p mb t la L) (now : Int) (j : Nat) (hf : TickF la now j) :
    Calls Tryz.prog 190 #[.pointer (some ⟨p, 0, none⟩), .int .i64 now] W fun e W' => e = .returned (.iface 378 (.pointer (some (a j)))) ∧ Below W.heap.size W W' := by
  have c1 := h.c1
  have s1 := he.e4.s1
  have s7 := he.s7
  clear h he
  rcases hf with ⟨hf, rfl⟩ | ⟨h1, h2, h3, rfl⟩
  · by_cases h0 : now < 0
    · have d1 : decide (now < 0) = true := by simpa using h0
      clear hf h0
      go_enter Tryz.func190, Tryz.ntmps190
      go_wp2
      go_ret
      exact ⟨rfl, Below.refl _ _⟩
    · have d1 : decide (now < 0) = false := by simpa using h0
      have d2 : decide (1099511627776 < now) = true := by simp; omega
      clear hf h0
      go_enter Tryz.func190, Tryz.ntmps190
      go_wp2
      go_ret
      exact ⟨rfl, Below.refl _ _⟩
  · have d1 : decide (now < 0) = false := by simp; omega
    have d2 : decide (1099511627776 < now) = false := by simp; omega
    have d3 : decide (now < la) = true := by simpa using h3
    clear h1 h2 h3
    go_enter Tryz.func190, Tryz.ntmps190
    go_wp2
    go_ret
    exact ⟨rfl, Below.refl _ _⟩
end
end Go.Proofs.YtfhmfjcpggddkaaGreatDoor
