/- The reference's RingOf. -/
import Derived.Test.YtepclafmkhphbabDoorRKeys
import Derived.Test.YtepclafmkhphbabDoorRRef1
import Derived.Deep.AppendLies
import Derived.Deep.RegionLaw
namespace Go.Proofs.YtepclafmkhphbabDoor
open Go.RowKit Go.Sort Go.Shelf Go.Lib

theorem infoQ : (Tryd.prog.info? 107).map (fun i => (i.zero, i.size, i.bytes)) = some (some (.agg #[.int .u64 0, .string ByteArray.empty]), 2, 24) := by kernel_rfl
theorem far_cell {wr W w1 : World} {o : Obj} {row : Option Nat} {x k : Nat} {val : Value} (hW : W.heap = wr.heap.push o) (hg : W.grownBy w1 row) (hne : some x ≠ row) (h : wr.cell? ⟨x, k, none⟩ = some val) : w1.cell? ⟨x, k, none⟩ = some val := by
  have hx : x < wr.heap.size := World.block_lt_of_cell? wr ⟨x, k, none⟩ h
  have hx2 : x < W.heap.size := by rw [hW]; simp; omega
  have e : w1.heap[x]? = wr.heap[x]? := by
    rw [hg.block x hx2 hne, hW, Array.getElem?_push_lt hx, Array.getElem?_eq_getElem hx]
  rw [World.cell?_of_block (w := wr) (w' := w1) (a := ⟨x, k, none⟩) e]
  exact h
theorem far_frozen {wr W w1 : World} {o : Obj} {row : Option Nat} {x k : Nat} (hW : W.heap = wr.heap.push o) (hg : W.grownBy w1 row) (hne : some x ≠ row) (hx : x < wr.heap.size) (h : wr.frozen? ⟨x, k, none⟩ = false) : w1.frozen? ⟨x, k, none⟩ = false := by
  have hx2 : x < W.heap.size := by rw [hW]; simp; omega
  have e : w1.heap[x]? = wr.heap[x]? := by
    rw [hg.block x hx2 hne, hW, Array.getElem?_push_lt hx, Array.getElem?_eq_getElem hx]
  rw [World.frozen?_of_block (w := wr) (w' := w1) (a := ⟨x, k, none⟩) e]
  exact h
theorem owns_setCell {w : World} {base : Nat} {e : TypeId} {size : Nat} {v : Value} {n : Nat} {xs : List Value} (h : w.ownsRow base e size v n xs) {x k : Nat} (hx : x < base) (u : Value) : (w.setCell ⟨x, k, none⟩ u).ownsRow base e size v n xs := by
  refine h.kept (row := some x) ⟨rfl, rfl, rfl, by simp [World.setCell], fun j _ hne => heap_setCell_other w ⟨x, k, none⟩ j u (fun e => hne (by rw [e]))⟩ ?_
  cases hv : v.ownBlock with
  | none => exact Or.inl rfl
  | some g =>
    have := (h.lt g hv).1
    exact Or.inr (fun e => by cases e; omega)
theorem owns_heap {w W : World} {base : Nat} {e : TypeId} {size : Nat} {v : Value} {n : Nat} {xs : List Value} {o : Obj} (h : w.ownsRow base e size v n xs) (hW : W.heap = w.heap.push o) : W.ownsRow base e size v n xs := by
  obtain ⟨h1, h2 | ⟨g, cap, cur, e1, e2, e3, e4⟩⟩ := h
  · exact ⟨h1, Or.inl h2⟩
  · refine ⟨h1, Or.inr ⟨g, cap, cur, e1, e2, ?_, e4⟩⟩
    have hg : g < w.heap.size := (Array.getElem?_eq_some_iff.1 e3).1
    rw [hW, Array.getElem?_push_lt hg, ← Array.getElem?_eq_getElem hg]
    exact e3
theorem cellsP_heap {wr W : World} {t : TypeId} (p : Lh.Pt) (hW : W.heap = wr.heap.push (.cells #[.int .u64 (p.1 : Nat), .string p.2] t (0, 0))) : ∀ j u, (encP p)[j]? = some u → W.cell? ((⟨wr.heap.size, 0, none⟩ : Addr).add j) = some u := by
  intro j u hu
  have e : W.heap[wr.heap.size]? = some (.cells #[.int .u64 (p.1 : Nat), .string p.2] t (0, 0)) := by rw [hW]; simp
  match j, hu with
  | 0, hu => simp [encP] at hu; subst hu; simp [Addr.add, World.cell?, e]
  | 1, hu => simp [encP] at hu; subst hu; simp [Addr.add, World.cell?, e]
  | j + 2, hu => simp [encP] at hu

theorem step_append_pt {ops : Array Oper} {o : Oper} {a : Act} {K : Act → World → Prop} {Q : Exit → Act → World → Prop} {E : Prop} {W : World} (wr : World) (at1 : Nat) (s : ByteArray) (rb : Nat) (hgd : o.guard = none) (so xo : Operand)
    (ho : o.op = .call { callee := .builtin .append, args := #[so, xo], argTypes := #[102, 102] }) (hW : W.heap = wr.heap.push (.cells #[.int .u64 (at1 : Nat), .string s] 107 (0, 0)))
    (v : Value) (P1 : List Lh.Pt) (hs : a.eval so = v) (hx : a.eval xo = .slice (some ⟨wr.heap.size, 0, none⟩) 1 1) (hown : wr.ownsRow (rb + 1) 107 2 v P1.length (flatP P1)) (hl : P1.length ≤ 208) (hrb : rb < wr.heap.size)
    (h : ∀ g cap w', w'.ownsRow (rb + 1) 107 2 (.slice (some ⟨g, 0, none⟩) (P1.length + 1) cap) (P1.length + 1) (flatP (P1 ++ [(at1, s)])) → W.grownBy w' v.ownBlock → K (a.put o.dst (.slice (some ⟨g, 0, none⟩) (P1.length + 1) cap)) w') :
    if Region.wanted o (yielded ops a.tmps) = true then Oper.wp Tryd.prog o a W K Q else E := by
  obtain ⟨i, hi, hz0, hz1, hz2⟩ := info_parts infoQ
  have hsz : W.heap.size = wr.heap.size + 1 := by rw [hW]; simp
  refine step_append_lies W hgd so xo 102 ho (rb + 1) 107 i _ 2 24 Tryd.underlying102 hi hz0 hz1 hz2 rfl (by decide) v P1.length (flatP P1) hs (owns_heap hown hW) ⟨wr.heap.size, 0, none⟩ 1 1 (encP (at1, s)) hx rfl (cellsP_heap (at1, s) hW) (encP_one _) (by decide) (by unfold maxLen; omega) (by omega) (by omega) (wr.heap.size + 1) hsz ?_
  intro g cp w1 hown1 hgr _ _
  rw [← flatP_snoc] at hown1
  exact h g cp w1 hown1 hgr

set_option maxRecDepth 100000 in
set_option maxHeartbeats 4000000 in
theorem ringOf_any (b o cap : Nat) (xs : List ByteArray) (c : Nat) (w : World) (hx : ∀ k (h : k < xs.length), w.cell? ⟨b, o + k, none⟩ = some (.string xs[k])) (hb0 : b < w.heap.size) (hl : xs.length ≤ 12) (h0 : 0 < xs.length) (hc1 : 1 ≤ c) (hc : c ≤ 16) (hs : ∀ k (h : k < xs.length), (xs[k]).size ≤ 300) :
    Calls Tryd.prog 36 #[.slice (some ⟨b, o, none⟩) xs.length cap, .int .i64 (c : Nat)] w fun e w' => ∃ rb blk cp, e = .returned (.pointer (some ⟨rb, 0, none⟩)) ∧ RingBlk w' rb blk cp (Lh.pts c xs) ∧ Below w.heap.size w w' := by
  obtain ⟨i, hi, hz0, hz1, hz2⟩ := info_parts infoQ
  have HX : Hid (∀ k (h : k < xs.length), w.cell? ⟨b, o + k, none⟩ = some (.string xs[k])) := hx
  have HS : Hid (∀ k (h : k < xs.length), (xs[k]).size ≤ 300) := hs
  clear hx hs
  obtain ⟨rb, hrb⟩ : ∃ rb, w.heap.size = rb := ⟨_, rfl⟩
  have HRB : Hid (w.heap.size = rb) := hrb
  go_enter Tryd.func36, Tryd.ntmps36
  go_wp2_with fail
  have hbW := (Below.refl w.heap.size w).alloc (Nat.le_refl _) (.cells #[.slice none 0 0] 104)
  have cr0 : (w.alloc (.cells #[.slice none 0 0] 104)).cell? ⟨rb, 0, none⟩ = some (.slice none 0 0) := by rw [← hrb]; simp
  have fr0 : (w.alloc (.cells #[.slice none 0 0] 104)).frozen? ⟨rb, 0, none⟩ = false := by rw [← hrb]; simp
  have hb0' : b < rb := by omega
  rw [hrb] at hbW
  generalize w.alloc (.cells #[.slice none 0 0] 104) = w0 at *
  clear hrb hb0
  go_loopw [6] (fun t W => Below rb w W ∧ ∃ k : Nat, k ≤ xs.length ∧ t = .int .i64 k ∧ ∃ v, W.cell? ⟨rb, 0, none⟩ = some v ∧ W.frozen? ⟨rb, 0, none⟩ = false ∧ W.ownsRow (rb + 1) 107 2 v (Lh.pts c (xs.take k)).length (flatP (Lh.pts c (xs.take k)))) (fun t _ => xs.length - (intOf t).toNat)
  case atStart => exact ⟨hbW, 0, Nat.zero_le _, rfl, _, cr0, fr0, World.ownsRow_nil _ _ _ _⟩
  case round =>
    clear cr0 fr0 hbW
    obtain ⟨hb, k, hk, rfl, v, cr, fr, hown⟩ := hrel
    by_cases hlt : k < xs.length
    · have HCX : Hid (∀ W, Below rb w W → W.cell? ⟨b, o + k, none⟩ = some (.string xs[k])) := fun W hW => below_cell (by rw [HRB.out]; exact hW) (HX.out k hlt)
      have hsz := HS.out k hlt
      have HP : Hid (Lh.pts c (xs.take (k + 1)) = Lh.pts c (xs.take k) ++ Lh.pts1 c xs[k]) := pts_snoc c xs k hlt
      have hlen : (Lh.pts c (xs.take k)).length ≤ 192 := by
        rw [Lh.pts_length, List.length_take]
        exact mul_bound (by omega) hc
      generalize Lh.pts c (xs.take k) = P0 at *
      generalize xs[k] = s at *
      have HSZ : Hid (s.size ≤ 300) := hsz
      clear hsz
      have hki : (k : Int) < (xs.length : Int) := by omega
      go_wp2_with fail
      go_loopw [7] (fun t W => Below rb w W ∧ ∃ j : Nat, j ≤ c ∧ t = .int .i64 j ∧ ∃ v, W.cell? ⟨rb, 0, none⟩ = some v ∧ W.frozen? ⟨rb, 0, none⟩ = false ∧ W.ownsRow (rb + 1) 107 2 v (P0 ++ (Lh.pts1 c s).take j).length (flatP (P0 ++ (Lh.pts1 c s).take j))) (fun t _ => c - (intOf t).toNat)
      case atStart => exact ⟨hb, 0, Nat.zero_le _, rfl, v, cr, fr, by simpa using hown⟩
      case round =>
        clear hown hb cr fr
        obtain ⟨hb, j, hj, rfl, v, cr, fr, hown⟩ := hrel
        by_cases hjc : j < c
        · have hlj : (P0 ++ (Lh.pts1 c s).take j).length ≤ 208 := by
            rw [List.length_append, List.length_take]
            omega
          have hap : P0 ++ (Lh.pts1 c s).take (j + 1) = (P0 ++ (Lh.pts1 c s).take j) ++ [(Lh.num s (1000 + j), s)] := by
            rw [pts1_snoc c j s hjc, List.append_assoc]
          have HAP : Hid (P0 ++ (Lh.pts1 c s).take (j + 1) = (P0 ++ (Lh.pts1 c s).take j) ++ [(Lh.num s (1000 + j), s)]) := hap
          clear hap
          generalize P0 ++ (Lh.pts1 c s).take j = P1 at *
          have hnum := fun W' => numberOf_any s (1000 + j) W' HSZ.out
          rw [show ((1000 + j : Nat) : Int) = IntKind.u64.wrap (IntKind.i64.wrap (1000 + (j : Int))) by simp [IntKind.wrap, IntKind.bits, IntKind.signed]; omega] at hnum
          generalize Lh.num s (1000 + j) = at1 at *
          have HNUM : Hid (∀ W', Calls Tryd.prog 53 #[.string s, .int .u64 (IntKind.u64.wrap (IntKind.i64.wrap (1000 + (j : Int))))] W' fun e w' => e = .returned (.int .u64 (at1 : Nat)) ∧ w' = W') := hnum
          clear hnum
          have cx := HCX.out wr hb
          have HNE : Hid (∀ x, x ≤ rb → some x ≠ v.ownBlock) := fun x hx e => by
            have := (hown.lt x e.symm).1
            omega
          have hrl : rb < wr.heap.size := World.block_lt_of_cell? wr ⟨rb, 0, none⟩ cr
          have hmax : P1.length + 1 ≤ maxLen := by unfold maxLen; omega
          have hbr : b ≠ rb := by omega
          have hrb2 : rb ≠ b := by omega
          have HOWN : Hid (wr.ownsRow (rb + 1) 107 2 v P1.length (flatP P1)) := hown
          clear hown
          go_wp2_with fail
          go_region_law (first
            | (refine step_append_pt wr at1 s rb rfl _ _ rfl rfl v P1 rfl rfl HOWN.out hlj hrl ?_
               intro g cp w1 hown1 hgr
               have hr1 := far_cell (wr := wr) (x := rb) (k := 0) rfl hgr (HNE.out rb (Nat.le_refl _)) cr
               have fr1 := far_frozen (wr := wr) (x := rb) (k := 0) rfl hgr (HNE.out rb (Nat.le_refl _)) hrl fr)
            | (go_simp; go_at_call 53; refine (HNUM.out _).mono ?_; rintro e w' ⟨rfl, rfl⟩))
          all_goals
            have hbw1 : Below rb w w1 := by
              refine (hb.trans (below_drewN ((Below.refl rb wr).alloc (Nat.le_of_lt hrl) _) 1)).grown hgr (by simp; omega) (fun q e => ?_)
              · refine Nat.le_of_lt (Nat.lt_of_not_le fun h => HNE.out q h ?_)
                exact e.symm
            have hbw2 : Below rb w (w1.setCell ⟨rb, 0, none⟩ (.slice (some ⟨g, 0, none⟩) (P1.length + 1) cp)) := hbw1.setCell (Nat.le_refl _) _
            have hownN := owns_setCell (k := 0) hown1 (Nat.lt_succ_self rb) (.slice (some ⟨g, 0, none⟩) (P1.length + 1) cp)
            have crN : (w1.setCell ⟨rb, 0, none⟩ (.slice (some ⟨g, 0, none⟩) (P1.length + 1) cp)).cell? ⟨rb, 0, none⟩ = some (.slice (some ⟨g, 0, none⟩) (P1.length + 1) cp) := by simp [go_sem, hr1]
            have frN : (w1.setCell ⟨rb, 0, none⟩ (.slice (some ⟨g, 0, none⟩) (P1.length + 1) cp)).frozen? ⟨rb, 0, none⟩ = false := by simp [go_sem, fr1]
            clear hown1 hgr hr1 fr1 hbw1 cr fr cx hb
            generalize w1.setCell ⟨rb, 0, none⟩ (.slice (some ⟨g, 0, none⟩) (P1.length + 1) cp) = wN at *
            go_wp2
            refine ⟨⟨hbw2, j + 1, by omega, by go_num, _, crN, frN, ?_⟩, by simp [intOf]; omega⟩
            rw [HAP.out, List.length_append]
            exact hownN
        · go_wp2
          have hjj : j = c := by omega
          subst hjj
          rw [List.take_of_length_le (by rw [Lh.pts1_length]; exact Nat.le_refl _), ← HP.out] at hown
          exact ⟨⟨hb, k + 1, by omega, by go_num, v, cr, fr, hown⟩, by simp [intOf]; omega⟩
    · go_wp2
      go_ret
      have hkk : k = xs.length := by omega
      subst hkk
      rw [List.take_length] at hown
      have hlp1 : 0 < (Lh.pts c xs).length := by rw [Lh.pts_length]; exact Nat.mul_pos h0 hc1
      obtain ⟨g, cp, rfl, _, _, _, hpts, _⟩ := pts_of_owns hown hlp1
      refine ⟨rb, g, cp, rfl, ⟨cr, hpts⟩, by rw [HRB.out]; exact hb⟩
end Go.Proofs.YtepclafmkhphbabDoor
