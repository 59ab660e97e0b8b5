/- The model of health: NewHealth. -/
import Derived.Test.YtkpjecpaejdgaabDoorHRef0
import Derived.Deep.AppendLies
import Derived.Deep.RegionLaw
namespace Go.Proofs.YtkpjecpaejdgaabDoor
open Go.RowKit

theorem infoH : (Tryd.prog.info? 122).map (fun i => (i.zero, i.size, i.bytes)) = some (some (.agg #[.string ByteArray.empty, .bool false, .slice none 0 0]), 3, 48) := by kernel_rfl
theorem hfar_cell {wr W w1 : World} {o : Obj} {row : Option Nat} {x k : Nat} {val : Value} (hW : W.heap = wr.heap.push o) (hg : W.grownBy w1 row) (hne : some x ≠ row) (h : wr.cell? ⟨x, k, none⟩ = some val) : w1.cell? ⟨x, k, none⟩ = some val := by
  have hx : x < wr.heap.size := World.block_lt_of_cell? wr ⟨x, k, none⟩ h
  have hx2 : x < W.heap.size := by rw [hW]; simp; omega
  have e : w1.heap[x]? = wr.heap[x]? := by
    rw [hg.block x hx2 hne, hW, Array.getElem?_push_lt hx, Array.getElem?_eq_getElem hx]
  rw [World.cell?_of_block (w := wr) (w' := w1) (a := ⟨x, k, none⟩) e]
  exact h
theorem hfar_frozen {wr W w1 : World} {o : Obj} {row : Option Nat} {x k : Nat} (hW : W.heap = wr.heap.push o) (hg : W.grownBy w1 row) (hne : some x ≠ row) (hx : x < wr.heap.size) (h : wr.frozen? ⟨x, k, none⟩ = false) : w1.frozen? ⟨x, k, none⟩ = false := by
  have hx2 : x < W.heap.size := by rw [hW]; simp; omega
  have e : w1.heap[x]? = wr.heap[x]? := by
    rw [hg.block x hx2 hne, hW, Array.getElem?_push_lt hx, Array.getElem?_eq_getElem hx]
  rw [World.frozen?_of_block (w := wr) (w' := w1) (a := ⟨x, k, none⟩) e]
  exact h
theorem howns_setCell {w : World} {base : Nat} {e : TypeId} {size : Nat} {v : Value} {n : Nat} {xs : List Value} (h : w.ownsRow base e size v n xs) {x k : Nat} (hx : x < base) (u : Value) : (w.setCell ⟨x, k, none⟩ u).ownsRow base e size v n xs := by
  refine h.kept (row := some x) ⟨rfl, rfl, rfl, by simp [World.setCell], fun j _ hne => heap_setCell_other w ⟨x, k, none⟩ j u (fun e => hne (by rw [e]))⟩ ?_
  cases hv : v.ownBlock with
  | none => exact Or.inl rfl
  | some g =>
    have := (h.lt g hv).1
    exact Or.inr (fun e => by cases e; omega)
theorem howns_heap {w W : World} {base : Nat} {e : TypeId} {size : Nat} {v : Value} {n : Nat} {xs : List Value} {o : Obj} (h : w.ownsRow base e size v n xs) (hW : W.heap = w.heap.push o) : W.ownsRow base e size v n xs :=
  owns_same h fun g hv => by
    have hg := (h.lt g hv).2
    rw [hW, Array.getElem?_push_lt hg, ← Array.getElem?_eq_getElem hg]
theorem cellsH_heap {wr W : World} {t : TypeId} (x : Mh) (hW : W.heap = wr.heap.push (.cells #[.string x.name, .bool x.up, x.val] t (0, 0))) : ∀ j u, (encH x)[j]? = some u → W.cell? ((⟨wr.heap.size, 0, none⟩ : Addr).add j) = some u := by
  intro j u hu
  have e : W.heap[wr.heap.size]? = some (.cells #[.string x.name, .bool x.up, x.val] t (0, 0)) := by rw [hW]; simp
  match j, hu with
  | 0, hu => simp [encH] at hu; subst hu; simp [Addr.add, World.cell?, e]
  | 1, hu => simp [encH] at hu; subst hu; simp [Addr.add, World.cell?, e]
  | 2, hu => simp [encH] at hu; subst hu; simp [Addr.add, World.cell?, e]
  | j + 3, hu => simp [encH] at hu
theorem encH_one (x : Mh) (hx : x.val.oneCell' = true) : ∀ v ∈ encH x, v.oneCell' = true := by
  intro v hv
  simp [encH] at hv
  rcases hv with rfl | rfl | rfl
  · rfl
  · rfl
  · exact hx
theorem step_append_h {ops : Array Oper} {o : Oper} {a : Act} {K : Act → World → Prop} {Q : Exit → Act → World → Prop} {E : Prop} {W : World} (wr : World) (x : Mh) (hx1 : x.val.oneCell' = true) (m : Nat) (hgd : o.guard = none) (so xo : Operand)
    (ho : o.op = .call { callee := .builtin .append, args := #[so, xo], argTypes := #[117, 117] }) (hW : W.heap = wr.heap.push (.cells #[.string x.name, .bool x.up, x.val] 122 (0, 0)))
    (v : Value) (L : List Mh) (hs : a.eval so = v) (hx : a.eval xo = .slice (some ⟨wr.heap.size, 0, none⟩) 1 1) (hown : wr.ownsRow (m + 1) 122 3 v L.length (flatH L)) (hl : L.length ≤ 208) (hm : m < wr.heap.size)
    (h : ∀ g cap w', w'.ownsRow (m + 1) 122 3 (.slice (some ⟨g, 0, none⟩) (L.length + 1) cap) (L.length + 1) (flatH (L ++ [x])) → W.grownBy w' v.ownBlock → (v.ownBlock = some g ∨ g = wr.heap.size + 1) → K (a.put o.dst (.slice (some ⟨g, 0, none⟩) (L.length + 1) cap)) w') :
    if Region.wanted o (yielded ops a.tmps) = true then Oper.wp Tryd.prog o a W K Q else E := by
  obtain ⟨i, hi, hz0, hz1, hz2⟩ := info_parts infoH
  have hsz : W.heap.size = wr.heap.size + 1 := by rw [hW]; simp
  refine step_append_lies W hgd so xo 117 ho (m + 1) 122 i _ 3 48 Tryd.underlying117 hi hz0 hz1 hz2 rfl (by decide) v L.length (flatH L) hs (howns_heap hown hW) ⟨wr.heap.size, 0, none⟩ 1 1 (encH x) hx rfl (cellsH_heap x hW) (encH_one x hx1) (by decide) (by unfold maxLen; omega) (by omega) (by omega) (wr.heap.size + 1) hsz ?_
  intro g cp w1 hown1 hgr hat _
  rw [← flatH_snoc] at hown1
  exact h g cp w1 hown1 hgr hat

/-- the model's hosts, when it is new -/
def newM (xs : List ByteArray) : List Mh := xs.map fun s => ⟨s, true, [], .slice none 0 0⟩
theorem newM_snoc (xs : List ByteArray) {k : Nat} (h : k < xs.length) : newM (xs.take (k + 1)) = newM (xs.take k) ++ [⟨xs[k], true, [], .slice none 0 0⟩] := by
  unfold newM
  rw [List.take_succ_eq_append_getElem h, List.map_append]
  rfl
theorem newM_hst (xs : List ByteArray) : hst (newM xs) = Lh.hnew xs := by
  unfold hst newM Lh.hnew
  rw [List.map_map]
  rfl
theorem newM_MH {W : World} {m f r : Nat} {xs : List ByteArray} {lv : Value} (c0 : W.cell? ⟨m, 0, none⟩ = some (.int .i64 (f : Nat))) (c1 : W.cell? ⟨m, 1, none⟩ = some (.int .i64 (r : Nat))) (c2 : W.cell? ⟨m, 2, none⟩ = some lv) (fz : ∀ k, W.frozen? ⟨m, k, none⟩ = false) (own : W.ownsRow (m + 1) 122 3 lv (newM xs).length (flatH (newM xs))) : MH W m f r (newM xs) lv := by
  refine ⟨c0, c1, c2, fz, own, fun x hx => ?_, fun x hx => ?_, ?_⟩
  · obtain ⟨s, _, rfl⟩ := List.mem_map.1 hx
    exact World.ownsRow_nil _ _ _ _
  · obtain ⟨s, _, rfl⟩ := List.mem_map.1 hx
    exact Or.inl rfl
  · unfold newM
    rw [List.pairwise_map]
    exact List.pairwise_of_forall fun _ _ => Or.inl rfl

set_option maxRecDepth 100000 in
set_option maxHeartbeats 4000000 in
theorem newHealth_any (p : Option Addr) (cap : Nat) (xs : List ByteArray) (f r : Nat) (w : World) (hx : ∀ k (h : k < xs.length), ∃ b o, p = some ⟨b, o, none⟩ ∧ w.cell? ⟨b, o + k, none⟩ = some (.string xs[k])) (hl : xs.length ≤ 12) (_hf : f ≤ 10) (_hr : r ≤ 10) :
    Calls Tryd.prog 34 #[.slice p xs.length cap, .int .i64 (f : Nat), .int .i64 (r : Nat)] w fun e w' => ∃ m lv, e = .returned (.pointer (some ⟨m, 0, none⟩)) ∧ MH w' m f r (newM xs) lv ∧ w.heap.size ≤ m ∧ Below w.heap.size w w' := by
  have HX : Hid (∀ k (h : k < xs.length), ∃ b o, p = some ⟨b, o, none⟩ ∧ w.cell? ⟨b, o + k, none⟩ = some (.string xs[k])) := hx
  clear hx
  obtain ⟨m, hm⟩ : ∃ m, w.heap.size = m := ⟨_, rfl⟩
  have HMB : Hid (w.heap.size = m) := hm
  go_enter Tryd.func34, Tryd.ntmps34
  go_wp2_with fail
  have hbW := (Below.refl w.heap.size w).alloc (Nat.le_refl _) (.cells #[.int .i64 (f : Nat), .int .i64 (r : Nat), .slice none 0 0] 119)
  have a0 : (w.alloc (.cells #[.int .i64 (f : Nat), .int .i64 (r : Nat), .slice none 0 0] 119)).cell? ⟨m, 0, none⟩ = some (.int .i64 (f : Nat)) := by rw [← hm]; simp
  have a1 : (w.alloc (.cells #[.int .i64 (f : Nat), .int .i64 (r : Nat), .slice none 0 0] 119)).cell? ⟨m, 1, none⟩ = some (.int .i64 (r : Nat)) := by rw [← hm]; simp
  have a2 : (w.alloc (.cells #[.int .i64 (f : Nat), .int .i64 (r : Nat), .slice none 0 0] 119)).cell? ⟨m, 2, none⟩ = some (.slice none 0 0) := by rw [← hm]; simp
  have af : ∀ k, (w.alloc (.cells #[.int .i64 (f : Nat), .int .i64 (r : Nat), .slice none 0 0] 119)).frozen? ⟨m, k, none⟩ = false := fun k => by rw [← hm]; simp
  rw [hm] at hbW
  generalize w.alloc (.cells #[.int .i64 (f : Nat), .int .i64 (r : Nat), .slice none 0 0] 119) = w0 at *
  clear hm
  go_loopw [8] (fun t W => Below m w W ∧ ∃ k : Nat, k ≤ xs.length ∧ t = .int .i64 k ∧ ∃ v, W.cell? ⟨m, 0, none⟩ = some (.int .i64 (f : Nat)) ∧ W.cell? ⟨m, 1, none⟩ = some (.int .i64 (r : Nat)) ∧ W.cell? ⟨m, 2, none⟩ = some v ∧ (∀ k, W.frozen? ⟨m, k, none⟩ = false) ∧ W.ownsRow (m + 1) 122 3 v (newM (xs.take k)).length (flatH (newM (xs.take k)))) (fun t _ => xs.length - (intOf t).toNat)
  case atStart => exact ⟨hbW, 0, Nat.zero_le _, rfl, _, a0, a1, a2, af, World.ownsRow_nil _ _ _ _⟩
  case round =>
    clear a0 a1 a2 af hbW
    obtain ⟨hb, k, hk, rfl, v, cr0, cr1, cr2, frz, hown⟩ := hrel
    by_cases hlt : k < xs.length
    · obtain ⟨b, o, rfl, hck⟩ := HX.out k hlt
      have hblt : b < m := by rw [← HMB.out]; exact World.block_lt_of_cell? w ⟨b, o + k, none⟩ hck
      have cx : wr.cell? ⟨b, o + k, none⟩ = some (.string xs[k]) := below_cell (by rw [HMB.out]; exact hb) hck
      have HP : Hid (newM (xs.take (k + 1)) = newM (xs.take k) ++ [⟨xs[k], true, [], .slice none 0 0⟩]) := newM_snoc xs hlt
      have hlen : (newM (xs.take k)).length ≤ 208 := by
        unfold newM
        rw [List.length_map, List.length_take]
        omega
      generalize newM (xs.take k) = P1 at *
      generalize xs[k] = s at *
      have hki : (k : Int) < (xs.length : Int) := by omega
      have HNE : Hid (∀ x, x ≤ m → some x ≠ v.ownBlock) := fun x hx e => by
        have := (hown.lt x e.symm).1
        omega
      have hrl : m < wr.heap.size := World.block_lt_of_cell? wr ⟨m, 0, none⟩ cr0
      have HOWN : Hid (wr.ownsRow (m + 1) 122 3 v P1.length (flatH P1)) := hown
      have HFZ : Hid (∀ k, wr.frozen? ⟨m, k, none⟩ = false) := frz
      have fr2 := frz 2
      have hbr : b ≠ m := by omega
      have hrb2 : m ≠ b := by omega
      clear hown hck frz
      go_wp2_with fail
      go_region_law (first
        | (refine step_append_h wr ⟨s, true, [], .slice none 0 0⟩ rfl m rfl _ _ rfl rfl v P1 rfl rfl HOWN.out hlen hrl ?_
           intro g cp w1 hown1 hgr _
           have hr0 := hfar_cell (wr := wr) (x := m) (k := 0) rfl hgr (HNE.out m (Nat.le_refl _)) cr0
           have hr1 := hfar_cell (wr := wr) (x := m) (k := 1) rfl hgr (HNE.out m (Nat.le_refl _)) cr1
           have hr2 := hfar_cell (wr := wr) (x := m) (k := 2) rfl hgr (HNE.out m (Nat.le_refl _)) cr2
           have fr1 := hfar_frozen (wr := wr) (x := m) (k := 2) rfl hgr (HNE.out m (Nat.le_refl _)) hrl fr2
           have HFR : Hid (∀ k, w1.frozen? ⟨m, k, none⟩ = false) := fun k => hfar_frozen (wr := wr) (x := m) (k := k) rfl hgr (HNE.out m (Nat.le_refl _)) hrl (HFZ.out k)))
      all_goals
        have hbw1 : Below m w w1 := by
          refine (hb.trans (below_drewN ((Below.refl m wr).alloc (Nat.le_of_lt hrl) _) 1)).grown hgr (by simp; omega) (fun q e => ?_)
          · refine Nat.le_of_lt (Nat.lt_of_not_le fun h => HNE.out q h ?_)
            exact e.symm
        have hbw2 : Below m w (w1.setCell ⟨m, 2, none⟩ (.slice (some ⟨g, 0, none⟩) (P1.length + 1) cp)) := hbw1.setCell (Nat.le_refl _) _
        have hownN := howns_setCell (k := 2) hown1 (Nat.lt_succ_self m) (.slice (some ⟨g, 0, none⟩) (P1.length + 1) cp)
        have crN0 : (w1.setCell ⟨m, 2, none⟩ (.slice (some ⟨g, 0, none⟩) (P1.length + 1) cp)).cell? ⟨m, 0, none⟩ = some (.int .i64 (f : Nat)) := by simp [go_sem, hr0]
        have crN1 : (w1.setCell ⟨m, 2, none⟩ (.slice (some ⟨g, 0, none⟩) (P1.length + 1) cp)).cell? ⟨m, 1, none⟩ = some (.int .i64 (r : Nat)) := by simp [go_sem, hr1]
        have crN2 : (w1.setCell ⟨m, 2, none⟩ (.slice (some ⟨g, 0, none⟩) (P1.length + 1) cp)).cell? ⟨m, 2, none⟩ = some (.slice (some ⟨g, 0, none⟩) (P1.length + 1) cp) := by simp [go_sem, hr2]
        have frN : ∀ k, (w1.setCell ⟨m, 2, none⟩ (.slice (some ⟨g, 0, none⟩) (P1.length + 1) cp)).frozen? ⟨m, k, none⟩ = false := fun k => by simp [go_sem, HFR.out k]
        have HFN : Hid (∀ k, (w1.setCell ⟨m, 2, none⟩ (.slice (some ⟨g, 0, none⟩) (P1.length + 1) cp)).frozen? ⟨m, k, none⟩ = false) := frN
        clear hown1 hgr hr0 hr1 hr2 fr1 hbw1 cr0 cr1 cr2 fr2 cx hb HFR frN
        generalize w1.setCell ⟨m, 2, none⟩ (.slice (some ⟨g, 0, none⟩) (P1.length + 1) cp) = wN at *
        go_wp2
        refine ⟨⟨hbw2, k + 1, by omega, by go_num, _, crN0, crN1, crN2, HFN.out, ?_⟩, by simp [intOf]; omega⟩
        rw [HP.out, List.length_append]
        exact hownN
    · have hkk : k = xs.length := by omega
      have HMH : Hid (MH wr m f r (newM xs) v) := by
        rw [hkk, List.take_length] at hown
        exact newM_MH cr0 cr1 cr2 frz hown
      have hki : decide ((k : Int) < (xs.length : Int)) = false := by simp; omega
      clear hown frz hkk
      go_wp2
      go_ret
      exact ⟨m, v, rfl, HMH.out, by rw [HMB.out]; exact Nat.le_refl _, by rw [HMB.out]; exact hb⟩
end Go.Proofs.YtkpjecpaejdgaabDoor
