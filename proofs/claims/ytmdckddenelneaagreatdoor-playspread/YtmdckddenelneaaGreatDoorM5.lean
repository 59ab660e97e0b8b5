/- The landed health in memory: a block, a row of pointers, a block a host; find. -/
import Derived.Test.YtmdckddenelneaaGreatDoorM4
import Derived.Shelf.Abstract
import Derived.BigQuiet
import Derived.Deep.RegionHeld3
namespace Go.Proofs.YtmdckddenelneaaGreatDoor
open Go.RowKit Go.Shelf

def ptrS (b : Nat) : Value := .pointer (some ⟨b, 0, none⟩)
/-- Block b is a host's state. -/
structure HSt (W : World) (b : Nat) (x : Lh.Hh) : Prop where
  c0 : W.cell? ⟨b, 0, none⟩ = some (.string x.1)
  c1 : W.cell? ⟨b, 1, none⟩ = some (.bool x.2.1)
  c2 : W.cell? ⟨b, 2, none⟩ = some (.int .i64 (x.2.2 : Nat))
  fz : ∀ k, W.frozen? ⟨b, k, none⟩ = false
  blk : ∃ cs t, W.heap[b]? = some (.cells cs t (0, 0))
theorem HSt.lt {W : World} {b : Nat} {x : Lh.Hh} (h : HSt W b x) : b < W.heap.size := World.block_lt_of_cell? W ⟨b, 0, none⟩ h.c0
theorem HSt.same {W W' : World} {b : Nat} {x : Lh.Hh} (h : HSt W b x) (e : W'.heap[b]? = W.heap[b]?) : HSt W' b x :=
  ⟨(World.cell?_of_block (w := W) (w' := W') (a := ⟨b, 0, none⟩) e).trans h.c0, (World.cell?_of_block (w := W) (w' := W') (a := ⟨b, 1, none⟩) e).trans h.c1, (World.cell?_of_block (w := W) (w' := W') (a := ⟨b, 2, none⟩) e).trans h.c2, fun k => (World.frozen?_of_block (w := W) (w' := W') (a := ⟨b, k, none⟩) e).trans (h.fz k), by rw [e]; exact h.blk⟩
/-- Block p is the landed health. -/
structure HR (W : World) (p f r : Nat) (l : List Lh.Hh) (bs : List Nat) (lv : Value) : Prop where
  c0 : W.cell? ⟨p, 0, none⟩ = some (.int .i64 (f : Nat))
  c1 : W.cell? ⟨p, 1, none⟩ = some (.int .i64 (r : Nat))
  c2 : W.cell? ⟨p, 2, none⟩ = some lv
  fz : ∀ k, W.frozen? ⟨p, k, none⟩ = false
  own : W.ownsRow (p + 1) 135 1 lv l.length (bs.map ptrS)
  len : bs.length = l.length
  st : ∀ i (h : i < l.length) (h2 : i < bs.length), HSt W bs[i] l[i]
  nd : bs.Nodup
  gt : ∀ b ∈ bs, p < b
  apart : ∀ b ∈ bs, lv.ownBlock ≠ some b
/-- the blocks that it is made of -/
def HFoot (p : Nat) (bs : List Nat) (lv : Value) (b : Nat) : Prop := b = p ∨ lv.ownBlock = some b ∨ b ∈ bs
section
variable {W W' : World} {p f r : Nat} {l : List Lh.Hh} {bs : List Nat} {lv : Value}
theorem HR.plt (h : HR W p f r l bs lv) : p < W.heap.size := World.block_lt_of_cell? W ⟨p, 0, none⟩ h.c0
theorem HR.blt (h : HR W p f r l bs lv) {b : Nat} (hb : b ∈ bs) : b < W.heap.size := by
  obtain ⟨i, hi, rfl⟩ := List.getElem_of_mem hb
  exact (h.st i (by rw [← h.len]; exact hi) hi).lt
theorem HR.lt (h : HR W p f r l bs lv) : ∀ b, HFoot p bs lv b → b < W.heap.size ∧ p ≤ b := by
  rintro b (rfl | e | hb)
  · exact ⟨h.plt, Nat.le_refl _⟩
  · have := h.own.lt b e
    omega
  · exact ⟨h.blt hb, Nat.le_of_lt (h.gt b hb)⟩
theorem HR.stay (h : HR W p f r l bs lv) (hs : ∀ b, HFoot p bs lv b → W'.heap[b]? = W.heap[b]?) : HR W' p f r l bs lv := by
  have hm := hs p (Or.inl rfl)
  refine ⟨?_, ?_, ?_, fun k => ?_, owns_same h.own fun g e => hs g (Or.inr (Or.inl e)), h.len, fun i h1 h2 => (h.st i h1 h2).same (hs _ (Or.inr (Or.inr (List.getElem_mem h2)))), h.nd, h.gt, h.apart⟩
  · rw [World.cell?_of_block (w := W) (w' := W') (a := ⟨p, 0, none⟩) hm]; exact h.c0
  · rw [World.cell?_of_block (w := W) (w' := W') (a := ⟨p, 1, none⟩) hm]; exact h.c1
  · rw [World.cell?_of_block (w := W) (w' := W') (a := ⟨p, 2, none⟩) hm]; exact h.c2
  · rw [World.frozen?_of_block (w := W) (w' := W') (a := ⟨p, k, none⟩) hm]; exact h.fz k
theorem HR.later (h : HR W p f r l bs lv) (hb : Below W.heap.size W W') : HR W' p f r l bs lv := h.stay fun b hf => hb.block b (h.lt b hf).1
/-- the row's cells -/
theorem HR.row (h : HR W p f r l bs lv) (h0 : 0 < l.length) : ∃ g cap, lv = .slice (some ⟨g, 0, none⟩) l.length cap ∧ l.length ≤ cap ∧ cap ≤ maxLen ∧ p < g ∧ (∀ i (h2 : i < bs.length), W.cell? ⟨g, i, none⟩ = some (ptrS bs[i])) ∧ ∀ k, W.frozen? ⟨g, k, none⟩ = false := by
  obtain ⟨hl, ⟨e0, h'⟩ | ⟨g, cap, cur, rfl, hbase, hb, hn, hm, hsz, ht⟩⟩ := h.own
  · omega
  · refine ⟨g, cap, rfl, hn, hm, by omega, fun i hi => ?_, fun k => by simp [World.frozen?, hb]⟩
    have hl := h.len
    have h1 : (bs.map ptrS)[i]? = some (ptrS bs[i]) := by simp [hi]
    rw [← ht, List.getElem?_take_of_lt (by omega)] at h1
    simp only [World.cell?, hb]
    simpa using h1
theorem HR.shape (h : HR W p f r l bs lv) : ∃ q cap, lv = .slice q l.length cap := by
  obtain ⟨_, ⟨rfl, h'⟩ | ⟨g, cap, cur, rfl, _⟩⟩ := h.own
  · exact ⟨_, _, by rw [h']⟩
  · exact ⟨_, _, rfl⟩
end

set_option maxHeartbeats 1000000 in
/-- the function handed to slices.IndexFunc -/
theorem findC (hb b : Nat) (s t : ByteArray) (W : World) (h1 : W.cell? ⟨hb, 0, none⟩ = some (.string s)) (h2 : W.cell? ⟨b, 0, none⟩ = some (.string t)) :
    Calls Tryz.prog 179 #[ptrS b, ptrS hb] W fun e w' => e = .returned (.bool (decide (t = s))) ∧ Below W.heap.size W w' := by
  unfold ptrS
  by_cases he : t = s
  · have hq := bytes_same he
    have HE : Hid (t = s) := he
    clear he
    go_enter Tryz.func179, Tryz.ntmps179
    go_wp2
    go_quiet (fail)
    go_wp2
    go_ret
    exact ⟨by simp [HE.out], below_drewN (Below.refl _ _) _⟩
  · have hq := bytes_parts he
    have HE : Hid (¬ t = s) := he
    clear he
    go_enter Tryz.func179, Tryz.ntmps179
    go_wp2
    go_quiet (fail)
    go_wp2
    go_ret
    exact ⟨by simp [HE.out], below_drewN (Below.refl _ _) _⟩
theorem entersFd : ∀ args w, (callFunc 179 args).run Tryz.prog w = .ok (.enter 179 args) w := enters_of Tryz.func179 (by kernel_rfl) rfl

set_option maxRecDepth 100000 in
set_option maxHeartbeats 2000000 in
theorem indexS_core (hb : Nat) (q : Option Addr) (c : Nat) (l : List Lh.Hh) (bs : List Nat) (s : ByteArray) (W : World) (hlen : bs.length = l.length) (hl : l.length ≤ 12) (hc : ∀ k (h : k < l.length) (h2 : k < bs.length), ∃ g, q = some ⟨g, 0, none⟩ ∧ W.cell? ⟨g, k, none⟩ = some (ptrS bs[k]) ∧ W.cell? ⟨bs[k], 0, none⟩ = some (.string (l[k]).1)) (h1 : W.cell? ⟨hb, 0, none⟩ = some (.string s)) :
    Calls Tryz.prog 178 #[.slice q l.length c, .func (.func 179) #[] #[ptrS hb]] W fun e w' => e = .returned (.int .i64 (fi l s)) ∧ Below W.heap.size W w' := by
  have HC : Hid (∀ k (h : k < l.length) (h2 : k < bs.length), ∃ g, q = some ⟨g, 0, none⟩ ∧ W.cell? ⟨g, k, none⟩ = some (ptrS bs[k]) ∧ W.cell? ⟨bs[k], 0, none⟩ = some (.string (l[k]).1)) := hc
  have HCL : Hid (∀ (W' : World) (b : Nat) (t : ByteArray), Below W.heap.size W W' → W.cell? ⟨b, 0, none⟩ = some (.string t) → Calls Tryz.prog 179 #[ptrS b, ptrS hb] W' fun e w' => e = .returned (.bool (decide (t = s))) ∧ Below W.heap.size W w') := fun W' b t hB h2 => (findC hb b s t W' (below_cell hB h1) (below_cell hB h2)).mono fun _ _ ⟨e, k⟩ => ⟨e, below_then hB k⟩
  have HLN : Hid (bs.length = l.length) := hlen
  have eg := entersFd
  clear hc h1 hlen
  go_enter Tryz.func178, Tryz.ntmps178
  go_wp2_with fail
  go_loopw [5, 8] (fun _ t W' => Below W.heap.size W W' ∧ ∃ k : Nat, k ≤ l.length ∧ t = .int .i64 (k : Nat) ∧ ∀ j (h : j < l.length), j < k → (l[j]).1 ≠ s) (fun _ t _ => l.length + 1 - (intOf t).toNat)
  case atStart => exact ⟨Below.refl _ _, 0, Nat.zero_le _, rfl, fun j _ h => absurd h (by omega)⟩
  case round =>
    obtain ⟨hB, k, hk, rfl, hp⟩ := hrel
    have HP : Hid (∀ j (h : j < l.length), j < k → (l[j]).1 ≠ s) := hp
    clear hp
    by_cases hlt : k < l.length
    · have hlt2 : k < bs.length := by rw [HLN.out]; exact hlt
      obtain ⟨g, rfl, c1, c2⟩ := HC.out k hlt hlt2
      have hki : (k : Int) < (l.length : Int) := by omega
      have hcall := HCL.out _ _ _ hB c2
      have c1' := below_cell hB c1
      have HE : Hid (decide ((l[k]).1 = s) = true → fi l s = (k : Nat)) := fun h => by
        have h1 := fi_at hlt HP.out (of_decide_eq_true h)
        unfold fi
        rw [h1, if_pos hlt]
      have HN : Hid (decide ((l[k]).1 = s) = false → ∀ j (h : j < l.length), j < k + 1 → (l[j]).1 ≠ s) := fun h j hj hjk => by
        by_cases e : j = k
        · subst e
          exact of_decide_eq_false h
        · exact HP.out j hj (by omega)
      clear c1 c2
      generalize bs[k] = b at *
      unfold ptrS at c1' hcall
      unfold ptrS
      cases hd : decide ((l[k]).1 = s) with
      | true =>
        have HE2 : Hid (fi l s = (k : Nat)) := HE.out hd
        rw [hd] at hcall
        clear hd HN HE
        go_wp2_with (go_at_fn 179; refine hcall.mono ?_; rintro e w' ⟨rfl, hB2⟩)
        go_ret
        exact ⟨by rw [HE2.out]; rfl, hB2⟩
      | false =>
        have HN2 : Hid (∀ j (h : j < l.length), j < k + 1 → (l[j]).1 ≠ s) := HN.out hd
        rw [hd] at hcall
        clear hd HN HE
        go_wp2_with (go_at_fn 179; refine hcall.mono ?_; rintro e w' ⟨rfl, hB2⟩)
        go_roundw
        case rel => exact ⟨hB2, k + 1, by omega, by go_num, HN2.out⟩
        case measure => simp [intOf]; omega
    · have hki : decide ((k : Int) < (l.length : Int)) = false := by simp; omega
      have HF : Hid (fi l s = -1) := by
        show fi l s = -1
        unfold fi
        rw [if_neg]
        intro h
        exact HP.out _ h (by omega) (Lh.hix_get h)
      go_wp2
      go_ret
      exact ⟨by rw [HF.out]; rfl, hB⟩
end Go.Proofs.YtmdckddenelneaaGreatDoor

/- The landed health: find, Is and Look. -/
namespace Go.Proofs.YtmdckddenelneaaGreatDoor
open Go.RowKit Go.Shelf

theorem Tur.setCell {F : Nat → Prop} {w w' : World} (h : Tur F w w') {x : Nat} (k : Nat) (hx : F x ∨ w.heap.size ≤ x) (v : Value) : Tur F w (w'.setCell ⟨x, k, none⟩ v) :=
  ⟨h.os, h.tape, h.output, by simpa [World.setCell] using h.size, fun j hj hf => (heap_setCell_other w' ⟨x, k, none⟩ j v (fun e => by
    rcases hx with h1 | h1
    · exact hf (e ▸ h1)
    · have : j = x := e
      omega)).trans (h.block j hj hf)⟩
section
variable {W W' : World} {p f r : Nat} {l : List Lh.Hh} {bs : List Nat} {lv : Value}
theorem HR.at (h : HR W p f r l bs lv) {k : Nat} (hk : k < l.length) : ∃ b, bs[k]? = some b := ⟨bs[k]'(by rw [h.len]; exact hk), by simp [h.len, hk]⟩
theorem HR.stAt (h : HR W p f r l bs lv) {k b : Nat} (hb : bs[k]? = some b) (hk : k < l.length) : HSt W b l[k] := by
  obtain ⟨h2, rfl⟩ := List.getElem?_eq_some_iff.1 hb
  exact h.st k hk h2
theorem HR.turned (h : HR W p f r l bs lv) {k b : Nat} (hb : bs[k]? = some b) (_hk : k < l.length) (hT : Tur (fun j => j = b) W W') {x : Lh.Hh} (hx : HSt W' b x) : HR W' p f r (l.set k x) bs lv ∧ Tur (HFoot p bs lv) W W' := by
  obtain ⟨h2, e⟩ := List.getElem?_eq_some_iff.1 hb
  have hmem : b ∈ bs := e ▸ List.getElem_mem h2
  have hp := hT.block p h.plt (fun e1 => by have := h.gt b hmem; omega)
  refine ⟨⟨?_, ?_, ?_, fun j => ?_, ?_, by simpa using h.len, fun i h3 h4 => ?_, h.nd, h.gt, h.apart⟩, ⟨hT.os, hT.tape, hT.output, hT.size, fun j hj hf => hT.block j hj fun e1 => hf (Or.inr (Or.inr (e1 ▸ hmem)))⟩⟩
  · rw [World.cell?_of_block (w := W) (w' := W') (a := ⟨p, 0, none⟩) hp]; exact h.c0
  · rw [World.cell?_of_block (w := W) (w' := W') (a := ⟨p, 1, none⟩) hp]; exact h.c1
  · rw [World.cell?_of_block (w := W) (w' := W') (a := ⟨p, 2, none⟩) hp]; exact h.c2
  · rw [World.frozen?_of_block (w := W) (w' := W') (a := ⟨p, j, none⟩) hp]; exact h.fz j
  · rw [List.length_set]
    exact owns_same h.own fun g eg => hT.block g (h.own.lt g eg).2 (fun e1 => h.apart b hmem (by rw [eg, e1]))
  · by_cases eik : k = i
    · subst eik
      rw [List.getElem_set_self]
      rw [e]
      exact hx
    · rw [List.getElem_set_ne eik]
      have h5 : i < l.length := by simpa using h3
      refine (h.st i h5 h4).same (hT.block _ (h.st i h5 h4).lt fun e1 => eik ?_)
      have e2 : bs[k] = bs[i] := by rw [e, e1]
      exact (List.getElem_inj h.nd).1 e2

set_option maxHeartbeats 1000000 in
theorem findS_good (h : HR W p f r l bs lv) (hl : l.length ≤ 12) (s : ByteArray) (hx : Lh.hix l s < l.length) {b : Nat} (hb : bs[Lh.hix l s]? = some b) :
    Calls Tryz.prog 153 #[.pointer (some ⟨p, 0, none⟩), .string s] W fun e w' => e = .returned (.pointer (some ⟨b, 0, none⟩)) ∧ Below W.heap.size W w' := by
  have hb1 : Below W.heap.size W (W.alloc (.cells #[.string s] 9)) := (Below.refl _ _).alloc (Nat.le_refl _) _
  have h' := h.later hb1
  obtain ⟨g, cap, rfl, hcap, hcm, _, hrow, _⟩ := h'.row (by omega)
  have c2 := h'.c2
  have hxx := indexS_core W.heap.size (some ⟨g, 0, none⟩) cap l bs s _ h.len hl (fun k h1 h2 => ⟨g, rfl, hrow k h2, (h'.st k h1 h2).c0⟩) (by simp)
  have e1 : fi l s = (Lh.hix l s : Nat) := by unfold fi; rw [if_pos hx]
  rw [e1] at hxx
  obtain ⟨h2, e⟩ := List.getElem?_eq_some_iff.1 hb
  have cb := hrow _ h2
  rw [e] at cb
  have hki : ((Lh.hix l s : Nat) : Int) < (l.length : Int) := by omega
  unfold maxLen at hcm
  unfold ptrS at cb hxx
  clear h h' hrow e hb h2 e1 hx
  generalize Lh.hix l s = k at *
  have d0 : decide ((k : Int) < 0) = false := by simp
  go_enter Tryz.func153, Tryz.ntmps153
  go_wp2_with fail
  refine hxx.mono ?_
  rintro e w' ⟨rfl, hb2⟩
  have hb3 := below_then hb1 hb2
  have c2' := below_cell hb2 c2
  have cb' := below_cell hb2 cb
  clear hxx hb1 hb2 c2 cb
  go_wp2
  go_ret
  exact ⟨rfl, hb3⟩

set_option maxHeartbeats 1000000 in
theorem findS_none (h : HR W p f r l bs lv) (hl : l.length ≤ 12) (s : ByteArray) (hx : ¬ Lh.hix l s < l.length) :
    Calls Tryz.prog 153 #[.pointer (some ⟨p, 0, none⟩), .string s] W fun e w' => e = .returned (.pointer none) ∧ Below W.heap.size W w' := by
  have hb1 : Below W.heap.size W (W.alloc (.cells #[.string s] 9)) := (Below.refl _ _).alloc (Nat.le_refl _) _
  have h' := h.later hb1
  obtain ⟨q, cap, rfl⟩ := h'.shape
  have c2 := h'.c2
  have hxx := indexS_core W.heap.size q cap l bs s _ h.len hl (fun k h1 h2 => by
    obtain ⟨g, cap', e, _, _, _, hrow, _⟩ := h'.row (by omega)
    cases e
    exact ⟨g, rfl, hrow k h2, (h'.st k h1 h2).c0⟩) (by simp)
  have e1 : fi l s = -1 := by unfold fi; rw [if_neg hx]
  rw [e1] at hxx
  unfold ptrS at hxx
  clear h h' e1 hx
  go_enter Tryz.func153, Tryz.ntmps153
  go_wp2_with fail
  refine hxx.mono ?_
  rintro e w' ⟨rfl, hb2⟩
  have hb3 := below_then hb1 hb2
  clear hxx hb1 hb2 c2
  go_wp2
  go_ret
  exact ⟨rfl, hb3⟩

set_option maxHeartbeats 1000000 in
/-- Is. -/
theorem isS_any (h : HR W p f r l bs lv) (hk : Lh.HOk f r l) (s : ByteArray) :
    Calls Tryz.prog 111 #[.pointer (some ⟨p, 0, none⟩), .string s] W fun e w' => e = .returned (.bool (Lh.hup l s)) ∧ Below W.heap.size W w' := by
  by_cases hx : Lh.hix l s < l.length
  · have HU : Hid (Lh.hup l s = (l[Lh.hix l s]).2.1) := hup_at hk.nodup hx
    obtain ⟨b, hb⟩ := h.at hx
    have hfd := findS_good h hk.len s hx hb
    have c1 := (h.stAt hb hx).c1
    clear h hb hk
    generalize (l[Lh.hix l s]).2.1 = u at *
    rw [HU.out]
    clear HU hx
    go_enter Tryz.func111, Tryz.ntmps111
    go_wp2_with fail
    refine hfd.mono ?_
    rintro e w1 ⟨rfl, hb1⟩
    have c1' := below_cell hb1 c1
    clear hfd c1
    go_wp2
    go_ret
    exact ⟨rfl, hb1⟩
  · have hfd := findS_none h hk.len s hx
    rw [hup_none hx]
    clear h hk hx
    go_enter Tryz.func111, Tryz.ntmps111
    go_wp2_with fail
    refine hfd.mono ?_
    rintro e w1 ⟨rfl, hb1⟩
    clear hfd
    go_wp2
    go_ret
    exact ⟨rfl, hb1⟩

set_option maxHeartbeats 1000000 in
theorem edge_any (p f r : Nat) (u : Bool) (W : World) (c0 : W.cell? ⟨p, 0, none⟩ = some (.int .i64 (f : Nat))) (c1 : W.cell? ⟨p, 1, none⟩ = some (.int .i64 (r : Nat))) :
    Calls Tryz.prog 154 #[.pointer (some ⟨p, 0, none⟩), .bool u] W fun e w' => e = .returned (.int .i64 (Lh.hedge f r u : Nat)) ∧ w' = W := by
  cases u with
  | true =>
    go_enter Tryz.func154, Tryz.ntmps154
    go_wp2
    go_ret
    exact ⟨by simp [Lh.hedge], rfl⟩
  | false =>
    go_enter Tryz.func154, Tryz.ntmps154
    go_wp2
    go_ret
    exact ⟨by simp [Lh.hedge], rfl⟩
end
end Go.Proofs.YtmdckddenelneaaGreatDoor
