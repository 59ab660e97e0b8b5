/- The landed health in memory: a block, a row of pointers, a block a host; find. -/
import Derived.Test.YtmkdpchodeckgaaDoorM6
import Derived.Shelf.Abstract
import Derived.BigQuiet
import Derived.Deep.RegionHeld3
namespace Go.Proofs.YtmkdpchodeckgaaDoor
open Go.RowKit Go.Shelf

def ptrS (b : Nat) : Value := .pointer (some ⟨b, 0, none⟩)
/-- Block b is a host's state. -/
structure HSt (W : World) (b : Nat) (x : Lh.Hh) : Prop where
  c0 : W.cell? ⟨b, 0, none⟩ = some (.string x.1)
  c1 : W.cell? ⟨b, 1, none⟩ = some (.bool x.2.1)
  c2 : W.cell? ⟨b, 2, none⟩ = some (.int .i64 (x.2.2 : Nat))
  fz : ∀ k, W.frozen? ⟨b, k, none⟩ = false
  blk : ∃ cs t, W.heap[b]? = some (.cells cs t (0, 0))
theorem HSt.lt {W : World} {b : Nat} {x : Lh.Hh} (h : HSt W b x) : b < W.heap.size := World.block_lt_of_cell? W ⟨b, 0, none⟩ h.c0
theorem HSt.same {W W' : World} {b : Nat} {x : Lh.Hh} (h : HSt W b x) (e : W'.heap[b]? = W.heap[b]?) : HSt W' b x :=
  ⟨(World.cell?_of_block (w := W) (w' := W') (a := ⟨b, 0, none⟩) e).trans h.c0, (World.cell?_of_block (w := W) (w' := W') (a := ⟨b, 1, none⟩) e).trans h.c1, (World.cell?_of_block (w := W) (w' := W') (a := ⟨b, 2, none⟩) e).trans h.c2, fun k => (World.frozen?_of_block (w := W) (w' := W') (a := ⟨b, k, none⟩) e).trans (h.fz k), by rw [e]; exact h.blk⟩
/-- Block p is the landed health. -/
structure HR (W : World) (p f r : Nat) (l : List Lh.Hh) (bs : List Nat) (lv : Value) : Prop where
  c0 : W.cell? ⟨p, 0, none⟩ = some (.int .i64 (f : Nat))
  c1 : W.cell? ⟨p, 1, none⟩ = some (.int .i64 (r : Nat))
  c2 : W.cell? ⟨p, 2, none⟩ = some lv
  fz : ∀ k, W.frozen? ⟨p, k, none⟩ = false
  own : W.ownsRow (p + 1) 61 1 lv l.length (bs.map ptrS)
  len : bs.length = l.length
  st : ∀ i (h : i < l.length) (h2 : i < bs.length), HSt W bs[i] l[i]
  nd : bs.Nodup
  gt : ∀ b ∈ bs, p < b
  apart : ∀ b ∈ bs, lv.ownBlock ≠ some b
/-- the blocks that it is made of -/
def HFoot (p : Nat) (bs : List Nat) (lv : Value) (b : Nat) : Prop := b = p ∨ lv.ownBlock = some b ∨ b ∈ bs
section
variable {W W' : World} {p f r : Nat} {l : List Lh.Hh} {bs : List Nat} {lv : Value}
theorem HR.plt (h : HR W p f r l bs lv) : p < W.heap.size := World.block_lt_of_cell? W ⟨p, 0, none⟩ h.c0
theorem HR.blt (h : HR W p f r l bs lv) {b : Nat} (hb : b ∈ bs) : b < W.heap.size := by
  obtain ⟨i, hi, rfl⟩ := List.getElem_of_mem hb
  exact (h.st i (by rw [← h.len]; exact hi) hi).lt
theorem HR.lt (h : HR W p f r l bs lv) : ∀ b, HFoot p bs lv b → b < W.heap.size ∧ p ≤ b := by
  rintro b (rfl | e | hb)
  · exact ⟨h.plt, Nat.le_refl _⟩
  · have := h.own.lt b e
    omega
  · exact ⟨h.blt hb, Nat.le_of_lt (h.gt b hb)⟩
theorem HR.stay (h : HR W p f r l bs lv) (hs : ∀ b, HFoot p bs lv b → W'.heap[b]? = W.heap[b]?) : HR W' p f r l bs lv := by
  have hm := hs p (Or.inl rfl)
  refine ⟨?_, ?_, ?_, fun k => ?_, owns_same h.own fun g e => hs g (Or.inr (Or.inl e)), h.len, fun i h1 h2 => (h.st i h1 h2).same (hs _ (Or.inr (Or.inr (List.getElem_mem h2)))), h.nd, h.gt, h.apart⟩
  · rw [World.cell?_of_block (w := W) (w' := W') (a := ⟨p, 0, none⟩) hm]; exact h.c0
  · rw [World.cell?_of_block (w := W) (w' := W') (a := ⟨p, 1, none⟩) hm]; exact h.c1
  · rw [World.cell?_of_block (w := W) (w' := W') (a := ⟨p, 2, none⟩) hm]; exact h.c2
  · rw [World.frozen?_of_block (w := W) (w' := W') (a := ⟨p, k, none⟩) hm]; exact h.fz k
theorem HR.later (h : HR W p f r l bs lv) (hb : Below W.heap.size W W') : HR W' p f r l bs lv := h.stay fun b hf => hb.block b (h.lt b hf).1
/-- the row's cells -/
theorem HR.row (h : HR W p f r l bs lv) (h0 : 0 < l.length) : ∃ g cap, lv = .slice (some ⟨g, 0, none⟩) l.length cap ∧ l.length ≤ cap ∧ cap ≤ maxLen ∧ p < g ∧ (∀ i (h2 : i < bs.length), W.cell? ⟨g, i, none⟩ = some (ptrS bs[i])) ∧ ∀ k, W.frozen? ⟨g, k, none⟩ = false := by
  obtain ⟨hl, ⟨e0, h'⟩ | ⟨g, cap, cur, rfl, hbase, hb, hn, hm, hsz, ht⟩⟩ := h.own
  · omega
  · refine ⟨g, cap, rfl, hn, hm, by omega, fun i hi => ?_, fun k => by simp [World.frozen?, hb]⟩
    have hl := h.len
    have h1 : (bs.map ptrS)[i]? = some (ptrS bs[i]) := by simp [hi]
    rw [← ht, List.getElem?_take_of_lt (by omega)] at h1
    simp only [World.cell?, hb]
    simpa using h1
theorem HR.shape (h : HR W p f r l bs lv) : ∃ q cap, lv = .slice q l.length cap := by
  obtain ⟨_, ⟨rfl, h'⟩ | ⟨g, cap, cur, rfl, _⟩⟩ := h.own
  · exact ⟨_, _, by rw [h']⟩
  · exact ⟨_, _, rfl⟩
end

set_option maxHeartbeats 1000000 in
/-- the function handed to slices.IndexFunc -/
theorem findC (hb b : Nat) (s t : ByteArray) (W : World) (h1 : W.cell? ⟨hb, 0, none⟩ = some (.string s)) (h2 : W.cell? ⟨b, 0, none⟩ = some (.string t)) :
    Calls Tryd.prog 47 #[ptrS b, ptrS hb] W fun e w' => e = .returned (.bool (decide (t = s))) ∧ Below W.heap.size W w' := by
  unfold ptrS
  by_cases he : t = s
  · have hq := bytes_same he
    have HE : Hid (t = s) := he
    clear he
    go_enter Tryd.func47, Tryd.ntmps47
    go_wp2
    go_quiet (fail)
    go_wp2
    go_ret
    exact ⟨by simp [HE.out], below_drewN (Below.refl _ _) _⟩
  · have hq := bytes_parts he
    have HE : Hid (¬ t = s) := he
    clear he
    go_enter Tryd.func47, Tryd.ntmps47
    go_wp2
    go_quiet (fail)
    go_wp2
    go_ret
    exact ⟨by simp [HE.out], below_drewN (Below.refl _ _) _⟩
theorem entersFd : ∀ args w, (callFunc 47 args).run Tryd.prog w = .ok (.enter 47 args) w := enters_of Tryd.func47 (by kernel_rfl) rfl

set_option maxRecDepth 100000 in
set_option maxHeartbeats 2000000 in
theorem indexS_core (hb : Nat) (q : Option Addr) (c : Nat) (l : List Lh.Hh) (bs : List Nat) (s : ByteArray) (W : World) (hlen : bs.length = l.length) (hl : l.length ≤ 12) (hc : ∀ k (h : k < l.length) (h2 : k < bs.length), ∃ g, q = some ⟨g, 0, none⟩ ∧ W.cell? ⟨g, k, none⟩ = some (ptrS bs[k]) ∧ W.cell? ⟨bs[k], 0, none⟩ = some (.string (l[k]).1)) (h1 : W.cell? ⟨hb, 0, none⟩ = some (.string s)) :
    Calls Tryd.prog 46 #[.slice q l.length c, .func (.func 47) #[] #[ptrS hb]] W fun e w' => e = .returned (.int .i64 (fi l s)) ∧ Below W.heap.size W w' := by
  have HC : Hid (∀ k (h : k < l.length) (h2 : k < bs.length), ∃ g, q = some ⟨g, 0, none⟩ ∧ W.cell? ⟨g, k, none⟩ = some (ptrS bs[k]) ∧ W.cell? ⟨bs[k], 0, none⟩ = some (.string (l[k]).1)) := hc
  have HCL : Hid (∀ (W' : World) (b : Nat) (t : ByteArray), Below W.heap.size W W' → W.cell? ⟨b, 0, none⟩ = some (.string t) → Calls Tryd.prog 47 #[ptrS b, ptrS hb] W' fun e w' => e = .returned (.bool (decide (t = s))) ∧ Below W.heap.size W w') := fun W' b t hB h2 => (findC hb b s t W' (below_cell hB h1) (below_cell hB h2)).mono fun _ _ ⟨e, k⟩ => ⟨e, below_then hB k⟩
  have HLN : Hid (bs.length = l.length) := hlen
  have eg := entersFd
  clear hc h1 hlen
  go_enter Tryd.func46, Tryd.ntmps46
  go_wp2_with fail
  go_loopw [5, 8] (fun _ t W' => Below W.heap.size W W' ∧ ∃ k : Nat, k ≤ l.length ∧ t = .int .i64 (k : Nat) ∧ ∀ j (h : j < l.length), j < k → (l[j]).1 ≠ s) (fun _ t _ => l.length + 1 - (intOf t).toNat)
  case atStart => exact ⟨Below.refl _ _, 0, Nat.zero_le _, rfl, fun j _ h => absurd h (by omega)⟩
  case round =>
    obtain ⟨hB, k, hk, rfl, hp⟩ := hrel
    have HP : Hid (∀ j (h : j < l.length), j < k → (l[j]).1 ≠ s) := hp
    clear hp
    by_cases hlt : k < l.length
    · have hlt2 : k < bs.length := by rw [HLN.out]; exact hlt
      obtain ⟨g, rfl, c1, c2⟩ := HC.out k hlt hlt2
      have hki : (k : Int) < (l.length : Int) := by omega
      have hcall := HCL.out _ _ _ hB c2
      have c1' := below_cell hB c1
      have HE : Hid (decide ((l[k]).1 = s) = true → fi l s = (k : Nat)) := fun h => by
        have h1 := fi_at hlt HP.out (of_decide_eq_true h)
        unfold fi
        rw [h1, if_pos hlt]
      have HN : Hid (decide ((l[k]).1 = s) = false → ∀ j (h : j < l.length), j < k + 1 → (l[j]).1 ≠ s) := fun h j hj hjk => by
        by_cases e : j = k
        · subst e
          exact of_decide_eq_false h
        · exact HP.out j hj (by omega)
      clear c1 c2
      generalize bs[k] = b at *
      unfold ptrS at c1' hcall
      unfold ptrS
      cases hd : decide ((l[k]).1 = s) with
      | true =>
        have HE2 : Hid (fi l s = (k : Nat)) := HE.out hd
        rw [hd] at hcall
        clear hd HN HE
        go_wp2_with (go_at_fn 47; refine hcall.mono ?_; rintro e w' ⟨rfl, hB2⟩)
        go_ret
        exact ⟨by rw [HE2.out]; rfl, hB2⟩
      | false =>
        have HN2 : Hid (∀ j (h : j < l.length), j < k + 1 → (l[j]).1 ≠ s) := HN.out hd
        rw [hd] at hcall
        clear hd HN HE
        go_wp2_with (go_at_fn 47; refine hcall.mono ?_; rintro e w' ⟨rfl, hB2⟩)
        go_roundw
        case rel => exact ⟨hB2, k + 1, by omega, by go_num, HN2.out⟩
        case measure => simp [intOf]; omega
    · have hki : decide ((k : Int) < (l.length : Int)) = false := by simp; omega
      have HF : Hid (fi l s = -1) := by
        show fi l s = -1
        unfold fi
        rw [if_neg]
        intro h
        exact HP.out _ h (by omega) (Lh.hix_get h)
      go_wp2
      go_ret
      exact ⟨by rw [HF.out]; rfl, hB⟩
end Go.Proofs.YtmkdpchodeckgaaDoor
