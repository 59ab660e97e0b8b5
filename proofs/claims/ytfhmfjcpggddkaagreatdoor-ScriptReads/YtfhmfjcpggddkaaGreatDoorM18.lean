/- Which host a new key goes to. -/
import Derived.Test.YtfhmfjcpggddkaaGreatDoorM15
import Derived.Test.YtfhmfjcpggddkaaGreatDoorM11
import Derived.Test.YtfhmfjcpggddkaaGreatDoorM17
import Derived.Test.YtfhmfjcpggddkaaGreatDoorM12
import Derived.Shelf.Abstract
import Derived.BigQuiet
import Derived.Deep.RegionHeld3
namespace Go.Proofs.YtfhmfjcpggddkaaGreatDoor
open Go.RowKit

/-- the host of a key's slot -/
def nwB (xs : List ByteArray) (n k : Nat) : ByteArray := if h : ((Lh.tab xs n n).getD (Lh.turn k % n) 0).toNat < xs.length then xs[((Lh.tab xs n n).getD (Lh.turn k % n) 0).toNat] else xs.headD ByteArray.empty
theorem nwB_in {xs : List ByteArray} {n : Nat} (k : Nat) (h : xs ≠ []) : nwB xs n k ∈ xs := by
  unfold nwB
  split
  · exact List.getElem_mem _
  · cases xs with
    | nil => exact absurd rfl h
    | cons x l => simp
theorem bopen_facts {S : Lh.Bl} (h : Lh.BOk S) : (Lh.bopen S).length ≤ 12 ∧ (Lh.bopen S).Nodup ∧ ∀ s ∈ Lh.bopen S, Lh.isNm s = true ∧ s.size ≤ 300 := by
  have hsub : (Lh.bopen S).Sublist (S.hs.map fun x => x.1) := List.filter_sublist.trans (List.filter_sublist.map _)
  refine ⟨?_, h.h.nodup.sublist hsub, fun s hs => Lh.hup_nm h (Lh.bopen_mem.1 hs).1⟩
  have := hsub.length_le
  rw [List.length_map] at this
  exact Nat.le_trans this h.h.len
end Go.Proofs.YtfhmfjcpggddkaaGreatDoor

/- Scripts: how far numbers go. -/
namespace Go.Proofs.YtfhmfjcpggddkaaGreatDoor
open Go.RowKit Lh

/-- how far a script's state goes behind j lines -/
structure SB (S : Sc) (j : Nat) : Prop where
  ok : SOk S
  n0 : 0 ≤ S.now
  n9 : S.now ≤ 9999999 * (j : Int)
  ep : S.b.ep ≤ (j : Int)
  key : ∀ x ∈ S.b.L, x.1 ≤ 9999999
def StB (st : Option Sc) (j : Nat) : Prop := ∀ S, st = some S → SB S j
theorem fput_key {t : Nat} {L : List Fl} {k : Nat} {s : ByteArray} {now : Int} {m : Nat} (h : ∀ x ∈ L, x.1 ≤ m) (hk : k ≤ m) : ∀ x ∈ fput t L k s now, x.1 ≤ m := by
  intro x hx
  rcases fput_mem hx with rfl | hx
  · exact hk
  · exact h x hx
section
variable {nw : List ByteArray → Nat → Nat → ByteArray}
theorem balR_bnd (hnwI : ∀ {xs : List ByteArray} {n : Nat} (k : Nat), xs ≠ [] → Lh.Prm n → nw xs n k ∈ xs) {S S' : Sc} {c : Cm} {a : List UInt8} {j : Nat} (h : SB S j) (hc : ∀ k ∈ c.N, k ≤ 9999999) (hb : BalR nw S c S' a) : SB S' (j + 1) := by
  have hok := balR_ok hnwI h.ok hc hb
  have h9 := h.n9
  have h8 := h.ep
  rcases hb with ⟨_, k, b', s, kept, e, hN, hp, rfl, _⟩ | ⟨_, x, k, b', t, e, _, _, hp, rfl, _⟩ | ⟨_, x, k, b', e, _, _, hp, rfl, _⟩ | ⟨_, k, hN, rfl, _⟩ | ⟨_, rfl, _⟩ | ⟨_, rfl, _⟩ | ⟨_, b', s, e, hp, rfl, _⟩
  · have hk := hc k (by rw [hN]; simp)
    rcases hp with ⟨_, _, rfl, _⟩ | ⟨_, _, _, _, rfl⟩ | ⟨_, _, _, _, _, _, rfl⟩ | ⟨_, _, _, _, _, _, rfl⟩
    · exact ⟨hok, h.n0, by simp only; omega, by simp only; omega, h.key⟩
    · exact ⟨hok, h.n0, by simp only; omega, by simp only; omega, fput_key h.key hk⟩
    · exact ⟨hok, h.n0, by simp only; omega, by simp only; omega, h.key⟩
    · exact ⟨hok, h.n0, by simp only; omega, by simp only; omega, fput_key h.key hk⟩
  · rcases hp with ⟨_, _, _, rfl⟩ | ⟨_, _, _, rfl⟩
    · refine ⟨hok, h.n0, by simp only; omega, by simp only [blook]; omega, fun x hx => ?_⟩
      simp only [blook] at hx
      split at hx
      · exact h.key x (List.mem_filter.1 hx).1
      · exact h.key x hx
    · exact ⟨hok, h.n0, by simp only; omega, by simp only; omega, h.key⟩
  · rcases hp with ⟨_, _, rfl⟩ | ⟨_, _, rfl⟩
    · exact ⟨hok, h.n0, by simp only; omega, by simp only; omega, h.key⟩
    · exact ⟨hok, h.n0, by simp only; omega, by simp only; omega, h.key⟩
  · have hk := hc k (by rw [hN]; simp)
    have h0 := h.n0
    exact ⟨hok, by simp only; omega, by simp only; omega, by simp only; omega, h.key⟩
  · exact ⟨hok, h.n0, by omega, by omega, h.key⟩
  · exact ⟨hok, h.n0, by omega, by omega, h.key⟩
  · rcases hp with ⟨_, _, _, rfl⟩ | ⟨_, _, _, rfl⟩
    · exact ⟨hok, h.n0, by simp only; omega, by simp only; omega, h.key⟩
    · exact ⟨hok, h.n0, by simp only; omega, by simp only; omega, h.key⟩
theorem SB.more {S : Sc} {j : Nat} (h : SB S j) : SB S (j + 1) := by
  have h9 := h.n9
  have h8 := h.ep
  exact ⟨h.ok, h.n0, by omega, by omega, h.key⟩
theorem cmR_bnd (hnwI : ∀ {xs : List ByteArray} {n : Nat} (k : Nat), xs ≠ [] → Lh.Prm n → nw xs n k ∈ xs) {st st' : Option Sc} {c : Cm} {hh : Int} {n j : Nat} {a : List UInt8} (h : StB st j) (hc : CmOk c hh n) (hr : CmR nw st c st' a) : StB st' (j + 1) := by
  have hok : StOk st' := cmR_ok hnwI (fun S hS => (h S hS).ok) hc hr
  intro T hT
  rcases hr with ⟨w, e, pl, hf, hq⟩ | ⟨_, rfl, _⟩ | ⟨_, _, _, rfl, _⟩ | ⟨_, _, S, rfl, hq⟩
  · rcases hq with ⟨_, rfl, _⟩ | ⟨rfl, rfl, _⟩
    · exact (h T hT).more
    · obtain rfl := Option.some.inj hT
      exact ⟨hok _ rfl, by simp, by simp only; omega, by simp [newB]; omega, fun x hx => by simp [newB] at hx⟩
  · exact (h T hT).more
  · cases hT
  · rcases hq with ⟨S', hb, rfl⟩ | ⟨_, rfl⟩
    · obtain rfl := Option.some.inj hT
      exact balR_bnd hnwI (h S rfl) hc.hi hb
    · exact (h T hT).more
/-- one line more -/
theorem linesR_snoc : ∀ {ss rs : List (List UInt8)} {st st1 st2 : Option Sc} {s a : List UInt8}, LinesR nw st ss rs st1 → LineR nw st1 s st2 a → LinesR nw st (ss ++ [s]) (rs ++ [a]) st2
  | [], _, _, _, st2, _, a, ⟨rfl, rfl⟩, h => ⟨st2, a, [], h, rfl, rfl, rfl⟩
  | _ :: _, _, _, _, _, _, _, ⟨s1, a1, rs1, h1, rfl, hr⟩, h => ⟨s1, a1, rs1 ++ [_], h1, rfl, linesR_snoc hr h⟩
end
end Go.Proofs.YtfhmfjcpggddkaaGreatDoor

/- The landed health in memory: a block, a row of pointers, a block a host; find. -/
namespace Go.Proofs.YtfhmfjcpggddkaaGreatDoor
open Go.RowKit Go.Shelf

def ptrS (b : Nat) : Value := .pointer (some ⟨b, 0, none⟩)
/-- Block b is a host's state. -/
structure HSt (W : World) (b : Nat) (x : Lh.Hh) : Prop where
  c0 : W.cell? ⟨b, 0, none⟩ = some (.string x.1)
  c1 : W.cell? ⟨b, 1, none⟩ = some (.bool x.2.1)
  c2 : W.cell? ⟨b, 2, none⟩ = some (.int .i64 (x.2.2 : Nat))
  fz : ∀ k, W.frozen? ⟨b, k, none⟩ = false
  blk : ∃ cs t, W.heap[b]? = some (.cells cs t (0, 0))
theorem HSt.lt {W : World} {b : Nat} {x : Lh.Hh} (h : HSt W b x) : b < W.heap.size := World.block_lt_of_cell? W ⟨b, 0, none⟩ h.c0
theorem HSt.same {W W' : World} {b : Nat} {x : Lh.Hh} (h : HSt W b x) (e : W'.heap[b]? = W.heap[b]?) : HSt W' b x :=
  ⟨(World.cell?_of_block (w := W) (w' := W') (a := ⟨b, 0, none⟩) e).trans h.c0, (World.cell?_of_block (w := W) (w' := W') (a := ⟨b, 1, none⟩) e).trans h.c1, (World.cell?_of_block (w := W) (w' := W') (a := ⟨b, 2, none⟩) e).trans h.c2, fun k => (World.frozen?_of_block (w := W) (w' := W') (a := ⟨b, k, none⟩) e).trans (h.fz k), by rw [e]; exact h.blk⟩
/-- Block p is the landed health. -/
structure HR (W : World) (p f r : Nat) (l : List Lh.Hh) (bs : List Nat) (lv : Value) : Prop where
  c0 : W.cell? ⟨p, 0, none⟩ = some (.int .i64 (f : Nat))
  c1 : W.cell? ⟨p, 1, none⟩ = some (.int .i64 (r : Nat))
  c2 : W.cell? ⟨p, 2, none⟩ = some lv
  fz : ∀ k, W.frozen? ⟨p, k, none⟩ = false
  own : W.ownsRow (p + 1) 217 1 lv l.length (bs.map ptrS)
  len : bs.length = l.length
  st : ∀ i (h : i < l.length) (h2 : i < bs.length), HSt W bs[i] l[i]
  nd : bs.Nodup
  gt : ∀ b ∈ bs, p < b
  apart : ∀ b ∈ bs, lv.ownBlock ≠ some b
/-- the blocks that it is made of -/
def HFoot (p : Nat) (bs : List Nat) (lv : Value) (b : Nat) : Prop := b = p ∨ lv.ownBlock = some b ∨ b ∈ bs
section
variable {W W' : World} {p f r : Nat} {l : List Lh.Hh} {bs : List Nat} {lv : Value}
theorem HR.plt (h : HR W p f r l bs lv) : p < W.heap.size := World.block_lt_of_cell? W ⟨p, 0, none⟩ h.c0
theorem HR.blt (h : HR W p f r l bs lv) {b : Nat} (hb : b ∈ bs) : b < W.heap.size := by
  obtain ⟨i, hi, rfl⟩ := List.getElem_of_mem hb
  exact (h.st i (by rw [← h.len]; exact hi) hi).lt
theorem HR.lt (h : HR W p f r l bs lv) : ∀ b, HFoot p bs lv b → b < W.heap.size ∧ p ≤ b := by
  rintro b (rfl | e | hb)
  · exact ⟨h.plt, Nat.le_refl _⟩
  · have := h.own.lt b e
    omega
  · exact ⟨h.blt hb, Nat.le_of_lt (h.gt b hb)⟩
theorem HR.stay (h : HR W p f r l bs lv) (hs : ∀ b, HFoot p bs lv b → W'.heap[b]? = W.heap[b]?) : HR W' p f r l bs lv := by
  have hm := hs p (Or.inl rfl)
  refine ⟨?_, ?_, ?_, fun k => ?_, owns_same h.own fun g e => hs g (Or.inr (Or.inl e)), h.len, fun i h1 h2 => (h.st i h1 h2).same (hs _ (Or.inr (Or.inr (List.getElem_mem h2)))), h.nd, h.gt, h.apart⟩
  · rw [World.cell?_of_block (w := W) (w' := W') (a := ⟨p, 0, none⟩) hm]; exact h.c0
  · rw [World.cell?_of_block (w := W) (w' := W') (a := ⟨p, 1, none⟩) hm]; exact h.c1
  · rw [World.cell?_of_block (w := W) (w' := W') (a := ⟨p, 2, none⟩) hm]; exact h.c2
  · rw [World.frozen?_of_block (w := W) (w' := W') (a := ⟨p, k, none⟩) hm]; exact h.fz k
theorem HR.later (h : HR W p f r l bs lv) (hb : Below W.heap.size W W') : HR W' p f r l bs lv := h.stay fun b hf => hb.block b (h.lt b hf).1
/-- the row's cells -/
theorem HR.row (h : HR W p f r l bs lv) (h0 : 0 < l.length) : ∃ g cap, lv = .slice (some ⟨g, 0, none⟩) l.length cap ∧ l.length ≤ cap ∧ cap ≤ maxLen ∧ p < g ∧ (∀ i (h2 : i < bs.length), W.cell? ⟨g, i, none⟩ = some (ptrS bs[i])) ∧ ∀ k, W.frozen? ⟨g, k, none⟩ = false := by
  obtain ⟨hl, ⟨e0, h'⟩ | ⟨g, cap, cur, rfl, hbase, hb, hn, hm, hsz, ht⟩⟩ := h.own
  · omega
  · refine ⟨g, cap, rfl, hn, hm, by omega, fun i hi => ?_, fun k => by simp [World.frozen?, hb]⟩
    have hl := h.len
    have h1 : (bs.map ptrS)[i]? = some (ptrS bs[i]) := by simp [hi]
    rw [← ht, List.getElem?_take_of_lt (by omega)] at h1
    simp only [World.cell?, hb]
    simpa using h1
theorem HR.shape (h : HR W p f r l bs lv) : ∃ q cap, lv = .slice q l.length cap := by
  obtain ⟨_, ⟨rfl, h'⟩ | ⟨g, cap, cur, rfl, _⟩⟩ := h.own
  · exact ⟨_, _, by rw [h']⟩
  · exact ⟨_, _, rfl⟩
end

set_option maxHeartbeats 1000000 in
/-- the function handed to slices.IndexFunc -/
theorem findC (hb b : Nat) (s t : ByteArray) (W : World) (h1 : W.cell? ⟨hb, 0, none⟩ = some (.string s)) (h2 : W.cell? ⟨b, 0, none⟩ = some (.string t)) :
    Calls Tryz.prog 197 #[ptrS b, ptrS hb] W fun e w' => e = .returned (.bool (decide (t = s))) ∧ Below W.heap.size W w' := by
  unfold ptrS
  by_cases he : t = s
  · have hq := bytes_same he
    have HE : Hid (t = s) := he
    clear he
    go_enter Tryz.func197, Tryz.ntmps197
    go_wp2
    go_quiet (fail)
    go_wp2
    go_ret
    exact ⟨by simp [HE.out], below_drewN (Below.refl _ _) _⟩
  · have hq := bytes_parts he
    have HE : Hid (¬ t = s) := he
    clear he
    go_enter Tryz.func197, Tryz.ntmps197
    go_wp2
    go_quiet (fail)
    go_wp2
    go_ret
    exact ⟨by simp [HE.out], below_drewN (Below.refl _ _) _⟩
theorem entersFd : ∀ args w, (callFunc 197 args).run Tryz.prog w = .ok (.enter 197 args) w := enters_of Tryz.func197 (by kernel_rfl) rfl

set_option maxRecDepth 100000 in
set_option maxHeartbeats 2000000 in
theorem indexS_core (hb : Nat) (q : Option Addr) (c : Nat) (l : List Lh.Hh) (bs : List Nat) (s : ByteArray) (W : World) (hlen : bs.length = l.length) (hl : l.length ≤ 12) (hc : ∀ k (h : k < l.length) (h2 : k < bs.length), ∃ g, q = some ⟨g, 0, none⟩ ∧ W.cell? ⟨g, k, none⟩ = some (ptrS bs[k]) ∧ W.cell? ⟨bs[k], 0, none⟩ = some (.string (l[k]).1)) (h1 : W.cell? ⟨hb, 0, none⟩ = some (.string s)) :
    Calls Tryz.prog 196 #[.slice q l.length c, .func (.func 197) #[] #[ptrS hb]] W fun e w' => e = .returned (.int .i64 (fi l s)) ∧ Below W.heap.size W w' := by
  have HC : Hid (∀ k (h : k < l.length) (h2 : k < bs.length), ∃ g, q = some ⟨g, 0, none⟩ ∧ W.cell? ⟨g, k, none⟩ = some (ptrS bs[k]) ∧ W.cell? ⟨bs[k], 0, none⟩ = some (.string (l[k]).1)) := hc
  have HCL : Hid (∀ (W' : World) (b : Nat) (t : ByteArray), Below W.heap.size W W' → W.cell? ⟨b, 0, none⟩ = some (.string t) → Calls Tryz.prog 197 #[ptrS b, ptrS hb] W' fun e w' => e = .returned (.bool (decide (t = s))) ∧ Below W.heap.size W w') := fun W' b t hB h2 => (findC hb b s t W' (below_cell hB h1) (below_cell hB h2)).mono fun _ _ ⟨e, k⟩ => ⟨e, below_then hB k⟩
  have HLN : Hid (bs.length = l.length) := hlen
  have eg := entersFd
  clear hc h1 hlen
  go_enter Tryz.func196, Tryz.ntmps196
  go_wp2_with fail
  go_loopw [5, 8] (fun _ t W' => Below W.heap.size W W' ∧ ∃ k : Nat, k ≤ l.length ∧ t = .int .i64 (k : Nat) ∧ ∀ j (h : j < l.length), j < k → (l[j]).1 ≠ s) (fun _ t _ => l.length + 1 - (intOf t).toNat)
  case atStart => exact ⟨Below.refl _ _, 0, Nat.zero_le _, rfl, fun j _ h => absurd h (by omega)⟩
  case round =>
    obtain ⟨hB, k, hk, rfl, hp⟩ := hrel
    have HP : Hid (∀ j (h : j < l.length), j < k → (l[j]).1 ≠ s) := hp
    clear hp
    by_cases hlt : k < l.length
    · have hlt2 : k < bs.length := by rw [HLN.out]; exact hlt
      obtain ⟨g, rfl, c1, c2⟩ := HC.out k hlt hlt2
      have hki : (k : Int) < (l.length : Int) := by omega
      have hcall := HCL.out _ _ _ hB c2
      have c1' := below_cell hB c1
      have HE : Hid (decide ((l[k]).1 = s) = true → fi l s = (k : Nat)) := fun h => by
        have h1 := fi_at hlt HP.out (of_decide_eq_true h)
        unfold fi
        rw [h1, if_pos hlt]
      have HN : Hid (decide ((l[k]).1 = s) = false → ∀ j (h : j < l.length), j < k + 1 → (l[j]).1 ≠ s) := fun h j hj hjk => by
        by_cases e : j = k
        · subst e
          exact of_decide_eq_false h
        · exact HP.out j hj (by omega)
      clear c1 c2
      generalize bs[k] = b at *
      unfold ptrS at c1' hcall
      unfold ptrS
      cases hd : decide ((l[k]).1 = s) with
      | true =>
        have HE2 : Hid (fi l s = (k : Nat)) := HE.out hd
        rw [hd] at hcall
        clear hd HN HE
        go_wp2_with (go_at_fn 197; refine hcall.mono ?_; rintro e w' ⟨rfl, hB2⟩)
        go_ret
        exact ⟨by rw [HE2.out]; rfl, hB2⟩
      | false =>
        have HN2 : Hid (∀ j (h : j < l.length), j < k + 1 → (l[j]).1 ≠ s) := HN.out hd
        rw [hd] at hcall
        clear hd HN HE
        go_wp2_with (go_at_fn 197; refine hcall.mono ?_; rintro e w' ⟨rfl, hB2⟩)
        go_roundw
        case rel => exact ⟨hB2, k + 1, by omega, by go_num, HN2.out⟩
        case measure => simp [intOf]; omega
    · have hki : decide ((k : Int) < (l.length : Int)) = false := by simp; omega
      have HF : Hid (fi l s = -1) := by
        show fi l s = -1
        unfold fi
        rw [if_neg]
        intro h
        exact HP.out _ h (by omega) (Lh.hix_get h)
      go_wp2
      go_ret
      exact ⟨by rw [HF.out]; rfl, hB⟩
end Go.Proofs.YtfhmfjcpggddkaaGreatDoor

/- The landed health: find, Is and Look. -/
namespace Go.Proofs.YtfhmfjcpggddkaaGreatDoor
open Go.RowKit Go.Shelf

theorem Tur.setCell {F : Nat → Prop} {w w' : World} (h : Tur F w w') {x : Nat} (k : Nat) (hx : F x ∨ w.heap.size ≤ x) (v : Value) : Tur F w (w'.setCell ⟨x, k, none⟩ v) :=
  ⟨h.os, h.tape, h.output, by simpa [World.setCell] using h.size, fun j hj hf => (heap_setCell_other w' ⟨x, k, none⟩ j v (fun e => by
    rcases hx with h1 | h1
    · exact hf (e ▸ h1)
    · have : j = x := e
      omega)).trans (h.block j hj hf)⟩
section
variable {W W' : World} {p f r : Nat} {l : List Lh.Hh} {bs : List Nat} {lv : Value}
theorem HR.at (h : HR W p f r l bs lv) {k : Nat} (hk : k < l.length) : ∃ b, bs[k]? = some b := ⟨bs[k]'(by rw [h.len]; exact hk), by simp [h.len, hk]⟩
theorem HR.stAt (h : HR W p f r l bs lv) {k b : Nat} (hb : bs[k]? = some b) (hk : k < l.length) : HSt W b l[k] := by
  obtain ⟨h2, rfl⟩ := List.getElem?_eq_some_iff.1 hb
  exact h.st k hk h2
theorem HR.turned (h : HR W p f r l bs lv) {k b : Nat} (hb : bs[k]? = some b) (_hk : k < l.length) (hT : Tur (fun j => j = b) W W') {x : Lh.Hh} (hx : HSt W' b x) : HR W' p f r (l.set k x) bs lv ∧ Tur (HFoot p bs lv) W W' := by
  obtain ⟨h2, e⟩ := List.getElem?_eq_some_iff.1 hb
  have hmem : b ∈ bs := e ▸ List.getElem_mem h2
  have hp := hT.block p h.plt (fun e1 => by have := h.gt b hmem; omega)
  refine ⟨⟨?_, ?_, ?_, fun j => ?_, ?_, by simpa using h.len, fun i h3 h4 => ?_, h.nd, h.gt, h.apart⟩, ⟨hT.os, hT.tape, hT.output, hT.size, fun j hj hf => hT.block j hj fun e1 => hf (Or.inr (Or.inr (e1 ▸ hmem)))⟩⟩
  · rw [World.cell?_of_block (w := W) (w' := W') (a := ⟨p, 0, none⟩) hp]; exact h.c0
  · rw [World.cell?_of_block (w := W) (w' := W') (a := ⟨p, 1, none⟩) hp]; exact h.c1
  · rw [World.cell?_of_block (w := W) (w' := W') (a := ⟨p, 2, none⟩) hp]; exact h.c2
  · rw [World.frozen?_of_block (w := W) (w' := W') (a := ⟨p, j, none⟩) hp]; exact h.fz j
  · rw [List.length_set]
    exact owns_same h.own fun g eg => hT.block g (h.own.lt g eg).2 (fun e1 => h.apart b hmem (by rw [eg, e1]))
  · by_cases eik : k = i
    · subst eik
      rw [List.getElem_set_self]
      rw [e]
      exact hx
    · rw [List.getElem_set_ne eik]
      have h5 : i < l.length := by simpa using h3
      refine (h.st i h5 h4).same (hT.block _ (h.st i h5 h4).lt fun e1 => eik ?_)
      have e2 : bs[k] = bs[i] := by rw [e, e1]
      exact (List.getElem_inj h.nd).1 e2

set_option maxHeartbeats 1000000 in
theorem findS_good (h : HR W p f r l bs lv) (hl : l.length ≤ 12) (s : ByteArray) (hx : Lh.hix l s < l.length) {b : Nat} (hb : bs[Lh.hix l s]? = some b) :
    Calls Tryz.prog 155 #[.pointer (some ⟨p, 0, none⟩), .string s] W fun e w' => e = .returned (.pointer (some ⟨b, 0, none⟩)) ∧ Below W.heap.size W w' := by
  have hb1 : Below W.heap.size W (W.alloc (.cells #[.string s] 9)) := (Below.refl _ _).alloc (Nat.le_refl _) _
  have h' := h.later hb1
  obtain ⟨g, cap, rfl, hcap, hcm, _, hrow, _⟩ := h'.row (by omega)
  have c2 := h'.c2
  have hxx := indexS_core W.heap.size (some ⟨g, 0, none⟩) cap l bs s _ h.len hl (fun k h1 h2 => ⟨g, rfl, hrow k h2, (h'.st k h1 h2).c0⟩) (by simp)
  have e1 : fi l s = (Lh.hix l s : Nat) := by unfold fi; rw [if_pos hx]
  rw [e1] at hxx
  obtain ⟨h2, e⟩ := List.getElem?_eq_some_iff.1 hb
  have cb := hrow _ h2
  rw [e] at cb
  have hki : ((Lh.hix l s : Nat) : Int) < (l.length : Int) := by omega
  unfold maxLen at hcm
  unfold ptrS at cb hxx
  clear h h' hrow e hb h2 e1 hx
  generalize Lh.hix l s = k at *
  have d0 : decide ((k : Int) < 0) = false := by simp
  go_enter Tryz.func155, Tryz.ntmps155
  go_wp2_with fail
  refine hxx.mono ?_
  rintro e w' ⟨rfl, hb2⟩
  have hb3 := below_then hb1 hb2
  have c2' := below_cell hb2 c2
  have cb' := below_cell hb2 cb
  clear hxx hb1 hb2 c2 cb
  go_wp2
  go_ret
  exact ⟨rfl, hb3⟩

set_option maxHeartbeats 1000000 in
theorem findS_none (h : HR W p f r l bs lv) (hl : l.length ≤ 12) (s : ByteArray) (hx : ¬ Lh.hix l s < l.length) :
    Calls Tryz.prog 155 #[.pointer (some ⟨p, 0, none⟩), .string s] W fun e w' => e = .returned (.pointer none) ∧ Below W.heap.size W w' := by
  have hb1 : Below W.heap.size W (W.alloc (.cells #[.string s] 9)) := (Below.refl _ _).alloc (Nat.le_refl _) _
  have h' := h.later hb1
  obtain ⟨q, cap, rfl⟩ := h'.shape
  have c2 := h'.c2
  have hxx := indexS_core W.heap.size q cap l bs s _ h.len hl (fun k h1 h2 => by
    obtain ⟨g, cap', e, _, _, _, hrow, _⟩ := h'.row (by omega)
    cases e
    exact ⟨g, rfl, hrow k h2, (h'.st k h1 h2).c0⟩) (by simp)
  have e1 : fi l s = -1 := by unfold fi; rw [if_neg hx]
  rw [e1] at hxx
  unfold ptrS at hxx
  clear h h' e1 hx
  go_enter Tryz.func155, Tryz.ntmps155
  go_wp2_with fail
  refine hxx.mono ?_
  rintro e w' ⟨rfl, hb2⟩
  have hb3 := below_then hb1 hb2
  clear hxx hb1 hb2 c2
  go_wp2
  go_ret
  exact ⟨rfl, hb3⟩

set_option maxHeartbeats 1000000 in
/-- Is. -/
theorem isS_any (h : HR W p f r l bs lv) (hk : Lh.HOk f r l) (s : ByteArray) :
    Calls Tryz.prog 99 #[.pointer (some ⟨p, 0, none⟩), .string s] W fun e w' => e = .returned (.bool (Lh.hup l s)) ∧ Below W.heap.size W w' := by
  by_cases hx : Lh.hix l s < l.length
  · have HU : Hid (Lh.hup l s = (l[Lh.hix l s]).2.1) := hup_at hk.nodup hx
    obtain ⟨b, hb⟩ := h.at hx
    have hfd := findS_good h hk.len s hx hb
    have c1 := (h.stAt hb hx).c1
    clear h hb hk
    generalize (l[Lh.hix l s]).2.1 = u at *
    rw [HU.out]
    clear HU hx
    go_enter Tryz.func99, Tryz.ntmps99
    go_wp2_with fail
    refine hfd.mono ?_
    rintro e w1 ⟨rfl, hb1⟩
    have c1' := below_cell hb1 c1
    clear hfd c1
    go_wp2
    go_ret
    exact ⟨rfl, hb1⟩
  · have hfd := findS_none h hk.len s hx
    rw [hup_none hx]
    clear h hk hx
    go_enter Tryz.func99, Tryz.ntmps99
    go_wp2_with fail
    refine hfd.mono ?_
    rintro e w1 ⟨rfl, hb1⟩
    clear hfd
    go_wp2
    go_ret
    exact ⟨rfl, hb1⟩

set_option maxHeartbeats 1000000 in
theorem edge_any (p f r : Nat) (u : Bool) (W : World) (c0 : W.cell? ⟨p, 0, none⟩ = some (.int .i64 (f : Nat))) (c1 : W.cell? ⟨p, 1, none⟩ = some (.int .i64 (r : Nat))) :
    Calls Tryz.prog 156 #[.pointer (some ⟨p, 0, none⟩), .bool u] W fun e w' => e = .returned (.int .i64 (Lh.hedge f r u : Nat)) ∧ w' = W := by
  cases u with
  | true =>
    go_enter Tryz.func156, Tryz.ntmps156
    go_wp2
    go_ret
    exact ⟨by simp [Lh.hedge], rfl⟩
  | false =>
    go_enter Tryz.func156, Tryz.ntmps156
    go_wp2
    go_ret
    exact ⟨by simp [Lh.hedge], rfl⟩
end
end Go.Proofs.YtfhmfjcpggddkaaGreatDoor

/- The landed health: Look. -/
namespace Go.Proofs.YtfhmfjcpggddkaaGreatDoor
open Go.RowKit Go.Shelf

section
variable {W : World} {p f r : Nat} {l : List Lh.Hh} {bs : List Nat} {lv : Value}

set_option maxHeartbeats 1000000 in
theorem lookS_none (a : Nat → Addr) (he : Errs4 a W) (h : HR W p f r l bs lv) (hl : l.length ≤ 12) (s : ByteArray) (well : Bool) (hx : ¬ Lh.hix l s < l.length) :
    Calls Tryz.prog 98 #[.pointer (some ⟨p, 0, none⟩), .string s, .bool well] W fun e w' => e = .returned (.tuple #[.bool false, .iface 378 (.pointer (some (a 4)))]) ∧ Below W.heap.size W w' := by
  have hfd := findS_none h hl s hx
  have HE : Hid (Errs4 a W) := he
  clear h hx he
  go_enter Tryz.func98, Tryz.ntmps98
  go_wp2_with fail
  refine hfd.mono ?_
  rintro e w1 ⟨rfl, hb1⟩
  have s4 := (HE.out.later hb1).s4
  clear hfd
  go_wp2
  go_quiet (fail)
  go_wp2
  go_ret2
  exact ⟨rfl, below_drewN hb1 nq⟩

theorem blk_set {w : World} {b : Nat} (h : ∃ cs t, w.heap[b]? = some (.cells cs t (0, 0))) (k : Nat) (v : Value) : ∃ cs t, (w.setCell ⟨b, k, none⟩ v).heap[b]? = some (.cells cs t (0, 0)) := by
  obtain ⟨cs, t, h⟩ := h
  exact ⟨_, _, heap_setCell_same w b k _ _ v h⟩
theorem HSt.set2 {w : World} {b : Nat} {x1 : ByteArray} {u : Bool} {c : Nat} (h : HSt w b (x1, u, c)) (d : Nat) : HSt (w.setCell ⟨b, 2, none⟩ (.int .i64 (d : Nat))) b (x1, u, d) := by
  have c0 := h.c0
  have c1 := h.c1
  have c2 := h.c2
  refine ⟨?_, ?_, ?_, fun k => ?_, blk_set h.blk _ _⟩
  · simp [go_sem, c0]
  · simp [go_sem, c1]
  · simp [go_sem, c2]
  · have := h.fz k
    simp [go_sem, this]
theorem HSt.set1 {w : World} {b : Nat} {x1 : ByteArray} {u : Bool} {c : Nat} (h : HSt w b (x1, u, c)) (v : Bool) : HSt (w.setCell ⟨b, 1, none⟩ (.bool v)) b (x1, v, c) := by
  have c0 := h.c0
  have c1 := h.c1
  have c2 := h.c2
  refine ⟨?_, ?_, ?_, fun k => ?_, blk_set h.blk _ _⟩
  · simp [go_sem, c0]
  · simp [go_sem, c1]
  · simp [go_sem, c2]
  · have := h.fz k
    simp [go_sem, this]
set_option maxHeartbeats 1000000 in
theorem lookS_same (b : Nat) (s : ByteArray) (u : Bool) (x1 : ByteArray) (c : Nat) (hfd : Calls Tryz.prog 155 #[.pointer (some ⟨p, 0, none⟩), .string s] W fun e w' => e = .returned (.pointer (some ⟨b, 0, none⟩)) ∧ Below W.heap.size W w') (hst : HSt W b (x1, u, c)) :
    Calls Tryz.prog 98 #[.pointer (some ⟨p, 0, none⟩), .string s, .bool u] W fun e w' => e = .returned (.tuple #[.bool false, .nilIface]) ∧ Tur (fun j => j = b) W w' ∧ HSt w' b (x1, u, 0) := by
  have HS : Hid (HSt W b (x1, u, c)) := hst
  have hq : (u == u) = true := by simp
  clear hst
  go_enter Tryz.func98, Tryz.ntmps98
  go_wp2_with fail
  refine hfd.mono ?_
  rintro e w1 ⟨rfl, hb1⟩
  have hs := HS.out.same (hb1.block b HS.out.lt)
  have HS1 : Hid (HSt w1 b (x1, u, c)) := hs
  have c1 : w1.cell? ⟨b, 1, none⟩ = some (.bool u) := hs.c1
  have c2 : w1.cell? ⟨b, 2, none⟩ = some (.int .i64 (c : Nat)) := hs.c2
  have f2 := hs.fz 2
  clear hfd hs
  go_wp2
  go_ret2
  exact ⟨rfl, Tur.setCell (F := fun j => j = b) (Tur.of_below hb1) 2 (Or.inl rfl) _, HS1.out.set2 0⟩

theorem Tur.then {F : Nat → Prop} {w w1 w2 : World} (h : Tur F w w1) (hb : Below w1.heap.size w1 w2) : Tur F w w2 :=
  ⟨hb.os.trans h.os, hb.tape.trans h.tape, hb.output.trans h.output, Nat.le_trans h.size hb.size, fun j hj hf => (hb.block j (Nat.lt_of_lt_of_le hj h.size)).trans (h.block j hj hf)⟩

set_option maxHeartbeats 2000000 in
theorem lookS_other (b E : Nat) (s : ByteArray) (u well : Bool) (hw : well = !u) (x1 : ByteArray) (c : Nat) (hc : c < 10) (_hE : E ≤ 10) (hpb : p ≠ b) (hfd : Calls Tryz.prog 155 #[.pointer (some ⟨p, 0, none⟩), .string s] W fun e w' => e = .returned (.pointer (some ⟨b, 0, none⟩)) ∧ Below W.heap.size W w') (hst : HSt W b (x1, u, c)) (hed : ∀ W', W'.heap[p]? = W.heap[p]? → Calls Tryz.prog 156 #[.pointer (some ⟨p, 0, none⟩), .bool u] W' fun e w' => e = .returned (.int .i64 (E : Nat)) ∧ w' = W') (hp : p < W.heap.size) :
    Calls Tryz.prog 98 #[.pointer (some ⟨p, 0, none⟩), .string s, .bool well] W fun e w' => Tur (fun j => j = b) W w' ∧ ((E ≤ c + 1 ∧ e = .returned (.tuple #[.bool true, .nilIface]) ∧ HSt w' b (x1, !u, 0)) ∨ (¬ E ≤ c + 1 ∧ e = .returned (.tuple #[.bool false, .nilIface]) ∧ HSt w' b (x1, u, c + 1))) := by
  have HS : Hid (HSt W b (x1, u, c)) := hst
  have HED : Hid (∀ W', W'.heap[p]? = W.heap[p]? → Calls Tryz.prog 156 #[.pointer (some ⟨p, 0, none⟩), .bool u] W' fun e w' => e = .returned (.int .i64 (E : Nat)) ∧ w' = W') := hed
  have HPB : Hid (p ≠ b) := hpb
  have HP : Hid (p < W.heap.size) := hp
  have hq : (well == u) = false := by subst hw; cases u <;> rfl
  have HW : Hid (well = !u) := hw
  clear hst hed hpb hw hp
  go_enter Tryz.func98, Tryz.ntmps98
  go_wp2_with fail
  refine hfd.mono ?_
  rintro e w1 ⟨rfl, hb1⟩
  have hs := HS.out.same (hb1.block b HS.out.lt)
  have HS1 : Hid (HSt w1 b (x1, u, c)) := hs
  have c1 : w1.cell? ⟨b, 1, none⟩ = some (.bool u) := hs.c1
  have c2 : w1.cell? ⟨b, 2, none⟩ = some (.int .i64 (c : Nat)) := hs.c2
  have f1 := hs.fz 1
  have f2 := hs.fz 2
  clear hfd hs
  go_wp2_with fail
  have T2 : Tur (fun j => j = b) W (w1.setCell ⟨b, 2, none⟩ (.int .i64 ((c : Int) + 1))) := Tur.setCell (F := fun j => j = b) (Tur.of_below hb1) 2 (Or.inl rfl) _
  have HS2 : HSt (w1.setCell ⟨b, 2, none⟩ (.int .i64 ((c : Int) + 1))) b (x1, u, c + 1) := HS1.out.set2 (c + 1)
  clear c1 c2 f1 f2 hb1 HS1
  generalize w1.setCell ⟨b, 2, none⟩ (.int .i64 ((c : Int) + 1)) = w2 at *
  have HT2 : Hid (Tur (fun j => j = b) W w2) := T2
  have HST2 : Hid (HSt w2 b (x1, u, c + 1)) := HS2
  have k1 : w2.cell? ⟨b, 1, none⟩ = some (.bool u) := HS2.c1
  have k2 : w2.cell? ⟨b, 2, none⟩ = some (.int .i64 ((c : Int) + 1)) := HS2.c2
  have HKC : Hid (∀ W', Below w2.heap.size w2 W' → Below w2.heap.size w2 W' ∧ W'.cell? ⟨b, 1, none⟩ = some (.bool u) ∧ W'.cell? ⟨b, 2, none⟩ = some (.int .i64 ((c : Int) + 1))) := fun W' h => ⟨h, below_cell h k1, below_cell h k2⟩
  have HEW : Hid (∀ W', Below w2.heap.size w2 W' → Calls Tryz.prog 156 #[.pointer (some ⟨p, 0, none⟩), .bool u] W' fun e w' => e = .returned (.int .i64 (E : Nat)) ∧ Below w2.heap.size w2 w') := fun W' h => (HED.out W' ((h.block p (Nat.lt_of_lt_of_le HP.out HT2.out.size)).trans (HT2.out.block p HP.out HPB.out))).mono fun _ _ ⟨q1, q2⟩ => ⟨q1, by rw [q2]; exact h⟩
  clear T2 HS2 HED
  by_cases hlt : c + 1 < E
  · have d : decide ((c : Int) + 1 < (E : Int)) = true := by simp; omega
    go_region_held3 (fun w' => Below w2.heap.size w2 w' ∧ w'.cell? ⟨b, 1, none⟩ = some (.bool u) ∧ w'.cell? ⟨b, 2, none⟩ = some (.int .i64 ((c : Int) + 1)))
      (first | exact HKC.out _ (by assumption) | exact HKC.out _ (below_drewN (Below.refl _ _) 1) | exact HKC.out _ (Below.refl _ _))
      (first | (go_at_call 156; refine (HEW.out _ (by first | assumption | exact Below.refl _ _ | exact below_drewN (Below.refl _ _) 1)).mono ?_; rintro e wz ⟨rfl, hbz⟩))
    all_goals
      go_wp2
      go_ret2
      exact ⟨HT2.out.then hbz, Or.inr ⟨by omega, rfl, HST2.out.same (hbz.block b HST2.out.lt)⟩⟩
  · have d : decide ((c : Int) + 1 < (E : Int)) = false := by simp; omega
    go_region_held3 (fun w' => Below w2.heap.size w2 w' ∧ w'.cell? ⟨b, 1, none⟩ = some (.bool u) ∧ w'.cell? ⟨b, 2, none⟩ = some (.int .i64 ((c : Int) + 1)))
      (first | exact HKC.out _ (by assumption) | exact HKC.out _ (below_drewN (Below.refl _ _) 1) | exact HKC.out _ (Below.refl _ _))
      (first | (go_at_call 156; refine (HEW.out _ (by first | assumption | exact Below.refl _ _ | exact below_drewN (Below.refl _ _) 1)).mono ?_; rintro e wz ⟨rfl, hbz⟩))
    all_goals
      have hsz := HST2.out.same (hbz.block b HST2.out.lt)
      have HSZ : Hid (HSt wz b (x1, u, c + 1)) := hsz
      have z1 : wz.cell? ⟨b, 1, none⟩ = some (.bool u) := hsz.c1
      have z2 : wz.cell? ⟨b, 2, none⟩ = some (.int .i64 ((c : Int) + 1)) := hsz.c2
      have g1 := hsz.fz 1
      have g2 := hsz.fz 2
      clear hsz k1 k2
      go_wp2
      go_ret2
      refine ⟨?_, Or.inl ⟨by omega, rfl, ?_⟩⟩
      · exact Tur.setCell (F := fun j => j = b) (Tur.setCell (F := fun j => j = b) (HT2.out.then hbz) 1 (Or.inl rfl) _) 2 (Or.inl rfl) _
      · rw [← HW.out]
        exact (HSZ.out.set1 well).set2 0

/-- Look. -/
theorem lookS_any (a : Nat → Addr) (he : Errs4 a W) (h : HR W p f r l bs lv) (hk : Lh.HOk f r l) (s : ByteArray) (well : Bool) :
    Calls Tryz.prog 98 #[.pointer (some ⟨p, 0, none⟩), .string s, .bool well] W fun e w' => Tur (HFoot p bs lv) W w' ∧
      ((∃ h : Lh.hix l s < l.length, e = .returned (.tuple #[.bool (Lh.hlook f r l[Lh.hix l s] well).2, .nilIface]) ∧ HR w' p f r (l.set (Lh.hix l s) (Lh.hlook f r l[Lh.hix l s] well).1) bs lv) ∨
       (¬ Lh.hix l s < l.length ∧ e = .returned (.tuple #[.bool false, .iface 378 (.pointer (some (a 4)))]) ∧ HR w' p f r l bs lv)) := by
  by_cases hx : Lh.hix l s < l.length
  · obtain ⟨b, hb⟩ := h.at hx
    have hfd := findS_good h hk.len s hx hb
    have hst := h.stAt hb hx
    have hmem : b ∈ bs := List.mem_of_getElem? hb
    have hcn := hk.cnt _ (List.getElem_mem hx)
    have hE := Lh.hedge_le hk.f10 hk.r10 (l[Lh.hix l s]).2.1
    have hgt := h.gt b hmem
    obtain ⟨⟨x1, u, c⟩, hxe⟩ : ∃ x, l[Lh.hix l s] = x := ⟨_, rfl⟩
    rw [hxe] at hst hcn hE
    by_cases hwu : well = u
    · subst hwu
      refine (lookS_same b s well x1 c hfd hst).mono ?_
      rintro e w' ⟨rfl, hT, hS⟩
      have e1 : Lh.hlook f r (x1, well, c) well = ((x1, well, 0), false) := by simp [Lh.hlook]
      obtain ⟨h1, h2⟩ := h.turned hb hx hT hS
      exact ⟨h2, Or.inl ⟨hx, by rw [hxe, e1], by rw [hxe, e1]; exact h1⟩⟩
    · refine (lookS_other b (Lh.hedge f r u) s u well (by cases u <;> cases well <;> simp_all) x1 c (by simp at hcn hE; omega) hE (by omega) hfd hst (fun W' hW' => edge_any p f r u W' ((World.cell?_of_block (w := W) (w' := W') (a := ⟨p, 0, none⟩) hW').trans h.c0) ((World.cell?_of_block (w := W) (w' := W') (a := ⟨p, 1, none⟩) hW').trans h.c1)) h.plt).mono ?_
      rintro e w' ⟨hT, ⟨h1, rfl, hS⟩ | ⟨h1, rfl, hS⟩⟩
      · have e1 : Lh.hlook f r (x1, u, c) well = ((x1, !u, 0), true) := by simp [Lh.hlook, hwu, h1]
        obtain ⟨h1, h2⟩ := h.turned hb hx hT hS
        exact ⟨h2, Or.inl ⟨hx, by rw [hxe, e1], by rw [hxe, e1]; exact h1⟩⟩
      · have e1 : Lh.hlook f r (x1, u, c) well = ((x1, u, c + 1), false) := by simp [Lh.hlook, hwu, h1]
        obtain ⟨h1, h2⟩ := h.turned hb hx hT hS
        exact ⟨h2, Or.inl ⟨hx, by rw [hxe, e1], by rw [hxe, e1]; exact h1⟩⟩
  · refine (lookS_none a he h hk.len s well hx).mono ?_
    rintro e w' ⟨rfl, hB⟩
    exact ⟨Tur.of_below hB, Or.inr ⟨hx, rfl, h.later hB⟩⟩
end
end Go.Proofs.YtfhmfjcpggddkaaGreatDoor
