/- Scripts: what is right stays right; no answer is empty. -/
import Derived.Test.YtfhmfjcpggddkaaGreatDoorM15
import Derived.Test.YtfhmfjcpggddkaaGreatDoorM7
import Derived.Test.YtfhmfjcpggddkaaGreatDoorM14
import Derived.Test.YtfhmfjcpggddkaaGreatDoorM10
import Derived.Test.YtfhmfjcpggddkaaGreatDoorM11
import Derived.Shelf.Abstract
import Derived.BigQuiet
import Derived.Deep.RegionHeld3
import Derived.Test.YtfhmfjcpggddkaaGreatDoorM9
import Derived.Test.YtfhmfjcpggddkaaGreatDoorM5
import Derived.Maps.OwnOps
namespace Go.Proofs.YtfhmfjcpggddkaaGreatDoor
open Go.RowKit Lh

theorem fold_lt : ∀ (l : List UInt8) (n : Nat), l.all isDg = true → l.foldl (fun n c => 10 * n + (c.toNat - 48)) n < (n + 1) * 10 ^ l.length
  | [], n, _ => by simp
  | c :: l, n, h => by
    rw [List.all_cons, Bool.and_eq_true_iff] at h
    have h1 := h.1
    unfold isDg at h1
    simp at h1
    have h2 := fold_lt l (10 * n + (c.toNat - 48)) h.2
    rw [List.foldl_cons, List.length_cons, Nat.pow_succ]
    have h3 : 10 * n + (c.toNat - 48) + 1 ≤ (n + 1) * 10 := by omega
    have h4 : (10 * n + (c.toNat - 48) + 1) * 10 ^ l.length ≤ (n + 1) * 10 * 10 ^ l.length := Nat.mul_le_mul_right _ h3
    have h5 : (n + 1) * 10 * 10 ^ l.length = (n + 1) * (10 ^ l.length * 10) := by rw [Nat.mul_assoc, Nat.mul_comm 10]
    omega
theorem valL_lt (l : List UInt8) (h : l.all isDg = true) : valL l < 10 ^ l.length := by
  have := fold_lt l 0 h
  simpa [valL] using this
theorem numW_hi {l : List UInt8} {k : Nat} (h : numW l = some k) : k ≤ 9999999 := by
  unfold numW at h
  split at h
  · cases h
  · rename_i hl
    have hd := numL_inv h
    have hb : (decL k).length ≤ 7 := by rw [hd]; omega
    by_cases hk : k < 10 ^ 7
    · omega
    · exfalso
      have hv := decL_val k
      have hdig := decL_dig k
      have this := fun {l : List UInt8} (h : l.all isDg = true) => valL_lt l h
      have h1 := this hdig
      rw [hv] at h1
      have h2 : 10 ^ (decL k).length ≤ 10 ^ 7 := Nat.pow_le_pow_right (by decide) hb
      omega
theorem mapM_num : ∀ {r : List (List UInt8)} {ks : List Nat}, r.mapM numW = some ks → ∀ k ∈ ks, k ≤ 9999999
  | [], ks, h => by
    simp at h
    subst h
    intro k hk
    cases hk
  | x :: r, ks, h => by
    rw [List.mapM_cons] at h
    cases hx : numW x with
    | none => rw [hx] at h; cases h
    | some k0 =>
      cases hr : r.mapM numW with
      | none => rw [hx, hr] at h; cases h
      | some ks0 =>
        rw [hx, hr] at h
        obtain rfl : k0 :: ks0 = ks := Option.some.inj h
        intro k hk
        rcases List.mem_cons.1 hk with rfl | hk
        · exact numW_hi hx
        · exact mapM_num hr k hk
theorem names_nm {r : List (List UInt8)} (h : namesW r = true) : ∀ s ∈ r.map bt, isNm s = true := by
  unfold namesW at h
  rw [List.all_eq_true] at h
  intro s hs
  obtain ⟨x, hx, rfl⟩ := List.mem_map.1 hs
  exact h x hx
/-- what is read is right -/
theorem cmOf_ok {s : List UInt8} {c : Cm} (h : cmOf s = some c) : ∃ hh n, CmOk c hh n := by
  unfold cmOf wordsC at h
  split at h
  · cases h
  · rename_i w r _
    split at h
    · cases h
    · rename_i hh n hf
      unfold restW at h
      split at h
      · rename_i hw
        subst hw
        obtain ⟨rfl, rfl⟩ := form_moves hf
        split at h
        · rename_i x hs
          split at h
          · rename_i k hk
            split at h
            · rename_i hc
              obtain rfl := (Option.some.inj h).symm
              refine ⟨-1, 1, hf, rfl, fun q => absurd q (by decide), fun _ => by simpa using hc.1, names_nm hc.2, fun z hz => ?_, fun q => absurd q (by decide)⟩
              obtain rfl : z = k := by simpa using hz
              exact numW_hi hk
            · cases h
          · cases h
        · cases h
      · rename_i hw
        split at h
        · rename_i h1
          subst h1
          obtain rfl := form_any hf hw
          split at h
          · rename_i hc
            obtain rfl := (Option.some.inj h).symm
            exact ⟨-1, 0, hf, rfl, fun q => absurd q (by decide), fun _ => by simpa using hc.1, names_nm hc.2, (fun z hz => by cases hz), fun q => absurd q (by decide)⟩
          · cases h
        · rename_i h1
          split at h
          · rename_i h2
            subst h2
            have hn1 : n = 1 := by
              rcases form_three hf with q | q | ⟨_, q⟩
              · omega
              · omega
              · exact q
            subst hn1
            split at h
            · rename_i x y _q
              split at h
              · rename_i k hk
                split at h
                · rename_i hc
                  obtain rfl := (Option.some.inj h).symm
                  refine ⟨1, 1, hf, rfl, fun _ => rfl, fun q => absurd q (by decide), fun z hz => ?_, fun z hz => ?_, fun _ z hz => ?_⟩
                  · obtain rfl : z = bt x := by simpa using hz
                    exact hc.1
                  · obtain rfl : z = k := by simpa using hz
                    exact numW_hi hk
                  · obtain rfl : z = k := by simpa using hz
                    exact hc.2
                · cases h
              · cases h
            · cases h
          · rename_i h2
            have h0 : hh = 0 := by
              rcases form_three hf with q | q | ⟨q, _⟩
              · exact absurd q h1
              · exact q
              · exact absurd q h2
            subst h0
            split at h
            · rename_i ks hk
              split at h
              · rename_i hc
                obtain rfl := (Option.some.inj h).symm
                exact ⟨0, n, hf, hc, fun _ => rfl, fun q => absurd q (by decide), (fun z hz => by cases hz), mapM_num hk, fun q => absurd q (by decide)⟩
              · cases h
            · cases h
/-- what is right of a script's state -/
structure SOk (S : Sc) : Prop where
  f : IsFault S.hosts 0 (-1)
  ne : S.hosts ≠ []
  ok : BOk S.b
def StOk (st : Option Sc) : Prop := ∀ S, st = some S → SOk S
theorem fault_facts {xs : List ByteArray} (h : IsFault xs 0 (-1)) : xs.length ≤ 12 ∧ xs.Nodup ∧ (∀ s ∈ xs, isNm s = true) ∧ ∀ s ∈ xs, s.size ≤ 300 := by
  obtain ⟨_, h12, hnd⟩ := fault_zero h
  have hnm : ∀ s ∈ xs, isNm s = true := fault_nm h
  refine ⟨h12, hnd, hnm, fun s hs => ?_⟩
  have := (nm_word (hnm s hs)).2.2.2
  omega
theorem newB_ok {xs : List ByteArray} (h : IsFault xs 0 (-1)) : BOk (newB xs) := by
  obtain ⟨hl, hnd, hnm, hsz⟩ := fault_facts h
  have h1 := bok_new (n := 31) (t := 20) hl hnd hsz hnm prm31 (by decide) (by decide) (by decide)
  exact ⟨hnew_ok (by simp [newB]) (by simp [newB]) (by simp [newB]) (by simp [newB]) hl hnd hsz, h1.nm, h1.ok, h1.host, h1.hi, h1.t1, h1.t2, h1.prm, h1.s5, h1.ep0, h1.ep1, h1.la0, h1.la1⟩
section
variable {nw : List ByteArray → Nat → Nat → ByteArray}
theorem balR_ok (hnwI : ∀ {xs : List ByteArray} {n : Nat} (k : Nat), xs ≠ [] → Lh.Prm n → nw xs n k ∈ xs) {S S' : Sc} {c : Cm} {a : List UInt8} (h : SOk S) (hc : ∀ k ∈ c.N, k ≤ 9999999) (hb : BalR nw S c S' a) : SOk S' := by
  rcases hb with ⟨_, k, b', s, kept, e, hN, hp, rfl, _⟩ | ⟨_, x, k, b', t, e, _, _, hp, rfl, _⟩ | ⟨_, x, k, b', e, _, _, hp, rfl, _⟩ | ⟨_, k, _, rfl, _⟩ | ⟨_, rfl, _⟩ | ⟨_, rfl, _⟩ | ⟨_, b', s, e, hp, rfl, _⟩
  · exact ⟨h.f, h.ne, pickR_ok hnwI h.ok (by have := hc k (by rw [hN]; simp); omega) hp⟩
  · exact ⟨h.f, h.ne, lookR_ok h.ok hp⟩
  · exact ⟨h.f, h.ne, drainR_ok h.ok hp⟩
  · exact ⟨h.f, h.ne, h.ok⟩
  · exact h
  · exact h
  · exact ⟨h.f, h.ne, exportR_ok h.ok hp⟩
theorem cmR_ok (hnwI : ∀ {xs : List ByteArray} {n : Nat} (k : Nat), xs ≠ [] → Lh.Prm n → nw xs n k ∈ xs) {st st' : Option Sc} {c : Cm} {hh : Int} {n : Nat} {a : List UInt8} (h : StOk st) (hc : CmOk c hh n) (hr : CmR nw st c st' a) : StOk st' := by
  rcases hr with ⟨w, e, pl, hf, hq⟩ | ⟨_, rfl, _⟩ | ⟨_, _, _, rfl, _⟩ | ⟨_, _, S, rfl, hq⟩
  · rcases hq with ⟨_, rfl, _⟩ | ⟨rfl, rfl, _⟩
    · exact h
    · intro S hS
      obtain rfl := Option.some.inj hS
      have hpl : pl = -1 := by
        rcases hf with ⟨_, q, _⟩ | ⟨_, i, hi, _, _, ⟨_, q⟩ | ⟨_, _, q⟩⟩ | ⟨_, _, _, q⟩
        · cases q
        · cases q
        · cases q
        · exact q
      subst hpl
      have hform : formW wHosts = some (-1, 0) := by decide
      have hf1 := hc.form
      rw [w, hform] at hf1
      have hh1 : hh = -1 := by
        injection hf1 with q
        injection q with q1 _
        exact q1.symm
      exact ⟨hf, hc.any (by omega), newB_ok hf⟩
  · exact h
  · exact fun S q => by cases q
  · rcases hq with ⟨S', hb, rfl⟩ | ⟨_, rfl⟩
    · intro T hT
      obtain rfl := Option.some.inj hT
      exact balR_ok hnwI (h S rfl) hc.hi hb
    · exact h
end
end Go.Proofs.YtfhmfjcpggddkaaGreatDoor

/- Which host a new key goes to. -/
namespace Go.Proofs.YtfhmfjcpggddkaaGreatDoor
open Go.RowKit

/-- the host of a key's slot -/
def nwB (xs : List ByteArray) (n k : Nat) : ByteArray := if h : ((Lh.tab xs n n).getD (Lh.turn k % n) 0).toNat < xs.length then xs[((Lh.tab xs n n).getD (Lh.turn k % n) 0).toNat] else xs.headD ByteArray.empty
theorem nwB_in {xs : List ByteArray} {n : Nat} (k : Nat) (h : xs ≠ []) : nwB xs n k ∈ xs := by
  unfold nwB
  split
  · exact List.getElem_mem _
  · cases xs with
    | nil => exact absurd rfl h
    | cons x l => simp
theorem bopen_facts {S : Lh.Bl} (h : Lh.BOk S) : (Lh.bopen S).length ≤ 12 ∧ (Lh.bopen S).Nodup ∧ ∀ s ∈ Lh.bopen S, Lh.isNm s = true ∧ s.size ≤ 300 := by
  have hsub : (Lh.bopen S).Sublist (S.hs.map fun x => x.1) := List.filter_sublist.trans (List.filter_sublist.map _)
  refine ⟨?_, h.h.nodup.sublist hsub, fun s hs => Lh.hup_nm h (Lh.bopen_mem.1 hs).1⟩
  have := hsub.length_le
  rw [List.length_map] at this
  exact Nat.le_trans this h.h.len
end Go.Proofs.YtfhmfjcpggddkaaGreatDoor

/- Scripts: how far numbers go. -/
namespace Go.Proofs.YtfhmfjcpggddkaaGreatDoor
open Go.RowKit Lh

/-- how far a script's state goes behind j lines -/
structure SB (S : Sc) (j : Nat) : Prop where
  ok : SOk S
  n0 : 0 ≤ S.now
  n9 : S.now ≤ 9999999 * (j : Int)
  ep : S.b.ep ≤ (j : Int)
  key : ∀ x ∈ S.b.L, x.1 ≤ 9999999
def StB (st : Option Sc) (j : Nat) : Prop := ∀ S, st = some S → SB S j
theorem fput_key {t : Nat} {L : List Fl} {k : Nat} {s : ByteArray} {now : Int} {m : Nat} (h : ∀ x ∈ L, x.1 ≤ m) (hk : k ≤ m) : ∀ x ∈ fput t L k s now, x.1 ≤ m := by
  intro x hx
  rcases fput_mem hx with rfl | hx
  · exact hk
  · exact h x hx
section
variable {nw : List ByteArray → Nat → Nat → ByteArray}
theorem balR_bnd (hnwI : ∀ {xs : List ByteArray} {n : Nat} (k : Nat), xs ≠ [] → Lh.Prm n → nw xs n k ∈ xs) {S S' : Sc} {c : Cm} {a : List UInt8} {j : Nat} (h : SB S j) (hc : ∀ k ∈ c.N, k ≤ 9999999) (hb : BalR nw S c S' a) : SB S' (j + 1) := by
  have hok := balR_ok hnwI h.ok hc hb
  have h9 := h.n9
  have h8 := h.ep
  rcases hb with ⟨_, k, b', s, kept, e, hN, hp, rfl, _⟩ | ⟨_, x, k, b', t, e, _, _, hp, rfl, _⟩ | ⟨_, x, k, b', e, _, _, hp, rfl, _⟩ | ⟨_, k, hN, rfl, _⟩ | ⟨_, rfl, _⟩ | ⟨_, rfl, _⟩ | ⟨_, b', s, e, hp, rfl, _⟩
  · have hk := hc k (by rw [hN]; simp)
    rcases hp with ⟨_, _, rfl, _⟩ | ⟨_, _, _, _, rfl⟩ | ⟨_, _, _, _, _, _, rfl⟩ | ⟨_, _, _, _, _, _, rfl⟩
    · exact ⟨hok, h.n0, by simp only; omega, by simp only; omega, h.key⟩
    · exact ⟨hok, h.n0, by simp only; omega, by simp only; omega, fput_key h.key hk⟩
    · exact ⟨hok, h.n0, by simp only; omega, by simp only; omega, h.key⟩
    · exact ⟨hok, h.n0, by simp only; omega, by simp only; omega, fput_key h.key hk⟩
  · rcases hp with ⟨_, _, _, rfl⟩ | ⟨_, _, _, rfl⟩
    · refine ⟨hok, h.n0, by simp only; omega, by simp only [blook]; omega, fun x hx => ?_⟩
      simp only [blook] at hx
      split at hx
      · exact h.key x (List.mem_filter.1 hx).1
      · exact h.key x hx
    · exact ⟨hok, h.n0, by simp only; omega, by simp only; omega, h.key⟩
  · rcases hp with ⟨_, _, rfl⟩ | ⟨_, _, rfl⟩
    · exact ⟨hok, h.n0, by simp only; omega, by simp only; omega, h.key⟩
    · exact ⟨hok, h.n0, by simp only; omega, by simp only; omega, h.key⟩
  · have hk := hc k (by rw [hN]; simp)
    have h0 := h.n0
    exact ⟨hok, by simp only; omega, by simp only; omega, by simp only; omega, h.key⟩
  · exact ⟨hok, h.n0, by omega, by omega, h.key⟩
  · exact ⟨hok, h.n0, by omega, by omega, h.key⟩
  · rcases hp with ⟨_, _, _, rfl⟩ | ⟨_, _, _, rfl⟩
    · exact ⟨hok, h.n0, by simp only; omega, by simp only; omega, h.key⟩
    · exact ⟨hok, h.n0, by simp only; omega, by simp only; omega, h.key⟩
theorem SB.more {S : Sc} {j : Nat} (h : SB S j) : SB S (j + 1) := by
  have h9 := h.n9
  have h8 := h.ep
  exact ⟨h.ok, h.n0, by omega, by omega, h.key⟩
theorem cmR_bnd (hnwI : ∀ {xs : List ByteArray} {n : Nat} (k : Nat), xs ≠ [] → Lh.Prm n → nw xs n k ∈ xs) {st st' : Option Sc} {c : Cm} {hh : Int} {n j : Nat} {a : List UInt8} (h : StB st j) (hc : CmOk c hh n) (hr : CmR nw st c st' a) : StB st' (j + 1) := by
  have hok : StOk st' := cmR_ok hnwI (fun S hS => (h S hS).ok) hc hr
  intro T hT
  rcases hr with ⟨w, e, pl, hf, hq⟩ | ⟨_, rfl, _⟩ | ⟨_, _, _, rfl, _⟩ | ⟨_, _, S, rfl, hq⟩
  · rcases hq with ⟨_, rfl, _⟩ | ⟨rfl, rfl, _⟩
    · exact (h T hT).more
    · obtain rfl := Option.some.inj hT
      exact ⟨hok _ rfl, by simp, by simp only; omega, by simp [newB]; omega, fun x hx => by simp [newB] at hx⟩
  · exact (h T hT).more
  · cases hT
  · rcases hq with ⟨S', hb, rfl⟩ | ⟨_, rfl⟩
    · obtain rfl := Option.some.inj hT
      exact balR_bnd hnwI (h S rfl) hc.hi hb
    · exact (h T hT).more
/-- one line more -/
theorem linesR_snoc : ∀ {ss rs : List (List UInt8)} {st st1 st2 : Option Sc} {s a : List UInt8}, LinesR nw st ss rs st1 → LineR nw st1 s st2 a → LinesR nw st (ss ++ [s]) (rs ++ [a]) st2
  | [], _, _, _, st2, _, a, ⟨rfl, rfl⟩, h => ⟨st2, a, [], h, rfl, rfl, rfl⟩
  | _ :: _, _, _, _, _, _, _, ⟨s1, a1, rs1, h1, rfl, hr⟩, h => ⟨s1, a1, rs1 ++ [_], h1, rfl, linesR_snoc hr h⟩
end
end Go.Proofs.YtfhmfjcpggddkaaGreatDoor

/- The landed health in memory: a block, a row of pointers, a block a host; find. -/
namespace Go.Proofs.YtfhmfjcpggddkaaGreatDoor
open Go.RowKit Go.Shelf

def ptrS (b : Nat) : Value := .pointer (some ⟨b, 0, none⟩)
/-- Block b is a host's state. -/
structure HSt (W : World) (b : Nat) (x : Lh.Hh) : Prop where
  c0 : W.cell? ⟨b, 0, none⟩ = some (.string x.1)
  c1 : W.cell? ⟨b, 1, none⟩ = some (.bool x.2.1)
  c2 : W.cell? ⟨b, 2, none⟩ = some (.int .i64 (x.2.2 : Nat))
  fz : ∀ k, W.frozen? ⟨b, k, none⟩ = false
  blk : ∃ cs t, W.heap[b]? = some (.cells cs t (0, 0))
theorem HSt.lt {W : World} {b : Nat} {x : Lh.Hh} (h : HSt W b x) : b < W.heap.size := World.block_lt_of_cell? W ⟨b, 0, none⟩ h.c0
theorem HSt.same {W W' : World} {b : Nat} {x : Lh.Hh} (h : HSt W b x) (e : W'.heap[b]? = W.heap[b]?) : HSt W' b x :=
  ⟨(World.cell?_of_block (w := W) (w' := W') (a := ⟨b, 0, none⟩) e).trans h.c0, (World.cell?_of_block (w := W) (w' := W') (a := ⟨b, 1, none⟩) e).trans h.c1, (World.cell?_of_block (w := W) (w' := W') (a := ⟨b, 2, none⟩) e).trans h.c2, fun k => (World.frozen?_of_block (w := W) (w' := W') (a := ⟨b, k, none⟩) e).trans (h.fz k), by rw [e]; exact h.blk⟩
/-- Block p is the landed health. -/
structure HR (W : World) (p f r : Nat) (l : List Lh.Hh) (bs : List Nat) (lv : Value) : Prop where
  c0 : W.cell? ⟨p, 0, none⟩ = some (.int .i64 (f : Nat))
  c1 : W.cell? ⟨p, 1, none⟩ = some (.int .i64 (r : Nat))
  c2 : W.cell? ⟨p, 2, none⟩ = some lv
  fz : ∀ k, W.frozen? ⟨p, k, none⟩ = false
  own : W.ownsRow (p + 1) 217 1 lv l.length (bs.map ptrS)
  len : bs.length = l.length
  st : ∀ i (h : i < l.length) (h2 : i < bs.length), HSt W bs[i] l[i]
  nd : bs.Nodup
  gt : ∀ b ∈ bs, p < b
  apart : ∀ b ∈ bs, lv.ownBlock ≠ some b
/-- the blocks that it is made of -/
def HFoot (p : Nat) (bs : List Nat) (lv : Value) (b : Nat) : Prop := b = p ∨ lv.ownBlock = some b ∨ b ∈ bs
section
variable {W W' : World} {p f r : Nat} {l : List Lh.Hh} {bs : List Nat} {lv : Value}
theorem HR.plt (h : HR W p f r l bs lv) : p < W.heap.size := World.block_lt_of_cell? W ⟨p, 0, none⟩ h.c0
theorem HR.blt (h : HR W p f r l bs lv) {b : Nat} (hb : b ∈ bs) : b < W.heap.size := by
  obtain ⟨i, hi, rfl⟩ := List.getElem_of_mem hb
  exact (h.st i (by rw [← h.len]; exact hi) hi).lt
theorem HR.lt (h : HR W p f r l bs lv) : ∀ b, HFoot p bs lv b → b < W.heap.size ∧ p ≤ b := by
  rintro b (rfl | e | hb)
  · exact ⟨h.plt, Nat.le_refl _⟩
  · have := h.own.lt b e
    omega
  · exact ⟨h.blt hb, Nat.le_of_lt (h.gt b hb)⟩
theorem HR.stay (h : HR W p f r l bs lv) (hs : ∀ b, HFoot p bs lv b → W'.heap[b]? = W.heap[b]?) : HR W' p f r l bs lv := by
  have hm := hs p (Or.inl rfl)
  refine ⟨?_, ?_, ?_, fun k => ?_, owns_same h.own fun g e => hs g (Or.inr (Or.inl e)), h.len, fun i h1 h2 => (h.st i h1 h2).same (hs _ (Or.inr (Or.inr (List.getElem_mem h2)))), h.nd, h.gt, h.apart⟩
  · rw [World.cell?_of_block (w := W) (w' := W') (a := ⟨p, 0, none⟩) hm]; exact h.c0
  · rw [World.cell?_of_block (w := W) (w' := W') (a := ⟨p, 1, none⟩) hm]; exact h.c1
  · rw [World.cell?_of_block (w := W) (w' := W') (a := ⟨p, 2, none⟩) hm]; exact h.c2
  · rw [World.frozen?_of_block (w := W) (w' := W') (a := ⟨p, k, none⟩) hm]; exact h.fz k
theorem HR.later (h : HR W p f r l bs lv) (hb : Below W.heap.size W W') : HR W' p f r l bs lv := h.stay fun b hf => hb.block b (h.lt b hf).1
/-- the row's cells -/
theorem HR.row (h : HR W p f r l bs lv) (h0 : 0 < l.length) : ∃ g cap, lv = .slice (some ⟨g, 0, none⟩) l.length cap ∧ l.length ≤ cap ∧ cap ≤ maxLen ∧ p < g ∧ (∀ i (h2 : i < bs.length), W.cell? ⟨g, i, none⟩ = some (ptrS bs[i])) ∧ ∀ k, W.frozen? ⟨g, k, none⟩ = false := by
  obtain ⟨hl, ⟨e0, h'⟩ | ⟨g, cap, cur, rfl, hbase, hb, hn, hm, hsz, ht⟩⟩ := h.own
  · omega
  · refine ⟨g, cap, rfl, hn, hm, by omega, fun i hi => ?_, fun k => by simp [World.frozen?, hb]⟩
    have hl := h.len
    have h1 : (bs.map ptrS)[i]? = some (ptrS bs[i]) := by simp [hi]
    rw [← ht, List.getElem?_take_of_lt (by omega)] at h1
    simp only [World.cell?, hb]
    simpa using h1
theorem HR.shape (h : HR W p f r l bs lv) : ∃ q cap, lv = .slice q l.length cap := by
  obtain ⟨_, ⟨rfl, h'⟩ | ⟨g, cap, cur, rfl, _⟩⟩ := h.own
  · exact ⟨_, _, by rw [h']⟩
  · exact ⟨_, _, rfl⟩
end

set_option maxHeartbeats 1000000 in
/-- the function handed to slices.IndexFunc -/
theorem findC (hb b : Nat) (s t : ByteArray) (W : World) (h1 : W.cell? ⟨hb, 0, none⟩ = some (.string s)) (h2 : W.cell? ⟨b, 0, none⟩ = some (.string t)) :
    Calls Tryz.prog 197 #[ptrS b, ptrS hb] W fun e w' => e = .returned (.bool (decide (t = s))) ∧ Below W.heap.size W w' := by
  unfold ptrS
  by_cases he : t = s
  · have hq := bytes_same he
    have HE : Hid (t = s) := he
    clear he
    go_enter Tryz.func197, Tryz.ntmps197
    go_wp2
    go_quiet (fail)
    go_wp2
    go_ret
    exact ⟨by simp [HE.out], below_drewN (Below.refl _ _) _⟩
  · have hq := bytes_parts he
    have HE : Hid (¬ t = s) := he
    clear he
    go_enter Tryz.func197, Tryz.ntmps197
    go_wp2
    go_quiet (fail)
    go_wp2
    go_ret
    exact ⟨by simp [HE.out], below_drewN (Below.refl _ _) _⟩
theorem entersFd : ∀ args w, (callFunc 197 args).run Tryz.prog w = .ok (.enter 197 args) w := enters_of Tryz.func197 (by kernel_rfl) rfl

set_option maxRecDepth 100000 in
set_option maxHeartbeats 2000000 in
theorem indexS_core (hb : Nat) (q : Option Addr) (c : Nat) (l : List Lh.Hh) (bs : List Nat) (s : ByteArray) (W : World) (hlen : bs.length = l.length) (hl : l.length ≤ 12) (hc : ∀ k (h : k < l.length) (h2 : k < bs.length), ∃ g, q = some ⟨g, 0, none⟩ ∧ W.cell? ⟨g, k, none⟩ = some (ptrS bs[k]) ∧ W.cell? ⟨bs[k], 0, none⟩ = some (.string (l[k]).1)) (h1 : W.cell? ⟨hb, 0, none⟩ = some (.string s)) :
    Calls Tryz.prog 196 #[.slice q l.length c, .func (.func 197) #[] #[ptrS hb]] W fun e w' => e = .returned (.int .i64 (fi l s)) ∧ Below W.heap.size W w' := by
  have HC : Hid (∀ k (h : k < l.length) (h2 : k < bs.length), ∃ g, q = some ⟨g, 0, none⟩ ∧ W.cell? ⟨g, k, none⟩ = some (ptrS bs[k]) ∧ W.cell? ⟨bs[k], 0, none⟩ = some (.string (l[k]).1)) := hc
  have HCL : Hid (∀ (W' : World) (b : Nat) (t : ByteArray), Below W.heap.size W W' → W.cell? ⟨b, 0, none⟩ = some (.string t) → Calls Tryz.prog 197 #[ptrS b, ptrS hb] W' fun e w' => e = .returned (.bool (decide (t = s))) ∧ Below W.heap.size W w') := fun W' b t hB h2 => (findC hb b s t W' (below_cell hB h1) (below_cell hB h2)).mono fun _ _ ⟨e, k⟩ => ⟨e, below_then hB k⟩
  have HLN : Hid (bs.length = l.length) := hlen
  have eg := entersFd
  clear hc h1 hlen
  go_enter Tryz.func196, Tryz.ntmps196
  go_wp2_with fail
  go_loopw [5, 8] (fun _ t W' => Below W.heap.size W W' ∧ ∃ k : Nat, k ≤ l.length ∧ t = .int .i64 (k : Nat) ∧ ∀ j (h : j < l.length), j < k → (l[j]).1 ≠ s) (fun _ t _ => l.length + 1 - (intOf t).toNat)
  case atStart => exact ⟨Below.refl _ _, 0, Nat.zero_le _, rfl, fun j _ h => absurd h (by omega)⟩
  case round =>
    obtain ⟨hB, k, hk, rfl, hp⟩ := hrel
    have HP : Hid (∀ j (h : j < l.length), j < k → (l[j]).1 ≠ s) := hp
    clear hp
    by_cases hlt : k < l.length
    · have hlt2 : k < bs.length := by rw [HLN.out]; exact hlt
      obtain ⟨g, rfl, c1, c2⟩ := HC.out k hlt hlt2
      have hki : (k : Int) < (l.length : Int) := by omega
      have hcall := HCL.out _ _ _ hB c2
      have c1' := below_cell hB c1
      have HE : Hid (decide ((l[k]).1 = s) = true → fi l s = (k : Nat)) := fun h => by
        have h1 := fi_at hlt HP.out (of_decide_eq_true h)
        unfold fi
        rw [h1, if_pos hlt]
      have HN : Hid (decide ((l[k]).1 = s) = false → ∀ j (h : j < l.length), j < k + 1 → (l[j]).1 ≠ s) := fun h j hj hjk => by
        by_cases e : j = k
        · subst e
          exact of_decide_eq_false h
        · exact HP.out j hj (by omega)
      clear c1 c2
      generalize bs[k] = b at *
      unfold ptrS at c1' hcall
      unfold ptrS
      cases hd : decide ((l[k]).1 = s) with
      | true =>
        have HE2 : Hid (fi l s = (k : Nat)) := HE.out hd
        rw [hd] at hcall
        clear hd HN HE
        go_wp2_with (go_at_fn 197; refine hcall.mono ?_; rintro e w' ⟨rfl, hB2⟩)
        go_ret
        exact ⟨by rw [HE2.out]; rfl, hB2⟩
      | false =>
        have HN2 : Hid (∀ j (h : j < l.length), j < k + 1 → (l[j]).1 ≠ s) := HN.out hd
        rw [hd] at hcall
        clear hd HN HE
        go_wp2_with (go_at_fn 197; refine hcall.mono ?_; rintro e w' ⟨rfl, hB2⟩)
        go_roundw
        case rel => exact ⟨hB2, k + 1, by omega, by go_num, HN2.out⟩
        case measure => simp [intOf]; omega
    · have hki : decide ((k : Int) < (l.length : Int)) = false := by simp; omega
      have HF : Hid (fi l s = -1) := by
        show fi l s = -1
        unfold fi
        rw [if_neg]
        intro h
        exact HP.out _ h (by omega) (Lh.hix_get h)
      go_wp2
      go_ret
      exact ⟨by rw [HF.out]; rfl, hB⟩
end Go.Proofs.YtfhmfjcpggddkaaGreatDoor

/- The landed health: find, Is and Look. -/
namespace Go.Proofs.YtfhmfjcpggddkaaGreatDoor
open Go.RowKit Go.Shelf

theorem Tur.setCell {F : Nat → Prop} {w w' : World} (h : Tur F w w') {x : Nat} (k : Nat) (hx : F x ∨ w.heap.size ≤ x) (v : Value) : Tur F w (w'.setCell ⟨x, k, none⟩ v) :=
  ⟨h.os, h.tape, h.output, by simpa [World.setCell] using h.size, fun j hj hf => (heap_setCell_other w' ⟨x, k, none⟩ j v (fun e => by
    rcases hx with h1 | h1
    · exact hf (e ▸ h1)
    · have : j = x := e
      omega)).trans (h.block j hj hf)⟩
section
variable {W W' : World} {p f r : Nat} {l : List Lh.Hh} {bs : List Nat} {lv : Value}
theorem HR.at (h : HR W p f r l bs lv) {k : Nat} (hk : k < l.length) : ∃ b, bs[k]? = some b := ⟨bs[k]'(by rw [h.len]; exact hk), by simp [h.len, hk]⟩
theorem HR.stAt (h : HR W p f r l bs lv) {k b : Nat} (hb : bs[k]? = some b) (hk : k < l.length) : HSt W b l[k] := by
  obtain ⟨h2, rfl⟩ := List.getElem?_eq_some_iff.1 hb
  exact h.st k hk h2
theorem HR.turned (h : HR W p f r l bs lv) {k b : Nat} (hb : bs[k]? = some b) (_hk : k < l.length) (hT : Tur (fun j => j = b) W W') {x : Lh.Hh} (hx : HSt W' b x) : HR W' p f r (l.set k x) bs lv ∧ Tur (HFoot p bs lv) W W' := by
  obtain ⟨h2, e⟩ := List.getElem?_eq_some_iff.1 hb
  have hmem : b ∈ bs := e ▸ List.getElem_mem h2
  have hp := hT.block p h.plt (fun e1 => by have := h.gt b hmem; omega)
  refine ⟨⟨?_, ?_, ?_, fun j => ?_, ?_, by simpa using h.len, fun i h3 h4 => ?_, h.nd, h.gt, h.apart⟩, ⟨hT.os, hT.tape, hT.output, hT.size, fun j hj hf => hT.block j hj fun e1 => hf (Or.inr (Or.inr (e1 ▸ hmem)))⟩⟩
  · rw [World.cell?_of_block (w := W) (w' := W') (a := ⟨p, 0, none⟩) hp]; exact h.c0
  · rw [World.cell?_of_block (w := W) (w' := W') (a := ⟨p, 1, none⟩) hp]; exact h.c1
  · rw [World.cell?_of_block (w := W) (w' := W') (a := ⟨p, 2, none⟩) hp]; exact h.c2
  · rw [World.frozen?_of_block (w := W) (w' := W') (a := ⟨p, j, none⟩) hp]; exact h.fz j
  · rw [List.length_set]
    exact owns_same h.own fun g eg => hT.block g (h.own.lt g eg).2 (fun e1 => h.apart b hmem (by rw [eg, e1]))
  · by_cases eik : k = i
    · subst eik
      rw [List.getElem_set_self]
      rw [e]
      exact hx
    · rw [List.getElem_set_ne eik]
      have h5 : i < l.length := by simpa using h3
      refine (h.st i h5 h4).same (hT.block _ (h.st i h5 h4).lt fun e1 => eik ?_)
      have e2 : bs[k] = bs[i] := by rw [e, e1]
      exact (List.getElem_inj h.nd).1 e2

set_option maxHeartbeats 1000000 in
theorem findS_good (h : HR W p f r l bs lv) (hl : l.length ≤ 12) (s : ByteArray) (hx : Lh.hix l s < l.length) {b : Nat} (hb : bs[Lh.hix l s]? = some b) :
    Calls Tryz.prog 155 #[.pointer (some ⟨p, 0, none⟩), .string s] W fun e w' => e = .returned (.pointer (some ⟨b, 0, none⟩)) ∧ Below W.heap.size W w' := by
  have hb1 : Below W.heap.size W (W.alloc (.cells #[.string s] 9)) := (Below.refl _ _).alloc (Nat.le_refl _) _
  have h' := h.later hb1
  obtain ⟨g, cap, rfl, hcap, hcm, _, hrow, _⟩ := h'.row (by omega)
  have c2 := h'.c2
  have hxx := indexS_core W.heap.size (some ⟨g, 0, none⟩) cap l bs s _ h.len hl (fun k h1 h2 => ⟨g, rfl, hrow k h2, (h'.st k h1 h2).c0⟩) (by simp)
  have e1 : fi l s = (Lh.hix l s : Nat) := by unfold fi; rw [if_pos hx]
  rw [e1] at hxx
  obtain ⟨h2, e⟩ := List.getElem?_eq_some_iff.1 hb
  have cb := hrow _ h2
  rw [e] at cb
  have hki : ((Lh.hix l s : Nat) : Int) < (l.length : Int) := by omega
  unfold maxLen at hcm
  unfold ptrS at cb hxx
  clear h h' hrow e hb h2 e1 hx
  generalize Lh.hix l s = k at *
  have d0 : decide ((k : Int) < 0) = false := by simp
  go_enter Tryz.func155, Tryz.ntmps155
  go_wp2_with fail
  refine hxx.mono ?_
  rintro e w' ⟨rfl, hb2⟩
  have hb3 := below_then hb1 hb2
  have c2' := below_cell hb2 c2
  have cb' := below_cell hb2 cb
  clear hxx hb1 hb2 c2 cb
  go_wp2
  go_ret
  exact ⟨rfl, hb3⟩

set_option maxHeartbeats 1000000 in
theorem findS_none (h : HR W p f r l bs lv) (hl : l.length ≤ 12) (s : ByteArray) (hx : ¬ Lh.hix l s < l.length) :
    Calls Tryz.prog 155 #[.pointer (some ⟨p, 0, none⟩), .string s] W fun e w' => e = .returned (.pointer none) ∧ Below W.heap.size W w' := by
  have hb1 : Below W.heap.size W (W.alloc (.cells #[.string s] 9)) := (Below.refl _ _).alloc (Nat.le_refl _) _
  have h' := h.later hb1
  obtain ⟨q, cap, rfl⟩ := h'.shape
  have c2 := h'.c2
  have hxx := indexS_core W.heap.size q cap l bs s _ h.len hl (fun k h1 h2 => by
    obtain ⟨g, cap', e, _, _, _, hrow, _⟩ := h'.row (by omega)
    cases e
    exact ⟨g, rfl, hrow k h2, (h'.st k h1 h2).c0⟩) (by simp)
  have e1 : fi l s = -1 := by unfold fi; rw [if_neg hx]
  rw [e1] at hxx
  unfold ptrS at hxx
  clear h h' e1 hx
  go_enter Tryz.func155, Tryz.ntmps155
  go_wp2_with fail
  refine hxx.mono ?_
  rintro e w' ⟨rfl, hb2⟩
  have hb3 := below_then hb1 hb2
  clear hxx hb1 hb2 c2
  go_wp2
  go_ret
  exact ⟨rfl, hb3⟩

set_option maxHeartbeats 1000000 in
/-- Is. -/
theorem isS_any (h : HR W p f r l bs lv) (hk : Lh.HOk f r l) (s : ByteArray) :
    Calls Tryz.prog 99 #[.pointer (some ⟨p, 0, none⟩), .string s] W fun e w' => e = .returned (.bool (Lh.hup l s)) ∧ Below W.heap.size W w' := by
  by_cases hx : Lh.hix l s < l.length
  · have HU : Hid (Lh.hup l s = (l[Lh.hix l s]).2.1) := hup_at hk.nodup hx
    obtain ⟨b, hb⟩ := h.at hx
    have hfd := findS_good h hk.len s hx hb
    have c1 := (h.stAt hb hx).c1
    clear h hb hk
    generalize (l[Lh.hix l s]).2.1 = u at *
    rw [HU.out]
    clear HU hx
    go_enter Tryz.func99, Tryz.ntmps99
    go_wp2_with fail
    refine hfd.mono ?_
    rintro e w1 ⟨rfl, hb1⟩
    have c1' := below_cell hb1 c1
    clear hfd c1
    go_wp2
    go_ret
    exact ⟨rfl, hb1⟩
  · have hfd := findS_none h hk.len s hx
    rw [hup_none hx]
    clear h hk hx
    go_enter Tryz.func99, Tryz.ntmps99
    go_wp2_with fail
    refine hfd.mono ?_
    rintro e w1 ⟨rfl, hb1⟩
    clear hfd
    go_wp2
    go_ret
    exact ⟨rfl, hb1⟩

set_option maxHeartbeats 1000000 in
theorem edge_any (p f r : Nat) (u : Bool) (W : World) (c0 : W.cell? ⟨p, 0, none⟩ = some (.int .i64 (f : Nat))) (c1 : W.cell? ⟨p, 1, none⟩ = some (.int .i64 (r : Nat))) :
    Calls Tryz.prog 156 #[.pointer (some ⟨p, 0, none⟩), .bool u] W fun e w' => e = .returned (.int .i64 (Lh.hedge f r u : Nat)) ∧ w' = W := by
  cases u with
  | true =>
    go_enter Tryz.func156, Tryz.ntmps156
    go_wp2
    go_ret
    exact ⟨by simp [Lh.hedge], rfl⟩
  | false =>
    go_enter Tryz.func156, Tryz.ntmps156
    go_wp2
    go_ret
    exact ⟨by simp [Lh.hedge], rfl⟩
end
end Go.Proofs.YtfhmfjcpggddkaaGreatDoor

/- The landed health: Look. -/
namespace Go.Proofs.YtfhmfjcpggddkaaGreatDoor
open Go.RowKit Go.Shelf

section
variable {W : World} {p f r : Nat} {l : List Lh.Hh} {bs : List Nat} {lv : Value}

set_option maxHeartbeats 1000000 in
theorem lookS_none (a : Nat → Addr) (he : Errs4 a W) (h : HR W p f r l bs lv) (hl : l.length ≤ 12) (s : ByteArray) (well : Bool) (hx : ¬ Lh.hix l s < l.length) :
    Calls Tryz.prog 98 #[.pointer (some ⟨p, 0, none⟩), .string s, .bool well] W fun e w' => e = .returned (.tuple #[.bool false, .iface 378 (.pointer (some (a 4)))]) ∧ Below W.heap.size W w' := by
  have hfd := findS_none h hl s hx
  have HE : Hid (Errs4 a W) := he
  clear h hx he
  go_enter Tryz.func98, Tryz.ntmps98
  go_wp2_with fail
  refine hfd.mono ?_
  rintro e w1 ⟨rfl, hb1⟩
  have s4 := (HE.out.later hb1).s4
  clear hfd
  go_wp2
  go_quiet (fail)
  go_wp2
  go_ret2
  exact ⟨rfl, below_drewN hb1 nq⟩

theorem blk_set {w : World} {b : Nat} (h : ∃ cs t, w.heap[b]? = some (.cells cs t (0, 0))) (k : Nat) (v : Value) : ∃ cs t, (w.setCell ⟨b, k, none⟩ v).heap[b]? = some (.cells cs t (0, 0)) := by
  obtain ⟨cs, t, h⟩ := h
  exact ⟨_, _, heap_setCell_same w b k _ _ v h⟩
theorem HSt.set2 {w : World} {b : Nat} {x1 : ByteArray} {u : Bool} {c : Nat} (h : HSt w b (x1, u, c)) (d : Nat) : HSt (w.setCell ⟨b, 2, none⟩ (.int .i64 (d : Nat))) b (x1, u, d) := by
  have c0 := h.c0
  have c1 := h.c1
  have c2 := h.c2
  refine ⟨?_, ?_, ?_, fun k => ?_, blk_set h.blk _ _⟩
  · simp [go_sem, c0]
  · simp [go_sem, c1]
  · simp [go_sem, c2]
  · have := h.fz k
    simp [go_sem, this]
theorem HSt.set1 {w : World} {b : Nat} {x1 : ByteArray} {u : Bool} {c : Nat} (h : HSt w b (x1, u, c)) (v : Bool) : HSt (w.setCell ⟨b, 1, none⟩ (.bool v)) b (x1, v, c) := by
  have c0 := h.c0
  have c1 := h.c1
  have c2 := h.c2
  refine ⟨?_, ?_, ?_, fun k => ?_, blk_set h.blk _ _⟩
  · simp [go_sem, c0]
  · simp [go_sem, c1]
  · simp [go_sem, c2]
  · have := h.fz k
    simp [go_sem, this]
set_option maxHeartbeats 1000000 in
theorem lookS_same (b : Nat) (s : ByteArray) (u : Bool) (x1 : ByteArray) (c : Nat) (hfd : Calls Tryz.prog 155 #[.pointer (some ⟨p, 0, none⟩), .string s] W fun e w' => e = .returned (.pointer (some ⟨b, 0, none⟩)) ∧ Below W.heap.size W w') (hst : HSt W b (x1, u, c)) :
    Calls Tryz.prog 98 #[.pointer (some ⟨p, 0, none⟩), .string s, .bool u] W fun e w' => e = .returned (.tuple #[.bool false, .nilIface]) ∧ Tur (fun j => j = b) W w' ∧ HSt w' b (x1, u, 0) := by
  have HS : Hid (HSt W b (x1, u, c)) := hst
  have hq : (u == u) = true := by simp
  clear hst
  go_enter Tryz.func98, Tryz.ntmps98
  go_wp2_with fail
  refine hfd.mono ?_
  rintro e w1 ⟨rfl, hb1⟩
  have hs := HS.out.same (hb1.block b HS.out.lt)
  have HS1 : Hid (HSt w1 b (x1, u, c)) := hs
  have c1 : w1.cell? ⟨b, 1, none⟩ = some (.bool u) := hs.c1
  have c2 : w1.cell? ⟨b, 2, none⟩ = some (.int .i64 (c : Nat)) := hs.c2
  have f2 := hs.fz 2
  clear hfd hs
  go_wp2
  go_ret2
  exact ⟨rfl, Tur.setCell (F := fun j => j = b) (Tur.of_below hb1) 2 (Or.inl rfl) _, HS1.out.set2 0⟩

theorem Tur.then {F : Nat → Prop} {w w1 w2 : World} (h : Tur F w w1) (hb : Below w1.heap.size w1 w2) : Tur F w w2 :=
  ⟨hb.os.trans h.os, hb.tape.trans h.tape, hb.output.trans h.output, Nat.le_trans h.size hb.size, fun j hj hf => (hb.block j (Nat.lt_of_lt_of_le hj h.size)).trans (h.block j hj hf)⟩

set_option maxHeartbeats 2000000 in
theorem lookS_other (b E : Nat) (s : ByteArray) (u well : Bool) (hw : well = !u) (x1 : ByteArray) (c : Nat) (hc : c < 10) (_hE : E ≤ 10) (hpb : p ≠ b) (hfd : Calls Tryz.prog 155 #[.pointer (some ⟨p, 0, none⟩), .string s] W fun e w' => e = .returned (.pointer (some ⟨b, 0, none⟩)) ∧ Below W.heap.size W w') (hst : HSt W b (x1, u, c)) (hed : ∀ W', W'.heap[p]? = W.heap[p]? → Calls Tryz.prog 156 #[.pointer (some ⟨p, 0, none⟩), .bool u] W' fun e w' => e = .returned (.int .i64 (E : Nat)) ∧ w' = W') (hp : p < W.heap.size) :
    Calls Tryz.prog 98 #[.pointer (some ⟨p, 0, none⟩), .string s, .bool well] W fun e w' => Tur (fun j => j = b) W w' ∧ ((E ≤ c + 1 ∧ e = .returned (.tuple #[.bool true, .nilIface]) ∧ HSt w' b (x1, !u, 0)) ∨ (¬ E ≤ c + 1 ∧ e = .returned (.tuple #[.bool false, .nilIface]) ∧ HSt w' b (x1, u, c + 1))) := by
  have HS : Hid (HSt W b (x1, u, c)) := hst
  have HED : Hid (∀ W', W'.heap[p]? = W.heap[p]? → Calls Tryz.prog 156 #[.pointer (some ⟨p, 0, none⟩), .bool u] W' fun e w' => e = .returned (.int .i64 (E : Nat)) ∧ w' = W') := hed
  have HPB : Hid (p ≠ b) := hpb
  have HP : Hid (p < W.heap.size) := hp
  have hq : (well == u) = false := by subst hw; cases u <;> rfl
  have HW : Hid (well = !u) := hw
  clear hst hed hpb hw hp
  go_enter Tryz.func98, Tryz.ntmps98
  go_wp2_with fail
  refine hfd.mono ?_
  rintro e w1 ⟨rfl, hb1⟩
  have hs := HS.out.same (hb1.block b HS.out.lt)
  have HS1 : Hid (HSt w1 b (x1, u, c)) := hs
  have c1 : w1.cell? ⟨b, 1, none⟩ = some (.bool u) := hs.c1
  have c2 : w1.cell? ⟨b, 2, none⟩ = some (.int .i64 (c : Nat)) := hs.c2
  have f1 := hs.fz 1
  have f2 := hs.fz 2
  clear hfd hs
  go_wp2_with fail
  have T2 : Tur (fun j => j = b) W (w1.setCell ⟨b, 2, none⟩ (.int .i64 ((c : Int) + 1))) := Tur.setCell (F := fun j => j = b) (Tur.of_below hb1) 2 (Or.inl rfl) _
  have HS2 : HSt (w1.setCell ⟨b, 2, none⟩ (.int .i64 ((c : Int) + 1))) b (x1, u, c + 1) := HS1.out.set2 (c + 1)
  clear c1 c2 f1 f2 hb1 HS1
  generalize w1.setCell ⟨b, 2, none⟩ (.int .i64 ((c : Int) + 1)) = w2 at *
  have HT2 : Hid (Tur (fun j => j = b) W w2) := T2
  have HST2 : Hid (HSt w2 b (x1, u, c + 1)) := HS2
  have k1 : w2.cell? ⟨b, 1, none⟩ = some (.bool u) := HS2.c1
  have k2 : w2.cell? ⟨b, 2, none⟩ = some (.int .i64 ((c : Int) + 1)) := HS2.c2
  have HKC : Hid (∀ W', Below w2.heap.size w2 W' → Below w2.heap.size w2 W' ∧ W'.cell? ⟨b, 1, none⟩ = some (.bool u) ∧ W'.cell? ⟨b, 2, none⟩ = some (.int .i64 ((c : Int) + 1))) := fun W' h => ⟨h, below_cell h k1, below_cell h k2⟩
  have HEW : Hid (∀ W', Below w2.heap.size w2 W' → Calls Tryz.prog 156 #[.pointer (some ⟨p, 0, none⟩), .bool u] W' fun e w' => e = .returned (.int .i64 (E : Nat)) ∧ Below w2.heap.size w2 w') := fun W' h => (HED.out W' ((h.block p (Nat.lt_of_lt_of_le HP.out HT2.out.size)).trans (HT2.out.block p HP.out HPB.out))).mono fun _ _ ⟨q1, q2⟩ => ⟨q1, by rw [q2]; exact h⟩
  clear T2 HS2 HED
  by_cases hlt : c + 1 < E
  · have d : decide ((c : Int) + 1 < (E : Int)) = true := by simp; omega
    go_region_held3 (fun w' => Below w2.heap.size w2 w' ∧ w'.cell? ⟨b, 1, none⟩ = some (.bool u) ∧ w'.cell? ⟨b, 2, none⟩ = some (.int .i64 ((c : Int) + 1)))
      (first | exact HKC.out _ (by assumption) | exact HKC.out _ (below_drewN (Below.refl _ _) 1) | exact HKC.out _ (Below.refl _ _))
      (first | (go_at_call 156; refine (HEW.out _ (by first | assumption | exact Below.refl _ _ | exact below_drewN (Below.refl _ _) 1)).mono ?_; rintro e wz ⟨rfl, hbz⟩))
    all_goals
      go_wp2
      go_ret2
      exact ⟨HT2.out.then hbz, Or.inr ⟨by omega, rfl, HST2.out.same (hbz.block b HST2.out.lt)⟩⟩
  · have d : decide ((c : Int) + 1 < (E : Int)) = false := by simp; omega
    go_region_held3 (fun w' => Below w2.heap.size w2 w' ∧ w'.cell? ⟨b, 1, none⟩ = some (.bool u) ∧ w'.cell? ⟨b, 2, none⟩ = some (.int .i64 ((c : Int) + 1)))
      (first | exact HKC.out _ (by assumption) | exact HKC.out _ (below_drewN (Below.refl _ _) 1) | exact HKC.out _ (Below.refl _ _))
      (first | (go_at_call 156; refine (HEW.out _ (by first | assumption | exact Below.refl _ _ | exact below_drewN (Below.refl _ _) 1)).mono ?_; rintro e wz ⟨rfl, hbz⟩))
    all_goals
      have hsz := HST2.out.same (hbz.block b HST2.out.lt)
      have HSZ : Hid (HSt wz b (x1, u, c + 1)) := hsz
      have z1 : wz.cell? ⟨b, 1, none⟩ = some (.bool u) := hsz.c1
      have z2 : wz.cell? ⟨b, 2, none⟩ = some (.int .i64 ((c : Int) + 1)) := hsz.c2
      have g1 := hsz.fz 1
      have g2 := hsz.fz 2
      clear hsz k1 k2
      go_wp2
      go_ret2
      refine ⟨?_, Or.inl ⟨by omega, rfl, ?_⟩⟩
      · exact Tur.setCell (F := fun j => j = b) (Tur.setCell (F := fun j => j = b) (HT2.out.then hbz) 1 (Or.inl rfl) _) 2 (Or.inl rfl) _
      · rw [← HW.out]
        exact (HSZ.out.set1 well).set2 0

/-- Look. -/
theorem lookS_any (a : Nat → Addr) (he : Errs4 a W) (h : HR W p f r l bs lv) (hk : Lh.HOk f r l) (s : ByteArray) (well : Bool) :
    Calls Tryz.prog 98 #[.pointer (some ⟨p, 0, none⟩), .string s, .bool well] W fun e w' => Tur (HFoot p bs lv) W w' ∧
      ((∃ h : Lh.hix l s < l.length, e = .returned (.tuple #[.bool (Lh.hlook f r l[Lh.hix l s] well).2, .nilIface]) ∧ HR w' p f r (l.set (Lh.hix l s) (Lh.hlook f r l[Lh.hix l s] well).1) bs lv) ∨
       (¬ Lh.hix l s < l.length ∧ e = .returned (.tuple #[.bool false, .iface 378 (.pointer (some (a 4)))]) ∧ HR w' p f r l bs lv)) := by
  by_cases hx : Lh.hix l s < l.length
  · obtain ⟨b, hb⟩ := h.at hx
    have hfd := findS_good h hk.len s hx hb
    have hst := h.stAt hb hx
    have hmem : b ∈ bs := List.mem_of_getElem? hb
    have hcn := hk.cnt _ (List.getElem_mem hx)
    have hE := Lh.hedge_le hk.f10 hk.r10 (l[Lh.hix l s]).2.1
    have hgt := h.gt b hmem
    obtain ⟨⟨x1, u, c⟩, hxe⟩ : ∃ x, l[Lh.hix l s] = x := ⟨_, rfl⟩
    rw [hxe] at hst hcn hE
    by_cases hwu : well = u
    · subst hwu
      refine (lookS_same b s well x1 c hfd hst).mono ?_
      rintro e w' ⟨rfl, hT, hS⟩
      have e1 : Lh.hlook f r (x1, well, c) well = ((x1, well, 0), false) := by simp [Lh.hlook]
      obtain ⟨h1, h2⟩ := h.turned hb hx hT hS
      exact ⟨h2, Or.inl ⟨hx, by rw [hxe, e1], by rw [hxe, e1]; exact h1⟩⟩
    · refine (lookS_other b (Lh.hedge f r u) s u well (by cases u <;> cases well <;> simp_all) x1 c (by simp at hcn hE; omega) hE (by omega) hfd hst (fun W' hW' => edge_any p f r u W' ((World.cell?_of_block (w := W) (w' := W') (a := ⟨p, 0, none⟩) hW').trans h.c0) ((World.cell?_of_block (w := W) (w' := W') (a := ⟨p, 1, none⟩) hW').trans h.c1)) h.plt).mono ?_
      rintro e w' ⟨hT, ⟨h1, rfl, hS⟩ | ⟨h1, rfl, hS⟩⟩
      · have e1 : Lh.hlook f r (x1, u, c) well = ((x1, !u, 0), true) := by simp [Lh.hlook, hwu, h1]
        obtain ⟨h1, h2⟩ := h.turned hb hx hT hS
        exact ⟨h2, Or.inl ⟨hx, by rw [hxe, e1], by rw [hxe, e1]; exact h1⟩⟩
      · have e1 : Lh.hlook f r (x1, u, c) well = ((x1, u, c + 1), false) := by simp [Lh.hlook, hwu, h1]
        obtain ⟨h1, h2⟩ := h.turned hb hx hT hS
        exact ⟨h2, Or.inl ⟨hx, by rw [hxe, e1], by rw [hxe, e1]; exact h1⟩⟩
  · refine (lookS_none a he h hk.len s well hx).mono ?_
    rintro e w' ⟨rfl, hB⟩
    exact ⟨Tur.of_below hB, Or.inr ⟨hx, rfl, h.later hB⟩⟩
end
end Go.Proofs.YtfhmfjcpggddkaaGreatDoor

/- The landed health: a host more. -/
namespace Go.Proofs.YtfhmfjcpggddkaaGreatDoor
open Go.RowKit Go.Shelf

theorem infoP : (Tryz.prog.info? 217).map (fun i => (i.zero, i.size, i.bytes)) = some (some (.pointer none), 1, 8) := by kernel_rfl
section
variable {W W2 w1 : World} {p f r : Nat} {l : List Lh.Hh} {bs : List Nat} {lv : Value}
theorem HR.added (h : HR W p f r l bs lv) (x : Lh.Hh) {b : Nat} (hb : b = W.heap.size) (hB : Below W.heap.size W W2) (hst : HSt W2 b x) {g cap : Nat} (hown : w1.ownsRow (p + 1) 217 1 (.slice (some ⟨g, 0, none⟩) (l.length + 1) cap) (l.length + 1) ((bs ++ [b]).map ptrS)) (hgr : W2.grownBy w1 lv.ownBlock) (hat : lv.ownBlock = some g ∨ g = W2.heap.size) :
    HR (w1.setCell ⟨p, 2, none⟩ (.slice (some ⟨g, 0, none⟩) (l.length + 1) cap)) p f r (l ++ [x]) (bs ++ [b]) (.slice (some ⟨g, 0, none⟩) (l.length + 1) cap) ∧ Tur (HFoot p bs lv) W (w1.setCell ⟨p, 2, none⟩ (.slice (some ⟨g, 0, none⟩) (l.length + 1) cap)) ∧ ∀ j, HFoot p (bs ++ [b]) (.slice (some ⟨g, 0, none⟩) (l.length + 1) cap) j → HFoot p bs lv j ∨ W.heap.size ≤ j := by
  have hp := h.plt
  have hs2 := hB.size
  have hbl := hst.lt
  have hne : ∀ k, k ≤ p → some k ≠ lv.ownBlock := fun k hk e => by
    have := (h.own.lt k e.symm).1
    omega
  have hneb : some b ≠ lv.ownBlock := fun e => by
    have := (h.own.lt b e.symm).2
    omega
  have hsame : ∀ k, k < W2.heap.size → k ≠ p → some k ≠ lv.ownBlock → (w1.setCell ⟨p, 2, none⟩ (.slice (some ⟨g, 0, none⟩) (l.length + 1) cap)).heap[k]? = W2.heap[k]? := fun k hk hkm hkr => by
    rw [heap_setCell_other w1 ⟨p, 2, none⟩ k _ (fun e => hkm e), hgr.block k hk hkr]
  have hpb : w1.heap[p]? = W.heap[p]? := (hgr.block p (by omega) (hne p (Nat.le_refl _))).trans (hB.block p hp)
  refine ⟨⟨?_, ?_, ?_, fun k => ?_, ?_, ?_, fun i h1 h2 => ?_, ?_, fun y hy => ?_, fun y hy => ?_⟩, ⟨?_, ?_, ?_, ?_, fun k hk hf => ?_⟩, fun j hj => ?_⟩
  · have : w1.cell? ⟨p, 0, none⟩ = _ := (World.cell?_of_block (w := W) (w' := w1) (a := ⟨p, 0, none⟩) hpb).trans h.c0
    simp [go_sem, this]
  · have : w1.cell? ⟨p, 1, none⟩ = _ := (World.cell?_of_block (w := W) (w' := w1) (a := ⟨p, 1, none⟩) hpb).trans h.c1
    simp [go_sem, this]
  · have : w1.cell? ⟨p, 2, none⟩ = _ := (World.cell?_of_block (w := W) (w' := w1) (a := ⟨p, 2, none⟩) hpb).trans h.c2
    simp [go_sem, this]
  · have : w1.frozen? ⟨p, k, none⟩ = _ := (World.frozen?_of_block (w := W) (w' := w1) (a := ⟨p, k, none⟩) hpb).trans (h.fz k)
    simp [go_sem, this]
  · have h1 := howns_setCell (k := 2) hown (Nat.lt_succ_self p) (.slice (some ⟨g, 0, none⟩) (l.length + 1) cap)
    rw [List.length_append]
    exact h1
  · simp [h.len]
  · by_cases hi : i < l.length
    · have hi2 : i < bs.length := by rw [h.len]; exact hi
      rw [List.getElem_append_left hi, List.getElem_append_left hi2]
      have hs := h.st i hi hi2
      have hm := List.getElem_mem hi2
      have hl := hs.lt
      have hg := h.gt _ hm
      exact hs.same ((hsame _ (by omega) (by omega) (fun e => h.apart _ hm e.symm)).trans (hB.block _ hl))
    · have e : i = l.length := by simp at h1; omega
      subst e
      have e2 : (bs ++ [b])[l.length]'h2 = b := by simp [← h.len]
      have e3 : (l ++ [x])[l.length]'h1 = x := by simp
      rw [e2, e3]
      exact hst.same (hsame b hbl (by omega) hneb)
  · rw [List.nodup_append]
    refine ⟨h.nd, by simp, fun y hy z hz e => ?_⟩
    simp at hz
    have := h.blt hy
    omega
  · rcases List.mem_append.1 hy with hy | hy
    · exact h.gt y hy
    · simp at hy
      omega
  · show some g ≠ some y
    intro e
    cases e
    rcases List.mem_append.1 hy with hy | hy
    · rcases hat with e | e
      · exact h.apart g hy e
      · have := h.blt hy
        omega
    · simp at hy
      rcases hat with e | e
      · exact hneb (by rw [e, hy])
      · omega
  · exact hgr.os.trans hB.os
  · exact hgr.tape.trans hB.tape
  · exact hgr.output.trans hB.output
  · have := hgr.size
    simp [World.setCell]
    omega
  · exact (hsame k (by omega) (fun e => hf (Or.inl e)) (fun e => hf (Or.inr (Or.inl e.symm)))).trans (hB.block k hk)
  · rcases hj with rfl | e | hy
    · exact Or.inl (Or.inl rfl)
    · have e' : g = j := Option.some.inj e
      subst e'
      rcases hat with e2 | e2
      · exact Or.inl (Or.inr (Or.inl e2))
      · exact Or.inr (by omega)
    · rcases List.mem_append.1 hy with hy | hy
      · exact Or.inl (Or.inr (Or.inr hy))
      · simp at hy
        exact Or.inr (by omega)
theorem HR.grown (h : HR W p f r l bs lv) (hB : Below W.heap.size W W2) (hgr : W2.grownBy w1 lv.ownBlock) : w1.cell? ⟨p, 2, none⟩ = some lv ∧ w1.frozen? ⟨p, 2, none⟩ = false := by
  have hp := h.plt
  have hs2 := hB.size
  have hpb : w1.heap[p]? = W.heap[p]? := (hgr.block p (by omega) (fun e => by have := (h.own.lt p e.symm).1; omega)).trans (hB.block p hp)
  exact ⟨(World.cell?_of_block (w := W) (w' := w1) (a := ⟨p, 2, none⟩) hpb).trans h.c2, (World.frozen?_of_block (w := W) (w' := w1) (a := ⟨p, 2, none⟩) hpb).trans (h.fz 2)⟩
end
theorem cellsP {W : World} {q b : Nat} (h : W.cell? ⟨q, 0, none⟩ = some (ptrS b)) : ∀ j u, [ptrS b][j]? = some u → W.cell? ((⟨q, 0, none⟩ : Addr).add j) = some u := by
  intro j u hu
  match j, hu with
  | 0, hu => simp at hu; subst hu; simpa [Addr.add] using h
  | j + 1, hu => simp at hu
theorem wpList_append_s {ops : Array Oper} {rest : List Oper} {o : Oper} {a : Act} {Q : Exit → Act → World → Prop} {W : World} (p q b : Nat) (hgd : o.guard = none) (so xo : Operand)
    (ho : o.op = .call { callee := .builtin .append, args := #[so, xo], argTypes := #[248, 248] })
    (v : Value) (bs : List Nat) (n : Nat) (hs : a.eval so = v) (hx : a.eval xo = .slice (some ⟨q, 0, none⟩) 1 1) (hown : W.ownsRow (p + 1) 217 1 v n (bs.map ptrS)) (hl : n ≤ 208) (hp : p < W.heap.size) (hq : W.cell? ⟨q, 0, none⟩ = some (ptrS b))
    (h : ∀ g cap w', w'.ownsRow (p + 1) 217 1 (.slice (some ⟨g, 0, none⟩) (n + 1) cap) (n + 1) ((bs ++ [b]).map ptrS) → W.grownBy w' v.ownBlock → (v.ownBlock = some g ∨ g = W.heap.size) → wpList Tryz.prog ops Q rest (a.put o.dst (.slice (some ⟨g, 0, none⟩) (n + 1) cap)) w') :
    wpList Tryz.prog ops Q (o :: rest) a W := by
  obtain ⟨i, hi, hz0, hz1, hz2⟩ := info_parts infoP
  refine wpList_append_lies W hgd so xo 248 ho (p + 1) 217 i _ 1 8 Tryz.underlying248 hi hz0 hz1 hz2 rfl (by decide) v n (bs.map ptrS) hs hown ⟨q, 0, none⟩ 1 1 [ptrS b] hx rfl (cellsP hq) (fun u hu => by simp at hu; subst hu; rfl) (by decide) (by unfold maxLen; omega) (by omega) (by omega) W.heap.size rfl ?_
  intro g cp w1 hown1 hgr hat _
  have e : bs.map ptrS ++ [ptrS b] = (bs ++ [b]).map ptrS := by simp
  rw [e] at hown1
  exact h g cp w1 hown1 hgr hat
/-- the two blocks that a host more lays: its state, and the one of append's argument -/
theorem laid2 (W : World) (s : ByteArray) (u : Bool) : Below W.heap.size W ((W.alloc (.cells #[.string s, .bool u, .int .i64 0] 220)).alloc (.cells #[.pointer (some ⟨W.heap.size, 0, none⟩)] 217)) ∧ HSt ((W.alloc (.cells #[.string s, .bool u, .int .i64 0] 220)).alloc (.cells #[.pointer (some ⟨W.heap.size, 0, none⟩)] 217)) W.heap.size (s, u, 0) ∧ ((W.alloc (.cells #[.string s, .bool u, .int .i64 0] 220)).alloc (.cells #[.pointer (some ⟨W.heap.size, 0, none⟩)] 217)).cell? ⟨W.heap.size + 1, 0, none⟩ = some (ptrS W.heap.size) := by
  have h1 : Below W.heap.size W (W.alloc (.cells #[.string s, .bool u, .int .i64 0] 220)) := (Below.refl _ _).alloc (Nat.le_refl _) _
  have hst : HSt (W.alloc (.cells #[.string s, .bool u, .int .i64 0] 220)) W.heap.size (s, u, 0) := ⟨by simp, by simp, by simp, fun k => by simp, _, _, show (W.heap.push (.cells #[.string s, .bool u, .int .i64 0] 220 (0, 0)))[W.heap.size]? = _ from Array.getElem?_push_size⟩
  have h2 : Below (W.alloc (.cells #[.string s, .bool u, .int .i64 0] 220)).heap.size (W.alloc (.cells #[.string s, .bool u, .int .i64 0] 220)) ((W.alloc (.cells #[.string s, .bool u, .int .i64 0] 220)).alloc (.cells #[.pointer (some ⟨W.heap.size, 0, none⟩)] 217)) := (Below.refl _ _).alloc (Nat.le_refl _) _
  exact ⟨below_then h1 h2, hst.same (h2.block _ hst.lt), by rw [World.cell?_alloc_at _ _ _ _ (by simp)]; rfl⟩
end Go.Proofs.YtfhmfjcpggddkaaGreatDoor

/- The landed health: those, Up. -/
namespace Go.Proofs.YtfhmfjcpggddkaaGreatDoor
open Go.RowKit Go.Shelf

/-- the names of those of the first k that q takes -/
def thoseN (q : Lh.Hh → Bool) (l : List Lh.Hh) (k : Nat) : List ByteArray := ((l.take k).filter q).map fun x => x.1
theorem thoseN_succ (q : Lh.Hh → Bool) (l : List Lh.Hh) {k : Nat} (h : k < l.length) : thoseN q l (k + 1) = thoseN q l k ++ (if q l[k] then [(l[k]).1] else []) := by
  unfold thoseN
  rw [List.take_succ_eq_append_getElem h, List.filter_append, List.map_append]
  congr 1
  cases e : q l[k] <;> simp [e]
theorem thoseN_len (q : Lh.Hh → Bool) (l : List Lh.Hh) (k : Nat) : (thoseN q l k).length ≤ k := by
  unfold thoseN
  rw [List.length_map]
  refine Nat.le_trans (List.length_filter_le _ _) ?_
  rw [List.length_take]
  omega

set_option maxRecDepth 100000 in
set_option maxHeartbeats 2000000 in
theorem those_core (fn : Nat) (eg : ∀ args w, (callFunc fn args).run Tryz.prog w = .ok (.enter fn args) w) (q : Lh.Hh → Bool) {W : World} {p f r : Nat} {l : List Lh.Hh} {bs : List Nat} {lv : Value} (h : HR W p f r l bs lv) (hl : l.length ≤ 12)
    (hq : ∀ k (h1 : k < l.length) (h2 : k < bs.length) W', Below W.heap.size W W' → Calls Tryz.prog fn #[.pointer (some ⟨bs[k], 0, none⟩)] W' fun e w' => e = .returned (.bool (q l[k])) ∧ w' = W') :
    Calls Tryz.prog 159 #[.pointer (some ⟨p, 0, none⟩), .func (.func fn) #[] #[]] W fun e w' => ∃ v, e = .returned v ∧ w'.ownsRow W.heap.size 9 1 v (thoseN q l l.length).length ((thoseN q l l.length).map Value.string) ∧ Below W.heap.size W w' := by
  obtain ⟨i, hi, hz0, hz1, hz2⟩ := info_parts infoS
  obtain ⟨p0, cap, hlv⟩ := h.shape
  have HC : Hid (∀ i (hi : i < l.length) (h2 : i < bs.length), ∃ g, p0 = some ⟨g, 0, none⟩ ∧ W.cell? ⟨g, i, none⟩ = some (.pointer (some ⟨bs[i], 0, none⟩)) ∧ W.cell? ⟨bs[i], 0, none⟩ = some (.string (l[i]).1)) := fun i hi h2 => by
    obtain ⟨g, cap', e, _, _, _, hc, _⟩ := h.row (by omega)
    rw [hlv] at e
    cases e
    exact ⟨g, rfl, hc i h2, (h.st i hi h2).c0⟩
  have HQ : Hid (∀ k (h1 : k < l.length) (h2 : k < bs.length) W', Below W.heap.size W W' → Calls Tryz.prog fn #[.pointer (some ⟨bs[k], 0, none⟩)] W' fun e w' => e = .returned (.bool (q l[k])) ∧ w' = W') := hq
  have HLN : Hid (bs.length = l.length) := h.len
  have c2 := h.c2
  subst hlv
  clear h hq
  go_enter Tryz.func159, Tryz.ntmps159
  go_wp2_with fail
  go_loopw [5, 7, 15] (fun v _ t W' => Below W.heap.size W W' ∧ ∃ k : Nat, k ≤ l.length ∧ t = .int .i64 (k : Nat) ∧ W'.ownsRow W.heap.size 9 1 v (thoseN q l k).length ((thoseN q l k).map Value.string)) (fun _ _ t _ => l.length - (intOf t).toNat)
  case atStart => exact ⟨Below.refl _ _, 0, Nat.zero_le _, rfl, World.ownsRow_nil _ _ _ _⟩
  case round =>
    obtain ⟨hb, k, hk, rfl, hown⟩ := hrel
    obtain ⟨wo, hwo⟩ : ∃ wo, wo = wr := ⟨_, rfl⟩
    subst hwo
    obtain ⟨vo, hvo⟩ : ∃ vo, vo = u5 := ⟨_, rfl⟩
    subst hvo
    clear c2
    by_cases hlt : k < l.length
    · have hlt2 : k < bs.length := by rw [HLN.out]; exact hlt
      obtain ⟨g, rfl, cn, cu⟩ := HC.out k hlt hlt2
      have cn' := below_cell hb cn
      have cu' := below_cell hb cu
      have hcall := HQ.out k hlt hlt2 wo hb
      have hki : (k : Int) < (l.length : Int) := by omega
      have hul := thoseN_len q l k
      have hsu := thoseN_succ q l hlt
      clear cn cu
      generalize (l[k]).1 = s at *
      generalize bs[k] = b at *
      cases hu : q l[k] with
      | true =>
        rw [hu] at hcall hsu
        simp only [if_true] at hsu
        have HSU : Hid (thoseN q l (k + 1) = thoseN q l k ++ [s]) := hsu
        clear hu hsu
        generalize thoseN q l k = out at *
        have hown3 := hown.alloc (.cells #[.string s] 9)
        have hnews := cells_one (w := wo) (t := 9) s
        have hbw3 : Below W.heap.size W (wo.alloc (.cells #[.string s] 9)) := hb.alloc hb.size _
        have hmax : out.length + 1 ≤ maxLen := by unfold maxLen; omega
        clear hown
        go_wp2_with (first | (go_at_fn fn; refine hcall.mono ?_; rintro e w' ⟨rfl, rfl⟩; clear hcall) | (at_builtin; refine wpList_append_own _ rfl _ _ 22 rfl W.heap.size 9 i _ 1 16 Tryz.underlying22 hi hz0 hz1 hz2 rfl (by decide) vo out.length (out.map Value.string) rfl hown3 ⟨_, 0, none⟩ 1 1 [.string s] rfl rfl hnews (fun u hu => by simp at hu; subst hu; rfl) hmax (by omega) hbw3.size ?_))
        intro v' w4 hown4 hg4 _
        have hlo := hown3.lt
        have hb4 : Below W.heap.size W w4 := hbw3.grown hg4 hbw3.size (fun k hk => (hlo k hk).1)
        have hown5 := owns_snoc hown4
        have HOUT : Hid (w4.ownsRow W.heap.size 9 1 v' (out ++ [s]).length ((out ++ [s]).map Value.string)) := by rw [List.length_append]; exact hown5
        clear hown3 hnews hlo hg4 hbw3 hmax hown4 hown5
        go_wp2
        exact ⟨⟨hb4, k + 1, by omega, by go_num, by rw [HSU.out]; exact HOUT.out⟩, by simp [intOf]; omega⟩
      | false =>
        rw [hu] at hcall hsu
        simp only [Bool.false_eq_true, if_false, List.append_nil] at hsu
        have HOUT : Hid (wo.ownsRow W.heap.size 9 1 vo (thoseN q l (k + 1)).length ((thoseN q l (k + 1)).map Value.string)) := by rw [hsu]; exact hown
        clear hu hsu hown
        go_wp2_with (go_at_fn fn; refine hcall.mono ?_; rintro e w' ⟨rfl, rfl⟩; clear hcall)
        exact ⟨⟨hb, k + 1, by omega, by go_num, HOUT.out⟩, by simp [intOf]; omega⟩
    · have hki : decide ((k : Int) < (l.length : Int)) = false := by simp; omega
      have HS : Hid (wo.ownsRow W.heap.size 9 1 vo (thoseN q l l.length).length ((thoseN q l l.length).map Value.string)) := by
        have e : k = l.length := by omega
        rw [← e]
        exact hown
      clear hown
      go_wp2
      go_ret
      exact ⟨_, rfl, HS.out, hb⟩

set_option maxHeartbeats 1000000 in
theorem upC (b : Nat) (u : Bool) (W : World) (h1 : W.cell? ⟨b, 1, none⟩ = some (.bool u)) :
    Calls Tryz.prog 160 #[.pointer (some ⟨b, 0, none⟩)] W fun e w' => e = .returned (.bool u) ∧ w' = W := by
  go_enter Tryz.func160, Tryz.ntmps160
  go_wp2
  go_ret
  exact ⟨rfl, rfl⟩
theorem entersUp : ∀ args w, (callFunc 160 args).run Tryz.prog w = .ok (.enter 160 args) w := enters_of Tryz.func160 (by kernel_rfl) rfl
section
variable {W : World} {p f r : Nat} {l : List Lh.Hh} {bs : List Nat} {lv : Value}
end
end Go.Proofs.YtfhmfjcpggddkaaGreatDoor

/- The landed flows in memory: a block and a map; New, checkNow, has, isFull. -/
namespace Go.Proofs.YtfhmfjcpggddkaaGreatDoor
open Go.RowKit Go.Maps Go.ChangeMaps

/-- Block p is the landed flows, its map is block mb. -/
structure FR (W : World) (p mb t : Nat) (la : Int) (L : List Lh.Fl) : Prop where
  c0 : W.cell? ⟨p, 0, none⟩ = some (.int .i64 (t : Nat))
  c1 : W.cell? ⟨p, 1, none⟩ = some (.int .i64 la)
  c2 : W.cell? ⟨p, 2, none⟩ = some (.map (some mb))
  fz : ∀ k, W.frozen? ⟨p, k, none⟩ = false
  own : W.ownsMap Tryz.prog 63 flElem mb L.length (FD L)
  ne : p ≠ mb
def FFt (p mb : Nat) (b : Nat) : Prop := b = p ∨ b = mb
section
variable {W W' : World} {p mb t : Nat} {la : Int} {L : List Lh.Fl}
theorem FR.plt (h : FR W p mb t la L) : p < W.heap.size := World.block_lt_of_cell? W ⟨p, 0, none⟩ h.c0
theorem FR.mlt (h : FR W p mb t la L) : mb < W.heap.size := h.own.lt
theorem FR.lt (h : FR W p mb t la L) : ∀ b, FFt p mb b → b < W.heap.size := by
  rintro b (rfl | rfl)
  · exact h.plt
  · exact h.mlt
theorem FR.stay (h : FR W p mb t la L) (hs : ∀ b, FFt p mb b → W'.heap[b]? = W.heap[b]?) : FR W' p mb t la L := by
  have hm := hs p (Or.inl rfl)
  have hn := hs mb (Or.inr rfl)
  refine ⟨?_, ?_, ?_, fun k => ?_, ?_, h.ne⟩
  · rw [World.cell?_of_block (w := W) (w' := W') (a := ⟨p, 0, none⟩) hm]; exact h.c0
  · rw [World.cell?_of_block (w := W) (w' := W') (a := ⟨p, 1, none⟩) hm]; exact h.c1
  · rw [World.cell?_of_block (w := W) (w' := W') (a := ⟨p, 2, none⟩) hm]; exact h.c2
  · rw [World.frozen?_of_block (w := W) (w' := W') (a := ⟨p, k, none⟩) hm]; exact h.fz k
  · obtain ⟨es, clock, hb, r⟩ := h.own
    exact ⟨es, clock, hn.trans hb, r⟩
theorem FR.later (h : FR W p mb t la L) (hb : Below W.heap.size W W') : FR W' p mb t la L := h.stay fun b hf => hb.block b (h.lt b hf)
theorem FR.tick (h : FR W p mb t la L) (now : Int) : FR (W.setCell ⟨p, 1, none⟩ (.int .i64 now)) p mb t now L := by
  refine ⟨?_, ?_, ?_, fun k => ?_, ?_, h.ne⟩
  · rw [World.cell?_setCell_other _ _ _ _ (by simp)]; exact h.c0
  · exact World.cell?_setCell_same' _ _ _ (by rw [h.c1]; rfl)
  · rw [World.cell?_setCell_other _ _ _ _ (by simp)]; exact h.c2
  · rw [World.frozen?_setCell]; exact h.fz k
  · exact h.own.setCell (fun e => h.ne e.symm) _
theorem ownsMap_tight {w : World} {P : Program} {k : TypeId} {R : Value → Option (DataW Unit × List MemPlace)} {b n : Nat} {D : DataW Unit} (h : w.ownsMap P k R b n D) : w.ownsMap P k R b (Maps.size D) D := by
  obtain ⟨es, clock, hb, F, hs, rfl⟩ := h
  refine ⟨es, clock, hb, F, ?_, rfl⟩
  simp [Maps.size, length_sorted]
theorem Tur.ticked (now : Int) : Tur (FFt p mb) W (W.setCell ⟨p, 1, none⟩ (.int .i64 now)) :=
  ⟨rfl, rfl, rfl, by simp, fun k _ hf => Below.heap_setCell _ _ _ k (fun e => hf (Or.inl e))⟩

/-- what the package asks of the variables -/
structure EF (a : Nat → Addr) (w : World) : Prop where
  e4 : Errs4 a w
  s7 : w.cell? ⟨7, 0, none⟩ = some (.iface 378 (.pointer (some (a 7))))
theorem EF.later {a : Nat → Addr} {w w' : World} (h : EF a w) (hb : Below w.heap.size w w') : EF a w' := ⟨h.e4.later hb, below_cell hb h.s7⟩
theorem EF.of {a : Nat → Addr} {w : World} (h : Errs a w) : EF a w := ⟨h.four, h.s7⟩

set_option maxHeartbeats 2000000 in
theorem newF_good (t : Nat) (W : World) (h1 : 1 ≤ t) (h2 : t ≤ 1000) :
    Calls Tryz.prog 131 #[.int .i64 (t : Nat)] W fun e W' => ∃ p mb, e = .returned (.tuple #[.pointer (some ⟨p, 0, none⟩), .nilIface]) ∧ FR W' p mb t 0 [] ∧ W.heap.size ≤ p ∧ W.heap.size ≤ mb ∧ Below W.heap.size W W' := by
  have d1 : decide ((t : Int) < 1) = false := by simp; omega
  have d2 : decide (1000 < (t : Int)) = false := by simp; omega
  have hmm := @run_makeMap Tryz.prog
  go_enter Tryz.func131, Tryz.ntmps131
  go_wp2
  go_ret2
  refine ⟨W.heap.size + 1, W.heap.size, rfl, ⟨by simp, by simp, by simp, fun k => by simp, ?_, by omega⟩, by omega, Nat.le_refl _, ((Below.refl _ _).alloc (Nat.le_refl _) _).alloc (by simp) _⟩
  exact (World.ownsMap_made W _ _ _).alloc _

set_option maxHeartbeats 2000000 in
theorem checkF_ok (h : FR W p mb t la L) (now : Int) (hok : TickOk la now) :
    Calls Tryz.prog 190 #[.pointer (some ⟨p, 0, none⟩), .int .i64 now] W fun e W' => e = .returned .nilIface ∧ Below W.heap.size W W' := by
  obtain ⟨h1, h2, h3⟩ := hok
  have c1 := h.c1
  have d1 : decide (now < 0) = false := by simp; omega
  have d2 : decide (1099511627776 < now) = false := by simp; omega
  have d3 : decide (now < la) = false := by simp; omega
  clear h h1 h2 h3
  go_enter Tryz.func190, Tryz.ntmps190
  go_wp2
  go_ret
  exact ⟨rfl, Below.refl _ _⟩
set_option maxHeartbeats 2000000 in
theorem checkF_bad (a : Nat → Addr) (he : EF a W) (h : FR W p mb t la L) (now : Int) (j : Nat) (hf : TickF la now j) :
    Calls Tryz.prog 190 #[.pointer (some ⟨p, 0, none⟩), .int .i64 now] W fun e W' => e = .returned (.iface 378 (.pointer (some (a j)))) ∧ Below W.heap.size W W' := by
  have c1 := h.c1
  have s1 := he.e4.s1
  have s7 := he.s7
  clear h he
  rcases hf with ⟨hf, rfl⟩ | ⟨h1, h2, h3, rfl⟩
  · by_cases h0 : now < 0
    · have d1 : decide (now < 0) = true := by simpa using h0
      clear hf h0
      go_enter Tryz.func190, Tryz.ntmps190
      go_wp2
      go_ret
      exact ⟨rfl, Below.refl _ _⟩
    · have d1 : decide (now < 0) = false := by simpa using h0
      have d2 : decide (1099511627776 < now) = true := by simp; omega
      clear hf h0
      go_enter Tryz.func190, Tryz.ntmps190
      go_wp2
      go_ret
      exact ⟨rfl, Below.refl _ _⟩
  · have d1 : decide (now < 0) = false := by simp; omega
    have d2 : decide (1099511627776 < now) = false := by simp; omega
    have d3 : decide (now < la) = true := by simpa using h3
    clear h1 h2 h3
    go_enter Tryz.func190, Tryz.ntmps190
    go_wp2
    go_ret
    exact ⟨rfl, Below.refl _ _⟩
end
end Go.Proofs.YtfhmfjcpggddkaaGreatDoor
