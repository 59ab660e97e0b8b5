/- Picks one behind the other, and a list of what they told. -/
import Derived.Test.YtmkdpchodeckgaaDoorBaW
import Derived.Deep.AppendLies
import Derived.Test.YtmkdpchodeckgaaDoorM4
namespace Go.Proofs.YtmkdpchodeckgaaDoor
open Go.RowKit

/-- a pick of a key, where all is right: with the frame -/
theorem bpickT (hC : BalanceC) {a : Nat → Addr} {S : Lh.Bl} {F : Nat → Prop} {p : Nat} {W : World} {u : Int} {m : Nat} (he : hC.E a W) (hR : hC.Rep S F p W) (hI : BInv S u m) (k : Nat) (hk : k < 18446744073709551616) (now : Int) (ht : TickOk S.la now) (hu : now ≤ u) (hu2 : u < now + (S.t : Int)) (hm : m < 200) (ho : Lh.bopen S ≠ []) :
    Calls Tryd.prog 6 #[.pointer (some ⟨p, 0, none⟩), .int .u64 (k : Nat), .int .i64 now] W fun e W' => ∃ F' S' s kept, e = .returned (.tuple #[.string s, .bool kept, .nilIface]) ∧ hC.Rep S' F' p W' ∧
      BInv S' u (m + 1) ∧ Alike S S' ∧ S'.la = now ∧ HasF S' k s ∧ (∀ k' z, HasF S k' z → HasF S' k' z) ∧ Lh.hup S.hs s = true ∧ (∀ z, HasF S k z → s = z ∧ kept = true) ∧ (kept = false → s ∉ S.dr) ∧ ((∀ z, ¬ HasF S k z) → kept = false) ∧ S'.L = Lh.fput S.t S.L k s now ∧ (∀ b, F' b → F b ∨ W.heap.size ≤ b) ∧ Tur F W W' := by
  refine (hC.pick a S F p k now W he hR hI.ok hk).mono ?_
  rintro e W' ⟨F', S', s, kept, c, ev, h1, h2, rfl, hev, hp, hR'⟩
  obtain ⟨rfl, q1, q2, q3, q4, q5, q6, q7, q8, q9, q10⟩ := hI.pick hp ht hu hu2 hm ho (hC.nwIn k ho hI.ok.prm) hk
  obtain rfl := evOf_nil hev
  exact ⟨F', S', s, kept, rfl, hR', q1, q2, q3, q4, q5, q6, q7, q8, q9, q10, h1, h2⟩
/-- a balance, and a list of names of one's own -/
structure PL (hC : BalanceC) (B : Nat) (w W : World) (S : Lh.Bl) (F : Nat → Prop) (p : Nat) (v : Value) (ws : List ByteArray) : Prop where
  hB : B ≤ w.heap.size
  below : Below B w W
  rep : hC.Rep S F p W
  fb : ∀ b, F b → B ≤ b
  own : W.ownsRow B 9 1 v ws.length (ws.map Value.string)
  apart : ∀ b, F b → v.ownBlock ≠ some b
section
variable {hC : BalanceC} {B : Nat} {w W W' : World} {S S' : Lh.Bl} {F F' : Nat → Prop} {p : Nat} {v : Value} {ws : List ByteArray}
theorem PL.size (h : PL hC B w W S F p v ws) : B ≤ W.heap.size := Nat.le_trans h.hB h.below.size
theorem own_turned {base : Nat} {e : TypeId} {sz n : Nat} {xs : List Value} (h : W.ownsRow base e sz v n xs) (he : ∀ g, v.ownBlock = some g → W'.heap[g]? = W.heap[g]?) : W'.ownsRow base e sz v n xs := by
  refine ⟨h.1, ?_⟩
  rcases h.2 with hn | ⟨g, cap, cur, hv, hb, hg, rest⟩
  · exact .inl hn
  · exact .inr ⟨g, cap, cur, hv, hb, (he g (by rw [hv]; rfl)).trans hg, rest⟩
/-- behind a pick -/
theorem PL.turned (h : PL hC B w W S F p v ws) (hR : hC.Rep S' F' p W') (hF : ∀ b, F' b → F b ∨ W.heap.size ≤ b) (hT : Tur F W W') : PL hC B w W' S' F' p v ws := by
  refine ⟨h.hB, hT.below h.fb h.below h.hB, hR, fun b hb => ?_, own_turned h.own fun g hg => ?_, fun b hb e => ?_⟩
  · rcases hF b hb with h1 | h1
    · exact h.fb b h1
    · exact Nat.le_trans h.size h1
  · have hlt := (h.own.lt g hg).2
    exact hT.block g hlt fun hf => h.apart g hf hg
  · rcases hF b hb with h1 | h1
    · exact h.apart b h1 e
    · have := (h.own.lt b e).2
      omega
theorem PL.later (h : PL hC B w W S F p v ws) (hb : Below W.heap.size W W') : PL hC B w W' S F p v ws := by
  refine h.turned (hC.later h.rep hb) (fun b hf => Or.inl hf) (Tur.of_below hb)
/-- behind an append -/
theorem PL.pushed (h : PL hC B w W S F p v ws) {tmp : Obj} {g cap : Nat} {s : ByteArray} {w1 : World} (hown : w1.ownsRow B 9 1 (.slice (some ⟨g, 0, none⟩) (ws.length + 1) cap) (ws.length + 1) (ws.map Value.string ++ [.string s])) (hg : (W.alloc tmp).grownBy w1 v.ownBlock) (hor : v.ownBlock = some g ∨ g = W.heap.size + 1) : PL hC B w w1 S F p (.slice (some ⟨g, 0, none⟩) (ws.length + 1) cap) (ws ++ [s]) := by
  have hblk : ∀ b, F b → w1.heap[b]? = W.heap[b]? := fun b hb => by
    have hlt := hC.lt h.rep b hb
    exact (hg.block b (by simp; omega) (fun e => h.apart b hb e.symm)).trans (Below.heap_alloc _ _ b hlt)
  refine ⟨h.hB, ?_, hC.stay h.rep (Nat.le_trans (by simp) hg.size) hblk, h.fb, ?_, fun b hb e => ?_⟩
  · refine (h.below.alloc h.size tmp).grown hg ?_ fun k hk => (h.own.lt k hk).1
    exact Nat.le_trans h.size (by simp)
  · rw [List.map_append, List.length_append]
    exact hown
  · have e' : g = b := by simpa [Value.ownBlock] using e
    subst e'
    rcases hor with h1 | h1
    · exact h.apart _ hb h1
    · have := hC.lt h.rep _ hb
      omega
end
end Go.Proofs.YtmkdpchodeckgaaDoor

/- The law BalanceFalls, over the landed package's contracts, where its numbers are right. -/
namespace Go.Proofs.YtmkdpchodeckgaaDoor
open Go.RowKit

def four : List ByteArray := [nA, nB, nC, nD]
theorem four_fault : IsFault four 0 (-1) ∧ four.Nodup ∧ four.length ≤ 12 ∧ 0 < four.length ∧ (∀ s ∈ four, s.size ≤ 300) ∧ ∀ s ∈ four, Lh.isNm s = true := five_fault (Or.inr (Or.inr (Or.inl rfl)))
/-- the four hosts in memory -/
theorem four_strs (w : World) : Strs1 (w.alloc (.cells #[.string nA, .string nB, .string nC, .string nD] 9)) (.slice (some ⟨w.heap.size, 0, none⟩) 4 4) four := by
  refine Or.inr ⟨w.heap.size, 0, 4, rfl, by decide, fun k hk => ?_⟩
  have : k = 0 ∨ k = 1 ∨ k = 2 ∨ k = 3 := by simp [four] at hk; omega
  rcases this with rfl | rfl | rfl | rfl <;> simp [four]
theorem four_bok : Lh.BOk (bnew0 four 31 20) := by
  obtain ⟨_, hnd, hl, _, hsz, hnm⟩ := four_fault
  exact bok_new hl hnd hsz hnm prm31 (by decide) (by decide) (by decide)
/-- each key that was picked has a flow, with the host that was told -/
def Hass (S : Lh.Bl) (ks : List Nat) (ws : List ByteArray) : Prop := ∀ i (h1 : i < ks.length) (h2 : i < ws.length), HasF S ks[i] ws[i]

theorem four_len {q : Nat} (h : q < four.length) : (four[q]).size ≤ maxLen := by
  have := four_fault.2.2.2.2.1 _ (List.getElem_mem h)
  unfold maxLen
  omega
theorem hix_new {xs : List ByteArray} (hn : xs.Nodup) {q : Nat} (h : q < xs.length) : Lh.hix (Lh.hnew xs) xs[q] = q := by
  have h' : q < (Lh.hnew xs).length := by simpa [Lh.hnew] using h
  unfold Lh.hix
  rw [List.findIdx_eq h']
  refine ⟨by simp [Lh.hnew], fun j hj => ?_⟩
  have hjx : j < xs.length := by omega
  have : (Lh.hnew xs)[j] = (xs[j], true, 0) := by simp [Lh.hnew]
  rw [this]
  have := List.pairwise_iff_getElem.1 hn j q hjx h hj
  simpa using this
theorem hix_four {q : Nat} (h : q < four.length) : Lh.hix (Lh.hnew four) four[q] = q := hix_new four_fault.2.1 h
/-- a host that has fallen -/
def fell (q : Nat) : List Lh.Hh := (Lh.hnew four).set q (four.getD q ByteArray.empty, false, 0)
theorem nd_inj {xs : List ByteArray} (hn : xs.Nodup) {i j : Nat} (hi : i < xs.length) (hj : j < xs.length) (e : xs[i] = xs[j]) : i = j := by
  rcases Nat.lt_trichotomy i j with h | h | h
  · exact absurd e (List.pairwise_iff_getElem.1 hn i j hi hj h)
  · exact h
  · exact absurd e.symm (List.pairwise_iff_getElem.1 hn j i hj hi h)
theorem fell_up {q : Nat} (h : q < four.length) {z : ByteArray} : Lh.hup (fell q) z = true ↔ z ∈ four ∧ z ≠ four[q] := by
  have hl : (fell q).length = four.length := by simp [fell, Lh.hnew]
  have hget : ∀ j (hj : j < four.length), (fell q)[j]? = some (four[j], decide (j ≠ q), 0) := fun j hj => by
    unfold fell
    rw [List.getElem?_set]
    by_cases e : q = j
    · subst e
      simp [List.getD, h, Lh.hnew]
    · have e' : j ≠ q := fun x => e x.symm
      rw [if_neg e]
      simp [Lh.hnew, hj, e']
  rw [Lh.hup_iff]
  constructor
  · rintro ⟨x, hx, rfl, hu⟩
    obtain ⟨j, hj, e⟩ := List.mem_iff_getElem?.1 hx |>.imp fun j hj => (⟨by have := (List.getElem?_eq_some_iff.1 hj).1; omega, hj⟩ : j < four.length ∧ (fell q)[j]? = some x)
    rw [hget j hj] at e
    obtain rfl := Option.some.inj e
    have hjq : j ≠ q := by simpa using hu
    exact ⟨List.getElem_mem _, fun e => hjq (nd_inj four_fault.2.1 hj h e)⟩
  · rintro ⟨h1, h2⟩
    obtain ⟨j, hj, rfl⟩ := List.getElem_of_mem h1
    have hjq : j ≠ q := fun e => h2 (by subst e; rfl)
    exact ⟨_, List.mem_iff_getElem?.2 ⟨j, hget j hj⟩, rfl, by simpa using hjq⟩
theorem look_fall {S S' : Lh.Bl} {q : Nat} {tu : Bool} {c : Nat} (hA : Alike (bnew0 four 31 20) S) (hok : Lh.BOk S) (hq : q < four.length) (h : LookR S four[q] false S' tu c) :
    c = 0 ∧ tu = true ∧ S'.hs = fell q ∧ S'.L = Lh.fdrop S.L four[q] ∧ S'.dr = [] ∧ S'.t = 20 ∧ S'.la = S.la ∧ S'.size = 31 ∧ Lh.BOk S' := by
  have hhs : S.hs = Lh.hnew four := hA.hs
  have hx : Lh.hix S.hs four[q] < S.hs.length := by rw [hhs, hix_four hq]; simpa [Lh.hnew] using hq
  rcases h with ⟨h, htu, hc, rfl⟩ | ⟨h, _⟩
  case inr => exact absurd hx h
  have hg : S.hs[Lh.hix S.hs four[q]] = (four[q], true, 0) := by
    simp only [hhs, hix_four hq]
    simp [Lh.hnew]
  have hlk : Lh.hlook S.f S.r (four[q], true, 0) false = ((four[q], false, 0), true) := by
    have hf : S.f = 1 := hA.f
    have hr : S.r = 1 := hA.r
    rw [hf, hr]
    simp [Lh.hlook, Lh.hedge]
  have hb := hok.look (s := four[q]) (well := false) h
  rw [hg] at htu hb ⊢
  rw [hlk] at htu
  refine ⟨hc, htu, ?_, ?_, hA.dr, hA.t, rfl, hA.size, hb⟩
  · unfold Lh.blook fell
    rw [hlk]
    simp only [hhs, hix_four hq]
    congr 1
    simp [List.getD, hq]
  · unfold Lh.blook
    rw [hlk]
    simp
theorem BInv.fallen {S S' : Lh.Bl} {q m : Nat} {u : Int} (h : BInv S u m) (hq : q < four.length) (hs : S'.hs = fell q) (hl : S'.L = Lh.fdrop S.L four[q]) (hok : Lh.BOk S') (hall : ∀ x ∈ S.L, x.2.1 ∈ four) : BInv S' u m := by
  have hsub : S'.L.Sublist S.L := by rw [hl]; exact List.filter_sublist
  refine ⟨hok, fun x hx => h.un x (hsub.mem hx), fun x hx => ?_, Nat.le_trans hsub.length_le h.len⟩
  rw [hs, fell_up hq]
  refine ⟨hall x (hsub.mem hx), fun e => ?_⟩
  rw [hl] at hx
  have := (List.mem_filter.1 hx).2
  simp [e] at this
theorem BInv.infour {S : Lh.Bl} {m : Nat} {u : Int} (h : BInv S u m) (hA : Alike (bnew0 four 31 20) S) : ∀ x ∈ S.L, x.2.1 ∈ four := fun x hx => by
  have := h.up x hx
  rw [show S.hs = Lh.hnew four from hA.hs] at this
  exact hup_new.1 this

theorem names_own {w : World} {base : Nat} {v : Value} {ws : List ByteArray} (h : w.ownsRow base 9 1 v ws.length (ws.map Value.string)) (h0 : 0 < ws.length) : ∃ g cap, v = .slice (some ⟨g, 0, none⟩) ws.length cap ∧ ∀ j (hj : j < ws.length), w.cell? ⟨g, j, none⟩ = some (.string ws[j]) := by
  obtain ⟨hl, ⟨rfl, h'⟩ | ⟨g, cap, cur, rfl, hbase, hb, hn, hm, hsz, ht⟩⟩ := h
  · omega
  · refine ⟨g, cap, rfl, fun k hk => ?_⟩
    have hk' : (cur.toList.take (ws.length * 1))[k]? = some (.string ws[k]) := by rw [ht]; simp [hk]
    rw [List.getElem?_take_of_lt (by omega)] at hk'
    simp only [World.cell?, hb]
    simpa using hk'
theorem fell_open {S : Lh.Bl} {q : Nat} (hq : q < four.length) (hs : S.hs = fell q) (hd : S.dr = []) : Lh.bopen S ≠ [] := by
  have : ∃ z ∈ four, z ≠ four[q] := by
    by_cases e : q = 0
    · subst e
      exact ⟨nB, by simp [four], by simp [four, nA, nB]⟩
    · exact ⟨four[0], by simp [four], fun e' => e (nd_inj four_fault.2.1 (by simp [four]) hq e').symm⟩
  obtain ⟨z, h1, h2⟩ := this
  refine open_some (s := z) (Lh.bopen_mem.2 ⟨?_, by rw [hd]; simp⟩)
  rw [hs]
  exact (fell_up hq).2 ⟨h1, h2⟩

end Go.Proofs.YtmkdpchodeckgaaDoor
