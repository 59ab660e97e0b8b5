/- Picks: what a pick leaves, and what it tells. -/
import Derived.Test.YtmkdpchodeckgaaGreatDoorM28
import Derived.Deep.AppendLies
namespace Go.Proofs.YtmkdpchodeckgaaGreatDoor
open Go.RowKit

theorem keeps_one {S : Lh.Bl} {k : Nat} {now : Int} {s z : ByteArray} (h : Lh.BKeeps S k now s) (h' : Lh.BKeeps S k now z) : s = z := by
  obtain ⟨_, _, h, _⟩ := h
  obtain ⟨_, _, h', _⟩ := h'
  exact h.symm.trans h'
section
variable {nw : List ByteArray → Nat → Nat → ByteArray} {S S' : Lh.Bl} {k : Nat} {now : Int} {s z : ByteArray} {kept : Bool} {c : Nat}
theorem ok_not {la now : Int} {j : Nat} (h : TickOk la now) (h' : TickF la now j) : False := by
  obtain ⟨h1, h2, h3⟩ := h
  rcases h' with ⟨h', _⟩ | ⟨_, _, h', _⟩ <;> omega
theorem PickR.keep (h : PickR nw S k now S' s kept c) (ht : TickOk S.la now) (hz : Lh.BKeeps S k now z) : s = z ∧ kept = true ∧ c = 0 ∧ S' = { S with la := now, L := Lh.fput S.t S.L k z now } := by
  rcases h with ⟨j, hf, _⟩ | ⟨_, hk, h1, h2, h3⟩ | ⟨_, hn, _⟩ | ⟨_, hn, _⟩
  · exact (ok_not ht hf).elim
  · obtain rfl := keeps_one hk hz
    exact ⟨rfl, h1, h2, h3⟩
  · exact absurd hz (hn z)
  · exact absurd hz (hn z)
theorem PickR.new (h : PickR nw S k now S' s kept c) (ht : TickOk S.la now) (hn : ∀ z, ¬ Lh.BKeeps S k now z) (ho : Lh.bopen S ≠ []) : s = nw (Lh.bopen S) S.size k ∧ kept = false ∧ c = 0 ∧ S' = { S with la := now, L := Lh.fput S.t S.L k s now } := by
  rcases h with ⟨j, hf, _⟩ | ⟨_, hk, _⟩ | ⟨_, _, h, _⟩ | ⟨_, _, _, h1, h2, h3, h4⟩
  · exact (ok_not ht hf).elim
  · exact absurd hk (hn s)
  · exact absurd h ho
  · exact ⟨h1, h2, h3, h4⟩
/-- there is a flow of this key, with this host -/
def HasF (S : Lh.Bl) (k : Nat) (s : ByteArray) : Prop := ∃ x ∈ S.L, x.1 = k ∧ x.2.1 = s
/-- all is right; every flow is there for longer than u, with a host that is up; there are at most m -/
structure BInv (S : Lh.Bl) (u : Int) (m : Nat) : Prop where
  ok : Lh.BOk S
  un : ∀ x ∈ S.L, u < x.2.2
  up : ∀ x ∈ S.L, Lh.hup S.hs x.2.1 = true
  len : S.L.length ≤ m
theorem BInv.keeps {u : Int} {m : Nat} (h : BInv S u m) (hu : now ≤ u) (hz : HasF S k z) : Lh.BKeeps S k now z := by
  obtain ⟨x, hx, rfl, rfl⟩ := hz
  obtain ⟨h1, h2⟩ := Lh.fix_of h.ok.ok.rise hx
  refine ⟨h1, ?_, by rw [h2], h.up x hx⟩
  rw [h2]
  have := h.un x hx
  omega
theorem keeps_has (h : Lh.BKeeps S k now z) : HasF S k z := by
  obtain ⟨h1, _, h2, _⟩ := h
  exact ⟨_, List.getElem_mem h1, Lh.fix_get h1, h2⟩
/-- what stays as it is in a pick -/
structure Alike (S S' : Lh.Bl) : Prop where
  f : S'.f = S.f
  r : S'.r = S.r
  size : S'.size = S.size
  t : S'.t = S.t
  hs : S'.hs = S.hs
  dr : S'.dr = S.dr
  ep : S'.ep = S.ep
theorem Alike.open_ (h : Alike S S') : Lh.bopen S' = Lh.bopen S := by unfold Lh.bopen; rw [h.hs, h.dr]
theorem Alike.trans {S'' : Lh.Bl} (h : Alike S S') (h' : Alike S' S'') : Alike S S'' := ⟨h'.f.trans h.f, h'.r.trans h.r, h'.size.trans h.size, h'.t.trans h.t, h'.hs.trans h.hs, h'.dr.trans h.dr, h'.ep.trans h.ep⟩
theorem Alike.refl (S : Lh.Bl) : Alike S S := ⟨rfl, rfl, rfl, rfl, rfl, rfl, rfl⟩
theorem BInv.pick {u : Int} {m : Nat} (h : BInv S u m) (hp : PickR nw S k now S' s kept c) (ht : TickOk S.la now) (hu : now ≤ u) (hu2 : u < now + (S.t : Int)) (hm : m < 200) (ho : Lh.bopen S ≠ []) (hnw : nw (Lh.bopen S) S.size k ∈ Lh.bopen S) (hk : k < 18446744073709551616) :
    c = 0 ∧ BInv S' u (m + 1) ∧ Alike S S' ∧ S'.la = now ∧ HasF S' k s ∧ (∀ k' z, HasF S k' z → HasF S' k' z) ∧ Lh.hup S.hs s = true ∧ (∀ z, HasF S k z → s = z ∧ kept = true) ∧ (kept = false → s ∉ S.dr) ∧ ((∀ z, ¬ HasF S k z) → kept = false) ∧ S'.L = Lh.fput S.t S.L k s now := by
  obtain ⟨h0, h1, h2⟩ := ht
  have main : ∀ s', S' = { S with la := now, L := Lh.fput S.t S.L k s' now } → Lh.hup S.hs s' = true → (∀ z, HasF S k z → s' = z) → BInv S' u (m + 1) ∧ Alike S S' ∧ S'.la = now ∧ HasF S' k s' ∧ (∀ k' z, HasF S k' z → HasF S' k' z) := by
    intro s' e hup hsame
    subst e
    obtain ⟨hn, hsz⟩ := Lh.hup_nm h.ok hup
    refine ⟨⟨h.ok.put hk hn hsz h0 h1, fun x hx => ?_, fun x hx => ?_, ?_⟩, ⟨rfl, rfl, rfl, rfl, rfl, rfl, rfl⟩, rfl, ⟨_, Lh.fput_self, rfl, rfl⟩, fun k' z hz => ?_⟩
    · rcases Lh.fput_mem hx with rfl | hx
      · exact hu2
      · exact h.un x hx
    · rcases Lh.fput_mem hx with rfl | hx
      · exact hup
      · exact h.up x hx
    · have := Lh.fput_len (t := S.t) (L := S.L) (k := k) (s := s') (now := now)
      have := h.len
      show (Lh.fput S.t S.L k s' now).length ≤ m + 1
      omega
    · obtain ⟨x, hx, rfl, rfl⟩ := hz
      by_cases e : x.1 = k
      · have : s' = x.2.1 := hsame _ ⟨x, hx, e, rfl⟩
        exact ⟨_, Lh.fput_self, e.symm, this⟩
      · exact ⟨x, Lh.fput_other (Nat.lt_of_le_of_lt h.len hm) hx e, rfl, rfl⟩
  by_cases hz : ∃ z, HasF S k z
  · obtain ⟨z, hz⟩ := hz
    have hkp := h.keeps hu hz
    obtain ⟨rfl, rfl, rfl, e⟩ := hp.keep ⟨h0, h1, h2⟩ hkp
    have hall : ∀ z, HasF S k z → s = z := fun z hz => keeps_one hkp (h.keeps hu hz)
    have hup : Lh.hup S.hs s = true := by obtain ⟨_, _, _, h⟩ := hkp; exact h
    obtain ⟨q1, q2, q3, q4, q5⟩ := main s e hup hall
    exact ⟨rfl, q1, q2, q3, q4, q5, hup, fun z hz => ⟨hall z hz, rfl⟩, fun h => Bool.noConfusion h, fun hno => absurd hz (hno s), by rw [e]⟩
  · have hno : ∀ z, ¬ Lh.BKeeps S k now z := fun z hk => hz ⟨z, keeps_has hk⟩
    obtain ⟨rfl, rfl, rfl, e⟩ := hp.new ⟨h0, h1, h2⟩ hno ho
    obtain ⟨hup, hdr⟩ := Lh.bopen_mem.1 hnw
    obtain ⟨q1, q2, q3, q4, q5⟩ := main _ e hup fun z hz' => absurd ⟨z, hz'⟩ hz
    exact ⟨rfl, q1, q2, q3, q4, q5, hup, fun z hz' => absurd ⟨z, hz'⟩ hz, fun _ => hdr, fun _ => rfl, by rw [e]⟩
end
end Go.Proofs.YtmkdpchodeckgaaGreatDoor

/- The closed fact: a key keeps its host. -/
namespace Go.Proofs.YtmkdpchodeckgaaGreatDoor
open Go.RowKit

def nA : ByteArray := ⟨#[97]⟩
def nB : ByteArray := ⟨#[98]⟩
def nC : ByteArray := ⟨#[99]⟩
def nD : ByteArray := ⟨#[100]⟩
def nE : ByteArray := ⟨#[101]⟩
/-- a new balance -/
def bnew0 (xs : List ByteArray) (n t : Nat) : Lh.Bl := ⟨1, 1, n, t, Lh.hnew xs, [], 0, 0, []⟩
theorem hup_new {xs : List ByteArray} {s : ByteArray} : Lh.hup (Lh.hnew xs) s = true ↔ s ∈ xs := by
  rw [Lh.hup_iff]
  unfold Lh.hnew
  constructor
  · rintro ⟨x, hx, rfl, _⟩
    obtain ⟨y, hy, rfl⟩ := List.mem_map.1 hx
    exact hy
  · intro h
    exact ⟨_, List.mem_map.2 ⟨s, h, rfl⟩, rfl, rfl⟩
theorem bok_new {xs : List ByteArray} {n t : Nat} (hl : xs.length ≤ 12) (hn : xs.Nodup) (hs : ∀ s ∈ xs, s.size ≤ 300) (hnm : ∀ s ∈ xs, Lh.isNm s = true) (hp : Lh.Prm n) (h5 : n ≤ 503) (h1 : 1 ≤ t) (h2 : t ≤ 1000) : Lh.BOk (bnew0 xs n t) := by
  refine ⟨Lh.hnew_ok (by simp [bnew0]) (by simp [bnew0]) (by simp [bnew0]) (by simp [bnew0]) hl hn hs, fun x hx => ?_, Lh.FlOk.nil, fun x hx => ?_, fun x hx => ?_, h1, h2, hp, h5, by simp [bnew0], by simp [bnew0], by simp [bnew0], by simp [bnew0]⟩
  · obtain ⟨y, hy, rfl⟩ := List.mem_map.1 hx
    exact hnm y hy
  · exact absurd hx (by simp [bnew0])
  · exact absurd hx (by simp [bnew0])
theorem binv_new {xs : List ByteArray} {n t : Nat} (h : Lh.BOk (bnew0 xs n t)) (u : Int) (m : Nat) : BInv (bnew0 xs n t) u m := ⟨h, fun x hx => absurd hx (by simp [bnew0]), fun x hx => absurd hx (by simp [bnew0]), by simp [bnew0]⟩
theorem open_new {xs : List ByteArray} {n t : Nat} {s : ByteArray} : s ∈ Lh.bopen (bnew0 xs n t) ↔ s ∈ xs := by
  rw [Lh.bopen_mem]
  simp only [bnew0, hup_new]
  simp
theorem open_some {S : Lh.Bl} {s : ByteArray} (h : s ∈ Lh.bopen S) : Lh.bopen S ≠ [] := fun e => by rw [e] at h; cases h
theorem prm_small {n : Nat} (h2 : 2 ≤ n) (h : ∀ k : Fin n, 2 ≤ k.val → n % k.val ≠ 0) : Lh.Prm n := ⟨h2, fun k hk hlt => h ⟨k, hlt⟩ hk⟩
theorem prm7 : Lh.Prm 7 := prm_small (by decide) (by decide)
theorem prm31 : Lh.Prm 31 := prm_small (by decide) (by decide)
theorem prm13 : Lh.Prm 13 := prm_small (by decide) (by decide)
theorem nm_ok : ∀ s ∈ [nA, nB, nC, nD, nE], Lh.isNm s = true ∧ s.size ≤ 300 := by decide
/-- the first n of them -/
theorem five_fault {xs : List ByteArray} (h : xs = [nA, nB] ∨ xs = [nA, nB, nC] ∨ xs = [nA, nB, nC, nD] ∨ xs = [nA, nB, nC, nD, nE]) : IsFault xs 0 (-1) ∧ xs.Nodup ∧ xs.length ≤ 12 ∧ 0 < xs.length ∧ (∀ s ∈ xs, s.size ≤ 300) ∧ ∀ s ∈ xs, Lh.isNm s = true := by
  have hnd : xs.Nodup := by rcases h with rfl | rfl | rfl | rfl <;> decide
  have hl : xs.length ≤ 12 := by rcases h with rfl | rfl | rfl | rfl <;> decide
  have h0 : 0 < xs.length := by rcases h with rfl | rfl | rfl | rfl <;> decide
  have hm : ∀ s ∈ xs, s ∈ [nA, nB, nC, nD, nE] := by
    intro s hs
    rcases h with rfl | rfl | rfl | rfl
    · simp at hs ⊢; rcases hs with rfl | rfl <;> simp
    · simp at hs ⊢; rcases hs with rfl | rfl | rfl <;> simp
    · simp at hs ⊢; rcases hs with rfl | rfl | rfl | rfl <;> simp
    · exact hs
  exact ⟨fault_of hl (fun s hs => (nm_ok s (hm s hs)).1) hnd, hnd, hl, h0, fun s hs => (nm_ok s (hm s hs)).2, fun s hs => (nm_ok s (hm s hs)).1⟩
/-- a pick of a key, where all is right -/
theorem bpick (hC : BalanceC) {a : Nat → Addr} {S : Lh.Bl} {F : Nat → Prop} {p : Nat} {W : World} {B : Nat} {u : Int} {m : Nat} (he : hC.E a W) (hR : hC.Rep S F p W) (hI : BInv S u m) (hF : ∀ b, F b → B ≤ b) (hB : B ≤ W.heap.size) (k : Nat) (hk : k < 18446744073709551616) (now : Int) (ht : TickOk S.la now) (hu : now ≤ u) (hu2 : u < now + (S.t : Int)) (hm : m < 200) (ho : Lh.bopen S ≠ []) :
    Calls Tryz.prog 8 #[.pointer (some ⟨p, 0, none⟩), .int .u64 (k : Nat), .int .i64 now] W fun e W' => ∃ F' S' s kept, e = .returned (.tuple #[.string s, .bool kept, .nilIface]) ∧ hC.Rep S' F' p W' ∧
      BInv S' u (m + 1) ∧ Alike S S' ∧ S'.la = now ∧ HasF S' k s ∧ (∀ k' z, HasF S k' z → HasF S' k' z) ∧ Lh.hup S.hs s = true ∧ (∀ z, HasF S k z → s = z ∧ kept = true) ∧ (kept = false → s ∉ S.dr) ∧ ((∀ z, ¬ HasF S k z) → kept = false) ∧ S'.L = Lh.fput S.t S.L k s now ∧ (∀ b, F' b → B ≤ b) ∧ Below B W W' := by
  refine (hC.pick a S F p k now W he hR hI.ok hk).mono ?_
  rintro e W' ⟨F', S', s, kept, c, ev, h1, h2, rfl, hev, hp, hR'⟩
  obtain ⟨rfl, q1, q2, q3, q4, q5, q6, q7, q8, q9, q10⟩ := hI.pick hp ht hu hu2 hm ho (hC.nwIn k ho hI.ok.prm) hk
  obtain rfl := evOf_nil hev
  refine ⟨F', S', s, kept, rfl, hR', q1, q2, q3, q4, q5, q6, q7, q8, q9, q10, fun b hb => ?_, h2.below hF (Below.refl _ _) hB⟩
  rcases h1 b hb with h | h
  · exact hF b h
  · omega
theorem open_one {S : Lh.Bl} {xs : List ByteArray} {n t : Nat} (h : Alike (bnew0 xs n t) S) {s : ByteArray} (hs : s ∈ xs) : Lh.bopen S ≠ [] := by
  rw [h.open_]
  exact open_some (open_new.2 hs)
/-- two keys that are one: as many flows as keys -/
theorem one_flow {S : Lh.Bl} (h : Lh.BOk S) {k : Nat} {s : ByteArray} (hx : HasF S k s) (hall : ∀ x ∈ S.L, x.1 = k) : S.L.length = 1 := by
  obtain ⟨x, hx, rfl, rfl⟩ := hx
  have hr := h.ok.rise
  match e : S.L with
  | [] => rw [e] at hx; cases hx
  | [y] => rfl
  | y :: z :: r =>
    rw [e] at hr hall
    have h1 := hall y (by simp)
    have h2 := hall z (by simp)
    rw [List.pairwise_cons] at hr
    have := hr.1 z (by simp)
    omega

set_option maxRecDepth 100000 in
set_option maxHeartbeats 4000000 in
theorem balanced_any (hC : BalanceC) (a : Nat → Addr) (w : World) (he : hC.E a w) :
    Calls Tryz.prog 6 #[] w fun e w' => e = .returned (.bool true) ∧ Below w.heap.size w w' := by
  obtain ⟨hf, hnd, hl, h0, hsz, hnm⟩ := five_fault (xs := [nA, nB]) (Or.inl rfl)
  have hb0 : Below w.heap.size w (w.alloc (.cells #[.string nA, .string nB] 9)) := (Below.refl _ _).alloc (Nat.le_refl _) _
  have hnew := hC.newG a (.slice (some ⟨w.heap.size, 0, none⟩) 2 2) [nA, nB] 7 5 1 1 (w.alloc (.cells #[.string nA, .string nB] 9)) (hC.eLater he hb0) (Or.inr ⟨w.heap.size, 0, 2, rfl, by decide, fun k hk => by
    have : k = 0 ∨ k = 1 := by simp at hk; omega
    rcases this with rfl | rfl <;> simp⟩) h0 hf hsz prm7 (by decide) (by decide) (by decide) (by decide) (by decide) (by decide) (by decide)
  have hok : Lh.BOk (bnew0 [nA, nB] 7 5) := bok_new hl hnd hsz hnm prm7 (by decide) (by decide) (by decide)
  have HE : Hid (hC.E a w) := he
  have HOK : Hid (Lh.BOk (bnew0 [nA, nB] 7 5)) := hok
  clear he hf hnd hl h0 hsz hnm hok
  unfold nA nB at hnew
  go_enter Tryz.func6, Tryz.ntmps6
  go_wp2_with fail
  refine hnew.mono ?_
  rintro e w1 ⟨p, F, rfl, hR, hF, hb1⟩
  have hbw1 : Below w.heap.size w w1 := below_then hb0 hb1
  have hF1 : ∀ b, F b → w.heap.size ≤ b := fun b h => Nat.le_trans (by simp) (hF b h)
  have hR1 : hC.Rep (bnew0 [nA, nB] 7 5) F p w1 := hR
  have hp1 := bpick hC (hC.eLater HE.out hbw1) hR1 (binv_new HOK.out 4 0) hF1 hbw1.size 9 (by decide) 0 ⟨by decide, by decide, by decide⟩ (by decide) (by decide) (by decide) (open_one (Alike.refl _) (s := nA) (by simp))
  clear hnew hR hF hF1 hR1 hb0 hb1
  go_wp2_with fail
  refine hp1.mono ?_
  rintro e w2 ⟨F2, S2, s2, kept2, rfl, hR2, hI2, hA2, hla2, hH2, hk2, hup2, hz2, hd2, hn2, hL2, hF2, hb2⟩
  have hbw2 : Below w.heap.size w w2 := hbw1.trans hb2
  obtain rfl : kept2 = false := hn2 fun z ⟨x, hx, _⟩ => by simp [bnew0] at hx
  have hall2 : ∀ x ∈ S2.L, x.1 = 9 := fun x hx => by
    rw [hL2] at hx
    rcases Lh.fput_mem hx with rfl | hx
    · rfl
    · simp [bnew0] at hx
  have HALL : Hid (∀ x ∈ S2.L, x.1 = 9) := hall2
  have hp2 := bpick hC (hC.eLater HE.out hbw2) hR2 hI2 hF2 hbw2.size 9 (by decide) 4 ⟨by decide, by decide, by rw [hla2]; decide⟩ (by decide) (by rw [hA2.t]; decide) (by decide) (open_one hA2 (s := nA) (by simp))
  have HH2 : Hid (HasF S2 9 s2) := hH2
  have HA2 : Hid (Alike (bnew0 [nA, nB] 7 5) S2) := hA2
  clear hp1 hR2 hF2 hb2 hbw1 hI2 hla2 hk2 hup2 hz2 hd2 hn2 hL2 hall2 hH2 hA2
  go_wp2_with fail
  refine hp2.mono ?_
  rintro e w3 ⟨F3, S3, s3, kept3, rfl, hR3, hI3, hA3, hla3, hH3, hk3, hup3, hz3, hd3, hn3, hL3, hF3, hb3⟩
  obtain ⟨rfl, rfl⟩ := hz3 s2 HH2.out
  have hbw3 : Below w.heap.size w w3 := hbw2.trans hb3
  have hone : S3.L.length = 1 := one_flow hI3.ok hH3 fun x hx => by
    rw [hL3] at hx
    rcases Lh.fput_mem hx with rfl | hx
    · rfl
    · exact HALL.out x hx
  have hfl := hC.flows S3 F3 p w3 hR3 hI3.ok
  have HR3 : Hid (hC.Rep S3 F3 p w3) := hR3
  have HI3 : Hid (Lh.BOk S3) := hI3.ok
  have HA3 : Hid (Alike (bnew0 [nA, nB] 7 5) S3) := HA2.out.trans hA3
  have d : (s3.toList == s3.toList) = true := beq_self_eq_true _
  clear hp2 hR3 hI3 hA3 hla3 hH3 hk3 hup3 hz3 hd3 hn3 hL3 hF3 hb3 hbw2
  go_wp2_with fail
  refine hfl.mono ?_
  rintro e w4 ⟨v4, rfl, hv4, hb4⟩
  obtain ⟨p4, c4, rfl⟩ : ∃ p c, v4 = .slice p 1 c := by
    rcases hv4 with ⟨h, _⟩ | ⟨g, c, h, _⟩
    · rw [h] at hone; cases hone
    · rw [hone] at h; exact ⟨_, _, h⟩
  have hep := hC.epoch S3 F3 p w4 (hC.later HR3.out hb4)
  rw [HA3.out.ep] at hep
  have hbw4 := below_then hbw3 hb4
  have HR4 : Hid (hC.Rep S3 F3 p w4) := hC.later HR3.out hb4
  clear hfl hv4 hone hb4 hbw3
  simp only [bnew0] at hep
  go_wp2_with fail
  refine hep.mono ?_
  rintro e w5 ⟨rfl, hb5⟩
  have hup := hC.up S3 F3 p w5 (hC.later HR4.out hb5) HI3.out
  rw [HA3.out.hs] at hup
  have hbw5 := below_then hbw4 hb5
  clear hep hb5 hbw4
  go_wp2_with fail
  refine hup.mono ?_
  rintro e w6 ⟨v6, rfl, hv6, hb6⟩
  obtain ⟨p6, c6, rfl⟩ : ∃ p c, v6 = .slice p 2 c := by
    rcases hv6 with ⟨h, _⟩ | ⟨b, o, c, h, _⟩
    · exact absurd h (by simp [bnew0, Lh.hups, Lh.hnew])
    · exact ⟨_, _, h⟩
  have hbw6 := below_then hbw5 hb6
  clear hup hv6 hb6 hbw5
  go_wp2
  go_ret
  exact ⟨rfl, hbw6⟩
end Go.Proofs.YtmkdpchodeckgaaGreatDoor

/- Picks one behind the other, and a list of what they told. -/
namespace Go.Proofs.YtmkdpchodeckgaaGreatDoor
open Go.RowKit

/-- a pick of a key, where all is right: with the frame -/
theorem bpickT (hC : BalanceC) {a : Nat → Addr} {S : Lh.Bl} {F : Nat → Prop} {p : Nat} {W : World} {u : Int} {m : Nat} (he : hC.E a W) (hR : hC.Rep S F p W) (hI : BInv S u m) (k : Nat) (hk : k < 18446744073709551616) (now : Int) (ht : TickOk S.la now) (hu : now ≤ u) (hu2 : u < now + (S.t : Int)) (hm : m < 200) (ho : Lh.bopen S ≠ []) :
    Calls Tryz.prog 8 #[.pointer (some ⟨p, 0, none⟩), .int .u64 (k : Nat), .int .i64 now] W fun e W' => ∃ F' S' s kept, e = .returned (.tuple #[.string s, .bool kept, .nilIface]) ∧ hC.Rep S' F' p W' ∧
      BInv S' u (m + 1) ∧ Alike S S' ∧ S'.la = now ∧ HasF S' k s ∧ (∀ k' z, HasF S k' z → HasF S' k' z) ∧ Lh.hup S.hs s = true ∧ (∀ z, HasF S k z → s = z ∧ kept = true) ∧ (kept = false → s ∉ S.dr) ∧ ((∀ z, ¬ HasF S k z) → kept = false) ∧ S'.L = Lh.fput S.t S.L k s now ∧ (∀ b, F' b → F b ∨ W.heap.size ≤ b) ∧ Tur F W W' := by
  refine (hC.pick a S F p k now W he hR hI.ok hk).mono ?_
  rintro e W' ⟨F', S', s, kept, c, ev, h1, h2, rfl, hev, hp, hR'⟩
  obtain ⟨rfl, q1, q2, q3, q4, q5, q6, q7, q8, q9, q10⟩ := hI.pick hp ht hu hu2 hm ho (hC.nwIn k ho hI.ok.prm) hk
  obtain rfl := evOf_nil hev
  exact ⟨F', S', s, kept, rfl, hR', q1, q2, q3, q4, q5, q6, q7, q8, q9, q10, h1, h2⟩
/-- a balance, and a list of names of one's own -/
structure PL (hC : BalanceC) (B : Nat) (w W : World) (S : Lh.Bl) (F : Nat → Prop) (p : Nat) (v : Value) (ws : List ByteArray) : Prop where
  hB : B ≤ w.heap.size
  below : Below B w W
  rep : hC.Rep S F p W
  fb : ∀ b, F b → B ≤ b
  own : W.ownsRow B 9 1 v ws.length (ws.map Value.string)
  apart : ∀ b, F b → v.ownBlock ≠ some b
section
variable {hC : BalanceC} {B : Nat} {w W W' : World} {S S' : Lh.Bl} {F F' : Nat → Prop} {p : Nat} {v : Value} {ws : List ByteArray}
theorem PL.size (h : PL hC B w W S F p v ws) : B ≤ W.heap.size := Nat.le_trans h.hB h.below.size
theorem own_turned {base : Nat} {e : TypeId} {sz n : Nat} {xs : List Value} (h : W.ownsRow base e sz v n xs) (he : ∀ g, v.ownBlock = some g → W'.heap[g]? = W.heap[g]?) : W'.ownsRow base e sz v n xs := by
  refine ⟨h.1, ?_⟩
  rcases h.2 with hn | ⟨g, cap, cur, hv, hb, hg, rest⟩
  · exact .inl hn
  · exact .inr ⟨g, cap, cur, hv, hb, (he g (by rw [hv]; rfl)).trans hg, rest⟩
/-- behind a pick -/
theorem PL.turned (h : PL hC B w W S F p v ws) (hR : hC.Rep S' F' p W') (hF : ∀ b, F' b → F b ∨ W.heap.size ≤ b) (hT : Tur F W W') : PL hC B w W' S' F' p v ws := by
  refine ⟨h.hB, hT.below h.fb h.below h.hB, hR, fun b hb => ?_, own_turned h.own fun g hg => ?_, fun b hb e => ?_⟩
  · rcases hF b hb with h1 | h1
    · exact h.fb b h1
    · exact Nat.le_trans h.size h1
  · have hlt := (h.own.lt g hg).2
    exact hT.block g hlt fun hf => h.apart g hf hg
  · rcases hF b hb with h1 | h1
    · exact h.apart b h1 e
    · have := (h.own.lt b e).2
      omega
theorem PL.later (h : PL hC B w W S F p v ws) (hb : Below W.heap.size W W') : PL hC B w W' S F p v ws := by
  refine h.turned (hC.later h.rep hb) (fun b hf => Or.inl hf) (Tur.of_below hb)
/-- behind an append -/
theorem PL.pushed (h : PL hC B w W S F p v ws) {tmp : Obj} {g cap : Nat} {s : ByteArray} {w1 : World} (hown : w1.ownsRow B 9 1 (.slice (some ⟨g, 0, none⟩) (ws.length + 1) cap) (ws.length + 1) (ws.map Value.string ++ [.string s])) (hg : (W.alloc tmp).grownBy w1 v.ownBlock) (hor : v.ownBlock = some g ∨ g = W.heap.size + 1) : PL hC B w w1 S F p (.slice (some ⟨g, 0, none⟩) (ws.length + 1) cap) (ws ++ [s]) := by
  have hblk : ∀ b, F b → w1.heap[b]? = W.heap[b]? := fun b hb => by
    have hlt := hC.lt h.rep b hb
    exact (hg.block b (by simp; omega) (fun e => h.apart b hb e.symm)).trans (Below.heap_alloc _ _ b hlt)
  refine ⟨h.hB, ?_, hC.stay h.rep (Nat.le_trans (by simp) hg.size) hblk, h.fb, ?_, fun b hb e => ?_⟩
  · refine (h.below.alloc h.size tmp).grown hg ?_ fun k hk => (h.own.lt k hk).1
    exact Nat.le_trans h.size (by simp)
  · rw [List.map_append, List.length_append]
    exact hown
  · have e' : g = b := by simpa [Value.ownBlock] using e
    subst e'
    rcases hor with h1 | h1
    · exact h.apart _ hb h1
    · have := hC.lt h.rep _ hb
      omega
end
end Go.Proofs.YtmkdpchodeckgaaGreatDoor
