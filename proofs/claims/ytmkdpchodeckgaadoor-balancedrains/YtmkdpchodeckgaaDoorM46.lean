/- A list of keys among the arguments, as it is read; the room of a list of texts; four package variables. -/
import Derived.Test.YtmkdpchodeckgaaDoorM45
import Derived.Test.YtmkdpchodeckgaaDoorM6
import Derived.ChangeSlices
import Derived.Test.YtmkdpchodeckgaaDoorM43
namespace Go.Proofs.YtmkdpchodeckgaaDoor
open Go.ChangeShapes Go.WideShapes Go.ChangeAt Go.RowKit

theorem open_keys {H : Type} {enc : TypeId × Value → H} {W : World} {v : Value} {fuel : Nat} {x : DataW H × List MemPlace} {a0 : Option Addr} {len cap : Nat} (hv : v = .slice a0 len cap)
    (hf : DataW.trod enc Tryd.prog W 0 (fun _ => true) true fuel 22 [.slice a0 len cap] = some x) :
    ∃ ks : List Nat, U64s W v ks ∧ (∀ k (h : k < ks.length), ks[k] < 18446744073709551616) ∧ ks.length ≤ maxLen := by
  subst hv
  rcases open_ints Tryd.underlying22 Tryd.underlying32 cellsU hf with ⟨hcs, _⟩ | ⟨a, len', cap', zs, hcs, _, hl, hm, hz, _, hcell, hws⟩
  · simp at hcs
    obtain ⟨rfl, rfl, rfl⟩ := hcs
    exact ⟨[], ⟨none, 0, rfl, fun k h => absurd h (by simp)⟩, fun k h => absurd h (by simp), by simp⟩
  · simp at hcs
    obtain ⟨rfl, rfl, rfl⟩ := hcs
    simp only [if_true] at hz
    have hlen : ((zs.take len).map Int.toNat).length = len := by simp; omega
    have hget : ∀ k (h : k < ((zs.take len).map Int.toNat).length), ∃ hk : k < zs.length, ((((zs.take len).map Int.toNat)[k] : Nat) : Int) = zs[k] ∧ zs[k] < 18446744073709551616 := fun k h => by
      have hk : k < zs.length := by omega
      obtain ⟨h1, h2⟩ := wf_u64 (hws _ (List.getElem_mem hk))
      refine ⟨hk, ?_, h2⟩
      simp
      omega
    refine ⟨(zs.take len).map Int.toNat, ⟨some a, cap, by rw [hlen], fun k h => ?_⟩, fun k h => ?_, by omega⟩
    · obtain ⟨b, off, spot⟩ := a
      have hspot : spot = none := by simpa [Addr.add] using World.cell?_spot (hcell 0 (by omega))
      subst hspot
      obtain ⟨hk, e, _⟩ := hget k h
      refine ⟨b, off, rfl, ?_⟩
      have := hcell k hk
      rw [Addr.add_lit] at this
      rw [this, e]
      simp [List.getD, hk]
    · obtain ⟨hk, e, h2⟩ := hget k h
      omega
theorem open_room {H : Type} {enc : TypeId × Value → H} {W : World} {fuel : Nat} {x : DataW H × List MemPlace} {a0 : Option Addr} {len cap : Nat}
    (hf : DataW.trod enc Tryd.prog W 0 (fun _ => true) true fuel 24 [.slice a0 len cap] = some x) : cap ≤ maxLen := by
  rcases open_strings Tryd.underlying24 Tryd.underlying9 cellsS hf with ⟨hcs, _⟩ | ⟨a, len', cap', ss, hcs, _, _, hm, _⟩
  · simp at hcs
    obtain ⟨_, _, rfl⟩ := hcs
    simp
  · simp at hcs
    obtain ⟨_, _, rfl⟩ := hcs
    exact hm

def api4 : List (String × List UInt8) := [
  ("levelhand/api.ErrBound", [108, 101, 118, 101, 108, 104, 97, 110, 100, 58, 32, 98, 111, 117, 110, 100]),
  ("levelhand/api.ErrName", [108, 101, 118, 101, 108, 104, 97, 110, 100, 58, 32, 110, 97, 109, 101]),
  ("levelhand/api.ErrNone", [108, 101, 118, 101, 108, 104, 97, 110, 100, 58, 32, 110, 111, 110, 101]),
  ("levelhand/api.ErrExist", [108, 101, 118, 101, 108, 104, 97, 110, 100, 58, 32, 101, 120, 105, 115, 116])]
theorem gErr4 (i : Nat) (h : i < 4) : ∃ x g, api4[i]? = some x ∧ Tryd.prog.globalNamed x.1 = some g ∧ (Tryd.prog.globals[g]?).map (·.type) = some 27 := by
  match i, h with
  | 0, _ => exact ⟨_, 1, rfl, by kernel_rfl, by kernel_rfl⟩
  | 1, _ => exact ⟨_, 2, rfl, by kernel_rfl, by kernel_rfl⟩
  | 2, _ => exact ⟨_, 0, rfl, by kernel_rfl, by kernel_rfl⟩
  | 3, _ => exact ⟨_, 3, rfl, by kernel_rfl, by kernel_rfl⟩
theorem errs4_of {W : World} (h : laidMet Tryd.prog (sentList api4) W) : ∃ a, Errs4 a W := by
  obtain ⟨ps, hl, _, hrows⟩ := h
  obtain ⟨ads, el, _, hv⟩ := sents_of Tryd.underlying27 rowE Tryd.underlying142 Tryd.underlying158 rfl rfl Tryd.underlying9 cellsE cellsS ps hrows api4 ps
    (fun x hx => by
      obtain ⟨i, hi, rfl⟩ := List.getElem_of_mem hx
      obtain ⟨y, g, hy, h1, h2⟩ := gErr4 i hi
      rw [List.getElem?_eq_getElem hi] at hy
      obtain rfl := Option.some.inj hy
      exact ⟨g, h1, h2⟩) (fun _ hm => hm) hl
  have el4 : ads.length = 4 := el
  have cellAt : ∀ (i : Nat) (h : i < 4) (n : String) (g : Nat), (api4[i]'h).1 = n → Tryd.prog.globalNamed n = some g → W.cell? ⟨g, 0, none⟩ = some (.iface 142 (.pointer (some (ads.getD i default)))) := by
    intro i h n g hn hg
    have := hv i h (by omega)
    rw [hn] at this
    have hd : ads.getD i default = ads[i]'(by omega) := by rw [List.getD_eq_getElem?_getD, List.getElem?_eq_getElem (by omega)]; rfl
    rw [hd]
    simpa using World.var?_cell hg this 0
  exact ⟨fun i => ads.getD (if i = 1 then 0 else i - 2) default, cellAt 0 (by decide) _ _ rfl (by kernel_rfl), cellAt 1 (by decide) _ _ rfl (by kernel_rfl), cellAt 2 (by decide) _ _ rfl (by kernel_rfl), cellAt 3 (by decide) _ _ rfl (by kernel_rfl)⟩
end Go.Proofs.YtmkdpchodeckgaaDoor

/- Picks: what a pick leaves, and what it tells. -/
namespace Go.Proofs.YtmkdpchodeckgaaDoor
open Go.RowKit

theorem keeps_one {S : Lh.Bl} {k : Nat} {now : Int} {s z : ByteArray} (h : Lh.BKeeps S k now s) (h' : Lh.BKeeps S k now z) : s = z := by
  obtain ⟨_, _, h, _⟩ := h
  obtain ⟨_, _, h', _⟩ := h'
  exact h.symm.trans h'
section
variable {nw : List ByteArray → Nat → Nat → ByteArray} {S S' : Lh.Bl} {k : Nat} {now : Int} {s z : ByteArray} {kept : Bool} {c : Nat}
theorem ok_not {la now : Int} {j : Nat} (h : TickOk la now) (h' : TickF la now j) : False := by
  obtain ⟨h1, h2, h3⟩ := h
  rcases h' with ⟨h', _⟩ | ⟨_, _, h', _⟩ <;> omega
theorem PickR.keep (h : PickR nw S k now S' s kept c) (ht : TickOk S.la now) (hz : Lh.BKeeps S k now z) : s = z ∧ kept = true ∧ c = 0 ∧ S' = { S with la := now, L := Lh.fput S.t S.L k z now } := by
  rcases h with ⟨j, hf, _⟩ | ⟨_, hk, h1, h2, h3⟩ | ⟨_, hn, _⟩ | ⟨_, hn, _⟩
  · exact (ok_not ht hf).elim
  · obtain rfl := keeps_one hk hz
    exact ⟨rfl, h1, h2, h3⟩
  · exact absurd hz (hn z)
  · exact absurd hz (hn z)
theorem PickR.new (h : PickR nw S k now S' s kept c) (ht : TickOk S.la now) (hn : ∀ z, ¬ Lh.BKeeps S k now z) (ho : Lh.bopen S ≠ []) : s = nw (Lh.bopen S) S.size k ∧ kept = false ∧ c = 0 ∧ S' = { S with la := now, L := Lh.fput S.t S.L k s now } := by
  rcases h with ⟨j, hf, _⟩ | ⟨_, hk, _⟩ | ⟨_, _, h, _⟩ | ⟨_, _, _, h1, h2, h3, h4⟩
  · exact (ok_not ht hf).elim
  · exact absurd hk (hn s)
  · exact absurd h ho
  · exact ⟨h1, h2, h3, h4⟩
/-- there is a flow of this key, with this host -/
def HasF (S : Lh.Bl) (k : Nat) (s : ByteArray) : Prop := ∃ x ∈ S.L, x.1 = k ∧ x.2.1 = s
/-- all is right; every flow is there for longer than u, with a host that is up; there are at most m -/
structure BInv (S : Lh.Bl) (u : Int) (m : Nat) : Prop where
  ok : Lh.BOk S
  un : ∀ x ∈ S.L, u < x.2.2
  up : ∀ x ∈ S.L, Lh.hup S.hs x.2.1 = true
  len : S.L.length ≤ m
theorem BInv.keeps {u : Int} {m : Nat} (h : BInv S u m) (hu : now ≤ u) (hz : HasF S k z) : Lh.BKeeps S k now z := by
  obtain ⟨x, hx, rfl, rfl⟩ := hz
  obtain ⟨h1, h2⟩ := Lh.fix_of h.ok.ok.rise hx
  refine ⟨h1, ?_, by rw [h2], h.up x hx⟩
  rw [h2]
  have := h.un x hx
  omega
theorem keeps_has (h : Lh.BKeeps S k now z) : HasF S k z := by
  obtain ⟨h1, _, h2, _⟩ := h
  exact ⟨_, List.getElem_mem h1, Lh.fix_get h1, h2⟩
/-- what stays as it is in a pick -/
structure Alike (S S' : Lh.Bl) : Prop where
  f : S'.f = S.f
  r : S'.r = S.r
  size : S'.size = S.size
  t : S'.t = S.t
  hs : S'.hs = S.hs
  dr : S'.dr = S.dr
  ep : S'.ep = S.ep
theorem Alike.open_ (h : Alike S S') : Lh.bopen S' = Lh.bopen S := by unfold Lh.bopen; rw [h.hs, h.dr]
theorem Alike.trans {S'' : Lh.Bl} (h : Alike S S') (h' : Alike S' S'') : Alike S S'' := ⟨h'.f.trans h.f, h'.r.trans h.r, h'.size.trans h.size, h'.t.trans h.t, h'.hs.trans h.hs, h'.dr.trans h.dr, h'.ep.trans h.ep⟩
theorem Alike.refl (S : Lh.Bl) : Alike S S := ⟨rfl, rfl, rfl, rfl, rfl, rfl, rfl⟩
theorem BInv.pick {u : Int} {m : Nat} (h : BInv S u m) (hp : PickR nw S k now S' s kept c) (ht : TickOk S.la now) (hu : now ≤ u) (hu2 : u < now + (S.t : Int)) (hm : m < 200) (ho : Lh.bopen S ≠ []) (hnw : nw (Lh.bopen S) S.size k ∈ Lh.bopen S) (hk : k < 18446744073709551616) :
    c = 0 ∧ BInv S' u (m + 1) ∧ Alike S S' ∧ S'.la = now ∧ HasF S' k s ∧ (∀ k' z, HasF S k' z → HasF S' k' z) ∧ Lh.hup S.hs s = true ∧ (∀ z, HasF S k z → s = z ∧ kept = true) ∧ (kept = false → s ∉ S.dr) ∧ ((∀ z, ¬ HasF S k z) → kept = false) ∧ S'.L = Lh.fput S.t S.L k s now := by
  obtain ⟨h0, h1, h2⟩ := ht
  have main : ∀ s', S' = { S with la := now, L := Lh.fput S.t S.L k s' now } → Lh.hup S.hs s' = true → (∀ z, HasF S k z → s' = z) → BInv S' u (m + 1) ∧ Alike S S' ∧ S'.la = now ∧ HasF S' k s' ∧ (∀ k' z, HasF S k' z → HasF S' k' z) := by
    intro s' e hup hsame
    subst e
    obtain ⟨hn, hsz⟩ := Lh.hup_nm h.ok hup
    refine ⟨⟨h.ok.put hk hn hsz h0 h1, fun x hx => ?_, fun x hx => ?_, ?_⟩, ⟨rfl, rfl, rfl, rfl, rfl, rfl, rfl⟩, rfl, ⟨_, Lh.fput_self, rfl, rfl⟩, fun k' z hz => ?_⟩
    · rcases Lh.fput_mem hx with rfl | hx
      · exact hu2
      · exact h.un x hx
    · rcases Lh.fput_mem hx with rfl | hx
      · exact hup
      · exact h.up x hx
    · have := Lh.fput_len (t := S.t) (L := S.L) (k := k) (s := s') (now := now)
      have := h.len
      show (Lh.fput S.t S.L k s' now).length ≤ m + 1
      omega
    · obtain ⟨x, hx, rfl, rfl⟩ := hz
      by_cases e : x.1 = k
      · have : s' = x.2.1 := hsame _ ⟨x, hx, e, rfl⟩
        exact ⟨_, Lh.fput_self, e.symm, this⟩
      · exact ⟨x, Lh.fput_other (Nat.lt_of_le_of_lt h.len hm) hx e, rfl, rfl⟩
  by_cases hz : ∃ z, HasF S k z
  · obtain ⟨z, hz⟩ := hz
    have hkp := h.keeps hu hz
    obtain ⟨rfl, rfl, rfl, e⟩ := hp.keep ⟨h0, h1, h2⟩ hkp
    have hall : ∀ z, HasF S k z → s = z := fun z hz => keeps_one hkp (h.keeps hu hz)
    have hup : Lh.hup S.hs s = true := by obtain ⟨_, _, _, h⟩ := hkp; exact h
    obtain ⟨q1, q2, q3, q4, q5⟩ := main s e hup hall
    exact ⟨rfl, q1, q2, q3, q4, q5, hup, fun z hz => ⟨hall z hz, rfl⟩, fun h => Bool.noConfusion h, fun hno => absurd hz (hno s), by rw [e]⟩
  · have hno : ∀ z, ¬ Lh.BKeeps S k now z := fun z hk => hz ⟨z, keeps_has hk⟩
    obtain ⟨rfl, rfl, rfl, e⟩ := hp.new ⟨h0, h1, h2⟩ hno ho
    obtain ⟨hup, hdr⟩ := Lh.bopen_mem.1 hnw
    obtain ⟨q1, q2, q3, q4, q5⟩ := main _ e hup fun z hz' => absurd ⟨z, hz'⟩ hz
    exact ⟨rfl, q1, q2, q3, q4, q5, hup, fun z hz' => absurd ⟨z, hz'⟩ hz, fun _ => hdr, fun _ => rfl, by rw [e]⟩
end
end Go.Proofs.YtmkdpchodeckgaaDoor
