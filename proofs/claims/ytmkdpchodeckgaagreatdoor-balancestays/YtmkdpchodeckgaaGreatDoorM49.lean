/- A list of texts among the arguments, as it is read. -/
import Derived.Test.YtmkdpchodeckgaaGreatDoorM45
import Derived.Test.YtmkdpchodeckgaaGreatDoorM2
import Derived.SliceStrings
import Derived.ChangeSlices
import Derived.Test.YtmkdpchodeckgaaGreatDoorM4
import Derived.Test.YtmkdpchodeckgaaGreatDoorM33
namespace Go.Proofs.YtmkdpchodeckgaaGreatDoor
open Go.ChangeShapes Go.WideShapes Go.ChangeAt Go.RowKit
open Go.ChangeMaps (open_string shut_string)

theorem open_texts {H : Type} {enc : TypeId × Value → H} {W : World} {v : Value} {fuel : Nat} {x : DataW H × List MemPlace} {a0 : Option Addr} {len cap : Nat} (hv : v = .slice a0 len cap)
    (hf : DataW.trod enc Tryz.prog W 0 (fun _ => true) true fuel 24 [.slice a0 len cap] = some x) :
    ∃ xs : List ByteArray, Strs1 W v xs ∧ (∀ k (h : k < xs.length), (xs[k]).size ≤ maxLen) ∧ xs.length ≤ maxLen := by
  subst hv
  rcases open_strings Tryz.underlying24 Tryz.underlying9 cellsS hf with ⟨hcs, _⟩ | ⟨a, len', cap', ss, hcs, _, hl, hm, hz, _, hcell, hws⟩
  · simp at hcs
    obtain ⟨rfl, rfl, rfl⟩ := hcs
    exact ⟨[], Or.inl ⟨rfl, Or.inl rfl⟩, fun k h => absurd h (by simp), by simp⟩
  · simp at hcs
    obtain ⟨rfl, rfl, rfl⟩ := hcs
    simp only [if_true] at hz
    have hlen : (ss.take len).length = len := by simp; omega
    refine ⟨ss.take len, ?_, fun k h => hws _ (List.mem_of_mem_take (List.getElem_mem h)), by omega⟩
    rcases Nat.eq_zero_or_pos len with h0 | h0
    · subst h0
      exact Or.inl ⟨by simp, Or.inr ⟨_, _, rfl⟩⟩
    · obtain ⟨b, off, spot⟩ := a
      have hspot : spot = none := by simpa [Addr.add] using World.cell?_spot (hcell 0 (by omega))
      subst hspot
      refine Or.inr ⟨b, off, cap, by rw [hlen], by omega, fun k h => ?_⟩
      have hk : k < ss.length := by omega
      have := hcell k hk
      rw [Addr.add_lit] at this
      rw [this]
      simp [List.getD, hk]
end Go.Proofs.YtmkdpchodeckgaaGreatDoor

/- Numbers of 64 bits among the arguments. -/
namespace Go.Proofs.YtmkdpchodeckgaaGreatDoor
open Go.ChangeShapes Go.WideShapes Go.ChangeAt Go.RowKit

theorem cellsU : Tryz.prog.cellsOf 32 = 1 := by kernel_rfl
theorem wf_u64 {n : Int} (h : (Lit.int .u64 n).wf = true) : 0 ≤ n ∧ n < 18446744073709551616 := by
  have := bounds_u64 h
  omega
end Go.Proofs.YtmkdpchodeckgaaGreatDoor

/- A list of keys among the arguments, as it is read; the room of a list of texts; four package variables. -/
namespace Go.Proofs.YtmkdpchodeckgaaGreatDoor
open Go.ChangeShapes Go.WideShapes Go.ChangeAt Go.RowKit

theorem open_keys {H : Type} {enc : TypeId × Value → H} {W : World} {v : Value} {fuel : Nat} {x : DataW H × List MemPlace} {a0 : Option Addr} {len cap : Nat} (hv : v = .slice a0 len cap)
    (hf : DataW.trod enc Tryz.prog W 0 (fun _ => true) true fuel 22 [.slice a0 len cap] = some x) :
    ∃ ks : List Nat, U64s W v ks ∧ (∀ k (h : k < ks.length), ks[k] < 18446744073709551616) ∧ ks.length ≤ maxLen := by
  subst hv
  rcases open_ints Tryz.underlying22 Tryz.underlying32 cellsU hf with ⟨hcs, _⟩ | ⟨a, len', cap', zs, hcs, _, hl, hm, hz, _, hcell, hws⟩
  · simp at hcs
    obtain ⟨rfl, rfl, rfl⟩ := hcs
    exact ⟨[], ⟨none, 0, rfl, fun k h => absurd h (by simp)⟩, fun k h => absurd h (by simp), by simp⟩
  · simp at hcs
    obtain ⟨rfl, rfl, rfl⟩ := hcs
    simp only [if_true] at hz
    have hlen : ((zs.take len).map Int.toNat).length = len := by simp; omega
    have hget : ∀ k (h : k < ((zs.take len).map Int.toNat).length), ∃ hk : k < zs.length, ((((zs.take len).map Int.toNat)[k] : Nat) : Int) = zs[k] ∧ zs[k] < 18446744073709551616 := fun k h => by
      have hk : k < zs.length := by omega
      obtain ⟨h1, h2⟩ := wf_u64 (hws _ (List.getElem_mem hk))
      refine ⟨hk, ?_, h2⟩
      simp
      omega
    refine ⟨(zs.take len).map Int.toNat, ⟨some a, cap, by rw [hlen], fun k h => ?_⟩, fun k h => ?_, by omega⟩
    · obtain ⟨b, off, spot⟩ := a
      have hspot : spot = none := by simpa [Addr.add] using World.cell?_spot (hcell 0 (by omega))
      subst hspot
      obtain ⟨hk, e, _⟩ := hget k h
      refine ⟨b, off, rfl, ?_⟩
      have := hcell k hk
      rw [Addr.add_lit] at this
      rw [this, e]
      simp [List.getD, hk]
    · obtain ⟨hk, e, h2⟩ := hget k h
      omega
theorem open_room {H : Type} {enc : TypeId × Value → H} {W : World} {fuel : Nat} {x : DataW H × List MemPlace} {a0 : Option Addr} {len cap : Nat}
    (hf : DataW.trod enc Tryz.prog W 0 (fun _ => true) true fuel 24 [.slice a0 len cap] = some x) : cap ≤ maxLen := by
  rcases open_strings Tryz.underlying24 Tryz.underlying9 cellsS hf with ⟨hcs, _⟩ | ⟨a, len', cap', ss, hcs, _, _, hm, _⟩
  · simp at hcs
    obtain ⟨_, _, rfl⟩ := hcs
    simp
  · simp at hcs
    obtain ⟨_, _, rfl⟩ := hcs
    exact hm

def api4 : List (String × List UInt8) := [
  ("levelhand/api.ErrBound", [108, 101, 118, 101, 108, 104, 97, 110, 100, 58, 32, 98, 111, 117, 110, 100]),
  ("levelhand/api.ErrName", [108, 101, 118, 101, 108, 104, 97, 110, 100, 58, 32, 110, 97, 109, 101]),
  ("levelhand/api.ErrNone", [108, 101, 118, 101, 108, 104, 97, 110, 100, 58, 32, 110, 111, 110, 101]),
  ("levelhand/api.ErrExist", [108, 101, 118, 101, 108, 104, 97, 110, 100, 58, 32, 101, 120, 105, 115, 116])]
theorem gErr4 (i : Nat) (h : i < 4) : ∃ x g, api4[i]? = some x ∧ Tryz.prog.globalNamed x.1 = some g ∧ (Tryz.prog.globals[g]?).map (·.type) = some 27 := by
  match i, h with
  | 0, _ => exact ⟨_, 2, rfl, by kernel_rfl, by kernel_rfl⟩
  | 1, _ => exact ⟨_, 3, rfl, by kernel_rfl, by kernel_rfl⟩
  | 2, _ => exact ⟨_, 0, rfl, by kernel_rfl, by kernel_rfl⟩
  | 3, _ => exact ⟨_, 6, rfl, by kernel_rfl, by kernel_rfl⟩
theorem errs4_of {W : World} (h : laidMet Tryz.prog (sentList api4) W) : ∃ a, Errs4 a W := by
  obtain ⟨ps, hl, _, hrows⟩ := h
  obtain ⟨ads, el, _, hv⟩ := sents_of Tryz.underlying27 rowE Tryz.underlying236 Tryz.underlying238 rfl rfl Tryz.underlying9 cellsE cellsS ps hrows api4 ps
    (fun x hx => by
      obtain ⟨i, hi, rfl⟩ := List.getElem_of_mem hx
      obtain ⟨y, g, hy, h1, h2⟩ := gErr4 i hi
      rw [List.getElem?_eq_getElem hi] at hy
      obtain rfl := Option.some.inj hy
      exact ⟨g, h1, h2⟩) (fun _ hm => hm) hl
  have el4 : ads.length = 4 := el
  have cellAt : ∀ (i : Nat) (h : i < 4) (n : String) (g : Nat), (api4[i]'h).1 = n → Tryz.prog.globalNamed n = some g → W.cell? ⟨g, 0, none⟩ = some (.iface 236 (.pointer (some (ads.getD i default)))) := by
    intro i h n g hn hg
    have := hv i h (by omega)
    rw [hn] at this
    have hd : ads.getD i default = ads[i]'(by omega) := by rw [List.getD_eq_getElem?_getD, List.getElem?_eq_getElem (by omega)]; rfl
    rw [hd]
    simpa using World.var?_cell hg this 0
  exact ⟨fun i => ads.getD (if i = 1 then 0 else i - 2) default, cellAt 0 (by decide) _ _ rfl (by kernel_rfl), cellAt 1 (by decide) _ _ rfl (by kernel_rfl), cellAt 2 (by decide) _ _ rfl (by kernel_rfl), cellAt 3 (by decide) _ _ rfl (by kernel_rfl)⟩
end Go.Proofs.YtmkdpchodeckgaaGreatDoor

/- The law BalanceStays: what stays of one key's flow. -/
namespace Go.Proofs.YtmkdpchodeckgaaGreatDoor
open Go.RowKit

def five : List ByteArray := [nA, nB, nC, nD, nE]
theorem five_f : IsFault five 0 (-1) ∧ five.Nodup ∧ five.length ≤ 12 ∧ 0 < five.length ∧ (∀ s ∈ five, s.size ≤ 300) ∧ ∀ s ∈ five, Lh.isNm s = true := five_fault (Or.inr (Or.inr (Or.inr rfl)))
theorem five_bok : Lh.BOk (bnew0 five 31 20) := by
  obtain ⟨_, hnd, hl, _, hsz, hnm⟩ := five_f
  exact bok_new hl hnd hsz hnm prm31 (by decide) (by decide) (by decide)
theorem five_strs (w : World) : Strs1 (w.alloc (.cells #[.string nA, .string nB, .string nC, .string nD, .string nE] 9)) (.slice (some ⟨w.heap.size, 0, none⟩) 5 5) five := by
  refine Or.inr ⟨w.heap.size, 0, 5, rfl, by decide, fun k hk => ?_⟩
  have : k = 0 ∨ k = 1 ∨ k = 2 ∨ k = 3 ∨ k = 4 := by simp [five] at hk; omega
  rcases this with rfl | rfl | rfl | rfl | rfl <;> simp [five]
/-- a key's flow, which is there for longer than u, with a host that is up -/
structure KInv (S : Lh.Bl) (key : Nat) (mine : ByteArray) (u : Int) (m : Nat) : Prop where
  ok : Lh.BOk S
  t : S.t = 20
  has : ∃ x ∈ S.L, x.1 = key ∧ x.2.1 = mine ∧ u < x.2.2
  up : Lh.hup S.hs mine = true
  hi : ∀ x ∈ S.L, x.2.2 ≤ 100
  len : S.L.length ≤ m
section
variable {nw : List ByteArray → Nat → Nat → ByteArray} {S S' : Lh.Bl} {key k m c : Nat} {mine s : ByteArray} {u now : Int} {kept : Bool}
theorem KInv.keeps (h : KInv S key mine u m) (hu : now ≤ u) : Lh.BKeeps S key now mine := by
  obtain ⟨x, hx, rfl, rfl, hux⟩ := h.has
  obtain ⟨h1, h2⟩ := Lh.fix_of h.ok.ok.rise hx
  exact ⟨h1, by rw [h2]; omega, by rw [h2], h.up⟩
theorem KInv.put (h : KInv S key mine u m) (hk : k < 18446744073709551616) (hup : Lh.hup S.hs s = true) (hs : k = key → s = mine) (h0 : 0 ≤ now) (h80 : now ≤ 80) (hu2 : u < now + 20) (hm : m < 200) : KInv { S with la := now, L := Lh.fput S.t S.L k s now } key mine u (m + 1) := by
  obtain ⟨hn, hsz⟩ := Lh.hup_nm h.ok hup
  have ht := h.t
  refine ⟨h.ok.put hk hn hsz h0 (by omega), ht, ?_, h.up, fun x hx => ?_, ?_⟩
  · obtain ⟨x, hx, rfl, rfl, hux⟩ := h.has
    by_cases e : x.1 = k
    · refine ⟨_, Lh.fput_self, e.symm, hs e.symm, ?_⟩
      show u < now + (S.t : Int)
      omega
    · exact ⟨x, Lh.fput_other (Nat.lt_of_le_of_lt h.len hm) hx e, rfl, rfl, hux⟩
  · rcases Lh.fput_mem hx with rfl | hx
    · show now + (S.t : Int) ≤ 100
      omega
    · exact h.hi x hx
  · have := Lh.fput_len (t := S.t) (L := S.L) (k := k) (s := s) (now := now)
    have := h.len
    show (Lh.fput S.t S.L k s now).length ≤ m + 1
    omega
theorem KInv.more {m' : Nat} (h : KInv S key mine u m) (hm : m ≤ m') : KInv S key mine u m' := ⟨h.ok, h.t, h.has, h.up, h.hi, Nat.le_trans h.len hm⟩
/-- a pick of whatever key -/
theorem KInv.pick (hnwI : ∀ {xs : List ByteArray} {n : Nat} (k : Nat), xs ≠ [] → Lh.Prm n → nw xs n k ∈ xs) (h : KInv S key mine u m) (hp : PickR nw S k now S' s kept c) (hk : k < 18446744073709551616) (h0 : 0 ≤ now) (h80 : now ≤ 80) (hla : S.la ≤ now) (hu : now ≤ u) (hu2 : u < now + 20) (hm : m < 200) :
    KInv S' key mine u (m + 1) ∧ S'.la = now ∧ S'.ep = S.ep := by
  rcases hp with ⟨j, hf, _⟩ | ⟨_, hkp, _, _, rfl⟩ | ⟨_, _, _, _, _, _, rfl⟩ | ⟨_, hno, ho, rfl, _, _, rfl⟩
  · exact (ok_not ⟨h0, by omega, hla⟩ hf).elim
  · refine ⟨h.put hk (by obtain ⟨_, _, _, h⟩ := hkp; exact h) (fun e => ?_) h0 h80 hu2 hm, rfl, rfl⟩
    subst e
    exact keeps_one hkp (h.keeps hu)
  · exact ⟨⟨h.ok.tick h0 (by omega), h.t, h.has, h.up, h.hi, by have := h.len; show S.L.length ≤ m + 1; omega⟩, rfl, rfl⟩
  · refine ⟨h.put hk (Lh.bopen_mem.1 (hnwI k ho h.ok.prm)).1 (fun e => ?_) h0 h80 hu2 hm, rfl, rfl⟩
    subst e
    exact absurd (h.keeps hu) (hno mine)
/-- a pick of this key -/
theorem KInv.ownKey (h : KInv S key mine u m) (hp : PickR nw S key now S' s kept c) (hk : key < 18446744073709551616) (h0 : 0 ≤ now) (h80 : now ≤ 80) (hla : S.la ≤ now) (hu : now ≤ u) (hu2 : u < now + 20) (hm : m < 200) :
    s = mine ∧ kept = true ∧ c = 0 ∧ KInv S' key mine (now + 19) (m + 1) ∧ S'.la = now ∧ S'.ep = S.ep := by
  obtain ⟨rfl, rfl, rfl, rfl⟩ := hp.keep ⟨h0, by omega, hla⟩ (h.keeps hu)
  have h1 := h.put hk h.up (fun _ => rfl) h0 h80 hu2 hm
  refine ⟨rfl, rfl, rfl, ⟨h1.ok, h1.t, ⟨_, Lh.fput_self, rfl, rfl, ?_⟩, h1.up, h1.hi, h1.len⟩, rfl, rfl⟩
  have ht := h.t
  show now + 19 < now + (S.t : Int)
  omega
/-- a look at another -/
theorem KInv.look {z : ByteArray} {well tu : Bool} (h : KInv S key mine u m) (hl : LookR S z well S' tu c) (hne : z ≠ mine) : KInv S' key mine u m ∧ S'.la = S.la ∧ S'.ep = S.ep := by
  rcases hl with ⟨hx, _, _, rfl⟩ | ⟨_, _, _, rfl⟩
  · have hb := h.ok.look (s := z) (well := well) hx
    have hsub : (Lh.blook S z well S.hs[Lh.hix S.hs z]).L.Sublist S.L := by
      unfold Lh.blook
      simp only []
      split
      · exact List.filter_sublist
      · exact List.Sublist.refl _
    refine ⟨⟨hb, h.t, ?_, ?_, fun x hx => h.hi x (hsub.mem hx), Nat.le_trans hsub.length_le h.len⟩, rfl, rfl⟩
    · obtain ⟨x, hx, e1, e2, e3⟩ := h.has
      refine ⟨x, ?_, e1, e2, e3⟩
      unfold Lh.blook
      simp only []
      split
      · refine List.mem_filter.2 ⟨hx, ?_⟩
        have : ¬ x.2.1 = z := fun e => hne (e.symm.trans e2)
        simp [this]
      · exact hx
    · obtain ⟨x, hx1, e1, e2⟩ := Lh.hup_iff.1 h.up
      refine Lh.hup_iff.2 ⟨x, ?_, e1, e2⟩
      obtain ⟨j, hj, rfl⟩ := List.getElem_of_mem hx1
      have hjne : Lh.hix S.hs z ≠ j := fun e => by
        have h2 := Lh.hix_get hx
        simp only [e] at h2
        exact hne (h2.symm.trans e1)
      show S.hs[j] ∈ S.hs.set (Lh.hix S.hs z) _
      refine List.mem_iff_getElem?.2 ⟨j, ?_⟩
      rw [List.getElem?_set, if_neg hjne]
      exact List.getElem?_eq_getElem hj
  · exact ⟨h, rfl, rfl⟩
theorem KInv.drain {z : ByteArray} {is : Bool} (h : KInv S key mine u m) (hd : DrainR S z is S' c) : KInv S' key mine u m ∧ S'.la = S.la ∧ S'.ep = S.ep := by
  rcases hd with ⟨_, _, rfl⟩ | ⟨_, _, rfl⟩
  · exact ⟨⟨h.ok.drain _, h.t, h.has, h.up, h.hi, h.len⟩, rfl, rfl⟩
  · exact ⟨h, rfl, rfl⟩
/-- carried over to a new one -/
theorem KInv.over (h : KInv S key mine u m) (hm : m ≤ 200) (hup : mine ∈ five) {n : Nat} {pl : Int} (hi : ImportR (bnew0 five 31 20) (Lh.textL ((1 : Int)).toNat S.L) now S' n c pl) (h0 : 0 ≤ now) (h80 : now ≤ 80) (hu : now ≤ u) : c = 0 ∧ pl = -1 ∧ KInv S' key mine u m ∧ S'.la = now := by
  obtain ⟨_, hc, hpl, rfl⟩ := import_text h.ok (by decide) (by decide) hi (by show (0 : Int) ≤ 1; decide) ⟨h0, by omega, by show (0 : Int) ≤ now; omega⟩
  obtain ⟨M, hM⟩ : ∃ M, M = S.L.filter fun x => Lh.hup (bnew0 five 31 20).hs x.2.1 := ⟨_, rfl⟩
  rw [← hM]
  have hsM : M.Sublist S.L := by rw [hM]; exact List.filter_sublist
  have hfa : Lh.fadd now (bnew0 five 31 20).L M = M.filter fun x => decide (now < x.2.2) := fadd_all M [] (h.ok.ok.rise.sublist hsM) (by
    have := hsM.length_le
    have := h.len
    simp
    omega) fun x hx => by have := h.hi x (hsM.mem hx); omega
  rw [hfa]
  have hs2 : (M.filter fun x => decide (now < x.2.2)).Sublist S.L := List.filter_sublist.trans hsM
  have hb : Lh.BOk { bnew0 five 31 20 with ep := 1, la := now, L := M.filter fun x => decide (now < x.2.2) } := ⟨five_bok.h, five_bok.nm, h.ok.ok.sub hs2, fun x hx => h.ok.host x (hs2.mem hx), fun x hx => h.ok.hi x (hs2.mem hx), five_bok.t1, five_bok.t2, five_bok.prm, five_bok.s5, by show (0 : Int) ≤ 1; decide, by show (1 : Int) ≤ _; decide, h0, by show now ≤ _; omega⟩
  refine ⟨hc, hpl, ⟨hb, rfl, ?_, hup_new.2 hup, fun x hx => h.hi x (hs2.mem hx), Nat.le_trans hs2.length_le h.len⟩, rfl⟩
  obtain ⟨x, hx, e1, e2, e3⟩ := h.has
  refine ⟨x, List.mem_filter.2 ⟨?_, by simp; omega⟩, e1, e2, e3⟩
  rw [hM]
  refine List.mem_filter.2 ⟨hx, ?_⟩
  rw [e2]
  exact hup_new.2 hup
/-- the first pick -/
theorem kinv_first (hnwI : ∀ {xs : List ByteArray} {n : Nat} (k : Nat), xs ≠ [] → Lh.Prm n → nw xs n k ∈ xs) (hp : PickR nw (bnew0 five 31 20) key 0 S' s kept c) (hk : key < 18446744073709551616) : c = 0 ∧ s ∈ five ∧ KInv S' key s 19 1 ∧ S'.la = 0 ∧ S'.ep = 0 := by
  have hno : ∀ z, ¬ Lh.BKeeps (bnew0 five 31 20) key 0 z := fun z ⟨h, _⟩ => absurd h (by simp [bnew0])
  have ho : Lh.bopen (bnew0 five 31 20) ≠ [] := open_some (s := nA) (open_new.2 (by simp [five]))
  obtain ⟨rfl, _, rfl, rfl⟩ := hp.new ⟨by decide, by decide, by decide⟩ hno ho
  have hin := open_new.1 (hnwI (n := (bnew0 five 31 20).size) key ho prm31)
  have hup := hup_new.2 hin
  obtain ⟨hn, hsz⟩ := Lh.hup_nm five_bok hup
  refine ⟨rfl, hin, ⟨five_bok.put hk hn hsz (by decide) (by decide), rfl, ⟨_, Lh.fput_self, rfl, rfl, by show (19 : Int) < 0 + ((20 : Nat) : Int); decide⟩, hup, fun x hx => ?_, ?_⟩, rfl, rfl⟩
  · rcases Lh.fput_mem hx with rfl | hx
    · show 0 + ((20 : Nat) : Int) ≤ 100
      decide
    · exact absurd hx (by simp [bnew0])
  · have := Lh.fput_len (t := 20) (L := (bnew0 five 31 20).L) (k := key) (s := nw (Lh.bopen (bnew0 five 31 20)) (bnew0 five 31 20).size key) (now := 0)
    simpa [bnew0] using this
end
end Go.Proofs.YtmkdpchodeckgaaGreatDoor
