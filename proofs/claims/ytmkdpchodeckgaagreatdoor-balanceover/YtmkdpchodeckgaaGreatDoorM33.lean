/- The law BalanceFalls, over the landed package's contracts, where its numbers are right. -/
import Derived.Test.YtmkdpchodeckgaaGreatDoorM32
import Derived.Test.YtmkdpchodeckgaaGreatDoorM2
import Derived.Test.YtmkdpchodeckgaaGreatDoorM25
namespace Go.Proofs.YtmkdpchodeckgaaGreatDoor
open Go.RowKit

def four : List ByteArray := [nA, nB, nC, nD]
theorem four_fault : IsFault four 0 (-1) ∧ four.Nodup ∧ four.length ≤ 12 ∧ 0 < four.length ∧ (∀ s ∈ four, s.size ≤ 300) ∧ ∀ s ∈ four, Lh.isNm s = true := five_fault (Or.inr (Or.inr (Or.inl rfl)))
/-- the four hosts in memory -/
theorem four_strs (w : World) : Strs1 (w.alloc (.cells #[.string nA, .string nB, .string nC, .string nD] 9)) (.slice (some ⟨w.heap.size, 0, none⟩) 4 4) four := by
  refine Or.inr ⟨w.heap.size, 0, 4, rfl, by decide, fun k hk => ?_⟩
  have : k = 0 ∨ k = 1 ∨ k = 2 ∨ k = 3 := by simp [four] at hk; omega
  rcases this with rfl | rfl | rfl | rfl <;> simp [four]
theorem four_bok : Lh.BOk (bnew0 four 31 20) := by
  obtain ⟨_, hnd, hl, _, hsz, hnm⟩ := four_fault
  exact bok_new hl hnd hsz hnm prm31 (by decide) (by decide) (by decide)
/-- each key that was picked has a flow, with the host that was told -/
def Hass (S : Lh.Bl) (ks : List Nat) (ws : List ByteArray) : Prop := ∀ i (h1 : i < ks.length) (h2 : i < ws.length), HasF S ks[i] ws[i]

theorem four_len {q : Nat} (h : q < four.length) : (four[q]).size ≤ maxLen := by
  have := four_fault.2.2.2.2.1 _ (List.getElem_mem h)
  unfold maxLen
  omega
theorem hix_new {xs : List ByteArray} (hn : xs.Nodup) {q : Nat} (h : q < xs.length) : Lh.hix (Lh.hnew xs) xs[q] = q := by
  have h' : q < (Lh.hnew xs).length := by simpa [Lh.hnew] using h
  unfold Lh.hix
  rw [List.findIdx_eq h']
  refine ⟨by simp [Lh.hnew], fun j hj => ?_⟩
  have hjx : j < xs.length := by omega
  have : (Lh.hnew xs)[j] = (xs[j], true, 0) := by simp [Lh.hnew]
  rw [this]
  have := List.pairwise_iff_getElem.1 hn j q hjx h hj
  simpa using this
theorem hix_four {q : Nat} (h : q < four.length) : Lh.hix (Lh.hnew four) four[q] = q := hix_new four_fault.2.1 h
/-- a host that has fallen -/
def fell (q : Nat) : List Lh.Hh := (Lh.hnew four).set q (four.getD q ByteArray.empty, false, 0)
theorem nd_inj {xs : List ByteArray} (hn : xs.Nodup) {i j : Nat} (hi : i < xs.length) (hj : j < xs.length) (e : xs[i] = xs[j]) : i = j := by
  rcases Nat.lt_trichotomy i j with h | h | h
  · exact absurd e (List.pairwise_iff_getElem.1 hn i j hi hj h)
  · exact h
  · exact absurd e.symm (List.pairwise_iff_getElem.1 hn j i hj hi h)
theorem fell_up {q : Nat} (h : q < four.length) {z : ByteArray} : Lh.hup (fell q) z = true ↔ z ∈ four ∧ z ≠ four[q] := by
  have hl : (fell q).length = four.length := by simp [fell, Lh.hnew]
  have hget : ∀ j (hj : j < four.length), (fell q)[j]? = some (four[j], decide (j ≠ q), 0) := fun j hj => by
    unfold fell
    rw [List.getElem?_set]
    by_cases e : q = j
    · subst e
      simp [List.getD, h, Lh.hnew]
    · have e' : j ≠ q := fun x => e x.symm
      rw [if_neg e]
      simp [Lh.hnew, hj, e']
  rw [Lh.hup_iff]
  constructor
  · rintro ⟨x, hx, rfl, hu⟩
    obtain ⟨j, hj, e⟩ := List.mem_iff_getElem?.1 hx |>.imp fun j hj => (⟨by have := (List.getElem?_eq_some_iff.1 hj).1; omega, hj⟩ : j < four.length ∧ (fell q)[j]? = some x)
    rw [hget j hj] at e
    obtain rfl := Option.some.inj e
    have hjq : j ≠ q := by simpa using hu
    exact ⟨List.getElem_mem _, fun e => hjq (nd_inj four_fault.2.1 hj h e)⟩
  · rintro ⟨h1, h2⟩
    obtain ⟨j, hj, rfl⟩ := List.getElem_of_mem h1
    have hjq : j ≠ q := fun e => h2 (by subst e; rfl)
    exact ⟨_, List.mem_iff_getElem?.2 ⟨j, hget j hj⟩, rfl, by simpa using hjq⟩
theorem look_fall {S S' : Lh.Bl} {q : Nat} {tu : Bool} {c : Nat} (hA : Alike (bnew0 four 31 20) S) (hok : Lh.BOk S) (hq : q < four.length) (h : LookR S four[q] false S' tu c) :
    c = 0 ∧ tu = true ∧ S'.hs = fell q ∧ S'.L = Lh.fdrop S.L four[q] ∧ S'.dr = [] ∧ S'.t = 20 ∧ S'.la = S.la ∧ S'.size = 31 ∧ Lh.BOk S' := by
  have hhs : S.hs = Lh.hnew four := hA.hs
  have hx : Lh.hix S.hs four[q] < S.hs.length := by rw [hhs, hix_four hq]; simpa [Lh.hnew] using hq
  rcases h with ⟨h, htu, hc, rfl⟩ | ⟨h, _⟩
  case inr => exact absurd hx h
  have hg : S.hs[Lh.hix S.hs four[q]] = (four[q], true, 0) := by
    simp only [hhs, hix_four hq]
    simp [Lh.hnew]
  have hlk : Lh.hlook S.f S.r (four[q], true, 0) false = ((four[q], false, 0), true) := by
    have hf : S.f = 1 := hA.f
    have hr : S.r = 1 := hA.r
    rw [hf, hr]
    simp [Lh.hlook, Lh.hedge]
  have hb := hok.look (s := four[q]) (well := false) h
  rw [hg] at htu hb ⊢
  rw [hlk] at htu
  refine ⟨hc, htu, ?_, ?_, hA.dr, hA.t, rfl, hA.size, hb⟩
  · unfold Lh.blook fell
    rw [hlk]
    simp only [hhs, hix_four hq]
    congr 1
    simp [List.getD, hq]
  · unfold Lh.blook
    rw [hlk]
    simp
theorem BInv.fallen {S S' : Lh.Bl} {q m : Nat} {u : Int} (h : BInv S u m) (hq : q < four.length) (hs : S'.hs = fell q) (hl : S'.L = Lh.fdrop S.L four[q]) (hok : Lh.BOk S') (hall : ∀ x ∈ S.L, x.2.1 ∈ four) : BInv S' u m := by
  have hsub : S'.L.Sublist S.L := by rw [hl]; exact List.filter_sublist
  refine ⟨hok, fun x hx => h.un x (hsub.mem hx), fun x hx => ?_, Nat.le_trans hsub.length_le h.len⟩
  rw [hs, fell_up hq]
  refine ⟨hall x (hsub.mem hx), fun e => ?_⟩
  rw [hl] at hx
  have := (List.mem_filter.1 hx).2
  simp [e] at this
theorem BInv.infour {S : Lh.Bl} {m : Nat} {u : Int} (h : BInv S u m) (hA : Alike (bnew0 four 31 20) S) : ∀ x ∈ S.L, x.2.1 ∈ four := fun x hx => by
  have := h.up x hx
  rw [show S.hs = Lh.hnew four from hA.hs] at this
  exact hup_new.1 this

theorem names_own {w : World} {base : Nat} {v : Value} {ws : List ByteArray} (h : w.ownsRow base 9 1 v ws.length (ws.map Value.string)) (h0 : 0 < ws.length) : ∃ g cap, v = .slice (some ⟨g, 0, none⟩) ws.length cap ∧ ∀ j (hj : j < ws.length), w.cell? ⟨g, j, none⟩ = some (.string ws[j]) := by
  obtain ⟨hl, ⟨rfl, h'⟩ | ⟨g, cap, cur, rfl, hbase, hb, hn, hm, hsz, ht⟩⟩ := h
  · omega
  · refine ⟨g, cap, rfl, fun k hk => ?_⟩
    have hk' : (cur.toList.take (ws.length * 1))[k]? = some (.string ws[k]) := by rw [ht]; simp [hk]
    rw [List.getElem?_take_of_lt (by omega)] at hk'
    simp only [World.cell?, hb]
    simpa using hk'
theorem fell_open {S : Lh.Bl} {q : Nat} (hq : q < four.length) (hs : S.hs = fell q) (hd : S.dr = []) : Lh.bopen S ≠ [] := by
  have : ∃ z ∈ four, z ≠ four[q] := by
    by_cases e : q = 0
    · subst e
      exact ⟨nB, by simp [four], by simp [four, nA, nB]⟩
    · exact ⟨four[0], by simp [four], fun e' => e (nd_inj four_fault.2.1 (by simp [four]) hq e').symm⟩
  obtain ⟨z, h1, h2⟩ := this
  refine open_some (s := z) (Lh.bopen_mem.2 ⟨?_, by rw [hd]; simp⟩)
  rw [hs]
  exact (fell_up hq).2 ⟨h1, h2⟩

set_option maxRecDepth 100000 in
set_option maxHeartbeats 8000000 in
theorem falls_core (hC : BalanceC) (a : Nat → Addr) (op : Option Addr) (oc : Nat) (ks : List Nat) (q : Nat) (w : World) (he : hC.E a w) (hl : ks.length ≤ 60) (hq : q ≤ 3) (ho : ∀ k (h : k < ks.length), ∃ b o, op = some ⟨b, o, none⟩ ∧ w.cell? ⟨b, o + k, none⟩ = some (.int .u64 (ks[k] : Nat))) (hoz : ∀ z ∈ ks, z < 18446744073709551616) :
    Calls Tryz.prog 3 #[.slice op ks.length oc, .int .i64 (q : Nat)] w fun e w' => e = .returned (.bool true) ∧ Below w.heap.size w w' := by
  have HE : Hid (hC.E a w) := he
  have HO : Hid (∀ k (h : k < ks.length), ∃ b o, op = some ⟨b, o, none⟩ ∧ w.cell? ⟨b, o + k, none⟩ = some (.int .u64 (ks[k] : Nat))) := ho
  have HZ : Hid (∀ z ∈ ks, z < 18446744073709551616) := hoz
  obtain ⟨i0, hi0, hz0, hz1, hz2⟩ := info_parts infoS
  have hbl := balanced_any hC a w he
  have d1 : decide (60 < (ks.length : Int)) = false := by simp; omega
  have d2 : decide ((q : Int) < 0) = false := by simp
  have d3 : decide (3 < (q : Int)) = false := by simp; omega
  clear he ho hoz
  go_enter Tryz.func3, Tryz.ntmps3
  go_wp2_with fail
  refine hbl.mono ?_
  rintro e w1 ⟨rfl, hb1⟩
  have hb2 : Below w1.heap.size w1 (w1.alloc (.cells #[.string nA, .string nB, .string nC, .string nD] 9)) := (Below.refl _ _).alloc (Nat.le_refl _) _
  have hbw2 := below_then hb1 hb2
  obtain ⟨hf, hnd, hlx, h0, hsz, hnm⟩ := four_fault
  have hnew := hC.newG a _ four 31 20 1 1 _ (hC.eLater HE.out hbw2) (four_strs w1) h0 hf hsz prm31 (by decide) (by decide) (by decide) (by decide) (by decide) (by decide) (by decide)
  have HST : Hid (∀ k (h : k < four.length), (w1.alloc (.cells #[.string nA, .string nB, .string nC, .string nD] 9)).cell? ⟨w1.heap.size, k, none⟩ = some (.string four[k])) := fun k hk => by
    have : k = 0 ∨ k = 1 ∨ k = 2 ∨ k = 3 := by simp [four] at hk; omega
    rcases this with rfl | rfl | rfl | rfl <;> simp [four]
  have hw1 : w1.heap.size < (w1.alloc (.cells #[.string nA, .string nB, .string nC, .string nD] 9)).heap.size := by simp
  clear hbl hb1 hb2 hf hnd hlx h0 hsz hnm
  have e1 : (w1.alloc (.cells #[.string nA, .string nB, .string nC, .string nD] 9)) = w1.alloc (.cells #[.string ⟨#[97]⟩, .string ⟨#[98]⟩, .string ⟨#[99]⟩, .string ⟨#[100]⟩] 9) := rfl
  rw [e1] at hnew hbw2 HST hw1
  go_wp2_with fail
  clear e1
  generalize w1.alloc (.cells #[.string ⟨#[97]⟩, .string ⟨#[98]⟩, .string ⟨#[99]⟩, .string ⟨#[100]⟩] 9) = w2 at *
  refine hnew.mono ?_
  rintro e w3 ⟨p, F, rfl, hR, hF, hb3⟩
  have HPL : Hid (PL hC w2.heap.size w2 w3 (bnew0 four 31 20) F p (.slice none 0 0) []) := ⟨Nat.le_refl _, hb3, hR, hF, World.ownsRow_nil _ _ _ _, fun b _ h => by cases h⟩
  have HB2 : Hid (Below w.heap.size w w2) := hbw2
  clear hnew hR hF hb3 hbw2
  go_wp2_with fail
  go_loopw [9, 10] (fun v u W => ∃ (i : Nat) (S : Lh.Bl) (F : Nat → Prop) (ws : List ByteArray), i ≤ ks.length ∧ u = .int .i64 (i : Nat) ∧ ws.length = i ∧ PL hC w2.heap.size w2 W S F p v ws ∧ BInv S 19 i ∧ Alike (bnew0 four 31 20) S ∧ S.la = 0 ∧ Hass S ks ws) (fun _ u _ => ks.length - (intOf u).toNat)
  case atStart => exact ⟨0, _, F, [], Nat.zero_le _, rfl, rfl, HPL.out, binv_new four_bok 19 0, Alike.refl _, rfl, fun i _ h => absurd h (by simp)⟩
  case round =>
    clear HPL
    obtain ⟨i, S, F, ws, hi, rfl, hws, hPL, hI, hA, hla, hH⟩ := hrel
    obtain ⟨wo, hwo⟩ : ∃ wo, wo = wr := ⟨_, rfl⟩
    subst hwo
    have HPL : Hid (PL hC w2.heap.size w2 wo S F p u9 ws) := hPL
    have HI : Hid (BInv S 19 i) := hI
    have HA : Hid (Alike (bnew0 four 31 20) S) := hA
    have HLA : Hid (S.la = 0) := hla
    have HH : Hid (Hass S ks ws) := hH
    have HW : Hid (ws.length = i) := hws
    have hbw : Below w.heap.size w wo := below_then HB2.out hPL.below
    by_cases hlt : i < ks.length
    · have hki : (i : Int) < (ks.length : Int) := by omega
      obtain ⟨b, o, rfl, ck⟩ := HO.out i hlt
      replace ck := below_cell hbw ck
      have hkz := HZ.out _ (List.getElem_mem hlt)
      have hp := bpickT hC (hC.eLater HE.out hbw) hPL.rep hI ks[i] hkz 0 ⟨by decide, by decide, by rw [hla]; decide⟩ (by decide) (by rw [hA.t]; decide) (by omega) (open_one hA (s := nA) (by simp [four]))
      clear hPL hI hA hla hH hws
      have HKI : Hid (∀ h : i < ks.length, ks[i] = ks[i]) := fun _ => rfl
      generalize hkk : ks[i] = kk at *
      have HKK : Hid (ks[i] = kk) := hkk
      clear hkk HKI
      go_wp2_with fail
      refine hp.mono ?_
      rintro e w4 ⟨F4, S4, s4, kept4, rfl, hR4, hI4, hA4, hla4, hH4, hk4, hup4, hz4, hd4, hn4, hL4, hF4, hT4⟩
      have hPL4 := HPL.out.turned hR4 hF4 hT4
      have HPL4 : Hid (PL hC w2.heap.size w2 w4 S4 F4 p u9 ws) := hPL4
      have HI4 : Hid (BInv S4 19 (i + 1)) := hI4
      have HA4 : Hid (Alike (bnew0 four 31 20) S4) := HA.out.trans hA4
      have HLA4 : Hid (S4.la = 0) := hla4
      have HH4 : Hid (Hass S4 ks (ws ++ [s4])) := fun j h1 h2 => by
        by_cases e : j < ws.length
        · rw [List.getElem_append_left e]
          exact hk4 _ _ (HH.out j h1 e)
        · have e' : j = i := by have := HW.out; simp at h2; omega
          subst e'
          have hws := HW.out
          rw [HKK.out]
          have : (ws ++ [s4])[j]'h2 = s4 := by
            rw [List.getElem_append_right (by omega)]
            simp
          rw [this]
          exact hH4
      have own4 := hPL4.own.alloc (.cells #[.string s4] 9)
      have hmx : ws.length + 1 ≤ maxLen := by have := HW.out; unfold maxLen; omega
      have hby : (ws.length + 1) * 16 ≤ 140737488355328 := by have := HW.out; omega
      have hbs : w2.heap.size ≤ (w4.alloc (.cells #[.string s4] 9)).heap.size := Nat.le_trans hPL4.size (by simp)
      have hsz4 : (w4.alloc (.cells #[.string s4] 9)).heap.size = w4.heap.size + 1 := by simp
      have hnews : ∀ j u, [Value.string s4][j]? = some u → (w4.alloc (.cells #[.string s4] 9)).cell? ((⟨w4.heap.size, 0, none⟩ : Addr).add j) = some u := fun j u hu => by
        match j with
        | 0 => simp at hu; subst hu; simp [Addr.add]
        | j + 1 => simp at hu
      clear hp hR4 hI4 hA4 hla4 hH4 hk4 hup4 hz4 hd4 hn4 hL4 hF4 hT4 hPL4 ck hbw
      go_wp2_with (at_builtin; refine wpList_append_lies _ rfl _ _ 24 rfl w2.heap.size 9 i0 _ 1 16 Tryz.underlying24 hi0 hz0 hz1 hz2 rfl (by decide) u9 ws.length (ws.map Value.string) rfl own4 ⟨w4.heap.size, 0, none⟩ 1 1 [.string s4] rfl rfl hnews (fun u hu => by simp at hu; subst hu; rfl) (by decide) hmx hby hbs (w4.heap.size + 1) hsz4 ?_; intro g cap w5 hown5 hgr5 hor5 hlt5)
      have hln : (ws ++ [s4]).length = i + 1 := by have := HW.out; simp; omega
      exact ⟨⟨i + 1, S4, F4, ws ++ [s4], by omega, by go_num, hln, HPL4.out.pushed hown5 hgr5 hor5, HI4.out, HA4.out, HLA4.out, HH4.out⟩, by simp [intOf]; omega⟩
    · obtain rfl : i = ks.length := by omega
      have hqf : q < four.length := by simp [four]; omega
      have ch := HST.out q hqf
      replace ch := below_cell hPL.below ch
      have hlk := hC.look a S F p four[q] false wo (hC.eLater HE.out hbw) hPL.rep hI.ok (four_len hqf)
      have hqi : (q : Int) < 4 := by omega
      obtain ⟨fa, hfa⟩ : ∃ fa, four[q] = fa := ⟨_, rfl⟩
      rw [hfa] at ch hlk
      have HFA : Hid (four[q] = fa) := hfa
      clear hPL hI hA hla hH hws hfa
      go_wp2_with fail
      refine hlk.mono ?_
      rintro e w4 ⟨F4, S4, tu4, c4, ev4, hF4, hT4, rfl, hev4, hL4, hR4⟩
      obtain ⟨rfl, rfl, hs4, hl4, hd4, ht4, hla4, hsz4, hok4⟩ := look_fall HA.out HI.out.ok hqf (by rw [HFA.out]; exact hL4)
      obtain rfl := evOf_nil hev4
      have hPL4 := HPL.out.turned hR4 hF4 hT4
      have hI4 := HI.out.fallen hqf hs4 hl4 hok4 (HI.out.infour HA.out)
      have HPL4 : Hid (PL hC w2.heap.size w2 w4 S4 F4 p u9 ws) := hPL4
      have HI4 : Hid (BInv S4 19 ks.length) := hI4
      have HS4 : Hid (S4.hs = fell q ∧ S4.dr = [] ∧ S4.t = 20 ∧ S4.size = 31 ∧ S4.la = 0) := ⟨hs4, hd4, ht4, hsz4, hla4.trans HLA.out⟩
      have HH4 : Hid (∀ j (h1 : j < ks.length) (h2 : j < ws.length), ws[j] ≠ fa → HasF S4 ks[j] ws[j]) := fun j h1 h2 hne => by
        obtain ⟨x, hx, e1, e2⟩ := HH.out j h1 h2
        refine ⟨x, ?_, e1, e2⟩
        rw [hl4]
        refine List.mem_filter.2 ⟨hx, ?_⟩
        rw [HFA.out, e2]
        simpa using hne
      clear hlk hF4 hT4 hL4 hR4 hev4 hs4 hl4 hd4 ht4 hla4 hsz4 hok4 hPL4 hI4 HPL HI HA HLA HH ch hbw
      go_wp2_with fail
      go_loopw [15] (fun u W => ∃ (i : Nat) (S : Lh.Bl) (F : Nat → Prop), i ≤ ks.length ∧ u = .int .i64 (i : Nat) ∧ PL hC w2.heap.size w2 W S F p u9 ws ∧ BInv S 19 (ks.length + i) ∧ (S.hs = fell q ∧ S.dr = [] ∧ S.t = 20 ∧ S.size = 31) ∧ (0 ≤ S.la ∧ S.la ≤ 1) ∧ ∀ j (h1 : j < ks.length) (h2 : j < ws.length), ws[j] ≠ fa → HasF S ks[j] ws[j]) (fun u _ => ks.length - (intOf u).toNat)
      case atStart => exact ⟨0, S4, F4, Nat.zero_le _, rfl, HPL4.out, HI4.out, ⟨HS4.out.1, HS4.out.2.1, HS4.out.2.2.1, HS4.out.2.2.2.1⟩, by rw [HS4.out.2.2.2.2]; decide, HH4.out⟩
      case round =>
        clear HPL4 HI4 HS4 HH4
        obtain ⟨i, S5, F5, hi, rfl, hPL, hI, hS, hla, hH⟩ := hrel
        obtain ⟨wo, hwo⟩ : ∃ wo, wo = wr := ⟨_, rfl⟩
        subst hwo
        have HPL : Hid (PL hC w2.heap.size w2 wo S5 F5 p u9 ws) := hPL
        have hbw : Below w.heap.size w wo := below_then HB2.out hPL.below
        by_cases hlt : i < ks.length
        · have hki : (i : Int) < (ks.length : Int) := by omega
          obtain ⟨b, o, rfl, ck⟩ := HO.out i hlt
          replace ck := below_cell hbw ck
          have hkz := HZ.out _ (List.getElem_mem hlt)
          have hp := bpickT hC (hC.eLater HE.out hbw) hPL.rep hI ks[i] hkz 1 ⟨by decide, by decide, by omega⟩ (by decide) (by rw [hS.2.2.1]; decide) (by omega) (fell_open hqf hS.1 hS.2.1)
          have HS5 : Hid (S5.hs = fell q ∧ S5.dr = [] ∧ S5.t = 20 ∧ S5.size = 31) := hS
          have HH5 : Hid (∀ j (h1 : j < ks.length) (h2 : j < ws.length), ws[j] ≠ fa → HasF S5 ks[j] ws[j]) := hH
          clear hPL hI hS hla hH
          obtain ⟨kk, hkk⟩ : ∃ kk, ks[i] = kk := ⟨_, rfl⟩
          have HKK : Hid (ks[i] = kk) := hkk
          rw [hkk] at ck hp hkz
          clear hkk
          go_wp2_with fail
          refine hp.mono ?_
          rintro e w6 ⟨F6, S6, s6, kept6, rfl, hR6, hI6, hA6, hla6, hH6, hk6, hup6, hz6, hd6, hn6, hL6, hF6, hT6⟩
          have hPL6 := HPL.out.turned hR6 hF6 hT6
          have hne6 : s6 ≠ fa := by
            rw [HS5.out.1, fell_up hqf, HFA.out] at hup6
            exact hup6.2
          have hwl : i < ws.length := by have := HW.out; omega
          have hsame : ws[i] ≠ fa → s6 = ws[i] := fun hne => by
            have := HH5.out i hlt hwl hne
            rw [HKK.out] at this
            exact (hz6 _ this).1
          have HREL : Hid (∀ W', Below w6.heap.size w6 W' → ∃ (i' : Nat) (S : Lh.Bl) (F : Nat → Prop), i' ≤ ks.length ∧ Value.int .i64 ((i : Int) + 1) = .int .i64 (i' : Nat) ∧ PL hC w2.heap.size w2 W' S F p u9 ws ∧ BInv S 19 (ks.length + i') ∧ (S.hs = fell q ∧ S.dr = [] ∧ S.t = 20 ∧ S.size = 31) ∧ (0 ≤ S.la ∧ S.la ≤ 1) ∧ ∀ j (h1 : j < ks.length) (h2 : j < ws.length), ws[j] ≠ fa → HasF S ks[j] ws[j]) :=
            fun W' hW' => ⟨i + 1, S6, F6, by omega, by go_num, hPL6.later hW', hI6, ⟨hA6.hs.trans HS5.out.1, hA6.dr.trans HS5.out.2.1, hA6.t.trans HS5.out.2.2.1, hA6.size.trans HS5.out.2.2.2⟩, by rw [hla6]; decide, fun j h1 h2 hne => hk6 _ _ (HH5.out j h1 h2 hne)⟩
          obtain ⟨g, cap, rfl, hcells⟩ := names_own hPL6.own (by omega)
          have cw := hcells i hwl
          have ch : w6.cell? ⟨w1.heap.size, q, none⟩ = some (.string fa) := by
            have := HST.out q hqf
            rw [HFA.out] at this
            exact below_cell hPL6.below this
          have hwi : (i : Int) < (ws.length : Int) := by omega
          have d6 : (s6.toList == fa.toList) = false := bytes_parts hne6
          clear hp hR6 hI6 hA6 hla6 hH6 hk6 hup6 hz6 hd6 hn6 hL6 hF6 hT6 hPL6 hcells ck hbw
          obtain ⟨wi, hwi'⟩ : ∃ wi, ws[i] = wi := ⟨_, rfl⟩
          rw [hwi'] at cw hsame
          clear hwi'
          by_cases hf : wi = fa
          · have d7 : (wi.toList == fa.toList) = true := bytes_same hf
            clear hf hsame
            go_wp2_with fail
            go_quiet (fail)
            go_wp2
            exact ⟨HREL.out _ (below_drewN (Below.refl _ _) nq), by simp [intOf]; omega⟩
          · have d7 : (wi.toList == fa.toList) = false := bytes_parts hf
            have d8 : (s6.toList == wi.toList) = true := bytes_same (hsame hf)
            clear hf hsame
            go_wp2_with fail
            go_quiet (fail)
            go_wp2
            exact ⟨HREL.out _ (below_drewN (Below.refl _ _) nq), by simp [intOf]; omega⟩
        · obtain rfl : i = ks.length := by omega
          clear hPL hI hS hla hH
          go_wp2
          go_ret
          exact ⟨rfl, hbw⟩
end Go.Proofs.YtmkdpchodeckgaaGreatDoor

/- The law BalanceOver, over the landed package's contracts, where its numbers are right. -/
namespace Go.Proofs.YtmkdpchodeckgaaGreatDoor
open Go.RowKit

def three : List ByteArray := [nA, nB, nC]
theorem three_fault : IsFault three 0 (-1) ∧ three.Nodup ∧ three.length ≤ 12 ∧ 0 < three.length ∧ (∀ s ∈ three, s.size ≤ 300) ∧ ∀ s ∈ three, Lh.isNm s = true := five_fault (Or.inr (Or.inl rfl))
theorem three_bok : Lh.BOk (bnew0 three 13 20) := by
  obtain ⟨_, hnd, hl, _, hsz, hnm⟩ := three_fault
  exact bok_new hl hnd hsz hnm prm13 (by decide) (by decide) (by decide)
theorem three_strs (w : World) : Strs1 (w.alloc (.cells #[.string nA, .string nB, .string nC] 9)) (.slice (some ⟨w.heap.size, 0, none⟩) 3 3) three := by
  refine Or.inr ⟨w.heap.size, 0, 3, rfl, by decide, fun k hk => ?_⟩
  have : k = 0 ∨ k = 1 ∨ k = 2 := by simp [three] at hk; omega
  rcases this with rfl | rfl | rfl <;> simp [three]
theorem while_all {p : Lh.Fl → Bool} : ∀ {L : List Lh.Fl}, (∀ y ∈ L, p y = true) → L.takeWhile p = L ∧ L.dropWhile p = []
  | [], _ => ⟨rfl, rfl⟩
  | x :: L, h => by
    obtain ⟨e1, e2⟩ := while_all (L := L) fun y hy => h y (by simp [hy])
    have hx := h x (by simp)
    rw [List.takeWhile_cons, List.dropWhile_cons, hx]
    simp [e1, e2]
/-- laid in behind all -/
theorem flay_last {L : List Lh.Fl} {x : Lh.Fl} (h : ∀ y ∈ L, y.1 < x.1) : Lh.flay x L = L ++ [x] := by
  unfold Lh.flay
  obtain ⟨e1, e2⟩ := while_all (p := fun y : Lh.Fl => decide (y.1 < x.1)) fun y hy => by simpa using h y hy
  rw [e1, e2]
/-- what is carried over to one that has nothing: all that is not gone -/
theorem fadd_all {now : Int} : ∀ (l M : List Lh.Fl), (M ++ l).Pairwise (fun x y => x.1 < y.1) → (M ++ l).length ≤ 200 → (∀ x ∈ l, x.2.2 ≤ now + 1000) → Lh.fadd now M l = M ++ l.filter fun x => decide (now < x.2.2)
  | [], M, _, _, _ => by simp [Lh.fadd]
  | x :: l, M, hp, hl, hu => by
    show Lh.fadd now (Lh.fadd1 now M x) l = _
    have hlt : ∀ y ∈ M, y.1 < x.1 := fun y hy => (List.pairwise_append.1 hp).2.2 y hy x (by simp)
    have hfx : ¬ Lh.fix M x.1 < M.length := fun h => by
      obtain ⟨y, hy, e⟩ := Lh.fix_lt.1 h
      have := hlt y hy
      omega
    have hux := hu x (by simp)
    have hlen : M.length < 200 := by simp at hl; omega
    by_cases hg : now < x.2.2
    · have e : Lh.fadd1 now M x = M ++ [x] := by
        unfold Lh.fadd1
        rw [if_neg (by omega), flay_last hlt]
      rw [e, fadd_all l (M ++ [x]) (by simpa using hp) (by simpa using hl) (fun y hy => hu y (by simp [hy]))]
      simp [hg]
    · have e : Lh.fadd1 now M x = M := by
        unfold Lh.fadd1
        rw [if_pos (Or.inr (Or.inl (by omega)))]
      have hsub : (M ++ l).Sublist (M ++ x :: l) := List.Sublist.append_left (List.sublist_cons_self _ _) _
      rw [e, fadd_all l M (hp.sublist hsub) (Nat.le_trans hsub.length_le hl) (fun y hy => hu y (by simp [hy]))]
      simp [hg]
/-- two balances -/
structure TwoB (hC : BalanceC) (B : Nat) (w W : World) (S T : Lh.Bl) (F G : Nat → Prop) (p q : Nat) : Prop where
  hB : B ≤ w.heap.size
  below : Below B w W
  one : hC.Rep S F p W
  two : hC.Rep T G q W
  fb : ∀ b, F b → B ≤ b
  gb : ∀ b, G b → B ≤ b
  apart : ∀ b, F b → ¬ G b
section
variable {hC : BalanceC} {B : Nat} {w W W' : World} {S S' T T' : Lh.Bl} {F F' G G' : Nat → Prop} {p q : Nat}
theorem TwoB.size (h : TwoB hC B w W S T F G p q) : B ≤ W.heap.size := Nat.le_trans h.hB h.below.size
theorem TwoB.swap (h : TwoB hC B w W S T F G p q) : TwoB hC B w W T S G F q p := ⟨h.hB, h.below, h.two, h.one, h.gb, h.fb, fun b hg hf => h.apart b hf hg⟩
theorem TwoB.turned (h : TwoB hC B w W S T F G p q) (hR : hC.Rep S' F' p W') (hF : ∀ b, F' b → F b ∨ W.heap.size ≤ b) (hT : Tur F W W') : TwoB hC B w W' S' T F' G p q := by
  refine ⟨h.hB, hT.below h.fb h.below h.hB, hR, hC.stay h.two hT.size fun b hb => hT.block b (hC.lt h.two b hb) fun hf => h.apart b hf hb, fun b hb => ?_, h.gb, fun b hb hg => ?_⟩
  · rcases hF b hb with h1 | h1
    · exact h.fb b h1
    · exact Nat.le_trans h.size h1
  · rcases hF b hb with h1 | h1
    · exact h.apart b h1 hg
    · have := hC.lt h.two b hg
      omega
theorem TwoB.later (h : TwoB hC B w W S T F G p q) (hb : Below W.heap.size W W') : TwoB hC B w W' S T F G p q :=
  h.turned (hC.later h.one hb) (fun _ hf => Or.inl hf) (Tur.of_below hb)
end
theorem goodF_of {S : Lh.Bl} (h : Lh.BOk S) : ∀ j, ∀ hj : j < S.L.length, GoodF S.L j hj := by
  intro j hj
  have hm := List.getElem_mem hj
  refine ⟨h.host _ hm, h.ok.lo _ hm, h.hi _ hm, fun i hi hlt e => ?_⟩
  have := List.pairwise_iff_getElem.1 h.ok.rise i j hi hj hlt
  omega
theorem caF_of {S : Lh.Bl} (h : Lh.BOk S) {e : Int} (h0 : 0 ≤ e) (h1 : e ≤ 1099511627776) : CaF e S.L 0 (-1) := Or.inr (Or.inr ⟨⟨h0, h1, h.ok.len⟩, goodF_of h, rfl, rfl⟩)
theorem keyIn_of {S : Lh.Bl} (h : Lh.BOk S) : KeyIn S.L := fun x hx => h.ok.key x hx
/-- what was written is read -/
theorem import_text {S T T' : Lh.Bl} (h : Lh.BOk S) {e : Int} (h0 : 0 ≤ e) (h1 : e ≤ 1099511627776) {now : Int} {n c : Nat} {pl : Int} (hi : ImportR T (Lh.textL e.toNat S.L) now T' n c pl) (he : T.ep ≤ e) (ht : TickOk T.la now) :
    n = (Lh.fadd now T.L (S.L.filter fun x => Lh.hup T.hs x.2.1)).length - T.L.length ∧ c = 0 ∧ pl = -1 ∧ T' = { T with ep := e, la := now, L := Lh.fadd now T.L (S.L.filter fun x => Lh.hup T.hs x.2.1) } := by
  obtain ⟨e', l, c0, pl0, hr, hc⟩ := hi
  have hr' : ReadF (Lh.textL e.toNat S.L) e S.L 0 (-1) := read_text (caF_of h h0 h1) (keyIn_of h)
  obtain ⟨rfl, rfl, rfl, rfl⟩ := readF_one hr hr'
  rcases hc with ⟨h, _⟩ | ⟨_, h, _⟩ | ⟨_, _, j, h, _⟩ | ⟨_, _, _, h1, h2, h3, h4⟩
  · exact absurd rfl h
  · omega
  · exact (ok_not ht h).elim
  · exact ⟨h1, h2, h3, h4⟩
end Go.Proofs.YtmkdpchodeckgaaGreatDoor
