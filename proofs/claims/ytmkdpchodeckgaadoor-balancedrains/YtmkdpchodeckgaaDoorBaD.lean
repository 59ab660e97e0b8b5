/- The law BalanceDrains, over the landed package's contracts, where its numbers are right. -/
import Derived.Test.YtmkdpchodeckgaaDoorM48
namespace Go.Proofs.YtmkdpchodeckgaaDoor
open Go.RowKit

theorem four_hix {q : Nat} (h : q < four.length) : Lh.hix (Lh.hnew four) four[q] < (Lh.hnew four).length := by
  rw [hix_four h]
  simpa [Lh.hnew] using h
/-- a host that is drained -/
theorem drain_one {S S' : Lh.Bl} {q c : Nat} (hA : Alike (bnew0 four 31 20) S) (hok : Lh.BOk S) (hq : q < four.length) (h : DrainR S four[q] true S' c) :
    c = 0 ∧ S'.hs = Lh.hnew four ∧ S'.L = S.L ∧ S'.dr = [four[q]] ∧ S'.t = 20 ∧ S'.la = S.la ∧ S'.size = 31 ∧ Lh.BOk S' := by
  have hhs : S.hs = Lh.hnew four := hA.hs
  have hdr : S.dr = [] := hA.dr
  rcases h with ⟨_, hc, rfl⟩ | ⟨h, _⟩
  · exact ⟨hc, hhs, rfl, by simp [hdr, Lh.bdrain], hA.t, rfl, hA.size, hok.drain _⟩
  · rw [hhs] at h
    exact absurd (four_hix hq) h
theorem drained_open {S : Lh.Bl} {q : Nat} (hq : q < four.length) (hs : S.hs = Lh.hnew four) (hd : S.dr = [four[q]]) : Lh.bopen S ≠ [] := by
  have : ∃ z ∈ four, z ≠ four[q] := by
    by_cases e : q = 0
    · subst e
      exact ⟨nB, by simp [four], by simp [four, nA, nB]⟩
    · exact ⟨four[0], by simp [four], fun e' => e (nd_inj four_fault.2.1 (by simp [four]) hq e').symm⟩
  obtain ⟨z, h1, h2⟩ := this
  refine open_some (s := z) (Lh.bopen_mem.2 ⟨?_, by rw [hd]; simpa using h2⟩)
  rw [hs]
  exact hup_new.2 h1
theorem BInv.alike {S S' : Lh.Bl} {u : Int} {m : Nat} (h : BInv S u m) (hok : Lh.BOk S') (hl : S'.L = S.L) (hs : S'.hs = S.hs) : BInv S' u m := ⟨hok, by rw [hl]; exact h.un, by rw [hl, hs]; exact h.up, by rw [hl]; exact h.len⟩

set_option maxRecDepth 100000 in
set_option maxHeartbeats 8000000 in
theorem drains_core (hC : BalanceC) (a : Nat → Addr) (op fp : Option Addr) (oc fc : Nat) (ks fs : List Nat) (q : Nat) (w : World) (he : hC.E a w) (hl : ks.length ≤ 60) (hfl : fs.length ≤ 60) (hq : q ≤ 3) (ho : ∀ k (h : k < ks.length), ∃ b o, op = some ⟨b, o, none⟩ ∧ w.cell? ⟨b, o + k, none⟩ = some (.int .u64 (ks[k] : Nat))) (hoz : ∀ z ∈ ks, z < 18446744073709551616) (hfo : ∀ k (h : k < fs.length), ∃ b o, fp = some ⟨b, o, none⟩ ∧ w.cell? ⟨b, o + k, none⟩ = some (.int .u64 (fs[k] : Nat))) (hfz : ∀ z ∈ fs, z < 18446744073709551616) :
    Calls Tryd.prog 3 #[.slice op ks.length oc, .slice fp fs.length fc, .int .i64 (q : Nat)] w fun e w' => e = .returned (.bool true) ∧ Below w.heap.size w w' := by
  have HE : Hid (hC.E a w) := he
  have HO : Hid (∀ k (h : k < ks.length), ∃ b o, op = some ⟨b, o, none⟩ ∧ w.cell? ⟨b, o + k, none⟩ = some (.int .u64 (ks[k] : Nat))) := ho
  have HZ : Hid (∀ z ∈ ks, z < 18446744073709551616) := hoz
  obtain ⟨i0, hi0, hz0, hz1, hz2⟩ := info_parts infoS
  have hbl := balanced_any hC a w he
  have d1 : decide (60 < (ks.length : Int)) = false := by simp; omega
  have d1f : decide (60 < (fs.length : Int)) = false := by simp; omega
  have HFO : Hid (∀ k (h : k < fs.length), ∃ b o, fp = some ⟨b, o, none⟩ ∧ w.cell? ⟨b, o + k, none⟩ = some (.int .u64 (fs[k] : Nat))) := hfo
  have HFZ : Hid (∀ z ∈ fs, z < 18446744073709551616) := hfz
  have d2 : decide ((q : Int) < 0) = false := by simp
  have d3 : decide (3 < (q : Int)) = false := by simp; omega
  clear he ho hoz hfo hfz
  go_enter Tryd.func3, Tryd.ntmps3
  go_wp2_with fail
  refine hbl.mono ?_
  rintro e w1 ⟨rfl, hb1⟩
  have hb2 : Below w1.heap.size w1 (w1.alloc (.cells #[.string nA, .string nB, .string nC, .string nD] 9)) := (Below.refl _ _).alloc (Nat.le_refl _) _
  have hbw2 := below_then hb1 hb2
  obtain ⟨hf, hnd, hlx, h0, hsz, hnm⟩ := four_fault
  have hnew := hC.newG a _ four 31 20 1 1 _ (hC.eLater HE.out hbw2) (four_strs w1) h0 hf hsz prm31 (by decide) (by decide) (by decide) (by decide) (by decide) (by decide) (by decide)
  have HST : Hid (∀ k (h : k < four.length), (w1.alloc (.cells #[.string nA, .string nB, .string nC, .string nD] 9)).cell? ⟨w1.heap.size, k, none⟩ = some (.string four[k])) := fun k hk => by
    have : k = 0 ∨ k = 1 ∨ k = 2 ∨ k = 3 := by simp [four] at hk; omega
    rcases this with rfl | rfl | rfl | rfl <;> simp [four]
  have hw1 : w1.heap.size < (w1.alloc (.cells #[.string nA, .string nB, .string nC, .string nD] 9)).heap.size := by simp
  clear hbl hb1 hb2 hf hnd hlx h0 hsz hnm
  have e1 : (w1.alloc (.cells #[.string nA, .string nB, .string nC, .string nD] 9)) = w1.alloc (.cells #[.string ⟨#[97]⟩, .string ⟨#[98]⟩, .string ⟨#[99]⟩, .string ⟨#[100]⟩] 9) := rfl
  rw [e1] at hnew hbw2 HST hw1
  go_wp2_with fail
  clear e1
  generalize w1.alloc (.cells #[.string ⟨#[97]⟩, .string ⟨#[98]⟩, .string ⟨#[99]⟩, .string ⟨#[100]⟩] 9) = w2 at *
  refine hnew.mono ?_
  rintro e w3 ⟨p, F, rfl, hR, hF, hb3⟩
  have HPL : Hid (PL hC w2.heap.size w2 w3 (bnew0 four 31 20) F p (.slice none 0 0) []) := ⟨Nat.le_refl _, hb3, hR, hF, World.ownsRow_nil _ _ _ _, fun b _ h => by cases h⟩
  have HB2 : Hid (Below w.heap.size w w2) := hbw2
  clear hnew hR hF hb3 hbw2
  go_wp2_with fail
  go_loopw [11, 12] (fun v u W => ∃ (i : Nat) (S : Lh.Bl) (F : Nat → Prop) (ws : List ByteArray), i ≤ ks.length ∧ u = .int .i64 (i : Nat) ∧ ws.length = i ∧ PL hC w2.heap.size w2 W S F p v ws ∧ BInv S 19 i ∧ Alike (bnew0 four 31 20) S ∧ S.la = 0 ∧ Hass S ks ws) (fun _ u _ => ks.length - (intOf u).toNat)
  case atStart => exact ⟨0, _, F, [], Nat.zero_le _, rfl, rfl, HPL.out, binv_new four_bok 19 0, Alike.refl _, rfl, fun i _ h => absurd h (by simp)⟩
  case round =>
    clear HPL
    obtain ⟨i, S, F, ws, hi, rfl, hws, hPL, hI, hA, hla, hH⟩ := hrel
    obtain ⟨wo, hwo⟩ : ∃ wo, wo = wr := ⟨_, rfl⟩
    subst hwo
    have HPL : Hid (PL hC w2.heap.size w2 wo S F p u11 ws) := hPL
    have HI : Hid (BInv S 19 i) := hI
    have HA : Hid (Alike (bnew0 four 31 20) S) := hA
    have HLA : Hid (S.la = 0) := hla
    have HH : Hid (Hass S ks ws) := hH
    have HW : Hid (ws.length = i) := hws
    have hbw : Below w.heap.size w wo := below_then HB2.out hPL.below
    by_cases hlt : i < ks.length
    · have hki : (i : Int) < (ks.length : Int) := by omega
      obtain ⟨b, o, rfl, ck⟩ := HO.out i hlt
      replace ck := below_cell hbw ck
      have hkz := HZ.out _ (List.getElem_mem hlt)
      have hp := bpickT hC (hC.eLater HE.out hbw) hPL.rep hI ks[i] hkz 0 ⟨by decide, by decide, by rw [hla]; decide⟩ (by decide) (by rw [hA.t]; decide) (by omega) (open_one hA (s := nA) (by simp [four]))
      clear hPL hI hA hla hH hws
      have HKI : Hid (∀ h : i < ks.length, ks[i] = ks[i]) := fun _ => rfl
      generalize hkk : ks[i] = kk at *
      have HKK : Hid (ks[i] = kk) := hkk
      clear hkk HKI
      go_wp2_with fail
      refine hp.mono ?_
      rintro e w4 ⟨F4, S4, s4, kept4, rfl, hR4, hI4, hA4, hla4, hH4, hk4, hup4, hz4, hd4, hn4, hL4, hF4, hT4⟩
      have hPL4 := HPL.out.turned hR4 hF4 hT4
      have HPL4 : Hid (PL hC w2.heap.size w2 w4 S4 F4 p u11 ws) := hPL4
      have HI4 : Hid (BInv S4 19 (i + 1)) := hI4
      have HA4 : Hid (Alike (bnew0 four 31 20) S4) := HA.out.trans hA4
      have HLA4 : Hid (S4.la = 0) := hla4
      have HH4 : Hid (Hass S4 ks (ws ++ [s4])) := fun j h1 h2 => by
        by_cases e : j < ws.length
        · rw [List.getElem_append_left e]
          exact hk4 _ _ (HH.out j h1 e)
        · have e' : j = i := by have := HW.out; simp at h2; omega
          subst e'
          have hws := HW.out
          rw [HKK.out]
          have : (ws ++ [s4])[j]'h2 = s4 := by
            rw [List.getElem_append_right (by omega)]
            simp
          rw [this]
          exact hH4
      have own4 := hPL4.own.alloc (.cells #[.string s4] 9)
      have hmx : ws.length + 1 ≤ maxLen := by have := HW.out; unfold maxLen; omega
      have hby : (ws.length + 1) * 16 ≤ 140737488355328 := by have := HW.out; omega
      have hbs : w2.heap.size ≤ (w4.alloc (.cells #[.string s4] 9)).heap.size := Nat.le_trans hPL4.size (by simp)
      have hsz4 : (w4.alloc (.cells #[.string s4] 9)).heap.size = w4.heap.size + 1 := by simp
      have hnews : ∀ j u, [Value.string s4][j]? = some u → (w4.alloc (.cells #[.string s4] 9)).cell? ((⟨w4.heap.size, 0, none⟩ : Addr).add j) = some u := fun j u hu => by
        match j with
        | 0 => simp at hu; subst hu; simp [Addr.add]
        | j + 1 => simp at hu
      clear hp hR4 hI4 hA4 hla4 hH4 hk4 hup4 hz4 hd4 hn4 hL4 hF4 hT4 hPL4 ck hbw
      go_wp2_with (at_builtin; refine wpList_append_lies _ rfl _ _ 24 rfl w2.heap.size 9 i0 _ 1 16 Tryd.underlying24 hi0 hz0 hz1 hz2 rfl (by decide) u11 ws.length (ws.map Value.string) rfl own4 ⟨w4.heap.size, 0, none⟩ 1 1 [.string s4] rfl rfl hnews (fun u hu => by simp at hu; subst hu; rfl) (by decide) hmx hby hbs (w4.heap.size + 1) hsz4 ?_; intro g cap w5 hown5 hgr5 hor5 hlt5)
      have hln : (ws ++ [s4]).length = i + 1 := by have := HW.out; simp; omega
      exact ⟨⟨i + 1, S4, F4, ws ++ [s4], by omega, by go_num, hln, HPL4.out.pushed hown5 hgr5 hor5, HI4.out, HA4.out, HLA4.out, HH4.out⟩, by simp [intOf]; omega⟩
    · obtain rfl : i = ks.length := by omega
      have hqf : q < four.length := by simp [four]; omega
      have ch := HST.out q hqf
      replace ch := below_cell hPL.below ch
      have hlk := hC.drain a S F p four[q] true wo (hC.eLater HE.out hbw) hPL.rep hI.ok (four_len hqf)
      have hqi : (q : Int) < 4 := by omega
      obtain ⟨fa, hfa⟩ : ∃ fa, four[q] = fa := ⟨_, rfl⟩
      rw [hfa] at ch hlk
      have HFA : Hid (four[q] = fa) := hfa
      clear hPL hI hA hla hH hws hfa
      go_wp2_with fail
      refine hlk.mono ?_
      rintro e w4 ⟨F4, S4, c4, ev4, hF4, hT4, rfl, hev4, hL4, hR4⟩
      obtain ⟨rfl, hs4, hl4, hd4, ht4, hla4, hsz4, hok4⟩ := drain_one HA.out HI.out.ok hqf (by rw [HFA.out]; exact hL4)
      obtain rfl := evOf_nil hev4
      have hPL4 := HPL.out.turned hR4 hF4 hT4
      have hI4 := HI.out.alike hok4 hl4 (hs4.trans HA.out.hs.symm)
      have HPL4 : Hid (PL hC w2.heap.size w2 w4 S4 F4 p u11 ws) := hPL4
      have HI4 : Hid (BInv S4 19 ks.length) := hI4
      have HS4 : Hid (S4.hs = Lh.hnew four ∧ S4.dr = [fa] ∧ S4.t = 20 ∧ S4.size = 31 ∧ S4.la = 0) := ⟨hs4, by rw [hd4, HFA.out], ht4, hsz4, hla4.trans HLA.out⟩
      have HH4 : Hid (Hass S4 ks ws) := fun j h1 h2 => by
        obtain ⟨x, hx, e1, e2⟩ := HH.out j h1 h2
        exact ⟨x, by rw [hl4]; exact hx, e1, e2⟩
      clear hlk hF4 hT4 hL4 hR4 hev4 hs4 hl4 hd4 ht4 hla4 hsz4 hok4 hPL4 hI4 HPL HI HA HLA HH ch hbw
      go_wp2_with fail
      go_loopw [16] (fun u W => ∃ (i : Nat) (S : Lh.Bl) (F : Nat → Prop), i ≤ fs.length ∧ u = .int .i64 (i : Nat) ∧ PL hC w2.heap.size w2 W S F p u11 ws ∧ BInv S 19 (ks.length + i) ∧ (S.hs = Lh.hnew four ∧ S.dr = [fa] ∧ S.t = 20 ∧ S.size = 31) ∧ (0 ≤ S.la ∧ S.la ≤ 1) ∧ Hass S ks ws) (fun u _ => fs.length - (intOf u).toNat)
      case atStart => exact ⟨0, S4, F4, Nat.zero_le _, rfl, HPL4.out, HI4.out, ⟨HS4.out.1, HS4.out.2.1, HS4.out.2.2.1, HS4.out.2.2.2.1⟩, by rw [HS4.out.2.2.2.2]; decide, HH4.out⟩
      case round =>
        clear HPL4 HI4 HS4 HH4
        obtain ⟨i, S5, F5, hi, rfl, hPL, hI, hS, hla, hH⟩ := hrel
        obtain ⟨wo, hwo⟩ : ∃ wo, wo = wr := ⟨_, rfl⟩
        subst hwo
        have HPL : Hid (PL hC w2.heap.size w2 wo S5 F5 p u11 ws) := hPL
        have hbw : Below w.heap.size w wo := below_then HB2.out hPL.below
        have HS5 : Hid (S5.hs = Lh.hnew four ∧ S5.dr = [fa] ∧ S5.t = 20 ∧ S5.size = 31) := hS
        have HH5 : Hid (Hass S5 ks ws) := hH
        by_cases hlt : i < fs.length
        · have hki : (i : Int) < (fs.length : Int) := by omega
          obtain ⟨b, o, rfl, ck⟩ := HFO.out i hlt
          replace ck := below_cell hbw ck
          have hkz := HFZ.out _ (List.getElem_mem hlt)
          have hp := bpickT hC (hC.eLater HE.out hbw) hPL.rep hI fs[i] hkz 1 ⟨by decide, by decide, by omega⟩ (by decide) (by rw [hS.2.2.1]; decide) (by omega) (drained_open hqf hS.1 (by rw [hS.2.1, HFA.out]))
          clear hPL hI hS hla hH
          obtain ⟨kk, hkk⟩ : ∃ kk, fs[i] = kk := ⟨_, rfl⟩
          rw [hkk] at ck hp hkz
          clear hkk
          go_wp2_with fail
          refine hp.mono ?_
          rintro e w6 ⟨F6, S6, s6, kept6, rfl, hR6, hI6, hA6, hla6, hH6, hk6, hup6, hz6, hd6, hn6, hL6, hF6, hT6⟩
          have hPL6 := HPL.out.turned hR6 hF6 hT6
          have hne6 : kept6 = false → s6 ≠ fa := fun hk e => by
            have := hd6 hk
            rw [HS5.out.2.1] at this
            exact this (by simp [e])
          have HREL : Hid (∀ W', Below w6.heap.size w6 W' → ∃ (i' : Nat) (S : Lh.Bl) (F : Nat → Prop), i' ≤ fs.length ∧ Value.int .i64 ((i : Int) + 1) = .int .i64 (i' : Nat) ∧ PL hC w2.heap.size w2 W' S F p u11 ws ∧ BInv S 19 (ks.length + i') ∧ (S.hs = Lh.hnew four ∧ S.dr = [fa] ∧ S.t = 20 ∧ S.size = 31) ∧ (0 ≤ S.la ∧ S.la ≤ 1) ∧ Hass S ks ws) :=
            fun W' hW' => ⟨i + 1, S6, F6, by omega, by go_num, hPL6.later hW', hI6, ⟨hA6.hs.trans HS5.out.1, hA6.dr.trans HS5.out.2.1, hA6.t.trans HS5.out.2.2.1, hA6.size.trans HS5.out.2.2.2⟩, by rw [hla6]; decide, fun j h1 h2 => hk6 _ _ (HH5.out j h1 h2)⟩
          have ch : w6.cell? ⟨w1.heap.size, q, none⟩ = some (.string fa) := by
            have := HST.out q hqf
            rw [HFA.out] at this
            exact below_cell hPL6.below this
          clear hp hR6 hI6 hA6 hla6 hH6 hk6 hup6 hz6 hd6 hn6 hL6 hF6 hT6 hPL6 ck hbw
          cases kept6 with
          | true =>
            clear hne6
            go_wp2_with fail
            exact ⟨HREL.out _ (Below.refl _ _), by simp [intOf]; omega⟩
          | false =>
            have d6 : (s6.toList == fa.toList) = false := bytes_parts (hne6 rfl)
            clear hne6
            go_wp2_with fail
            exact ⟨HREL.out _ (Below.refl _ _), by simp [intOf]; omega⟩
        · obtain rfl : i = fs.length := by omega
          have HI5 : Hid (BInv S5 19 (ks.length + fs.length)) := hI
          have HLA5 : Hid (0 ≤ S5.la ∧ S5.la ≤ 1) := hla
          clear hPL hI hS hla hH
          go_wp2_with fail
          go_loopw [20] (fun u W => ∃ (i : Nat) (S : Lh.Bl) (F : Nat → Prop), i ≤ ks.length ∧ u = .int .i64 (i : Nat) ∧ PL hC w2.heap.size w2 W S F p u11 ws ∧ BInv S 19 (ks.length + fs.length + i) ∧ (S.hs = Lh.hnew four ∧ S.dr = [fa] ∧ S.t = 20 ∧ S.size = 31) ∧ (0 ≤ S.la ∧ S.la ≤ 2) ∧ Hass S ks ws) (fun u _ => ks.length - (intOf u).toNat)
          case atStart => exact ⟨0, S5, F5, Nat.zero_le _, rfl, HPL.out, HI5.out, HS5.out, by have := HLA5.out; omega, HH5.out⟩
          case round =>
            clear HPL HI5 HS5 HH5 HLA5 hbw
            obtain ⟨i, S7, F7, hi, rfl, hPL, hI, hS, hla, hH⟩ := hrel
            obtain ⟨wp, hwp⟩ : ∃ wp, wp = wr := ⟨_, rfl⟩
            subst hwp
            have HPL : Hid (PL hC w2.heap.size w2 wp S7 F7 p u11 ws) := hPL
            have hbw : Below w.heap.size w wp := below_then HB2.out hPL.below
            by_cases hlt : i < ks.length
            · have hki : (i : Int) < (ks.length : Int) := by omega
              obtain ⟨b, o, rfl, ck⟩ := HO.out i hlt
              replace ck := below_cell hbw ck
              have hkz := HZ.out _ (List.getElem_mem hlt)
              have hp := bpickT hC (hC.eLater HE.out hbw) hPL.rep hI ks[i] hkz 2 ⟨by decide, by decide, by omega⟩ (by decide) (by rw [hS.2.2.1]; decide) (by omega) (drained_open hqf hS.1 (by rw [hS.2.1, HFA.out]))
              have HS7 : Hid (S7.hs = Lh.hnew four ∧ S7.dr = [fa] ∧ S7.t = 20 ∧ S7.size = 31) := hS
              have HH7 : Hid (Hass S7 ks ws) := hH
              clear hPL hI hS hla hH
              obtain ⟨kk, hkk⟩ : ∃ kk, ks[i] = kk := ⟨_, rfl⟩
              have HKK : Hid (ks[i] = kk) := hkk
              rw [hkk] at ck hp hkz
              clear hkk
              go_wp2_with fail
              refine hp.mono ?_
              rintro e w6 ⟨F6, S6, s6, kept6, rfl, hR6, hI6, hA6, hla6, hH6, hk6, hup6, hz6, hd6, hn6, hL6, hF6, hT6⟩
              have hPL6 := HPL.out.turned hR6 hF6 hT6
              have hwl : i < ws.length := by have := HW.out; omega
              have hsame : s6 = ws[i] ∧ kept6 = true := by
                have := HH7.out i hlt hwl
                rw [HKK.out] at this
                exact hz6 _ this
              have HREL : Hid (∀ W', Below w6.heap.size w6 W' → ∃ (i' : Nat) (S : Lh.Bl) (F : Nat → Prop), i' ≤ ks.length ∧ Value.int .i64 ((i : Int) + 1) = .int .i64 (i' : Nat) ∧ PL hC w2.heap.size w2 W' S F p u11 ws ∧ BInv S 19 (ks.length + fs.length + i') ∧ (S.hs = Lh.hnew four ∧ S.dr = [fa] ∧ S.t = 20 ∧ S.size = 31) ∧ (0 ≤ S.la ∧ S.la ≤ 2) ∧ Hass S ks ws) :=
                fun W' hW' => ⟨i + 1, S6, F6, by omega, by go_num, hPL6.later hW', hI6, ⟨hA6.hs.trans HS7.out.1, hA6.dr.trans HS7.out.2.1, hA6.t.trans HS7.out.2.2.1, hA6.size.trans HS7.out.2.2.2⟩, by rw [hla6]; decide, fun j h1 h2 => hk6 _ _ (HH7.out j h1 h2)⟩
              obtain ⟨g, cap, rfl, hcells⟩ := names_own hPL6.own (by omega)
              have cw := hcells i hwl
              have hwi : (i : Int) < (ws.length : Int) := by omega
              clear hp hR6 hI6 hA6 hla6 hH6 hk6 hup6 hz6 hd6 hn6 hL6 hF6 hT6 hPL6 hcells ck hbw
              obtain ⟨hs6, rfl⟩ := hsame
              rw [← hs6] at cw
              have d8 : (s6.toList == s6.toList) = true := beq_self_eq_true _
              clear hs6
              go_wp2_with fail
              exact ⟨HREL.out _ (Below.refl _ _), by simp [intOf]; omega⟩
            · obtain rfl : i = ks.length := by omega
              clear hPL hI hS hla hH
              go_wp2
              go_ret
              exact ⟨rfl, hbw⟩
end Go.Proofs.YtmkdpchodeckgaaDoor
