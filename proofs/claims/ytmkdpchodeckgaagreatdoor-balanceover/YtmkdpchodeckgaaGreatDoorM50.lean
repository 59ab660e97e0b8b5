/- The law BalanceOver, over the landed package's contracts, where its numbers are right. -/
import Derived.Test.YtmkdpchodeckgaaGreatDoorM33
import Derived.Test.YtmkdpchodeckgaaGreatDoorBaRow
namespace Go.Proofs.YtmkdpchodeckgaaGreatDoor
open Go.RowKit

/-- those that are not gone -/
def livef (now : Int) (L : List Lh.Fl) : List Lh.Fl := L.filter fun x => decide (now < x.2.2)
/-- a row, in which the first i are looked at -/
structure Cmp (B : Nat) (op : Option Addr) (L : List Lh.Fl) (now : Int) (i : Nat) (W : World) : Prop where
  done : ∀ j (h : j < (livef now (L.take i)).length), ∃ g, op = some ⟨g, 0, none⟩ ∧ RowAt W g j (livef now (L.take i))[j]
  rest : ∀ j (h : j < L.length), i ≤ j → ∃ g, op = some ⟨g, 0, none⟩ ∧ RowAt W g j L[j]
  big : 0 < L.length → ∃ g, op = some ⟨g, 0, none⟩ ∧ B ≤ g ∧ ∀ k, k < L.length * 3 → W.frozen? ⟨g, k, none⟩ = false ∧ (W.cell? ⟨g, k, none⟩).isSome = true
theorem livef_le (now : Int) (L : List Lh.Fl) (i : Nat) : (livef now (L.take i)).length ≤ i := Nat.le_trans (List.length_filter_le _ _) (by rw [List.length_take]; exact Nat.min_le_left _ _)
theorem livef_succ (now : Int) (L : List Lh.Fl) {i : Nat} (h : i < L.length) : livef now (L.take (i + 1)) = livef now (L.take i) ++ if now < L[i].2.2 then [L[i]] else [] := by
  unfold livef
  rw [List.take_succ_eq_append_getElem h, List.filter_append]
  congr 1
  by_cases hc : now < L[i].2.2 <;> simp [List.filter, hc]
theorem cmp_start {B : Nat} {W : World} {v : Value} {L : List Lh.Fl} (h : FlowsNew B W v L) (now : Int) : ∃ op c, v = .slice op L.length c ∧ L.length ≤ c ∧ (op = none → c = 0) ∧ Cmp B op L now 0 W := by
  rcases h with ⟨rfl, rfl | ⟨ad, c, rfl⟩⟩ | ⟨g, c, rfl, hc, hB, h, hf⟩
  · exact ⟨none, 0, rfl, Nat.le_refl _, fun _ => rfl, fun j h => absurd h (by simp [livef]), fun j h => absurd h (by simp), fun h => absurd h (by simp)⟩
  · exact ⟨some ad, c, rfl, Nat.zero_le _, nofun, fun j h => absurd h (by simp [livef]), fun j h => absurd h (by simp), fun h => absurd h (by simp)⟩
  · refine ⟨_, c, rfl, hc, nofun, fun j h => absurd h (by simp [livef]), fun j hj _ => ⟨g, rfl, h j hj⟩, fun _ => ⟨g, rfl, hB, fun k hk => ⟨hf k hk, ?_⟩⟩⟩
    obtain ⟨j, hj, rfl | rfl | rfl⟩ := row_cell hk
    · rw [(h j hj).1]; rfl
    · rw [(h j hj).2.1]; rfl
    · rw [(h j hj).2.2]; rfl
/-- one that is gone -/
theorem Cmp.gone {B : Nat} {op : Option Addr} {L : List Lh.Fl} {now : Int} {i : Nat} {W : World} (h : Cmp B op L now i W) (hi : i < L.length) (hu : ¬ now < L[i].2.2) : Cmp B op L now (i + 1) W ∧ livef now (L.take (i + 1)) = livef now (L.take i) := by
  have e : livef now (L.take (i + 1)) = livef now (L.take i) := by rw [livef_succ now L hi, if_neg hu, List.append_nil]
  refine ⟨⟨?_, fun j hj hij => h.rest j hj (by omega), h.big⟩, e⟩
  rw [e]
  exact h.done
/-- one that stays -/
theorem Cmp.stays {B : Nat} {g : Nat} {L : List Lh.Fl} {now : Int} {i : Nat} {W : World} (h : Cmp B (some ⟨g, 0, none⟩) L now i W) (hi : i < L.length) {x : Lh.Fl} (hx : L[i] = x) (hu : now < x.2.2) {k : Nat} (hk : (livef now (L.take i)).length = k) :
    Cmp B (some ⟨g, 0, none⟩) L now (i + 1) (put3 W g k x) ∧ (livef now (L.take (i + 1))).length = k + 1 := by
  have e : livef now (L.take (i + 1)) = livef now (L.take i) ++ [x] := by rw [livef_succ now L hi, hx, if_pos hu]
  have hki : k ≤ i := by rw [← hk]; exact livef_le now L i
  obtain ⟨g', hg', hB, hf⟩ := h.big (by omega)
  obtain rfl : g = g' := by simpa using hg'
  have hrow : RowAt (put3 W g k x) g k x := put3_row x (hf _ (by omega)).2 (hf _ (by omega)).2 (hf _ (by omega)).2
  refine ⟨⟨fun j hj => ?_, fun j hj hij => ?_, fun _ => ⟨g, rfl, hB, fun m hm => ⟨?_, ?_⟩⟩⟩, by rw [e, List.length_append, hk]; rfl⟩
  · refine ⟨g, rfl, ?_⟩
    have hj' : j < k + 1 := by rw [e, List.length_append, hk] at hj; exact hj
    by_cases hjk : j = k
    · have : (livef now (L.take (i + 1)))[j] = x := by
        simp only [e]
        rw [List.getElem_append_right (by omega)]
        simp
      rw [this, hjk]
      exact hrow
    · have hl : j < (livef now (L.take i)).length := by omega
      have : (livef now (L.take (i + 1)))[j] = (livef now (L.take i))[j] := by
        simp only [e]
        exact List.getElem_append_left hl
      rw [this]
      obtain ⟨g', hg', hr⟩ := h.done j hl
      obtain rfl : g = g' := by simpa using hg'
      exact hr.put hjk
  · obtain ⟨g', hg', hr⟩ := h.rest j hj (by omega)
    obtain rfl : g = g' := by simpa using hg'
    exact ⟨g, rfl, hr.put (by omega)⟩
  · unfold put3
    rw [World.frozen?_setCell, World.frozen?_setCell, World.frozen?_setCell]
    exact (hf m hm).1
  · by_cases hm3 : m = k * 3 ∨ m = k * 3 + 1 ∨ m = k * 3 + 2
    · rcases hm3 with rfl | rfl | rfl
      · rw [hrow.1]; rfl
      · rw [hrow.2.1]; rfl
      · rw [hrow.2.2]; rfl
    · rw [put3_other x (by omega) (by omega) (by omega)]
      exact (hf m hm).2
/-- the row, cut to those that stay -/
theorem Cmp.end_ {B : Nat} {op : Option Addr} {L : List Lh.Fl} {now : Int} {W : World} (h : Cmp B op L now L.length W) {c : Nat} (hc : L.length ≤ c) (hz : op = none → c = 0) : Flows1 W (.slice op (livef now L).length c) (livef now L) := by
  have e : L.take L.length = L := List.take_length
  have hd := h.done
  rw [e] at hd
  by_cases h0 : (livef now L).length = 0
  · have e0 := List.length_eq_zero_iff.1 h0
    rw [e0]
    refine Or.inl ⟨rfl, ?_⟩
    match op, hz with
    | none, hz => rw [hz rfl]; exact Or.inl rfl
    | some ad, _ => exact Or.inr ⟨ad, c, rfl⟩
  · obtain ⟨g, rfl, _⟩ := hd 0 (by omega)
    refine Or.inr ⟨g, 0, c, rfl, Nat.le_trans (List.length_filter_le _ _) hc, fun i hi => ?_⟩
    obtain ⟨g', hg', hr⟩ := hd i hi
    obtain rfl : g = g' := by simpa using hg'
    simp only [Nat.zero_add]
    exact hr
theorem over_bok {S : Lh.Bl} (h : Lh.BOk S) {e now : Int} (h0 : 0 ≤ e) (h1 : e ≤ 1099511627776) (h2 : 0 ≤ now) (h3 : now ≤ 1099511627776) {M : List Lh.Fl} (hM : M.Sublist S.L) : Lh.BOk { bnew0 three 13 20 with ep := e, la := now, L := M } :=
  ⟨three_bok.h, three_bok.nm, h.ok.sub hM, fun x hx => h.host x (hM.mem hx), fun x hx => h.hi x (hM.mem hx), three_bok.t1, three_bok.t2, three_bok.prm, three_bok.s5, h0, h1, h2, h3⟩

set_option maxRecDepth 100000 in
set_option maxHeartbeats 8000000 in
theorem over_core (hC : BalanceC) (a : Nat → Addr) (op : Option Addr) (oc : Nat) (ks : List Nat) (wait : Nat) (w : World) (he : hC.E a w) (hx : hC.X a w) (hl : ks.length ≤ 60) (hwt : wait ≤ 40) (ho : ∀ k (h : k < ks.length), ∃ b o, op = some ⟨b, o, none⟩ ∧ w.cell? ⟨b, o + k, none⟩ = some (.int .u64 (ks[k] : Nat))) (hoz : ∀ z ∈ ks, z < 18446744073709551616) :
    Calls Tryz.prog 5 #[.slice op ks.length oc, .int .i64 (wait : Nat)] w fun e w' => e = .returned (.bool true) ∧ Below w.heap.size w w' := by
  have HE : Hid (hC.E a w) := he
  have HXX : Hid (hC.X a w) := hx
  have HO : Hid (∀ k (h : k < ks.length), ∃ b o, op = some ⟨b, o, none⟩ ∧ w.cell? ⟨b, o + k, none⟩ = some (.int .u64 (ks[k] : Nat))) := ho
  have HZ : Hid (∀ z ∈ ks, z < 18446744073709551616) := hoz
  have hbl := balanced_any hC a w he
  have d1 : decide (60 < (ks.length : Int)) = false := by simp; omega
  have d2 : decide ((wait : Int) < 0) = false := by simp
  have d3 : decide (40 < (wait : Int)) = false := by simp; omega
  clear he hx ho hoz
  go_enter Tryz.func5, Tryz.ntmps5
  go_wp2_with fail
  refine hbl.mono ?_
  rintro e w1 ⟨rfl, hb1⟩
  have hb2 : Below w1.heap.size w1 (w1.alloc (.cells #[.string nA, .string nB, .string nC] 9)) := (Below.refl _ _).alloc (Nat.le_refl _) _
  have hbw2 := below_then hb1 hb2
  obtain ⟨hf, hnd, hlx, h0, hsz, hnm⟩ := three_fault
  have hst := three_strs w1
  have hnew := hC.newG a _ three 13 20 1 1 _ (hC.eLater HE.out hbw2) hst h0 hf hsz prm13 (by decide) (by decide) (by decide) (by decide) (by decide) (by decide) (by decide)
  have e1 : (w1.alloc (.cells #[.string nA, .string nB, .string nC] 9)) = w1.alloc (.cells #[.string ⟨#[97]⟩, .string ⟨#[98]⟩, .string ⟨#[99]⟩] 9) := rfl
  rw [e1] at hnew hbw2 hst
  clear hbl hb1 hb2
  go_wp2_with fail
  clear e1
  generalize w1.alloc (.cells #[.string ⟨#[97]⟩, .string ⟨#[98]⟩, .string ⟨#[99]⟩] 9) = w2 at *
  refine hnew.mono ?_
  rintro e w3 ⟨p, F, rfl, hR, hF, hb3⟩
  have hbw3 := below_then hbw2 hb3
  have hnew2 := hC.newG a _ three 13 20 1 1 w3 (hC.eLater HE.out hbw3) (hst.later hb3) h0 hf hsz prm13 (by decide) (by decide) (by decide) (by decide) (by decide) (by decide) (by decide)
  have HR : Hid (hC.Rep (bnew0 three 13 20) F p w3) := hR
  have HF : Hid (∀ b, F b → w2.heap.size ≤ b) := hF
  have HB2 : Hid (Below w.heap.size w w2) := hbw2
  have HB3 : Hid (Below w2.heap.size w2 w3) := hb3
  clear hnew hR hF hb3 hbw2 hbw3 hf hnd hlx h0 hsz hnm hst
  go_wp2_with fail
  refine hnew2.mono ?_
  rintro e w4 ⟨q, G, rfl, hR4, hG4, hb4⟩
  have HTW : Hid (TwoB hC w2.heap.size w2 w4 (bnew0 three 13 20) (bnew0 three 13 20) F G p q) := ⟨Nat.le_refl _, below_then HB3.out hb4, hC.later HR.out hb4, hR4, HF.out, fun b hb => Nat.le_trans HB3.out.size (hG4 b hb), fun b hb hg => by
    have h1 := hC.lt HR.out b hb
    have h2 := hG4 b hg
    omega⟩
  clear hnew2 hR4 hG4 hb4 HR HF HB3
  go_wp2_with fail
  go_loopw [11] (fun u W => ∃ (i : Nat) (S : Lh.Bl) (F : Nat → Prop), i ≤ ks.length ∧ u = .int .i64 (i : Nat) ∧ TwoB hC w2.heap.size w2 W S (bnew0 three 13 20) F G p q ∧ BInv S 19 i ∧ Alike (bnew0 three 13 20) S ∧ (0 ≤ S.la ∧ S.la ≤ (i : Int) / 4) ∧ ∀ x ∈ S.L, x.2.2 ≤ 40) (fun u _ => ks.length - (intOf u).toNat)
  case atStart => exact ⟨0, _, F, Nat.zero_le _, rfl, HTW.out, binv_new three_bok 19 0, Alike.refl _, by decide, fun x hx => absurd hx (by simp [bnew0])⟩
  case round =>
    clear HTW
    obtain ⟨i, S, F, hi, rfl, hTW, hI, hA, hla, hU⟩ := hrel
    obtain ⟨wo, hwo⟩ : ∃ wo, wo = wr := ⟨_, rfl⟩
    subst hwo
    have HTW : Hid (TwoB hC w2.heap.size w2 wo S (bnew0 three 13 20) F G p q) := hTW
    have HI : Hid (BInv S 19 i) := hI
    have HA : Hid (Alike (bnew0 three 13 20) S) := hA
    have HU : Hid (∀ x ∈ S.L, x.2.2 ≤ 40) := hU
    have hbw : Below w.heap.size w wo := below_then HB2.out hTW.below
    by_cases hlt : i < ks.length
    · have hki : (i : Int) < (ks.length : Int) := by omega
      obtain ⟨b, o, rfl, ck⟩ := HO.out i hlt
      replace ck := below_cell hbw ck
      have hkz := HZ.out _ (List.getElem_mem hlt)
      have hp := bpickT hC (hC.eLater HE.out hbw) hTW.one hI ks[i] hkz ((i : Int) / 4) ⟨by omega, by omega, by omega⟩ (by omega) (by rw [hA.t]; show (19 : Int) < _ + ((20 : Nat) : Int); omega) (by omega) (open_one hA (s := nA) (by simp [three]))
      clear hTW hI hA hla hU
      obtain ⟨kk, hkk⟩ : ∃ kk, ks[i] = kk := ⟨_, rfl⟩
      rw [hkk] at ck hp hkz
      clear hkk
      go_wp2_with fail
      refine hp.mono ?_
      rintro e w5 ⟨F5, S5, s5, kept5, rfl, hR5, hI5, hA5, hla5, hH5, hk5, hup5, hz5, hd5, hn5, hL5, hF5, hT5⟩
      have HREL : Hid (∀ W', Below w5.heap.size w5 W' → ∃ (i' : Nat) (S : Lh.Bl) (F : Nat → Prop), i' ≤ ks.length ∧ Value.int .i64 ((i : Int) + 1) = .int .i64 (i' : Nat) ∧ TwoB hC w2.heap.size w2 W' S (bnew0 three 13 20) F G p q ∧ BInv S 19 i' ∧ Alike (bnew0 three 13 20) S ∧ (0 ≤ S.la ∧ S.la ≤ (i' : Int) / 4) ∧ ∀ x ∈ S.L, x.2.2 ≤ 40) :=
        fun W' hW' => ⟨i + 1, S5, F5, by omega, by go_num, (HTW.out.turned hR5 hF5 hT5).later hW', hI5, HA.out.trans hA5, by rw [hla5]; omega, fun x hx => by
          rw [hL5] at hx
          rcases Lh.fput_mem hx with rfl | hx
          · have ht : S.t = 20 := HA.out.t
            show (i : Int) / 4 + (S.t : Int) ≤ 40
            omega
          · exact HU.out x hx⟩
      clear hp hR5 hI5 hA5 hla5 hH5 hk5 hup5 hz5 hd5 hn5 hL5 hF5 hT5 ck hbw
      go_wp2_with fail
      exact ⟨HREL.out _ (Below.refl _ _), by simp [intOf]; omega⟩
    · obtain rfl : i = ks.length := by omega
      have hex := hC.export_ a S F p wo (hC.eLater HE.out hbw) (hC.xLater HXX.out hbw) hTW.one hI.ok
      clear hTW hI hA hU
      go_wp2_with fail
      refine hex.mono ?_
      rintro e w5 ⟨F5, S5, s5, c5, ev5, hF5, hT5, rfl, hev5, hX5, hR5⟩
      obtain ⟨rfl, rfl, rfl⟩ : s5 = Lh.bt (Lh.textL ((1 : Int)).toNat S.L) ∧ c5 = 0 ∧ S5 = { S with ep := 1 } := by
        have hep : S.ep = 0 := HA.out.ep
        rcases hX5 with ⟨_, h1, h2, h3⟩ | ⟨h, _⟩
        · rw [hep] at h1 h3
          exact ⟨h1, h2, h3⟩
        · rw [hep] at h
          exact absurd (by decide) h
      obtain rfl := evOf_nil hev5
      have hTW5 := (HTW.out.turned hR5 hF5 hT5).swap
      have hbw5 : Below w.heap.size w w5 := below_then HB2.out hTW5.below
      have him := hC.import_ a _ G q (Lh.textL ((1 : Int)).toNat S.L) ((ks.length : Int) / 4 + (wait : Nat)) w5 (hC.eLater HE.out hbw5) (hC.xLater HXX.out hbw5) hTW5.one three_bok (by have := text_len (caF_of HI.out.ok (e := 1) (by decide) (by decide)) (keyIn_of HI.out.ok); omega)
      have HTW5 : Hid (TwoB hC w2.heap.size w2 w5 (bnew0 three 13 20) { S with ep := 1 } G F5 q p) := hTW5
      clear hex hF5 hT5 hev5 hX5 hR5 hTW5 hbw hbw5
      have hn0 : 0 ≤ (ks.length : Int) / 4 + (wait : Nat) := by omega
      have hn1 : (ks.length : Int) / 4 + (wait : Nat) ≤ 55 := by omega
      go_wp2_with fail
      obtain ⟨now, hnow⟩ : ∃ now, now = (ks.length : Int) / 4 + (wait : Nat) := ⟨_, rfl⟩
      rw [← hnow] at him hn0 hn1 ⊢
      clear hnow hla
      refine him.mono ?_
      rintro e w6 ⟨G6, T6, n6, c6, pl6, ev6, hF6, hT6, rfl, hev6, hX6, hR6⟩
      obtain ⟨hn6, rfl, rfl, rfl⟩ := import_text HI.out.ok (by decide) (by decide) hX6 (by show (0 : Int) ≤ 1; decide) ⟨hn0, by omega, by show (0 : Int) ≤ now; omega⟩
      obtain rfl := err0 hev6
      have hall : (S.L.filter fun x => Lh.hup (bnew0 three 13 20).hs x.2.1) = S.L := List.filter_eq_self.2 fun x hx => by
        have h1 := HI.out.up x hx
        rw [HA.out.hs] at h1
        exact h1
      have hlen : S.L.length ≤ 60 := Nat.le_trans HI.out.len hl
      have hfa : Lh.fadd now (bnew0 three 13 20).L (S.L.filter fun x => Lh.hup (bnew0 three 13 20).hs x.2.1) = livef now S.L := by
        rw [hall]
        exact fadd_all S.L [] HI.out.ok.ok.rise (by simpa using (by omega : S.L.length ≤ 200)) fun x hx => by have := HU.out x hx; omega
      rw [hfa] at hn6 hR6
      have hTW6 := (HTW5.out.turned hR6 hF6 hT6).swap
      have HTW6 : Hid (TwoB hC w2.heap.size w2 w6 { S with ep := 1 } { bnew0 three 13 20 with ep := 1, la := now, L := livef now S.L } F5 G6 p q) := hTW6
      obtain rfl : n6 = (livef now S.L).length := by rw [hn6]; simp [bnew0]
      have hfl := hC.flows _ F5 p w6 hTW6.one (HI.out.ok.epoch (by decide) (by decide))
      clear him hF6 hT6 hev6 hX6 hR6 hTW6 hall hfa hn6 HTW HTW5
      go_wp2_with fail
      refine hfl.mono ?_
      rintro e w7 ⟨v7, rfl, hv7, hb7⟩
      obtain ⟨lp, lc, rfl, hlc, hlz, hcm⟩ := cmp_start hv7 now
      have HCM : Hid (Cmp w6.heap.size lp S.L now 0 w7) := hcm
      have HB7 : Hid (Below w6.heap.size w6 w7) := hb7
      clear hfl hv7 hcm hb7
      simp only []
      go_wp2_with fail
      go_loopw [20, 21] (fun u v W => ∃ i : Nat, i ≤ S.L.length ∧ v = .int .i64 (i : Nat) ∧ u = .int .i64 (((livef now (S.L.take i)).length : Nat) : Int) ∧ Cmp w6.heap.size lp S.L now i W ∧ Below w6.heap.size w6 W) (fun _ v _ => S.L.length - (intOf v).toNat)
      case atStart => exact ⟨0, Nat.zero_le _, rfl, rfl, HCM.out, HB7.out⟩
      case round =>
        clear HCM HB7
        obtain ⟨i, hi, rfl, rfl, hcm, hb⟩ := hrel
        obtain ⟨wp, hwp⟩ : ∃ wp, wp = wr := ⟨_, rfl⟩
        subst hwp
        have HCM : Hid (Cmp w6.heap.size lp S.L now i wp) := hcm
        have HB : Hid (Below w6.heap.size w6 wp) := hb
        by_cases hlt : i < S.L.length
        · have hki : (i : Int) < (S.L.length : Int) := by omega
          obtain ⟨g, rfl, q0, q1, q2⟩ := hcm.rest i hlt (Nat.le_refl _)
          obtain ⟨g', hg', hBg, hfr⟩ := hcm.big (by omega)
          obtain rfl : g = g' := by simpa using hg'
          have hk := livef_le now S.L i
          have HS := livef_succ now S.L hlt
          obtain ⟨x, hx⟩ : ∃ x, S.L[i] = x := ⟨_, rfl⟩
          rw [hx] at q0 q1 q2 HS
          by_cases hu : now < x.2.2
          · obtain ⟨k, hke⟩ : ∃ k, (livef now (S.L.take i)).length = k := ⟨_, rfl⟩
            rw [hke] at hk
            have f0 := (hfr (k * 3) (by omega)).1
            have f1 := (hfr (k * 3 + 1) (by omega)).1
            have f2 := (hfr (k * 3 + 2) (by omega)).1
            obtain ⟨z0, p0⟩ := Option.isSome_iff_exists.1 (hfr (k * 3) (by omega)).2
            obtain ⟨z1, p1⟩ := Option.isSome_iff_exists.1 (hfr (k * 3 + 1) (by omega)).2
            obtain ⟨z2, p2⟩ := Option.isSome_iff_exists.1 (hfr (k * 3 + 2) (by omega)).2
            have hkl : (k : Int) < (S.L.length : Int) := by omega
            clear hcm hb hg' hfr
            have HKE : Hid ((livef now (S.L.take i)).length = k) := hke
            have HX : Hid (S.L[i] = x) := hx
            rw [hke]
            clear hke hx
            go_wp2_with fail
            obtain ⟨hc', hk'⟩ := HCM.out.stays hlt HX.out hu HKE.out
            exact ⟨⟨i + 1, by omega, by go_num, by rw [hk']; go_num, hc', below_put3 HB.out hBg k x⟩, by simp [intOf]; omega⟩
          · have hu' : ¬ now < S.L[i].2.2 := by rw [hx]; exact hu
            obtain ⟨hc', hk'⟩ := hcm.gone hlt hu'
            have HC : Hid (Cmp w6.heap.size (some ⟨g, 0, none⟩) S.L now (i + 1) wp) := hc'
            have HK : Hid ((livef now (S.L.take (i + 1))).length = (livef now (S.L.take i)).length) := congrArg List.length hk'
            clear hcm hb hg' hfr hx HS hu' hc' hk'
            go_wp2_with fail
            exact ⟨⟨i + 1, by omega, by go_num, by rw [HK.out], HC.out, HB.out⟩, by simp [intOf]; omega⟩
        · obtain rfl : i = S.L.length := by omega
          rw [List.take_length]
          have hbo := over_bok HI.out.ok (e := 1) (now := now) (by decide) (by decide) hn0 (by omega) (M := livef now S.L) List.filter_sublist
          have hTWp := HTW6.out.later hb
          have hfl2 := hC.flows _ G6 q wp hTWp.two hbo
          have hle : (livef now S.L).length ≤ S.L.length := List.length_filter_le _ _
          have HTWp : Hid (TwoB hC w2.heap.size w2 wp { S with ep := 1 } { bnew0 three 13 20 with ep := 1, la := now, L := livef now S.L } F5 G6 p q) := hTWp
          have HF1 : Hid (Flows1 wp (.slice lp (livef now S.L).length lc) (livef now S.L)) := hcm.end_ hlc hlz
          clear hcm hb hTWp HTW6 hbo
          simp only [] at hfl2
          go_wp2_with fail
          obtain ⟨M, hM⟩ : ∃ M, M = livef now S.L := ⟨_, rfl⟩
          rw [← hM] at hfl2 hle HTWp HF1 ⊢
          have hMl : M.length ≤ 60 := by omega
          have hkc : (M.length : Int) ≤ (lc : Int) := by omega
          have hk0 : (0 : Int) ≤ (M.length : Int) := by omega
          have HFL : Hid (∀ W, Below wp.heap.size wp W → Calls Tryz.prog 13 #[.pointer (some ⟨q, 0, none⟩)] W fun e w' => ∃ v, e = .returned v ∧ Flows1 w' v M ∧ Below wp.heap.size wp w') := fun W hW => (hC.flows _ G6 q W (hC.later HTWp.out.two hW) (by rw [hM]; exact over_bok HI.out.ok (e := 1) (now := now) (by decide) (by decide) hn0 (by omega) List.filter_sublist)).mono fun _ _ ⟨v, q1, q2, q3⟩ => ⟨v, q1, q2.flows, below_then hW q3⟩
          have HSF : Hid (∀ W v, Below wp.heap.size wp W → Flows1 W v M → Calls Tryz.prog 14 #[v, .slice lp M.length lc] W fun e w' => e = .returned (.bool true) ∧ Below wp.heap.size wp w') := fun W v hW hv => (sameFlows_same v _ M W hv (HF1.out.later hW) (by omega)).mono fun _ _ ⟨q1, q2⟩ => ⟨q1, below_then hW q2⟩
          have HEX : Hid (∀ W, Below wp.heap.size wp W → Calls Tryz.prog 15 #[.pointer (some ⟨p, 0, none⟩)] W fun e w' => e = .returned (.int .i64 1) ∧ Below wp.heap.size wp w') := fun W hW => (hC.epoch _ F5 p W (hC.later HTWp.out.one hW)).mono fun _ _ ⟨q1, q2⟩ => ⟨q1, below_then hW q2⟩
          have HEY : Hid (∀ W, Below wp.heap.size wp W → Calls Tryz.prog 15 #[.pointer (some ⟨q, 0, none⟩)] W fun e w' => e = .returned (.int .i64 1) ∧ Below wp.heap.size wp w') := fun W hW => (hC.epoch _ G6 q W (hC.later HTWp.out.two hW)).mono fun _ _ ⟨q1, q2⟩ => ⟨q1, below_then hW q2⟩
          clear hfl2 hM
          go_region_held3 (fun w' => Below wp.heap.size wp w')
            (first | assumption | exact below_drewN (Below.refl _ _) 1 | exact Below.refl _ _)
            (first
              | (go_at_call 13; refine (HFL.out _ (by first | assumption | exact Below.refl _ _ | exact below_drewN (Below.refl _ _) 1)).mono ?_; rintro e w10 ⟨v10, rfl, hv10, hb10⟩)
              | (go_at_call 14; refine (HSF.out _ _ (by assumption) (by assumption)).mono ?_; rintro e w11 ⟨rfl, hb11⟩)
              | (go_at_call 15; refine (HEX.out _ (by assumption)).mono ?_; rintro e w12 ⟨rfl, hb12⟩)
              | (go_at_call 15; refine (HEY.out _ (by assumption)).mono ?_; rintro e w13 ⟨rfl, hb13⟩))
          all_goals
            go_wp2
            go_ret
            exact ⟨rfl, below_then (below_then HB2.out HTWp.out.below) (by assumption)⟩
end Go.Proofs.YtmkdpchodeckgaaGreatDoor

/- The law BalanceOver, over the landed package's contracts: all numbers. -/
namespace Go.Proofs.YtmkdpchodeckgaaGreatDoor
open Go.RowKit

set_option maxHeartbeats 1000000 in
theorem over_e1 (hC : BalanceC) (a : Nat → Addr) (op : Option Addr) (n oc : Nat) (x : Int) (w : World) (he : hC.E a w) (hl : n ≤ maxLen) (c1 : 60 < n) :
    Calls Tryz.prog 5 #[.slice op n oc, .int .i64 x] w fun e w' => e = .returned (.bool true) ∧ Below w.heap.size w w' := by
  have hbl := balanced_any hC a w he
  have hn2 : n ≤ 9223372036854775807 := by unfold maxLen at hl; omega
  have d1 : decide (60 < (n : Int)) = true := by simp; omega
  clear he hl c1
  go_enter Tryz.func5, Tryz.ntmps5
  go_wp2_with fail
  refine hbl.mono ?_
  rintro e w1 ⟨rfl, hb1⟩
  clear hbl
  go_wp2
  go_ret
  exact ⟨rfl, hb1⟩
set_option maxHeartbeats 1000000 in
theorem over_e2 (hC : BalanceC) (a : Nat → Addr) (op : Option Addr) (n oc : Nat) (x : Int) (w : World) (he : hC.E a w) (hl : n ≤ maxLen) (c1 : ¬ 60 < n) (c2 : x < 0) :
    Calls Tryz.prog 5 #[.slice op n oc, .int .i64 x] w fun e w' => e = .returned (.bool true) ∧ Below w.heap.size w w' := by
  have hbl := balanced_any hC a w he
  have hn2 : n ≤ 9223372036854775807 := by unfold maxLen at hl; omega
  have d1 : decide (60 < (n : Int)) = false := by simp; omega
  have d2 : decide (x < 0) = true := decide_eq_true c2
  clear he hl c1 c2
  go_enter Tryz.func5, Tryz.ntmps5
  go_wp2_with fail
  refine hbl.mono ?_
  rintro e w1 ⟨rfl, hb1⟩
  clear hbl
  go_wp2
  go_ret
  exact ⟨rfl, hb1⟩
set_option maxHeartbeats 1000000 in
theorem over_e3 (hC : BalanceC) (a : Nat → Addr) (op : Option Addr) (n oc : Nat) (x : Int) (w : World) (he : hC.E a w) (hl : n ≤ maxLen) (c1 : ¬ 60 < n) (c2 : ¬ x < 0) (c3 : 40 < x) :
    Calls Tryz.prog 5 #[.slice op n oc, .int .i64 x] w fun e w' => e = .returned (.bool true) ∧ Below w.heap.size w w' := by
  have hbl := balanced_any hC a w he
  have hn2 : n ≤ 9223372036854775807 := by unfold maxLen at hl; omega
  have d1 : decide (60 < (n : Int)) = false := by simp; omega
  have d2 : decide (x < 0) = false := decide_eq_false c2
  have d3 : decide (40 < x) = true := decide_eq_true c3
  clear he hl c1 c2 c3
  go_enter Tryz.func5, Tryz.ntmps5
  go_wp2_with fail
  refine hbl.mono ?_
  rintro e w1 ⟨rfl, hb1⟩
  clear hbl
  go_wp2
  go_ret
  exact ⟨rfl, hb1⟩
/-- BalanceOver of any keys, and any number. -/
theorem over_any (hC : BalanceC) (a : Nat → Addr) (op : Option Addr) (oc : Nat) (ks : List Nat) (x : Int) (w : World) (he : hC.E a w) (hxx : hC.X a w) (hl : ks.length ≤ maxLen) (ho : ∀ k (h : k < ks.length), ∃ b o, op = some ⟨b, o, none⟩ ∧ w.cell? ⟨b, o + k, none⟩ = some (.int .u64 (ks[k] : Nat))) (hoz : ∀ z ∈ ks, z < 18446744073709551616) :
    Calls Tryz.prog 5 #[.slice op ks.length oc, .int .i64 x] w fun e w' => e = .returned (.bool true) ∧ Below w.heap.size w w' := by
  by_cases c1 : 60 < ks.length
  · exact over_e1 hC a op ks.length oc x w he hl c1
  · by_cases c2 : x < 0
    · exact over_e2 hC a op ks.length oc x w he hl c1 c2
    · by_cases c3 : 40 < x
      · exact over_e3 hC a op ks.length oc x w he hl c1 c2 c3
      · obtain ⟨q, rfl⟩ := Int.eq_ofNat_of_zero_le (show 0 ≤ x by omega)
        exact over_core hC a op oc ks q w he hxx (by omega) (by omega) ho hoz
end Go.Proofs.YtmkdpchodeckgaaGreatDoor
