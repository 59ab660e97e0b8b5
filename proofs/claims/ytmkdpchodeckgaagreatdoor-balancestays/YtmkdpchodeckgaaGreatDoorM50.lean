/- The law BalanceStays, over the landed package's contracts, where its numbers are right. -/
import Derived.Test.YtmkdpchodeckgaaGreatDoorM49
import Derived.Deep.RegionHeld3
import Derived.Test.YtmkdpchodeckgaaGreatDoorM1
import Derived.ChangeSlices
import Derived.Deep.Slices
namespace Go.Proofs.YtmkdpchodeckgaaGreatDoor
open Go.RowKit

/-- an act: its kind, its host, its text, its key, its tick, is -/
structure Ba where
  kind : ByteArray
  host : ByteArray
  text : ByteArray
  key : Nat
  now : Int
  is : Bool
/-- acts in memory, where they are read -/
def BActsAt (w : World) (p : Option Addr) (l : List Ba) : Prop := ∀ k (h : k < l.length), ∃ b o, p = some ⟨b, o, none⟩ ∧ w.cell? ⟨b, o + k * 6, none⟩ = some (.string l[k].kind) ∧ w.cell? ⟨b, o + k * 6 + 1, none⟩ = some (.string l[k].host) ∧ w.cell? ⟨b, o + k * 6 + 2, none⟩ = some (.string l[k].text) ∧ w.cell? ⟨b, o + k * 6 + 3, none⟩ = some (.int .u64 (l[k].key : Nat)) ∧ w.cell? ⟨b, o + k * 6 + 4, none⟩ = some (.int .i64 l[k].now) ∧ w.cell? ⟨b, o + k * 6 + 5, none⟩ = some (.bool l[k].is)
theorem BActsAt.later {w w' : World} {p : Option Addr} {l : List Ba} (h : BActsAt w p l) (hb : Below w.heap.size w w') : BActsAt w' p l := fun k hk => by
  obtain ⟨b, o, e, h0, h1, h2, h3, h4, h5⟩ := h k hk
  exact ⟨b, o, e, below_cell hb h0, below_cell hb h1, below_cell hb h2, below_cell hb h3, below_cell hb h4, below_cell hb h5⟩
structure BaOk (x : Ba) : Prop where
  kind : x.kind.size ≤ maxLen
  host : x.host.size ≤ maxLen
  key : x.key < 18446744073709551616
/-- a balance; and, as long as it is not carried over, another one that is new -/
structure SX (hC : BalanceC) (B : Nat) (w W : World) (bef : Prop) (S : Lh.Bl) (F G : Nat → Prop) (P q : Nat) : Prop where
  hB : B ≤ w.heap.size
  below : Below B w W
  rep : hC.Rep S F P W
  fb : ∀ b, F b → B ≤ b
  bef : bef → S.ep = 0 ∧ hC.Rep (bnew0 five 31 20) G q W ∧ (∀ b, G b → B ≤ b) ∧ ∀ b, F b → ¬ G b
section
variable {hC : BalanceC} {B : Nat} {w W W' : World} {S S' : Lh.Bl} {F F' G : Nat → Prop} {P q : Nat} {bef : Prop}
theorem SX.size (h : SX hC B w W bef S F G P q) : B ≤ W.heap.size := Nat.le_trans h.hB h.below.size
theorem SX.turned (h : SX hC B w W bef S F G P q) (hR : hC.Rep S' F' P W') (hF : ∀ b, F' b → F b ∨ W.heap.size ≤ b) (hT : Tur F W W') (he : S'.ep = S.ep) : SX hC B w W' bef S' F' G P q := by
  refine ⟨h.hB, hT.below h.fb h.below h.hB, hR, fun b hb => ?_, fun hbef => ?_⟩
  · rcases hF b hb with h1 | h1
    · exact h.fb b h1
    · exact Nat.le_trans h.size h1
  · obtain ⟨h1, h2, h3, h4⟩ := h.bef hbef
    refine ⟨he.trans h1, hC.stay h2 hT.size fun b hb => hT.block b (hC.lt h2 b hb) fun hf => h4 b hf hb, h3, fun b hb hg => ?_⟩
    rcases hF b hb with h5 | h5
    · exact h4 b h5 hg
    · have := hC.lt h2 b hg
      omega
theorem SX.later (h : SX hC B w W bef S F G P q) (hb : Below W.heap.size W W') : SX hC B w W' bef S F G P q :=
  h.turned (hC.later h.rep hb) (fun _ hf => Or.inl hf) (Tur.of_below hb) rfl
theorem SX.after (h : SX hC B w W bef S F G P q) {bef' : Prop} (hb : bef' → bef) : SX hC B w W bef' S F G P q := ⟨h.hB, h.below, h.rep, h.fb, fun h' => h.bef (hb h')⟩
theorem SX.two (h : SX hC B w W bef S F G P q) (hb : bef) : TwoB hC B w W S (bnew0 five 31 20) F G P q := ⟨h.hB, h.below, h.rep, (h.bef hb).2.1, h.fb, (h.bef hb).2.2.1, (h.bef hb).2.2.2⟩
end

theorem ne_of_bytes {s z : ByteArray} (h : (s.toList == z.toList) = false) : s ≠ z := fun e => by
  subst e
  rw [beq_self_eq_true] at h
  cases h
set_option maxRecDepth 100000 in
set_option maxHeartbeats 8000000 in
theorem stays_core (hC : BalanceC) (a : Nat → Addr) (key : Nat) (lp : Option Addr) (lc : Nat) (l : List Ba) (over : Nat) (w : World) (he : hC.E a w) (hxx : hC.X a w) (hl : l.length ≤ 60) (ho63 : over ≤ 9223372036854775807) (hkey : key < 18446744073709551616) (hla : BActsAt w lp l) (hls : ∀ x ∈ l, BaOk x) :
    Calls Tryz.prog 4 #[.int .u64 (key : Nat), .slice lp l.length lc, .int .i64 (over : Nat)] w fun e w' => e = .returned (.bool true) ∧ Below w.heap.size w w' := by
  have HE : Hid (hC.E a w) := he
  have HXX : Hid (hC.X a w) := hxx
  have HLA : Hid (BActsAt w lp l) := hla
  have HLS : Hid (∀ x ∈ l, BaOk x) := hls
  have hbl := balanced_any hC a w he
  have d1 : decide (60 < (l.length : Int)) = false := by simp; omega
  have d2 : decide ((over : Int) < 0) = false := by simp
  clear he hxx hla hls
  go_enter Tryz.func4, Tryz.ntmps4
  go_wp2_with fail
  refine hbl.mono ?_
  rintro e w1 ⟨rfl, hb1⟩
  have hb2 : Below w1.heap.size w1 (w1.alloc (.cells #[.string nA, .string nB, .string nC, .string nD, .string nE] 9)) := (Below.refl _ _).alloc (Nat.le_refl _) _
  have hbw2 := below_then hb1 hb2
  obtain ⟨hf, hnd, hlx, h0, hsz, hnm⟩ := five_f
  have hst := five_strs w1
  have hnew := hC.newG a _ five 31 20 1 1 _ (hC.eLater HE.out hbw2) hst h0 hf hsz prm31 (by decide) (by decide) (by decide) (by decide) (by decide) (by decide) (by decide)
  have e1 : (w1.alloc (.cells #[.string nA, .string nB, .string nC, .string nD, .string nE] 9)) = w1.alloc (.cells #[.string ⟨#[97]⟩, .string ⟨#[98]⟩, .string ⟨#[99]⟩, .string ⟨#[100]⟩, .string ⟨#[101]⟩] 9) := rfl
  rw [e1] at hnew hbw2 hst
  clear hbl hb1 hb2
  go_wp2_with fail
  clear e1
  generalize w1.alloc (.cells #[.string ⟨#[97]⟩, .string ⟨#[98]⟩, .string ⟨#[99]⟩, .string ⟨#[100]⟩, .string ⟨#[101]⟩] 9) = w2 at *
  refine hnew.mono ?_
  rintro e w3 ⟨p, F, rfl, hR, hF, hb3⟩
  have hbw3 := below_then hbw2 hb3
  have hnew2 := hC.newG a _ five 31 20 1 1 w3 (hC.eLater HE.out hbw3) (hst.later hb3) h0 hf hsz prm31 (by decide) (by decide) (by decide) (by decide) (by decide) (by decide) (by decide)
  have HR : Hid (hC.Rep (bnew0 five 31 20) F p w3) := hR
  have HF : Hid (∀ b, F b → w2.heap.size ≤ b) := hF
  have HB2 : Hid (Below w.heap.size w w2) := hbw2
  have HB3 : Hid (Below w2.heap.size w2 w3) := hb3
  clear hnew hR hF hb3 hbw2 hbw3 hf hnd hlx h0 hsz hnm hst
  go_wp2_with fail
  refine hnew2.mono ?_
  rintro e w4 ⟨q, G, rfl, hR4, hG4, hb4⟩
  have hSX4 : SX hC w2.heap.size w2 w4 (0 ≤ over) (bnew0 five 31 20) F G p q := ⟨Nat.le_refl _, below_then HB3.out hb4, hC.later HR.out hb4, HF.out, fun _ => ⟨rfl, hR4, fun b hb => Nat.le_trans HB3.out.size (hG4 b hb), fun b hb hg => by
    have h1 := hC.lt HR.out b hb
    have h2 := hG4 b hg
    omega⟩⟩
  have hpk := hC.pick a _ F p key 0 w4 (hC.eLater HE.out (below_then HB2.out hSX4.below)) hSX4.rep five_bok hkey
  have HSX4 : Hid (SX hC w2.heap.size w2 w4 (0 ≤ over) (bnew0 five 31 20) F G p q) := hSX4
  clear hnew2 hR4 hG4 hb4 HR HF HB3 hSX4
  go_wp2_with fail
  refine hpk.mono ?_
  rintro e w5 ⟨F5, S5, mine, kept5, c5, ev5, hF5, hT5, rfl, hev5, hX5, hR5⟩
  obtain ⟨rfl, hm5, hI5, hla5, hep5⟩ := kinv_first hC.nwIn hX5 hkey
  obtain rfl := evOf_nil hev5
  have HSX5 : Hid (SX hC w2.heap.size w2 w5 (0 ≤ over) S5 F5 G p q) := HSX4.out.turned hR5 hF5 hT5 hep5
  have HI5 : Hid (KInv S5 key mine 19 1) := hI5
  have HL5 : Hid (S5.la = 0) := hla5
  have HM5 : Hid (mine ∈ five) := hm5
  clear hpk hF5 hT5 hev5 hX5 hR5 hm5 hI5 hla5 hep5 HSX4
  go_wp2_with fail
  go_loopw [9, 16, 17] (fun x n v W => ∃ (i : Nat) (S : Lh.Bl) (F : Nat → Prop) (P : Nat), i ≤ l.length ∧ v = .int .i64 (i : Nat) ∧ n = .int .i64 (i : Nat) ∧ x = .pointer (some ⟨P, 0, none⟩) ∧ SX hC w2.heap.size w2 W (i ≤ over) S F G P q ∧ KInv S key mine ((i : Int) + 19) (2 * i + 1) ∧ S.la = (i : Int)) (fun _ _ v _ => l.length - (intOf v).toNat)
  case atStart => exact ⟨0, S5, F5, p, Nat.zero_le _, rfl, rfl, rfl, HSX5.out, HI5.out, HL5.out⟩
  case round =>
    clear HSX5 HI5 HL5
    obtain ⟨i, S, F, P, hi, rfl, rfl, rfl, hSX, hI, hla⟩ := hrel
    obtain ⟨wo, hwo⟩ : ∃ wo, wo = wr := ⟨_, rfl⟩
    subst hwo
    have hbw : Below w.heap.size w wo := below_then HB2.out hSX.below
    by_cases hlt : i < l.length
    · have hki : (i : Int) < (l.length : Int) := by omega
      obtain ⟨b, o, rfl, k0, k1, k2, k3, k4, k5⟩ := HLA.out i hlt
      replace k0 := below_cell hbw k0
      replace k1 := below_cell hbw k1
      replace k2 := below_cell hbw k2
      replace k3 := below_cell hbw k3
      replace k4 := below_cell hbw k4
      replace k5 := below_cell hbw k5
      have hok := HLS.out _ (List.getElem_mem hlt)
      obtain ⟨x, hx⟩ : ∃ x, l[i] = x := ⟨_, rfl⟩
      rw [hx] at k0 k1 k2 k3 k4 k5 hok
      clear hx
      obtain ⟨kd, ho, tx, ky, nw, is⟩ := x
      obtain ⟨hs1, hs2, hs3⟩ := hok
      dsimp only at k0 k1 k2 k3 k4 k5 hs1 hs2 hs3
      obtain ⟨ab, hab⟩ : ∃ ab, wo.heap.size = ab := ⟨_, rfl⟩
      obtain ⟨wa, hwa⟩ : ∃ wa, wa = wo.alloc (.cells #[.string kd, .string ho, .string tx, .int .u64 (ky : Nat), .int .i64 nw, .bool is] 38) := ⟨_, rfl⟩
      have x0 : wa.cell? ⟨ab, 0, none⟩ = some (.string kd) := by rw [hwa, ← hab]; simp
      have x1 : wa.cell? ⟨ab, 1, none⟩ = some (.string ho) := by rw [hwa, ← hab]; simp
      have x3 : wa.cell? ⟨ab, 3, none⟩ = some (.int .u64 (ky : Nat)) := by rw [hwa, ← hab]; simp
      have x5 : wa.cell? ⟨ab, 5, none⟩ = some (.bool is) := by rw [hwa, ← hab]; simp
      have hSXa : SX hC w2.heap.size w2 wa (i ≤ over) S F G P q := by rw [hwa]; exact hSX.later ((Below.refl _ _).alloc (Nat.le_refl _) _)
      have hEa : hC.E a wa := hC.eLater HE.out (below_then HB2.out hSXa.below)
      have hlk := hC.look a S F P ho is wa hEa hSXa.rep hI.ok hs2
      have hdr := hC.drain a S F P ho is wa hEa hSXa.rep hI.ok hs2
      have hpk := hC.pick a S F P ky (i : Int) wa hEa hSXa.rep hI.ok hs3
      have HSX : Hid (SX hC w2.heap.size w2 wa (i ≤ over) S F G P q) := hSXa
      have HI : Hid (KInv S key mine ((i : Int) + 19) (2 * i + 1)) := hI
      have HLA1 : Hid (S.la = (i : Int)) := hla
      have hsplit : ((kd.toList == [108, 111, 111, 107]) = true ∧ (ho.toList == mine.toList) = false) ∨ ((kd.toList == [108, 111, 111, 107]) = true ∧ (ho.toList == mine.toList) = true) ∨ ((kd.toList == [108, 111, 111, 107]) = false ∧ (kd.toList == [100, 114, 97, 105, 110]) = true) ∨ ((kd.toList == [108, 111, 111, 107]) = false ∧ (kd.toList == [100, 114, 97, 105, 110]) = false) := by
        cases (kd.toList == [108, 111, 111, 107]) <;> cases (kd.toList == [100, 114, 97, 105, 110]) <;> cases (ho.toList == mine.toList) <;> simp
      clear hSX hI hla hSXa hEa hbw
      by_cases hio : i = over
      · obtain rfl : over = i := hio.symm
        rcases hsplit with ⟨hq1, hq2⟩ | ⟨hq1, hq2⟩ | ⟨hq1, hq2⟩ | ⟨hq1, hq2⟩
        case' pos.inl =>
          clear hdr hpk
          go_wp2_with fail
          rw [← hwa]
          clear hwa
          refine hlk.mono ?_
          rintro e w6 ⟨F6, S6, tu6, c6, ev6, hF6, hT6, rfl, hev6, hX6, hR6⟩
          obtain ⟨hI6, hl6, he6⟩ := HI.out.look hX6 (ne_of_bytes hq2)
          have HSX6 : Hid (SX hC w2.heap.size w2 w6 (over ≤ over) S6 F6 G P q) := HSX.out.turned hR6 hF6 hT6 he6
          have HI6 : Hid (KInv S6 key mine ((over : Int) + 19) (2 * over + 2)) := hI6.more (by omega)
          have HL6 : Hid (S6.la = (over : Int)) := hl6.trans HLA1.out
          clear hlk hF6 hT6 hev6 hX6 hR6 hI6 hl6 he6
        case' pos.inr.inl =>
          clear hdr hpk hlk
          obtain ⟨w6, rfl⟩ : ∃ w6, w6 = wa := ⟨_, rfl⟩
          have HSX6 : Hid (SX hC w2.heap.size w2 w6 (over ≤ over) S F G P q) := HSX.out
          have HI6 : Hid (KInv S key mine ((over : Int) + 19) (2 * over + 2)) := HI.out.more (by omega)
          have HL6 : Hid (S.la = (over : Int)) := HLA1.out
          obtain ⟨F6, rfl⟩ : ∃ F6, F6 = F := ⟨_, rfl⟩
          obtain ⟨S6, rfl⟩ : ∃ S6, S6 = S := ⟨_, rfl⟩
        case' pos.inr.inr.inl =>
          clear hlk hpk
          go_wp2_with fail
          rw [← hwa]
          clear hwa
          refine hdr.mono ?_
          rintro e w6 ⟨F6, S6, c6, ev6, hF6, hT6, rfl, hev6, hX6, hR6⟩
          obtain ⟨hI6, hl6, he6⟩ := HI.out.drain hX6
          have HSX6 : Hid (SX hC w2.heap.size w2 w6 (over ≤ over) S6 F6 G P q) := HSX.out.turned hR6 hF6 hT6 he6
          have HI6 : Hid (KInv S6 key mine ((over : Int) + 19) (2 * over + 2)) := hI6.more (by omega)
          have HL6 : Hid (S6.la = (over : Int)) := hl6.trans HLA1.out
          clear hdr hF6 hT6 hev6 hX6 hR6 hI6 hl6 he6
        case' pos.inr.inr.inr =>
          clear hlk hdr
          go_wp2_with fail
          rw [← hwa]
          clear hwa
          refine hpk.mono ?_
          rintro e w6 ⟨F6, S6, s6, kept6, c6, ev6, hF6, hT6, rfl, hev6, hX6, hR6⟩
          obtain ⟨hI6, hl6, he6⟩ := HI.out.pick hC.nwIn hX6 hs3 (by omega) (by omega) (by have := HLA1.out; omega) (by omega) (by omega) (by omega)
          have HSX6 : Hid (SX hC w2.heap.size w2 w6 (over ≤ over) S6 F6 G P q) := HSX.out.turned hR6 hF6 hT6 he6
          have HI6 : Hid (KInv S6 key mine ((over : Int) + 19) (2 * over + 2)) := hI6
          have HL6 : Hid (S6.la = (over : Int)) := hl6
          clear hpk hF6 hT6 hev6 hX6 hR6 hI6 hl6 he6
        all_goals
          have hx6 := hC.export_ a S6 F6 P w6 (hC.eLater HE.out (below_then HB2.out HSX6.out.below)) (hC.xLater HXX.out (below_then HB2.out HSX6.out.below)) HSX6.out.rep HI6.out.ok
          clear HSX HI HLA1
          go_wp2_with fail
          try rw [← hwa]
          refine hx6.mono ?_
          rintro e w7 ⟨F7, S7, s7, c7, ev7, hF7, hT7, rfl, hev7, hX7, hR7⟩
          obtain ⟨rfl, rfl, rfl⟩ : s7 = Lh.bt (Lh.textL ((1 : Int)).toNat S6.L) ∧ c7 = 0 ∧ S7 = { S6 with ep := 1 } := by
            have hep : S6.ep = 0 := (HSX6.out.bef (Nat.le_refl _)).1
            rcases hX7 with ⟨_, h1, h2, h3⟩ | ⟨h, _⟩
            · rw [hep] at h1 h3
              exact ⟨h1, h2, h3⟩
            · rw [hep] at h
              exact absurd (by decide) h
          obtain rfl := evOf_nil hev7
          have hTW7 := ((HSX6.out.two (Nat.le_refl _)).turned hR7 hF7 hT7).swap
          have him := hC.import_ a _ G q (Lh.textL ((1 : Int)).toNat S6.L) ((over : Int) + 1) w7 (hC.eLater HE.out (below_then HB2.out hTW7.below)) (hC.xLater HXX.out (below_then HB2.out hTW7.below)) hTW7.one five_bok (by have := text_len (caF_of HI6.out.ok (e := 1) (by decide) (by decide)) (keyIn_of HI6.out.ok); omega)
          have HTW7 : Hid (TwoB hC w2.heap.size w2 w7 (bnew0 five 31 20) { S6 with ep := 1 } G F7 q P) := hTW7
          clear hx6 hF7 hT7 hev7 hX7 hR7 hTW7
          go_wp2_with fail
          refine him.mono ?_
          rintro e w8 ⟨G8, S8, n8, c8, pl8, ev8, hF8, hT8, rfl, hev8, hX8, hR8⟩
          obtain ⟨rfl, rfl, hI8, hl8⟩ := HI6.out.over (by omega) HM5.out hX8 (by omega) (by omega) (by omega)
          obtain rfl := err0 hev8
          have hTW8 := HTW7.out.turned hR8 hF8 hT8
          have HSX8 : Hid (SX hC w2.heap.size w2 w8 (over + 1 ≤ over) S8 G8 G q q) := ⟨hTW8.hB, hTW8.below, hTW8.one, hTW8.fb, fun h => absurd h (by omega)⟩
          have hp8 := hC.pick a S8 G8 q key ((over : Int) + 1) w8 (hC.eLater HE.out (below_then HB2.out hTW8.below)) hTW8.one hI8.ok hkey
          have HI8 : Hid (KInv S8 key mine ((over : Int) + 19) (2 * over + 2)) := hI8
          have HL8 : Hid (S8.la = (over : Int) + 1) := hl8
          clear him hF8 hT8 hev8 hX8 hR8 hI8 hl8 hTW8 HTW7
          go_wp2_with fail
          refine hp8.mono ?_
          rintro e w9 ⟨F9, S9, s9, kept9, c9, ev9, hF9, hT9, rfl, hev9, hX9, hR9⟩
          obtain ⟨rfl, rfl, rfl, hI9, hl9, he9⟩ := HI8.out.ownKey hX9 hkey (by omega) (by omega) (by have := HL8.out; omega) (by omega) (by omega) (by omega)
          obtain rfl := evOf_nil hev9
          have HSX9 : Hid (SX hC w2.heap.size w2 w9 (over + 1 ≤ over) S9 F9 G q q) := HSX8.out.turned hR9 hF9 hT9 he9
          have e9 : ((over + 1 : Nat) : Int) = (over : Int) + 1 := by omega
          have HI9 : Hid (KInv S9 key s9 (((over + 1 : Nat) : Int) + 19) (2 * (over + 1) + 1)) := by
            rw [e9]
            exact hI9.more (by omega)
          have HL9 : Hid (S9.la = ((over + 1 : Nat) : Int)) := by
            rw [e9]
            exact hl9
          have d9 : (s9.toList == s9.toList) = true := beq_self_eq_true _
          clear hp8 hF9 hT9 hev9 hX9 hR9 hI9 hl9 he9 e9
          go_wp2_with fail
          exact ⟨⟨over + 1, S9, F9, q, by omega, by go_num, by go_num, rfl, HSX9.out, HI9.out, HL9.out⟩, by simp [intOf]; omega⟩
      · have dio : decide ((i : Int) = (over : Int)) = false := by simp; omega
        have dio2 : ((i : Int) == (over : Int)) = false := by simp; omega
        rcases hsplit with ⟨hq1, hq2⟩ | ⟨hq1, hq2⟩ | ⟨hq1, hq2⟩ | ⟨hq1, hq2⟩
        case' neg.inl =>
          clear hdr hpk
          go_wp2_with fail
          rw [← hwa]
          clear hwa
          refine hlk.mono ?_
          rintro e w6 ⟨F6, S6, tu6, c6, ev6, hF6, hT6, rfl, hev6, hX6, hR6⟩
          obtain ⟨hI6, hl6, he6⟩ := HI.out.look hX6 (ne_of_bytes hq2)
          have HSX6 : Hid (SX hC w2.heap.size w2 w6 (i ≤ over) S6 F6 G P q) := HSX.out.turned hR6 hF6 hT6 he6
          have HI6 : Hid (KInv S6 key mine ((i : Int) + 19) (2 * i + 2)) := hI6.more (by omega)
          have HL6 : Hid (S6.la = (i : Int)) := hl6.trans HLA1.out
          clear hlk hF6 hT6 hev6 hX6 hR6 hI6 hl6 he6
        case' neg.inr.inl =>
          clear hdr hpk hlk
          obtain ⟨w6, rfl⟩ : ∃ w6, w6 = wa := ⟨_, rfl⟩
          have HSX6 : Hid (SX hC w2.heap.size w2 w6 (i ≤ over) S F G P q) := HSX.out
          have HI6 : Hid (KInv S key mine ((i : Int) + 19) (2 * i + 2)) := HI.out.more (by omega)
          have HL6 : Hid (S.la = (i : Int)) := HLA1.out
          obtain ⟨F6, rfl⟩ : ∃ F6, F6 = F := ⟨_, rfl⟩
          obtain ⟨S6, rfl⟩ : ∃ S6, S6 = S := ⟨_, rfl⟩
        case' neg.inr.inr.inl =>
          clear hlk hpk
          go_wp2_with fail
          rw [← hwa]
          clear hwa
          refine hdr.mono ?_
          rintro e w6 ⟨F6, S6, c6, ev6, hF6, hT6, rfl, hev6, hX6, hR6⟩
          obtain ⟨hI6, hl6, he6⟩ := HI.out.drain hX6
          have HSX6 : Hid (SX hC w2.heap.size w2 w6 (i ≤ over) S6 F6 G P q) := HSX.out.turned hR6 hF6 hT6 he6
          have HI6 : Hid (KInv S6 key mine ((i : Int) + 19) (2 * i + 2)) := hI6.more (by omega)
          have HL6 : Hid (S6.la = (i : Int)) := hl6.trans HLA1.out
          clear hdr hF6 hT6 hev6 hX6 hR6 hI6 hl6 he6
        case' neg.inr.inr.inr =>
          clear hlk hdr
          go_wp2_with fail
          rw [← hwa]
          clear hwa
          refine hpk.mono ?_
          rintro e w6 ⟨F6, S6, s6, kept6, c6, ev6, hF6, hT6, rfl, hev6, hX6, hR6⟩
          obtain ⟨hI6, hl6, he6⟩ := HI.out.pick hC.nwIn hX6 hs3 (by omega) (by omega) (by have := HLA1.out; omega) (by omega) (by omega) (by omega)
          have HSX6 : Hid (SX hC w2.heap.size w2 w6 (i ≤ over) S6 F6 G P q) := HSX.out.turned hR6 hF6 hT6 he6
          have HI6 : Hid (KInv S6 key mine ((i : Int) + 19) (2 * i + 2)) := hI6
          have HL6 : Hid (S6.la = (i : Int)) := hl6
          clear hpk hF6 hT6 hev6 hX6 hR6 hI6 hl6 he6
        all_goals
          have hp6 := hC.pick a S6 F6 P key ((i : Int) + 1) w6 (hC.eLater HE.out (below_then HB2.out HSX6.out.below)) HSX6.out.rep HI6.out.ok hkey
          clear HSX HI HLA1
          go_wp2_with fail
          try rw [← hwa]
          refine hp6.mono ?_
          rintro e w7 ⟨F7, S7, s7, kept7, c7, ev7, hF7, hT7, rfl, hev7, hX7, hR7⟩
          obtain ⟨rfl, rfl, rfl, hI7, hl7, he7⟩ := HI6.out.ownKey hX7 hkey (by omega) (by omega) (by have := HL6.out; omega) (by omega) (by omega) (by omega)
          obtain rfl := evOf_nil hev7
          have HSX7 : Hid (SX hC w2.heap.size w2 w7 (i + 1 ≤ over) S7 F7 G P q) := (HSX6.out.turned hR7 hF7 hT7 he7).after (by omega)
          have HI7 : Hid (KInv S7 key s7 (((i + 1 : Nat) : Int) + 19) (2 * (i + 1) + 1)) := by
            have h7 := hI7.more (m' := 2 * (i + 1) + 1) (by omega)
            have e7 : ((i + 1 : Nat) : Int) = (i : Int) + 1 := by omega
            rw [e7]
            exact h7
          have HL7 : Hid (S7.la = ((i + 1 : Nat) : Int)) := by
            have e7 : ((i + 1 : Nat) : Int) = (i : Int) + 1 := by omega
            rw [e7]
            exact hl7
          have d7 : (s7.toList == s7.toList) = true := beq_self_eq_true _
          clear hp6 hF7 hT7 hev7 hX7 hR7 hI7 hl7 he7
          go_wp2_with fail
          exact ⟨⟨i + 1, S7, F7, P, by omega, by go_num, by go_num, rfl, HSX7.out, HI7.out, HL7.out⟩, by simp [intOf]; omega⟩
    · obtain rfl : i = l.length := by omega
      clear hSX hI hla
      go_wp2
      go_ret
      exact ⟨rfl, hbw⟩
end Go.Proofs.YtmkdpchodeckgaaGreatDoor

/- A list of a balance's acts among the arguments. -/
namespace Go.Proofs.YtmkdpchodeckgaaGreatDoor
open Go.ChangeShapes Go.WideShapes Go.ChangeAt Go.RowKit

theorem cellsBA : Tryz.prog.cellsOf 38 = 6 := by kernel_rfl
theorem cellsBs : Tryz.prog.cellsOf 9 = 1 := by kernel_rfl
theorem cellsBu : Tryz.prog.cellsOf 32 = 1 := by kernel_rfl
theorem cellsBi : Tryz.prog.cellsOf 3 = 1 := by kernel_rfl
theorem cellsBb : Tryz.prog.cellsOf 4 = 1 := by kernel_rfl
theorem pick_listB {α : Type} {P : Nat → α → Prop} : ∀ n, (∀ i, i < n → ∃ x, P i x) → ∃ l : List α, l.length = n ∧ ∀ k (h : k < l.length), P k l[k]
  | 0, _ => ⟨[], rfl, fun k h => absurd h (by simp)⟩
  | n + 1, h => by
    obtain ⟨l, hl, hp⟩ := pick_listB n fun i hi => h i (by omega)
    obtain ⟨x, hx⟩ := h n (by omega)
    refine ⟨l ++ [x], by simp [hl], fun k hk => ?_⟩
    by_cases e : k < l.length
    · rw [List.getElem_append_left e]
      exact hp k e
    · have e2 : k = n := by simp at hk; omega
      subst e2
      simp only [← hl]
      rw [List.getElem_append_right (Nat.le_refl _)]
      simpa [hl] using hx
theorem six_ofB {α : Type} : ∀ {l : List α}, l.length = 6 → ∃ a b c d e f, l = [a, b, c, d, e, f]
  | [a, b, c, d, e, f], _ => ⟨a, b, c, d, e, f, rfl⟩
/-- acts as they are handed over -/
theorem open_bacts {H : Type} {enc : TypeId × Value → H} {W : World} {fuel : Nat} {x : DataW H × List MemPlace} {a0 : Option Addr} {len cap : Nat}
    (hf : DataW.trod enc Tryz.prog W 0 (fun _ => true) true fuel 36 [.slice a0 len cap] = some x) :
    ∃ l : List Ba, len = l.length ∧ BActsAt W a0 l ∧ l.length ≤ maxLen ∧ ∀ x ∈ l, BaOk x := by
  rcases Go.Deep.open_slice Tryz.underlying36 hf with ⟨hcs, _⟩ | ⟨a, len', cap', mm, n, D, Pl, hcs, _, hl, hm, hmm, _, hx⟩
  · simp at hcs
    obtain ⟨rfl, rfl, rfl⟩ := hcs
    exact ⟨[], rfl, fun k h => absurd h (by simp), by simp, fun x hx => by cases hx⟩
  · simp at hcs
    obtain ⟨rfl, rfl, rfl⟩ := hcs
    simp only [if_true] at hmm
    have each : ∀ i, i < len → ∃ x : Ba, (∃ b o, (some a : Option Addr) = some ⟨b, o, none⟩ ∧ W.cell? ⟨b, o + i * 6, none⟩ = some (.string x.kind) ∧ W.cell? ⟨b, o + i * 6 + 1, none⟩ = some (.string x.host) ∧ W.cell? ⟨b, o + i * 6 + 2, none⟩ = some (.string x.text) ∧ W.cell? ⟨b, o + i * 6 + 3, none⟩ = some (.int .u64 (x.key : Nat)) ∧ W.cell? ⟨b, o + i * 6 + 4, none⟩ = some (.int .i64 x.now) ∧ W.cell? ⟨b, o + i * 6 + 5, none⟩ = some (.bool x.is)) ∧ BaOk x := fun i hi => by
      obtain ⟨cs', h1, h2⟩ := hx i (by omega)
      rw [cellsBA] at h1
      obtain ⟨_, hcl, hcell⟩ := World.cells?_some h1
      obtain ⟨ys, k, _, _, _, hyl, hfl⟩ := DataW.trod_struct Tryz.underlying38 h2
      have hy3 : ys.length = 6 := hyl
      clear hyl
      obtain ⟨v0, v1, v2, v3, v4, v5, rfl⟩ := six_ofB hcl
      have g0 := hfl 0 _ rfl
      have g1 := hfl 1 _ rfl
      have g2 := hfl 2 _ rfl
      have g3 := hfl 3 _ rfl
      have g4 := hfl 4 _ rfl
      have g5 := hfl 5 _ rfl
      rw [List.getElem?_eq_getElem (by omega)] at g0 g1 g2 g3 g4 g5
      obtain ⟨s0, e0, _, z0⟩ := DataW.trod_string Tryz.underlying9 g0
      obtain ⟨s1, e1, _, z1⟩ := DataW.trod_string Tryz.underlying9 g1
      obtain ⟨s2, e2, _, _⟩ := DataW.trod_string Tryz.underlying9 g2
      obtain ⟨k3, e3, _, z3⟩ := DataW.trod_int Tryz.underlying32 g3
      obtain ⟨n4, e4, _, _⟩ := DataW.trod_int Tryz.underlying3 g4
      obtain ⟨b5, e5, _⟩ := DataW.trod_bool Tryz.underlying4 g5
      have q0 := hcell 0 (by omega)
      have q1 := hcell 1 (by omega)
      have q2 := hcell 2 (by omega)
      have q3 := hcell 3 (by omega)
      have q4 := hcell 4 (by omega)
      have q5 := hcell 5 (by omega)
      obtain ⟨b, off, spot⟩ := a
      have hspot : spot = none := by
        obtain ⟨z, hz⟩ : ∃ z : Nat, z = 0 := ⟨0, rfl⟩
        obtain ⟨cs0, h10, _⟩ := hx z (by omega)
        rw [cellsBA] at h10
        subst hz
        obtain ⟨_, hl0, hc0⟩ := World.cells?_some h10
        obtain ⟨u0, u1, u2, u3, u4, u5, rfl⟩ := six_ofB hl0
        have q0' : W.cell? (((⟨b, off, spot⟩ : Addr).add (0 * 6)).add 0) = some u0 := hc0 0 (by decide)
        simpa [Addr.add] using World.cell?_spot q0'
      subst hspot
      rw [Addr.add_lit, Addr.add_lit] at q0 q1 q2 q3 q4 q5
      simp [cellsBs] at e0 e1 e2
      simp [cellsBu] at e3
      simp [cellsBi] at e4
      simp [cellsBb] at e5
      obtain ⟨w1, w2⟩ := wf_u64 z3
      refine ⟨⟨s0, s1, s2, k3.toNat, n4, b5⟩, ⟨b, off, rfl, ?_, ?_, ?_, ?_, ?_, ?_⟩, ⟨z0, z1, by show k3.toNat < _; omega⟩⟩
      · rw [Nat.add_zero] at q0
        rw [q0, e0]
        rfl
      · rw [q1, e1]
        rfl
      · rw [q2, e2]
        rfl
      · rw [q3, e3]
        have ek : k3 = ((k3.toNat : Nat) : Int) := by omega
        show some (Value.int .u64 k3) = some (Value.int .u64 ((k3.toNat : Nat) : Int))
        rw [← ek]
      · rw [q4, e4]
        rfl
      · rw [q5, e5]
        rfl
    obtain ⟨l, hll, hp⟩ := pick_listB len each
    refine ⟨l, hll.symm, fun k hk => (hp k hk).1, by omega, fun x hx => ?_⟩
    obtain ⟨k, hk, rfl⟩ := List.getElem_of_mem hx
    exact (hp k hk).2
end Go.Proofs.YtmkdpchodeckgaaGreatDoor

/- The law BalanceStays, over the landed package's contracts: all numbers. -/
namespace Go.Proofs.YtmkdpchodeckgaaGreatDoor
open Go.RowKit

set_option maxHeartbeats 1000000 in
theorem stays_e1 (hC : BalanceC) (a : Nat → Addr) (key : Nat) (op : Option Addr) (n oc : Nat) (x : Int) (w : World) (he : hC.E a w) (hl : n ≤ maxLen) (c1 : 60 < n) :
    Calls Tryz.prog 4 #[.int .u64 (key : Nat), .slice op n oc, .int .i64 x] w fun e w' => e = .returned (.bool true) ∧ Below w.heap.size w w' := by
  have hbl := balanced_any hC a w he
  have hn2 : n ≤ 9223372036854775807 := by unfold maxLen at hl; omega
  have d1 : decide (60 < (n : Int)) = true := by simp; omega
  clear he hl c1
  go_enter Tryz.func4, Tryz.ntmps4
  go_wp2_with fail
  refine hbl.mono ?_
  rintro e w1 ⟨rfl, hb1⟩
  clear hbl
  go_wp2
  go_ret
  exact ⟨rfl, hb1⟩
set_option maxHeartbeats 1000000 in
theorem stays_e2 (hC : BalanceC) (a : Nat → Addr) (key : Nat) (op : Option Addr) (n oc : Nat) (x : Int) (w : World) (he : hC.E a w) (hl : n ≤ maxLen) (c1 : ¬ 60 < n) (c2 : x < 0) :
    Calls Tryz.prog 4 #[.int .u64 (key : Nat), .slice op n oc, .int .i64 x] w fun e w' => e = .returned (.bool true) ∧ Below w.heap.size w w' := by
  have hbl := balanced_any hC a w he
  have hn2 : n ≤ 9223372036854775807 := by unfold maxLen at hl; omega
  have d1 : decide (60 < (n : Int)) = false := by simp; omega
  have d2 : decide (x < 0) = true := decide_eq_true c2
  clear he hl c1 c2
  go_enter Tryz.func4, Tryz.ntmps4
  go_wp2_with fail
  refine hbl.mono ?_
  rintro e w1 ⟨rfl, hb1⟩
  clear hbl
  go_wp2
  go_ret
  exact ⟨rfl, hb1⟩
/-- BalanceStays of any key, any acts, and any number. -/
theorem stays_any (hC : BalanceC) (a : Nat → Addr) (key : Nat) (op : Option Addr) (oc : Nat) (l : List Ba) (x : Int) (w : World) (he : hC.E a w) (hxx : hC.X a w) (hl : l.length ≤ maxLen) (hx : x ≤ 9223372036854775807) (hk : key < 18446744073709551616) (ha : BActsAt w op l) (hb : ∀ x ∈ l, BaOk x) :
    Calls Tryz.prog 4 #[.int .u64 (key : Nat), .slice op l.length oc, .int .i64 x] w fun e w' => e = .returned (.bool true) ∧ Below w.heap.size w w' := by
  by_cases c1 : 60 < l.length
  · exact stays_e1 hC a key op l.length oc x w he hl c1
  · by_cases c2 : x < 0
    · exact stays_e2 hC a key op l.length oc x w he hl c1 c2
    · obtain ⟨q, rfl⟩ := Int.eq_ofNat_of_zero_le (show 0 ≤ x by omega)
      exact stays_core hC a key op oc l q w he hxx (by omega) (by omega) hk ha hb
end Go.Proofs.YtmkdpchodeckgaaGreatDoor
