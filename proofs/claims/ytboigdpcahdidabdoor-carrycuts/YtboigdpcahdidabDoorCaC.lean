/- The law CarryCuts, over the landed package's contracts: all inputs. -/
import Derived.Test.YtboigdpcahdidabDoorCaR
import Derived.Laws.IdiomStrings
namespace Go.Proofs.YtboigdpcahdidabDoor
open Go.RowKit

theorem bytes_made (w : World) (t : List UInt8) : ∃ cap w', (convert 9 97 (.string (Lh.bt t))).run Tryd.prog w = .ok (.slice (some ⟨w.heap.size, 0, none⟩) t.length cap) w' ∧ Below w.heap.size w w' ∧ (∀ j (h : j < t.length), w'.cell? ⟨w.heap.size, j, none⟩ = some (.int .u8 (t[j].toNat : Nat))) ∧ (∀ j, j < t.length → w'.frozen? ⟨w.heap.size, j, none⟩ = false) := by
  have hcv := run_bytes_of_string (P := Tryd.prog) w 9 97 5 (Lh.bt t) Tryd.underlying9 Tryd.underlying97 Tryd.underlying5
  have hsz := Lh.bt_size t
  have hrow : ∀ cap, t.length ≤ (bytesRow (Lh.bt t) cap).size := fun cap => by
    unfold bytesRow
    rw [Array.size_append, Array.size_map]
    have : (Lh.bt t).data.size = t.length := hsz
    omega
  rw [hsz] at hcv
  refine ⟨_, _, hcv, ?_, fun j h => ?_, fun j h => ?_⟩
  · exact (Below.refl w.heap.size w).drew.alloc (Nat.le_refl _) _
  · have := World.cell?_alloc_mark w.drew (bytesRow (Lh.bt t) (grownCap w t.length 0 5)) 5 ((bytesRow (Lh.bt t) (grownCap w t.length 0 5)).size, (bytesRow (Lh.bt t) (grownCap w t.length 0 5)).size + 1) j
    refine Eq.trans this ?_
    unfold bytesRow
    rw [Array.getElem?_append_left (by rw [Array.size_map]; have : (Lh.bt t).data.size = t.length := hsz; omega)]
    have hj : j < (Lh.bt t).data.size := by have : (Lh.bt t).data.size = t.length := hsz; omega
    rw [Array.getElem?_map, Array.getElem?_eq_getElem hj]
    rfl
  · have := World.frozen?_alloc_mark w.drew (bytesRow (Lh.bt t) (grownCap w t.length 0 5)) 5 (bytesRow (Lh.bt t) (grownCap w t.length 0 5)).size ((bytesRow (Lh.bt t) (grownCap w t.length 0 5)).size + 1) j
    refine Eq.trans this ?_
    have := hrow (grownCap w t.length 0 5)
    simp
    omega
theorem xorU (x y : UInt8) : bits .xor .u8 (x.toNat : Int) (y.toNat : Int) = ((x ^^^ y).toNat : Int) := by
  have h1 := x.toNat_lt
  have h2 := y.toNat_lt
  have e1 : (BitVec.ofInt 8 (x.toNat : Int)).toNat = x.toNat := by
    rw [BitVec.ofInt_natCast, BitVec.toNat_ofNat]; exact Nat.mod_eq_of_lt (by omega)
  have e2 : (BitVec.ofInt 8 (y.toNat : Int)).toNat = y.toNat := by
    rw [BitVec.ofInt_natCast, BitVec.toNat_ofNat]; exact Nat.mod_eq_of_lt (by omega)
  show IntKind.u8.wrap ((BitVec.ofInt 8 (x.toNat : Int) ^^^ BitVec.ofInt 8 (y.toNat : Int)).toNat : Int) = _
  rw [BitVec.toNat_xor, e1, e2, UInt8.toNat_xor]
  have hx : x.toNat ^^^ y.toNat < 2 ^ 8 := Nat.xor_lt_two_pow (by omega) (by omega)
  generalize x.toNat ^^^ y.toNat = z at *
  simp only [IntKind.wrap_u8]
  omega
theorem xor_turns {x y : UInt8} (h : y ≠ 0) : x ≠ x ^^^ y := by
  intro e
  apply h
  have := congrArg (fun z => x ^^^ z) e
  simp only [UInt8.xor_self, ← UInt8.xor_assoc, UInt8.zero_xor] at this
  exact this.symm
theorem bytes_turned {w : World} {B cap : Nat} {t : List UInt8} (hc : ∀ j (h : j < t.length), w.cell? ⟨B, j, none⟩ = some (.int .u8 (t[j].toNat : Nat))) {i : Nat} (hi : i < t.length) (b : UInt8) :
    (convert 97 9 (.slice (some ⟨B, 0, none⟩) t.length cap)).run Tryd.prog (w.setCell ⟨B, i, none⟩ (.int .u8 (b.toNat : Nat))) = .ok (.string (Lh.bt (t.set i b))) (w.setCell ⟨B, i, none⟩ (.int .u8 (b.toNat : Nat))) := by
  have h := run_convert_bytes_back (P := Tryd.prog) (w.setCell ⟨B, i, none⟩ (.int .u8 (b.toNat : Nat))) 97 9 5 ⟨B, 0, none⟩ cap (t.set i b) Tryd.underlying97 Tryd.underlying5 Tryd.underlying9 (fun j hj => by
    have hj' : j < t.length := by simpa using hj
    rw [List.getElem_set]
    have c0 := hc j hj'
    have c1 := hc i hi
    rw [Addr.add_lit]
    simp only [Nat.zero_add]
    by_cases e : i = j
    · subst e
      rw [if_pos rfl]
      simp [go_sem, c1]
    · rw [if_neg e]
      simp [go_sem, c0])
  rw [List.length_set] at h
  exact h
theorem set_parts {t : List UInt8} {i : Nat} (h : i < t.length) (b : UInt8) : t.set i b = t.take i ++ b :: t.drop (i + 1) ∧ t = t.take i ++ t[i] :: t.drop (i + 1) := by
  constructor
  · rw [List.set_eq_take_append_cons_drop, if_pos h]
  · rw [← List.drop_eq_getElem_cons h, List.take_append_drop]

set_option maxRecDepth 100000 in
set_option maxHeartbeats 2000000 in
theorem ccuts_any (hC : CarryC) (a : Nat → Addr) (e : Int) (he1 : -9223372036854775808 ≤ e) (he2 : e ≤ 9223372036854775807) (v : Value) (l : List Lh.Fl) (cut at_ : Int) (by_ : UInt8) (W : World) (he : hC.E a W) (hv : Flows1 W v l) (hl : l.length ≤ maxLen) (hg : FlGiven l) :
    Calls Tryd.prog 11 #[.int .i64 e, v, .int .i64 cut, .int .i64 at_, .int .u8 (by_.toNat : Nat)] W fun r w' => r = .returned (.bool true) ∧ Below W.heap.size W w' := by
  have HE : Hid (hC.E a W) := he
  have HV : Hid (Flows1 W v l) := hv
  have HG : Hid (FlGiven l) := hg
  have HL : Hid (l.length ≤ maxLen) := hl
  have HC := carried_any hC a W he
  have HER : Hid (-9223372036854775808 ≤ e ∧ e ≤ 9223372036854775807) := ⟨he1, he2⟩
  clear he hv hg hl he1 he2
  obtain ⟨p, cp, rfl⟩ := HV.out.shape
  go_enter Tryd.func11, Tryd.ntmps11
  go_wp2_with fail
  refine HC.mono ?_
  rintro r w1 ⟨rfl, hb1⟩
  dsimp only
  have HLO := longF_any _ l w1 (HV.out.later hb1) HL.out (fun x hx => (HG.out x hx).2.1)
  clear HC
  go_wp2_with fail
  refine HLO.mono ?_
  rintro r w2 ⟨⟨rfl, hsh⟩ | rfl, rfl⟩
  case inr =>
    dsimp only
    go_wp2
    go_ret
    exact ⟨rfl, hb1⟩
  clear HLO
  have HSH : Hid (FShort l) := hsh
  clear hsh
  dsimp only
  by_cases hcut : cut < 0
  · have q1 : decide (cut < 0) = true := by simp; omega
    go_wp2
    go_ret
    exact ⟨rfl, hb1⟩
  have q1 : decide (cut < 0) = false := by simp; omega
  by_cases hat : at_ < 0
  · have q2 : decide (at_ < 0) = true := by simp; omega
    go_wp2
    go_ret
    exact ⟨rfl, hb1⟩
  have q2 : decide (at_ < 0) = false := by simp; omega
  by_cases hby : by_ = 0
  · have q3 : ((by_.toNat : Int) == 0) = true := by rw [hby]; rfl
    go_wp2
    go_ret
    exact ⟨rfl, hb1⟩
  have q3 : ((by_.toNat : Int) == 0) = false := by
    rw [beq_eq_false_iff_ne]
    intro h
    exact hby (UInt8.toNat_inj.1 (by have : by_.toNat = 0 := by omega
                                     rw [this]; rfl))
  have HBY : Hid (by_ ≠ 0) := hby
  obtain ⟨cu, rfl⟩ : ∃ n : Nat, cut = (n : Int) := ⟨cut.toNat, by omega⟩
  obtain ⟨an, rfl⟩ : ∃ n : Nat, at_ = (n : Int) := ⟨at_.toNat, by omega⟩
  clear hby hcut hat
  have HOW := ownF_any _ l w2 (HV.out.later hb1) HSH.out.len
  go_wp2_with fail
  refine HOW.mono ?_
  rintro r w3 ⟨v3, rfl, hv3, hb3, _⟩
  dsimp only
  have hb13 := below_then hb1 hb3
  have HTX := hC.text a e v3 l w3 (hC.eLater HE.out hb13) hv3 HSH.out.len (HG.out.inn HSH.out) HER.out.1 HER.out.2
  clear HOW hv3 hb1 hb3
  go_wp2_with fail
  refine HTX.mono ?_
  rintro r w4 ⟨c, pl, hcf, hb4, hcase⟩
  have hb14 := below_then hb13 hb4
  clear HTX hb13 hb4
  rcases hcase with ⟨hc0, rfl⟩ | ⟨hc0, ev, rfl, herr, hnil⟩
  case inr =>
    clear hcf
    rcases herr with ⟨h, _⟩ | ⟨i, hi, hci, ⟨_, rfl⟩ | ⟨b, rfl, _, _⟩⟩
    · exact absurd h hc0
    · dsimp only
      go_wp2
      go_ret
      exact ⟨rfl, hb14⟩
    · dsimp only
      go_wp2
      go_ret
      exact ⟨rfl, hb14⟩
  subst hc0
  have hk : KeyIn l := fun x hx => (HG.out x hx).1
  have HCF : Hid (CaF e l 0 pl) := hcf
  have htl := text_len hcf hk
  have HCUT : Hid (∀ cut n l' c pl', cut < (Lh.textL e.toNat l).length → ReadF ((Lh.textL e.toNat l).take cut) n l' c pl' → c ≠ 0) := fun cut n l' c pl' h1 h2 => read_cut HCF.out hk h1 h2
  have HTURN : Hid (∀ p q b b' n l' c pl', Lh.textL e.toNat l = p ++ b :: q → b ≠ b' → ReadF (p ++ b' :: q) n l' c pl' → c ≠ 0) := fun p q b b' n l' c pl' h1 h2 h3 => read_turn h1 h2 h3
  generalize Lh.textL e.toNat l = t at *
  have hsz := Lh.bt_size t
  have HREAD : Hid (∀ s W, hC.E a W → s.length ≤ 30000 → (∀ n l' c pl', ReadF s n l' c pl' → c ≠ 0) → Calls Tryd.prog 58 #[.string (Lh.bt s)] W fun r w' => Below W.heap.size W w' ∧ ∃ q cq ty pt, r = .returned (.tuple #[.int .i64 0, .slice q 0 cq, .iface ty (.pointer (some pt))])) := fun s W hE hs hne => (hC.read a s W hE hs).mono (by
    rintro r w' ⟨n, v, l', c, pl2, hrf, hb, hfl, hcase⟩
    have hc := hne _ _ _ _ hrf
    obtain ⟨rfl, rfl⟩ := read_none hrf hc
    obtain ⟨q, cq, rfl⟩ := hfl.shape
    rcases hcase with ⟨h, _⟩ | ⟨_, ev, rfl, herr, _⟩
    · exact absurd h hc
    · rcases herr with ⟨h, _⟩ | ⟨i, hi, hci, ⟨_, rfl⟩ | ⟨b, rfl, _, _⟩⟩
      · exact absurd h hc
      · exact ⟨hb, q, cq, _, _, rfl⟩
      · exact ⟨hb, q, cq, _, _, rfl⟩)
  clear hcf hk
  dsimp only
  by_cases hcl : cu < t.length
  · have d1 : decide ((cu : Int) < (t.length : Int)) = true := by simp; omega
    have hext : (Lh.bt t).extract 0 cu = Lh.bt (t.take cu) := by
      rw [Lh.bt_extract, List.drop_zero, Nat.sub_zero]
    have HRC := HREAD.out (t.take cu) w4 (hC.eLater HE.out hb14) (by rw [List.length_take]; omega) (fun n l' c pl' hr => HCUT.out cu n l' c pl' hcl hr)
    have hcl' : (cu : Int) ≤ (t.length : Int) := by omega
    go_wp2_with fail
    refine HRC.mono ?_
    rintro r w5 ⟨hb5, q8, cq8, ty8, pt8, rfl⟩
    have hb15 := below_then hb14 hb5
    clear HRC hb5 hb14 hext
    dsimp only
    by_cases hal : an < t.length
    · have d2 : decide ((t.length : Int) ≤ (an : Int)) = false := by simp; omega
      have d2' : (an : Int) < (t.length : Int) := by omega
      obtain ⟨cap, w6, hcv, hb6, hcell, hfro⟩ := bytes_made w5 t
      have c6 := hcell an hal
      have f6 := hfro an hal
      have hx := xorU t[an] by_
      have hcv2 := bytes_turned (cap := cap) hcell hal (t[an] ^^^ by_)
      have hb16 : Below W.heap.size W (w6.setCell ⟨w5.heap.size, an, none⟩ (.int .u8 ((t[an] ^^^ by_).toNat : Nat))) := below_then hb15 (hb6.setCell (Nat.le_refl _) _)
      obtain ⟨sp1, sp2⟩ := set_parts hal (t[an] ^^^ by_)
      have HRX := HREAD.out (t.set an (t[an] ^^^ by_)) _ (hC.eLater HE.out hb16) (by rw [List.length_set]; omega) (fun n l' c pl' hr => by
        rw [sp1] at hr
        exact HTURN.out _ _ _ _ n l' c pl' sp2 (xor_turns HBY.out) hr)
      have HB16 : Hid (Below W.heap.size W (w6.setCell ⟨w5.heap.size, an, none⟩ (.int .u8 ((t[an] ^^^ by_).toNat : Nat)))) := hb16
      clear hcell hfro sp1 sp2 hb16 hb6
      generalize t[an] ^^^ by_ = tb at *
      generalize t[an] = ta at *
      go_wp2_with fail
      refine HRX.mono ?_
      rintro r w7 ⟨hb7, q9, cq9, ty9, pt9, rfl⟩
      have hb17 := below_then HB16.out hb7
      clear hb7
      dsimp only
      go_wp2
      go_ret
      exact ⟨rfl, hb17⟩
    · have d2 : decide ((t.length : Int) ≤ (an : Int)) = true := by simp; omega
      go_wp2
      go_ret
      exact ⟨rfl, hb15⟩
  · have d1 : decide ((cu : Int) < (t.length : Int)) = false := by simp; omega
    by_cases hal : an < t.length
    · have d2 : decide ((t.length : Int) ≤ (an : Int)) = false := by simp; omega
      have d2' : (an : Int) < (t.length : Int) := by omega
      obtain ⟨cap, w6, hcv, hb6, hcell, hfro⟩ := bytes_made w4 t
      have c6 := hcell an hal
      have f6 := hfro an hal
      have hx := xorU t[an] by_
      have hcv2 := bytes_turned (cap := cap) hcell hal (t[an] ^^^ by_)
      have hb16 : Below W.heap.size W (w6.setCell ⟨w4.heap.size, an, none⟩ (.int .u8 ((t[an] ^^^ by_).toNat : Nat))) := below_then hb14 (hb6.setCell (Nat.le_refl _) _)
      obtain ⟨sp1, sp2⟩ := set_parts hal (t[an] ^^^ by_)
      have HRX := HREAD.out (t.set an (t[an] ^^^ by_)) _ (hC.eLater HE.out hb16) (by rw [List.length_set]; omega) (fun n l' c pl' hr => by
        rw [sp1] at hr
        exact HTURN.out _ _ _ _ n l' c pl' sp2 (xor_turns HBY.out) hr)
      have HB16 : Hid (Below W.heap.size W (w6.setCell ⟨w4.heap.size, an, none⟩ (.int .u8 ((t[an] ^^^ by_).toNat : Nat)))) := hb16
      clear hcell hfro sp1 sp2 hb16 hb6
      generalize t[an] ^^^ by_ = tb at *
      generalize t[an] = ta at *
      go_wp2_with fail
      refine HRX.mono ?_
      rintro r w7 ⟨hb7, q9, cq9, ty9, pt9, rfl⟩
      have hb17 := below_then HB16.out hb7
      clear hb7
      dsimp only
      go_wp2
      go_ret
      exact ⟨rfl, hb17⟩
    · have d2 : decide ((t.length : Int) ≤ (an : Int)) = true := by simp; omega
      go_wp2
      go_ret
      exact ⟨rfl, hb14⟩
end Go.Proofs.YtboigdpcahdidabDoor
