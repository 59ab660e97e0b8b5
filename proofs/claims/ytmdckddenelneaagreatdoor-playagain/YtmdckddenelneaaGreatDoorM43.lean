/- The landed balance, as a play has it: all that it owns is newer than the world at which all began. -/
import Derived.Test.YtmdckddenelneaaGreatDoorM41
import Derived.Test.YtmdckddenelneaaGreatDoorM42
import Derived.Test.YtmdckddenelneaaGreatDoorM17
import Derived.Test.YtmdckddenelneaaGreatDoorM30
import Derived.Deep.RegionHeld3
import Derived.Deep.QuietTactic
import Derived.BigQuiet
namespace Go.Proofs.YtmdckddenelneaaGreatDoor
open Go.RowKit

/-- what a play asks of the variables: all of them are as they were at w0 -/
structure EP (w0 : World) (a : Nat → Addr) (W : World) : Prop where
  e : Errs a w0
  c : EC a w0
  b : Below w0.heap.size w0 W
section
variable {w0 W W' : World} {a : Nat → Addr}
theorem EP.later (h : EP w0 a W) (hb : Below W.heap.size W W') : EP w0 a W' := ⟨h.e, h.c, below_then h.b hb⟩
theorem EP.errs (h : EP w0 a W) : Errs a W := h.e.later h.b
theorem EP.eb (h : EP w0 a W) : EB a W := EB.of h.errs
theorem EP.ec (h : EP w0 a W) : EC a W := h.c.later h.b
theorem EP.tur {F : Nat → Prop} (h : EP w0 a W) (hT : Tur F W W') (hF : ∀ b, F b → w0.heap.size ≤ b) : EP w0 a W' := ⟨h.e, h.c, hT.below hF h.b (Nat.le_refl _)⟩
theorem EP.new (h : EP w0 a W) {F F' : Nat → Prop} (hF : ∀ b, F b → w0.heap.size ≤ b) (h' : ∀ b, F' b → F b ∨ W.heap.size ≤ b) : ∀ b, F' b → w0.heap.size ≤ b := fun b hb => (h' b hb).elim (hF b) fun q => Nat.le_trans h.b.size q
end
def RepP (w0 : World) (S : Lh.Bl) (F : Nat → Prop) (p : Nat) (W : World) : Prop := RepB S F p W ∧ ∀ b, F b → w0.heap.size ≤ b
def balanceOver (w0 : World) : BalanceC where
  E := EP w0
  eLater := fun h hb => h.later hb
  X := fun _ _ => True
  xLater := fun _ _ => trivial
  nw := nwB
  nwIn := fun k h _ => nwB_in k h
  Rep := RepP w0
  lt := fun h => h.1.lt
  stay := fun h _ hs => ⟨h.1.stay hs, h.2⟩
  newG := fun a v xs n t f r W he hv h0 hf hs hp h5 h1 h2 h3 h4 h6 h7 => (newG_bal a v xs n t f r W he.eb hv h0 hf hs hp h5 h1 h2 h3 h4 h6 h7).mono fun _ _ ⟨p, F, q1, q2, q3, q4⟩ => ⟨p, F, q1, ⟨q2, fun b hb => Nat.le_trans he.b.size (q3 b hb)⟩, q3, q4⟩
  pick := fun a S F p k now W he hR hk hkk => (pick_bal a S F p k now W he.eb hR.1 hk hkk).mono fun _ _ ⟨F', S', s, kept, c, ev, q1, q2, q3, q4, q5, q6⟩ => ⟨F', S', s, kept, c, ev, q1, q2, q3, q4, q5, q6, he.new hR.2 q1⟩
  look := fun a S F p s well W he hR hk _ => (look_bal a S F p s well W he.eb hR.1 hk).mono fun _ _ ⟨F', S', t, c, ev, q1, q2, q3, q4, q5, q6⟩ => ⟨F', S', t, c, ev, q1, q2, q3, q4, q5, q6, he.new hR.2 q1⟩
  drain := fun a S F p s is W he hR hk _ => (drain_bal a S F p s is W he.eb hR.1 hk).mono fun _ _ ⟨F', S', c, ev, q1, q2, q3, q4, q5, q6⟩ => ⟨F', S', c, ev, q1, q2, q3, q4, q5, q6, he.new hR.2 q1⟩
  up := fun S F p W hR hk => up_bal S F p W hR.1 hk
  flows := fun S F p W hR hk => flows_bal S F p W hR.1 hk
  epoch := fun S F p W hR => epoch_bal S F p W hR.1
  export_ := fun a S F p W he _ hR hk => (export_bal a S F p W he.ec hR.1 hk).mono fun _ _ ⟨F', S', s, c, ev, q1, q2, q3, q4, q5, q6⟩ => ⟨F', S', s, c, ev, q1, q2, q3, q4, q5, q6, he.new hR.2 q1⟩
  import_ := fun a S F p s now W he _ hR hk hs => (import_bal a S F p s now W he.eb he.ec hR.1 hk hs).mono fun _ _ ⟨F', S', n, c, pl, ev, q1, q2, q3, q4, q5, q6⟩ => ⟨F', S', n, c, pl, ev, q1, q2, q3, q4, q5, q6, he.new hR.2 q1⟩
def balP (w0 : World) : BalP (balanceOver w0) where
  K := w0.heap.size
  low := fun h => h.b.size
  rep := fun h => h.2
  tur := fun h hT hF => h.tur hT hF
  errs := fun h => h.errs
  x := fun _ => trivial
end Go.Proofs.YtmdckddenelneaaGreatDoor

/- The landed play: its small functions. -/
namespace Go.Proofs.YtmdckddenelneaaGreatDoor
open Go.RowKit

theorem odd_int (n : Nat) : ((n : Int) % 2 == 1) = decide (n % 2 = 1) := by
  have e : ((n : Int) % 2 = 1) ↔ n % 2 = 1 := by omega
  by_cases h : n % 2 = 1
  · rw [decide_eq_true h]
    simpa using e.2 h
  · rw [decide_eq_false h, beq_eq_false_iff_ne]
    exact fun h' => h (e.1 h')
theorem isOdd_any (n : Nat) (w : World) : Calls Tryz.prog 109 #[.int .i64 (n : Nat)] w fun e w' => e = .returned (.bool (decide (n % 2 = 1))) ∧ w' = w := by
  have i1 := odd_int n
  go_enter Tryz.func109, Tryz.ntmps109
  go_wp2
  go_ret
  exact ⟨rfl, rfl⟩
theorem flagOf_any (q : Nat) (hq : q < 9223372036854775808) (w : World) : Calls Tryz.prog 83 #[.int .i64 (q : Nat)] w fun e w' => e = .returned (.bool (decide (q / 8 % 2 = 1))) ∧ w' = w := by
  obtain ⟨r, hr⟩ : ∃ r, q / 8 = r := ⟨_, rfl⟩
  have h8 : (q : Int) / 8 = (r : Int) := by omega
  rw [hr]
  go_enter Tryz.func83, Tryz.ntmps83
  go_wp2_with fail
  refine (isOdd_any r w).mono ?_
  rintro e w1 ⟨rfl, rfl⟩
  go_wp2
  go_ret
  exact ⟨rfl, rfl⟩
theorem hostNames_any (w : World) : Calls Tryz.prog 52 #[] w fun e w' => e = .returned (.slice (some ⟨w.heap.size, 0, none⟩) 4 4) ∧ w' = w.alloc (.cells #[.string nA, .string nB, .string nC, .string nD] 9) := by
  go_enter Tryz.func52, Tryz.ntmps52
  go_wp2
  go_ret
  exact ⟨rfl, rfl⟩
theorem four_cell (w : World) {i : Nat} (hl : i < 4) : (w.alloc (.cells #[.string nA, .string nB, .string nC, .string nD] 9)).cell? ⟨w.heap.size, i, none⟩ = some (.string (four.getD i ByteArray.empty)) := by
  have : i = 0 ∨ i = 1 ∨ i = 2 ∨ i = 3 := by omega
  rcases this with rfl | rfl | rfl | rfl <;> simp [four]
theorem hostOf_any (q : Nat) (hq : q < 9223372036854775808) (w : World) : Calls Tryz.prog 82 #[.int .i64 (q : Nat)] w fun e w' => e = .returned (.string (four.getD (q / 2 % 4) ByteArray.empty)) ∧ Below w.heap.size w w' := by
  obtain ⟨r, hr⟩ : ∃ r, q / 2 % 4 = r := ⟨_, rfl⟩
  have h2 : (q : Int) / 2 % 4 = (r : Int) := by omega
  have hl : r < 4 := by omega
  have hl' : (r : Int) < 4 := by omega
  have hs := four_cell w hl
  have hb : Below w.heap.size w (w.alloc (.cells #[.string nA, .string nB, .string nC, .string nD] 9)) := (Below.refl _ _).alloc (Nat.le_refl _) _
  rw [hr]
  clear hr
  generalize four.getD r ByteArray.empty = host at *
  go_enter Tryz.func82, Tryz.ntmps82
  go_wp2_with fail
  refine (hostNames_any w).mono ?_
  rintro e w1 ⟨rfl, rfl⟩
  go_wp2
  go_ret
  exact ⟨rfl, hb⟩
/-- a new balance of a duo -/
theorem newBalance_any (hC : BalanceC) (a : Nat → Addr) (w : World) (he : hC.E a w) :
    Calls Tryz.prog 36 #[] w fun e w' => ∃ p F, e = .returned (.pointer (some ⟨p, 0, none⟩)) ∧ hC.Rep duoB F p w' ∧ (∀ b, F b → w.heap.size ≤ b) ∧ Below w.heap.size w w' := by
  obtain ⟨hf, _, hl, h0, hsz, _⟩ := four_fault
  have hb : Below w.heap.size w (w.alloc (.cells #[.string nA, .string nB, .string nC, .string nD] 9)) := (Below.refl _ _).alloc (Nat.le_refl _) _
  have hv : Strs1 (w.alloc (.cells #[.string nA, .string nB, .string nC, .string nD] 9)) (.slice (some ⟨w.heap.size, 0, none⟩) 4 4) four := Or.inr ⟨w.heap.size, 0, 4, rfl, by decide, fun k hk => by
    have h4 : k < 4 := hk
    have := four_cell w h4
    rw [Nat.zero_add, this, List.getD_eq_getElem?_getD, List.getElem?_eq_getElem hk]
    rfl⟩
  have hn := hC.newG a _ four 31 20 2 2 _ (hC.eLater he hb) hv h0 hf hsz four_bok.prm (by decide) (by decide) (by decide) (by decide) (by decide) (by decide) (by decide)
  have HN : Hid (∀ (e : Ending) w', (∃ p F, e = .returned (.tuple #[.pointer (some ⟨p, 0, none⟩), .nilIface]) ∧ hC.Rep ⟨2, 2, 31, 20, Lh.hnew four, [], 0, 0, []⟩ F p w' ∧ (∀ b, F b → (w.alloc (.cells #[.string nA, .string nB, .string nC, .string nD] 9)).heap.size ≤ b) ∧ Below (w.alloc (.cells #[.string nA, .string nB, .string nC, .string nD] 9)).heap.size (w.alloc (.cells #[.string nA, .string nB, .string nC, .string nD] 9)) w') → ∃ p F, e = .returned (.tuple #[.pointer (some ⟨p, 0, none⟩), .nilIface]) ∧ hC.Rep duoB F p w' ∧ (∀ b, F b → w.heap.size ≤ b) ∧ Below w.heap.size w w') := by
    rintro e w' ⟨p, F, h1, h2, h3, h4⟩
    exact ⟨p, F, h1, h2, fun b hb' => Nat.le_trans hb.size (h3 b hb'), below_then hb h4⟩
  clear hf hl h0 hsz hv he hb
  go_enter Tryz.func36, Tryz.ntmps36
  go_wp2_with fail
  refine (hostNames_any w).mono ?_
  rintro e w1 ⟨rfl, rfl⟩
  go_wp2_with fail
  refine hn.mono ?_
  intro e w2 h
  obtain ⟨p, F, rfl, h2, h3, h4⟩ := HN.out e w2 h
  clear hn h
  go_wp2
  go_ret
  exact ⟨p, F, rfl, h2, h3, h4⟩
/-- a new duo -/
theorem newDuo_any (hC : BalanceC) (a : Nat → Addr) (W : World) (he : hC.E a W) :
    Calls Tryz.prog 18 #[] W fun e W' => ∃ x : DR, e = .returned (.pointer (some ⟨x.d, 0, none⟩)) ∧ x.At hC W' ∧ x.A = duoB ∧ x.B = duoB ∧ (∀ b, x.F b → W.heap.size ≤ b) ∧ Below W.heap.size W W' := by
  have HE : Hid (hC.E a W) := he
  clear he
  go_enter Tryz.func18, Tryz.ntmps18
  go_wp2_with fail
  refine (newBalance_any hC a W HE.out).mono ?_
  rintro e w1 ⟨p, F, rfl, hR, hF, hb⟩
  have HR : Hid (hC.Rep duoB F p w1) := hR
  have HF : Hid (∀ b, F b → W.heap.size ≤ b) := hF
  have HB : Hid (Below W.heap.size W w1) := hb
  clear hR hF hb
  go_wp2_with fail
  refine (newBalance_any hC a w1 (hC.eLater HE.out HB.out)).mono ?_
  rintro e w2 ⟨q, G, rfl, hR2, hG, hb2⟩
  have HR2 : Hid (hC.Rep duoB G q w2) := hR2
  have HG : Hid (∀ b, G b → w1.heap.size ≤ b) := hG
  have HB2 : Hid (Below w1.heap.size w1 w2) := hb2
  clear hR2 hG hb2
  go_wp2
  go_ret
  have hb3 : Below w2.heap.size w2 (w2.alloc (.cells #[.pointer (some ⟨p, 0, none⟩), .pointer (some ⟨q, 0, none⟩)] 51)) := (Below.refl _ _).alloc (Nat.le_refl _) _
  have h1 := hC.later (hC.later HR.out HB2.out) hb3
  have h2 := hC.later HR2.out hb3
  refine ⟨⟨duoB, duoB, F, G, w2.heap.size, p, q⟩, rfl, ⟨by simp, by simp, h1, h2, duo_ok, duo_ok, fun b hb hg => ?_, fun hb => ?_, fun hb => ?_⟩, rfl, rfl, fun b hb => ?_, below_then (below_then HB.out HB2.out) hb3⟩
  · have := hC.lt HR.out b hb
    have := HG.out b hg
    omega
  · have := hC.lt HR.out _ hb
    have := HB2.out.size
    exact absurd (Nat.le_trans this (Nat.le_refl _)) (by simp only at *; omega)
  · have := hC.lt HR2.out _ hb
    simp only at this
    omega
  · have s1 := HB.out.size
    have s2 := HB2.out.size
    rcases hb with h | h | h
    · exact HF.out b h
    · exact Nat.le_trans s1 (HG.out b h)
    · have h : b = w2.heap.size := h
      omega
end Go.Proofs.YtmdckddenelneaaGreatDoor

/- The landed play: a step. -/
namespace Go.Proofs.YtmdckddenelneaaGreatDoor
open Go.RowKit

section
variable {hC : BalanceC} {hB : BalP hC} {a : Nat → Addr} {g : Nat} {x : DR} {now : Int} {W : World}
theorem DR.At.side (h : x.At hC W) (b : Bool) : W.cell? ⟨x.d, b.toNat, none⟩ = some (.pointer (some ⟨x.ptr b, 0, none⟩)) := by
  cases b
  · exact h.c0
  · exact h.c1
theorem sides_any (h : GS hC hB a g x now W) (q : Nat) :
    Calls Tryz.prog 80 #[.pointer (some ⟨g, 0, none⟩), .int .i64 (q : Nat)] W fun e w' => e = .returned (.tuple #[.pointer (some ⟨x.ptr (decide (q % 2 = 1)), 0, none⟩), .pointer (some ⟨x.ptr (!decide (q % 2 = 1)), 0, none⟩)]) ∧ Below W.heap.size W w' := by
  have k0 := h.g0
  have k1 := h.at_.c0
  have k2 := h.at_.c1
  have ho := isOdd_any q W
  clear h
  generalize decide (q % 2 = 1) = b at *
  go_enter Tryz.func80, Tryz.ntmps80
  go_wp2_with fail
  refine ho.mono ?_
  rintro e w1 ⟨rfl, rfl⟩
  clear ho
  cases b
  · go_wp2_with fail
    go_quiet (fail)
    go_wp2
    go_ret2
    exact ⟨rfl, below_drewN (Below.refl _ _) nq⟩
  · go_wp2_with fail
    go_quiet (fail)
    go_wp2
    go_ret2
    exact ⟨rfl, below_drewN (Below.refl _ _) nq⟩

/-- what a step leaves -/
def StepTo (hC : BalanceC) (hB : BalP hC) (a : Nat → Addr) (g : Nat) (x : DR) (W : World) (D' : Lh.Duo) (W' : World) : Prop := ∃ y, GS hC hB a g y D'.now W' ∧ GTo g x y W W' ∧ y.A = D'.A ∧ y.B = D'.B

set_option maxRecDepth 100000 in
set_option maxHeartbeats 2000000 in
theorem carryOver_any (h : GS hC hB a g x now W) (b : Bool) :
    Calls Tryz.prog 85 #[.pointer (some ⟨x.ptr b, 0, none⟩), .pointer (some ⟨x.ptr (!b), 0, none⟩), .int .i64 now] W fun e W' => ∃ ev c pl D' S' s c1, e = .returned ev ∧ ErrIs a W' c pl ev ∧ StepTo hC hB a g x W D' W' ∧ ExportR (x.bal b) S' s c1 ∧ ((c1 ≠ 0 ∧ c = c1 ∧ D' = (⟨x.A, x.B, now⟩ : Lh.Duo).put b S') ∨ (c1 = 0 ∧ ∃ T' k, ImportR (x.bal !b) (Lh.textL ((x.bal b).ep + 1).toNat (x.bal b).L) now T' k c pl ∧ D' = ((⟨x.A, x.B, now⟩ : Lh.Duo).put b S').put (!b) T')) := by
  have HH : Hid (GS hC hB a g x now W) := h
  have hex := hC.export_ a (x.bal b) (x.foot b) (x.ptr b) W h.e (hB.x h.e) (h.rep b) (h.ok b)
  clear h
  go_enter Tryz.func85, Tryz.ntmps85
  go_wp2_with fail
  refine hex.mono ?_
  rintro e w1 ⟨F', S', s, c, ev, hF, hT, rfl, hev, hR, hRep⟩
  have hok := exportR_ok (HH.out.ok b) hR
  obtain ⟨hG1, hTo1⟩ := HH.out.turned b hRep hok hF hT
  have HG1 : Hid (GS hC hB a g (x.put b S' F') now w1) := hG1
  have HT1 : Hid (GTo g x (x.put b S' F') W w1) := hTo1
  have HR : Hid (ExportR (x.bal b) S' s c) := hR
  have hc9 := exportR_c hR
  by_cases hc : c = 0
  · subst hc
    obtain rfl := evOf_nil hev
    have e1 : (x.put b S' F').bal (!b) = x.bal (!b) := by cases b <;> rfl
    have e2 : (x.put b S' F').ptr (!b) = x.ptr (!b) := by cases b <;> rfl
    have e3 : (x.put b S' F').foot (!b) = x.foot (!b) := by cases b <;> rfl
    have hr := hG1.rep (!b)
    have hk := hG1.ok (!b)
    rw [e1, e2, e3] at hr
    rw [e1] at hk
    have hs : s = Lh.bt (Lh.textL ((x.bal b).ep + 1).toNat (x.bal b).L) ∧ (x.bal b).ep < 1099511627776 := by
      rcases hR with ⟨q1, q2, _⟩ | ⟨_, _, q, _⟩
      · exact ⟨q2, q1⟩
      · cases q
    obtain ⟨rfl, hep⟩ := hs
    have hbo := HH.out.ok b
    have hlen := text_len (caF_of hbo (e := (x.bal b).ep + 1) (by have := hbo.ep0; omega) (by omega)) (keyIn_of hbo)
    have him := hC.import_ a (x.bal !b) (x.foot !b) (x.ptr !b) (Lh.textL ((x.bal b).ep + 1).toNat (x.bal b).L) now w1 hG1.e (hB.x hG1.e) hr hk (by omega)
    clear hex hF hT hev hR hRep hok hG1 hTo1 hr hk hbo hlen
    go_wp2_with fail
    refine him.mono ?_
    rintro e w2 ⟨G', T', n, c, pl, ev, hF2, hT2, rfl, hev2, hI, hRep2⟩
    have hokI := importR_ok (HH.out.ok (!b)) hI
    have hRep2' : hC.Rep T' G' ((x.put b S' F').ptr (!b)) w2 := by rw [e2]; exact hRep2
    obtain ⟨hG2, hTo2⟩ := HG1.out.turned (!b) hRep2' hokI (by rw [e3]; exact hF2) (by rw [e3]; exact hT2)
    have HG2 : Hid (GS hC hB a g ((x.put b S' F').put (!b) T' G') now w2) := hG2
    have HT2 : Hid (GTo g x ((x.put b S' F').put (!b) T' G') W w2) := HT1.out.trans hTo2
    have HEV : Hid (ErrIs a w2 c pl ev) := hev2
    have HI : Hid (ImportR (x.bal !b) (Lh.textL ((x.bal b).ep + 1).toNat (x.bal b).L) now T' n c pl) := hI
    clear him hF2 hT2 hev2 hI hRep2 hokI hRep2' hG2 hTo2
    go_wp2
    go_ret
    refine ⟨ev, c, pl, ⟨((x.put b S' F').put (!b) T' G').A, ((x.put b S' F').put (!b) T' G').B, now⟩, S', _, 0, rfl, HEV.out, ⟨_, HG2.out, HT2.out, rfl, rfl⟩, HR.out, Or.inr ⟨rfl, T', n, HI.out, ?_⟩⟩
    rw [DR.put_duo, DR.put_duo]
  · have hei : ErrIs a w1 c (-1) ev := evOf_is hev hc9
    have HEI : Hid (ErrIs a w1 c (-1) ev) := hei
    obtain ⟨t1, x1, rfl⟩ := errIs_pos hei hc
    clear hex hF hT hev hR hRep hok hG1 hTo1 hei
    go_wp2
    go_ret
    refine ⟨_, c, -1, ⟨(x.put b S' F').A, (x.put b S' F').B, now⟩, S', _, c, rfl, HEI.out, ⟨_, HG1.out, HT1.out, rfl, rfl⟩, HR.out, Or.inl ⟨hc, rfl, ?_⟩⟩
    rw [DR.put_duo]
/-- a pick of one of the two, a little later -/
theorem GS.pick (h : GS hC hB a g x now W) (b : Bool) (k : Nat) (hk : k < 18446744073709551616) : ∀ w', Below W.heap.size W w' → Calls Tryz.prog 87 #[.pointer (some ⟨x.ptr b, 0, none⟩), .int .u64 (k : Nat), .int .i64 now] w' fun e w'' => ∃ S' s kept c ev F', e = .returned (.tuple #[.string s, .bool kept, ev]) ∧ EvOf a c ev ∧ PickR hC.nw (x.bal b) k now S' s kept c ∧ GS hC hB a g (x.put b S' F') now w'' ∧ GTo g x (x.put b S' F') W w'' := fun w' hb => by
  have hG := h.later hb
  refine (hC.pick a (x.bal b) (x.foot b) (x.ptr b) k now w' hG.e (hG.rep b) (hG.ok b) hk).mono ?_
  rintro e w2 ⟨F', S', s, kept, c, ev, hF, hT, rfl, hev, hR, hRep⟩
  have hok := pickR_ok (fun k h1 h2 => hC.nwIn k h1 h2) (hG.ok b) hk hR
  obtain ⟨hG1, hTo1⟩ := hG.turned b hRep hok hF hT
  exact ⟨S', s, kept, c, ev, F', rfl, hev, hR, hG1, (GTo.of_below hb).trans hTo1⟩
theorem GS.cells (h : GS hC hB a g x now W) : W.cell? ⟨g, 0, none⟩ = some (.pointer (some ⟨x.d, 0, none⟩)) ∧ W.cell? ⟨g, 1, none⟩ = some (.int .i64 now) ∧ W.cell? ⟨x.d, 0, none⟩ = some (.pointer (some ⟨x.p, 0, none⟩)) ∧ W.cell? ⟨x.d, 1, none⟩ = some (.pointer (some ⟨x.q, 0, none⟩)) := ⟨h.g0, h.g1, h.at_.c0, h.at_.c1⟩
theorem GS.cells' {S' : Lh.Bl} {F' : Nat → Prop} {b : Bool} (h : GS hC hB a g (x.put b S' F') now W) : W.cell? ⟨g, 0, none⟩ = some (.pointer (some ⟨x.d, 0, none⟩)) ∧ W.cell? ⟨g, 1, none⟩ = some (.int .i64 now) ∧ W.cell? ⟨x.d, 0, none⟩ = some (.pointer (some ⟨x.p, 0, none⟩)) ∧ W.cell? ⟨x.d, 1, none⟩ = some (.pointer (some ⟨x.q, 0, none⟩)) := by
  cases b
  · exact h.cells
  · exact h.cells
set_option maxRecDepth 100000 in
set_option maxHeartbeats 2000000 in
theorem expire_any (h : GS hC hB a g x now W) :
    Calls Tryz.prog 86 #[.pointer (some ⟨g, 0, none⟩)] W fun e W' => ∃ ev A' sa ka ca B' sb kb cb, e = .returned ev ∧ ErrIs a W' (if ca = 0 then cb else ca) (-1) ev ∧ StepTo hC hB a g x W ⟨A', B', now⟩ W' ∧ PickR hC.nw x.A 0 now A' sa ka ca ∧ PickR hC.nw x.B 0 now B' sb kb cb := by
  have HH : Hid (GS hC hB a g x now W) := h
  have hlk : ∀ w', Below W.heap.size W w' → Calls Tryz.prog 87 #[.pointer (some ⟨x.p, 0, none⟩), .int .u64 0, .int .i64 now] w' fun e w'' => ∃ S' s kept c ev F', e = .returned (.tuple #[.string s, .bool kept, ev]) ∧ EvOf a c ev ∧ PickR hC.nw x.A 0 now S' s kept c ∧ GS hC hB a g (x.put false S' F') now w'' ∧ GTo g x (x.put false S' F') W w'' := h.pick false 0 (by decide)
  have hCC : ∀ w', Below W.heap.size W w' → w'.cell? ⟨g, 0, none⟩ = some (.pointer (some ⟨x.d, 0, none⟩)) ∧ w'.cell? ⟨g, 1, none⟩ = some (.int .i64 now) ∧ w'.cell? ⟨x.d, 0, none⟩ = some (.pointer (some ⟨x.p, 0, none⟩)) ∧ w'.cell? ⟨x.d, 1, none⟩ = some (.pointer (some ⟨x.q, 0, none⟩)) := fun w' hb => (h.later hb).cells
  have hCp : ∀ w' S' F', GS hC hB a g (x.put false S' F') now w' → w'.cell? ⟨g, 0, none⟩ = some (.pointer (some ⟨x.d, 0, none⟩)) ∧ w'.cell? ⟨g, 1, none⟩ = some (.int .i64 now) ∧ w'.cell? ⟨x.d, 0, none⟩ = some (.pointer (some ⟨x.p, 0, none⟩)) ∧ w'.cell? ⟨x.d, 1, none⟩ = some (.pointer (some ⟨x.q, 0, none⟩)) := fun w' S' F' h => h.cells'
  clear h
  go_enter Tryz.func86, Tryz.ntmps86
  go_wp2_with fail
  go_region_held3 (fun w' => w'.cell? ⟨g, 0, none⟩ = some (.pointer (some ⟨x.d, 0, none⟩)) ∧ w'.cell? ⟨g, 1, none⟩ = some (.int .i64 now) ∧ w'.cell? ⟨x.d, 0, none⟩ = some (.pointer (some ⟨x.p, 0, none⟩)) ∧ w'.cell? ⟨x.d, 1, none⟩ = some (.pointer (some ⟨x.q, 0, none⟩)))
    (first | exact hCC _ (below_drewN (Below.refl _ _) 1) | exact hCp _ _ _ (by assumption) | exact hCC _ (by assumption))
    (first
      | (go_at_call 87; refine (hlk _ (by first | assumption | exact below_drewN (Below.refl _ _) 1)).mono ?_; rintro e w1 ⟨A', sa, ka, ca, eva, F', rfl, heva, hRa, hG1, hTo1⟩))
  have HG1 : Hid (GS hC hB a g (x.put false A' F') now w1) := hG1
  have HT1 : Hid (GTo g x (x.put false A' F') W w1) := hTo1
  have HRA : Hid (PickR hC.nw x.A 0 now A' sa ka ca) := hRa
  have HEA : Hid (EvOf a ca eva) := heva
  have hlk2 : ∀ w', Below w1.heap.size w1 w' → Calls Tryz.prog 87 #[.pointer (some ⟨x.q, 0, none⟩), .int .u64 0, .int .i64 now] w' fun e w'' => ∃ S' s kept c ev G', e = .returned (.tuple #[.string s, .bool kept, ev]) ∧ EvOf a c ev ∧ PickR hC.nw x.B 0 now S' s kept c ∧ GS hC hB a g ((x.put false A' F').put true S' G') now w'' ∧ GTo g (x.put false A' F') ((x.put false A' F').put true S' G') w1 w'' := hG1.pick true 0 (by decide)
  have hCC2 : ∀ w', Below w1.heap.size w1 w' → w'.cell? ⟨g, 0, none⟩ = some (.pointer (some ⟨x.d, 0, none⟩)) ∧ w'.cell? ⟨g, 1, none⟩ = some (.int .i64 now) ∧ w'.cell? ⟨x.d, 0, none⟩ = some (.pointer (some ⟨x.p, 0, none⟩)) ∧ w'.cell? ⟨x.d, 1, none⟩ = some (.pointer (some ⟨x.q, 0, none⟩)) := fun w' hb => (hG1.later hb).cells'
  have hCp2 : ∀ w' S' G', GS hC hB a g ((x.put false A' F').put true S' G') now w' → w'.cell? ⟨g, 0, none⟩ = some (.pointer (some ⟨x.d, 0, none⟩)) ∧ w'.cell? ⟨g, 1, none⟩ = some (.int .i64 now) ∧ w'.cell? ⟨x.d, 0, none⟩ = some (.pointer (some ⟨x.p, 0, none⟩)) ∧ w'.cell? ⟨x.d, 1, none⟩ = some (.pointer (some ⟨x.q, 0, none⟩)) := fun w' S' G' h => h.cells
  clear hlk hCC hCp heva hRa hG1 hTo1
  go_wp2_with fail
  go_region_held3 (fun w' => w'.cell? ⟨g, 0, none⟩ = some (.pointer (some ⟨x.d, 0, none⟩)) ∧ w'.cell? ⟨g, 1, none⟩ = some (.int .i64 now) ∧ w'.cell? ⟨x.d, 0, none⟩ = some (.pointer (some ⟨x.p, 0, none⟩)) ∧ w'.cell? ⟨x.d, 1, none⟩ = some (.pointer (some ⟨x.q, 0, none⟩)))
    (first | exact hCC2 _ (below_drewN (Below.refl _ _) 1) | exact hCp2 _ _ _ (by assumption) | exact hCC2 _ (by assumption))
    (first
      | (go_at_call 87; refine (hlk2 _ (by first | assumption | exact below_drewN (Below.refl _ _) 1)).mono ?_; rintro e w2 ⟨B', sb, kb, cb, evb, G', rfl, hevb, hRb, hG2, hTo2⟩))
  have HG2 : Hid (GS hC hB a g ((x.put false A' F').put true B' G') now w2) := hG2
  have HT2 : Hid (GTo g x ((x.put false A' F').put true B' G') W w2) := HT1.out.trans hTo2
  have HRB : Hid (PickR hC.nw x.B 0 now B' sb kb cb) := hRb
  have HEB : Hid (EvOf a cb evb) := hevb
  clear hlk2 hCC2 hCp2 hevb hRb hG2 hTo2
  by_cases hc : ca = 0
  · subst hc
    obtain rfl := evOf_nil HEA.out
    go_wp2
    go_ret
    exact ⟨_, A', sa, ka, 0, B', sb, kb, cb, rfl, evOf_is HEB.out (pickR_c HRB.out), ⟨_, HG2.out, HT2.out, rfl, rfl⟩, HRA.out, HRB.out⟩
  · have hei : ErrIs a w2 ca (-1) eva := evOf_is HEA.out (pickR_c HRA.out)
    have HEI : Hid (ErrIs a w2 (if ca = 0 then cb else ca) (-1) eva) := by
      show ErrIs _ _ _ _ _
      rw [if_neg hc]
      exact hei
    obtain ⟨t1, x1, rfl⟩ := errIs_pos hei hc
    clear hei
    go_wp2
    go_ret
    exact ⟨_, A', sa, ka, ca, B', sb, kb, cb, rfl, HEI.out, ⟨_, HG2.out, HT2.out, rfl, rfl⟩, HRA.out, HRB.out⟩
end
end Go.Proofs.YtmdckddenelneaaGreatDoor

/- A play: how far the epochs and the tick can go; a script's end. -/
namespace Go.Proofs.YtmdckddenelneaaGreatDoor
open Go.RowKit

section
variable {nw : List ByteArray → Nat → Nat → ByteArray}
theorem runR_snoc : ∀ {vs : List Int} {D D1 D2 : Lh.Duo} {es : List Int} {v e : Int}, RunR nw D vs es D1 → OneR nw D1 v D2 e → RunR nw D (vs ++ [v]) (es ++ [e]) D2
  | [], _, _, _, _, _, e, ⟨h1, h2⟩, ho => by subst h1; subst h2; exact ⟨e, _, [], ho, rfl, rfl, rfl⟩
  | _ :: _, _, _, _, _, _, _, ⟨e, X, es, ho, h1, hr⟩, h2 => by subst h1; exact ⟨e, X, _, ho, rfl, runR_snoc hr h2⟩
theorem put_now (D : Lh.Duo) (b : Bool) (S : Lh.Bl) : (D.put b S).now = D.now := by cases b <;> rfl
end
end Go.Proofs.YtmdckddenelneaaGreatDoor
