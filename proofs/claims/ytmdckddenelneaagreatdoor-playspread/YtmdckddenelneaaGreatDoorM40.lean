/- The landed play: a step. -/
import Derived.Test.YtmdckddenelneaaGreatDoorM39
import Derived.Test.YtmdckddenelneaaGreatDoorMake
import Derived.Test.YtmdckddenelneaaGreatDoorM29
import Derived.Deep.RegionHeld3
import Derived.Deep.QuietTactic
import Derived.BigQuiet
namespace Go.Proofs.YtmdckddenelneaaGreatDoor
open Go.RowKit

section
variable {hC : BalanceC} {hB : BalP hC} {a : Nat → Addr} {g : Nat} {x : DR} {now : Int} {W : World}
theorem DR.At.side (h : x.At hC W) (b : Bool) : W.cell? ⟨x.d, b.toNat, none⟩ = some (.pointer (some ⟨x.ptr b, 0, none⟩)) := by
  cases b
  · exact h.c0
  · exact h.c1
theorem sides_any (h : GS hC hB a g x now W) (q : Nat) :
    Calls Tryz.prog 80 #[.pointer (some ⟨g, 0, none⟩), .int .i64 (q : Nat)] W fun e w' => e = .returned (.tuple #[.pointer (some ⟨x.ptr (decide (q % 2 = 1)), 0, none⟩), .pointer (some ⟨x.ptr (!decide (q % 2 = 1)), 0, none⟩)]) ∧ Below W.heap.size W w' := by
  have k0 := h.g0
  have k1 := h.at_.c0
  have k2 := h.at_.c1
  have ho := isOdd_any q W
  clear h
  generalize decide (q % 2 = 1) = b at *
  go_enter Tryz.func80, Tryz.ntmps80
  go_wp2_with fail
  refine ho.mono ?_
  rintro e w1 ⟨rfl, rfl⟩
  clear ho
  cases b
  · go_wp2_with fail
    go_quiet (fail)
    go_wp2
    go_ret2
    exact ⟨rfl, below_drewN (Below.refl _ _) nq⟩
  · go_wp2_with fail
    go_quiet (fail)
    go_wp2
    go_ret2
    exact ⟨rfl, below_drewN (Below.refl _ _) nq⟩

/-- what a step leaves -/
def StepTo (hC : BalanceC) (hB : BalP hC) (a : Nat → Addr) (g : Nat) (x : DR) (W : World) (D' : Lh.Duo) (W' : World) : Prop := ∃ y, GS hC hB a g y D'.now W' ∧ GTo g x y W W' ∧ y.A = D'.A ∧ y.B = D'.B

set_option maxRecDepth 100000 in
set_option maxHeartbeats 2000000 in
theorem carryOver_any (h : GS hC hB a g x now W) (b : Bool) :
    Calls Tryz.prog 85 #[.pointer (some ⟨x.ptr b, 0, none⟩), .pointer (some ⟨x.ptr (!b), 0, none⟩), .int .i64 now] W fun e W' => ∃ ev c pl D' S' s c1, e = .returned ev ∧ ErrIs a W' c pl ev ∧ StepTo hC hB a g x W D' W' ∧ ExportR (x.bal b) S' s c1 ∧ ((c1 ≠ 0 ∧ c = c1 ∧ D' = (⟨x.A, x.B, now⟩ : Lh.Duo).put b S') ∨ (c1 = 0 ∧ ∃ T' k, ImportR (x.bal !b) (Lh.textL ((x.bal b).ep + 1).toNat (x.bal b).L) now T' k c pl ∧ D' = ((⟨x.A, x.B, now⟩ : Lh.Duo).put b S').put (!b) T')) := by
  have HH : Hid (GS hC hB a g x now W) := h
  have hex := hC.export_ a (x.bal b) (x.foot b) (x.ptr b) W h.e (hB.x h.e) (h.rep b) (h.ok b)
  clear h
  go_enter Tryz.func85, Tryz.ntmps85
  go_wp2_with fail
  refine hex.mono ?_
  rintro e w1 ⟨F', S', s, c, ev, hF, hT, rfl, hev, hR, hRep⟩
  have hok := exportR_ok (HH.out.ok b) hR
  obtain ⟨hG1, hTo1⟩ := HH.out.turned b hRep hok hF hT
  have HG1 : Hid (GS hC hB a g (x.put b S' F') now w1) := hG1
  have HT1 : Hid (GTo g x (x.put b S' F') W w1) := hTo1
  have HR : Hid (ExportR (x.bal b) S' s c) := hR
  have hc9 := exportR_c hR
  by_cases hc : c = 0
  · subst hc
    obtain rfl := evOf_nil hev
    have e1 : (x.put b S' F').bal (!b) = x.bal (!b) := by cases b <;> rfl
    have e2 : (x.put b S' F').ptr (!b) = x.ptr (!b) := by cases b <;> rfl
    have e3 : (x.put b S' F').foot (!b) = x.foot (!b) := by cases b <;> rfl
    have hr := hG1.rep (!b)
    have hk := hG1.ok (!b)
    rw [e1, e2, e3] at hr
    rw [e1] at hk
    have hs : s = Lh.bt (Lh.textL ((x.bal b).ep + 1).toNat (x.bal b).L) ∧ (x.bal b).ep < 1099511627776 := by
      rcases hR with ⟨q1, q2, _⟩ | ⟨_, _, q, _⟩
      · exact ⟨q2, q1⟩
      · cases q
    obtain ⟨rfl, hep⟩ := hs
    have hbo := HH.out.ok b
    have hlen := text_len (caF_of hbo (e := (x.bal b).ep + 1) (by have := hbo.ep0; omega) (by omega)) (keyIn_of hbo)
    have him := hC.import_ a (x.bal !b) (x.foot !b) (x.ptr !b) (Lh.textL ((x.bal b).ep + 1).toNat (x.bal b).L) now w1 hG1.e (hB.x hG1.e) hr hk (by omega)
    clear hex hF hT hev hR hRep hok hG1 hTo1 hr hk hbo hlen
    go_wp2_with fail
    refine him.mono ?_
    rintro e w2 ⟨G', T', n, c, pl, ev, hF2, hT2, rfl, hev2, hI, hRep2⟩
    have hokI := importR_ok (HH.out.ok (!b)) hI
    have hRep2' : hC.Rep T' G' ((x.put b S' F').ptr (!b)) w2 := by rw [e2]; exact hRep2
    obtain ⟨hG2, hTo2⟩ := HG1.out.turned (!b) hRep2' hokI (by rw [e3]; exact hF2) (by rw [e3]; exact hT2)
    have HG2 : Hid (GS hC hB a g ((x.put b S' F').put (!b) T' G') now w2) := hG2
    have HT2 : Hid (GTo g x ((x.put b S' F').put (!b) T' G') W w2) := HT1.out.trans hTo2
    have HEV : Hid (ErrIs a w2 c pl ev) := hev2
    have HI : Hid (ImportR (x.bal !b) (Lh.textL ((x.bal b).ep + 1).toNat (x.bal b).L) now T' n c pl) := hI
    clear him hF2 hT2 hev2 hI hRep2 hokI hRep2' hG2 hTo2
    go_wp2
    go_ret
    refine ⟨ev, c, pl, ⟨((x.put b S' F').put (!b) T' G').A, ((x.put b S' F').put (!b) T' G').B, now⟩, S', _, 0, rfl, HEV.out, ⟨_, HG2.out, HT2.out, rfl, rfl⟩, HR.out, Or.inr ⟨rfl, T', n, HI.out, ?_⟩⟩
    rw [DR.put_duo, DR.put_duo]
  · have hei : ErrIs a w1 c (-1) ev := evOf_is hev hc9
    have HEI : Hid (ErrIs a w1 c (-1) ev) := hei
    obtain ⟨t1, x1, rfl⟩ := errIs_pos hei hc
    clear hex hF hT hev hR hRep hok hG1 hTo1 hei
    go_wp2
    go_ret
    refine ⟨_, c, -1, ⟨(x.put b S' F').A, (x.put b S' F').B, now⟩, S', _, c, rfl, HEI.out, ⟨_, HG1.out, HT1.out, rfl, rfl⟩, HR.out, Or.inl ⟨hc, rfl, ?_⟩⟩
    rw [DR.put_duo]
/-- a pick of one of the two, a little later -/
theorem GS.pick (h : GS hC hB a g x now W) (b : Bool) (k : Nat) (hk : k < 18446744073709551616) : ∀ w', Below W.heap.size W w' → Calls Tryz.prog 87 #[.pointer (some ⟨x.ptr b, 0, none⟩), .int .u64 (k : Nat), .int .i64 now] w' fun e w'' => ∃ S' s kept c ev F', e = .returned (.tuple #[.string s, .bool kept, ev]) ∧ EvOf a c ev ∧ PickR hC.nw (x.bal b) k now S' s kept c ∧ GS hC hB a g (x.put b S' F') now w'' ∧ GTo g x (x.put b S' F') W w'' := fun w' hb => by
  have hG := h.later hb
  refine (hC.pick a (x.bal b) (x.foot b) (x.ptr b) k now w' hG.e (hG.rep b) (hG.ok b) hk).mono ?_
  rintro e w2 ⟨F', S', s, kept, c, ev, hF, hT, rfl, hev, hR, hRep⟩
  have hok := pickR_ok (fun k h1 h2 => hC.nwIn k h1 h2) (hG.ok b) hk hR
  obtain ⟨hG1, hTo1⟩ := hG.turned b hRep hok hF hT
  exact ⟨S', s, kept, c, ev, F', rfl, hev, hR, hG1, (GTo.of_below hb).trans hTo1⟩
theorem GS.cells (h : GS hC hB a g x now W) : W.cell? ⟨g, 0, none⟩ = some (.pointer (some ⟨x.d, 0, none⟩)) ∧ W.cell? ⟨g, 1, none⟩ = some (.int .i64 now) ∧ W.cell? ⟨x.d, 0, none⟩ = some (.pointer (some ⟨x.p, 0, none⟩)) ∧ W.cell? ⟨x.d, 1, none⟩ = some (.pointer (some ⟨x.q, 0, none⟩)) := ⟨h.g0, h.g1, h.at_.c0, h.at_.c1⟩
theorem GS.cells' {S' : Lh.Bl} {F' : Nat → Prop} {b : Bool} (h : GS hC hB a g (x.put b S' F') now W) : W.cell? ⟨g, 0, none⟩ = some (.pointer (some ⟨x.d, 0, none⟩)) ∧ W.cell? ⟨g, 1, none⟩ = some (.int .i64 now) ∧ W.cell? ⟨x.d, 0, none⟩ = some (.pointer (some ⟨x.p, 0, none⟩)) ∧ W.cell? ⟨x.d, 1, none⟩ = some (.pointer (some ⟨x.q, 0, none⟩)) := by
  cases b
  · exact h.cells
  · exact h.cells
set_option maxRecDepth 100000 in
set_option maxHeartbeats 2000000 in
theorem expire_any (h : GS hC hB a g x now W) :
    Calls Tryz.prog 86 #[.pointer (some ⟨g, 0, none⟩)] W fun e W' => ∃ ev A' sa ka ca B' sb kb cb, e = .returned ev ∧ ErrIs a W' (if ca = 0 then cb else ca) (-1) ev ∧ StepTo hC hB a g x W ⟨A', B', now⟩ W' ∧ PickR hC.nw x.A 0 now A' sa ka ca ∧ PickR hC.nw x.B 0 now B' sb kb cb := by
  have HH : Hid (GS hC hB a g x now W) := h
  have hlk : ∀ w', Below W.heap.size W w' → Calls Tryz.prog 87 #[.pointer (some ⟨x.p, 0, none⟩), .int .u64 0, .int .i64 now] w' fun e w'' => ∃ S' s kept c ev F', e = .returned (.tuple #[.string s, .bool kept, ev]) ∧ EvOf a c ev ∧ PickR hC.nw x.A 0 now S' s kept c ∧ GS hC hB a g (x.put false S' F') now w'' ∧ GTo g x (x.put false S' F') W w'' := h.pick false 0 (by decide)
  have hCC : ∀ w', Below W.heap.size W w' → w'.cell? ⟨g, 0, none⟩ = some (.pointer (some ⟨x.d, 0, none⟩)) ∧ w'.cell? ⟨g, 1, none⟩ = some (.int .i64 now) ∧ w'.cell? ⟨x.d, 0, none⟩ = some (.pointer (some ⟨x.p, 0, none⟩)) ∧ w'.cell? ⟨x.d, 1, none⟩ = some (.pointer (some ⟨x.q, 0, none⟩)) := fun w' hb => (h.later hb).cells
  have hCp : ∀ w' S' F', GS hC hB a g (x.put false S' F') now w' → w'.cell? ⟨g, 0, none⟩ = some (.pointer (some ⟨x.d, 0, none⟩)) ∧ w'.cell? ⟨g, 1, none⟩ = some (.int .i64 now) ∧ w'.cell? ⟨x.d, 0, none⟩ = some (.pointer (some ⟨x.p, 0, none⟩)) ∧ w'.cell? ⟨x.d, 1, none⟩ = some (.pointer (some ⟨x.q, 0, none⟩)) := fun w' S' F' h => h.cells'
  clear h
  go_enter Tryz.func86, Tryz.ntmps86
  go_wp2_with fail
  go_region_held3 (fun w' => w'.cell? ⟨g, 0, none⟩ = some (.pointer (some ⟨x.d, 0, none⟩)) ∧ w'.cell? ⟨g, 1, none⟩ = some (.int .i64 now) ∧ w'.cell? ⟨x.d, 0, none⟩ = some (.pointer (some ⟨x.p, 0, none⟩)) ∧ w'.cell? ⟨x.d, 1, none⟩ = some (.pointer (some ⟨x.q, 0, none⟩)))
    (first | exact hCC _ (below_drewN (Below.refl _ _) 1) | exact hCp _ _ _ (by assumption) | exact hCC _ (by assumption))
    (first
      | (go_at_call 87; refine (hlk _ (by first | assumption | exact below_drewN (Below.refl _ _) 1)).mono ?_; rintro e w1 ⟨A', sa, ka, ca, eva, F', rfl, heva, hRa, hG1, hTo1⟩))
  have HG1 : Hid (GS hC hB a g (x.put false A' F') now w1) := hG1
  have HT1 : Hid (GTo g x (x.put false A' F') W w1) := hTo1
  have HRA : Hid (PickR hC.nw x.A 0 now A' sa ka ca) := hRa
  have HEA : Hid (EvOf a ca eva) := heva
  have hlk2 : ∀ w', Below w1.heap.size w1 w' → Calls Tryz.prog 87 #[.pointer (some ⟨x.q, 0, none⟩), .int .u64 0, .int .i64 now] w' fun e w'' => ∃ S' s kept c ev G', e = .returned (.tuple #[.string s, .bool kept, ev]) ∧ EvOf a c ev ∧ PickR hC.nw x.B 0 now S' s kept c ∧ GS hC hB a g ((x.put false A' F').put true S' G') now w'' ∧ GTo g (x.put false A' F') ((x.put false A' F').put true S' G') w1 w'' := hG1.pick true 0 (by decide)
  have hCC2 : ∀ w', Below w1.heap.size w1 w' → w'.cell? ⟨g, 0, none⟩ = some (.pointer (some ⟨x.d, 0, none⟩)) ∧ w'.cell? ⟨g, 1, none⟩ = some (.int .i64 now) ∧ w'.cell? ⟨x.d, 0, none⟩ = some (.pointer (some ⟨x.p, 0, none⟩)) ∧ w'.cell? ⟨x.d, 1, none⟩ = some (.pointer (some ⟨x.q, 0, none⟩)) := fun w' hb => (hG1.later hb).cells'
  have hCp2 : ∀ w' S' G', GS hC hB a g ((x.put false A' F').put true S' G') now w' → w'.cell? ⟨g, 0, none⟩ = some (.pointer (some ⟨x.d, 0, none⟩)) ∧ w'.cell? ⟨g, 1, none⟩ = some (.int .i64 now) ∧ w'.cell? ⟨x.d, 0, none⟩ = some (.pointer (some ⟨x.p, 0, none⟩)) ∧ w'.cell? ⟨x.d, 1, none⟩ = some (.pointer (some ⟨x.q, 0, none⟩)) := fun w' S' G' h => h.cells
  clear hlk hCC hCp heva hRa hG1 hTo1
  go_wp2_with fail
  go_region_held3 (fun w' => w'.cell? ⟨g, 0, none⟩ = some (.pointer (some ⟨x.d, 0, none⟩)) ∧ w'.cell? ⟨g, 1, none⟩ = some (.int .i64 now) ∧ w'.cell? ⟨x.d, 0, none⟩ = some (.pointer (some ⟨x.p, 0, none⟩)) ∧ w'.cell? ⟨x.d, 1, none⟩ = some (.pointer (some ⟨x.q, 0, none⟩)))
    (first | exact hCC2 _ (below_drewN (Below.refl _ _) 1) | exact hCp2 _ _ _ (by assumption) | exact hCC2 _ (by assumption))
    (first
      | (go_at_call 87; refine (hlk2 _ (by first | assumption | exact below_drewN (Below.refl _ _) 1)).mono ?_; rintro e w2 ⟨B', sb, kb, cb, evb, G', rfl, hevb, hRb, hG2, hTo2⟩))
  have HG2 : Hid (GS hC hB a g ((x.put false A' F').put true B' G') now w2) := hG2
  have HT2 : Hid (GTo g x ((x.put false A' F').put true B' G') W w2) := HT1.out.trans hTo2
  have HRB : Hid (PickR hC.nw x.B 0 now B' sb kb cb) := hRb
  have HEB : Hid (EvOf a cb evb) := hevb
  clear hlk2 hCC2 hCp2 hevb hRb hG2 hTo2
  by_cases hc : ca = 0
  · subst hc
    obtain rfl := evOf_nil HEA.out
    go_wp2
    go_ret
    exact ⟨_, A', sa, ka, 0, B', sb, kb, cb, rfl, evOf_is HEB.out (pickR_c HRB.out), ⟨_, HG2.out, HT2.out, rfl, rfl⟩, HRA.out, HRB.out⟩
  · have hei : ErrIs a w2 ca (-1) eva := evOf_is HEA.out (pickR_c HRA.out)
    have HEI : Hid (ErrIs a w2 (if ca = 0 then cb else ca) (-1) eva) := by
      show ErrIs _ _ _ _ _
      rw [if_neg hc]
      exact hei
    obtain ⟨t1, x1, rfl⟩ := errIs_pos hei hc
    clear hei
    go_wp2
    go_ret
    exact ⟨_, A', sa, ka, ca, B', sb, kb, cb, rfl, HEI.out, ⟨_, HG2.out, HT2.out, rfl, rfl⟩, HRA.out, HRB.out⟩
end
end Go.Proofs.YtmdckddenelneaaGreatDoor

/- A play: how far the epochs and the tick can go; a script's end. -/
namespace Go.Proofs.YtmdckddenelneaaGreatDoor
open Go.RowKit

section
variable {nw : List ByteArray → Nat → Nat → ByteArray}
theorem runR_snoc : ∀ {vs : List Int} {D D1 D2 : Lh.Duo} {es : List Int} {v e : Int}, RunR nw D vs es D1 → OneR nw D1 v D2 e → RunR nw D (vs ++ [v]) (es ++ [e]) D2
  | [], _, _, _, _, _, e, ⟨h1, h2⟩, ho => by subst h1; subst h2; exact ⟨e, _, [], ho, rfl, rfl, rfl⟩
  | _ :: _, _, _, _, _, _, _, ⟨e, X, es, ho, h1, hr⟩, h2 => by subst h1; exact ⟨e, X, _, ho, rfl, runR_snoc hr h2⟩
theorem put_now (D : Lh.Duo) (b : Bool) (S : Lh.Bl) : (D.put b S).now = D.now := by cases b <;> rfl
end
end Go.Proofs.YtmdckddenelneaaGreatDoor
