/- The landed play: a step, an answer. -/
import Derived.Test.YtmdckddenelneaaGreatDoorM40
import Derived.Deep.RegionHeld3
import Derived.Test.YtmdckddenelneaaGreatDoorM4
import Derived.Test.YtmdckddenelneaaGreatDoorM2
import Derived.Sort.Grow
namespace Go.Proofs.YtmdckddenelneaaGreatDoor
open Go.RowKit

section
variable {hC : BalanceC} {hB : BalP hC} {a : Nat → Addr} {g : Nat} {x : DR} {now : Int} {W : World}
theorem GTo.behind {y : DR} {w1 w2 : World} (hb : Below W.heap.size W w1) (h : GTo g x y w1 w2) : GTo g x y W w2 := (GTo.of_below hb).trans h
set_option maxRecDepth 100000 in
set_option maxHeartbeats 2000000 in
theorem step_look (h : GS hC hB a g x now W) (q : Nat) (hq : q < 9223372036854775808) (b : Bool) (hb : decide (q % 2 = 1) = b) :
    Calls Tryz.prog 53 #[.pointer (some ⟨g, 0, none⟩), .int .i64 (q : Nat), .int .i64 3] W fun e W' => ∃ ev c S' t, e = .returned ev ∧ ErrIs a W' c (-1) ev ∧ LookR (x.bal b) (four.getD (q / 2 % 4) ByteArray.empty) (decide (q / 8 % 2 = 1)) S' t c ∧ StepTo hC hB a g x W ((⟨x.A, x.B, now⟩ : Lh.Duo).put b S') W' := by
  have HH : Hid (GS hC hB a g x now W) := h
  have hs := sides_any h q
  rw [hb] at hs
  have HO : Hid (∀ w, Calls Tryz.prog 82 #[.int .i64 (q : Nat)] w fun e w' => e = .returned (.string (four.getD (q / 2 % 4) ByteArray.empty)) ∧ Below w.heap.size w w') := fun w => hostOf_any q hq w
  have HL : Hid (∀ w, Calls Tryz.prog 83 #[.int .i64 (q : Nat)] w fun e w' => e = .returned (.bool (decide (q / 8 % 2 = 1))) ∧ w' = w) := fun w => flagOf_any q hq w
  have HSZ : Hid ((four.getD (q / 2 % 4) ByteArray.empty).size ≤ maxLen) := by
    have hr : q / 2 % 4 = 0 ∨ q / 2 % 4 = 1 ∨ q / 2 % 4 = 2 ∨ q / 2 % 4 = 3 := by omega
    show _ ≤ _
    rcases hr with e | e | e | e <;> rw [e] <;> decide
  clear h hb
  generalize four.getD (q / 2 % 4) ByteArray.empty = host at *
  generalize decide (q / 8 % 2 = 1) = is at *
  go_enter Tryz.func53, Tryz.ntmps53
  go_wp2_with fail
  refine hs.mono ?_
  rintro e w1 ⟨rfl, hb1⟩
  clear hs
  go_wp2_with fail
  refine (HO.out w1).mono ?_
  rintro e w2 ⟨rfl, hb2⟩
  have hbw2 := below_then hb1 hb2
  clear hb1 hb2
  go_wp2_with fail
  refine (HL.out w2).mono ?_
  rintro e w3 ⟨rfl, rfl⟩
  have hG := HH.out.later hbw2
  have hlk := hC.look a (x.bal b) (x.foot b) (x.ptr b) host is w3 hG.e (hG.rep b) (hG.ok b) HSZ.out
  have HG : Hid (GS hC hB a g x now w3) := hG
  clear hG
  go_wp2_with fail
  refine hlk.mono ?_
  rintro e w4 ⟨F', S', t, c, ev, hF, hT, rfl, hev, hR, hRep⟩
  have hok := lookR_ok (HG.out.ok b) hR
  obtain ⟨hG1, hTo1⟩ := HG.out.turned b hRep hok hF hT
  have HG1 : Hid (GS hC hB a g (x.put b S' F') now w4) := hG1
  have HT1 : Hid (GTo g x (x.put b S' F') W w4) := hTo1.behind hbw2
  have HR : Hid (LookR (x.bal b) host is S' t c) := hR
  have HEV : Hid (ErrIs a w4 c (-1) ev) := evOf_is hev (lookR_c hR)
  clear hlk hF hT hev hR hRep hok hG1 hTo1
  go_wp2
  go_ret
  exact ⟨ev, c, S', t, rfl, HEV.out, HR.out, _, by rw [put_now]; exact HG1.out, HT1.out, by rw [← DR.put_duo x b S' F'], by rw [← DR.put_duo x b S' F']⟩
set_option maxRecDepth 100000 in
set_option maxHeartbeats 2000000 in
theorem step_drain (h : GS hC hB a g x now W) (q : Nat) (hq : q < 9223372036854775808) (b : Bool) (hb : decide (q % 2 = 1) = b) :
    Calls Tryz.prog 53 #[.pointer (some ⟨g, 0, none⟩), .int .i64 (q : Nat), .int .i64 4] W fun e W' => ∃ ev c S', e = .returned ev ∧ ErrIs a W' c (-1) ev ∧ DrainR (x.bal b) (four.getD (q / 2 % 4) ByteArray.empty) (decide (q / 8 % 2 = 1)) S' c ∧ StepTo hC hB a g x W ((⟨x.A, x.B, now⟩ : Lh.Duo).put b S') W' := by
  have HH : Hid (GS hC hB a g x now W) := h
  have hs := sides_any h q
  rw [hb] at hs
  have HO : Hid (∀ w, Calls Tryz.prog 82 #[.int .i64 (q : Nat)] w fun e w' => e = .returned (.string (four.getD (q / 2 % 4) ByteArray.empty)) ∧ Below w.heap.size w w') := fun w => hostOf_any q hq w
  have HL : Hid (∀ w, Calls Tryz.prog 83 #[.int .i64 (q : Nat)] w fun e w' => e = .returned (.bool (decide (q / 8 % 2 = 1))) ∧ w' = w) := fun w => flagOf_any q hq w
  have HSZ : Hid ((four.getD (q / 2 % 4) ByteArray.empty).size ≤ maxLen) := by
    have hr : q / 2 % 4 = 0 ∨ q / 2 % 4 = 1 ∨ q / 2 % 4 = 2 ∨ q / 2 % 4 = 3 := by omega
    show _ ≤ _
    rcases hr with e | e | e | e <;> rw [e] <;> decide
  clear h hb
  generalize four.getD (q / 2 % 4) ByteArray.empty = host at *
  generalize decide (q / 8 % 2 = 1) = is at *
  go_enter Tryz.func53, Tryz.ntmps53
  go_wp2_with fail
  refine hs.mono ?_
  rintro e w1 ⟨rfl, hb1⟩
  clear hs
  go_wp2_with fail
  refine (HO.out w1).mono ?_
  rintro e w2 ⟨rfl, hb2⟩
  have hbw2 := below_then hb1 hb2
  clear hb1 hb2
  go_wp2_with fail
  refine (HL.out w2).mono ?_
  rintro e w3 ⟨rfl, rfl⟩
  have hG := HH.out.later hbw2
  have hlk := hC.drain a (x.bal b) (x.foot b) (x.ptr b) host is w3 hG.e (hG.rep b) (hG.ok b) HSZ.out
  have HG : Hid (GS hC hB a g x now w3) := hG
  clear hG
  go_wp2_with fail
  refine hlk.mono ?_
  rintro e w4 ⟨F', S', c, ev, hF, hT, rfl, hev, hR, hRep⟩
  have hok := drainR_ok (HG.out.ok b) hR
  obtain ⟨hG1, hTo1⟩ := HG.out.turned b hRep hok hF hT
  have HG1 : Hid (GS hC hB a g (x.put b S' F') now w4) := hG1
  have HT1 : Hid (GTo g x (x.put b S' F') W w4) := hTo1.behind hbw2
  have HR : Hid (DrainR (x.bal b) host is S' c) := hR
  have HEV : Hid (ErrIs a w4 c (-1) ev) := evOf_is hev (drainR_c hR)
  clear hlk hF hT hev hR hRep hok hG1 hTo1
  go_wp2
  go_ret
  exact ⟨ev, c, S', rfl, HEV.out, HR.out, _, by rw [put_now]; exact HG1.out, HT1.out, by rw [← DR.put_duo x b S' F'], by rw [← DR.put_duo x b S' F']⟩
set_option maxRecDepth 100000 in
set_option maxHeartbeats 2000000 in
theorem step_tick (h : GS hC hB a g x now W) (q : Nat) (hq : q < 9223372036854775808) (h0 : 0 ≤ now) (h9 : now ≤ 1000000000000) :
    Calls Tryz.prog 53 #[.pointer (some ⟨g, 0, none⟩), .int .i64 (q : Nat), .int .i64 5] W fun e W' => e = .returned .nilIface ∧ StepTo hC hB a g x W ⟨x.A, x.B, now + 1 + ((q % 8 : Nat) : Int)⟩ W' := by
  have HH : Hid (GS hC hB a g x now W) := h
  have hs := sides_any h q
  obtain ⟨r8, hr8⟩ : ∃ r8, q % 8 = r8 := ⟨_, rfl⟩
  have hq8 : (q : Int) % 8 = (r8 : Int) := by omega
  have hr9 : r8 < 8 := by omega
  have w1 : IntKind.i64.wrap (1 + (r8 : Int)) = 1 + (r8 : Int) := by simp [IntKind.wrap, IntKind.signed, IntKind.bits]; omega
  have w2 : IntKind.i64.wrap (now + (1 + (r8 : Int))) = now + (1 + (r8 : Int)) := by simp [IntKind.wrap, IntKind.signed, IntKind.bits]; omega
  rw [hr8]
  have en : now + 1 + (r8 : Int) = now + (1 + (r8 : Int)) := by omega
  rw [en]
  clear h hr8 en
  generalize decide (q % 2 = 1) = b at *
  go_enter Tryz.func53, Tryz.ntmps53
  go_wp2_with fail
  refine hs.mono ?_
  rintro e w3 ⟨rfl, hb1⟩
  have hG := HH.out.later hb1
  have k1 := hG.g1
  have kz := hG.gz
  obtain ⟨hG1, hTo1⟩ := hG.ticked (now + (1 + (r8 : Int)))
  have HG1 : Hid (GS hC hB a g x (now + (1 + (r8 : Int))) (w3.setCell ⟨g, 1, none⟩ (.int .i64 (now + (1 + (r8 : Int)))))) := hG1
  have HT1 : Hid (GTo g x x W (w3.setCell ⟨g, 1, none⟩ (.int .i64 (now + (1 + (r8 : Int)))))) := hTo1.behind hb1
  clear hs hG hG1 hTo1
  go_wp2
  go_ret
  exact ⟨rfl, x, HG1.out, HT1.out, rfl, rfl⟩
set_option maxRecDepth 100000 in
set_option maxHeartbeats 2000000 in
theorem step_carry (h : GS hC hB a g x now W) (q : Nat) (b : Bool) (hb : decide (q % 2 = 1) = b) :
    Calls Tryz.prog 53 #[.pointer (some ⟨g, 0, none⟩), .int .i64 (q : Nat), .int .i64 6] W fun e W' => ∃ ev c pl D' S' s c1, e = .returned ev ∧ ErrIs a W' c pl ev ∧ StepTo hC hB a g x W D' W' ∧ ExportR (x.bal b) S' s c1 ∧ ((c1 ≠ 0 ∧ c = c1 ∧ D' = (⟨x.A, x.B, now⟩ : Lh.Duo).put b S') ∨ (c1 = 0 ∧ ∃ T' k, ImportR (x.bal !b) (Lh.textL ((x.bal b).ep + 1).toNat (x.bal b).L) now T' k c pl ∧ D' = ((⟨x.A, x.B, now⟩ : Lh.Duo).put b S').put (!b) T')) := by
  have HH : Hid (GS hC hB a g x now W) := h
  have hs := sides_any h q
  rw [hb] at hs
  clear h hb
  go_enter Tryz.func53, Tryz.ntmps53
  go_wp2_with fail
  refine hs.mono ?_
  rintro e w1 ⟨rfl, hb1⟩
  have hG := HH.out.later hb1
  have k1 := hG.g1
  have HCO : Hid (Calls Tryz.prog 85 #[.pointer (some ⟨x.ptr b, 0, none⟩), .pointer (some ⟨x.ptr (!b), 0, none⟩), .int .i64 now] w1 fun e W' => ∃ ev c pl D' S' s c1, e = .returned ev ∧ ErrIs a W' c pl ev ∧ StepTo hC hB a g x W D' W' ∧ ExportR (x.bal b) S' s c1 ∧ ((c1 ≠ 0 ∧ c = c1 ∧ D' = (⟨x.A, x.B, now⟩ : Lh.Duo).put b S') ∨ (c1 = 0 ∧ ∃ T' k, ImportR (x.bal !b) (Lh.textL ((x.bal b).ep + 1).toNat (x.bal b).L) now T' k c pl ∧ D' = ((⟨x.A, x.B, now⟩ : Lh.Duo).put b S').put (!b) T'))) :=
    (carryOver_any hG b).mono fun e W' ⟨ev, c, pl, D', S', s, c1, q1, q2, ⟨y, y1, y2, y3⟩, q4⟩ => ⟨ev, c, pl, D', S', s, c1, q1, q2, ⟨y, y1, y2.behind hb1, y3⟩, q4⟩
  clear hs hG
  go_wp2_with fail
  refine HCO.out.mono ?_
  rintro e w2 ⟨ev, c, pl, D', S', s, c1, rfl, q2, q3, q4, q5⟩
  clear HCO
  have HQ : Hid (ErrIs a w2 c pl ev ∧ StepTo hC hB a g x W D' w2 ∧ ExportR (x.bal b) S' s c1 ∧ ((c1 ≠ 0 ∧ c = c1 ∧ D' = (⟨x.A, x.B, now⟩ : Lh.Duo).put b S') ∨ (c1 = 0 ∧ ∃ T' k, ImportR (x.bal !b) (Lh.textL ((x.bal b).ep + 1).toNat (x.bal b).L) now T' k c pl ∧ D' = ((⟨x.A, x.B, now⟩ : Lh.Duo).put b S').put (!b) T'))) := ⟨q2, q3, q4, q5⟩
  clear q2 q3 q4 q5
  go_wp2
  go_ret
  exact ⟨ev, c, pl, D', S', s, c1, rfl, HQ.out.1, HQ.out.2.1, HQ.out.2.2.1, HQ.out.2.2.2⟩
set_option maxRecDepth 100000 in
set_option maxHeartbeats 2000000 in
theorem step_both (h : GS hC hB a g x now W) (q : Nat) :
    Calls Tryz.prog 53 #[.pointer (some ⟨g, 0, none⟩), .int .i64 (q : Nat), .int .i64 7] W fun e W' => ∃ ev A' sa ka ca B' sb kb cb, e = .returned ev ∧ ErrIs a W' (if ca = 0 then cb else ca) (-1) ev ∧ StepTo hC hB a g x W ⟨A', B', now⟩ W' ∧ PickR hC.nw x.A 0 now A' sa ka ca ∧ PickR hC.nw x.B 0 now B' sb kb cb := by
  have HH : Hid (GS hC hB a g x now W) := h
  have hs := sides_any h q
  clear h
  generalize decide (q % 2 = 1) = b at *
  go_enter Tryz.func53, Tryz.ntmps53
  go_wp2_with fail
  refine hs.mono ?_
  rintro e w1 ⟨rfl, hb1⟩
  have hG := HH.out.later hb1
  have HCO : Hid (Calls Tryz.prog 86 #[.pointer (some ⟨g, 0, none⟩)] w1 fun e W' => ∃ ev A' sa ka ca B' sb kb cb, e = .returned ev ∧ ErrIs a W' (if ca = 0 then cb else ca) (-1) ev ∧ StepTo hC hB a g x W ⟨A', B', now⟩ W' ∧ PickR hC.nw x.A 0 now A' sa ka ca ∧ PickR hC.nw x.B 0 now B' sb kb cb) :=
    (expire_any hG).mono fun e W' ⟨ev, A', sa, ka, ca, B', sb, kb, cb, q1, q2, ⟨y, y1, y2, y3⟩, q4⟩ => ⟨ev, A', sa, ka, ca, B', sb, kb, cb, q1, q2, ⟨y, y1, y2.behind hb1, y3⟩, q4⟩
  clear hs hG
  go_wp2_with fail
  refine HCO.out.mono ?_
  rintro e w2 ⟨ev, A', sa, ka, ca, B', sb, kb, cb, rfl, q2, q3, q4, q5⟩
  clear HCO
  have HQ : Hid (ErrIs a w2 (if ca = 0 then cb else ca) (-1) ev ∧ StepTo hC hB a g x W ⟨A', B', now⟩ w2 ∧ PickR hC.nw x.A 0 now A' sa ka ca ∧ PickR hC.nw x.B 0 now B' sb kb cb) := ⟨q2, q3, q4, q5⟩
  clear q2 q3 q4 q5
  go_wp2
  go_ret
  exact ⟨ev, A', sa, ka, ca, B', sb, kb, cb, rfl, HQ.out.1, HQ.out.2.1, HQ.out.2.2.1, HQ.out.2.2.2⟩
set_option maxRecDepth 100000 in
set_option maxHeartbeats 4000000 in
theorem step_pick (h : GS hC hB a g x now W) (q : Nat) (hq : q < 9223372036854775808) (b : Bool) (hb : decide (q % 2 = 1) = b) (r : Int) (hr : r = 0 ∨ r = 1 ∨ r = 2) :
    Calls Tryz.prog 53 #[.pointer (some ⟨g, 0, none⟩), .int .i64 (q : Nat), .int .i64 r] W fun e W' => ∃ ev c S' s kept, e = .returned ev ∧ ErrIs a W' c (-1) ev ∧ PickR hC.nw (x.bal b) (q / 2) now S' s kept c ∧ StepTo hC hB a g x W ((⟨x.A, x.B, now⟩ : Lh.Duo).put b S') W' := by
  have HH : Hid (GS hC hB a g x now W) := h
  have hs := sides_any h q
  rw [hb] at hs
  obtain ⟨k, hk2⟩ : ∃ k, q / 2 = k := ⟨_, rfl⟩
  have hq2 : (q : Int) / 2 = (k : Int) := by omega
  have hkl : k < 18446744073709551616 := by omega
  have hku : IntKind.u64.wrap (k : Int) = (k : Int) := by simp [IntKind.wrap, IntKind.signed, IntKind.bits]; omega
  rw [hk2]
  have r3 : (r == 3) = false := by rcases hr with rfl | rfl | rfl <;> decide
  have r4 : (r == 4) = false := by rcases hr with rfl | rfl | rfl <;> decide
  have r5 : (r == 5) = false := by rcases hr with rfl | rfl | rfl <;> decide
  have r6 : (r == 6) = false := by rcases hr with rfl | rfl | rfl <;> decide
  have r7 : (r == 7) = false := by rcases hr with rfl | rfl | rfl <;> decide
  clear h hb hk2 hr
  go_enter Tryz.func53, Tryz.ntmps53
  go_wp2_with fail
  refine hs.mono ?_
  rintro e w1 ⟨rfl, hb1⟩
  have hG := HH.out.later hb1
  have k1 := hG.g1
  have hlk := hC.pick a (x.bal b) (x.foot b) (x.ptr b) k now w1 hG.e (hG.rep b) (hG.ok b) hkl
  have HG : Hid (GS hC hB a g x now w1) := hG
  clear hG hs
  go_wp2_with fail
  refine hlk.mono ?_
  rintro e w4 ⟨F', S', s, kept, c, ev, hF, hT, rfl, hev, hR, hRep⟩
  have hok := pickR_ok (fun k h1 h2 => hC.nwIn k h1 h2) (HG.out.ok b) hkl hR
  obtain ⟨hG1, hTo1⟩ := HG.out.turned b hRep hok hF hT
  have HG1 : Hid (GS hC hB a g (x.put b S' F') now w4) := hG1
  have HT1 : Hid (GTo g x (x.put b S' F') W w4) := hTo1.behind hb1
  have HR : Hid (PickR hC.nw (x.bal b) k now S' s kept c) := hR
  have HEV : Hid (ErrIs a w4 c (-1) ev) := evOf_is hev (pickR_c hR)
  clear hlk hF hT hev hR hRep hok hG1 hTo1 k1
  go_wp2
  go_ret
  exact ⟨ev, c, S', s, kept, rfl, HEV.out, HR.out, _, by rw [put_now]; exact HG1.out, HT1.out, by rw [← DR.put_duo x b S' F'], by rw [← DR.put_duo x b S' F']⟩
end
end Go.Proofs.YtmdckddenelneaaGreatDoor

/- The landed play: what a number does. -/
namespace Go.Proofs.YtmdckddenelneaaGreatDoor
open Go.RowKit

section
variable {hC : BalanceC} {hB : BalP hC} {a : Nat → Addr} {g : Nat} {x : DR} {now : Int} {W : World}
theorem step_any (h : GS hC hB a g x now W) (h0 : 0 ≤ now) (h9 : now ≤ 1000000000000) (n : Nat) (hn : n < 9223372036854775808) :
    Calls Tryz.prog 53 #[.pointer (some ⟨g, 0, none⟩), .int .i64 ((n / 8 : Nat) : Int), .int .i64 ((n % 8 : Nat) : Int)] W fun e W' => ∃ ev c pl D', e = .returned ev ∧ ErrIs a W' c pl ev ∧ StepR hC.nw ⟨x.A, x.B, now⟩ n D' c ∧ StepTo hC hB a g x W D' W' := by
  have hr : n % 8 = 0 ∨ n % 8 = 1 ∨ n % 8 = 2 ∨ n % 8 = 3 ∨ n % 8 = 4 ∨ n % 8 = 5 ∨ n % 8 = 6 ∨ n % 8 = 7 := by omega
  have hpick : n % 8 ≤ 2 → Calls Tryz.prog 53 #[.pointer (some ⟨g, 0, none⟩), .int .i64 ((n / 8 : Nat) : Int), .int .i64 ((n % 8 : Nat) : Int)] W fun e W' => ∃ ev c pl D', e = .returned ev ∧ ErrIs a W' c pl ev ∧ StepR hC.nw ⟨x.A, x.B, now⟩ n D' c ∧ StepTo hC hB a g x W D' W' := fun h2 => by
    refine (step_pick h (n / 8) (by omega) _ rfl ((n % 8 : Nat) : Int) (by omega)).mono ?_
    rintro e W' ⟨ev, c, S', s, kept, q1, q2, q3, q4⟩
    exact ⟨ev, c, -1, _, q1, q2, ⟨n / 8, _, _, _, rfl, rfl, rfl, rfl, Or.inl ⟨h2, S', s, kept, by rw [DR.sel_bal]; exact q3, rfl⟩⟩, q4⟩
  rcases hr with e | e | e | e | e | e | e | e
  · exact hpick (by omega)
  · exact hpick (by omega)
  · exact hpick (by omega)
  · rw [e]
    refine (step_look h (n / 8) (by omega) _ rfl).mono ?_
    rintro e' W' ⟨ev, c, S', t, q1, q2, q3, q4⟩
    exact ⟨ev, c, -1, _, q1, q2, ⟨n / 8, _, _, _, rfl, rfl, rfl, rfl, Or.inr (Or.inl ⟨e, S', t, by rw [DR.sel_bal]; exact q3, rfl⟩)⟩, q4⟩
  · rw [e]
    refine (step_drain h (n / 8) (by omega) _ rfl).mono ?_
    rintro e' W' ⟨ev, c, S', q1, q2, q3, q4⟩
    exact ⟨ev, c, -1, _, q1, q2, ⟨n / 8, _, _, _, rfl, rfl, rfl, rfl, Or.inr (Or.inr (Or.inl ⟨e, S', by rw [DR.sel_bal]; exact q3, rfl⟩))⟩, q4⟩
  · rw [e]
    refine (step_tick h (n / 8) (by omega) h0 h9).mono ?_
    rintro e' W' ⟨q1, q2⟩
    exact ⟨_, 0, -1, _, q1, Or.inl ⟨rfl, rfl, rfl⟩, ⟨n / 8, _, _, _, rfl, rfl, rfl, rfl, Or.inr (Or.inr (Or.inr (Or.inl ⟨e, rfl, rfl⟩)))⟩, q2⟩
  · rw [e]
    refine (step_carry h (n / 8) _ rfl).mono ?_
    rintro e' W' ⟨ev, c, pl, D', S', s, c1, q1, q2, q3, q4, q5⟩
    refine ⟨ev, c, pl, D', q1, q2, ⟨n / 8, _, _, _, rfl, rfl, rfl, rfl, Or.inr (Or.inr (Or.inr (Or.inr (Or.inl ⟨e, S', s, c1, by rw [DR.sel_bal]; exact q4, ?_⟩))))⟩, q3⟩
    rcases q5 with ⟨r1, r2, r3⟩ | ⟨r1, T', k, r2, r3⟩
    · exact Or.inl ⟨r1, r2, r3⟩
    · exact Or.inr ⟨r1, T', k, pl, by rw [DR.sel_bal, DR.sel_bal]; exact r2, r3⟩
  · rw [e]
    refine (step_both h (n / 8)).mono ?_
    rintro e' W' ⟨ev, A', sa, ka, ca, B', sb, kb, cb, q1, q2, q3, q4, q5⟩
    exact ⟨ev, _, -1, _, q1, q2, ⟨n / 8, _, _, _, rfl, rfl, rfl, rfl, Or.inr (Or.inr (Or.inr (Or.inr (Or.inr ⟨e, A', sa, ka, ca, B', sb, kb, cb, q4, q5, rfl, rfl⟩))))⟩, q3⟩
set_option maxHeartbeats 2000000 in
theorem answer_any (h : GS hC hB a g x now W) (h0 : 0 ≤ now) (h9 : now ≤ 1000000000000) (v : Int) (hv : v < 9223372036854775808) :
    Calls Tryz.prog 37 #[.pointer (some ⟨g, 0, none⟩), .int .i64 v] W fun e W' => ∃ r D', e = .returned (.int .i64 r) ∧ OneR hC.nw ⟨x.A, x.B, now⟩ v D' r ∧ StepTo hC hB a g x W D' W' := by
  by_cases hv0 : v < 0
  · have HH : Hid (GS hC hB a g x now W) := h
    have HV : Hid (v < 0) := hv0
    have d0 : decide (v < 0) = true := by simpa using hv0
    clear h
    go_enter Tryz.func37, Tryz.ntmps37
    go_wp2
    go_ret
    exact ⟨-1, _, rfl, Or.inl ⟨HV.out, rfl, rfl⟩, x, HH.out, GTo.of_below (Below.refl _ _), rfl, rfl⟩
  · obtain ⟨n, rfl⟩ := Int.eq_ofNat_of_zero_le (show 0 ≤ v by omega)
    have hn : n < 9223372036854775808 := by omega
    have hst := step_any h h0 h9 n hn
    obtain ⟨q, hq⟩ : ∃ q, n / 8 = q := ⟨_, rfl⟩
    obtain ⟨r, hr⟩ : ∃ r, n % 8 = r := ⟨_, rfl⟩
    rw [hq, hr] at hst
    have hq8 : (n : Int) / 8 = (q : Int) := by omega
    have hr8 : (n : Int) % 8 = (r : Int) := by omega
    have d0 : decide ((n : Int) < 0) = false := by simp
    clear h hq hr
    go_enter Tryz.func37, Tryz.ntmps37
    go_wp2_with fail
    refine hst.mono ?_
    rintro e w1 ⟨ev, c, pl, D', rfl, hev, hR, y, hG, hTo, hA, hBb⟩
    have hcode := code_is (hB.errs hG.e) hev
    have HR : Hid (StepR hC.nw ⟨x.A, x.B, now⟩ n D' c) := hR
    have HG : Hid (GS hC hB a g y D'.now w1) := hG
    have HT : Hid (GTo g x y W w1) := hTo
    clear hst hev hR hG hTo
    go_wp2_with fail
    refine hcode.mono ?_
    rintro e w2 ⟨rfl, hb2⟩
    clear hcode
    go_wp2
    go_ret
    exact ⟨(c : Int), D', rfl, Or.inr ⟨n, c, rfl, rfl, HR.out⟩, y, HG.out.later hb2, HT.out.trans (GTo.of_below hb2), hA, hBb⟩
theorem GS.other (h : GS hC hB a g x now W) {ab : Nat} (hx : ¬ x.F ab) (hg : ab ≠ g) (hK : hB.K ≤ ab) (i : Nat) (v : Value) : GS hC hB a g x now (W.setCell ⟨ab, i, none⟩ v) := by
  have hT := tur_setP W ab i v
  exact ⟨hB.tur h.e hT fun b hb => by subst hb; exact hK, h.at_.stay hT.size fun b hb => hT.block b (h.at_.lt b hb) fun e => hx (by subst e; exact hb), foot_cell hT (fun e => hg e.symm) h.g0, foot_cell hT (fun e => hg e.symm) h.g1, h.gx, h.gK, by rw [World.frozen?_setCell]; exact h.gz⟩
theorem oneR_now {nw : List ByteArray → Nat → Nat → ByteArray} {D D' : Lh.Duo} {v r : Int} (h : OneR nw D v D' r) : D.now ≤ D'.now ∧ D'.now ≤ D.now + 8 := by
  rcases h with ⟨_, rfl, _⟩ | ⟨n, c, _, _, q, b, host, is, rfl, rfl, rfl, rfl, hs⟩
  · omega
  rcases hs with ⟨m, S1, s1, k1, hp, rfl⟩ | ⟨m, S1, t1, hp, rfl⟩ | ⟨m, S1, hp, rfl⟩ | ⟨m, _, rfl⟩ | ⟨m, S1, s1, c1, hp, ⟨_, _, rfl⟩ | ⟨_, T1, k1, p1, hi, rfl⟩⟩ | ⟨m, A1, sa, ka, ca, B1, sb, kb, cb, ha, hb, _, rfl⟩
  · rw [put_now]; omega
  · rw [put_now]; omega
  · rw [put_now]; omega
  · show D.now ≤ D.now + 1 + ((n / 8 % 8 : Nat) : Int) ∧ D.now + 1 + ((n / 8 % 8 : Nat) : Int) ≤ _
    omega
  · rw [put_now]; omega
  · rw [put_now, put_now]; omega
  · exact ⟨Int.le_refl _, by show D.now ≤ _; omega⟩
end
end Go.Proofs.YtmdckddenelneaaGreatDoor

/- The order of rivals, pure: by score falling, then by name. -/
namespace Go.Proofs.YtmdckddenelneaaGreatDoor
namespace Lh
/-- the document's score -/
def score (k : Nat) (s : ByteArray) : Nat := turn (turn (num s 3) ^^^ k)
def leB (f : ByteArray → Nat) (a b : ByteArray) : Bool := decide (f b < f a) || (decide (f a = f b) && decide (bl a ≤ bl b))
def order (f : ByteArray → Nat) (xs : List ByteArray) : List ByteArray := xs.mergeSort (leB f)
end Lh
end Go.Proofs.YtmdckddenelneaaGreatDoor

/- Numbers and scores once more: the memory only grows. -/
namespace Go.Proofs.YtmdckddenelneaaGreatDoor
open Go.RowKit Go.Sort

/-- Only draws, and new blocks. -/
def Gr (w w' : World) : Prop := ∃ q os, w' = grow (w.drewN q) os
theorem Gr.refl (w : World) : Gr w w := ⟨0, #[], by rw [grow_empty]; rfl⟩
theorem Gr.trans {a b c : World} (h : Gr a b) (k : Gr b c) : Gr a c := by
  obtain ⟨q, os, rfl⟩ := h
  obtain ⟨q', os', rfl⟩ := k
  refine ⟨q + q', os ++ os', ?_⟩
  show grow (grow ((a.drewN q).drewN q') os) os' = _
  rw [grow_grow, World.drewN_drewN]
theorem Gr.alloc {a b : World} (h : Gr a b) (o : Obj) : Gr a (b.alloc o) := h.trans ⟨0, #[o], by rw [alloc_eq_grow]; rfl⟩
theorem Gr.drewN {a b : World} (h : Gr a b) (n : Nat) : Gr a (b.drewN n) := h.trans ⟨n, #[], by rw [grow_empty]⟩
theorem Gr.cell {a b : World} (h : Gr a b) {x : Addr} {v : Value} (hc : a.cell? x = some v) : b.cell? x = some v := by
  obtain ⟨q, os, rfl⟩ := h
  have hb : x.block < a.heap.size := by
    by_cases hb : x.block < a.heap.size
    · exact hb
    · rw [World.cell?, Array.getElem?_eq_none (by omega)] at hc
      cases hc
  rw [cell?_grow (a.drewN q) os x hb]
  exact hc
theorem Gr.below {w w' : World} (h : Gr w w') : Below w.heap.size w w' := by
  obtain ⟨q, os, rfl⟩ := h
  exact ⟨rfl, rfl, rfl, by rw [size_grow]; exact Nat.le_add_right _ _, fun k hk => heap_grow_old _ _ hk⟩

set_option maxHeartbeats 400000 in
theorem turn_gr (z : Nat) (w : World) :
    Calls Tryz.prog 28 #[.int .u64 z] w fun e w' => e = .returned (.int .u64 (Lh.turn z : Nat)) ∧ Gr w w' := by
  go_enter Tryz.func28, Tryz.ntmps28
  go_wp2
  go_end0
  go_wp2
  go_end0
  go_wp2
  go_end0
  go_wp2
  go_ret
  refine ⟨?_, (Gr.refl _).alloc _⟩
  rw [stepAdd, step30 _ (Nat.mod_lt _ (by decide)), step27 _ (Nat.mod_lt _ (by decide)), step31 _ (Nat.mod_lt _ (by decide))]
  rfl

end Go.Proofs.YtmdckddenelneaaGreatDoor
