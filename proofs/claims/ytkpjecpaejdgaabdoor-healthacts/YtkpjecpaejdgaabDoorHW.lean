/- The closed fact: a host falls. -/
import Derived.Test.YtkpjecpaejdgaabDoorHCon
namespace Go.Proofs.YtkpjecpaejdgaabDoor
open Go.RowKit

theorem hixA : Lh.hix [(hostA, true, 0)] hostA = 0 := by simp [Lh.hix]
theorem hix_one (s : ByteArray) (up : Bool) (n : Nat) : Lh.hix [(s, up, n)] s = 0 := by simp [Lh.hix]
theorem hok_one {f r : Nat} (hf1 : 1 ≤ f) (hf : f ≤ 10) (hr1 : 1 ≤ r) (hr : r ≤ 10) {s : ByteArray} (hs : s.size ≤ 300) {up : Bool} {n : Nat} (hn : n < Lh.hedge f r up) : Lh.HOk f r [(s, up, n)] :=
  ⟨hf1, hf, hr1, hr, by simp, by simp, fun x hx => by simp at hx; subst hx; exact hs, fun x hx => by simp at hx; subst hx; exact hn⟩
/-- a look at the only host -/
theorem look_one (hC : HealthC) {a : Nat → Addr} {f r : Nat} (hf1 : 1 ≤ f) (hf : f ≤ 10) (hr1 : 1 ≤ r) (hr : r ≤ 10) {s : ByteArray} (hs : s.size ≤ 300) {up : Bool} {n : Nat} (hn : n < Lh.hedge f r up) (well : Bool) {F : Nat → Prop} {p : Nat} {W : World} (he : Errs4 a W) (hR : hC.Rep f r [(s, up, n)] F p W) {B : Nat} (hF : ∀ b, F b → B ≤ b) (hB : B ≤ W.heap.size) (x : Lh.Hh) (t : Bool) (hx : Lh.hlook f r (s, up, n) well = (x, t)) :
    Calls Tryd.prog 30 #[.pointer (some ⟨p, 0, none⟩), .string s, .bool well] W fun e W' => ∃ F', e = .returned (.tuple #[.bool t, .nilIface]) ∧ hC.Rep f r [x] F' p W' ∧ (∀ b, F' b → B ≤ b) ∧ Below B W W' := by
  refine (hC.look a f r _ F p s well W he hR (hok_one hf1 hf hr1 hr hs hn) hs).mono ?_
  rintro e W' ⟨F', h1, h2, ⟨h, h3, h4⟩ | ⟨h, _⟩⟩
  · simp only [hix_one, List.getElem_cons_zero, List.set_cons_zero, hx] at h3 h4
    refine ⟨F', h3, h4, fun b hb => ?_, h2.below hF (Below.refl _ _) hB⟩
    rcases h1 b hb with h5 | h5
    · exact hF b h5
    · omega
  · exact absurd (by simp [hix_one]) h

set_option maxHeartbeats 2000000 in
theorem watched_any (hC : HealthC) (a : Nat → Addr) (w : World) (he : Errs4 a w) :
    Calls Tryd.prog 28 #[] w fun e w' => e = .returned (.bool true) ∧ Below w.heap.size w w' := by
  have HE : Hid (Errs4 a w) := he
  have hb0 : Below w.heap.size w (w.alloc (.cells #[.string hostA] 9)) := (Below.refl _ _).alloc (Nat.le_refl _) _
  have hnew := hC.newG a _ [hostA] 2 1 _ (he.later hb0) (strsA w) faultsA (fun s hs => by simp at hs; subst hs; exact lenA) (by decide) (by decide) (by decide) (by decide)
  clear he
  go_enter Tryd.func28, Tryd.ntmps28
  go_wp2_with fail
  refine hnew.mono ?_
  rintro e w1 ⟨p, F, rfl, hR, hF, hb1⟩
  have hbw1 : Below w.heap.size w w1 := below_then hb0 hb1
  have hF1 : ∀ b, F b → w.heap.size ≤ b := fun b h => Nat.le_trans (by simp) (hF b h)
  have hR1 : hC.Rep 2 1 [(hostA, true, 0)] F p w1 := hR
  have hl1 := look_one hC (by decide) (by decide) (by decide) (by decide) lenA (by decide) false (HE.out.later hbw1) hR1 hF1 hbw1.size (hostA, true, 1) false (by simp [Lh.hlook, Lh.hedge])
  clear hnew hR hF hF1 hR1 hb0 hb1
  go_wp2_with fail
  refine hl1.mono ?_
  rintro e w2 ⟨F2, rfl, hR2, hF2, hb2⟩
  have hbw2 : Below w.heap.size w w2 := hbw1.trans hb2
  have hl2 := look_one hC (by decide) (by decide) (by decide) (by decide) lenA (by decide) false (HE.out.later hbw2) hR2 hF2 hbw2.size (hostA, false, 0) true (by simp [Lh.hlook, Lh.hedge])
  clear hl1 hR2 hF2 hb2 hbw1
  go_wp2_with fail
  refine hl2.mono ?_
  rintro e w3 ⟨F3, rfl, hR3, hF3, hb3⟩
  have hbw3 : Below w.heap.size w w3 := hbw2.trans hb3
  have hok3 : Lh.HOk 2 1 [(hostA, false, 0)] := hok_one (by decide) (by decide) (by decide) (by decide) lenA (by decide)
  have his := hC.is 2 1 _ F3 p hostA w3 hR3 hok3 lenA
  have e1 : Lh.hup [(hostA, false, 0)] hostA = false := by simp [Lh.hup]
  rw [e1] at his
  have HR3 : Hid (hC.Rep 2 1 [(hostA, false, 0)] F3 p w3) := hR3
  have HOK : Hid (Lh.HOk 2 1 [(hostA, false, 0)]) := hok3
  clear hl2 hbw2 hR3 hb3 hok3 e1
  go_wp2_with fail
  refine his.mono ?_
  rintro e w4 ⟨rfl, hb4⟩
  have hup := hC.up 2 1 _ F3 p w4 (hC.later HR3.out hb4) HOK.out
  clear his
  go_wp2_with fail
  refine hup.mono ?_
  rintro e w5 ⟨v5, rfl, hv5, hb5⟩
  have h5 : v5 = .slice none 0 0 ∨ ∃ a c, v5 = .slice (some a) 0 c := by
    rcases hv5 with ⟨_, h⟩ | ⟨b, o, c, h, _⟩
    · exact h
    · exact Or.inr ⟨_, _, h⟩
  clear hup hv5
  rcases h5 with rfl | ⟨ad, cp, rfl⟩
  · go_wp2
    go_ret
    exact ⟨rfl, below_then (below_then hbw3 hb4) hb5⟩
  · go_wp2
    go_ret
    exact ⟨rfl, below_then (below_then hbw3 hb4) hb5⟩
end Go.Proofs.YtkpjecpaejdgaabDoor
