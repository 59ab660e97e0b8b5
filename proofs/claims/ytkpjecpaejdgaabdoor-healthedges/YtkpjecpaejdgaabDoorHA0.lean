/- The law HealthActs: its small functions; both sides in step. -/
import Derived.Test.YtkpjecpaejdgaabDoorHRM
import Derived.Test.YtkpjecpaejdgaabDoorHW
import Derived.Test.YtkpjecpaejdgaabDoorFaults
import Derived.Test.YtkpjecpaejdgaabDoorHFault
import Derived.Test.YtkpjecpaejdgaabDoorRLong
namespace Go.Proofs.YtkpjecpaejdgaabDoor
open Go.RowKit

set_option maxHeartbeats 1000000 in
/-- coded: an error without a place is the one that the model asks. -/
theorem coded2_is {a : Nat → Addr} {W : World} {c : Nat} {v : Value} (he : Errs a W) (h : ErrIs a W c (-1) v) :
    Calls Tryd.prog 35 #[v, .int .i64 (c : Nat)] W fun e w' => e = .returned (.bool true) ∧ Below W.heap.size W w' := by
  have hc := code_is he h
  clear he h
  go_enter Tryd.func35, Tryd.ntmps35
  go_wp2_with fail
  refine hc.mono ?_
  rintro e w1 ⟨rfl, hb⟩
  clear hc
  go_wp2
  go_ret
  exact ⟨by simp, hb⟩
set_option maxHeartbeats 1000000 in
/-- faulted: the error is the one that the document asks. -/
theorem faulted2_is {a : Nat → Addr} {W : World} {c : Nat} {pl : Int} {v : Value} (he : Errs a W) (h : ErrIs a W c pl v) :
    Calls Tryd.prog 33 #[v, .agg #[.int .i64 c, .int .i64 pl]] W fun e w' => e = .returned (.bool true) ∧ Below W.heap.size W w' := by
  have hba : Below W.heap.size W (W.alloc (.cells #[.int .i64 c, .int .i64 pl] 46)) := (Below.refl _ _).alloc (Nat.le_refl _) _
  have hc := code_is (he.later hba) (h.later hba)
  go_enter Tryd.func33, Tryd.ntmps33
  go_wp2_with fail
  refine hc.mono ?_
  rintro e w1 ⟨rfl, hb1⟩
  have c0 : w1.cell? ⟨W.heap.size, 0, none⟩ = some (.int .i64 c) := below_cell hb1 (by simp)
  have c1 : w1.cell? ⟨W.heap.size, 1, none⟩ = some (.int .i64 pl) := below_cell hb1 (by simp)
  have hbz : Below W.heap.size W w1 := hba.trans (hb1.mono (by simp))
  clear hb1 hba hc
  cases hz : ((c : Int) == 0) with
  | true =>
    go_wp2
    go_ret
    exact ⟨rfl, hbz⟩
  | false =>
    go_wp2
    go_ret
    exact ⟨by simp, hbz⟩
/-- what is wrong, or nothing -/
def HlAny (xs : List ByteArray) (x y : Int) (c : Nat) (pl : Int) : Prop := HlFault xs x y c pl ∨ (IsFault xs 0 (-1) ∧ 1 ≤ x ∧ x ≤ 10 ∧ 1 ≤ y ∧ y ≤ 10 ∧ c = 0 ∧ pl = -1)
theorem hlFault_pos {xs : List ByteArray} {x y : Int} {c : Nat} {pl : Int} (h : HlFault xs x y c pl) : c ≠ 0 := by
  rcases h with ⟨h, _⟩ | ⟨_, _, h, _⟩
  · exact h
  · rw [h]; decide
theorem hlAny_ex (xs : List ByteArray) (x y : Int) : ∃ c pl, HlAny xs x y c pl := by
  obtain ⟨c, pl, h⟩ := isFault_ex xs
  by_cases hc : c = 0
  · subst hc
    have hp : pl = -1 := (fault0 h).1
    subst hp
    by_cases hr : x < 1 ∨ 10 < x ∨ y < 1 ∨ 10 < y
    · exact ⟨2, -1, Or.inl (Or.inr ⟨h, hr, rfl, rfl⟩)⟩
    · exact ⟨0, -1, Or.inr ⟨h, by omega, by omega, by omega, by omega, rfl, rfl⟩⟩
  · exact ⟨c, pl, Or.inl (Or.inl ⟨hc, h⟩)⟩
/-- Both sides: the landed one (p, made of F) and the model (m), each in its own blocks, all of them new since w; the same hosts. -/
structure Both (hC : HealthC) (w : World) (f r p m : Nat) (B : Nat) (l : List Lh.Hh) (F : Nat → Prop) (L : List Mh) (lv : Value) (W : World) : Prop where
  rep : hC.Rep f r l F p W
  mh : MH W m f r L lv
  same : hst L = l
  ok : Lh.HOk f r l
  nms : ∀ x ∈ l, Lh.isNm x.1 = true
  fw : ∀ b, F b → w.heap.size ≤ b
  mw : ∀ b, MFoot m L lv b → w.heap.size ≤ b
  apart : ∀ b, F b → ¬ MFoot m L lv b
  looks : ∀ x ∈ L, x.looks.length ≤ B
  below : Below w.heap.size w W
section
variable {hC : HealthC} {w : World} {f r p m B : Nat} {l : List Lh.Hh} {F : Nat → Prop} {L : List Mh} {lv : Value} {W W1 W2 : World}
theorem Both.later (h : Both hC w f r p m B l F L lv W) (hb : Below W.heap.size W W1) : Both hC w f r p m B l F L lv W1 :=
  ⟨hC.later h.rep hb, h.mh.later hb, h.same, h.ok, h.nms, h.fw, h.mw, h.apart, h.looks, below_then h.below hb⟩
/-- the landed side goes a step, then the model -/
theorem Both.step (h : Both hC w f r p m B l F L lv W) {l' : List Lh.Hh} {F' : Nat → Prop} {L' : List Mh} {lv' : Value} {B' : Nat} (hF : ∀ b, F' b → F b ∨ W.heap.size ≤ b) (hT : Tur F W W1) (hR : hC.Rep f r l' F' p W1)
    (hM : MH W2 m f r L' lv') (hT2 : Tur (MFoot m L lv) W1 W2) (hG : ∀ b, MFoot m L' lv' b → MFoot m L lv b ∨ W1.heap.size ≤ b) (hsame : hst L' = l') (hok : Lh.HOk f r l') (hn : ∀ x ∈ l', Lh.isNm x.1 = true) (hl : ∀ x ∈ L', x.looks.length ≤ B') : Both hC w f r p m B' l' F' L' lv' W2 := by
  have hmlt := fun b hb => (h.mh.lt b hb).1
  have hw : w.heap.size ≤ W.heap.size := h.below.size
  have hw1 := hT.size
  have hdis : ∀ b, F' b → ¬ MFoot m L lv b := fun b hb hm => by
    rcases hF b hb with h1 | h1
    · exact h.apart b h1 hm
    · have := hmlt b hm
      omega
  have hlt1 := hC.lt hR
  refine ⟨hC.stay hR hT2.size fun b hb => hT2.block b (hlt1 b hb) (hdis b hb), hM, hsame, hok, hn, fun b hb => ?_, fun b hb => ?_, fun b hb hm => ?_, hl, ?_⟩
  · rcases hF b hb with h1 | h1
    · exact h.fw b h1
    · omega
  · rcases hG b hb with h1 | h1
    · exact h.mw b h1
    · omega
  · rcases hG b hm with h1 | h1
    · exact hdis b hb h1
    · have := hlt1 b hb
      omega
  · exact hT2.below h.mw (hT.below h.fw h.below (Nat.le_refl _)) (Nat.le_refl _)
/-- the model behind the landed side's step -/
theorem Both.mh1 (h : Both hC w f r p m B l F L lv W) (hT : Tur F W W1) : MH W1 m f r L lv := h.mh.stay fun b hb => hT.block b (h.mh.lt b hb).1 fun hf => h.apart b hf hb
end
end Go.Proofs.YtkpjecpaejdgaabDoor
