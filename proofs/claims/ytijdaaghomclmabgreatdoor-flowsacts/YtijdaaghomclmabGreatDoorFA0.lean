/- The law FlowsActs: its small functions; both sides in step. -/
import Derived.Test.YtijdaaghomclmabGreatDoorFlRef7
import Derived.Test.YtijdaaghomclmabGreatDoorFlRef8
import Derived.Test.YtijdaaghomclmabGreatDoorFaults
namespace Go.Proofs.YtijdaaghomclmabGreatDoor
open Go.RowKit

set_option maxHeartbeats 1000000 in
/-- coded: an error without a place is the one that the model asks. -/
theorem codedF_is {a : Nat → Addr} {W : World} {c : Nat} {v : Value} (he : Errs a W) (h : ErrIs a W c (-1) v) :
    Calls Tryz.prog 6 #[v, .int .i64 (c : Nat)] W fun e w' => e = .returned (.bool true) ∧ Below W.heap.size W w' := by
  have hc := code_is he h
  clear he h
  go_enter Tryz.func6, Tryz.ntmps6
  go_wp2_with fail
  refine hc.mono ?_
  rintro e w1 ⟨rfl, hb⟩
  clear hc
  go_wp2
  go_ret
  exact ⟨by simp, hb⟩
set_option maxHeartbeats 1000000 in
/-- faulted: the error is the one that the document asks. -/
theorem faultedF_is {a : Nat → Addr} {W : World} {c : Nat} {pl : Int} {v : Value} (he : Errs a W) (h : ErrIs a W c pl v) :
    Calls Tryz.prog 19 #[v, .agg #[.int .i64 c, .int .i64 pl]] W fun e w' => e = .returned (.bool true) ∧ Below W.heap.size W w' := by
  have hba : Below W.heap.size W (W.alloc (.cells #[.int .i64 c, .int .i64 pl] 52)) := (Below.refl _ _).alloc (Nat.le_refl _) _
  have hc := code_is (he.later hba) (h.later hba)
  go_enter Tryz.func19, Tryz.ntmps19
  go_wp2_with fail
  refine hc.mono ?_
  rintro e w1 ⟨rfl, hb1⟩
  have c0 : w1.cell? ⟨W.heap.size, 0, none⟩ = some (.int .i64 c) := below_cell hb1 (by simp)
  have c1 : w1.cell? ⟨W.heap.size, 1, none⟩ = some (.int .i64 pl) := below_cell hb1 (by simp)
  have hbz : Below W.heap.size W w1 := hba.trans (hb1.mono (by simp))
  clear hb1 hba hc
  cases hz : ((c : Int) == 0) with
  | true =>
    go_wp2
    go_ret
    exact ⟨rfl, hbz⟩
  | false =>
    go_wp2
    go_ret
    exact ⟨by simp, hbz⟩
/-- Both sides: the landed one (p, made of F) and the model (m), each in its own blocks, all of them new since w; the same flows. -/
structure BothF (hC : FlowsC) (w : World) (t p m : Nat) (la : Int) (L : List Lh.Fl) (F : Nat → Prop) (lv : Value) (W : World) : Prop where
  rep : hC.Rep t la L F p W
  mf : MF W m t la L lv
  ok : Lh.FlOk L
  la0 : 0 ≤ la
  fw : ∀ b, F b → w.heap.size ≤ b
  mw : ∀ b, FFoot m lv b → w.heap.size ≤ b
  apart : ∀ b, F b → ¬ FFoot m lv b
  below : Below w.heap.size w W
/-- the landed side is a step ahead -/
structure MidF (hC : FlowsC) (w : World) (t p m : Nat) (la : Int) (L : List Lh.Fl) (F : Nat → Prop) (lv : Value) (la' : Int) (L' : List Lh.Fl) (F' : Nat → Prop) (W1 : World) : Prop where
  ex : ∃ W, BothF hC w t p m la L F lv W ∧ Tur F W W1 ∧ ∀ b, F' b → F b ∨ W.heap.size ≤ b
  rep : hC.Rep t la' L' F' p W1
  ok : Lh.FlOk L'
  la0 : 0 ≤ la'
section
variable {hC : FlowsC} {w : World} {t p m : Nat} {la la' : Int} {L L' : List Lh.Fl} {F F' : Nat → Prop} {lv lv' : Value} {W W1 W2 : World}
theorem BothF.later (h : BothF hC w t p m la L F lv W) (hb : Below W.heap.size W W1) : BothF hC w t p m la L F lv W1 :=
  ⟨hC.later h.rep hb, h.mf.later hb, h.ok, h.la0, h.fw, h.mw, h.apart, below_then h.below hb⟩
theorem MidF.mf (h : MidF hC w t p m la L F lv la' L' F' W1) : MF W1 m t la L lv := by
  obtain ⟨W, hB, hT, _⟩ := h.ex
  exact hB.mf.stay fun b hb => hT.block b (hB.mf.lt b hb).1 fun hf => hB.apart b hf hb
theorem MidF.ok0 (h : MidF hC w t p m la L F lv la' L' F' W1) : Lh.FlOk L := by
  obtain ⟨W, hB, _, _⟩ := h.ex
  exact hB.ok
/-- .. then the model goes it too -/
theorem MidF.step (h : MidF hC w t p m la L F lv la' L' F' W1) (hM : MF W2 m t la' L' lv') (hT2 : Tur (FFoot m lv) W1 W2) (hG : ∀ b, FFoot m lv' b → FFoot m lv b ∨ W1.heap.size ≤ b) : BothF hC w t p m la' L' F' lv' W2 := by
  obtain ⟨W, hB, hT, hF⟩ := h.ex
  have hmlt := fun b hb => (hB.mf.lt b hb).1
  have hw : w.heap.size ≤ W.heap.size := hB.below.size
  have hw1 := hT.size
  have hdis : ∀ b, F' b → ¬ FFoot m lv b := fun b hb hm => by
    rcases hF b hb with h1 | h1
    · exact hB.apart b h1 hm
    · have := hmlt b hm
      omega
  have hlt1 := hC.lt h.rep
  refine ⟨hC.stay h.rep hT2.size fun b hb => hT2.block b (hlt1 b hb) (hdis b hb), hM, h.ok, h.la0, fun b hb => ?_, fun b hb => ?_, fun b hb hm => ?_, ?_⟩
  · rcases hF b hb with h1 | h1
    · exact hB.fw b h1
    · omega
  · rcases hG b hb with h1 | h1
    · exact hB.mw b h1
    · omega
  · rcases hG b hm with h1 | h1
    · exact hdis b hb h1
    · have := hlt1 b hb
      omega
  · exact hT2.below hB.mw (hT.below hB.fw hB.below (Nat.le_refl _)) (Nat.le_refl _)
/-- cells of a block that is neither side's -/
def Kept (ab : Nat) (W W' : World) : Prop := ∀ k v, W.cell? ⟨ab, k, none⟩ = some v → W'.cell? ⟨ab, k, none⟩ = some v
theorem Kept.of_tur (h : Tur F W W1) {ab : Nat} (hx : ¬ F ab) : Kept ab W W1 := fun _ _ hc => fcell h hc hx
/-- what a Put tells: the error -/
def PutE (la now : Int) (s : ByteArray) (j : Nat) : Prop := TickF la now j ∨ (TickOk la now ∧ Lh.isNm s = false ∧ j = 3)
theorem tickF_one {la now : Int} {i j : Nat} (h : TickF la now i) (k : TickF la now j) : i = j := by
  rcases h with ⟨h1, rfl⟩ | ⟨h1, h2, h3, rfl⟩ <;> rcases k with ⟨g1, rfl⟩ | ⟨g1, g2, g3, rfl⟩ <;> first | rfl | omega
theorem putE_one {la now : Int} {s : ByteArray} {i j : Nat} (h : PutE la now s i) (k : PutE la now s j) : i = j := by
  rcases h with h | ⟨h1, _, rfl⟩ <;> rcases k with k | ⟨k1, _, rfl⟩
  · exact tickF_one h k
  · exact (k1.not h).elim
  · exact (h1.not k).elim
  · rfl
theorem putE_not {la now : Int} {s : ByteArray} {j : Nat} (h : PutE la now s j) (ht : TickOk la now) (hn : Lh.isNm s = true) : False := by
  rcases h with h | ⟨_, h, _⟩
  · exact ht.not h
  · rw [hn] at h; cases h
theorem putE_lt {la now : Int} {s : ByteArray} {j : Nat} (h : PutE la now s j) : j < 9 := by
  rcases h with h | ⟨_, _, rfl⟩
  · rcases h.num with rfl | rfl <;> decide
  · decide
def ResP (t : Nat) (la : Int) (L : List Lh.Fl) (k : Nat) (s : ByteArray) (now : Int) (la' : Int) (L' : List Lh.Fl) (c : Nat) : Prop :=
  (TickOk la now ∧ Lh.isNm s = true ∧ la' = now ∧ L' = Lh.fput t L k s now ∧ c = 0) ∨ ∃ j, PutE la now s j ∧ la' = la ∧ L' = L ∧ c = j + 1
end
end Go.Proofs.YtijdaaghomclmabGreatDoor
