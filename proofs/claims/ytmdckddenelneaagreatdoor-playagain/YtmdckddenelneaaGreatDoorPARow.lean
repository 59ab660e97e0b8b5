/- PlayAgain: for all lists the law answers true, if the landed packages keep their contracts. No condition but the row's own: the package variables that it lists begin as the program's text lays them (tied): what the landed packages ask of them is asked here (hE). -/
import Derived.Test.YtmdckddenelneaaGreatDoorCards
import Derived.Test.YtmdckddenelneaaGreatDoorTie
import Derived.Test.YtmdckddenelneaaGreatDoorM47
import Derived.Test.YtmdckddenelneaaGreatDoorPAWi
import Derived.Test.YtmdckddenelneaaGreatDoorPAFa
import Derived.Test.YtmdckddenelneaaGreatDoorM5
import Derived.SliceStrings
import Derived.Test.YtmdckddenelneaaGreatDoorM50
import Derived.ChangeSlices
namespace Go.Proofs.YtmdckddenelneaaGreatDoor.playAgain
open Go.ChangeShapes Go.WideShapes Go.ChangeAt Go.RowKit
open Go.ChangeMaps (open_string shut_string)

theorem cellsIP : Tryz.prog.cellsOf 3 = 1 := by kernel_rfl
/-- numbers as they are handed over -/
theorem open_intsP {H : Type} {enc : TypeId × Value → H} {W : World} {fuel : Nat} {x : DataW H × List MemPlace} {a0 : Option Addr} {len cap : Nat}
    (hf : DataW.trod enc Tryz.prog W 0 (fun _ => true) true fuel 29 [.slice a0 len cap] = some x) :
    ∃ l : List Int, len = l.length ∧ IntsP W (.slice a0 len cap) l ∧ l.length ≤ maxLen ∧ ∀ z ∈ l, z < 9223372036854775808 := by
  rcases open_ints Tryz.underlying29 Tryz.underlying3 cellsIP hf with ⟨hcs, _⟩ | ⟨a, len', cap', zs, hcs, _, hl, hm, hz, _, hcell, hws⟩
  · simp at hcs
    obtain ⟨rfl, rfl, rfl⟩ := hcs
    exact ⟨[], rfl, Or.inl ⟨rfl, rfl⟩, by simp, fun z hz => by cases hz⟩
  · simp at hcs
    obtain ⟨rfl, rfl, rfl⟩ := hcs
    simp only [if_true] at hz
    have hlen : (zs.take len).length = len := by simp; omega
    refine ⟨zs.take len, hlen.symm, Or.inr ⟨a, cap, by rw [hlen], by omega, fun j u hu => ?_, fun h0 => ?_⟩, by omega, fun z hz => ?_⟩
    · have hj : j < (zs.take len).length := by
        rcases Nat.lt_or_ge j (zs.take len).length with h | h
        · exact h
        · rw [List.getElem?_eq_none (by simpa using h)] at hu
          cases hu
      have hk : j < zs.length := by omega
      have := hcell j hk
      rw [this, ← hu]
      simp [List.getD, hk, hlen ▸ hj]
    · simpa [Addr.add] using World.cell?_spot (hcell 0 (by omega))
    · have := bounds_i64 (hws z (List.mem_of_mem_take hz))
      omega

set_option maxRecDepth 100000 in
theorem lifted (hC : World → BalanceC) (hP : ∀ w, PlayC (hC w)) (hE : ∀ W, laidMetH Tryz.prog Rows.playAgainRow.laid W → W.ShapedOpen Tryz.prog → ∃ a, (hP W).E a W) (os : Os) (started : os.Started) (H : Type) (enc : TypeId × Value → H) :
    ReturnsInHanded {} Tryz.checked os 4 .any (fun w args => (Rows.playAgainSpec.pre enc Tryz.prog Tryz.f4 [] false w args ∧ laidMetH Tryz.prog Rows.playAgainRow.laid w) ∧ sizedMet enc Tryz.prog Tryz.f4 (OpenSpec.ofChange Rows.playAgainSpec) false w args)
      (Rows.playAgainSpec.post enc Tryz.prog Tryz.f4 false true false false) := by
  refine returnsShaped (C := Tryz.checked) (X := fun w _ => laidMetH Tryz.prog Rows.playAgainRow.laid w) (fun _ _ _ hh h => h.of_heap hh) own started (by kernel_rfl) Tryz.func4
    (ChangeSpec.witness_shaped (enc := enc) (C := Tryz.checked) (os := os) (X := fun w _ => laidMetH Tryz.prog Rows.playAgainRow.laid w) false (((World.holding Tryz.prog os ⟨#[], #[], []⟩).setCell ⟨9, 0, none⟩ (.iface 191 (.agg #[.pointer (some ⟨18, 31, none⟩)]))).layVars Tryz.prog listed) #[.slice none 0 0, .slice none 0 0] 8 (World.layVars_os _ _ _) (start_shape os) (by as_aux_lemma => kernel_rfl) (by as_aux_lemma => kernel_rfl) (by as_aux_lemma => kernel_rfl) (start_met os _)) ?_
  intro W base args ds gs before hval0 hW hL hSh
  have hval : ∀ (j : Nat) t v, Tryz.f4.params[j]? = some t → args[j]? = some v → Value.okWide Tryz.prog W .any base t v := hval0
  have hW' := hW
  obtain ⟨p, q, hA0, hV, rfl, hfz, hnd⟩ := hW
  have hA : DataW.TrodAll enc Tryz.prog W 0 (fun _ => true) true Tryz.f4.params.toList args.toList ds p := hA0
  rw [Tryz.params4] at hA hval
  obtain ⟨v0, v1, d0, d1, p0, p1, rfl, rfl, rfl, h0, h1⟩ := trodAll_two hA
  obtain ⟨rfl, rfl⟩ := trodVars_none hV
  obtain ⟨lp, len0, lc, rfl⟩ := okWide_slice Tryz.underlying29 (hval 0 29 v0 rfl rfl)
  obtain ⟨l, rfl, hi0, hll0, hz0⟩ : ∃ l : List Int, len0 = l.length ∧ IntsP W (.slice lp len0 lc) l ∧ l.length ≤ maxLen ∧ ∀ z ∈ l, z < 9223372036854775808 := by
    obtain ⟨fuel, hf⟩ := h0
    exact open_intsP hf
  obtain ⟨op, len1, oc, rfl⟩ := okWide_slice Tryz.underlying29 (hval 1 29 v1 rfl rfl)
  obtain ⟨o, rfl, hi1, hll1, hz1⟩ : ∃ l : List Int, len1 = l.length ∧ IntsP W (.slice op len1 oc) l ∧ l.length ≤ maxLen ∧ ∀ z ∈ l, z < 9223372036854775808 := by
    obtain ⟨fuel, hf⟩ := h1
    exact open_intsP hf
  clear hA0 hval0
  simp only [List.append_nil] at hW'
  have hlt0 : ∀ z ∈ p0, z.block < W.heap.size := fun z hz => hW'.lt z (by simp [hz])
  have hlt1 : ∀ z ∈ p1, z.block < W.heap.size := fun z hz => hW'.lt z (by simp [hz])
  obtain ⟨a, he⟩ := hE W hL hSh
  refine (again_any (hC W) (hP W) a lp op lc oc l o W he hll0 hll1 hi0 hi1 hz0 hz1).mono fun e W' ⟨he', hb⟩ => ?_
  subst he'
  refine ⟨_, rfl, _, _, _, [], p0 ++ p1, [], by simpa using hW', ?_, ?_, ?_, hb.frame _, fun h => by cases h⟩
  · exact trodAll_mk1 (shut_bool Tryz.underlying4 true)
  · exact trodAll_mk2 (Below.trod laidOut (by kernel_rfl) (of_decide_eq_true (by kernel_rfl)) h0 hb hlt0) (Below.trod laidOut (by kernel_rfl) (of_decide_eq_true (by kernel_rfl)) h1 hb hlt1)
  · rfl

theorem said (hC : World → BalanceC) (hP : ∀ w, PlayC (hC w)) (hE : ∀ W, laidMetH Tryz.prog Rows.playAgainRow.laid W → W.ShapedOpen Tryz.prog → ∃ a, (hP W).E a W) : Rows.PlayAgainSaid :=
  OpenClaim.holds_of_wide 4 Tryz.f4 rfl rfl rfl rfl rfl rfl rfl ⟨rfl, rfl, rfl, rfl, rfl⟩ rfl rfl rfl rfl rfl (by kernel_rfl) Tryz.func4 closed
    (of_decide_eq_true (by kernel_rfl)) (by unfold Func.isWrapper; first | (rw [if_pos (by decide +kernel)]; kernel_rfl) | (rw [if_neg (by decide +kernel)]; exact ⟨rfl, rfl⟩))
    (fun os started H enc _ => lifted hC hP hE os started H enc)

/-- No parameter wants a stand-in; the program's looks are the card's. -/
theorem plain (b : Bool) (hb : b = Tryz.pinned.checked.prog.looks []) (f : FuncId) (fn : Func) (hf : Tryz.pinned.checked.prog.funcNamed "levelhand/levelhandlaw3.PlayAgain" = some f) (hfn : Tryz.pinned.checked.prog.funcs[f]? = some fn) :
    b = Tryz.pinned.checked.prog.looks [] ∧ ∀ (j : Nat) t, fn.params[j]? = some t → Tryz.pinned.checked.prog.wantsStandIn t = false := by
  obtain rfl : f = 4 := Option.some.inj ((show Tryz.prog.funcNamed "levelhand/levelhandlaw3.PlayAgain" = some 4 by kernel_rfl).symm.trans hf) |>.symm
  obtain rfl : fn = Tryz.f4 := (Option.some.inj (Tryz.func4.symm.trans hfn)).symm
  refine ⟨hb, fun j t ht => ?_⟩
  rw [Tryz.params4] at ht
  have hm : t = 29 := by
    have hmem := Array.mem_of_getElem? ht
    simp only [List.mem_toArray, List.mem_cons, List.not_mem_nil, or_false] at hmem
    rcases hmem with h | h <;> exact h
  subst hm
  exact (show Tryz.prog.wantsStandIn 29 = false by kernel_rfl)

theorem card (hC : World → BalanceC) (hP : ∀ w, PlayC (hC w)) (hE : ∀ W, laidMetH Tryz.prog Rows.playAgainRow.laid W → W.ShapedOpen Tryz.prog → ∃ a, (hP W).E a W) : Rows.PlayAgainCardSaid :=
  Claim7.holds_tied_plain_at .later [] _ _ _ _ (said hC hP hE) (fun _ h => by cases h) (by kernel_rfl) (fun _ h => by cases h) playAgain_row_tie rfl ⟨rfl, rfl⟩ (by kernel_rfl) rfl (plain _ (by kernel_rfl)) (by kernel_rfl)
end Go.Proofs.YtmdckddenelneaaGreatDoor.playAgain
