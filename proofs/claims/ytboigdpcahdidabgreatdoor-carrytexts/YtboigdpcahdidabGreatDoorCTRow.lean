/- CarryTexts: for all numbers and all lists of flows the law answers true, if the landed package keeps its contracts. No condition but the row's own: the package variables that it lists begin as the program's text lays them (tied): hR. -/
import Derived.Test.YtboigdpcahdidabGreatDoorCards
import Derived.Test.YtboigdpcahdidabGreatDoorTie
import Derived.Test.YtboigdpcahdidabGreatDoorOpM
import Derived.Test.YtboigdpcahdidabGreatDoorOpenS
import Derived.Test.YtboigdpcahdidabGreatDoorCTWi
import Derived.Test.YtboigdpcahdidabGreatDoorCTFa
import Derived.Test.YtboigdpcahdidabGreatDoorOpenF
import Derived.Test.YtboigdpcahdidabGreatDoorCaT
namespace Go.Proofs.YtboigdpcahdidabGreatDoor.carryTexts
open Go.ChangeShapes Go.WideShapes Go.ChangeAt Go.RowKit
open Go.ChangeMaps (open_string shut_string)

set_option maxRecDepth 100000 in
theorem lifted (hC : CarryC) (hR : ∀ W, laidMetH Tryz.prog Rows.carryTextsRow.laid W → W.ShapedOpen Tryz.prog → ∃ a, Errs a W ∧ hC.E a W) (os : Os) (started : os.Started) (H : Type) (enc : TypeId × Value → H) :
    ReturnsInHanded {} Tryz.checked os 4 .any (fun w args => (Rows.carryTextsSpec.pre enc Tryz.prog Tryz.f4 [] false w args ∧ laidMetH Tryz.prog Rows.carryTextsRow.laid w) ∧ sizedMet enc Tryz.prog Tryz.f4 (OpenSpec.ofChange Rows.carryTextsSpec) false w args)
      (Rows.carryTextsSpec.post enc Tryz.prog Tryz.f4 false true false false) := by
  refine returnsShaped (C := Tryz.checked) (X := fun w _ => laidMetH Tryz.prog Rows.carryTextsRow.laid w) (fun _ _ _ hh h => h.of_heap hh) own started (by kernel_rfl) Tryz.func4
    (ChangeSpec.witness_shaped (enc := enc) (C := Tryz.checked) (os := os) (X := fun w _ => laidMetH Tryz.prog Rows.carryTextsRow.laid w) false (((World.holding Tryz.prog os ⟨#[], #[], []⟩).setCell ⟨9, 0, none⟩ (.iface 183 (.agg #[.pointer (some ⟨18, 26, none⟩)]))).layVars Tryz.prog listed) #[.int .i64 0, .slice none 0 0] 8 (start_os os) (start_shape os) (by as_aux_lemma => kernel_rfl) (by as_aux_lemma => kernel_rfl) (by as_aux_lemma => kernel_rfl) (start_met os _)) ?_
  intro W base args ds gs before hval0 hW hL hSh
  have hval : ∀ (j : Nat) t v, Tryz.f4.params[j]? = some t → args[j]? = some v → Value.okWide Tryz.prog W .any base t v := hval0
  have hW' := hW
  obtain ⟨p, q, hA0, hV, rfl, hfz, hnd⟩ := hW
  have hA : DataW.TrodAll enc Tryz.prog W 0 (fun _ => true) true Tryz.f4.params.toList args.toList ds p := hA0
  rw [Tryz.params4] at hA hval
  obtain ⟨v0, v1, d0, d1, p0, p1, rfl, rfl, rfl, h0, h1⟩ := trodAll_two hA
  obtain ⟨rfl, rfl⟩ := trodVars_none hV
  obtain ⟨x, rfl, rfl, rfl, wx⟩ := open_int Tryz.underlying3 (hval 0 3 v0 rfl rfl) h0
  obtain ⟨a3, len3, cap3, rfl⟩ := okWide_slice Tryz.underlying31 (hval 1 31 v1 rfl rfl)
  obtain ⟨l, hfl, hll, hls⟩ : ∃ l : List Lh.Fl, Flows1 W (.slice a3 len3 cap3) l ∧ l.length ≤ maxLen ∧ FlGiven l := by
    obtain ⟨fuel, hf⟩ := h1
    exact open_flows hf
  obtain ⟨hx1, hx2⟩ := wf_i64F wx
  clear hA0 hval0
  simp only [List.append_nil] at hW'
  have hlt3 : ∀ z ∈ p1, z.block < W.heap.size := fun z hz => hW'.lt z (by simp [hz])
  obtain ⟨a, he, hee⟩ := hR W hL hSh
  refine (ctexts_any hC a x hx1 hx2 (.slice a3 len3 cap3) l W he hee hfl hll hls).mono fun e W' ⟨he', hb⟩ => ?_
  subst he'
  refine ⟨_, rfl, _, _, _, [], [] ++ p1, [], by simpa using hW', ?_, ?_, ?_, hb.frame _, fun h => by cases h⟩
  · exact trodAll_mk1 (shut_bool Tryz.underlying4 true)
  · exact trodAll_mk2 (shut_int Tryz.underlying3 wx) (Below.trod laidOut (by kernel_rfl) (of_decide_eq_true (by kernel_rfl)) h1 hb hlt3)
  · rfl

theorem said (hC : CarryC) (hR : ∀ W, laidMetH Tryz.prog Rows.carryTextsRow.laid W → W.ShapedOpen Tryz.prog → ∃ a, Errs a W ∧ hC.E a W) : Rows.CarryTextsSaid :=
  OpenClaim.holds_of_wide 4 Tryz.f4 rfl rfl rfl rfl rfl rfl rfl ⟨rfl, rfl, rfl, rfl, rfl⟩ rfl rfl rfl rfl rfl (by kernel_rfl) Tryz.func4 closed
    (of_decide_eq_true (by kernel_rfl)) (by unfold Func.isWrapper; first | (rw [if_pos (by decide +kernel)]; kernel_rfl) | (rw [if_neg (by decide +kernel)]; exact ⟨rfl, rfl⟩))
    (fun os started H enc _ => lifted hC hR os started H enc)

/-- No parameter wants a stand-in; the program's looks are the card's. -/
theorem plain (f : FuncId) (fn : Func) (hf : Tryz.pinned.checked.prog.funcNamed "levelhand/levelhandlaw2.CarryTexts" = some f) (hfn : Tryz.pinned.checked.prog.funcs[f]? = some fn) :
    true = Tryz.pinned.checked.prog.looks [] ∧ ∀ (j : Nat) t, fn.params[j]? = some t → Tryz.pinned.checked.prog.wantsStandIn t = false := by
  obtain rfl : f = 4 := Option.some.inj ((show Tryz.prog.funcNamed "levelhand/levelhandlaw2.CarryTexts" = some 4 by kernel_rfl).symm.trans hf) |>.symm
  obtain rfl : fn = Tryz.f4 := (Option.some.inj (Tryz.func4.symm.trans hfn)).symm
  refine ⟨by kernel_rfl, fun j t ht => ?_⟩
  rw [Tryz.params4] at ht
  have hm : t = 3 ∨ t = 31 := by
    have hmem := Array.mem_of_getElem? ht
    simp only [List.mem_toArray, List.mem_cons, List.not_mem_nil, or_false] at hmem
    rcases hmem with h | h <;> simp [h]
  rcases hm with rfl | rfl
  · exact (show Tryz.prog.wantsStandIn 3 = false by kernel_rfl)
  · exact (show Tryz.prog.wantsStandIn 31 = false by kernel_rfl)

theorem card (hC : CarryC) (hR : ∀ W, laidMetH Tryz.prog Rows.carryTextsRow.laid W → W.ShapedOpen Tryz.prog → ∃ a, Errs a W ∧ hC.E a W) : Rows.CarryTextsCardSaid :=
  Claim7.holds_tied_plain_at .later [] _ _ _ _ (said hC hR) (fun _ h => by cases h) (by kernel_rfl) (fun _ h => by cases h) carryTexts_row_tie rfl ⟨rfl, rfl⟩ (by kernel_rfl) rfl plain (by kernel_rfl)
end Go.Proofs.YtboigdpcahdidabGreatDoor.carryTexts
