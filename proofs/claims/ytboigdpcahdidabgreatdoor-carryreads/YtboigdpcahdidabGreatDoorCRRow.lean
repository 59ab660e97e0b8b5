/- CarryReads: for all texts the law answers true, if the landed package keeps its contracts. No condition but the row's own: the package variables that it lists begin as the program's text lays them (tied): hR. -/
import Derived.Test.YtboigdpcahdidabGreatDoorCards
import Derived.Test.YtboigdpcahdidabGreatDoorTie
import Derived.Test.YtboigdpcahdidabGreatDoorOpM
import Derived.Test.YtboigdpcahdidabGreatDoorOpenS
import Derived.Test.YtboigdpcahdidabGreatDoorCRWi
import Derived.Test.YtboigdpcahdidabGreatDoorCRFa
import Derived.Test.YtboigdpcahdidabGreatDoorOpenF
import Derived.Test.YtboigdpcahdidabGreatDoorCaR
namespace Go.Proofs.YtboigdpcahdidabGreatDoor.carryReads
open Go.ChangeShapes Go.WideShapes Go.ChangeAt Go.RowKit
open Go.ChangeMaps (open_string shut_string)

set_option maxRecDepth 100000 in
theorem lifted (hC : CarryC) (hR : ∀ W, laidMetH Tryz.prog Rows.carryReadsRow.laid W → W.ShapedOpen Tryz.prog → ∃ a, Errs a W ∧ hC.E a W) (os : Os) (started : os.Started) (H : Type) (enc : TypeId × Value → H) :
    ReturnsInHanded {} Tryz.checked os 5 .any (fun w args => (Rows.carryReadsSpec.pre enc Tryz.prog Tryz.f5 [] false w args ∧ laidMetH Tryz.prog Rows.carryReadsRow.laid w) ∧ sizedMet enc Tryz.prog Tryz.f5 (OpenSpec.ofChange Rows.carryReadsSpec) false w args)
      (Rows.carryReadsSpec.post enc Tryz.prog Tryz.f5 false true false false) := by
  refine returnsShaped (C := Tryz.checked) (X := fun w _ => laidMetH Tryz.prog Rows.carryReadsRow.laid w) (fun _ _ _ hh h => h.of_heap hh) own started (by kernel_rfl) Tryz.func5
    (ChangeSpec.witness_shaped (enc := enc) (C := Tryz.checked) (os := os) (X := fun w _ => laidMetH Tryz.prog Rows.carryReadsRow.laid w) false (((World.holding Tryz.prog os ⟨#[], #[], []⟩).setCell ⟨9, 0, none⟩ (.iface 183 (.agg #[.pointer (some ⟨18, 26, none⟩)]))).layVars Tryz.prog listed) #[.string ByteArray.empty, .bool false] 8 (start_os os) (start_shape os) (by as_aux_lemma => kernel_rfl) (by as_aux_lemma => kernel_rfl) (by as_aux_lemma => kernel_rfl) (start_met os _)) ?_
  intro W base args ds gs before hval0 hW hL hSh
  have hval : ∀ (j : Nat) t v, Tryz.f5.params[j]? = some t → args[j]? = some v → Value.okWide Tryz.prog W .any base t v := hval0
  have hW' := hW
  obtain ⟨p, q, hA0, hV, rfl, hfz, hnd⟩ := hW
  have hA : DataW.TrodAll enc Tryz.prog W 0 (fun _ => true) true Tryz.f5.params.toList args.toList ds p := hA0
  rw [Tryz.params5] at hA hval
  obtain ⟨v0, v1, d0, d1, p0, p1, rfl, rfl, rfl, h0, h1⟩ := trodAll_two hA
  obtain ⟨rfl, rfl⟩ := trodVars_none hV
  obtain ⟨s, rfl, rfl, rfl, hsl⟩ := open_string Tryz.underlying9 (hval 0 9 v0 rfl rfl) h0
  obtain ⟨b, rfl, rfl, rfl⟩ := open_bool Tryz.underlying4 (hval 1 4 v1 rfl rfl) h1
  clear hA0 hval0
  simp only [List.append_nil] at hW'
  obtain ⟨a, he, hee⟩ := hR W hL hSh
  refine (creads_any hC a s.data.toList b hsl W he hee).mono fun e W' ⟨he', hb⟩ => ?_
  subst he'
  refine ⟨_, rfl, _, _, _, [], [], [], by simpa using hW', ?_, ?_, ?_, hb.frame _, fun h => by cases h⟩
  · exact trodAll_mk1 (shut_bool Tryz.underlying4 true)
  · exact trodAll_mk2 (shut_string Tryz.underlying9 hsl) (shut_bool Tryz.underlying4 b)
  · rfl

theorem said (hC : CarryC) (hR : ∀ W, laidMetH Tryz.prog Rows.carryReadsRow.laid W → W.ShapedOpen Tryz.prog → ∃ a, Errs a W ∧ hC.E a W) : Rows.CarryReadsSaid :=
  OpenClaim.holds_of_wide 5 Tryz.f5 rfl rfl rfl rfl rfl rfl rfl ⟨rfl, rfl, rfl, rfl, rfl⟩ rfl rfl rfl rfl rfl (by kernel_rfl) Tryz.func5 closed
    (of_decide_eq_true (by kernel_rfl)) (by unfold Func.isWrapper; first | (rw [if_pos (by decide +kernel)]; kernel_rfl) | (rw [if_neg (by decide +kernel)]; exact ⟨rfl, rfl⟩))
    (fun os started H enc _ => lifted hC hR os started H enc)

/-- No parameter wants a stand-in; the program's looks are the card's. -/
theorem plain (f : FuncId) (fn : Func) (hf : Tryz.pinned.checked.prog.funcNamed "levelhand/levelhandlaw2.CarryReads" = some f) (hfn : Tryz.pinned.checked.prog.funcs[f]? = some fn) :
    true = Tryz.pinned.checked.prog.looks [] ∧ ∀ (j : Nat) t, fn.params[j]? = some t → Tryz.pinned.checked.prog.wantsStandIn t = false := by
  obtain rfl : f = 5 := Option.some.inj ((show Tryz.prog.funcNamed "levelhand/levelhandlaw2.CarryReads" = some 5 by kernel_rfl).symm.trans hf) |>.symm
  obtain rfl : fn = Tryz.f5 := (Option.some.inj (Tryz.func5.symm.trans hfn)).symm
  refine ⟨by kernel_rfl, fun j t ht => ?_⟩
  rw [Tryz.params5] at ht
  have hm : t = 9 ∨ t = 4 := by
    have hmem := Array.mem_of_getElem? ht
    simp only [List.mem_toArray, List.mem_cons, List.not_mem_nil, or_false] at hmem
    rcases hmem with h | h <;> simp [h]
  rcases hm with rfl | rfl
  · exact (show Tryz.prog.wantsStandIn 9 = false by kernel_rfl)
  · exact (show Tryz.prog.wantsStandIn 4 = false by kernel_rfl)

theorem card (hC : CarryC) (hR : ∀ W, laidMetH Tryz.prog Rows.carryReadsRow.laid W → W.ShapedOpen Tryz.prog → ∃ a, Errs a W ∧ hC.E a W) : Rows.CarryReadsCardSaid :=
  Claim7.holds_tied_plain_at .later [] _ _ _ _ (said hC hR) (fun _ h => by cases h) (by kernel_rfl) (fun _ h => by cases h) carryReads_row_tie rfl ⟨rfl, rfl⟩ (by kernel_rfl) rfl plain (by kernel_rfl)
end Go.Proofs.YtboigdpcahdidabGreatDoor.carryReads
