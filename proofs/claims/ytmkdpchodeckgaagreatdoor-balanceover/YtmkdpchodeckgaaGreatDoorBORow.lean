/- BalanceOver: for all keys and all numbers the law answers true, if the landed package keeps its contracts. No condition but the row's own: the package variables that it lists begin as the program's text lays them (tied): what the landed package asks of them is asked here (hE). -/
import Derived.Test.YtmkdpchodeckgaaGreatDoorCards
import Derived.Test.YtmkdpchodeckgaaGreatDoorTie
import Derived.Test.YtmkdpchodeckgaaGreatDoorM46
import Derived.Test.YtmkdpchodeckgaaGreatDoorBOWi
import Derived.Test.YtmkdpchodeckgaaGreatDoorBOFa
import Derived.Test.YtmkdpchodeckgaaGreatDoorM49
import Derived.Test.YtmkdpchodeckgaaGreatDoorM50
namespace Go.Proofs.YtmkdpchodeckgaaGreatDoor.balanceOver
open Go.ChangeShapes Go.WideShapes Go.ChangeAt Go.RowKit
open Go.ChangeMaps (open_string shut_string)

set_option maxRecDepth 100000 in
theorem lifted (hC : BalanceC) (hE : ∀ W, laidMetH Tryz.prog Rows.balanceOverRow.laid W → W.ShapedOpen Tryz.prog → ∃ a, hC.E a W ∧ hC.X a W) (os : Os) (started : os.Started) (H : Type) (enc : TypeId × Value → H) :
    ReturnsInHanded {} Tryz.checked os 5 .any (fun w args => (Rows.balanceOverSpec.pre enc Tryz.prog Tryz.f5 [] false w args ∧ laidMetH Tryz.prog Rows.balanceOverRow.laid w) ∧ sizedMet enc Tryz.prog Tryz.f5 (OpenSpec.ofChange Rows.balanceOverSpec) false w args)
      (Rows.balanceOverSpec.post enc Tryz.prog Tryz.f5 false true false false) := by
  refine returnsShaped (C := Tryz.checked) (X := fun w _ => laidMetH Tryz.prog Rows.balanceOverRow.laid w) (fun _ _ _ hh h => h.of_heap hh) own started (by kernel_rfl) Tryz.func5
    (ChangeSpec.witness_shaped (enc := enc) (C := Tryz.checked) (os := os) (X := fun w _ => laidMetH Tryz.prog Rows.balanceOverRow.laid w) false (World.laidAll Tryz.prog os Rows.balanceOverRow.laid) #[.slice none 0 0, .int .i64 0] 8 (World.laidAll_os _ _ _) (start_shape os) (by as_aux_lemma => kernel_rfl) (by as_aux_lemma => kernel_rfl) (by as_aux_lemma => kernel_rfl) (start_met os _)) ?_
  intro W base args ds gs before hval0 hW hL hSh
  have hval : ∀ (j : Nat) t v, Tryz.f5.params[j]? = some t → args[j]? = some v → Value.okWide Tryz.prog W .any base t v := hval0
  have hW' := hW
  obtain ⟨p, q, hA0, hV, rfl, hfz, hnd⟩ := hW
  have hA : DataW.TrodAll enc Tryz.prog W 0 (fun _ => true) true Tryz.f5.params.toList args.toList ds p := hA0
  rw [Tryz.params5] at hA hval
  obtain ⟨v0, v1, d0, d1, p0, p1, rfl, rfl, rfl, h0, h1⟩ := trodAll_two hA
  obtain ⟨rfl, rfl⟩ := trodVars_none hV
  obtain ⟨x, rfl, rfl, rfl, wx⟩ := open_int Tryz.underlying3 (hval 1 3 v1 rfl rfl) h1
  obtain ⟨a0, len0, cap0, hv0⟩ := okWide_slice Tryz.underlying22 (hval 0 22 v0 rfl rfl)
  obtain ⟨ks, ⟨op, oc, hw0, hks0⟩, hkz0, hkl0⟩ : ∃ ks : List Nat, U64s W v0 ks ∧ (∀ k (h : k < ks.length), ks[k] < 18446744073709551616) ∧ ks.length ≤ maxLen := by
    obtain ⟨fuel, hf⟩ := h0
    subst hv0
    exact open_keys rfl hf
  subst hw0
  clear hA0 hval0
  simp only [List.append_nil] at hW'
  have hlt0 : ∀ z ∈ p0, z.block < W.heap.size := fun z hz => hW'.lt z (by simp [hz])
  obtain ⟨a, he⟩ := hE W hL hSh
  refine (over_any hC a op oc ks x W he.1 he.2 hkl0 hks0 (fun z hz => by obtain ⟨k, hk, rfl⟩ := List.getElem_of_mem hz; exact hkz0 k hk)).mono fun e W' ⟨he', hb⟩ => ?_
  subst he'
  refine ⟨_, rfl, _, _, _, [], p0 ++ [], [], by simpa using hW', ?_, ?_, ?_, hb.frame _, fun h => by cases h⟩
  · exact trodAll_mk1 (shut_bool Tryz.underlying4 true)
  · exact trodAll_mk2 (Below.trod laidOut (by kernel_rfl) (of_decide_eq_true (by kernel_rfl)) h0 hb hlt0) (shut_int Tryz.underlying3 wx)
  · rfl

theorem said (hC : BalanceC) (hE : ∀ W, laidMetH Tryz.prog Rows.balanceOverRow.laid W → W.ShapedOpen Tryz.prog → ∃ a, hC.E a W ∧ hC.X a W) : Rows.BalanceOverSaid :=
  OpenClaim.holds_of_wide 5 Tryz.f5 rfl rfl rfl rfl rfl rfl rfl ⟨rfl, rfl, rfl, rfl, rfl⟩ rfl rfl rfl rfl rfl (by kernel_rfl) Tryz.func5 closed
    (of_decide_eq_true (by kernel_rfl)) (by unfold Func.isWrapper; first | (rw [if_pos (by decide +kernel)]; kernel_rfl) | (rw [if_neg (by decide +kernel)]; exact ⟨rfl, rfl⟩))
    (fun os started H enc _ => lifted hC hE os started H enc)

/-- No parameter wants a stand-in; the program's looks are the card's. -/
theorem plain (b : Bool) (hb : b = Tryz.pinned.checked.prog.looks []) (f : FuncId) (fn : Func) (hf : Tryz.pinned.checked.prog.funcNamed "levelhand/levelhandlaw3.BalanceOver" = some f) (hfn : Tryz.pinned.checked.prog.funcs[f]? = some fn) :
    b = Tryz.pinned.checked.prog.looks [] ∧ ∀ (j : Nat) t, fn.params[j]? = some t → Tryz.pinned.checked.prog.wantsStandIn t = false := by
  obtain rfl : f = 5 := Option.some.inj ((show Tryz.prog.funcNamed "levelhand/levelhandlaw3.BalanceOver" = some 5 by kernel_rfl).symm.trans hf) |>.symm
  obtain rfl : fn = Tryz.f5 := (Option.some.inj (Tryz.func5.symm.trans hfn)).symm
  refine ⟨hb, fun j t ht => ?_⟩
  rw [Tryz.params5] at ht
  have hm : t = 22 ∨ t = 3 := by
    have hmem := Array.mem_of_getElem? ht
    simp only [List.mem_toArray, List.mem_cons, List.not_mem_nil, or_false] at hmem
    rcases hmem with h | h <;> simp [h]
  rcases hm with rfl | rfl
  · exact (show Tryz.prog.wantsStandIn 22 = false by kernel_rfl)
  · exact (show Tryz.prog.wantsStandIn 3 = false by kernel_rfl)

theorem card (hC : BalanceC) (hE : ∀ W, laidMetH Tryz.prog Rows.balanceOverRow.laid W → W.ShapedOpen Tryz.prog → ∃ a, hC.E a W ∧ hC.X a W) : Rows.BalanceOverCardSaid :=
  Claim7.holds_tied_plain_at .later [] _ _ _ _ (said hC hE) (fun _ h => by cases h) (by kernel_rfl) (fun _ h => by cases h) balanceOver_row_tie rfl ⟨rfl, rfl⟩ (by kernel_rfl) rfl (plain _ (by kernel_rfl)) (by kernel_rfl)
end Go.Proofs.YtmkdpchodeckgaaGreatDoor.balanceOver
