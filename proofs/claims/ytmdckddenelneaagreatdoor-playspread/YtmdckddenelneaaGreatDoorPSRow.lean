/- PlaySpread: for all lists of texts, all numbers and all lists of keys the law answers true, if the landed packages keep their contracts. No condition but the row's own: the package variables that it lists begin as the program's text lays them (tied): what the landed packages ask of them is asked here (hE). -/
import Derived.Test.YtmdckddenelneaaGreatDoorCards
import Derived.Test.YtmdckddenelneaaGreatDoorTie
import Derived.Test.YtmdckddenelneaaGreatDoorM43
import Derived.Test.YtmdckddenelneaaGreatDoorPSWi
import Derived.Test.YtmdckddenelneaaGreatDoorPSFa
import Derived.Test.YtmdckddenelneaaGreatDoorM46
import Derived.Test.YtmdckddenelneaaGreatDoorPsX
namespace Go.Proofs.YtmdckddenelneaaGreatDoor.playSpread
open Go.ChangeShapes Go.WideShapes Go.ChangeAt Go.RowKit
open Go.ChangeMaps (open_string shut_string)

set_option maxRecDepth 100000 in
theorem lifted (hC : World → BalanceC) (hP : ∀ w, PlayC (hC w)) (hE : ∀ W, laidMetH Tryz.prog Rows.playSpreadRow.laid W → W.ShapedOpen Tryz.prog → ∃ a, (hP W).E a W) (os : Os) (started : os.Started) (H : Type) (enc : TypeId × Value → H) :
    ReturnsInHanded {} Tryz.checked os 3 .any (fun w args => (Rows.playSpreadSpec.pre enc Tryz.prog Tryz.f3 [] false w args ∧ laidMetH Tryz.prog Rows.playSpreadRow.laid w) ∧ sizedMet enc Tryz.prog Tryz.f3 (OpenSpec.ofChange Rows.playSpreadSpec) false w args)
      (Rows.playSpreadSpec.post enc Tryz.prog Tryz.f3 false true false false) := by
  refine returnsShaped (C := Tryz.checked) (X := fun w _ => laidMetH Tryz.prog Rows.playSpreadRow.laid w) (fun _ _ _ hh h => h.of_heap hh) own started (by kernel_rfl) Tryz.func3
    (ChangeSpec.witness_shaped (enc := enc) (C := Tryz.checked) (os := os) (X := fun w _ => laidMetH Tryz.prog Rows.playSpreadRow.laid w) false (((World.holding Tryz.prog os ⟨#[], #[], []⟩).setCell ⟨9, 0, none⟩ (.iface 191 (.agg #[.pointer (some ⟨18, 31, none⟩)]))).layVars Tryz.prog listed) #[.slice none 0 0, .int .i64 0, .slice none 0 0, .int .i64 0] 8 (World.layVars_os _ _ _) (start_shape os) (by as_aux_lemma => kernel_rfl) (by as_aux_lemma => kernel_rfl) (by as_aux_lemma => kernel_rfl) (start_met os _)) ?_
  intro W base args ds gs before hval0 hW hL hSh
  have hval : ∀ (j : Nat) t v, Tryz.f3.params[j]? = some t → args[j]? = some v → Value.okWide Tryz.prog W .any base t v := hval0
  have hW' := hW
  obtain ⟨p, q, hA0, hV, rfl, hfz, hnd⟩ := hW
  have hA : DataW.TrodAll enc Tryz.prog W 0 (fun _ => true) true Tryz.f3.params.toList args.toList ds p := hA0
  rw [Tryz.params3] at hA hval
  obtain ⟨v0, v1, v2, v3, d0, d1, d2, d3, p0, p1, p2, p3, rfl, rfl, rfl, h0, h1, h2, h3⟩ := trodAll_four hA
  obtain ⟨rfl, rfl⟩ := trodVars_none hV
  obtain ⟨a0, len, cap, hv0⟩ := okWide_slice Tryz.underlying22 (hval 0 22 v0 rfl rfl)
  obtain ⟨x, rfl, rfl, rfl, wx⟩ := open_int Tryz.underlying3 (hval 1 3 v1 rfl rfl) h1
  obtain ⟨y, rfl, rfl, rfl, wy⟩ := open_int Tryz.underlying3 (hval 3 3 v3 rfl rfl) h3
  obtain ⟨a2, len2, cap2, hv2⟩ := okWide_slice Tryz.underlying23 (hval 2 23 v2 rfl rfl)
  obtain ⟨xs, hst, hsz, hlen⟩ : ∃ xs : List ByteArray, Strs1 W v0 xs ∧ (∀ k (h : k < xs.length), (xs[k]).size ≤ maxLen) ∧ xs.length ≤ maxLen := by
    obtain ⟨fuel, hf⟩ := h0
    subst hv0
    exact open_texts rfl hf
  obtain ⟨ks, hks, hku, hkl⟩ : ∃ ks : List Nat, Keys1 W v2 ks ∧ (∀ k (h : k < ks.length), ks[k] < 18446744073709551616) ∧ ks.length ≤ maxLen := by
    obtain ⟨fuel, hf⟩ := h2
    subst hv2
    exact open_keys1 rfl hf
  have hku' : ∀ z ∈ ks, z < 18446744073709551616 := fun z hz => by
    obtain ⟨k, hk, rfl⟩ := List.getElem_of_mem hz
    exact hku k hk
  clear hA0 hval0
  simp only [List.append_nil] at hW'
  have hlt : ∀ z ∈ p0, z.block < W.heap.size := fun z hz => hW'.lt z (by simp [hz])
  have hlt2 : ∀ z ∈ p2, z.block < W.heap.size := fun z hz => hW'.lt z (by simp [hz])
  obtain ⟨a, he⟩ := hE W hL hSh
  refine (pspread_any (hC W) (hP W) a v0 v2 xs ks x y W he hst hks hku' hkl hsz hlen (bounds_i64 wx) (bounds_i64 wy)).mono fun e W' ⟨he', hb⟩ => ?_
  subst he'
  refine ⟨_, rfl, _, _, _, [], p0 ++ ([] ++ (p2 ++ [])), [], hW', ?_, ?_, ?_, hb.frame _, fun h => by cases h⟩
  · exact trodAll_mk1 (shut_bool Tryz.underlying4 true)
  · exact trodAll_mk4 (Below.trod laidOut (by kernel_rfl) (of_decide_eq_true (by kernel_rfl)) h0 hb hlt) (shut_int Tryz.underlying3 wx) (Below.trod laidOut (by kernel_rfl) (of_decide_eq_true (by kernel_rfl)) h2 hb hlt2) (shut_int Tryz.underlying3 wy)
  · rfl

theorem said (hC : World → BalanceC) (hP : ∀ w, PlayC (hC w)) (hE : ∀ W, laidMetH Tryz.prog Rows.playSpreadRow.laid W → W.ShapedOpen Tryz.prog → ∃ a, (hP W).E a W) : Rows.PlaySpreadSaid :=
  OpenClaim.holds_of_wide 3 Tryz.f3 rfl rfl rfl rfl rfl rfl rfl ⟨rfl, rfl, rfl, rfl, rfl⟩ rfl rfl rfl rfl rfl (by kernel_rfl) Tryz.func3 closed
    (of_decide_eq_true (by kernel_rfl)) (by unfold Func.isWrapper; first | (rw [if_pos (by decide +kernel)]; kernel_rfl) | (rw [if_neg (by decide +kernel)]; exact ⟨rfl, rfl⟩))
    (fun os started H enc _ => lifted hC hP hE os started H enc)

/-- No parameter wants a stand-in; the program's looks are the card's. -/
theorem plain (b : Bool) (hb : b = Tryz.pinned.checked.prog.looks []) (f : FuncId) (fn : Func) (hf : Tryz.pinned.checked.prog.funcNamed "levelhand/levelhandlaw3.PlaySpread" = some f) (hfn : Tryz.pinned.checked.prog.funcs[f]? = some fn) :
    b = Tryz.pinned.checked.prog.looks [] ∧ ∀ (j : Nat) t, fn.params[j]? = some t → Tryz.pinned.checked.prog.wantsStandIn t = false := by
  obtain rfl : f = 3 := Option.some.inj ((show Tryz.prog.funcNamed "levelhand/levelhandlaw3.PlaySpread" = some 3 by kernel_rfl).symm.trans hf) |>.symm
  obtain rfl : fn = Tryz.f3 := (Option.some.inj (Tryz.func3.symm.trans hfn)).symm
  refine ⟨hb, fun j t ht => ?_⟩
  rw [Tryz.params3] at ht
  have hm : t = 22 ∨ t = 3 ∨ t = 23 := by
    have hmem := Array.mem_of_getElem? ht
    simp only [List.mem_toArray, List.mem_cons, List.not_mem_nil, or_false] at hmem
    rcases hmem with h | h | h | h <;> simp [h]
  rcases hm with rfl | rfl | rfl
  · exact (show Tryz.prog.wantsStandIn 22 = false by kernel_rfl)
  · exact (show Tryz.prog.wantsStandIn 3 = false by kernel_rfl)
  · exact (show Tryz.prog.wantsStandIn 23 = false by kernel_rfl)

theorem card (hC : World → BalanceC) (hP : ∀ w, PlayC (hC w)) (hE : ∀ W, laidMetH Tryz.prog Rows.playSpreadRow.laid W → W.ShapedOpen Tryz.prog → ∃ a, (hP W).E a W) : Rows.PlaySpreadCardSaid :=
  Claim7.holds_tied_plain_at .later [] _ _ _ _ (said hC hP hE) (fun _ h => by cases h) (by kernel_rfl) (fun _ h => by cases h) playSpread_row_tie rfl ⟨rfl, rfl⟩ (by kernel_rfl) rfl (plain _ (by kernel_rfl)) (by kernel_rfl)
end Go.Proofs.YtmdckddenelneaaGreatDoor.playSpread
