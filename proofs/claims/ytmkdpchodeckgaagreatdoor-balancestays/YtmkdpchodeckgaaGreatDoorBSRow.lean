/- BalanceStays: for all keys, all acts and all numbers the law answers true, if the landed package keeps its contracts. No condition but the row's own: the package variables that it lists begin as the program's text lays them (tied): what the landed package asks of them is asked here (hE). -/
import Derived.Test.YtmkdpchodeckgaaGreatDoorCards
import Derived.Test.YtmkdpchodeckgaaGreatDoorTie
import Derived.Test.YtmkdpchodeckgaaGreatDoorM46
import Derived.Test.YtmkdpchodeckgaaGreatDoorBSWi
import Derived.Test.YtmkdpchodeckgaaGreatDoorBSFa
import Derived.Test.YtmkdpchodeckgaaGreatDoorM49
import Derived.Test.YtmkdpchodeckgaaGreatDoorM50
namespace Go.Proofs.YtmkdpchodeckgaaGreatDoor.balanceStays
open Go.ChangeShapes Go.WideShapes Go.ChangeAt Go.RowKit
open Go.ChangeMaps (open_string shut_string)

set_option maxRecDepth 100000 in
theorem lifted (hC : BalanceC) (hE : ∀ W, laidMetH Tryz.prog Rows.balanceStaysRow.laid W → W.ShapedOpen Tryz.prog → ∃ a, hC.E a W ∧ hC.X a W) (os : Os) (started : os.Started) (H : Type) (enc : TypeId × Value → H) :
    ReturnsInHanded {} Tryz.checked os 4 .any (fun w args => (Rows.balanceStaysSpec.pre enc Tryz.prog Tryz.f4 [] false w args ∧ laidMetH Tryz.prog Rows.balanceStaysRow.laid w) ∧ sizedMet enc Tryz.prog Tryz.f4 (OpenSpec.ofChange Rows.balanceStaysSpec) false w args)
      (Rows.balanceStaysSpec.post enc Tryz.prog Tryz.f4 false true false false) := by
  refine returnsShaped (C := Tryz.checked) (X := fun w _ => laidMetH Tryz.prog Rows.balanceStaysRow.laid w) (fun _ _ _ hh h => h.of_heap hh) own started (by kernel_rfl) Tryz.func4
    (ChangeSpec.witness_shaped (enc := enc) (C := Tryz.checked) (os := os) (X := fun w _ => laidMetH Tryz.prog Rows.balanceStaysRow.laid w) false (World.laidAll Tryz.prog os Rows.balanceStaysRow.laid) #[.int .u64 0, .slice none 0 0, .int .i64 0] 8 (World.laidAll_os _ _ _) (start_shape os) (by as_aux_lemma => kernel_rfl) (by as_aux_lemma => kernel_rfl) (by as_aux_lemma => kernel_rfl) (start_met os _)) ?_
  intro W base args ds gs before hval0 hW hL hSh
  have hval : ∀ (j : Nat) t v, Tryz.f4.params[j]? = some t → args[j]? = some v → Value.okWide Tryz.prog W .any base t v := hval0
  have hW' := hW
  obtain ⟨p, q, hA0, hV, rfl, hfz, hnd⟩ := hW
  have hA : DataW.TrodAll enc Tryz.prog W 0 (fun _ => true) true Tryz.f4.params.toList args.toList ds p := hA0
  rw [Tryz.params4] at hA hval
  obtain ⟨v0, v1, v2, d0, d1, d2, p0, p1, p2, rfl, rfl, rfl, h0, h1, h2⟩ := trodAll_three hA
  obtain ⟨rfl, rfl⟩ := trodVars_none hV
  obtain ⟨z, rfl, rfl, rfl, wz⟩ := open_int Tryz.underlying32 (hval 0 32 v0 rfl rfl) h0
  obtain ⟨hz0, hz1⟩ := wf_u64 wz
  obtain ⟨key, rfl⟩ := Int.eq_ofNat_of_zero_le hz0
  obtain ⟨x, rfl, rfl, rfl, wx⟩ := open_int Tryz.underlying3 (hval 2 3 v2 rfl rfl) h2
  obtain ⟨op, len1, oc, rfl⟩ := okWide_slice Tryz.underlying36 (hval 1 36 v1 rfl rfl)
  obtain ⟨l, rfl, hal, hll, hls⟩ : ∃ l : List Ba, len1 = l.length ∧ BActsAt W op l ∧ l.length ≤ maxLen ∧ ∀ x ∈ l, BaOk x := by
    obtain ⟨fuel, hf⟩ := h1
    exact open_bacts hf
  have hx63 : x ≤ 9223372036854775807 := by have := bounds_i64 wx; omega
  clear hA0 hval0
  simp only [List.append_nil] at hW'
  have hlt1 : ∀ z ∈ p1, z.block < W.heap.size := fun z hz => hW'.lt z (by simp [hz])
  obtain ⟨a, he⟩ := hE W hL hSh
  refine (stays_any hC a key op oc l x W he.1 he.2 hll hx63 (by omega) hal hls).mono fun e W' ⟨he', hb⟩ => ?_
  subst he'
  refine ⟨_, rfl, _, _, _, [], [] ++ (p1 ++ []), [], by simpa using hW', ?_, ?_, ?_, hb.frame _, fun h => by cases h⟩
  · exact trodAll_mk1 (shut_bool Tryz.underlying4 true)
  · exact trodAll_mk3 (shut_int Tryz.underlying32 wz) (Below.trod laidOut (by kernel_rfl) (of_decide_eq_true (by kernel_rfl)) h1 hb hlt1) (shut_int Tryz.underlying3 wx)
  · rfl

theorem said (hC : BalanceC) (hE : ∀ W, laidMetH Tryz.prog Rows.balanceStaysRow.laid W → W.ShapedOpen Tryz.prog → ∃ a, hC.E a W ∧ hC.X a W) : Rows.BalanceStaysSaid :=
  OpenClaim.holds_of_wide 4 Tryz.f4 rfl rfl rfl rfl rfl rfl rfl ⟨rfl, rfl, rfl, rfl, rfl⟩ rfl rfl rfl rfl rfl (by kernel_rfl) Tryz.func4 closed
    (of_decide_eq_true (by kernel_rfl)) (by unfold Func.isWrapper; first | (rw [if_pos (by decide +kernel)]; kernel_rfl) | (rw [if_neg (by decide +kernel)]; exact ⟨rfl, rfl⟩))
    (fun os started H enc _ => lifted hC hE os started H enc)

/-- No parameter wants a stand-in; the program's looks are the card's. -/
theorem plain (b : Bool) (hb : b = Tryz.pinned.checked.prog.looks []) (f : FuncId) (fn : Func) (hf : Tryz.pinned.checked.prog.funcNamed "levelhand/levelhandlaw3.BalanceStays" = some f) (hfn : Tryz.pinned.checked.prog.funcs[f]? = some fn) :
    b = Tryz.pinned.checked.prog.looks [] ∧ ∀ (j : Nat) t, fn.params[j]? = some t → Tryz.pinned.checked.prog.wantsStandIn t = false := by
  obtain rfl : f = 4 := Option.some.inj ((show Tryz.prog.funcNamed "levelhand/levelhandlaw3.BalanceStays" = some 4 by kernel_rfl).symm.trans hf) |>.symm
  obtain rfl : fn = Tryz.f4 := (Option.some.inj (Tryz.func4.symm.trans hfn)).symm
  refine ⟨hb, fun j t ht => ?_⟩
  rw [Tryz.params4] at ht
  have hm : t = 32 ∨ t = 36 ∨ t = 3 := by
    have hmem := Array.mem_of_getElem? ht
    simp only [List.mem_toArray, List.mem_cons, List.not_mem_nil, or_false] at hmem
    rcases hmem with h | h | h <;> simp [h]
  rcases hm with rfl | rfl | rfl
  · exact (show Tryz.prog.wantsStandIn 32 = false by kernel_rfl)
  · exact (show Tryz.prog.wantsStandIn 36 = false by kernel_rfl)
  · exact (show Tryz.prog.wantsStandIn 3 = false by kernel_rfl)

theorem card (hC : BalanceC) (hE : ∀ W, laidMetH Tryz.prog Rows.balanceStaysRow.laid W → W.ShapedOpen Tryz.prog → ∃ a, hC.E a W ∧ hC.X a W) : Rows.BalanceStaysCardSaid :=
  Claim7.holds_tied_plain_at .later [] _ _ _ _ (said hC hE) (fun _ h => by cases h) (by kernel_rfl) (fun _ h => by cases h) balanceStays_row_tie rfl ⟨rfl, rfl⟩ (by kernel_rfl) rfl (plain _ (by kernel_rfl)) (by kernel_rfl)
end Go.Proofs.YtmkdpchodeckgaaGreatDoor.balanceStays
