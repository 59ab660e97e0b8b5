/- CarryCuts: for all flows, cuts and turned bytes the law answers true, if the landed package keeps its contracts. No condition but the row's own: the package variables that it lists begin as the program's text lays them (tied): what the package asks of them is asked here (hR). -/
import Derived.Test.YtboigdpcahdidabDoorCards
import Derived.Test.YtboigdpcahdidabDoorTie
import Derived.Test.YtboigdpcahdidabDoorOpM
import Derived.Test.YtboigdpcahdidabDoorOpenS
import Derived.Test.YtboigdpcahdidabDoorCCWi
import Derived.Test.YtboigdpcahdidabDoorCCFa
import Derived.Test.YtboigdpcahdidabDoorOpenF
import Derived.Test.YtboigdpcahdidabDoorCaC
namespace Go.Proofs.YtboigdpcahdidabDoor.carryCuts
open Go.ChangeShapes Go.WideShapes Go.ChangeAt Go.RowKit
open Go.ChangeMaps (open_string shut_string)

theorem trodAll_5c {H : Type} {enc : TypeId × Value → H} {P : Program} {w : World} {base : Nat} {spare : Nat → Bool} {held : Bool} {t0 t1 t2 t3 t4 : TypeId} {args : Array Value} {ds : List (DataW H)} {ps : List MemPlace} (h : DataW.TrodAll enc P w base spare held [t0, t1, t2, t3, t4] args.toList ds ps) :
    ∃ v0 v1 v2 v3 v4 d0 d1 d2 d3 d4 p0 p1 p2 p3 p4, args = #[v0, v1, v2, v3, v4] ∧ ds = [d0, d1, d2, d3, d4] ∧ ps = p0 ++ p1 ++ p2 ++ p3 ++ p4 ∧ DataW.Trod enc P w base spare held t0 v0 d0 p0 ∧ DataW.Trod enc P w base spare held t1 v1 d1 p1 ∧ DataW.Trod enc P w base spare held t2 v2 d2 p2 ∧ DataW.Trod enc P w base spare held t3 v3 d3 p3 ∧ DataW.Trod enc P w base spare held t4 v4 d4 p4 := by
  obtain ⟨v0, vs0, d0, ds0, p0, q0, hargs, rfl, rfl, h0, r0⟩ := trodAll_cons h
  obtain ⟨v1, vs1, d1, ds1, p1, q1, rfl, rfl, rfl, h1, r1⟩ := trodAll_cons r0
  obtain ⟨v2, vs2, d2, ds2, p2, q2, rfl, rfl, rfl, h2, r2⟩ := trodAll_cons r1
  obtain ⟨v3, vs3, d3, ds3, p3, q3, rfl, rfl, rfl, h3, r3⟩ := trodAll_cons r2
  obtain ⟨v4, vs4, d4, ds4, p4, q4, rfl, rfl, rfl, h4, r4⟩ := trodAll_cons r3
  obtain ⟨rfl, rfl, rfl⟩ := trodAll_nil r4
  exact ⟨v0, v1, v2, v3, v4, d0, d1, d2, d3, d4, p0, p1, p2, p3, p4, by cases args; simp_all, rfl, by simp, h0, h1, h2, h3, h4⟩
theorem wf_u8C {n : Int} (h : (Lit.int .u8 n).wf = true) : 0 ≤ n ∧ n ≤ 255 := by
  have := bounds_u8 h
  omega
set_option maxRecDepth 100000 in
theorem lifted (hC : CarryC) (hR : ∀ W, laidMetH Tryd.prog Rows.carryCutsRow.laid W → W.ShapedOpen Tryd.prog → ∃ a, hC.E a W) (os : Os) (started : os.Started) (H : Type) (enc : TypeId × Value → H) :
    ReturnsInHanded {} Tryd.checked os 11 .any (fun w args => (Rows.carryCutsSpec.pre enc Tryd.prog Tryd.f11 [] false w args ∧ laidMetH Tryd.prog Rows.carryCutsRow.laid w) ∧ sizedMet enc Tryd.prog Tryd.f11 (OpenSpec.ofChange Rows.carryCutsSpec) false w args)
      (Rows.carryCutsSpec.post enc Tryd.prog Tryd.f11 false true false false) := by
  refine returnsShaped (C := Tryd.checked) (X := fun w _ => laidMetH Tryd.prog Rows.carryCutsRow.laid w) (fun _ _ _ hh h => h.of_heap hh) own started (by kernel_rfl) Tryd.func11
    (ChangeSpec.witness_shaped (enc := enc) (C := Tryd.checked) (os := os) (X := fun w _ => laidMetH Tryd.prog Rows.carryCutsRow.laid w) false (World.laidAll Tryd.prog os Rows.carryCutsRow.laid) #[.int .i64 0, .slice none 0 0, .int .i64 0, .int .i64 0, .int .u8 0] 8 (World.laidAll_os _ _ _) (start_shape os) (by as_aux_lemma => kernel_rfl) (by as_aux_lemma => kernel_rfl) (by as_aux_lemma => kernel_rfl) (start_met os _)) ?_
  intro W base args ds gs before hval0 hW hL hSh
  have hval : ∀ (j : Nat) t v, Tryd.f11.params[j]? = some t → args[j]? = some v → Value.okWide Tryd.prog W .any base t v := hval0
  have hW' := hW
  obtain ⟨p, q, hA0, hV, rfl, hfz, hnd⟩ := hW
  have hA : DataW.TrodAll enc Tryd.prog W 0 (fun _ => true) true Tryd.f11.params.toList args.toList ds p := hA0
  rw [Tryd.params11] at hA hval
  obtain ⟨v0, v1, v2, v3, v4, d0, d1, d2, d3, d4, p0, p1, p2, p3, p4, rfl, rfl, rfl, h0, h1, h2, h3, h4⟩ := trodAll_5c hA
  obtain ⟨rfl, rfl⟩ := trodVars_none hV
  obtain ⟨x, rfl, rfl, rfl, wx⟩ := open_int Tryd.underlying3 (hval 0 3 v0 rfl rfl) h0
  obtain ⟨a3, len3, cap3, rfl⟩ := okWide_slice Tryd.underlying85 (hval 1 85 v1 rfl rfl)
  obtain ⟨l, hfl, hll, hls⟩ : ∃ l : List Lh.Fl, Flows1 W (.slice a3 len3 cap3) l ∧ l.length ≤ maxLen ∧ FlGiven l := by
    obtain ⟨fuel, hf⟩ := h1
    exact open_flows hf
  obtain ⟨hx1, hx2⟩ := wf_i64F wx
  obtain ⟨cu, rfl, rfl, rfl, wc⟩ := open_int Tryd.underlying3 (hval 2 3 v2 rfl rfl) h2
  obtain ⟨an, rfl, rfl, rfl, wa⟩ := open_int Tryd.underlying3 (hval 3 3 v3 rfl rfl) h3
  obtain ⟨yy, rfl, rfl, rfl, wy⟩ := open_int Tryd.underlying5 (hval 4 5 v4 rfl rfl) h4
  obtain ⟨hy0, hy1⟩ := wf_u8C wy
  obtain ⟨by_, rfl⟩ : ∃ b : UInt8, yy = (b.toNat : Int) := ⟨UInt8.ofNat yy.toNat, by
    rw [UInt8.toNat_ofNat_of_lt' (by show yy.toNat < 256; omega)]
    omega⟩
  clear hA0 hval0
  simp only [List.append_nil] at hW'
  have hlt3 : ∀ z ∈ p1, z.block < W.heap.size := fun z hz => hW'.lt z (by simp [hz])
  obtain ⟨a, he⟩ := hR W hL hSh
  refine (ccuts_any hC a x hx1 hx2 (.slice a3 len3 cap3) l cu an by_ W he hfl hll hls).mono fun e W' ⟨he', hb⟩ => ?_
  subst he'
  refine ⟨_, rfl, _, _, _, [], [] ++ (p1 ++ ([] ++ ([] ++ []))), [], by simpa using hW', ?_, ?_, ?_, hb.frame _, fun h => by cases h⟩
  · exact trodAll_mk1 (shut_bool Tryd.underlying4 true)
  · exact ⟨[], p1 ++ ([] ++ ([] ++ [])), shut_int Tryd.underlying3 wx, trodAll_mk4 (Below.trod laidOut (by kernel_rfl) (of_decide_eq_true (by kernel_rfl)) h1 hb hlt3) (shut_int Tryd.underlying3 wc) (shut_int Tryd.underlying3 wa) (shut_int Tryd.underlying5 wy), rfl⟩
  · rfl

theorem said (hC : CarryC) (hR : ∀ W, laidMetH Tryd.prog Rows.carryCutsRow.laid W → W.ShapedOpen Tryd.prog → ∃ a, hC.E a W) : Rows.CarryCutsSaid :=
  OpenClaim.holds_of_wide 11 Tryd.f11 rfl rfl rfl rfl rfl rfl rfl ⟨rfl, rfl, rfl, rfl, rfl⟩ rfl rfl rfl rfl rfl (by kernel_rfl) Tryd.func11 closed
    (of_decide_eq_true (by kernel_rfl)) (by unfold Func.isWrapper; first | (rw [if_pos (by decide +kernel)]; kernel_rfl) | (rw [if_neg (by decide +kernel)]; exact ⟨rfl, rfl⟩))
    (fun os started H enc _ => lifted hC hR os started H enc)

/-- No parameter wants a stand-in; the program's looks are the card's. -/
theorem plain (f : FuncId) (fn : Func) (hf : Tryd.pinned.checked.prog.funcNamed "levelhand/levelhandlaw2.CarryCuts" = some f) (hfn : Tryd.pinned.checked.prog.funcs[f]? = some fn) :
    true = Tryd.pinned.checked.prog.looks [] ∧ ∀ (j : Nat) t, fn.params[j]? = some t → Tryd.pinned.checked.prog.wantsStandIn t = false := by
  obtain rfl : f = 11 := Option.some.inj ((show Tryd.prog.funcNamed "levelhand/levelhandlaw2.CarryCuts" = some 11 by kernel_rfl).symm.trans hf) |>.symm
  obtain rfl : fn = Tryd.f11 := (Option.some.inj (Tryd.func11.symm.trans hfn)).symm
  refine ⟨by kernel_rfl, fun j t ht => ?_⟩
  rw [Tryd.params11] at ht
  have hm : t = 3 ∨ t = 85 ∨ t = 5 := by
    have hmem := Array.mem_of_getElem? ht
    simp only [List.mem_toArray, List.mem_cons, List.not_mem_nil, or_false] at hmem
    rcases hmem with h | h | h | h | h <;> simp [h]
  rcases hm with rfl | rfl | rfl
  · exact (show Tryd.prog.wantsStandIn 3 = false by kernel_rfl)
  · exact (show Tryd.prog.wantsStandIn 85 = false by kernel_rfl)
  · exact (show Tryd.prog.wantsStandIn 5 = false by kernel_rfl)

theorem card (hC : CarryC) (hR : ∀ W, laidMetH Tryd.prog Rows.carryCutsRow.laid W → W.ShapedOpen Tryd.prog → ∃ a, hC.E a W) : Rows.CarryCutsCardSaid :=
  Claim7.holds_tied_plain_at .later [] _ _ _ _ (said hC hR) (fun _ h => by cases h) (by kernel_rfl) (fun _ h => by cases h) carryCuts_row_tie rfl ⟨rfl, rfl⟩ (by kernel_rfl) rfl plain (by kernel_rfl)
end Go.Proofs.YtboigdpcahdidabDoor.carryCuts
