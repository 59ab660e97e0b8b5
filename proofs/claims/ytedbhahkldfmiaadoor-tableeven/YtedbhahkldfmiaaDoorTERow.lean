/- TableEven holds of the landed code: for all lists of texts and all numbers the law answers true. No condition but the row's own: five package variables begin as the program's text lays them (tied). -/
import Derived.Test.YtedbhahkldfmiaaDoorCards
import Derived.Test.YtedbhahkldfmiaaDoorTie
import Derived.Test.YtedbhahkldfmiaaDoorLaid
import Derived.Test.YtedbhahkldfmiaaDoorOpenT
import Derived.Test.YtedbhahkldfmiaaDoorTElt
import Derived.Test.YtedbhahkldfmiaaDoorTEeq
import Derived.Test.YtedbhahkldfmiaaDoorTE2
import Derived.SliceStrings
namespace Go.Proofs.YtedbhahkldfmiaaDoor.tableEven
open Go.ChangeShapes Go.WideShapes Go.ChangeAt Go.RowKit
open Go.ChangeMaps (open_string shut_string)

def api5 : List (String × List UInt8) := [
  ("levelhand/api.ErrBound", [108, 101, 118, 101, 108, 104, 97, 110, 100, 58, 32, 98, 111, 117, 110, 100]),
  ("levelhand/api.ErrShape", [108, 101, 118, 101, 108, 104, 97, 110, 100, 58, 32, 115, 104, 97, 112, 101]),
  ("levelhand/api.ErrName", [108, 101, 118, 101, 108, 104, 97, 110, 100, 58, 32, 110, 97, 109, 101]),
  ("levelhand/api.ErrNone", [108, 101, 118, 101, 108, 104, 97, 110, 100, 58, 32, 110, 111, 110, 101]),
  ("levelhand/api.ErrExist", [108, 101, 118, 101, 108, 104, 97, 110, 100, 58, 32, 101, 120, 105, 115, 116])]
theorem gErr5 (i : Nat) (h : i < 5) : ∃ x g, api5[i]? = some x ∧ Tryd.prog.globalNamed x.1 = some g ∧ (Tryd.prog.globals[g]?).map (·.type) = some 25 := by
  match i, h with
  | 0, _ => exact ⟨_, 1, rfl, by kernel_rfl, by kernel_rfl⟩
  | 1, _ => exact ⟨_, 2, rfl, by kernel_rfl, by kernel_rfl⟩
  | 2, _ => exact ⟨_, 3, rfl, by kernel_rfl, by kernel_rfl⟩
  | 3, _ => exact ⟨_, 4, rfl, by kernel_rfl, by kernel_rfl⟩
  | 4, _ => exact ⟨_, 5, rfl, by kernel_rfl, by kernel_rfl⟩
theorem errs5_of {W : World} (h : laidMet Tryd.prog (sentList api5) W) : ∃ a, Errs5 a W := by
  obtain ⟨ps, hl, _, hrows⟩ := h
  obtain ⟨ads, el, _, hv⟩ := sents_of Tryd.underlying25 rowE Tryd.underlying84 Tryd.underlying86 rfl rfl Tryd.underlying9 cellsE cellsS ps hrows api5 ps
    (fun x hx => by
      obtain ⟨i, hi, rfl⟩ := List.getElem_of_mem hx
      obtain ⟨y, g, hy, h1, h2⟩ := gErr5 i hi
      rw [List.getElem?_eq_getElem hi] at hy
      obtain rfl := Option.some.inj hy
      exact ⟨g, h1, h2⟩) (fun _ hm => hm) hl
  have el5 : ads.length = 5 := el
  have cellAt : ∀ (i : Nat) (h : i < 5) (n : String) (g : Nat), (api5[i]'h).1 = n → Tryd.prog.globalNamed n = some g → W.cell? ⟨g, 0, none⟩ = some (.iface 84 (.pointer (some (ads.getD i default)))) := by
    intro i h n g hn hg
    have := hv i h (by omega)
    rw [hn] at this
    have hd : ads.getD i default = ads[i]'(by omega) := by rw [List.getD_eq_getElem?_getD, List.getElem?_eq_getElem (by omega)]; rfl
    rw [hd]
    simpa using World.var?_cell hg this 0
  exact ⟨fun i => ads.getD (i - 1) default, cellAt 0 (by decide) _ _ rfl (by kernel_rfl), cellAt 1 (by decide) _ _ rfl (by kernel_rfl), cellAt 2 (by decide) _ _ rfl (by kernel_rfl), cellAt 3 (by decide) _ _ rfl (by kernel_rfl), cellAt 4 (by decide) _ _ rfl (by kernel_rfl)⟩
theorem errs5_laid {W : World} (h : laidMetH Tryd.prog Rows.tableEvenRow.laid W) : ∃ a, Errs5 a W := by
  have h' : laidMet Tryd.prog (sentList api5) W := h
  exact errs5_of h'
theorem law_any (a : Nat → Addr) (lv : Value) (xs : List ByteArray) (size bq : Int) (w : World) (he : Errs5 a w) (hl : Strs1 w lv xs) (hsz : ∀ k (h : k < xs.length), (xs[k]).size ≤ maxLen) (hlen : xs.length ≤ maxLen) (hn : -9223372036854775808 ≤ size ∧ size ≤ 9223372036854775807) :
    Calls Tryd.prog 8 #[lv, .int .i64 size, .int .i64 bq] w fun e w' => e = .returned (.bool true) ∧ Below w.heap.size w w' := by
  by_cases hout : bq < 0 ∨ (xs.length : Int) < bq
  · exact te_out a lv xs size bq w he hl hsz hlen hout
  · obtain ⟨q, rfl⟩ := Int.eq_ofNat_of_zero_le (show 0 ≤ bq by omega)
    have hq : q ≤ xs.length := by omega
    obtain ⟨c, pl, hf⟩ := tabFault_ex xs size
    by_cases hc : c = 0
    · subst hc
      obtain ⟨rfl, h0, hif, m, rfl, hp, h22, h5⟩ := tabFault_zero hf
      rcases Nat.lt_or_ge q xs.length with h | h
      · exact te_lt a lv xs m q w he hl hsz hlen h h0 hif hp h5
      · obtain rfl : q = xs.length := by omega
        exact te_eq a lv xs m w he hl hsz hlen h0 hif hp h5
    · exact te_bad a lv xs size q w he hl hsz hlen hq hn c pl hf hc

theorem door_met (os : Os) (args : Array Value) : laidMetH Tryd.prog Rows.tableEvenRow.laid ((World.doorLaid Tryd.prog 187 os).forCall (fun _ _ => 0) ⟨#[], args, []⟩).memory :=
  laidMetH_of_parts3 (fuel := 8) (laidMet_of_run' 8 (by kernel_rfl) (by kernel_rfl)) (by kernel_rfl) (by kernel_rfl)

set_option maxRecDepth 100000 in
theorem lifted (os : Os) (started : os.Started) (H : Type) (enc : TypeId × Value → H) :
    ReturnsInHanded {} Tryd.checked os 8 .any (fun w args => (Rows.tableEvenSpec.pre enc Tryd.prog Tryd.f8 [] false w args ∧ laidMetH Tryd.prog Rows.tableEvenRow.laid w) ∧ sizedMet enc Tryd.prog Tryd.f8 (OpenSpec.ofChange Rows.tableEvenSpec) false w args)
      (Rows.tableEvenSpec.post enc Tryd.prog Tryd.f8 false true false false) := by
  refine returnsInHanded_of_change_and (C := Tryd.checked) (X := fun w _ => laidMetH Tryd.prog Rows.tableEvenRow.laid w) (fun _ _ _ hh h => h.of_heap hh) own started (by kernel_rfl) Tryd.func8
    (ChangeSpec.witness_shaped (enc := enc) (C := Tryd.checked) (os := os) (X := fun w _ => laidMetH Tryd.prog Rows.tableEvenRow.laid w) false (World.doorLaid Tryd.prog 187 os) #[.slice none 0 0, .int .i64 0, .int .i64 0] 8 rfl (World.shaped_of_RefB (by kernel_rfl) (by kernel_rfl)) (by kernel_rfl) (by kernel_rfl) (by kernel_rfl) (door_met os _)) ?_
  intro W base args ds gs before hval0 hW _ _ hL _
  have hval : ∀ (j : Nat) t v, Tryd.f8.params[j]? = some t → args[j]? = some v → Value.okWide Tryd.prog W .any base t v := hval0
  have hW' := hW
  obtain ⟨p, q, hA0, hV, rfl, hfz, hnd⟩ := hW
  have hA : DataW.TrodAll enc Tryd.prog W 0 (fun _ => true) true Tryd.f8.params.toList args.toList ds p := hA0
  rw [Tryd.params8] at hA hval
  obtain ⟨v0, v1, v2, d0, d1, d2, p0, p1, p2, rfl, rfl, rfl, h0, h1, h2⟩ := trodAll_three hA
  obtain ⟨rfl, rfl⟩ := trodVars_none hV
  obtain ⟨a0, len, cap, hv0⟩ := okWide_slice Tryd.underlying35 (hval 0 35 v0 rfl rfl)
  obtain ⟨x, rfl, rfl, rfl, wx⟩ := open_int Tryd.underlying3 (hval 1 3 v1 rfl rfl) h1
  obtain ⟨y, rfl, rfl, rfl, wy⟩ := open_int Tryd.underlying3 (hval 2 3 v2 rfl rfl) h2
  obtain ⟨xs, hst, hsz, hlen⟩ : ∃ xs : List ByteArray, Strs1 W v0 xs ∧ (∀ k (h : k < xs.length), (xs[k]).size ≤ maxLen) ∧ xs.length ≤ maxLen := by
    obtain ⟨fuel, hf⟩ := h0
    subst hv0
    exact open_texts rfl hf
  have bx := bounds_i64 wx
  clear hA0 hval0
  simp only [List.append_nil] at hW'
  have hlt : ∀ z ∈ p0, z.block < W.heap.size := fun z hz => hW'.lt z (by simp [hz])
  obtain ⟨a, he⟩ := errs5_laid hL
  refine (law_any a v0 xs x y W he hst hsz hlen bx).mono fun e W' ⟨he', hb⟩ => ?_
  subst he'
  refine ⟨_, rfl, _, _, _, [], p0 ++ ([] ++ []), [], hW', ?_, ?_, ?_, hb.frame _, fun h => by cases h⟩
  · exact trodAll_mk1 (shut_bool Tryd.underlying4 true)
  · exact trodAll_mk3 (Below.trod laidOut (by kernel_rfl) (of_decide_eq_true (by kernel_rfl)) h0 hb hlt) (shut_int Tryd.underlying3 wx) (shut_int Tryd.underlying3 wy)
  · rfl

theorem said : Rows.TableEvenSaid :=
  OpenClaim.holds_of_wide 8 Tryd.f8 rfl rfl rfl rfl rfl rfl rfl ⟨rfl, rfl, rfl, rfl, rfl⟩ rfl rfl rfl rfl rfl (by kernel_rfl) Tryd.func8 (by kernel_rfl)
    (of_decide_eq_true (by kernel_rfl)) (by unfold Func.isWrapper; first | (rw [if_pos (by decide +kernel)]; kernel_rfl) | (rw [if_neg (by decide +kernel)]; exact ⟨rfl, rfl⟩))
    (fun os started H enc _ => lifted os started H enc)

/-- No parameter wants a stand-in; the program's looks are the card's. -/
theorem plain (f : FuncId) (fn : Func) (hf : Tryd.pinned.checked.prog.funcNamed "levelhand/levelhandlaw1.TableEven" = some f) (hfn : Tryd.pinned.checked.prog.funcs[f]? = some fn) :
    true = Tryd.pinned.checked.prog.looks [] ∧ ∀ (j : Nat) t, fn.params[j]? = some t → Tryd.pinned.checked.prog.wantsStandIn t = false := by
  obtain rfl : f = 8 := Option.some.inj ((show Tryd.prog.funcNamed "levelhand/levelhandlaw1.TableEven" = some 8 by kernel_rfl).symm.trans hf) |>.symm
  obtain rfl : fn = Tryd.f8 := (Option.some.inj (Tryd.func8.symm.trans hfn)).symm
  refine ⟨by kernel_rfl, fun j t ht => ?_⟩
  rw [Tryd.params8] at ht
  have hm : t = 35 ∨ t = 3 := by
    have hmem := Array.mem_of_getElem? ht
    simp only [List.mem_toArray, List.mem_cons, List.not_mem_nil, or_false] at hmem
    rcases hmem with h | h | h <;> simp [h]
  rcases hm with rfl | rfl
  · exact (show Tryd.prog.wantsStandIn 35 = false by kernel_rfl)
  · exact (show Tryd.prog.wantsStandIn 3 = false by kernel_rfl)

theorem card : Rows.TableEvenCardSaid :=
  Claim7.holds_tied_plain_at .later [] _ _ _ _ said (fun _ h => by cases h) (by kernel_rfl) (fun _ h => by cases h) tableEven_row_tie rfl ⟨rfl, rfl⟩ (by kernel_rfl) rfl plain (by kernel_rfl)
end Go.Proofs.YtedbhahkldfmiaaDoor.tableEven
namespace Go.Proofs.YtedbhahkldfmiaaDoor
theorem tableEven_holds : Rows.TableEvenCardSaid := tableEven.card
end Go.Proofs.YtedbhahkldfmiaaDoor
