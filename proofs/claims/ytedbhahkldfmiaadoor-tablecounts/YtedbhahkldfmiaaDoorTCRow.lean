/- TableCounts holds of the landed code: for all lists of numbers, all lists of texts and all numbers the law answers true. No condition but the row's own: ten package variables begin as the program's text lays them (tied). -/
import Derived.Test.YtedbhahkldfmiaaDoorCards
import Derived.Test.YtedbhahkldfmiaaDoorTie
import Derived.Test.YtedbhahkldfmiaaDoorLaid
import Derived.Test.YtedbhahkldfmiaaDoorOpenT
import Derived.Test.YtedbhahkldfmiaaDoorTCA
import Derived.Test.YtedbhahkldfmiaaDoorTCB
import Derived.Test.YtedbhahkldfmiaaDoorTCC
import Derived.Test.YtedbhahkldfmiaaDoorTCD
import Derived.SliceStrings
import Derived.ChangeSlices
namespace Go.Proofs.YtedbhahkldfmiaaDoor.tableCounts
open Go.ChangeShapes Go.WideShapes Go.ChangeAt Go.RowKit
open Go.ChangeMaps (open_string shut_string)

theorem trodAll_five {H : Type} {enc : TypeId × Value → H} {P : Program} {w : World} {base : Nat} {spare : Nat → Bool} {held : Bool} {t0 t1 t2 t3 t4 : TypeId} {args : Array Value} {ds : List (DataW H)} {ps : List MemPlace} (h : DataW.TrodAll enc P w base spare held [t0, t1, t2, t3, t4] args.toList ds ps) :
    ∃ v0 v1 v2 v3 v4 d0 d1 d2 d3 d4 p0 p1 p2 p3 p4, args = #[v0, v1, v2, v3, v4] ∧ ds = [d0, d1, d2, d3, d4] ∧ ps = p0 ++ p1 ++ p2 ++ p3 ++ p4 ∧ DataW.Trod enc P w base spare held t0 v0 d0 p0 ∧ DataW.Trod enc P w base spare held t1 v1 d1 p1 ∧ DataW.Trod enc P w base spare held t2 v2 d2 p2 ∧ DataW.Trod enc P w base spare held t3 v3 d3 p3 ∧ DataW.Trod enc P w base spare held t4 v4 d4 p4 := by
  obtain ⟨v0, vs0, d0, ds0, p0, q0, hargs, rfl, rfl, h0, r0⟩ := trodAll_cons h
  obtain ⟨v1, vs1, d1, ds1, p1, q1, rfl, rfl, rfl, h1, r1⟩ := trodAll_cons r0
  obtain ⟨v2, vs2, d2, ds2, p2, q2, rfl, rfl, rfl, h2, r2⟩ := trodAll_cons r1
  obtain ⟨v3, vs3, d3, ds3, p3, q3, rfl, rfl, rfl, h3, r3⟩ := trodAll_cons r2
  obtain ⟨v4, vs4, d4, ds4, p4, q4, rfl, rfl, rfl, h4, r4⟩ := trodAll_cons r3
  obtain ⟨rfl, rfl, rfl⟩ := trodAll_nil r4
  exact ⟨v0, v1, v2, v3, v4, d0, d1, d2, d3, d4, p0, p1, p2, p3, p4, by cases args; simp_all, rfl, by simp, h0, h1, h2, h3, h4⟩
theorem cellsI : Tryd.prog.cellsOf 3 = 1 := by kernel_rfl
theorem open_nums {H : Type} {enc : TypeId × Value → H} {W : World} {v : Value} {fuel : Nat} {x : DataW H × List MemPlace} {a0 : Option Addr} {len cap : Nat} (hv : v = .slice a0 len cap)
    (hf : DataW.trod enc Tryd.prog W 0 (fun _ => true) true fuel 22 [.slice a0 len cap] = some x) :
    ∃ l : List Int, Ints1 W v l ∧ (∀ k (h : k < l.length), -9223372036854775808 ≤ l[k] ∧ l[k] ≤ 9223372036854775807) ∧ l.length ≤ maxLen := by
  subst hv
  rcases open_ints Tryd.underlying22 Tryd.underlying3 cellsI hf with ⟨hcs, _⟩ | ⟨a, len', cap', zs, hcs, _, hl, hm, hz, _, hcell, hws⟩
  · simp at hcs
    obtain ⟨rfl, rfl, rfl⟩ := hcs
    exact ⟨[], Or.inl ⟨rfl, rfl⟩, fun k h => absurd h (by simp), by simp⟩
  · simp at hcs
    obtain ⟨rfl, rfl, rfl⟩ := hcs
    simp only [if_true] at hz
    have hlen : (zs.take len).length = len := by simp; omega
    refine ⟨zs.take len, Or.inr ⟨a, cap, by rw [hlen], fun j u hu => ?_, fun hp => ?_⟩, fun k h => bounds_i64 (hws _ (List.mem_of_mem_take (List.getElem_mem h))), by omega⟩
    · obtain ⟨hj, rfl⟩ := List.getElem?_eq_some_iff.1 hu
      have hj' : j < len := by have h1 := hj; simp at h1; omega
      rw [hcell j (by omega)]
      have hjz : j < zs.length := by omega
      simp [List.getD, hjz]
    · have hp' : 0 < len := by omega
      simpa [Addr.add] using World.cell?_spot (hcell 0 (by omega))
theorem law_any (a : Nat → Addr) (lv va vb : Value) (l : List Int) (xs ys : List ByteArray) (many size : Int) (w : World) (he : Errs a w) (hl : Ints1 w lv l) (hA : Strs1 w va xs) (hB : Strs1 w vb ys)
    (hsA : ∀ k (h : k < xs.length), (xs[k]).size ≤ maxLen) (hlA : xs.length ≤ maxLen) (hsB : ∀ k (h : k < ys.length), (ys[k]).size ≤ maxLen) (hlB : ys.length ≤ maxLen) (hll : l.length ≤ maxLen) (hl64 : ∀ k (h : k < l.length), -9223372036854775808 ≤ l[k] ∧ l[k] ≤ 9223372036854775807)
    (hmany : -9223372036854775808 ≤ many ∧ many ≤ 9223372036854775807) (hn : -9223372036854775808 ≤ size ∧ size ≤ 9223372036854775807) :
    Calls Tryd.prog 7 #[lv, .int .i64 many, va, vb, .int .i64 size] w fun e w' => e = .returned (.bool true) ∧ Below w.heap.size w w' := by
  obtain ⟨c, pl, hf⟩ := cntFault_ex l many
  obtain ⟨cA, plA, hfA⟩ := tabFault_ex xs size
  obtain ⟨cB, plB, hfB⟩ := tabFault_ex ys size
  by_cases hc : c = 0
  · by_cases hcA : cA = 0
    · by_cases hcB : cB = 0
      · exact tc_gg a lv va vb l xs ys many size w he hl hA hB hsA hlA hsB hlB hll hl64 hmany hn c pl hf cA plA hfA cB plB hfB hc hcA hcB
      · exact tc_gb2 a lv va vb l xs ys many size w he hl hA hB hsA hlA hsB hlB hll hl64 hmany hn c pl hf cA plA hfA cB plB hfB hc hcA hcB
    · exact tc_gb1 a lv va vb l xs ys many size w he hl hA hB hsA hlA hsB hlB hll hl64 hmany hn c pl hf cA plA hfA cB plB hfB hc hcA
  · by_cases h1 : many < 0
    · obtain ⟨hc2, _⟩ := cnt_fault_out hf (Or.inl h1)
      by_cases hne : 0 < l.length
      · by_cases hcA : cA = 0
        · by_cases hcB : cB = 0
          · exact tc_on1g a lv va vb l xs ys many size w he hl hA hB hsA hlA hsB hlB hll hl64 hmany hn c pl hf cA plA hfA cB plB hfB hc2 h1 hne hcA hcB
          · exact tc_on1b2 a lv va vb l xs ys many size w he hl hA hB hsA hlA hsB hlB hll hl64 hmany hn c pl hf cA plA hfA cB plB hfB hc2 h1 hne hcA hcB
        · exact tc_on1b1 a lv va vb l xs ys many size w he hl hA hB hsA hlA hsB hlB hll hl64 hmany hn c pl hf cA plA hfA cB plB hfB hc2 h1 hne hcA
      · by_cases hcA : cA = 0
        · by_cases hcB : cB = 0
          · exact tc_on0g a lv va vb l xs ys many size w he hl hA hB hsA hlA hsB hlB hll hl64 hmany hn c pl hf cA plA hfA cB plB hfB hc2 h1 hne hcA hcB
          · exact tc_on0b2 a lv va vb l xs ys many size w he hl hA hB hsA hlA hsB hlB hll hl64 hmany hn c pl hf cA plA hfA cB plB hfB hc2 h1 hne hcA hcB
        · exact tc_on0b1 a lv va vb l xs ys many size w he hl hA hB hsA hlA hsB hlB hll hl64 hmany hn c pl hf cA plA hfA cB plB hfB hc2 h1 hne hcA
    · by_cases h2 : 12 < many
      · obtain ⟨hc2, _⟩ := cnt_fault_out hf (Or.inr h2)
        by_cases hne : 0 < l.length
        · by_cases hcA : cA = 0
          · by_cases hcB : cB = 0
            · exact tc_op1g a lv va vb l xs ys many size w he hl hA hB hsA hlA hsB hlB hll hl64 hmany hn c pl hf cA plA hfA cB plB hfB hc2 h2 hne hcA hcB
            · exact tc_op1b2 a lv va vb l xs ys many size w he hl hA hB hsA hlA hsB hlB hll hl64 hmany hn c pl hf cA plA hfA cB plB hfB hc2 h2 hne hcA hcB
          · exact tc_op1b1 a lv va vb l xs ys many size w he hl hA hB hsA hlA hsB hlB hll hl64 hmany hn c pl hf cA plA hfA cB plB hfB hc2 h2 hne hcA
        · by_cases hcA : cA = 0
          · by_cases hcB : cB = 0
            · exact tc_op0g a lv va vb l xs ys many size w he hl hA hB hsA hlA hsB hlB hll hl64 hmany hn c pl hf cA plA hfA cB plB hfB hc2 h2 hne hcA hcB
            · exact tc_op0b2 a lv va vb l xs ys many size w he hl hA hB hsA hlA hsB hlB hll hl64 hmany hn c pl hf cA plA hfA cB plB hfB hc2 h2 hne hcA hcB
          · exact tc_op0b1 a lv va vb l xs ys many size w he hl hA hB hsA hlA hsB hlB hll hl64 hmany hn c pl hf cA plA hfA cB plB hfB hc2 h2 hne hcA
      · by_cases hcA : cA = 0
        · by_cases hcB : cB = 0
          · exact tc_bg a lv va vb l xs ys many size w he hl hA hB hsA hlA hsB hlB hll hl64 hmany hn c pl hf cA plA hfA cB plB hfB hc (by omega) hcA hcB
          · exact tc_bb2 a lv va vb l xs ys many size w he hl hA hB hsA hlA hsB hlB hll hl64 hmany hn c pl hf cA plA hfA cB plB hfB hc (by omega) hcA hcB
        · exact tc_bb1 a lv va vb l xs ys many size w he hl hA hB hsA hlA hsB hlB hll hl64 hmany hn c pl hf cA plA hfA cB plB hfB hc (by omega) hcA

theorem door_met (os : Os) (args : Array Value) : laidMetH Tryd.prog Rows.tableCountsRow.laid ((World.doorLaid Tryd.prog 187 os).forCall (fun _ _ => 0) ⟨#[], args, []⟩).memory :=
  laidMetH_of_parts3 (fuel := 8) (laidMet_of_run' 8 (by kernel_rfl) (by kernel_rfl)) (by kernel_rfl) (by kernel_rfl)

set_option maxRecDepth 100000 in
theorem lifted (os : Os) (started : os.Started) (H : Type) (enc : TypeId × Value → H) :
    ReturnsInHanded {} Tryd.checked os 7 .any (fun w args => (Rows.tableCountsSpec.pre enc Tryd.prog Tryd.f7 [] false w args ∧ laidMetH Tryd.prog Rows.tableCountsRow.laid w) ∧ sizedMet enc Tryd.prog Tryd.f7 (OpenSpec.ofChange Rows.tableCountsSpec) false w args)
      (Rows.tableCountsSpec.post enc Tryd.prog Tryd.f7 false true false false) := by
  refine returnsInHanded_of_change_and (C := Tryd.checked) (X := fun w _ => laidMetH Tryd.prog Rows.tableCountsRow.laid w) (fun _ _ _ hh h => h.of_heap hh) own started (by kernel_rfl) Tryd.func7
    (ChangeSpec.witness_shaped (enc := enc) (C := Tryd.checked) (os := os) (X := fun w _ => laidMetH Tryd.prog Rows.tableCountsRow.laid w) false (World.doorLaid Tryd.prog 187 os) #[.slice none 0 0, .int .i64 0, .slice none 0 0, .slice none 0 0, .int .i64 0] 8 rfl (World.shaped_of_RefB (by kernel_rfl) (by kernel_rfl)) (by kernel_rfl) (by kernel_rfl) (by kernel_rfl) (door_met os _)) ?_
  intro W base args ds gs before hval0 hW _ _ hL _
  have hval : ∀ (j : Nat) t v, Tryd.f7.params[j]? = some t → args[j]? = some v → Value.okWide Tryd.prog W .any base t v := hval0
  have hW' := hW
  obtain ⟨p, q, hA0, hV, rfl, hfz, hnd⟩ := hW
  have hA : DataW.TrodAll enc Tryd.prog W 0 (fun _ => true) true Tryd.f7.params.toList args.toList ds p := hA0
  rw [Tryd.params7] at hA hval
  obtain ⟨v0, v1, v2, v3, v4, d0, d1, d2, d3, d4, p0, p1, p2, p3, p4, rfl, rfl, rfl, h0, h1, h2, h3, h4⟩ := trodAll_five hA
  obtain ⟨rfl, rfl⟩ := trodVars_none hV
  obtain ⟨a0, len0, cap0, hv0⟩ := okWide_slice Tryd.underlying22 (hval 0 22 v0 rfl rfl)
  obtain ⟨x, rfl, rfl, rfl, wx⟩ := open_int Tryd.underlying3 (hval 1 3 v1 rfl rfl) h1
  obtain ⟨a2, len2, cap2, hv2⟩ := okWide_slice Tryd.underlying35 (hval 2 35 v2 rfl rfl)
  obtain ⟨a3, len3, cap3, hv3⟩ := okWide_slice Tryd.underlying35 (hval 3 35 v3 rfl rfl)
  obtain ⟨y, rfl, rfl, rfl, wy⟩ := open_int Tryd.underlying3 (hval 4 3 v4 rfl rfl) h4
  obtain ⟨l, hli, hl64, hll⟩ : ∃ l : List Int, Ints1 W v0 l ∧ (∀ k (h : k < l.length), -9223372036854775808 ≤ l[k] ∧ l[k] ≤ 9223372036854775807) ∧ l.length ≤ maxLen := by
    obtain ⟨fuel, hf⟩ := h0
    subst hv0
    exact open_nums rfl hf
  obtain ⟨xs, hst, hsz, hlen⟩ : ∃ xs : List ByteArray, Strs1 W v2 xs ∧ (∀ k (h : k < xs.length), (xs[k]).size ≤ maxLen) ∧ xs.length ≤ maxLen := by
    obtain ⟨fuel, hf⟩ := h2
    subst hv2
    exact open_texts rfl hf
  obtain ⟨ys, hst', hsz', hlen'⟩ : ∃ xs : List ByteArray, Strs1 W v3 xs ∧ (∀ k (h : k < xs.length), (xs[k]).size ≤ maxLen) ∧ xs.length ≤ maxLen := by
    obtain ⟨fuel, hf⟩ := h3
    subst hv3
    exact open_texts rfl hf
  have bx := bounds_i64 wx
  have by' := bounds_i64 wy
  clear hA0 hval0
  simp only [List.append_nil] at hW'
  have hlt0 : ∀ z ∈ p0, z.block < W.heap.size := fun z hz => hW'.lt z (by simp [hz])
  have hlt2 : ∀ z ∈ p2, z.block < W.heap.size := fun z hz => hW'.lt z (by simp [hz])
  have hlt3 : ∀ z ∈ p3, z.block < W.heap.size := fun z hz => hW'.lt z (by simp [hz])
  obtain ⟨a, he⟩ := errs_of_laid hL
  refine (law_any a v0 v2 v3 l xs ys x y W he hli hst hst' hsz hlen hsz' hlen' hll hl64 bx by').mono fun e W' ⟨he', hb⟩ => ?_
  subst he'
  refine ⟨_, rfl, _, _, _, [], p0 ++ ([] ++ (p2 ++ (p3 ++ []))), [], hW', ?_, ?_, ?_, hb.frame _, fun h => by cases h⟩
  · exact trodAll_mk1 (shut_bool Tryd.underlying4 true)
  · exact ⟨p0, [] ++ (p2 ++ (p3 ++ [])), Below.trod laidOut (by kernel_rfl) (of_decide_eq_true (by kernel_rfl)) h0 hb hlt0, trodAll_mk4 (shut_int Tryd.underlying3 wx) (Below.trod laidOut (by kernel_rfl) (of_decide_eq_true (by kernel_rfl)) h2 hb hlt2) (Below.trod laidOut (by kernel_rfl) (of_decide_eq_true (by kernel_rfl)) h3 hb hlt3) (shut_int Tryd.underlying3 wy), rfl⟩
  · rfl

theorem said : Rows.TableCountsSaid :=
  OpenClaim.holds_of_wide 7 Tryd.f7 rfl rfl rfl rfl rfl rfl rfl ⟨rfl, rfl, rfl, rfl, rfl⟩ rfl rfl rfl rfl rfl (by kernel_rfl) Tryd.func7 (by kernel_rfl)
    (of_decide_eq_true (by kernel_rfl)) (by unfold Func.isWrapper; first | (rw [if_pos (by decide +kernel)]; kernel_rfl) | (rw [if_neg (by decide +kernel)]; exact ⟨rfl, rfl⟩))
    (fun os started H enc _ => lifted os started H enc)

/-- No parameter wants a stand-in; the program's looks are the card's. -/
theorem plain (f : FuncId) (fn : Func) (hf : Tryd.pinned.checked.prog.funcNamed "levelhand/levelhandlaw1.TableCounts" = some f) (hfn : Tryd.pinned.checked.prog.funcs[f]? = some fn) :
    true = Tryd.pinned.checked.prog.looks [] ∧ ∀ (j : Nat) t, fn.params[j]? = some t → Tryd.pinned.checked.prog.wantsStandIn t = false := by
  obtain rfl : f = 7 := Option.some.inj ((show Tryd.prog.funcNamed "levelhand/levelhandlaw1.TableCounts" = some 7 by kernel_rfl).symm.trans hf) |>.symm
  obtain rfl : fn = Tryd.f7 := (Option.some.inj (Tryd.func7.symm.trans hfn)).symm
  refine ⟨by kernel_rfl, fun j t ht => ?_⟩
  rw [Tryd.params7] at ht
  have hm : t = 22 ∨ t = 3 ∨ t = 35 := by
    have hmem := Array.mem_of_getElem? ht
    simp only [List.mem_toArray, List.mem_cons, List.not_mem_nil, or_false] at hmem
    rcases hmem with h | h | h | h | h <;> simp [h]
  rcases hm with rfl | rfl | rfl
  · exact (show Tryd.prog.wantsStandIn 22 = false by kernel_rfl)
  · exact (show Tryd.prog.wantsStandIn 3 = false by kernel_rfl)
  · exact (show Tryd.prog.wantsStandIn 35 = false by kernel_rfl)

theorem card : Rows.TableCountsCardSaid :=
  Claim7.holds_tied_plain_at .later [] _ _ _ _ said (fun _ h => by cases h) (by kernel_rfl) (fun _ h => by cases h) tableCounts_row_tie rfl ⟨rfl, rfl⟩ (by kernel_rfl) rfl plain (by kernel_rfl)
end Go.Proofs.YtedbhahkldfmiaaDoor.tableCounts
namespace Go.Proofs.YtedbhahkldfmiaaDoor
theorem tableCounts_holds : Rows.TableCountsCardSaid := tableCounts.card
end Go.Proofs.YtedbhahkldfmiaaDoor
