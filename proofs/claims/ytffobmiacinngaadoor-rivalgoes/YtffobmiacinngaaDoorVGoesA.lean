/- RivalGoes where hosts are right, and the slice ends at the host that goes. -/
import Derived.Test.YtffobmiacinngaaDoorVHost
namespace Go.Proofs.YtffobmiacinngaaDoor
open Go.RowKit

set_option maxRecDepth 100000 in
set_option maxHeartbeats 4000000 in
theorem vgoes_goodA (a : Nat → Addr) (b o cap : Nat) (xs : List ByteArray) (m k : Nat) (hk : k < 18446744073709551616) (w : World) (he : Errs4 a w) (hcap : xs.length ≤ cap) (hcm : cap ≤ maxLen) (hce : cap = m + 1) (hx : ∀ k (h : k < xs.length), w.cell? ⟨b, o + k, none⟩ = some (.string xs[k]))
    (hlong : ∀ W, Below w.heap.size w W → Calls Tryd.prog 20 #[.slice (some ⟨b, o, none⟩) xs.length cap] W fun e w' => e = .returned (.int .i64 0) ∧ w' = W)
    (h2 : 2 ≤ xs.length) (hm : m < xs.length) (hs60 : ∀ k (h : k < xs.length), (xs[k]).size ≤ 60) (hf : IsFault xs 0 (-1)) :
    Calls Tryd.prog 13 #[.slice (some ⟨b, o, none⟩) xs.length cap, .int .i64 (m : Nat), .int .u64 (k : Nat)] w fun e w' => e = .returned (.bool true) ∧ Below w.heap.size w w' := by
  obtain ⟨i, hi, hz0, hz1, hz2⟩ := info_parts infoS
  obtain ⟨_, h12, hnd⟩ := fault0 hf
  have hrg := rivals_any a w he
  have e1 : decide ((m : Int) < 0) = false := by simp
  have e2 : decide ((xs.length : Int) ≤ (m : Int)) = false := by simp; omega
  have e3 : decide ((xs.length : Int) < 2) = false := by simp; omega
  have HX : Hid (∀ k (h : k < xs.length), w.cell? ⟨b, o + k, none⟩ = some (.string xs[k])) := hx
  have HE : Hid (Errs4 a w) := he
  have HF : Hid (IsFault xs 0 (-1)) := hf
  have HS : Hid (∀ k (h : k < xs.length), (xs[k]).size ≤ 60) := hs60
  have HKK : Hid (k < 18446744073709551616) := hk
  clear hx he hf hs60 hnd hk
  subst hce
  go_enter Tryd.func13, Tryd.ntmps13
  go_wp2_with fail
  refine hrg.mono ?_
  rintro e w1 ⟨rfl, hb1⟩
  clear hrg
  go_wp2_with fail
  refine (hlong _ hb1).mono ?_
  rintro e w1' ⟨rfl, rfl⟩
  go_wp2_with fail
  refine (ownTexts_any _ xs w1' (Or.inr ⟨b, o, (m + 1), rfl, hcap, fun k h => below_cell hb1 (HX.out k h)⟩) (by omega)).mono ?_
  rintro e w2 ⟨v2, rfl, hv2, hb2⟩
  have hbw2 : Below w.heap.size w w2 := below_then hb1 hb2
  go_wp2_with fail
  refine (order_good a v2 xs k HKK.out w2 (HE.out.later hbw2) hv2 (by omega) HF.out (fun k h => Nat.le_trans (HS.out k h) (by decide)) (by omega)).mono ?_
  rintro e w3 ⟨va, rfl, hA, hb3⟩
  have hbw3 : Below w.heap.size w w3 := below_then hbw2 hb3
  have HA : Hid (Strs1 w3 va (Lh.order (Lh.score k) xs)) := hA
  clear hb1 hb2 hb3 hv2 hlong hA
  have hmi : (m : Int) < (xs.length : Int) := by omega
  have hcm' := hcm
  unfold maxLen at hcm'
  have hs1 : ∀ j u, ((xs.take m).map Value.string)[j]? = some u → w3.cell? ((⟨b, o, none⟩ : Addr).add j) = some u := cells_strs (fun j hj => by
    have hj' : j < xs.length := by simp at hj; omega
    rw [below_cell hbw3 (HX.out j hj')]
    simp)
  have hl1 : ((xs.take m).map Value.string).length = m * 1 := by simp; omega
  have hm1 : 0 + m ≤ maxLen := by unfold maxLen; omega
  go_wp2_with (at_builtin; refine wpList_append_own _ rfl _ _ 35 rfl w3.heap.size 9 i _ 1 16 Tryd.underlying35 hi hz0 hz1 hz2 rfl (by decide) (.slice none 0 0) 0 _ rfl (owns_nil _ _ _) ⟨b, o, none⟩ m (m + 1) ((xs.take m).map Value.string) rfl hl1 hs1 (strs_oneCell _) hm1 (by omega) (Nat.le_refl _) ?_)
  intro v4 w4 hown4 hg4 _
  have hbw4 : Below w.heap.size w w4 := hbw3.grown hg4 hbw3.size (fun k h => by cases h)
  have hR4 : Below w3.heap.size w3 w4 := below_grown hg4 (fun k h => by cases h)
  clear hs1 hl1 hg4
  have hs2 : ∀ j u, ([] : List Value)[j]? = some u → w4.cell? ((⟨b, o, none⟩ : Addr).add j) = some u := fun j u hu => by
    simp at hu
  have hl2 : ([] : List Value).length = 0 * 1 := rfl
  have hm2 : m + 0 ≤ maxLen := by unfold maxLen; omega
  go_wp2_with (at_builtin; refine wpList_append_own _ rfl _ _ 35 rfl w3.heap.size 9 i _ 1 16 Tryd.underlying35 hi hz0 hz1 hz2 rfl (by decide) v4 m _ rfl hown4 ⟨b, o, none⟩ 0 _ [] rfl hl2 hs2 (fun u hu => by cases hu) hm2 (by omega) hR4.size ?_)
  intro v5 w5 hown5 hg5 _
  have hst5 : Strs1 w5 v5 (xs.take m ++ xs.drop (m + 1)) := strs_of_owns (by rw [List.drop_eq_nil_of_le (by omega)]; simpa using hown5)
  have hb5 : Below w3.heap.size w3 w5 := hR4.grown hg5 hR4.size (fun k h => (hown4.lt k h).1)
  have hbw5 : Below w.heap.size w w5 := below_then hbw3 hb5
  clear hown4 hown5 hg5 hs2 hl2 hm2 hm1 hR4 hbw4
  obtain ⟨hfl, hye⟩ := fault_less HF.out hm
  have hyl : 0 < (xs.take m ++ xs.drop (m + 1)).length := by simp; omega
  have hyS : ∀ k (h : k < (xs.take m ++ xs.drop (m + 1)).length), ((xs.take m ++ xs.drop (m + 1))[k]).size ≤ 300 := fun k h => by
    have hmem : (xs.take m ++ xs.drop (m + 1))[k] ∈ xs := by
      have := List.getElem_mem h
      rcases List.mem_append.1 this with h1 | h1
      · exact List.mem_of_mem_take h1
      · exact List.mem_of_mem_drop h1
    obtain ⟨j, hj, e⟩ := List.getElem_of_mem hmem
    rw [← e]
    exact Nat.le_trans (HS.out j hj) (by decide)
  have hnewb := order_good a v5 _ k HKK.out w5 (HE.out.later hbw5) hst5 hyl hfl hyS (by simp; omega)
  rw [hye, ← Lh.order_filter] at hnewb
  have HAW : Hid (Strs1 w5 va (Lh.order (Lh.score k) xs)) := HA.out.later hb5
  have hla : (Lh.order (Lh.score k) xs).length = xs.length := Lh.order_length _ _
  clear hfl hye hyl hyS hst5 HA
  generalize Lh.order (Lh.score k) xs = A at *
  have HLA : Hid (A.length = xs.length) := hla
  have hA0 : 0 < A.length := by omega
  have hA12 : A.length ≤ 12 := by omega
  clear hla
  go_wp2_with fail
  refine hnewb.mono ?_
  rintro e w6 ⟨vb, rfl, hB, hb6⟩
  have hbw6 : Below w.heap.size w w6 := below_then hbw5 hb6
  have HB : Hid (Strs1 w6 vb (A.filter fun s => decide (s ≠ xs[m]))) := hB
  obtain ⟨ba, oa, ca, rfl, hca⟩ := strsPos (HAW.out.later hb6) (by omega)
  have HCA : Hid (∀ W, Below w6.heap.size w6 W → ∀ j (h : j < A.length), W.cell? ⟨ba, oa + j, none⟩ = some (.string A[j])) := fun W hW j h => below_cell hW (hca j h)
  have HCM : Hid (∀ W, Below w6.heap.size w6 W → W.cell? ⟨b, o + m, none⟩ = some (.string xs[m])) := fun W hW => below_cell (below_then hbw6 hW) (HX.out m hm)
  clear hnewb hB hb5 hb6 hca HAW hbw5
  generalize xs[m] = wn at *
  go_wp2_with fail
  go_loopw [12, 13] (fun v t W => Below w6.heap.size w6 W ∧ ∃ j : Nat, j ≤ A.length ∧ t = .int .i64 j ∧ W.ownsRow w6.heap.size 9 1 v ((A.take j).filter fun s => decide (s ≠ wn)).length (((A.take j).filter fun s => decide (s ≠ wn)).map Value.string)) (fun _ t _ => A.length - (intOf t).toNat)
  case atStart => exact ⟨Below.refl _ _, 0, Nat.zero_le _, rfl, owns_nil w6 _ _⟩
  case round =>
    obtain ⟨hb, j, hjj, rfl, hown⟩ := hrel
    by_cases hlt : j < A.length
    · have hji : (j : Int) < (A.length : Int) := by omega
      have c1 := HCA.out wr hb j hlt
      have c2 := HCM.out wr hb
      have hll : ((A.take j).filter fun s => decide (s ≠ wn)).length ≤ 30 := by
        refine Nat.le_trans (List.length_filter_le _ _) ?_
        rw [List.length_take]; omega
      have HN : Hid ((A.take (j + 1)).filter (fun s => decide (s ≠ wn)) = (A.take j).filter (fun s => decide (s ≠ wn)) ++ if A[j] = wn then [] else [A[j]]) := by
        have h1 : (A.take (j + 1)).filter (fun s => decide (s ≠ wn)) = (A.take j).filter (fun s => decide (s ≠ wn)) ++ if A[j] = wn then [] else [A[j]] := by
          rw [List.take_succ_eq_append_getElem hlt, List.filter_append]
          by_cases h : A[j] = wn <;> simp [h]
        exact h1
      generalize (A.take j).filter (fun s => decide (s ≠ wn)) = L at *
      generalize A[j] = s at *
      by_cases hsw : s = wn
      · have hsf : (s.toList == wn.toList) = true := bytes_same hsw
        have HN' : Hid ((A.take (j + 1)).filter (fun s => decide (s ≠ wn)) = L) := by
          have h1 := HN.out
          rw [if_pos hsw, List.append_nil] at h1
          exact h1
        clear hsw HN
        go_wp2_with fail
        go_quiet (fail)
        have hownq : (wr.drewN nq).ownsRow w6.heap.size 9 1 u12 L.length (L.map Value.string) := hown
        have hbq : Below w6.heap.size w6 (wr.drewN nq) := below_drewN hb nq
        have c1q : (wr.drewN nq).cell? ⟨ba, oa + j, none⟩ = some (.string s) := c1
        clear hown hb c1 c2
        generalize wr.drewN nq = wq at *
        go_wp2
        refine ⟨⟨hbq, j + 1, by omega, by go_num, ?_⟩, by simp [intOf]; omega⟩
        rw [HN'.out]
        exact hownq
      · have hsf : (s.toList == wn.toList) = false := bytes_parts hsw
        have HN' : Hid ((A.take (j + 1)).filter (fun s => decide (s ≠ wn)) = L ++ [s]) := by
          have h1 := HN.out
          rw [if_neg hsw] at h1
          exact h1
        clear hsw HN
        go_wp2_with fail
        go_quiet (fail)
        have hownq : (wr.drewN nq).ownsRow w6.heap.size 9 1 u12 L.length (L.map Value.string) := hown
        have hbq : Below w6.heap.size w6 (wr.drewN nq) := below_drewN hb nq
        have c1q : (wr.drewN nq).cell? ⟨ba, oa + j, none⟩ = some (.string s) := c1
        clear hown hb c1 c2
        generalize wr.drewN nq = wq at *
        have hown5 := hownq.alloc (.cells #[.string s] 9)
        have hnews := cells_one (w := wq) (t := 9) s
        have hbn : Below w6.heap.size w6 (wq.alloc (.cells #[.string s] 9)) := hbq.alloc hbq.size _
        have hmax : L.length + 1 ≤ maxLen := by unfold maxLen; omega
        clear hownq hbq
        go_wp2_with (at_builtin; refine wpList_append_own _ rfl _ _ 35 rfl w6.heap.size 9 i _ 1 16 Tryd.underlying35 hi hz0 hz1 hz2 rfl (by decide) _ L.length _ rfl hown5 ⟨wq.heap.size, 0, none⟩ 1 1 [.string s] rfl rfl hnews (fun u hu => by simp at hu; subst hu; rfl) hmax (by omega) hbn.size ?_)
        intro v7 w7 hown7 hg7 _
        have hlo := hown5.lt
        have hb7 : Below w6.heap.size w6 w7 := hbn.grown hg7 hbn.size (fun k hk => (hlo k hk).1)
        have hown8 := owns_snoc hown7
        clear hown5 hnews hlo hg7 hown7
        go_wp2
        refine ⟨⟨hb7, j + 1, by omega, by go_num, ?_⟩, by simp [intOf]; omega⟩
        rw [HN'.out, List.length_append]
        exact hown8
    · have hjA : A.take j = A := List.take_of_length_le (by omega)
      rw [hjA] at hown
      clear hjA
      have hst := strs_of_owns hown
      have hstb := HB.out.later hb
      have hfl : (A.filter fun s => decide (s ≠ wn)).length ≤ A.length := List.length_filter_le _ _
      generalize A.filter (fun s => decide (s ≠ wn)) = L at *
      have heq : ((A.length : Int) == (xs.length : Int)) = true := by rw [HLA.out]; simp
      clear hown
      go_wp2_with fail
      refine (sameTexts_any _ vb L L wr hst.strs hstb.strs (by omega) (by omega)).mono ?_
      rintro e w8 ⟨rfl, hb8⟩
      rw [decide_eq_true rfl]
      go_wp2
      go_ret
      exact ⟨rfl, below_then (below_then hbw6 hb) hb8⟩
end Go.Proofs.YtffobmiacinngaaDoor
