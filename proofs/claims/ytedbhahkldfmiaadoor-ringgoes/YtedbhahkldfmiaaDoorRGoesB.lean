/- RingGoes where hosts and copies are right. -/
import Derived.Test.YtedbhahkldfmiaaDoorRKeys
namespace Go.Proofs.YtedbhahkldfmiaaDoor
open Go.RowKit

set_option maxRecDepth 100000 in
set_option maxHeartbeats 4000000 in
theorem goes_goodB (a : Nat → Addr) (b o cap : Nat) (kp : Option Addr) (kc : Nat) (xs : List ByteArray) (ks : List Nat) (c m : Nat) (w : World) (he : Errs4 a w) (hcap : xs.length ≤ cap) (hcm : cap ≤ maxLen) (hce : m + 1 < cap) (hx : ∀ k (h : k < xs.length), w.cell? ⟨b, o + k, none⟩ = some (.string xs[k]))
    (hlong : ∀ W, Below w.heap.size w W → Calls Tryd.prog 17 #[.slice (some ⟨b, o, none⟩) xs.length cap] W fun e w' => e = .returned (.int .i64 0) ∧ w' = W)
    (hk : ∀ k (h : k < ks.length), ∃ b o, kp = some ⟨b, o, none⟩ ∧ w.cell? ⟨b, o + k, none⟩ = some (.int .u64 (ks[k] : Nat))) (h60 : ks.length ≤ 60) (h2 : 2 ≤ xs.length) (hm : m < xs.length) (hs60 : ∀ k (h : k < xs.length), (xs[k]).size ≤ 60) (hf : IsFault xs 0 (-1)) (hc1 : 1 ≤ c) (hc : c ≤ 16) :
    Calls Tryd.prog 10 #[.slice (some ⟨b, o, none⟩) xs.length cap, .int .i64 (c : Nat), .int .i64 (m : Nat), .slice kp ks.length kc] w fun e w' => e = .returned (.bool true) ∧ Below w.heap.size w w' := by
  obtain ⟨i, hi, hz0, hz1, hz2⟩ := info_parts infoS
  obtain ⟨_, h12, hnd⟩ := fault0 hf
  have hrg := ringed_any a w he
  have e1 : decide ((m : Int) < 0) = false := by simp
  have e2 : decide ((xs.length : Int) ≤ (m : Int)) = false := by simp; omega
  have e3 : decide ((xs.length : Int) < 2) = false := by simp; omega
  have e4 : decide (60 < (ks.length : Int)) = false := by simp; omega
  have HX : Hid (∀ k (h : k < xs.length), w.cell? ⟨b, o + k, none⟩ = some (.string xs[k])) := hx
  have HK : Hid (∀ k (h : k < ks.length), ∃ b o, kp = some ⟨b, o, none⟩ ∧ w.cell? ⟨b, o + k, none⟩ = some (.int .u64 (ks[k] : Nat))) := hk
  have HE : Hid (Errs4 a w) := he
  have HF : Hid (IsFault xs 0 (-1)) := hf
  have HS : Hid (∀ k (h : k < xs.length), (xs[k]).size ≤ 60) := hs60
  have HND : Hid (xs.Nodup) := hnd
  clear hx hk he hf hs60 hnd
  go_enter Tryd.func10, Tryd.ntmps10
  go_wp2_with fail
  refine hrg.mono ?_
  rintro e w1 ⟨rfl, hb1⟩
  clear hrg
  go_wp2_with fail
  refine (hlong _ hb1).mono ?_
  rintro e w1' ⟨rfl, rfl⟩
  go_wp2_with fail
  refine (ownTexts_any _ xs w1' (Or.inr ⟨b, o, cap, rfl, hcap, fun k h => below_cell hb1 (HX.out k h)⟩) (by omega)).mono ?_
  rintro e w2 ⟨v2, rfl, hv2, hb2⟩
  have hbw2 : Below w.heap.size w w2 := below_then hb1 hb2
  go_wp2_with fail
  refine (new_good a v2 xs c w2 (HE.out.later hbw2) hv2 (by omega) HF.out (fun k h => Nat.le_trans (HS.out k h) (by decide)) hc1 hc).mono ?_
  rintro e w3 ⟨ra, blka, capa, Pa, rfl, hRa, hIa, hb3⟩
  have hbw3 : Below w.heap.size w w3 := below_then hbw2 hb3
  clear hb1 hb2 hb3 hv2 hlong
  have hmi : (m : Int) < (xs.length : Int) := by omega
  have hcm' := hcm
  unfold maxLen at hcm'
  have hs1 : ∀ j u, ((xs.take m).map Value.string)[j]? = some u → w3.cell? ((⟨b, o, none⟩ : Addr).add j) = some u := cells_strs (fun j hj => by
    have hj' : j < xs.length := by simp at hj; omega
    rw [below_cell hbw3 (HX.out j hj')]
    simp)
  have hl1 : ((xs.take m).map Value.string).length = m * 1 := by simp; omega
  have hm1 : 0 + m ≤ maxLen := by unfold maxLen; omega
  go_wp2_with (at_builtin; refine wpList_append_own _ rfl _ _ 35 rfl w3.heap.size 9 i _ 1 16 Tryd.underlying35 hi hz0 hz1 hz2 rfl (by decide) (.slice none 0 0) 0 _ rfl (owns_nil _ _ _) ⟨b, o, none⟩ m cap ((xs.take m).map Value.string) rfl hl1 hs1 (strs_oneCell _) hm1 (by omega) (Nat.le_refl _) ?_)
  intro v4 w4 hown4 hg4 _
  have hbw4 : Below w.heap.size w w4 := hbw3.grown hg4 hbw3.size (fun k h => by cases h)
  have hR4 : Below w3.heap.size w3 w4 := below_grown hg4 (fun k h => by cases h)
  clear hs1 hl1 hg4
  have hs2 : ∀ j u, ((xs.drop (m + 1)).map Value.string)[j]? = some u → w4.cell? ((⟨b, o + (m + 1), none⟩ : Addr).add j) = some u := cells_strs (fun j hj => by
    have hj' : m + 1 + j < xs.length := by simp at hj; omega
    rw [Nat.add_assoc, below_cell hbw4 (HX.out (m + 1 + j) hj')]
    simp)
  have hl2 : ((xs.drop (m + 1)).map Value.string).length = (xs.length - (m + 1)) * 1 := by simp
  have hm2 : m + (xs.length - (m + 1)) ≤ maxLen := by unfold maxLen; omega
  go_wp2_with (at_builtin; refine wpList_append_own _ rfl _ _ 35 rfl w3.heap.size 9 i _ 1 16 Tryd.underlying35 hi hz0 hz1 hz2 rfl (by decide) v4 m _ rfl hown4 ⟨b, o + (m + 1), none⟩ (xs.length - (m + 1)) _ ((xs.drop (m + 1)).map Value.string) rfl hl2 hs2 (strs_oneCell _) hm2 (by omega) hR4.size ?_)
  intro v5 w5 hown5 hg5 _
  have hst5 : Strs1 w5 v5 (xs.take m ++ xs.drop (m + 1)) := strs_of_owns (by rw [List.map_append]; simpa using hown5)
  have hb5 : Below w3.heap.size w3 w5 := hR4.grown hg5 hR4.size (fun k h => (hown4.lt k h).1)
  have hbw5 : Below w.heap.size w w5 := below_then hbw3 hb5
  clear hown4 hown5 hg5 hs2 hl2 hm2 hm1 hR4 hbw4
  obtain ⟨hfl, hye⟩ := fault_less HF.out hm
  have hyl : 0 < (xs.take m ++ xs.drop (m + 1)).length := by simp; omega
  have hyS : ∀ k (h : k < (xs.take m ++ xs.drop (m + 1)).length), ((xs.take m ++ xs.drop (m + 1))[k]).size ≤ 300 := fun k h => by
    have hmem : (xs.take m ++ xs.drop (m + 1))[k] ∈ xs := by
      have := List.getElem_mem h
      rcases List.mem_append.1 this with h1 | h1
      · exact List.mem_of_mem_take h1
      · exact List.mem_of_mem_drop h1
    obtain ⟨j, hj, e⟩ := List.getElem_of_mem hmem
    rw [← e]
    exact Nat.le_trans (HS.out j hj) (by decide)
  have hnewb := new_good a v5 _ c w5 (HE.out.later hbw5) hst5 hyl hfl hyS hc1 hc
  rw [hye] at hnewb
  have hyl2 : 0 < (xs.filter fun s => decide (s ≠ xs[m])).length := by rw [← hye]; exact hyl
  have hy12 : (xs.filter fun s => decide (s ≠ xs[m])).length ≤ 12 := Nat.le_trans (List.length_filter_le _ _) h12
  have HY : Hid (0 < (xs.filter fun s => decide (s ≠ xs[m])).length ∧ (xs.filter fun s => decide (s ≠ xs[m])).length ≤ 12) := ⟨hyl2, hy12⟩
  clear hfl hye hyl hyS hst5 hyl2 hy12
  go_wp2_with fail
  refine hnewb.mono ?_
  rintro e w6 ⟨rb, blkb, capb, Pb, rfl, hRb, hIb, hb6⟩
  have hbw6 : Below w.heap.size w w6 := below_then hbw5 hb6
  have hRa6 : RingBlk w6 ra blka capa Pa := (hRa.later hb5).later hb6
  obtain ⟨pa0, pal⟩ := ring_pos hIa (by omega) h12 hc1 hc
  obtain ⟨pb0, pbl⟩ := ring_pos hIb HY.out.1 HY.out.2 hc1 hc
  have HAN : Hid (∀ z, Answers w6 ra z (Lh.hostsF (Lh.turn z) Pa) ∧ Answers w6 rb z (Lh.hostsF (Lh.turn z) Pb)) := fun z => ⟨answers hRa6 hIa.2 pal pa0 z, answers hRb hIb.2 pbl pb0 z⟩
  have HWO : Hid (∀ z, ∃ x y T, Lh.hostsF (Lh.turn z) Pa = x :: y :: T ∧ (Lh.hostsF (Lh.turn z) Pb)[0]? = some (if x = xs[m] then y else x)) := fun z => by
    obtain ⟨x, y, T, hD⟩ := Lh.two_of (Lh.ring_mem hIa hc1 (Lh.turn z)) HND.out h2
    refine ⟨x, y, T, hD, ?_⟩
    rw [Lh.ring_less hIa hIb (Lh.turn z), hD]
    refine Lh.goes_head ?_
    rw [← hD]
    exact Lh.hosts_nodup _ _
  clear hnewb hRa hRb hRa6 hIa hIb hb5 hb6 pa0 pal pb0 pbl
  go_wp2_with fail
  go_loopw [14] (fun t W => Below w6.heap.size w6 W ∧ ∃ k : Nat, k ≤ ks.length ∧ t = .int .i64 k) (fun t _ => ks.length - (intOf t).toNat)
  case atStart => exact ⟨Below.refl _ _, 0, Nat.zero_le _, rfl⟩
  case round =>
    obtain ⟨hb, k, hkk, rfl⟩ := hrel
    by_cases hlt : k < ks.length
    · obtain ⟨bk, ok, rfl, hck⟩ := HK.out k hlt
      have hki : (k : Int) < (ks.length : Int) := by omega
      have HCK : Hid (∀ W, Below w6.heap.size w6 W → W.cell? ⟨bk, ok + k, none⟩ = some (.int .u64 (ks[k] : Nat))) := fun W hW => below_cell (below_then hbw6 hW) hck
      have HCM : Hid (∀ W, Below w6.heap.size w6 W → W.cell? ⟨b, o + m, none⟩ = some (.string xs[m])) := fun W hW => below_cell (below_then hbw6 hW) (HX.out m hm)
      obtain ⟨AA, AB⟩ := HAN.out ks[k]
      obtain ⟨x0, y0, T, hD, hB0⟩ := HWO.out ks[k]
      rw [hD] at AA
      have hA := AA.host
      have hN := AA.next
      have hB := AB.host
      generalize Lh.hostsF (Lh.turn ks[k]) Pb = Db at *
      generalize ks[k] = z at *
      have hA' : ∀ W, Below w6.heap.size w6 W → Calls Tryd.prog 48 #[.pointer (some ⟨ra, 0, none⟩), .int .u64 (z : Nat)] W fun e w' => e = .returned (.string x0) ∧ Below w6.heap.size w6 w' := fun W hW => (hA W hW).mono fun _ _ ⟨s, h1, h2, h3⟩ => ⟨by rw [h1]; simp at h2; rw [h2], h3⟩
      have hB' : ∀ W, Below w6.heap.size w6 W → Calls Tryd.prog 48 #[.pointer (some ⟨rb, 0, none⟩), .int .u64 (z : Nat)] W fun e w' => e = .returned (.string (if x0 = xs[m] then y0 else x0)) ∧ Below w6.heap.size w6 w' := fun W hW => (hB W hW).mono fun _ _ ⟨s, h1, h2, h3⟩ => ⟨by rw [h1]; rw [hB0] at h2; rw [Option.some.inj h2], h3⟩
      have hN' : ∀ W, Below w6.heap.size w6 W → Calls Tryd.prog 47 #[.pointer (some ⟨ra, 0, none⟩), .int .u64 (z : Nat), .int .i64 2] W fun e w' => ∃ v, e = .returned v ∧ Strs1 w' v [x0, y0] ∧ Below w6.heap.size w6 w' := fun W hW => hN W hW 2 (by decide)
      have HA : Hid (∀ W, Below w6.heap.size w6 W → Calls Tryd.prog 48 #[.pointer (some ⟨ra, 0, none⟩), .int .u64 (z : Nat)] W fun e w' => e = .returned (.string x0) ∧ Below w6.heap.size w6 w') := hA'
      have HN : Hid (∀ W, Below w6.heap.size w6 W → Calls Tryd.prog 47 #[.pointer (some ⟨ra, 0, none⟩), .int .u64 (z : Nat), .int .i64 2] W fun e w' => ∃ v, e = .returned v ∧ Strs1 w' v [x0, y0] ∧ Below w6.heap.size w6 w') := hN'
      have c1 := HCK.out wr hb
      have hmi' : (m : Int) < (xs.length : Int) := by omega
      clear hA hN hB hA' hN' AA AB hD hB0 hck
      generalize xs[m] = wn at *
      have hxx : (x0.toList == x0.toList) = true := bytes_same rfl
      by_cases hw : x0 = wn
      · subst hw
        rw [if_pos rfl] at hB'
        have hyy : (y0.toList == y0.toList) = true := bytes_same rfl
        have HB : Hid (∀ W, Below w6.heap.size w6 W → Calls Tryd.prog 48 #[.pointer (some ⟨rb, 0, none⟩), .int .u64 (z : Nat)] W fun e w' => e = .returned (.string y0) ∧ Below w6.heap.size w6 w') := hB'
        clear hB'
        go_wp2_with fail
        refine (HA.out _ hb).mono ?_
        rintro e w7 ⟨rfl, hb7⟩
        have c2 := HCK.out w7 hb7
        go_wp2_with fail
        refine (HB.out _ hb7).mono ?_
        rintro e w8 ⟨rfl, hb8⟩
        have c3 := HCK.out w8 hb8
        go_wp2_with fail
        refine (HN.out _ hb8).mono ?_
        rintro e w9 ⟨v9, rfl, hv9, hb9⟩
        have c4 := HCM.out w9 hb9
        obtain ⟨b9, o9, cp9, rfl, hc9⟩ := strsPos hv9 (by simp)
        have d0 : w9.cell? ⟨b9, o9, none⟩ = some (.string x0) := hc9 0 (by simp)
        have d1 : w9.cell? ⟨b9, o9 + 1, none⟩ = some (.string y0) := hc9 1 (by simp)
        clear hc9 hv9 c1 c2 c3
        go_wp2_with fail
        exact ⟨⟨hb9, k + 1, by omega, by go_num⟩, by simp [intOf]; omega⟩
      · rw [if_neg hw] at hB'
        have hwf : (x0.toList == wn.toList) = false := bytes_parts hw
        have HB : Hid (∀ W, Below w6.heap.size w6 W → Calls Tryd.prog 48 #[.pointer (some ⟨rb, 0, none⟩), .int .u64 (z : Nat)] W fun e w' => e = .returned (.string x0) ∧ Below w6.heap.size w6 w') := hB'
        clear hB' hw
        go_wp2_with fail
        refine (HA.out _ hb).mono ?_
        rintro e w7 ⟨rfl, hb7⟩
        have c2 := HCK.out w7 hb7
        go_wp2_with fail
        refine (HB.out _ hb7).mono ?_
        rintro e w8 ⟨rfl, hb8⟩
        have c3 := HCK.out w8 hb8
        go_wp2_with fail
        refine (HN.out _ hb8).mono ?_
        rintro e w9 ⟨v9, rfl, hv9, hb9⟩
        have c4 := HCM.out w9 hb9
        obtain ⟨b9, o9, cp9, rfl, hc9⟩ := strsPos hv9 (by simp)
        have d0 : w9.cell? ⟨b9, o9, none⟩ = some (.string x0) := hc9 0 (by simp)
        have d1 : w9.cell? ⟨b9, o9 + 1, none⟩ = some (.string y0) := hc9 1 (by simp)
        clear hc9 hv9 c1 c2 c3
        go_wp2_with fail
        exact ⟨⟨hb9, k + 1, by omega, by go_num⟩, by simp [intOf]; omega⟩
    · go_wp2
      go_ret
      exact ⟨rfl, below_then hbw6 hb⟩
end Go.Proofs.YtedbhahkldfmiaaDoor
