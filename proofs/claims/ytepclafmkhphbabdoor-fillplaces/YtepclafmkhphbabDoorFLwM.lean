/- The law's filled. -/
import Derived.Test.YtepclafmkhphbabDoorFPlM
import Derived.Test.YtepclafmkhphbabDoorLists
import Derived.Test.YtepclafmkhphbabDoorRLong
namespace Go.Proofs.YtepclafmkhphbabDoor
open Go.RowKit

def hostB : ByteArray := ⟨#[98]⟩
theorem hostB_nm : Lh.isNm hostB = true := by decide +kernel
theorem hosts_ab : hostA ≠ hostB := by decide +kernel
theorem faultsAB : IsFault [hostA, hostB] 0 (-1) := fault_of (by decide) (by
  intro s hs
  simp at hs
  rcases hs with rfl | rfl
  · exact hostA_nm
  · exact hostB_nm) (by simp [hosts_ab])
theorem capAB : Lh.capN 2 2 0 = 1 := by decide
theorem places_ab {P : List Lh.Pt} (hI : Lh.IsRing 1 [hostA, hostB] P) : ∃ x y : Nat, intsN (plc [hostA, hostB] P (Lh.capN 2 2 0) [1, 2] 2) = [((x : Nat) : Int), ((y : Nat) : Int)] ∧ x ≠ y := by
  have hl := plc_len (ks := [1, 2]) (p := 0) hI (by decide) (by simp [hosts_ab]) (by simp) 2 (by simp)
  have hc := fun h => plc_cap (xs := [hostA, hostB]) (P := P) (ks := [1, 2]) (most := Lh.capN 2 2 0) 2 h
  have hl2 : (plc [hostA, hostB] P (Lh.capN 2 2 0) [1, 2] 2).length = 2 := hl
  clear hl
  generalize plc [hostA, hostB] P (Lh.capN 2 2 0) [1, 2] 2 = L at *
  match L, hl2 with
  | [x, y], _ =>
    refine ⟨x, y, rfl, fun e => ?_⟩
    subst e
    have := hc x
    rw [capAB] at this
    simp at this
set_option maxHeartbeats 2000000 in
theorem filled_any (hC : FillC) (a : Nat → Addr) (w : World) (he : Errs4 a w) :
    Calls Tryd.prog 16 #[] w fun e w' => e = .returned (.bool true) ∧ Below w.heap.size w w' := by
  have HE : Hid (Errs4 a w) := he
  have HC : Hid FillC := hC
  clear he hC
  have hb1 : Below w.heap.size w (w.alloc (.cells #[.string hostA, .string hostB] 9)) := (Below.refl _ _).alloc (Nat.le_refl _) _
  have hb2 : Below w.heap.size w ((w.alloc (.cells #[.string hostA, .string hostB] 9)).alloc (.cells #[.int .u64 1, .int .u64 2] 32)) := hb1.alloc hb1.size _
  have hst : Strs1 ((w.alloc (.cells #[.string hostA, .string hostB] 9)).alloc (.cells #[.int .u64 1, .int .u64 2] 32)) (.slice (some ⟨w.heap.size, 0, none⟩) 2 2) [hostA, hostB] := by
    have h1 : Strs1 (w.alloc (.cells #[.string hostA, .string hostB] 9)) (.slice (some ⟨w.heap.size, 0, none⟩) 2 2) [hostA, hostB] := Or.inr ⟨w.heap.size, 0, 2, rfl, by simp, fun k h => by
      match k, h with
      | 0, _ => simp
      | 1, _ => simp⟩
    exact h1.later ((Below.refl _ _).alloc (Nat.le_refl _) _)
  have hks : Keys1 ((w.alloc (.cells #[.string hostA, .string hostB] 9)).alloc (.cells #[.int .u64 1, .int .u64 2] 32)) (.slice (some ⟨w.heap.size + 1, 0, none⟩) 2 2) [1, 2] := Or.inr ⟨w.heap.size + 1, 0, 2, rfl, by simp, fun k h => by
      match k, h with
      | 0, _ => simp
      | 1, _ => simp⟩
  have hpl := HC.out.placeG a _ _ [hostA, hostB] [1, 2] 1 0 _ (HE.out.later hb2) hst hks (by simp) faultsAB (fun k h => by
      match k, h with
      | 0, _ => exact lenA
      | 1, _ => exact (by decide +kernel : hostB.size ≤ 300)) (by simp) (by simp) (by simp) (by decide) (by decide) (by decide)
  clear hst hks hb1
  go_enter Tryd.func16, Tryd.ntmps16
  go_wp2_with fail
  refine hpl.mono ?_
  rintro e w1 ⟨P, v, hI, rfl, hv, hb3⟩
  have hbw : Below w.heap.size w w1 := below_then hb2 hb3
  obtain ⟨x, y, hxy, hne⟩ := places_ab hI
  have hv2 : Ints w1 v [((x : Nat) : Int), ((y : Nat) : Int)] := by
    have h1 := hv
    have e : (plc [hostA, hostB] P (Lh.capN [1, 2].length [hostA, hostB].length 0) [1, 2] [1, 2].length) = plc [hostA, hostB] P (Lh.capN 2 2 0) [1, 2] 2 := rfl
    rw [e, hxy] at h1
    exact h1
  have hcap := HC.out.capG 2 2 0 w1 (by decide) (by decide) (by decide) (by decide)
  rw [capAB] at hcap
  clear hpl hv hxy hI hb2 hb3
  rcases hv2 with ⟨h, _⟩ | ⟨b, o, c, rfl, hc⟩
  · cases h
  · have c0 : w1.cell? ⟨b, o, none⟩ = some (.int .i64 (x : Nat)) := hc 0 (by simp)
    have c1 : w1.cell? ⟨b, o + 1, none⟩ = some (.int .i64 (y : Nat)) := hc 1 (by simp)
    clear hc
    go_wp2_with fail
    refine hcap.mono ?_
    rintro e w2 ⟨rfl, hb4⟩
    have d0 := below_cell hb4 c0
    have d1 := below_cell hb4 c1
    have hd : ((x : Int) != (y : Int)) = true := by rw [bne_iff_ne]; omega
    have hbz := below_then hbw hb4
    clear hcap c0 c1 hb4 hbw hne
    go_wp2_with fail
    go_quiet (fail)
    go_wp2
    go_ret
    exact ⟨rfl, below_drewN hbz nq⟩
end Go.Proofs.YtepclafmkhphbabDoor

/- The law's coded. -/
namespace Go.Proofs.YtepclafmkhphbabDoor
open Go.RowKit

/-- coded: the number of an error whose Code is known. -/
theorem coded_of (ev : Value) (c d : Int) (w : World) (hc : Calls Tryd.prog 29 #[ev] w fun e w' => e = .returned (.tuple #[.int .i64 c, .int .i64 (-1)]) ∧ Below w.heap.size w w') (hd : (c == d) = true) :
    Calls Tryd.prog 14 #[ev, .int .i64 d] w fun e w' => e = .returned (.bool true) ∧ Below w.heap.size w w' := by
  go_enter Tryd.func14, Tryd.ntmps14
  go_wp2_with fail
  refine hc.mono ?_
  rintro e w1 ⟨rfl, hb⟩
  clear hc
  go_wp2
  go_ret
  exact ⟨rfl, hb⟩
theorem coded_nil (w : World) : Calls Tryd.prog 14 #[.nilIface, .int .i64 0] w fun e w' => e = .returned (.bool true) ∧ Below w.heap.size w w' :=
  coded_of .nilIface 0 0 w ((code_nil w).mono fun _ _ ⟨h1, h2⟩ => ⟨h1, by rw [h2]; exact Below.refl _ _⟩) rfl
theorem coded_bound (a : Nat → Addr) (w : World) (he : Errs a w) : Calls Tryd.prog 14 #[.iface 165 (.pointer (some (a 1))), .int .i64 2] w fun e w' => e = .returned (.bool true) ∧ Below w.heap.size w w' :=
  coded_of _ (codeNum 1) 2 w (code_sent a 1 (by decide) w he) (by decide)
end Go.Proofs.YtepclafmkhphbabDoor

/- The reference's SameInts of longer lists: up to two million numbers. -/
namespace Go.Proofs.YtepclafmkhphbabDoor
open Go.RowKit

set_option maxHeartbeats 1000000 in
theorem sameIntsB_core (ba oa ca bb ob cb : Nat) (xs ys : List Int) (w : World) (hx : ∀ k (h : k < xs.length), w.cell? ⟨ba, oa + k, none⟩ = some (.int .i64 xs[k]))
    (hy : ∀ k (h : k < ys.length), w.cell? ⟨bb, ob + k, none⟩ = some (.int .i64 ys[k])) (hl : xs.length = ys.length) (hm : xs.length < 2000000) (r : Bool) (hr : r = decide (xs = ys)) :
    Calls Tryd.prog 15 #[.slice (some ⟨ba, oa, none⟩) xs.length ca, .slice (some ⟨bb, ob, none⟩) ys.length cb] w fun e w' => e = .returned (.bool r) ∧ Below w.heap.size w w' := by
  have hlb : ((xs.length : Int) != (ys.length : Int)) = false := by simp [hl]
  have HL : Hid (xs.length = ys.length) := hl
  have hle : ys.length < 2000000 := by omega
  have HX : Hid _ := hx
  have HY : Hid _ := hy
  have HR : Hid _ := hr
  clear hl hx hy hr
  go_enter Tryd.func15, Tryd.ntmps15
  go_wp2
  go_loopw [5] (fun t W => Below w.heap.size w W ∧ ∃ k : Nat, k ≤ xs.length ∧ t = .int .i64 k ∧ xs.take k = ys.take k) (fun t _ => xs.length - (intOf t).toNat)
  case atStart => exact ⟨Below.refl _ _, 0, Nat.zero_le _, rfl, rfl⟩
  case round =>
    obtain ⟨hb, k, hk, rfl, hpre⟩ := hrel
    have HP : Hid _ := hpre
    clear hpre
    by_cases hlt : k < xs.length
    · have hlt' : k < ys.length := by rw [← HL.out]; exact hlt
      have cx := below_cell hb (HX.out k hlt)
      have cy := below_cell hb (HY.out k hlt')
      have hi1 : (k : Int) < (xs.length : Int) := by omega
      have hi2 : (k : Int) < (ys.length : Int) := by omega
      generalize hxk : xs[k] = xk at *
      generalize hyk : ys[k] = yk at *
      have HXK : Hid _ := hxk
      have HYK : Hid _ := hyk
      clear hxk hyk
      by_cases heq : xk = yk
      · have hne : (xk != yk) = false := by simp [heq]
        have HE : Hid _ := heq
        clear heq
        go_wp2
        go_quiet (fail)
        go_wp2
        exact ⟨⟨below_drewN hb _, k + 1, by omega, by go_num, take_same HP.out hlt hlt' (by rw [HXK.out, HYK.out]; exact HE.out)⟩, by simp [intOf]; omega⟩
      · have hne : (xk != yk) = true := by simp [heq]
        have HE : Hid _ := heq
        clear heq
        go_wp2
        go_quiet (fail)
        go_wp2
        go_ret
        refine ⟨ret_bool ?_, below_drewN hb _⟩
        rw [HR.out]
        exact (decide_eq_false (get_parts hlt hlt' (by rw [HXK.out, HYK.out]; exact HE.out))).symm
    · go_wp2
      go_ret
      refine ⟨ret_bool ?_, hb⟩
      rw [HR.out]
      exact (decide_eq_true (take_all HP.out hlt HL.out)).symm

set_option maxHeartbeats 1000000 in
theorem sameIntsB_len (pa pb : Option Addr) (na nb ca cb : Nat) (w : World) (h : na ≠ nb) (_hm : na < 2000000) (_hm' : nb < 2000000) :
    Calls Tryd.prog 15 #[.slice pa na ca, .slice pb nb cb] w fun e w' => e = .returned (.bool false) ∧ w' = w := by
  have hlb : ((na : Int) != (nb : Int)) = true := by rw [bne_iff_ne]; omega
  clear h
  go_enter Tryd.func15, Tryd.ntmps15
  go_wp2
  go_ret
  exact ⟨rfl, rfl⟩

/-- SameInts of lists in memory. -/
theorem sameIntsB_any (va vb : Value) (xs ys : List Int) (w : World) (hx : Ints w va xs) (hy : Ints w vb ys) (hm : xs.length < 2000000) (hm' : ys.length < 2000000) :
    Calls Tryd.prog 15 #[va, vb] w fun e w' => e = .returned (.bool (decide (xs = ys))) ∧ Below w.heap.size w w' := by
  by_cases hl : xs.length = ys.length
  · rcases hx with ⟨rfl, p, c, rfl⟩ | ⟨b, o, c, rfl, hxc⟩
    · obtain rfl : ys = [] := List.length_eq_zero_iff.1 hl.symm
      obtain ⟨q, d, rfl⟩ := hy.slice
      exact (sameInts_zero p q c d w).mono fun e w' ⟨he, hw⟩ => ⟨by rw [he, decide_eq_true rfl], by rw [hw]; exact Below.refl _ _⟩
    · rcases hy with ⟨rfl, q, d, rfl⟩ | ⟨b', o', c', rfl, hyc⟩
      · obtain rfl : xs = [] := List.length_eq_zero_iff.1 hl
        exact (sameInts_zero _ q c d w).mono fun e w' ⟨he, hw⟩ => ⟨by rw [he, decide_eq_true rfl], by rw [hw]; exact Below.refl _ _⟩
      · exact sameIntsB_core b o c b' o' c' xs ys w hxc hyc hl hm _ rfl
  · obtain ⟨p, c, rfl⟩ := hx.slice
    obtain ⟨q, d, rfl⟩ := hy.slice
    exact (sameIntsB_len p q _ _ c d w hl hm hm').mono fun e w' ⟨he, hw⟩ => ⟨by rw [he, decide_eq_false (fun e => hl (by rw [e]))], by rw [hw]; exact Below.refl _ _⟩
end Go.Proofs.YtepclafmkhphbabDoor

/- FillPlaces, over what it asks of the landed functions: all right; something wrong; too many keys. -/
namespace Go.Proofs.YtepclafmkhphbabDoor
open Go.RowKit

set_option maxRecDepth 100000 in
set_option maxHeartbeats 4000000 in
theorem fp_good (hC : FillC) (a : Nat → Addr) (lv : Value) (kp : Option Addr) (kc : Nat) (xs : List ByteArray) (ks : List Nat) (c p : Nat) (n h : Int) (w : World) (he : Errs a w) (hl : Strs1 w lv xs) (hs : Short xs) (hk : Keys1 w (.slice kp ks.length kc) ks) (hku : ∀ z ∈ ks, z < 18446744073709551616) (hkl : ks.length ≤ 40) (h0 : 0 < xs.length) (hf : IsFault xs 0 (-1)) (hnd : ks.Nodup) (hc1 : 1 ≤ c) (hc : c ≤ 16) (hp : p ≤ 100)
    (m e0 : Int) (ev : Value) (hcap : ∀ W, Below w.heap.size w W → Calls Tryd.prog 22 #[.int .i64 n, .int .i64 h, .int .i64 (p : Nat)] W fun e w' => e = .returned (.tuple #[.int .i64 m, ev]) ∧ Below W.heap.size W w')
    (href : ∀ W, Calls Tryd.prog 23 #[.int .i64 n, .int .i64 h, .int .i64 (p : Nat)] W fun e w' => e = .returned (.tuple #[.int .i64 m, .int .i64 e0]) ∧ w' = W)
    (hcod : ∀ W, Below w.heap.size w W → Calls Tryd.prog 14 #[ev, .int .i64 e0] W fun e w' => e = .returned (.bool true) ∧ Below W.heap.size W w') :
    Calls Tryd.prog 6 #[lv, .int .i64 (c : Nat), .slice kp ks.length kc, .int .i64 (p : Nat), .int .i64 n, .int .i64 h] w fun e w' => e = .returned (.bool true) ∧ Below w.heap.size w w' := by
  have hrg := filled_any hC a w he.four
  have h30 := hs.1
  have hlong : ∀ W, Below w.heap.size w W → Calls Tryd.prog 17 #[lv] W fun e w' => e = .returned (.int .i64 0) ∧ w' = W := fun W hW => long_short lv xs W (hl.later hW).strs hs
  have HL : Hid (Strs1 w lv xs) := hl
  have HK : Hid (Keys1 w (.slice kp ks.length kc) ks) := hk
  have HE : Hid (Errs a w) := he
  have HC : Hid FillC := hC
  have HF : Hid (IsFault xs 0 (-1)) := hf
  have HND : Hid ks.Nodup := hnd
  have HKU : Hid (∀ z ∈ ks, z < 18446744073709551616) := hku
  have HS : Hid (∀ k (h : k < xs.length), (xs[k]).size ≤ 300) := fun k h => Nat.le_trans (hs.2 k h) (by decide)
  have HCAP : Hid (∀ W, Below w.heap.size w W → Calls Tryd.prog 22 #[.int .i64 n, .int .i64 h, .int .i64 (p : Nat)] W fun e w' => e = .returned (.tuple #[.int .i64 m, ev]) ∧ Below W.heap.size W w') := hcap
  have HREF : Hid (∀ W, Calls Tryd.prog 23 #[.int .i64 n, .int .i64 h, .int .i64 (p : Nat)] W fun e w' => e = .returned (.tuple #[.int .i64 m, .int .i64 e0]) ∧ w' = W) := href
  have HCOD : Hid (∀ W, Below w.heap.size w W → Calls Tryd.prog 14 #[ev, .int .i64 e0] W fun e w' => e = .returned (.bool true) ∧ Below W.heap.size W w') := hcod
  clear hl hk he hC hf hnd hku hs hcap href hcod
  obtain ⟨q, hqe⟩ : ∃ q, ks.length = q := ⟨_, rfl⟩
  have HQ : Hid (ks.length = q) := hqe
  rw [hqe] at hkl HK
  rw [hqe]
  clear hqe
  have e1 : decide (40 < (q : Int)) = false := by simp; omega
  have e2 : decide (600 < (q : Int)) = false := by simp; omega
  go_enter Tryd.func6, Tryd.ntmps6
  go_wp2_with fail
  refine hrg.mono ?_
  rintro e w1 ⟨rfl, hb1⟩
  clear hrg
  go_wp2_with fail
  refine (hlong _ hb1).mono ?_
  rintro e w1' ⟨rfl, rfl⟩
  clear hlong
  go_wp2_with fail
  refine (ownTexts_any _ xs w1' (HL.out.later hb1) (by omega)).mono ?_
  rintro e w2 ⟨v2, rfl, hv2, hb2⟩
  have hbw2 : Below w.heap.size w w2 := below_then hb1 hb2
  go_wp2_with fail
  refine (ownKeys_any _ ks w2 (HK.out.later hbw2) (by rw [HQ.out]; omega)).mono ?_
  rintro e w3 ⟨v3, rfl, hv3, hb3⟩
  have hbw3 : Below w.heap.size w w3 := below_then hbw2 hb3
  have hpl := HC.out.placeG a v2 v3 xs ks c p w3 (HE.out.later hbw3).four (hv2.later hb3) hv3 h0 HF.out HS.out (by rw [HQ.out]; omega) HND.out HKU.out hc1 hc hp
  clear hv2 hv3 hb1 hb2 hb3
  go_wp2_with fail
  refine hpl.mono ?_
  rintro e w4 ⟨P, vx, hI, rfl, hvx, hb4⟩
  have hbw4 : Below w.heap.size w w4 := below_then hbw3 hb4
  have hpo := placeOf_good lv (.slice kp q kc) xs ks c p w4 (HL.out.later hbw4) (HK.out.later hbw4) h0 HF.out HS.out (by rw [HQ.out]; omega) HND.out hc1 hc hp P hI
  have hL : (intsN (plc xs P (Lh.capN ks.length xs.length p) ks ks.length)).length ≤ 600 := by
    have := Lh.places_len (Lh.capN ks.length xs.length p) ((ks.take ks.length).map (ordN xs P))
    rw [List.length_map, List.length_take] at this
    have h2 := HQ.out
    unfold intsN plc
    rw [List.length_map]
    omega
  generalize intsN (plc xs P (Lh.capN ks.length xs.length p) ks ks.length) = L at *
  have HVX : Hid (Ints w4 vx L) := hvx
  clear hpl hI hb4 hvx hbw2 hbw3
  go_wp2_with fail
  refine hpo.mono ?_
  rintro e w5 ⟨vy, rfl, hvy, hb5⟩
  have hbw5 : Below w.heap.size w w5 := below_then hbw4 hb5
  have HVX5 : Hid (Ints w5 vx L) := HVX.out.later hb5
  have HVY : Hid (Ints w5 vy L) := hvy
  clear hpo hvy hb5 hbw4 HVX
  have hbA : Below w5.heap.size w5 (w5.alloc (.cells #[.int .i64 0, .int .i64 (-1)] 46)) := (Below.refl _ _).alloc (Nat.le_refl _) _
  have hbw6 : Below w.heap.size w (w5.alloc (.cells #[.int .i64 0, .int .i64 (-1)] 46)) := below_then hbw5 hbA
  have hfl := faulted_is (HE.out.later hbw6) (Or.inl ⟨rfl, rfl, rfl⟩)
  have HX6 := HVX5.out.later hbA
  have HY6 := HVY.out.later hbA
  go_wp2_with fail
  generalize w5.alloc (.cells #[.int .i64 0, .int .i64 (-1)] 46) = w6 at *
  generalize w5.heap.size = fb at *
  refine hfl.mono ?_
  rintro e w7 ⟨rfl, hb7⟩
  have hbw7 : Below w.heap.size w w7 := below_then hbw6 hb7
  have hsm := sameInts_any _ _ _ _ w7 (HX6.later hb7) (HY6.later hb7) (by omega) (by omega)
  rw [decide_eq_true rfl] at hsm
  clear hfl HX6 HY6 hb7 hbw6 hbA
  go_wp2_with fail
  refine hsm.mono ?_
  rintro e w8 ⟨rfl, hb8⟩
  have hbw8 : Below w.heap.size w w8 := below_then hbw7 hb8
  clear hsm hb8 hbw7
  go_wp2_with fail
  refine (HCAP.out _ hbw8).mono ?_
  rintro e w9 ⟨rfl, hb9⟩
  have hbw9 : Below w.heap.size w w9 := below_then hbw8 hb9
  go_wp2_with fail
  refine (HREF.out _).mono ?_
  rintro e w10 ⟨rfl, rfl⟩
  go_wp2_with fail
  refine (HCOD.out _ hbw9).mono ?_
  rintro e w11 ⟨rfl, hb11⟩
  have hmm : (m == m) = true := by simp
  go_wp2
  go_ret
  exact ⟨rfl, below_then hbw9 hb11⟩
set_option maxRecDepth 100000 in
set_option maxHeartbeats 4000000 in
theorem fp_bad (hC : FillC) (a : Nat → Addr) (lv : Value) (kp : Option Addr) (kc : Nat) (xs : List ByteArray) (ks : List Nat) (cn pc : Int) (n h : Int) (w : World) (he : Errs a w) (hl : Strs1 w lv xs) (hs : Short xs) (hk : Keys1 w (.slice kp ks.length kc) ks) (hku : ∀ z ∈ ks, z < 18446744073709551616) (hkl : ks.length ≤ 40) (cc : Nat) (pl : Int) (hf : PlFault xs cn ks pc cc pl) (hcc : cc ≠ 0)
    (m e0 : Int) (ev : Value) (hcap : ∀ W, Below w.heap.size w W → Calls Tryd.prog 22 #[.int .i64 n, .int .i64 h, .int .i64 pc] W fun e w' => e = .returned (.tuple #[.int .i64 m, ev]) ∧ Below W.heap.size W w')
    (href : ∀ W, Calls Tryd.prog 23 #[.int .i64 n, .int .i64 h, .int .i64 pc] W fun e w' => e = .returned (.tuple #[.int .i64 m, .int .i64 e0]) ∧ w' = W)
    (hcod : ∀ W, Below w.heap.size w W → Calls Tryd.prog 14 #[ev, .int .i64 e0] W fun e w' => e = .returned (.bool true) ∧ Below W.heap.size W w') :
    Calls Tryd.prog 6 #[lv, .int .i64 cn, .slice kp ks.length kc, .int .i64 pc, .int .i64 n, .int .i64 h] w fun e w' => e = .returned (.bool true) ∧ Below w.heap.size w w' := by
  have hrg := filled_any hC a w he.four
  have h30 := hs.1
  have hlong : ∀ W, Below w.heap.size w W → Calls Tryd.prog 17 #[lv] W fun e w' => e = .returned (.int .i64 0) ∧ w' = W := fun W hW => long_short lv xs W (hl.later hW).strs hs
  have HL : Hid (Strs1 w lv xs) := hl
  have HK : Hid (Keys1 w (.slice kp ks.length kc) ks) := hk
  have HE : Hid (Errs a w) := he
  have HC : Hid FillC := hC
  have HF : Hid (PlFault xs cn ks pc cc pl) := hf
  have HKU : Hid (∀ z ∈ ks, z < 18446744073709551616) := hku
  have HS : Hid (∀ k (h : k < xs.length), (xs[k]).size ≤ 300) := fun k h => Nat.le_trans (hs.2 k h) (by decide)
  have HCAP : Hid (∀ W, Below w.heap.size w W → Calls Tryd.prog 22 #[.int .i64 n, .int .i64 h, .int .i64 pc] W fun e w' => e = .returned (.tuple #[.int .i64 m, ev]) ∧ Below W.heap.size W w') := hcap
  have HREF : Hid (∀ W, Calls Tryd.prog 23 #[.int .i64 n, .int .i64 h, .int .i64 pc] W fun e w' => e = .returned (.tuple #[.int .i64 m, .int .i64 e0]) ∧ w' = W) := href
  have HCOD : Hid (∀ W, Below w.heap.size w W → Calls Tryd.prog 14 #[ev, .int .i64 e0] W fun e w' => e = .returned (.bool true) ∧ Below W.heap.size W w') := hcod
  clear hl hk he hC hf hku hs hcap href hcod
  obtain ⟨q, hqe⟩ : ∃ q, ks.length = q := ⟨_, rfl⟩
  have HQ : Hid (ks.length = q) := hqe
  rw [hqe] at hkl HK
  rw [hqe]
  clear hqe
  have e1 : decide (40 < (q : Int)) = false := by simp; omega
  have e2 : decide (600 < (q : Int)) = false := by simp; omega
  go_enter Tryd.func6, Tryd.ntmps6
  go_wp2_with fail
  refine hrg.mono ?_
  rintro e w1 ⟨rfl, hb1⟩
  clear hrg
  go_wp2_with fail
  refine (hlong _ hb1).mono ?_
  rintro e w1' ⟨rfl, rfl⟩
  clear hlong
  go_wp2_with fail
  refine (ownTexts_any _ xs w1' (HL.out.later hb1) (by omega)).mono ?_
  rintro e w2 ⟨v2, rfl, hv2, hb2⟩
  have hbw2 : Below w.heap.size w w2 := below_then hb1 hb2
  go_wp2_with fail
  refine (ownKeys_any _ ks w2 (HK.out.later hbw2) (by rw [HQ.out]; omega)).mono ?_
  rintro e w3 ⟨v3, rfl, hv3, hb3⟩
  have hbw3 : Below w.heap.size w w3 := below_then hbw2 hb3
  have hpl := HC.out.placeB a v2 v3 xs ks cn pc w3 cc pl (HE.out.later hbw3).four (hv2.later hb3) hv3 HF.out hcc HS.out (by omega) (by rw [HQ.out]; omega) HKU.out
  clear hv2 hv3 hb1 hb2 hb3
  go_wp2_with fail
  refine hpl.mono ?_
  rintro e w4 ⟨ex, rfl, hex, hb4⟩
  have hbw4 : Below w.heap.size w w4 := below_then hbw3 hb4
  have hpo := placeOf_bad lv (.slice kp q kc) xs ks cn pc w4 cc pl (HL.out.later hbw4) (HK.out.later hbw4) HF.out hcc HS.out (by omega) (by rw [HQ.out]; omega)
  have HEX : Hid (ErrIs a w4 cc pl ex) := hex
  clear hpl hb4 hex hbw2 hbw3
  go_wp2_with fail
  refine hpo.mono ?_
  rintro e w5 ⟨rfl, hb5⟩
  have hbw5 : Below w.heap.size w w5 := below_then hbw4 hb5
  have HEX5 : Hid (ErrIs a w5 cc pl ex) := HEX.out.later hb5
  clear hpo hb5 hbw4 HEX
  have hbA : Below w5.heap.size w5 (w5.alloc (.cells #[.int .i64 (cc : Nat), .int .i64 pl] 46)) := (Below.refl _ _).alloc (Nat.le_refl _) _
  have hbw6 : Below w.heap.size w (w5.alloc (.cells #[.int .i64 (cc : Nat), .int .i64 pl] 46)) := below_then hbw5 hbA
  have hfl := faulted_is (HE.out.later hbw6) (HEX5.out.later hbA)
  go_wp2_with fail
  generalize w5.alloc (.cells #[.int .i64 (cc : Nat), .int .i64 pl] 46) = w6 at *
  generalize w5.heap.size = fb at *
  refine hfl.mono ?_
  rintro e w7 ⟨rfl, hb7⟩
  have hbw7 : Below w.heap.size w w7 := below_then hbw6 hb7
  clear hfl hb7 hbw6 hbA
  go_wp2_with fail
  refine (sameInts_zero none none 0 0 _).mono ?_
  rintro e w8 ⟨rfl, rfl⟩
  have hbw8 : Below w.heap.size w w8 := hbw7
  clear hbw7
  go_wp2_with fail
  refine (HCAP.out _ hbw8).mono ?_
  rintro e w9 ⟨rfl, hb9⟩
  have hbw9 : Below w.heap.size w w9 := below_then hbw8 hb9
  go_wp2_with fail
  refine (HREF.out _).mono ?_
  rintro e w10 ⟨rfl, rfl⟩
  go_wp2_with fail
  refine (HCOD.out _ hbw9).mono ?_
  rintro e w11 ⟨rfl, hb11⟩
  have hmm : (m == m) = true := by simp
  go_wp2
  go_ret
  exact ⟨rfl, below_then hbw9 hb11⟩
set_option maxRecDepth 100000 in
set_option maxHeartbeats 4000000 in
theorem fp_badL (hC : FillC) (a : Nat → Addr) (lv : Value) (kp : Option Addr) (kc : Nat) (xs : List ByteArray) (ks : List Nat) (cn pc : Int) (n h : Int) (w : World) (he : Errs a w) (hl : Strs1 w lv xs) (hs : Short xs) (hk : Keys1 w (.slice kp ks.length kc) ks) (hku : ∀ z ∈ ks, z < 18446744073709551616) (hkl1 : 500 < ks.length) (hkl : ks.length ≤ 600) (cc : Nat) (pl : Int) (hf : PlFault xs cn ks pc cc pl) (hcc : cc ≠ 0)
    (m e0 : Int) (ev : Value) (hcap : ∀ W, Below w.heap.size w W → Calls Tryd.prog 22 #[.int .i64 n, .int .i64 h, .int .i64 pc] W fun e w' => e = .returned (.tuple #[.int .i64 m, ev]) ∧ Below W.heap.size W w')
    (href : ∀ W, Calls Tryd.prog 23 #[.int .i64 n, .int .i64 h, .int .i64 pc] W fun e w' => e = .returned (.tuple #[.int .i64 m, .int .i64 e0]) ∧ w' = W)
    (hcod : ∀ W, Below w.heap.size w W → Calls Tryd.prog 14 #[ev, .int .i64 e0] W fun e w' => e = .returned (.bool true) ∧ Below W.heap.size W w') :
    Calls Tryd.prog 6 #[lv, .int .i64 cn, .slice kp ks.length kc, .int .i64 pc, .int .i64 n, .int .i64 h] w fun e w' => e = .returned (.bool true) ∧ Below w.heap.size w w' := by
  have hrg := filled_any hC a w he.four
  have h30 := hs.1
  have hlong : ∀ W, Below w.heap.size w W → Calls Tryd.prog 17 #[lv] W fun e w' => e = .returned (.int .i64 0) ∧ w' = W := fun W hW => long_short lv xs W (hl.later hW).strs hs
  have HL : Hid (Strs1 w lv xs) := hl
  have HK : Hid (Keys1 w (.slice kp ks.length kc) ks) := hk
  have HE : Hid (Errs a w) := he
  have HC : Hid FillC := hC
  have HF : Hid (PlFault xs cn ks pc cc pl) := hf
  have HKU : Hid (∀ z ∈ ks, z < 18446744073709551616) := hku
  have HS : Hid (∀ k (h : k < xs.length), (xs[k]).size ≤ 300) := fun k h => Nat.le_trans (hs.2 k h) (by decide)
  have HCAP : Hid (∀ W, Below w.heap.size w W → Calls Tryd.prog 22 #[.int .i64 n, .int .i64 h, .int .i64 pc] W fun e w' => e = .returned (.tuple #[.int .i64 m, ev]) ∧ Below W.heap.size W w') := hcap
  have HREF : Hid (∀ W, Calls Tryd.prog 23 #[.int .i64 n, .int .i64 h, .int .i64 pc] W fun e w' => e = .returned (.tuple #[.int .i64 m, .int .i64 e0]) ∧ w' = W) := href
  have HCOD : Hid (∀ W, Below w.heap.size w W → Calls Tryd.prog 14 #[ev, .int .i64 e0] W fun e w' => e = .returned (.bool true) ∧ Below W.heap.size W w') := hcod
  clear hl hk he hC hf hku hs hcap href hcod
  obtain ⟨q, hqe⟩ : ∃ q, ks.length = q := ⟨_, rfl⟩
  have HQ : Hid (ks.length = q) := hqe
  rw [hqe] at hkl hkl1 HK
  rw [hqe]
  clear hqe
  have e1 : decide (40 < (q : Int)) = true := by simp; omega
  have e1' : decide ((q : Int) ≤ 500) = false := by simp; omega
  have e2 : decide (600 < (q : Int)) = false := by simp; omega
  go_enter Tryd.func6, Tryd.ntmps6
  go_wp2_with fail
  refine hrg.mono ?_
  rintro e w1 ⟨rfl, hb1⟩
  clear hrg
  go_wp2_with fail
  refine (hlong _ hb1).mono ?_
  rintro e w1' ⟨rfl, rfl⟩
  clear hlong
  go_wp2_with fail
  refine (ownTexts_any _ xs w1' (HL.out.later hb1) (by omega)).mono ?_
  rintro e w2 ⟨v2, rfl, hv2, hb2⟩
  have hbw2 : Below w.heap.size w w2 := below_then hb1 hb2
  go_wp2_with fail
  refine (ownKeys_any _ ks w2 (HK.out.later hbw2) (by rw [HQ.out]; omega)).mono ?_
  rintro e w3 ⟨v3, rfl, hv3, hb3⟩
  have hbw3 : Below w.heap.size w w3 := below_then hbw2 hb3
  have hpl := HC.out.placeB a v2 v3 xs ks cn pc w3 cc pl (HE.out.later hbw3).four (hv2.later hb3) hv3 HF.out hcc HS.out (by omega) (by rw [HQ.out]; omega) HKU.out
  clear hv2 hv3 hb1 hb2 hb3
  go_wp2_with fail
  refine hpl.mono ?_
  rintro e w4 ⟨ex, rfl, hex, hb4⟩
  have hbw4 : Below w.heap.size w w4 := below_then hbw3 hb4
  have hpo := placeOf_bad lv (.slice kp q kc) xs ks cn pc w4 cc pl (HL.out.later hbw4) (HK.out.later hbw4) HF.out hcc HS.out (by omega) (by rw [HQ.out]; omega)
  have HEX : Hid (ErrIs a w4 cc pl ex) := hex
  clear hpl hb4 hex hbw2 hbw3
  go_wp2_with fail
  refine hpo.mono ?_
  rintro e w5 ⟨rfl, hb5⟩
  have hbw5 : Below w.heap.size w w5 := below_then hbw4 hb5
  have HEX5 : Hid (ErrIs a w5 cc pl ex) := HEX.out.later hb5
  clear hpo hb5 hbw4 HEX
  have hbA : Below w5.heap.size w5 (w5.alloc (.cells #[.int .i64 (cc : Nat), .int .i64 pl] 46)) := (Below.refl _ _).alloc (Nat.le_refl _) _
  have hbw6 : Below w.heap.size w (w5.alloc (.cells #[.int .i64 (cc : Nat), .int .i64 pl] 46)) := below_then hbw5 hbA
  have hfl := faulted_is (HE.out.later hbw6) (HEX5.out.later hbA)
  go_wp2_with fail
  generalize w5.alloc (.cells #[.int .i64 (cc : Nat), .int .i64 pl] 46) = w6 at *
  generalize w5.heap.size = fb at *
  refine hfl.mono ?_
  rintro e w7 ⟨rfl, hb7⟩
  have hbw7 : Below w.heap.size w w7 := below_then hbw6 hb7
  clear hfl hb7 hbw6 hbA
  go_wp2_with fail
  refine (sameInts_zero none none 0 0 _).mono ?_
  rintro e w8 ⟨rfl, rfl⟩
  have hbw8 : Below w.heap.size w w8 := hbw7
  clear hbw7
  go_wp2_with fail
  refine (HCAP.out _ hbw8).mono ?_
  rintro e w9 ⟨rfl, hb9⟩
  have hbw9 : Below w.heap.size w w9 := below_then hbw8 hb9
  go_wp2_with fail
  refine (HREF.out _).mono ?_
  rintro e w10 ⟨rfl, rfl⟩
  go_wp2_with fail
  refine (HCOD.out _ hbw9).mono ?_
  rintro e w11 ⟨rfl, hb11⟩
  have hmm : (m == m) = true := by simp
  go_wp2
  go_ret
  exact ⟨rfl, below_then hbw9 hb11⟩
end Go.Proofs.YtepclafmkhphbabDoor

/- FillPlaces of any arguments, over what it asks of the landed functions. -/
namespace Go.Proofs.YtepclafmkhphbabDoor
open Go.RowKit

set_option maxRecDepth 100000 in
set_option maxHeartbeats 2000000 in
theorem fp_long (hC : FillC) (a : Nat → Addr) (lv kv : Value) (cn pc n h : Int) (w : World) (he : Errs4 a w)
    (hlong : ∀ W, Below w.heap.size w W → Calls Tryd.prog 17 #[lv] W fun e w' => e = .returned (.int .i64 1) ∧ w' = W) :
    Calls Tryd.prog 6 #[lv, .int .i64 cn, kv, .int .i64 pc, .int .i64 n, .int .i64 h] w fun e w' => e = .returned (.bool true) ∧ Below w.heap.size w w' := by
  have hrg := filled_any hC a w he
  clear he hC
  go_enter Tryd.func6, Tryd.ntmps6
  go_wp2_with fail
  refine hrg.mono ?_
  rintro e w1 ⟨rfl, hb1⟩
  clear hrg
  go_wp2_with fail
  refine (hlong _ hb1).mono ?_
  rintro e w1' ⟨rfl, rfl⟩
  go_wp2
  go_ret
  exact ⟨rfl, hb1⟩
set_option maxRecDepth 100000 in
set_option maxHeartbeats 2000000 in
theorem fp_early (hC : FillC) (a : Nat → Addr) (lv : Value) (kp : Option Addr) (q kc : Nat) (cn pc n h : Int) (w : World) (he : Errs4 a w) (hq : q ≤ maxLen)
    (hlong : ∀ W, Below w.heap.size w W → Calls Tryd.prog 17 #[lv] W fun e w' => e = .returned (.int .i64 0) ∧ w' = W) (hk : (40 < q ∧ q ≤ 500) ∨ 600 < q) :
    Calls Tryd.prog 6 #[lv, .int .i64 cn, .slice kp q kc, .int .i64 pc, .int .i64 n, .int .i64 h] w fun e w' => e = .returned (.bool true) ∧ Below w.heap.size w w' := by
  have hrg := filled_any hC a w he
  clear he hC
  unfold maxLen at hq
  have e1 : decide (40 < (q : Int)) = true := by simp; omega
  by_cases h5 : q ≤ 500
  · have e2 : decide ((q : Int) ≤ 500) = true := by simp; omega
    go_enter Tryd.func6, Tryd.ntmps6
    go_wp2_with fail
    refine hrg.mono ?_
    rintro e w1 ⟨rfl, hb1⟩
    clear hrg
    go_wp2_with fail
    refine (hlong _ hb1).mono ?_
    rintro e w1' ⟨rfl, rfl⟩
    go_wp2
    go_ret
    exact ⟨rfl, hb1⟩
  · have e2 : decide ((q : Int) ≤ 500) = false := by simp; omega
    have e3 : decide (600 < (q : Int)) = true := by simp; omega
    go_enter Tryd.func6, Tryd.ntmps6
    go_wp2_with fail
    refine hrg.mono ?_
    rintro e w1 ⟨rfl, hb1⟩
    clear hrg
    go_wp2_with fail
    refine (hlong _ hb1).mono ?_
    rintro e w1' ⟨rfl, rfl⟩
    go_wp2
    go_ret
    exact ⟨rfl, hb1⟩
/-- Cap beside the reference's, of any numbers. -/
theorem cap_ways (hC : FillC) (a : Nat → Addr) (n h pc : Int) (w : World) (he : Errs a w) : ∃ (m e0 : Int) (ev : Value),
    (∀ W, Below w.heap.size w W → Calls Tryd.prog 22 #[.int .i64 n, .int .i64 h, .int .i64 pc] W fun e w' => e = .returned (.tuple #[.int .i64 m, ev]) ∧ Below W.heap.size W w') ∧
    (∀ W, Calls Tryd.prog 23 #[.int .i64 n, .int .i64 h, .int .i64 pc] W fun e w' => e = .returned (.tuple #[.int .i64 m, .int .i64 e0]) ∧ w' = W) ∧
    (∀ W, Below w.heap.size w W → Calls Tryd.prog 14 #[ev, .int .i64 e0] W fun e w' => e = .returned (.bool true) ∧ Below W.heap.size W w') := by
  by_cases hi : CapIn n h pc
  · obtain ⟨h1, h2, h3, h4, h5, h6⟩ := hi
    obtain ⟨K, rfl⟩ := Int.eq_ofNat_of_zero_le h1
    obtain ⟨H, rfl⟩ := Int.eq_ofNat_of_zero_le (show 0 ≤ h by omega)
    obtain ⟨p, rfl⟩ := Int.eq_ofNat_of_zero_le h5
    exact ⟨(Lh.capN K H p : Nat), 0, .nilIface, fun W _ => hC.capG K H p W (by omega) (by omega) (by omega) (by omega), fun W => capOf_good K H p W (by omega) (by omega) (by omega) (by omega), fun W _ => coded_nil W⟩
  · exact ⟨0, 2, _, fun W hW => hC.capB a n h pc W (he.later hW).one hi, fun W => capOf_bad n h pc W hi, fun W hW => coded_bound a W (he.later hW)⟩
/-- FillPlaces of any arguments. -/
theorem fplaces_any (hC : FillC) (a : Nat → Addr) (lv kv : Value) (xs : List ByteArray) (ks : List Nat) (cn pc n h : Int) (w : World) (he : Errs a w) (hl : Strs1 w lv xs) (hk : Keys1 w kv ks) (hku : ∀ z ∈ ks, z < 18446744073709551616) (hkl : ks.length ≤ maxLen) (hsz : ∀ k (h : k < xs.length), (xs[k]).size ≤ maxLen) (hlen : xs.length ≤ maxLen) :
    Calls Tryd.prog 6 #[lv, .int .i64 cn, kv, .int .i64 pc, .int .i64 n, .int .i64 h] w fun e w' => e = .returned (.bool true) ∧ Below w.heap.size w w' := by
  by_cases hs : Short xs
  · obtain ⟨kp, kc, rfl, _⟩ := hk.at
    by_cases hearly : (40 < ks.length ∧ ks.length ≤ 500) ∨ 600 < ks.length
    · exact fp_early hC a lv kp ks.length kc cn pc n h w he.four hkl (fun W hW => long_short lv xs W (hl.later hW).strs hs) hearly
    · obtain ⟨m, e0, ev, h1, h2, h3⟩ := cap_ways hC a n h pc w he
      obtain ⟨cc, pl, hf⟩ := plFault_ex xs cn ks pc
      by_cases hcc : cc = 0
      · subst hcc
        obtain ⟨_, h0, _, hf0, hk5, hnd, ⟨c, rfl, hc1, hc16⟩, p, rfl, hp⟩ := plFault_zero hf
        exact fp_good hC a lv kp kc xs ks c p n h w he hl hs hk hku (by omega) h0 hf0 hnd hc1 hc16 hp m e0 ev h1 h2 h3
      · by_cases h40 : ks.length ≤ 40
        · exact fp_bad hC a lv kp kc xs ks cn pc n h w he hl hs hk hku h40 cc pl hf hcc m e0 ev h1 h2 h3
        · exact fp_badL hC a lv kp kc xs ks cn pc n h w he hl hs hk hku (by omega) (by omega) cc pl hf hcc m e0 ev h1 h2 h3
  · exact fp_long hC a lv kv cn pc n h w he.four (fun W hW => long_not lv xs W (hl.later hW).strs hsz hlen hs)
end Go.Proofs.YtepclafmkhphbabDoor
