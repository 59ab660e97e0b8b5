/- RingHosts: all its ways. -/
import Derived.Test.YtedbhahkldfmiaaDoorRKeys
import Derived.Test.YtedbhahkldfmiaaDoorRLong
import Derived.Test.YtedbhahkldfmiaaDoorRRef2
import Derived.Test.YtedbhahkldfmiaaDoorRNext
import Derived.Deep.RegionHeld3
namespace Go.Proofs.YtedbhahkldfmiaaDoor
open Go.RowKit

set_option maxRecDepth 100000 in
set_option maxHeartbeats 2000000 in
theorem hosts_long (a : Nat → Addr) (lv kv : Value) (n many : Int) (w : World) (he : Errs4 a w)
    (hlong : ∀ W, Below w.heap.size w W → Calls Tryd.prog 17 #[lv] W fun e w' => e = .returned (.int .i64 1) ∧ w' = W) :
    Calls Tryd.prog 9 #[lv, .int .i64 n, kv, .int .i64 many] w fun e w' => e = .returned (.bool true) ∧ Below w.heap.size w w' := by
  have hrg := ringed_any a w he
  clear he
  go_enter Tryd.func9, Tryd.ntmps9
  go_wp2_with fail
  refine hrg.mono ?_
  rintro e w1 ⟨rfl, hb1⟩
  clear hrg
  go_wp2_with fail
  refine (hlong _ hb1).mono ?_
  rintro e w1' ⟨rfl, rfl⟩
  go_wp2
  go_ret
  exact ⟨rfl, hb1⟩
set_option maxRecDepth 100000 in
set_option maxHeartbeats 2000000 in
theorem hosts_early (a : Nat → Addr) (lv : Value) (kp : Option Addr) (kn kc : Nat) (n many : Int) (w : World) (he : Errs4 a w) (_hkn : kn ≤ maxLen)
    (hlong : ∀ W, Below w.heap.size w W → Calls Tryd.prog 17 #[lv] W fun e w' => e = .returned (.int .i64 0) ∧ w' = W) (h : 30 < kn) :
    Calls Tryd.prog 9 #[lv, .int .i64 n, .slice kp kn kc, .int .i64 many] w fun e w' => e = .returned (.bool true) ∧ Below w.heap.size w w' := by
  have hrg := ringed_any a w he
  have e1 : decide (30 < (kn : Int)) = true := by simp; omega
  clear he
  go_enter Tryd.func9, Tryd.ntmps9
  go_wp2_with fail
  refine hrg.mono ?_
  rintro e w1 ⟨rfl, hb1⟩
  clear hrg
  go_wp2_with fail
  refine (hlong _ hb1).mono ?_
  rintro e w1' ⟨rfl, rfl⟩
  go_wp2
  go_ret
  exact ⟨rfl, hb1⟩

set_option maxRecDepth 100000 in
set_option maxHeartbeats 2000000 in
theorem hosts_bad (a : Nat → Addr) (lv : Value) (kp : Option Addr) (kn kc : Nat) (xs : List ByteArray) (n many : Int) (w : World) (he : Errs a w) (hl : Strs1 w lv xs) (hs : Short xs) (hkn : kn ≤ 30) (cc : Nat) (pl : Int) (hf : RngFault xs n cc pl) (hcc : cc ≠ 0) :
    Calls Tryd.prog 9 #[lv, .int .i64 n, .slice kp kn kc, .int .i64 many] w fun e w' => e = .returned (.bool true) ∧ Below w.heap.size w w' := by
  have hrg := ringed_any a w he.four
  have h30 := hs.1
  have e4 : decide (30 < (kn : Int)) = false := by simp; omega
  have hc0 : decide (0 < (cc : Int)) = true := by simp; omega
  have hlong : ∀ W, Below w.heap.size w W → Calls Tryd.prog 17 #[lv] W fun e w' => e = .returned (.int .i64 0) ∧ w' = W := fun W hW => long_short lv xs W (hl.later hW).strs hs
  have HL : Hid (Strs1 w lv xs) := hl
  have HE : Hid (Errs a w) := he
  have HF : Hid (RngFault xs n cc pl) := hf
  have HS : Hid (∀ k (h : k < xs.length), (xs[k]).size ≤ 60) := hs.2
  clear hl he hf hs
  go_enter Tryd.func9, Tryd.ntmps9
  go_wp2_with fail
  refine hrg.mono ?_
  rintro e w1 ⟨rfl, hb1⟩
  clear hrg
  go_wp2_with fail
  refine (hlong _ hb1).mono ?_
  rintro e w1' ⟨rfl, rfl⟩
  clear hlong
  go_wp2_with fail
  refine (ownTexts_any _ xs w1' (HL.out.later hb1) (by omega)).mono ?_
  rintro e w2 ⟨v2, rfl, hv2, hb2⟩
  have hbw2 : Below w.heap.size w w2 := below_then hb1 hb2
  go_wp2_with fail
  refine (new_bad a v2 xs n w2 cc pl (HE.out.later hbw2).four hv2 HF.out hcc (fun k h => Nat.le_trans (HS.out k h) (by decide)) (by omega)).mono ?_
  rintro e w3 ⟨ev, rfl, hev, hb3⟩
  have hbw3 : Below w.heap.size w w3 := below_then hbw2 hb3
  have HEV : Hid (ErrIs a w3 cc pl ev) := hev
  clear hb1 hb2 hb3 hv2 hbw2 hev
  go_wp2_with fail
  refine (ringFault_any lv xs n w3 cc pl (HL.out.later hbw3) HF.out (fun k h => Nat.le_trans (HS.out k h) (by decide)) (by omega)).mono ?_
  rintro e w4 ⟨rfl, hb4⟩
  have hbw4 : Below w.heap.size w w4 := below_then hbw3 hb4
  have hbA := (Below.refl w4.heap.size w4).alloc (Nat.le_refl _) (.cells #[.int .i64 (cc : Nat), .int .i64 pl] 42)
  have hbw5 : Below w.heap.size w (w4.alloc (.cells #[.int .i64 (cc : Nat), .int .i64 pl] 42)) := below_then hbw4 hbA
  have hfl := faulted_is (HE.out.later hbw5) ((HEV.out.later hb4).later hbA)
  clear hb4 hbA
  go_wp2_with fail
  refine hfl.mono ?_
  rintro e w6 ⟨rfl, hb6⟩
  have hbz : Below w.heap.size w w6 := below_then hbw5 hb6
  clear hfl hb6 hbw5
  go_wp2
  go_ret
  exact ⟨rfl, hbz⟩

set_option maxRecDepth 100000 in
set_option maxHeartbeats 4000000 in
theorem hosts_good (a : Nat → Addr) (b o cap : Nat) (kp : Option Addr) (kc : Nat) (xs : List ByteArray) (ks : List Nat) (c : Nat) (many : Int) (w : World) (he : Errs a w) (hl : Strs1 w (.slice (some ⟨b, o, none⟩) xs.length cap) xs) (hx : ∀ k (h : k < xs.length), w.cell? ⟨b, o + k, none⟩ = some (.string xs[k])) (hs : Short xs) (h0 : 0 < xs.length)
    (hk : ∀ k (h : k < ks.length), ∃ b o, kp = some ⟨b, o, none⟩ ∧ w.cell? ⟨b, o + k, none⟩ = some (.int .u64 (ks[k] : Nat))) (hk30 : ks.length ≤ 30) (hm2 : many ≤ 9223372036854775807) (hf : IsFault xs 0 (-1)) (hc1 : 1 ≤ c) (hc : c ≤ 16) :
    Calls Tryd.prog 9 #[.slice (some ⟨b, o, none⟩) xs.length cap, .int .i64 (c : Nat), .slice kp ks.length kc, .int .i64 many] w fun e w' => e = .returned (.bool true) ∧ Below w.heap.size w w' := by
  have hrg := ringed_any a w he.four
  obtain ⟨_, h12, _⟩ := fault0 hf
  have e4 : decide (30 < (ks.length : Int)) = false := by simp; omega
  have hlong : ∀ W, Below w.heap.size w W → Calls Tryd.prog 17 #[.slice (some ⟨b, o, none⟩) xs.length cap] W fun e w' => e = .returned (.int .i64 0) ∧ w' = W := fun W hW => long_short _ xs W (hl.later hW).strs hs
  have HL : Hid (Strs1 w (.slice (some ⟨b, o, none⟩) xs.length cap) xs) := hl
  have HX : Hid (∀ k (h : k < xs.length), w.cell? ⟨b, o + k, none⟩ = some (.string xs[k])) := hx
  have HK : Hid (∀ k (h : k < ks.length), ∃ b o, kp = some ⟨b, o, none⟩ ∧ w.cell? ⟨b, o + k, none⟩ = some (.int .u64 (ks[k] : Nat))) := hk
  have HE : Hid (Errs a w) := he
  have HF : Hid (IsFault xs 0 (-1)) := hf
  have HS : Hid (∀ k (h : k < xs.length), (xs[k]).size ≤ 60) := hs.2
  have hbl : b < w.heap.size := World.block_lt_of_cell? w ⟨b, o + 0, none⟩ (hx 0 h0)
  clear hl hx hk he hf hs
  go_enter Tryd.func9, Tryd.ntmps9
  go_wp2_with fail
  refine hrg.mono ?_
  rintro e w1 ⟨rfl, hb1⟩
  clear hrg
  go_wp2_with fail
  refine (hlong _ hb1).mono ?_
  rintro e w1' ⟨rfl, rfl⟩
  clear hlong
  go_wp2_with fail
  refine (ownTexts_any _ xs w1' (HL.out.later hb1) (by omega)).mono ?_
  rintro e w2 ⟨v2, rfl, hv2, hb2⟩
  have hbw2 : Below w.heap.size w w2 := below_then hb1 hb2
  go_wp2_with fail
  refine (new_good a v2 xs c w2 (HE.out.later hbw2).four hv2 h0 HF.out (fun k h => Nat.le_trans (HS.out k h) (by decide)) hc1 hc).mono ?_
  rintro e w3 ⟨ra, blka, capa, P, rfl, hRa, hI, hb3⟩
  have hbw3 : Below w.heap.size w w3 := below_then hbw2 hb3
  obtain ⟨p0, pl⟩ := ring_pos hI h0 h12 hc1 hc
  clear hb1 hb2 hb3 hv2 hbw2
  have hrf := ringFault_any _ xs (c : Nat) w3 0 (-1) (HL.out.later hbw3) (Or.inr (Or.inr ⟨h0, HF.out, Or.inr ⟨c, rfl, hc1, hc, rfl⟩, rfl⟩)) (fun k h => Nat.le_trans (HS.out k h) (by decide)) (by omega)
  go_wp2_with fail
  refine hrf.mono ?_
  rintro e w4 ⟨rfl, hb4⟩
  have hbA := (Below.refl w4.heap.size w4).alloc (Nat.le_refl _) (.cells #[.int .i64 0, .int .i64 (-1)] 42)
  have hb5 : Below w3.heap.size w3 (w4.alloc (.cells #[.int .i64 0, .int .i64 (-1)] 42)) := below_then hb4 hbA
  have hbw5 : Below w.heap.size w (w4.alloc (.cells #[.int .i64 0, .int .i64 (-1)] 42)) := below_then hbw3 hb5
  have hro := ringOf_any b o cap xs c _ (fun k h => below_cell hbw5 (HX.out k h)) (Nat.lt_of_lt_of_le hbl hbw5.size) h12 h0 hc1 hc (fun k h => Nat.le_trans (HS.out k h) (by decide))
  clear hrf hb4 hbA
  go_wp2_with fail
  refine hro.mono ?_
  rintro e w6 ⟨rm, blkm, capm, rfl, hRm, hb6⟩
  have hb36 : Below w3.heap.size w3 w6 := below_then hb5 hb6
  have hbw6 : Below w.heap.size w w6 := below_then hbw5 hb6
  have HAN : Hid (∀ W, Below w6.heap.size w6 W → ∀ z, Answers W ra z (Lh.hostsF (Lh.turn z) P)) := fun W hW z => answers ((hRa.later hb36).later hW) hI.2 pl p0 z
  have hptl : (Lh.pts c xs).length < 1000000 := by rw [← hI.1.length_eq]; exact pl
  have HREF : Hid (∀ z W, Below w6.heap.size w6 W → ∀ mm : Int, Calls Tryd.prog 46 #[.pointer (some ⟨rm, 0, none⟩), .int .u64 (z : Nat), .int .i64 mm] W fun e w' => ∃ v, e = .returned v ∧ Strs1 w' v ((Lh.hostsF (Lh.turn z) P).take mm.toNat) ∧ Below W.heap.size W w') := fun z W hW mm =>
    (nextOf_any rm blkm capm (Lh.pts c xs) (Lh.rot (Lh.turn z) P) z mm W (hRm.later hW) ((Lh.rot_perm _ _).trans hI.1) (Lh.rot_sorted hI.2) hptl).mono fun _ _ ⟨v, h1, h2, h3⟩ => ⟨v, h1, h2, h3⟩
  have HONE : Hid (∀ z, ∃ y, (Lh.hostsF (Lh.turn z) P)[0]? = some y ∧ (Lh.hostsF (Lh.turn z) P).take 1 = [y]) := fun z => by
    have hh := Lh.hosts_head (f := Lh.turn z) hI.2 p0
    refine ⟨_, hh, ?_⟩
    generalize (P[Lh.start (Lh.turn z) P]'(Lh.start_lt p0)).2 = y at hh
    generalize Lh.hostsF (Lh.turn z) P = D at hh
    match D, hh with
    | d :: T, hh => simpa using hh
  have HLEN : Hid (∀ z, (Lh.hostsF (Lh.turn z) P).length < 1000000) := fun z => by
    have := Lh.dd_length_le (Lh.rot (Lh.turn z) P) []
    rw [Lh.rot_length] at this
    unfold Lh.hostsF
    simp at this
    omega
  clear hro hRa hRm hI p0 pl hptl hb36 hb5 hb6 hbw5 hbw3
  go_wp2_with fail
  go_loopw [14] (fun t W => Below w6.heap.size w6 W ∧ ∃ k : Nat, k ≤ ks.length ∧ t = .int .i64 k) (fun t _ => ks.length - (intOf t).toNat)
  case atStart => exact ⟨Below.refl _ _, 0, Nat.zero_le _, rfl⟩
  case round =>
    obtain ⟨hb, k, hkk, rfl⟩ := hrel
    by_cases hlt : k < ks.length
    · obtain ⟨bk, ok, rfl, hck⟩ := HK.out k hlt
      have hki : (k : Int) < (ks.length : Int) := by omega
      have HCK : Hid (∀ W, Below w6.heap.size w6 W → W.cell? ⟨bk, ok + k, none⟩ = some (.int .u64 (ks[k] : Nat))) := fun W hW => below_cell (below_then hbw6 hW) hck
      have AA := fun W hW => HAN.out W hW ks[k]
      have hRf := HREF.out ks[k]
      obtain ⟨y0, hy0, hy1⟩ := HONE.out ks[k]
      have hDl := HLEN.out ks[k]
      generalize Lh.hostsF (Lh.turn ks[k]) P = D at *
      generalize ks[k] = z at *
      have HR1 : Hid (∀ W, Below w6.heap.size w6 W → Calls Tryd.prog 46 #[.pointer (some ⟨rm, 0, none⟩), .int .u64 (z : Nat), .int .i64 many] W fun e w' => ∃ v, e = .returned v ∧ Strs1 w' v (D.take many.toNat) ∧ Below W.heap.size W w') := fun W hW => hRf W hW many
      have HR2 : Hid (∀ W, Below w6.heap.size w6 W → Calls Tryd.prog 46 #[.pointer (some ⟨rm, 0, none⟩), .int .u64 (z : Nat), .int .i64 1] W fun e w' => ∃ v, e = .returned v ∧ Strs1 w' v [y0] ∧ Below W.heap.size W w') := fun W hW => by
        have := hRf W hW 1
        rw [show Int.toNat 1 = 1 from rfl, hy1] at this
        exact this
      have HN : Hid (∀ V, Below w6.heap.size w6 V → ∀ W, Below V.heap.size V W → Calls Tryd.prog 47 #[.pointer (some ⟨ra, 0, none⟩), .int .u64 (z : Nat), .int .i64 many] W fun e w' => ∃ v, e = .returned v ∧ Strs1 w' v (D.take many.toNat) ∧ Below V.heap.size V w') := fun V hV W hW => (AA V hV).next W hW many hm2
      have HH : Hid (∀ V, Below w6.heap.size w6 V → ∀ W, Below V.heap.size V W → Calls Tryd.prog 48 #[.pointer (some ⟨ra, 0, none⟩), .int .u64 (z : Nat)] W fun e w' => e = .returned (.string y0) ∧ Below V.heap.size V w') := fun V hV W hW => ((AA V hV).host W hW).mono fun _ _ ⟨x, h1, h2, h3⟩ => ⟨by rw [hy0] at h2; rw [h1, Option.some.inj h2], h3⟩
      have hTl : (D.take many.toNat).length < 1000000 := by rw [List.length_take]; omega
      have c1 := HCK.out wr hb
      clear AA hRf hy0 hy1 hDl hck
      generalize D.take many.toNat = T at *
      have hyy : (y0.toList == y0.toList) = true := bytes_same rfl
      go_wp2_with fail
      refine (HR1.out _ hb).mono ?_
      rintro e w7 ⟨v7, rfl, hv7, hb7'⟩
      have hb7 : Below w6.heap.size w6 w7 := below_then hb hb7'
      have c2 := HCK.out w7 hb7
      clear hb7'
      go_wp2_with fail
      refine (HR2.out _ hb7).mono ?_
      rintro e w8 ⟨v8, rfl, hv8, hb8'⟩
      have hb8 : Below w6.heap.size w6 w8 := below_then hb7 hb8'
      have hv7' := hv7.later hb8'
      obtain ⟨b8, o8, cp8, rfl, hc8⟩ := strsPos hv8 (by simp)
      have d8 : w8.cell? ⟨b8, o8, none⟩ = some (.string y0) := hc8 0 (by simp)
      have HKC : Hid (∀ W, Below w8.heap.size w8 W → Below w8.heap.size w8 W ∧ W.cell? ⟨bk, ok + k, none⟩ = some (.int .u64 (z : Nat)) ∧ W.cell? ⟨b8, o8, none⟩ = some (.string y0)) := fun W hW => ⟨hW, HCK.out W (below_then hb8 hW), below_cell hW d8⟩
      have HN8 : Hid (∀ W, Below w8.heap.size w8 W → Calls Tryd.prog 47 #[.pointer (some ⟨ra, 0, none⟩), .int .u64 (z : Nat), .int .i64 many] W fun e w' => ∃ v, e = .returned v ∧ Strs1 w' v T ∧ Below w8.heap.size w8 w') := HN.out w8 hb8
      have HH8 : Hid (∀ W, Below w8.heap.size w8 W → Calls Tryd.prog 48 #[.pointer (some ⟨ra, 0, none⟩), .int .u64 (z : Nat)] W fun e w' => e = .returned (.string y0) ∧ Below w8.heap.size w8 w') := HH.out w8 hb8
      have HSM : Hid (∀ W v, Below w8.heap.size w8 W → Strs1 W v T → Calls Tryd.prog 28 #[v, v7] W fun e w' => e = .returned (.bool true) ∧ Below w8.heap.size w8 w') := fun W v hW hv => (sameTexts_any v v7 T T W hv.strs (hv7'.later hW).strs hTl hTl).mono fun _ _ ⟨h1, h2⟩ => ⟨by rw [h1, decide_eq_true rfl], below_then hW h2⟩
      have c3 := HCK.out w8 hb8
      clear hv7 hv7' hv8 hc8 hb8' c1 c2 HN HH HR1 HR2 hb7 hb
      go_wp2_with fail
      go_region_held3 (fun w' => Below w8.heap.size w8 w' ∧ w'.cell? ⟨bk, ok + k, none⟩ = some (.int .u64 (z : Nat)) ∧ w'.cell? ⟨b8, o8, none⟩ = some (.string y0))
        (first | exact HKC.out _ (by assumption) | exact HKC.out _ (below_drewN (Below.refl _ _) 1))
        (first
          | (go_at_call 47; refine (HN8.out _ (by first | assumption | exact below_drewN (Below.refl _ _) 1)).mono ?_; rintro e w' ⟨v, rfl, hvn, hbn⟩)
          | (go_at_call 28; refine (HSM.out _ _ (by assumption) (by assumption)).mono ?_; rintro e w' ⟨rfl, hbm⟩)
          | (go_at_call 48; refine (HH8.out _ (by assumption)).mono ?_; rintro e w' ⟨rfl, hbh⟩))
      all_goals
        go_wp2
        exact ⟨⟨below_then hb8 (by assumption), k + 1, by omega, by go_num⟩, by simp [intOf]; omega⟩
    · go_wp2
      go_ret
      exact ⟨rfl, below_then hbw6 hb⟩
/-- RingHosts of any arguments. -/
theorem hosts_any (a : Nat → Addr) (lv kv : Value) (xs : List ByteArray) (ks : List Nat) (n many : Int) (w : World) (he : Errs a w) (hl : Strs1 w lv xs) (hk : U64s w kv ks) (hkl : ks.length ≤ maxLen) (hsz : ∀ k (h : k < xs.length), (xs[k]).size ≤ maxLen) (hlen : xs.length ≤ maxLen) (hm2 : many ≤ 9223372036854775807) :
    Calls Tryd.prog 9 #[lv, .int .i64 n, kv, .int .i64 many] w fun e w' => e = .returned (.bool true) ∧ Below w.heap.size w w' := by
  by_cases hs : Short xs
  · obtain ⟨kp, kc, rfl, hkc⟩ := hk
    by_cases hearly : 30 < ks.length
    · exact hosts_early a lv kp ks.length kc n many w he.four hkl (fun W hW => long_short lv xs W (hl.later hW).strs hs) hearly
    · obtain ⟨cc, pl, hf⟩ := rngFault_ex xs n
      by_cases hcc : cc = 0
      · subst hcc
        obtain ⟨_, h0, hf0, c, rfl, hc1, hc16⟩ := rngFault_zero hf
        obtain ⟨b, o, cap, rfl, hx⟩ := strsPos hl h0
        exact hosts_good a b o cap kp kc xs ks c many w he hl hx hs h0 hkc (by omega) hm2 hf0 hc1 hc16
      · exact hosts_bad a lv kp ks.length kc xs n many w he hl hs (by omega) cc pl hf hcc
  · exact hosts_long a lv kv n many w he.four (fun W hW => long_not lv xs W (hl.later hW).strs hsz hlen hs)
end Go.Proofs.YtedbhahkldfmiaaDoor
