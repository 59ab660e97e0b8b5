/- RingComes: all its ways. -/
import Derived.Test.YtedbhahkldfmiaaDoorRKeys
import Derived.Test.YtedbhahkldfmiaaDoorRLong
namespace Go.Proofs.YtedbhahkldfmiaaDoor
open Go.RowKit

set_option maxHeartbeats 1000000 in
theorem ownTexts_own (v : Value) (xs : List ByteArray) (w : World) (hv : Strs1 w v xs) (hm : xs.length < 1000000) :
    Calls Tryd.prog 25 #[v] w fun e w' => ∃ v', e = .returned v' ∧ w'.ownsRow w.heap.size 9 1 v' xs.length (xs.map Value.string) ∧ Below w.heap.size w w' := by
  obtain ⟨i, hi, hz0, hz1, hz2⟩ := info_parts infoS
  have hmax : 0 + xs.length ≤ maxLen := by unfold maxLen; omega
  rcases hv with ⟨rfl, rfl | ⟨ad, c, rfl⟩⟩ | ⟨b, o, c, rfl, hcap, hx⟩
  · go_enter Tryd.func25, Tryd.ntmps25
    go_wp2_with (at_builtin; refine wpList_append_own_none rfl _ _ 35 rfl w.heap.size 9 i 1 Tryd.underlying35 hi (.slice none 0 0) 0 _ rfl (owns_nil w _ _) rfl ?_)
    go_ret
    exact ⟨_, rfl, owns_nil w _ _, Below.refl _ _⟩
  · have hn : ([] : List ByteArray).map Value.string = [] := rfl
    have hnews : ∀ j u, (([] : List ByteArray).map Value.string)[j]? = some u → w.cell? (ad.add j) = some u := fun j u h => by simp at h
    go_enter Tryd.func25, Tryd.ntmps25
    go_wp2_with fail
    go_ret
    exact ⟨_, rfl, owns_nil w _ _, Below.refl _ _⟩
  · have hnews := cells_strs hx
    go_enter Tryd.func25, Tryd.ntmps25
    go_wp2_with (at_builtin; refine wpList_append_own w rfl _ _ 35 rfl w.heap.size 9 i _ 1 16 Tryd.underlying35 hi hz0 hz1 hz2 rfl (by decide) (.slice none 0 0) 0 _ rfl (owns_nil w _ _) ⟨b, o, none⟩ xs.length c (xs.map Value.string) rfl (by simp) hnews (strs_oneCell xs) hmax (by omega) (Nat.le_refl _) ?_)
    intro v' w' hown hg _
    go_wp2
    go_ret
    refine ⟨_, rfl, by simpa using hown, below_grown hg (fun k h => by cases h)⟩

/-- New of any hosts and any copies: nothing and an error, or a ring and none. -/
def NewIs (xs : List ByteArray) (n : Int) (w' : World) (p ev : Value) : Prop :=
  (p = .pointer none ∧ ∃ t x, ev = .iface t x) ∨ ∃ (c rb blk cap : Nat) (P : List Lh.Pt), p = .pointer (some ⟨rb, 0, none⟩) ∧ ev = .nilIface ∧ n = c ∧ 1 ≤ c ∧ c ≤ 16 ∧ IsFault xs 0 (-1) ∧ RingBlk w' rb blk cap P ∧ Lh.IsRing c xs P ∧ 0 < P.length ∧ P.length < 1000000
theorem new_is (a : Nat → Addr) (v : Value) (xs : List ByteArray) (n : Int) (w : World) (he : Errs4 a w) (hv : Strs1 w v xs) (hsz : ∀ k (h : k < xs.length), (xs[k]).size ≤ 60) (hm : xs.length < 1000000) :
    Calls Tryd.prog 43 #[v, .int .i64 n] w fun e w' => ∃ p ev, e = .returned (.tuple #[p, ev]) ∧ NewIs xs n w' p ev ∧ Below w.heap.size w w' := by
  obtain ⟨cc, pl, hf⟩ := rngFault_ex xs n
  by_cases hcc : cc = 0
  · subst hcc
    obtain ⟨_, h0, hf0, c, rfl, hc1, hc16⟩ := rngFault_zero hf
    refine (new_good a v xs c w he hv h0 hf0 (fun k h => Nat.le_trans (hsz k h) (by decide)) hc1 hc16).mono ?_
    rintro e w' ⟨rb, blk, cap, P, rfl, hR, hI, hb⟩
    obtain ⟨p0, pl'⟩ := ring_pos hI h0 (fault0 hf0).2.1 hc1 hc16
    exact ⟨_, _, rfl, Or.inr ⟨c, rb, blk, cap, P, rfl, rfl, rfl, hc1, hc16, hf0, hR, hI, p0, pl'⟩, hb⟩
  · refine (new_bad a v xs n w cc pl he hv hf hcc (fun k h => Nat.le_trans (hsz k h) (by decide)) hm).mono ?_
    rintro e w' ⟨ev, rfl, hev, hb⟩
    exact ⟨_, _, rfl, Or.inl ⟨rfl, errPos hev hcc⟩, hb⟩

set_option maxRecDepth 100000 in
set_option maxHeartbeats 2000000 in
theorem comes_long (a : Nat → Addr) (lv kv : Value) (s : ByteArray) (n : Int) (w : World) (he : Errs4 a w)
    (hlong : ∀ W, Below w.heap.size w W → Calls Tryd.prog 17 #[lv] W fun e w' => e = .returned (.int .i64 1) ∧ w' = W) :
    Calls Tryd.prog 11 #[lv, .string s, .int .i64 n, kv] w fun e w' => e = .returned (.bool true) ∧ Below w.heap.size w w' := by
  have hrg := ringed_any a w he
  clear he
  go_enter Tryd.func11, Tryd.ntmps11
  go_wp2_with fail
  refine hrg.mono ?_
  rintro e w1 ⟨rfl, hb1⟩
  clear hrg
  go_wp2_with fail
  refine (hlong _ hb1).mono ?_
  rintro e w1' ⟨rfl, rfl⟩
  go_wp2
  go_ret
  exact ⟨rfl, hb1⟩
set_option maxRecDepth 100000 in
set_option maxHeartbeats 2000000 in
theorem comes_early (a : Nat → Addr) (lv : Value) (kp : Option Addr) (kn kc : Nat) (s : ByteArray) (n : Int) (w : World) (he : Errs4 a w) (hs : s.size ≤ maxLen) (_hkn : kn ≤ maxLen)
    (hlong : ∀ W, Below w.heap.size w W → Calls Tryd.prog 17 #[lv] W fun e w' => e = .returned (.int .i64 0) ∧ w' = W) (h : 60 < s.size ∨ 60 < kn) :
    Calls Tryd.prog 11 #[lv, .string s, .int .i64 n, .slice kp kn kc] w fun e w' => e = .returned (.bool true) ∧ Below w.heap.size w w' := by
  have hrg := ringed_any a w he
  clear he
  unfold maxLen at hs
  by_cases h1 : 60 < s.size
  · have e1 : decide (60 < (s.size : Int)) = true := by simp; omega
    clear h
    go_enter Tryd.func11, Tryd.ntmps11
    go_wp2_with fail
    refine hrg.mono ?_
    rintro e w1 ⟨rfl, hb1⟩
    clear hrg
    go_wp2_with fail
    refine (hlong _ hb1).mono ?_
    rintro e w1' ⟨rfl, rfl⟩
    go_wp2
    go_ret
    exact ⟨rfl, hb1⟩
  · have e1 : decide (60 < (s.size : Int)) = false := by simp; omega
    have e2 : decide (60 < (kn : Int)) = true := by simp; omega
    clear h
    go_enter Tryd.func11, Tryd.ntmps11
    go_wp2_with fail
    refine hrg.mono ?_
    rintro e w1 ⟨rfl, hb1⟩
    clear hrg
    go_wp2_with fail
    refine (hlong _ hb1).mono ?_
    rintro e w1' ⟨rfl, rfl⟩
    go_wp2
    go_ret
    exact ⟨rfl, hb1⟩
theorem size_snoc {xs : List ByteArray} {s : ByteArray} (hs : ∀ k (h : k < xs.length), (xs[k]).size ≤ 60) (h : s.size ≤ 60) : ∀ k (h : k < (xs ++ [s]).length), ((xs ++ [s])[k]).size ≤ 60 := by
  intro k hk
  rw [List.getElem_append]
  split
  · exact hs _ _
  · simpa using h
theorem comes_facts {xs : List ByteArray} {s : ByteArray} {c : Nat} {Pa Pb : List Lh.Pt} (hf : IsFault (xs ++ [s]) 0 (-1)) (ha : Lh.IsRing c xs Pa) (hb : Lh.IsRing c (xs ++ [s]) Pb) (pb : 0 < Pb.length) (f : Nat) :
    ∃ y, (Lh.hostsF f Pb)[0]? = some y ∧ (Lh.hostsF f Pb).take 1 = [y] ∧ ∀ x, (Lh.hostsF f Pa)[0]? = some x → y ≠ s → x = y := by
  have hnd := (fault0 hf).2.2
  have hns : ¬ s ∈ xs := fun h => by
    have := (List.nodup_append.1 hnd).2.2 s h s (by simp)
    exact this rfl
  have hh := Lh.hosts_head (f := f) hb.2 pb
  refine ⟨_, hh, ?_, fun x hx hne => ?_⟩
  · generalize (Pb[Lh.start f Pb]'(Lh.start_lt pb)).2 = y at hh
    generalize Lh.hostsF f Pb = D at hh
    match D, hh with
    | d :: T, hh => simpa using hh
  · have hk : Lh.IsRing c ((xs ++ [s]).filter fun z => decide (z ≠ s)) Pa := by rw [Lh.filter_snoc hns]; exact ha
    rw [Lh.ring_less hb hk f] at hx
    exact Lh.comes_head hh hx hne

set_option maxRecDepth 100000 in
set_option maxHeartbeats 4000000 in
theorem comes_core (a : Nat → Addr) (lv : Value) (kp : Option Addr) (kc : Nat) (xs : List ByteArray) (ks : List Nat) (s : ByteArray) (n : Int) (w : World) (he : Errs4 a w) (hl : Strs1 w lv xs) (hs : Short xs)
    (hk : ∀ k (h : k < ks.length), ∃ b o, kp = some ⟨b, o, none⟩ ∧ w.cell? ⟨b, o + k, none⟩ = some (.int .u64 (ks[k] : Nat))) (h60 : ks.length ≤ 60) (hss : s.size ≤ 60) :
    Calls Tryd.prog 11 #[lv, .string s, .int .i64 n, .slice kp ks.length kc] w fun e w' => e = .returned (.bool true) ∧ Below w.heap.size w w' := by
  obtain ⟨i, hi, hz0, hz1, hz2⟩ := info_parts infoS
  have hrg := ringed_any a w he
  have h30 := hs.1
  have e3 : decide (60 < (s.size : Int)) = false := by simp; omega
  have e4 : decide (60 < (ks.length : Int)) = false := by simp; omega
  have hlong : ∀ W, Below w.heap.size w W → Calls Tryd.prog 17 #[lv] W fun e w' => e = .returned (.int .i64 0) ∧ w' = W := fun W hW => long_short lv xs W (hl.later hW).strs hs
  have HL : Hid (Strs1 w lv xs) := hl
  have HK : Hid (∀ k (h : k < ks.length), ∃ b o, kp = some ⟨b, o, none⟩ ∧ w.cell? ⟨b, o + k, none⟩ = some (.int .u64 (ks[k] : Nat))) := hk
  have HE : Hid (Errs4 a w) := he
  have HS : Hid (∀ k (h : k < xs.length), (xs[k]).size ≤ 60) := hs.2
  have HSS : Hid (∀ k (h : k < (xs ++ [s]).length), ((xs ++ [s])[k]).size ≤ 60) := size_snoc hs.2 hss
  clear he hl hs hk
  go_enter Tryd.func11, Tryd.ntmps11
  go_wp2_with fail
  refine hrg.mono ?_
  rintro e w1 ⟨rfl, hb1⟩
  clear hrg
  go_wp2_with fail
  refine (hlong _ hb1).mono ?_
  rintro e w1' ⟨rfl, rfl⟩
  clear hlong
  go_wp2_with fail
  refine (ownTexts_any _ xs w1' (HL.out.later hb1) (by omega)).mono ?_
  rintro e w2 ⟨v2, rfl, hv2, hb2⟩
  have hbw2 : Below w.heap.size w w2 := below_then hb1 hb2
  go_wp2_with fail
  refine (new_is a v2 xs n w2 (HE.out.later hbw2) hv2 HS.out (by omega)).mono ?_
  rintro e w3 ⟨pa, eva, rfl, hNa, hb3⟩
  have hbw3 : Below w.heap.size w w3 := below_then hbw2 hb3
  have HNA : Hid (NewIs xs n w3 pa eva) := hNa
  clear hb1 hb2 hb3 hv2 hbw2 hNa
  go_wp2_with fail
  refine (ownTexts_own _ xs w3 (HL.out.later hbw3) (by omega)).mono ?_
  rintro e w4 ⟨v4, rfl, hown4, hb4⟩
  have hbw4 : Below w.heap.size w w4 := below_then hbw3 hb4
  have hown5 := hown4.alloc (.cells #[.string s] 9)
  have hnews := cells_one (w := w4) (t := 9) s
  have hb5 : Below w3.heap.size w3 (w4.alloc (.cells #[.string s] 9)) := hb4.alloc hb4.size _
  have hmax : xs.length + 1 ≤ maxLen := by unfold maxLen; omega
  clear hown4 hbw4 hb4
  go_wp2_with (at_builtin; refine wpList_append_own _ rfl _ _ 35 rfl w3.heap.size 9 i _ 1 16 Tryd.underlying35 hi hz0 hz1 hz2 rfl (by decide) v4 xs.length _ rfl hown5 ⟨w4.heap.size, 0, none⟩ 1 1 [.string s] rfl rfl hnews (fun u hu => by simp at hu; subst hu; rfl) hmax (by omega) hb5.size ?_)
  intro v6 w6 hown6 hg6 _
  have hlo := hown5.lt
  have hb6 : Below w3.heap.size w3 w6 := hb5.grown hg6 hb5.size (fun k hk => (hlo k hk).1)
  have hst6 : Strs1 w6 v6 (xs ++ [s]) := strs_of_owns (owns_snoc hown6)
  have hbw6 : Below w.heap.size w w6 := below_then hbw3 hb6
  have hnew := new_is a v6 (xs ++ [s]) n w6 (HE.out.later hbw6) hst6 HSS.out (by simp; omega)
  clear hown5 hnews hlo hg6 hown6 hst6 hb5 hmax
  go_wp2_with fail
  refine hnew.mono ?_
  rintro e w7 ⟨pb, evb, rfl, hNb, hb7⟩
  have hbw7 : Below w.heap.size w w7 := below_then hbw6 hb7
  have hb37 : Below w3.heap.size w3 w7 := below_then hb6 hb7
  clear hnew hb6 hb7 hbw6 hbw3
  rcases HNA.out with ⟨rfl, t, x, rfl⟩ | ⟨c, ra, blka, capa, Pa, rfl, rfl, rfl, hc1, hc16, hfa, hRa, hIa, pa0, pal⟩
  · rcases hNb with ⟨rfl, t', x', rfl⟩ | ⟨c', rb, blkb, capb, Pb, rfl, rfl, rfl, _, _, _, _, _, _, _⟩
    · go_wp2
      go_ret
      exact ⟨rfl, hbw7⟩
    · go_wp2
      go_ret
      exact ⟨rfl, hbw7⟩
  · rcases hNb with ⟨rfl, t', x', rfl⟩ | ⟨c', rb, blkb, capb, Pb, rfl, rfl, hcc', hc1', hc16', hfb, hRb, hIb, pb0, pbl⟩
    · clear hIa hRa
      go_wp2
      go_ret
      exact ⟨rfl, hbw7⟩
    · obtain rfl : c = c' := by omega
      have HAN : Hid (∀ z, Answers w7 ra z (Lh.hostsF (Lh.turn z) Pa) ∧ Answers w7 rb z (Lh.hostsF (Lh.turn z) Pb)) := fun z => ⟨answers (hRa.later hb37) hIa.2 pal pa0 z, answers hRb hIb.2 pbl pb0 z⟩
      have HWO : Hid (∀ z, ∃ y, (Lh.hostsF (Lh.turn z) Pb)[0]? = some y ∧ (Lh.hostsF (Lh.turn z) Pb).take 1 = [y] ∧ ∀ x, (Lh.hostsF (Lh.turn z) Pa)[0]? = some x → y ≠ s → x = y) := fun z => comes_facts hfb hIa hIb pb0 (Lh.turn z)
      clear hfa hRa hIa pa0 pal hfb hRb hIb pb0 pbl hcc' hc1' hc16'
      clear HNA
      go_wp2_with fail
      go_loopw [14] (fun t W => Below w7.heap.size w7 W ∧ ∃ k : Nat, k ≤ ks.length ∧ t = .int .i64 k) (fun t _ => ks.length - (intOf t).toNat)
      case atStart => exact ⟨Below.refl _ _, 0, Nat.zero_le _, rfl⟩
      case round =>
        obtain ⟨hb, k, hkk, rfl⟩ := hrel
        by_cases hlt : k < ks.length
        · obtain ⟨bk, ok, rfl, hck⟩ := HK.out k hlt
          have hki : (k : Int) < (ks.length : Int) := by omega
          have HCK : Hid (∀ W, Below w7.heap.size w7 W → W.cell? ⟨bk, ok + k, none⟩ = some (.int .u64 (ks[k] : Nat))) := fun W hW => below_cell (below_then hbw7 hW) hck
          obtain ⟨AA, AB⟩ := HAN.out ks[k]
          obtain ⟨y0, hy0, hy1, hxy⟩ := HWO.out ks[k]
          have hA := AA.host
          have hB := AB.host
          have hN := fun W hW => AB.next W hW 1 (by decide)
          have hone : Int.toNat 1 = 1 := rfl
          rw [hone, hy1] at hN
          clear AA AB hy1 hone
          generalize Lh.hostsF (Lh.turn ks[k]) Pb = Db at *
          generalize Lh.hostsF (Lh.turn ks[k]) Pa = Da at *
          generalize ks[k] = z at *
          have HA : Hid (∀ W, Below w7.heap.size w7 W → Calls Tryd.prog 48 #[.pointer (some ⟨ra, 0, none⟩), .int .u64 (z : Nat)] W fun e w' => ∃ x, e = .returned (.string x) ∧ (y0 ≠ s → x = y0) ∧ Below w7.heap.size w7 w') := fun W hW => (hA W hW).mono fun _ _ ⟨x, h1, h2, h3⟩ => ⟨x, h1, hxy x h2, h3⟩
          have HB : Hid (∀ W, Below w7.heap.size w7 W → Calls Tryd.prog 48 #[.pointer (some ⟨rb, 0, none⟩), .int .u64 (z : Nat)] W fun e w' => e = .returned (.string y0) ∧ Below w7.heap.size w7 w') := fun W hW => (hB W hW).mono fun _ _ ⟨x, h1, h2, h3⟩ => ⟨by rw [hy0] at h2; rw [h1, Option.some.inj h2], h3⟩
          have HN : Hid (∀ W, Below w7.heap.size w7 W → Calls Tryd.prog 47 #[.pointer (some ⟨rb, 0, none⟩), .int .u64 (z : Nat), .int .i64 1] W fun e w' => ∃ v, e = .returned v ∧ Strs1 w' v [y0] ∧ Below w7.heap.size w7 w') := hN
          have c1 := HCK.out wr hb
          clear hA hB hN hxy hy0 hck
          have hyy : (y0.toList == y0.toList) = true := bytes_same rfl
          go_wp2_with fail
          refine (HA.out _ hb).mono ?_
          rintro e w8 ⟨x0, rfl, hxs, hb8⟩
          have c2 := HCK.out w8 hb8
          go_wp2_with fail
          refine (HB.out _ hb8).mono ?_
          rintro e w9 ⟨rfl, hb9⟩
          have c3 := HCK.out w9 hb9
          have HC : Hid (x0 = y0 ∨ (x0 ≠ y0 ∧ y0 = s)) := by
            by_cases h : x0 = y0
            · exact Or.inl h
            · exact Or.inr ⟨h, Classical.byContradiction fun h' => h (hxs h')⟩
          clear hxs c1 c2
          rcases HC.out with rfl | ⟨hne, rfl⟩
          · go_wp2_with fail
            refine (HN.out _ hb9).mono ?_
            rintro e w10 ⟨v10, rfl, hv10, hb10⟩
            obtain ⟨b9, o9, cp9, rfl, hc9⟩ := strsPos hv10 (by simp)
            have d0 : w10.cell? ⟨b9, o9, none⟩ = some (.string x0) := hc9 0 (by simp)
            clear hc9 hv10 c3
            go_wp2_with fail
            exact ⟨⟨hb10, k + 1, by omega, by go_num⟩, by simp [intOf]; omega⟩
          · have hnf : (x0.toList == y0.toList) = false := bytes_parts hne
            clear hne
            go_wp2_with fail
            refine (HN.out _ hb9).mono ?_
            rintro e w10 ⟨v10, rfl, hv10, hb10⟩
            obtain ⟨b9, o9, cp9, rfl, hc9⟩ := strsPos hv10 (by simp)
            have d0 : w10.cell? ⟨b9, o9, none⟩ = some (.string y0) := hc9 0 (by simp)
            clear hc9 hv10 c3
            go_wp2_with fail
            exact ⟨⟨hb10, k + 1, by omega, by go_num⟩, by simp [intOf]; omega⟩
        · go_wp2
          go_ret
          exact ⟨rfl, below_then hbw7 hb⟩
/-- RingComes of any arguments. -/
theorem comes_any (a : Nat → Addr) (lv kv : Value) (xs : List ByteArray) (ks : List Nat) (s : ByteArray) (n : Int) (w : World) (he : Errs4 a w) (hl : Strs1 w lv xs) (hk : U64s w kv ks) (hkl : ks.length ≤ maxLen) (hsz : ∀ k (h : k < xs.length), (xs[k]).size ≤ maxLen) (hlen : xs.length ≤ maxLen) (hss : s.size ≤ maxLen) :
    Calls Tryd.prog 11 #[lv, .string s, .int .i64 n, kv] w fun e w' => e = .returned (.bool true) ∧ Below w.heap.size w w' := by
  by_cases hs : Short xs
  · obtain ⟨kp, kc, rfl, hkc⟩ := hk
    by_cases hearly : 60 < s.size ∨ 60 < ks.length
    · exact comes_early a lv kp ks.length kc s n w he hss hkl (fun W hW => long_short lv xs W (hl.later hW).strs hs) hearly
    · exact comes_core a lv kp kc xs ks s n w he hl hs hkc (by omega) (by omega)
  · exact comes_long a lv kv s n w he (fun W hW => long_not lv xs W (hl.later hW).strs hsz hlen hs)
end Go.Proofs.YtedbhahkldfmiaaDoor
