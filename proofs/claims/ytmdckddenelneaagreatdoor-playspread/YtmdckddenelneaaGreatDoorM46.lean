/- A list of texts among the arguments, as it is read. -/
import Derived.Test.YtmdckddenelneaaGreatDoorM43
import Derived.Test.YtmdckddenelneaaGreatDoorM4
import Derived.SliceStrings
import Derived.ChangeSlices
import Derived.Test.YtmdckddenelneaaGreatDoorM42
import Derived.Test.YtmdckddenelneaaGreatDoorM39
import Derived.Deep.RegionHeld3
import Derived.Test.YtmdckddenelneaaGreatDoorMake
import Derived.Test.YtmdckddenelneaaGreatDoorM19
import Derived.Test.YtmdckddenelneaaGreatDoorM41
import Derived.Test.YtmdckddenelneaaGreatDoorM17
import Derived.Test.YtmdckddenelneaaGreatDoorM3
namespace Go.Proofs.YtmdckddenelneaaGreatDoor
open Go.ChangeShapes Go.WideShapes Go.ChangeAt Go.RowKit
open Go.ChangeMaps (open_string shut_string)

theorem open_texts {H : Type} {enc : TypeId × Value → H} {W : World} {v : Value} {fuel : Nat} {x : DataW H × List MemPlace} {a0 : Option Addr} {len cap : Nat} (hv : v = .slice a0 len cap)
    (hf : DataW.trod enc Tryz.prog W 0 (fun _ => true) true fuel 22 [.slice a0 len cap] = some x) :
    ∃ xs : List ByteArray, Strs1 W v xs ∧ (∀ k (h : k < xs.length), (xs[k]).size ≤ maxLen) ∧ xs.length ≤ maxLen := by
  subst hv
  rcases open_strings Tryz.underlying22 Tryz.underlying9 cellsS hf with ⟨hcs, _⟩ | ⟨a, len', cap', ss, hcs, _, hl, hm, hz, _, hcell, hws⟩
  · simp at hcs
    obtain ⟨rfl, rfl, rfl⟩ := hcs
    exact ⟨[], Or.inl ⟨rfl, Or.inl rfl⟩, fun k h => absurd h (by simp), by simp⟩
  · simp at hcs
    obtain ⟨rfl, rfl, rfl⟩ := hcs
    simp only [if_true] at hz
    have hlen : (ss.take len).length = len := by simp; omega
    refine ⟨ss.take len, ?_, fun k h => hws _ (List.mem_of_mem_take (List.getElem_mem h)), by omega⟩
    rcases Nat.eq_zero_or_pos len with h0 | h0
    · subst h0
      exact Or.inl ⟨by simp, Or.inr ⟨_, _, rfl⟩⟩
    · obtain ⟨b, off, spot⟩ := a
      have hspot : spot = none := by simpa [Addr.add] using World.cell?_spot (hcell 0 (by omega))
      subst hspot
      refine Or.inr ⟨b, off, cap, by rw [hlen], by omega, fun k h => ?_⟩
      have hk : k < ss.length := by omega
      have := hcell k hk
      rw [Addr.add_lit] at this
      rw [this]
      simp [List.getD, hk]
end Go.Proofs.YtmdckddenelneaaGreatDoor

/- Numbers of 64 bits among the arguments. -/
namespace Go.Proofs.YtmdckddenelneaaGreatDoor
open Go.ChangeShapes Go.WideShapes Go.ChangeAt Go.RowKit

theorem cellsU : Tryz.prog.cellsOf 27 = 1 := by kernel_rfl
theorem wf_u64 {n : Int} (h : (Lit.int .u64 n).wf = true) : 0 ≤ n ∧ n < 18446744073709551616 := by
  have := bounds_u64 h
  omega
end Go.Proofs.YtmdckddenelneaaGreatDoor

/- A list of keys as an argument. -/
namespace Go.Proofs.YtmdckddenelneaaGreatDoor
open Go.ChangeShapes Go.WideShapes Go.ChangeAt Go.RowKit
open Go.ChangeMaps (open_string shut_string)

theorem open_keys1 {H : Type} {enc : TypeId × Value → H} {W : World} {v : Value} {fuel : Nat} {x : DataW H × List MemPlace} {a0 : Option Addr} {len cap : Nat} (hv : v = .slice a0 len cap)
    (hf : DataW.trod enc Tryz.prog W 0 (fun _ => true) true fuel 23 [.slice a0 len cap] = some x) :
    ∃ ks : List Nat, Keys1 W v ks ∧ (∀ k (h : k < ks.length), ks[k] < 18446744073709551616) ∧ ks.length ≤ maxLen := by
  subst hv
  rcases open_ints Tryz.underlying23 Tryz.underlying27 cellsU hf with ⟨hcs, _⟩ | ⟨a, len', cap', zs, hcs, _, hl, hm, hz, _, hcell, hws⟩
  · simp at hcs
    obtain ⟨rfl, rfl, rfl⟩ := hcs
    exact ⟨[], Or.inl ⟨rfl, Or.inl rfl⟩, fun k h => absurd h (by simp), by simp⟩
  · simp at hcs
    obtain ⟨rfl, rfl, rfl⟩ := hcs
    simp only [if_true] at hz
    have hlen : ((zs.take len).map Int.toNat).length = len := by simp; omega
    have hget : ∀ k (h : k < ((zs.take len).map Int.toNat).length), ∃ hk : k < zs.length, ((((zs.take len).map Int.toNat)[k] : Nat) : Int) = zs[k] ∧ zs[k] < 18446744073709551616 := fun k h => by
      have hk : k < zs.length := by omega
      obtain ⟨h1, h2⟩ := wf_u64 (hws _ (List.getElem_mem hk))
      refine ⟨hk, ?_, h2⟩
      simp
      omega
    refine ⟨(zs.take len).map Int.toNat, ?_, fun k h => ?_, by omega⟩
    · by_cases h0 : len = 0
      · subst h0
        exact Or.inl ⟨by simp, Or.inr ⟨a, cap, rfl⟩⟩
      · obtain ⟨b, off, spot⟩ := a
        have hspot : spot = none := by simpa [Addr.add] using World.cell?_spot (hcell 0 (by omega))
        subst hspot
        refine Or.inr ⟨b, off, cap, by rw [hlen], by omega, fun k h => ?_⟩
        obtain ⟨hk, e, _⟩ := hget k h
        have := hcell k hk
        rw [Addr.add_lit] at this
        rw [this, e]
        simp [List.getD, hk]
    · obtain ⟨hk, e, h2⟩ := hget k h
      omega
end Go.Proofs.YtmdckddenelneaaGreatDoor

/- The closed fact: a play of three numbers. -/
namespace Go.Proofs.YtmdckddenelneaaGreatDoor
open Go.RowKit

theorem pick_first {nw : List ByteArray → Nat → Nat → ByteArray} {k : Nat} {S' : Lh.Bl} {s : ByteArray} {kept : Bool} {c : Nat} (h : PickR nw duoB k 0 S' s kept c) : c = 0 := by
  have hno : ∀ z, ¬ Lh.BKeeps duoB k 0 z := fun z ⟨h, _⟩ => absurd h (by simp [duoB])
  have ho : Lh.bopen duoB ≠ [] := open_some (s := nA) (Lh.bopen_mem.2 ⟨hup_new.2 (by simp [four]), by simp [duoB]⟩)
  obtain ⟨_, _, h, _⟩ := h.new ⟨by decide, by decide, by decide⟩ hno ho
  exact h
/-- numbers 0, -1, 40 -/
theorem run_first {nw : List ByteArray → Nat → Nat → ByteArray} {es : List Int} {D : Lh.Duo} (h : RunR nw ⟨duoB, duoB, 0⟩ [0, -1, 40] es D) : es = [0, -1, 0] := by
  obtain ⟨e1, D1, es1, h1, rfl, e2, D2, es2, h2, rfl, e3, D3, es3, h3, rfl, rfl, _⟩ := h
  rcases h1 with ⟨h1, _⟩ | ⟨n1, c1, hn1, rfl, h1⟩
  · omega
  obtain rfl : n1 = 0 := by omega
  obtain ⟨q, b, host, is, rfl, rfl, rfl, rfl, h1⟩ := h1
  rcases h1 with ⟨_, S1, s1, k1, hp1, rfl⟩ | ⟨m, _⟩ | ⟨m, _⟩ | ⟨m, _⟩ | ⟨m, _⟩ | ⟨m, _⟩
  rotate_left
  iterate 5 omega
  obtain rfl := pick_first hp1
  rcases h2 with ⟨_, rfl, rfl⟩ | ⟨n2, c2, hn2, _⟩
  rotate_left
  · omega
  rcases h3 with ⟨h3, _⟩ | ⟨n3, c3, hn3, rfl, h3⟩
  · omega
  obtain rfl : n3 = 40 := by omega
  obtain ⟨q, b, host, is, rfl, rfl, rfl, rfl, h3⟩ := h3
  rcases h3 with ⟨_, S3, s3, k3, hp3, rfl⟩ | ⟨m, _⟩ | ⟨m, _⟩ | ⟨m, _⟩ | ⟨m, _⟩ | ⟨m, _⟩
  rotate_left
  iterate 5 omega
  obtain rfl := pick_first hp3
  rfl

set_option maxRecDepth 100000 in
set_option maxHeartbeats 4000000 in
theorem played_any (hC : BalanceC) (hP : PlayC hC) (a : Nat → Addr) (w : World) (he : hP.E a w) :
    Calls Tryz.prog 6 #[] w fun e w' => e = .returned (.bool true) ∧ Below w.heap.size w w' := by
  have HE : Hid (hP.E a w) := he
  have hnew := hP.newD a w he
  clear he
  go_enter Tryz.func6, Tryz.ntmps6
  go_wp2_with fail
  refine hnew.mono ?_
  rintro e w1 ⟨x, rfl, hx, hxA, hxB, hxF, hb1⟩
  obtain ⟨wA, hwA⟩ : ∃ wA, wA = w1.alloc (.cells #[.int .i64 0, .int .i64 (-1), .int .i64 40] 3) := ⟨_, rfl⟩
  have hbA : Below w1.heap.size w1 wA := by rw [hwA]; exact (Below.refl _ _).alloc (Nat.le_refl _) _
  have hbwA : Below w.heap.size w wA := below_then hb1 hbA
  have hsc : Ints wA (.slice (some ⟨w1.heap.size, 0, none⟩) 3 3) [0, -1, 40] := Or.inr ⟨w1.heap.size, 0, 3, rfl, fun k hk => by
    have : k = 0 ∨ k = 1 ∨ k = 2 := by simp at hk; omega
    rw [hwA]
    rcases this with rfl | rfl | rfl <;> simp⟩
  have hrun := hP.run a x _ [0, -1, 40] wA (hP.eLater HE.out hbwA) (hx.later hbA) hsc (fun p n c e => by injection e; omega) (fun b o k c e _ hf => by
    have h1 := hx.lt b hf
    injection e with e _ _
    injection e with e
    injection e with e
    omega) (by decide) (by decide)
  have HF : Hid (∀ b, x.F b → w.heap.size ≤ b) := hxF
  have HXD : Hid (x.A = duoB ∧ x.B = duoB) := ⟨hxA, hxB⟩
  have HBA : Hid (Below w.heap.size w wA) := hbwA
  clear hnew hx hxA hxB hxF hb1 hbA hsc hbwA
  go_wp2_with fail
  rw [← hwA]
  refine hrun.mono ?_
  rintro e w2 ⟨y, es, now, v2, rfl, hR, hy, _, _, _, hyF, hT, hv2⟩
  rw [HXD.out.1, HXD.out.2] at hR
  obtain rfl := run_first hR
  have hbw2 : Below w.heap.size w w2 := hT.below HF.out HBA.out (Nat.le_refl _)
  have HV2 : Hid (Ints w2 v2 [0, -1, 0]) := hv2.ints
  clear hrun hR hy hyF hT hv2 HBA HXD HF hwA
  go_wp2_with fail
  obtain ⟨wB, hwB⟩ : ∃ wB, wB = w2.alloc (.cells #[.int .i64 0, .int .i64 (-1), .int .i64 0] 3) := ⟨_, rfl⟩
  have hbB : Below w2.heap.size w2 wB := by rw [hwB]; exact (Below.refl _ _).alloc (Nat.le_refl _) _
  have hsc : Ints wB (.slice (some ⟨w2.heap.size, 0, none⟩) 3 3) [0, -1, 0] := Or.inr ⟨w2.heap.size, 0, 3, rfl, fun k hk => by
    have : k = 0 ∨ k = 1 ∨ k = 2 := by simp at hk; omega
    rw [hwB]
    rcases this with rfl | rfl | rfl <;> simp⟩
  rw [← hwB]
  refine (sameInts_any v2 _ _ _ wB (HV2.out.later hbB) hsc (by decide) (by decide)).mono ?_
  rintro e w3 ⟨rfl, hb3⟩
  have hbw3 : Below w.heap.size w w3 := below_then (below_then hbw2 hbB) hb3
  have hk3 := hP.keys 3 w3
  clear hsc hbB hwB HV2 hbw2 hb3
  go_wp2_with fail
  refine hk3.mono ?_
  rintro e w4 ⟨v4, rfl, ⟨p4, c4, rfl, _⟩, hb4⟩
  have hbw4 := below_then hbw3 hb4
  have e3 : ((List.range (min (3 : Int).toNat 500)).map Lh.turn).length = 3 := by simp
  rw [e3]
  clear hk3 hb4 hbw3 e3
  go_wp2
  go_ret
  exact ⟨rfl, hbw4⟩
end Go.Proofs.YtmdckddenelneaaGreatDoor

/- The landed Spread. -/
namespace Go.Proofs.YtmdckddenelneaaGreatDoor
open Go.RowKit

/-- the slots' hosts of keys -/
def slotL (t : List Int) (n : Nat) (ks : List Nat) : List Int := ks.map fun k => t.getD (Lh.turn k % n) 0
theorem slotL_len (t : List Int) (n : Nat) (ks : List Nat) : (slotL t n ks).length = ks.length := by simp [slotL]
theorem slotL_snoc (t : List Int) (n : Nat) (ks : List Nat) {k : Nat} (h : k < ks.length) : slotL t n (ks.take (k + 1)) = slotL t n (ks.take k) ++ [t.getD (Lh.turn ks[k] % n) 0] := by
  unfold slotL
  rw [List.take_succ_eq_append_getElem h, List.map_append]
  rfl
theorem keys1_slice {w : World} {v : Value} {ks : List Nat} (h : Keys1 w v ks) : ∃ p c, v = .slice p ks.length c ∧ ∀ k (h : k < ks.length), ∃ b o, p = some ⟨b, o, none⟩ ∧ w.cell? ⟨b, o + k, none⟩ = some (.int .u64 (ks[k] : Nat)) := by
  rcases h with ⟨rfl, rfl | ⟨ad, c, rfl⟩⟩ | ⟨b, o, c, rfl, _, hc⟩
  · exact ⟨_, _, rfl, fun k hk => absurd hk (Nat.not_lt_zero k)⟩
  · exact ⟨_, _, rfl, fun k hk => absurd hk (Nat.not_lt_zero k)⟩
  · exact ⟨_, c, rfl, fun k hk => ⟨b, o, rfl, hc k hk⟩⟩
set_option maxHeartbeats 2000000 in
theorem spread_bad1 (a : Nat → Addr) (v kv : Value) (xs : List ByteArray) (n : Int) (w : World) (c : Nat) (pl : Int) (he : Errs a w) (hv : Strs1 w v xs) (hf : TabFault xs n c pl) (hc : c ≠ 0) (hn : -9223372036854775808 ≤ n ∧ n ≤ 9223372036854775807) (hsz : ∀ k (h : k < xs.length), (xs[k]).size ≤ 1000000) (hm : xs.length < 1000000) :
    Calls Tryz.prog 10 #[v, .int .i64 n, kv] w fun e w' => ∃ ev, e = .returned (.tuple #[.slice none 0 0, ev]) ∧ ErrIs a w' c pl ev ∧ Below w.heap.size w w' := by
  have hmk := make_bad a v xs n w c pl he hv hf hc hn hsz hm
  clear he hv hf hsz
  go_enter Tryz.func10, Tryz.ntmps10
  go_wp2_with fail
  refine hmk.mono ?_
  rintro e w1 ⟨ev, rfl, hev, hb1⟩
  have HEV : Hid (ErrIs a w1 c pl ev) := hev
  obtain ⟨t1, x1, rfl⟩ := errIs_pos hev hc
  clear hmk hev
  go_wp2
  go_ret2
  exact ⟨_, rfl, HEV.out, hb1⟩
set_option maxHeartbeats 2000000 in
theorem spread_bad2 (a : Nat → Addr) (v kv : Value) (xs : List ByteArray) (ks : List Nat) (n : Int) (w : World) (he : Errs a w) (hv : Strs1 w v xs) (hk : Keys1 w kv ks) (hf : TabFault xs n 0 (-1)) (h5 : 500 < ks.length) (hkl : ks.length ≤ 1000000) (hsz : ∀ k (h : k < xs.length), (xs[k]).size ≤ 300) :
    Calls Tryz.prog 10 #[v, .int .i64 n, kv] w fun e w' => ∃ ev, e = .returned (.tuple #[.slice none 0 0, ev]) ∧ ErrIs a w' 2 (-1) ev ∧ Below w.heap.size w w' := by
  obtain ⟨_, h0, hif, m, rfl, hp, h22, h53⟩ := tabFault_zero hf
  have hmk := make_good a v xs m w he hv h0 hif hsz hp h53
  have HE : Hid (Errs a w) := he
  obtain ⟨p, cp, rfl, hkc⟩ := keys1_slice hk
  clear he hv hk hf hif hsz hp hkc
  generalize ks.length = m5 at *
  have d5 : decide (500 < (m5 : Int)) = true := by simp; omega
  go_enter Tryz.func10, Tryz.ntmps10
  go_wp2_with fail
  refine hmk.mono ?_
  rintro e w1 ⟨g, rfl, hg, hrow, hb1⟩
  have s1 := (HE.out.later hb1).s1
  clear hmk hrow
  go_wp2_with fail
  go_quiet (fail)
  go_wp2
  go_ret2
  exact ⟨_, rfl, Or.inr ⟨1, by decide, rfl, Or.inl ⟨rfl, rfl⟩⟩, below_drewN hb1 nq⟩
set_option maxRecDepth 100000 in
set_option maxHeartbeats 4000000 in
theorem spread_good (a : Nat → Addr) (v kv : Value) (xs : List ByteArray) (ks : List Nat) (n : Nat) (w : World) (he : Errs a w) (hv : Strs1 w v xs) (hk : Keys1 w kv ks) (h0 : 0 < xs.length) (hif : IsFault xs 0 (-1)) (hp : Lh.Prm n) (h5 : n ≤ 503) (hkl : ks.length ≤ 500) (hsz : ∀ k (h : k < xs.length), (xs[k]).size ≤ 300) :
    Calls Tryz.prog 10 #[v, .int .i64 (n : Nat), kv] w fun e w' => ∃ g, e = .returned (.tuple #[.slice (some ⟨g, 0, none⟩) xs.length xs.length, .nilIface]) ∧ w.heap.size ≤ g ∧ IntRow w' g (cnt (slotL (Lh.tab xs n n) n ks) xs.length) ∧ Below w.heap.size w w' := by
  obtain ⟨i, hi, hz0, hz1, hz2⟩ := info_parts infoI
  obtain ⟨_, h12, _⟩ := fault_zero hif
  have hmk := make_good a v xs n w he hv h0 hif hsz hp h5
  obtain ⟨b0, o0, c0, rfl, hx0⟩ := strs1_pos hv h0
  obtain ⟨p, cp, rfl, hkc⟩ := keys1_slice hk
  have HK : Hid (∀ k (h : k < ks.length), ∃ b o, p = some ⟨b, o, none⟩ ∧ w.cell? ⟨b, o + k, none⟩ = some (.int .u64 (ks[k] : Nat))) := hkc
  have HF : Hid (∀ x, x < n → ∃ i, i < xs.length ∧ (Lh.tab xs n n).getD x 0 = ((i : Nat) : Int)) := fun x hx => by
    obtain ⟨i, hi, e⟩ := Lh.tab_full hp h0 hx
    exact ⟨i, hi, e⟩
  have HTL : Hid ((Lh.tab xs n n).length = n) := Lh.tab_length _ _ _
  have h2 : 2 ≤ n := hp.1
  have hbyt : i.bytes * xs.length ≤ 281474976710656 := by rw [hz2]; omega
  have hmax : xs.length ≤ maxLen := by unfold maxLen; omega
  have d5 : decide (500 < (ks.length : Int)) = false := by simp; omega
  clear he hv hk hif hsz hkc hp hx0
  generalize Lh.tab xs n n = tb at *
  generalize xs.length = m at *
  go_enter Tryz.func10, Tryz.ntmps10
  go_wp2_with fail
  refine hmk.mono ?_
  rintro e w1 ⟨g, rfl, hg, hrow, hb1⟩
  have HR1 : Hid (IntRow w1 g tb) := hrow
  clear hmk hrow
  go_wp2_with (at_make; refine wpList_make_full _ rfl _ _ 29 rfl w1.heap.size 3 i _ 1 Tryz.underlying29 hi hz0 hz1 _ _ _ _ m rfl rfl rfl rfl hbyt hmax (Nat.le_refl _) ?_)
  intro w2 hown hgrow
  have hb2 : Below w1.heap.size w1 w2 := below_grown hgrow (fun k h => by cases h)
  rw [made_ints2, ← cnt_nil] at hown
  have hrow0 := IntRow.of_owns hown
  clear hown hgrow
  obtain ⟨q, hqq⟩ : ∃ q, w1.heap.size = q := ⟨_, rfl⟩
  rw [hqq] at hrow0
  rw [hqq]
  have hql : w1.heap.size ≤ q := by omega
  clear hqq
  go_wp2_with fail
  go_loopw [12, 31] (fun _ u31 W => Below w1.heap.size w1 W ∧ ∃ k : Nat, k ≤ ks.length ∧ u31 = .int .i64 (k : Nat) ∧ IntRow W q (cnt (slotL tb n (ks.take k)) m)) (fun _ u31 _ => ks.length - (intOf u31).toNat)
  case atStart => exact ⟨hb2, 0, Nat.zero_le _, rfl, hrow0⟩
  case round =>
    obtain ⟨hbr, k, hk, rfl, hrow⟩ := hrel
    obtain ⟨wo, hwo⟩ : ∃ wo, wo = wr := ⟨_, rfl⟩
    subst hwo
    clear hb2 hrow0
    by_cases hlt : k < ks.length
    · obtain ⟨b, o, rfl, ck⟩ := HK.out k hlt
      have hki : (k : Int) < (ks.length : Int) := by omega
      have ckr := below_cell (below_then hb1 hbr) ck
      obtain ⟨y, hy, hty⟩ := HF.out (Lh.turn ks[k] % n) (Nat.mod_lt _ (by omega))
      have HS : Hid (cnt (slotL tb n (ks.take (k + 1))) m = (cnt (slotL tb n (ks.take k)) m).set y ((((slotL tb n (ks.take k)).count ((y : Nat) : Int) : Nat) : Int) + 1)) := by
        show _ = _
        rw [slotL_snoc tb n ks hlt, hty]
        exact cnt_snoc _ m y
      have hrl : y < (cnt (slotL tb n (ks.take k)) m).length := by rw [cnt_length]; exact hy
      have cy := hrow.cell hrl
      rw [cnt_get] at cy
      have fy := hrow.frozen y
      have hcl : (slotL tb n (ks.take k)).count ((y : Nat) : Int) ≤ k := Nat.le_trans List.count_le_length (by rw [slotL_len]; simp; omega)
      obtain ⟨z, hz⟩ : ∃ z, Lh.turn ks[k] = z := ⟨_, rfl⟩
      have htl := Lh.turn_lt ks[k]
      rw [hz] at htl hty
      have hrem : ((z : Nat) : Int).tmod (n : Int) = ((z % n : Nat) : Int) := rfl
      have hmod : z % n < n := Nat.mod_lt _ (by omega)
      obtain ⟨r, hr⟩ : ∃ r, z % n = r := ⟨_, rfl⟩
      rw [hr] at hty hrem hmod
      have cs : wo.cell? ⟨g, r, none⟩ = some (.int .i64 (y : Nat)) := by
        have h1 := (HR1.out.later hbr).cell (k := r) (by rw [HTL.out]; exact hmod)
        rw [h1]
        have h2 := hty
        rw [List.getD_eq_getElem?_getD, List.getElem?_eq_getElem (by rw [HTL.out]; exact hmod)] at h2
        simp at h2
        rw [h2]
      have hn0 : ¬ n = 0 := by omega
      have hml : (r : Int) < (n : Int) := by omega
      have hym : (y : Int) < (m : Int) := by omega
      have hw1 : IntKind.u64.wrap (n : Int) = (n : Int) := by simp [IntKind.wrap, IntKind.signed, IntKind.bits]; omega
      have hst : ∀ W', Below wo.heap.size wo W' → Calls Tryz.prog 28 #[.int .u64 (ks[k] : Nat)] W' fun e w' => e = .returned (.int .u64 (z : Nat)) ∧ Below wo.heap.size wo w' := fun W' hb => (turn_gr ks[k] W').mono fun e w' ⟨h1, h2⟩ => ⟨by rw [h1, hz], below_then hb h2.below⟩
      have hCC : ∀ w', Below wo.heap.size wo w' → w'.cell? ⟨g, r, none⟩ = some (.int .i64 (y : Nat)) ∧ w'.cell? ⟨q, y, none⟩ = some (.int .i64 (((slotL tb n (ks.take k)).count ((y : Nat) : Int) : Nat) : Int)) ∧ IntRow w' q (cnt (slotL tb n (ks.take k)) m) := fun w' hb => ⟨below_cell hb cs, below_cell hb cy, hrow.later hb⟩
      clear hz hr hrow hrl hty ck
      generalize ks[k] = key at *
      generalize (slotL tb n (ks.take k)).count ((y : Nat) : Int) = cq at *
      go_wp2_with fail
      refine (hst wo (Below.refl _ _)).mono ?_
      rintro e w4 ⟨rfl, hb4⟩
      obtain ⟨cs4, cy4, hrow4⟩ := hCC w4 hb4
      have fy4 := hrow4.frozen y
      have HR4 : Hid (IntRow w4 q (cnt (slotL tb n (ks.take k)) m)) := hrow4
      have hb14 : Below w1.heap.size w1 w4 := below_then hbr hb4
      have hcw : IntKind.i64.wrap ((cq : Int) + 1) = (cq : Int) + 1 := by simp [IntKind.wrap, IntKind.signed, IntKind.bits]; omega
      clear hst hCC cs cy hrow4 hbr hb4 ckr fy
      go_wp2_with fail
      go_roundw
      case rel =>
        refine ⟨hb14.setCell hql _, k + 1, by omega, by go_num, ?_⟩
        rw [HS.out]
        exact HR4.out.set y _
      case measure => simp [intOf]; omega
    · have hd : decide ((k : Int) < (ks.length : Int)) = false := by simp; omega
      have HFI : Hid (IntRow wo q (cnt (slotL tb n ks) m)) := by
        have h1 := hrow
        rw [List.take_of_length_le (by omega)] at h1
        exact h1
      clear hrow
      go_wp2
      go_ret2
      exact ⟨q, rfl, Nat.le_trans hb1.size hql, HFI.out, below_then hb1 hbr⟩
end Go.Proofs.YtmdckddenelneaaGreatDoor

/- The law PlaySpread, over the landed package's contracts: what is left out; the errors. -/
namespace Go.Proofs.YtmdckddenelneaaGreatDoor
open Go.RowKit

set_option maxHeartbeats 1000000 in
/-- faulted: the error is the one that the document asks. -/
theorem faulted3_is {a : Nat → Addr} {W : World} {c : Nat} {pl : Int} {v : Value} (he : Errs a W) (h : ErrIs a W c pl v) :
    Calls Tryz.prog 15 #[v, .agg #[.int .i64 c, .int .i64 pl]] W fun e w' => e = .returned (.bool true) ∧ Below W.heap.size W w' := by
  have hba : Below W.heap.size W (W.alloc (.cells #[.int .i64 c, .int .i64 pl] 37)) := (Below.refl _ _).alloc (Nat.le_refl _) _
  have hc := code_is (he.later hba) (h.later hba)
  go_enter Tryz.func15, Tryz.ntmps15
  go_wp2_with fail
  refine hc.mono ?_
  rintro e w1 ⟨rfl, hb1⟩
  have c0 : w1.cell? ⟨W.heap.size, 0, none⟩ = some (.int .i64 c) := below_cell hb1 (by simp)
  have c1 : w1.cell? ⟨W.heap.size, 1, none⟩ = some (.int .i64 pl) := below_cell hb1 (by simp)
  have hbz : Below W.heap.size W w1 := hba.trans (hb1.mono (by simp))
  clear hb1 hba hc
  cases hz : ((c : Int) == 0) with
  | true =>
    go_wp2
    go_ret
    exact ⟨rfl, hbz⟩
  | false =>
    go_wp2
    go_ret
    exact ⟨by simp, hbz⟩
/-- what is asked of hosts, a size, keys, a number, as they are handed over -/
structure PsIn (a : Nat → Addr) (lv kv : Value) (xs : List ByteArray) (ks : List Nat) (size n : Int) (w : World) : Prop where
  hl : Strs1 w lv xs
  hk : Keys1 w kv ks
  hku : ∀ z ∈ ks, z < 18446744073709551616
  hkl : ks.length ≤ maxLen
  hsz : ∀ k (h : k < xs.length), (xs[k]).size ≤ maxLen
  hlen : xs.length ≤ maxLen
  hs : -9223372036854775808 ≤ size ∧ size ≤ 9223372036854775807
  hn : -9223372036854775808 ≤ n ∧ n ≤ 9223372036854775807
section
variable {hC : BalanceC} {hP : PlayC hC} {a : Nat → Addr} {lv kv : Value} {xs : List ByteArray} {ks : List Nat} {size n : Int} {w : World}
set_option maxRecDepth 100000 in
set_option maxHeartbeats 2000000 in
/-- long hosts, or keys that are not looked at -/
theorem ps_skip (he : hP.E a w) (hI : PsIn a lv kv xs ks size n w) (h : (60 < ks.length ∧ ks.length ≤ 500) ∨ 600 < ks.length) :
    Calls Tryz.prog 3 #[lv, .int .i64 size, kv, .int .i64 n] w fun e w' => e = .returned (.bool true) ∧ Below w.heap.size w w' := by
  have hpl := played_any hC hP a w he
  obtain ⟨hl, hk, hku, hkl, hsz, hlen, _, _⟩ := hI
  obtain ⟨p, cp, rfl, hkc⟩ := keys1_slice hk
  have HL : Hid (∀ w', Below w.heap.size w w' → Calls Tryz.prog 7 #[lv] w' fun e w'' => (e = .returned (.int .i64 1) ∨ (e = .returned (.int .i64 0) ∧ xs.length ≤ 30 ∧ ∀ k (h : k < xs.length), (xs[k]).size ≤ 60)) ∧ w'' = w') := fun w' hb => long_any lv xs w' (hl.later hb).strs hsz hlen
  unfold maxLen at hkl
  clear he hl hk hsz hlen hkc hku
  generalize ks.length = m at *
  rcases h with ⟨h6, h5⟩ | h6
  · have d6 : decide (60 < (m : Int)) = true := by simp; omega
    have d5 : decide ((m : Int) ≤ 500) = true := by simp; omega
    go_enter Tryz.func3, Tryz.ntmps3
    go_wp2_with fail
    refine hpl.mono ?_
    rintro e w1 ⟨rfl, hb1⟩
    clear hpl
    go_wp2_with fail
    refine (HL.out w1 hb1).mono ?_
    rintro e w2 ⟨hlo, rfl⟩
    rcases hlo with rfl | ⟨rfl, _, _⟩
    all_goals
      go_wp2
      go_ret
      exact ⟨rfl, hb1⟩
  · have d6 : decide (60 < (m : Int)) = true := by simp; omega
    have d5 : decide ((m : Int) ≤ 500) = false := by simp; omega
    have d7 : decide (600 < (m : Int)) = true := by simp; omega
    go_enter Tryz.func3, Tryz.ntmps3
    go_wp2_with fail
    refine hpl.mono ?_
    rintro e w1 ⟨rfl, hb1⟩
    clear hpl
    go_wp2_with fail
    refine (HL.out w1 hb1).mono ?_
    rintro e w2 ⟨hlo, rfl⟩
    rcases hlo with rfl | ⟨rfl, _, _⟩
    all_goals
      go_wp2
      go_ret
      exact ⟨rfl, hb1⟩
end
end Go.Proofs.YtmdckddenelneaaGreatDoor
