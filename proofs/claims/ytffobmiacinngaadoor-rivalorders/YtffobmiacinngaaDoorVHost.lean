/- The landed Order and Host of rivals; the law's closed fact. -/
import Derived.Test.YtffobmiacinngaaDoorVOrd2
namespace Go.Proofs.YtffobmiacinngaaDoor
open Go.RowKit

/-- what Order answers: all in order, or nothing and an error -/
def OrdIs (a : Nat → Addr) (f : ByteArray → Nat) (xs : List ByteArray) (c : Nat) (pl : Int) (w' : World) (v ev : Value) : Prop :=
  (c = 0 ∧ ev = .nilIface ∧ Strs1 w' v (Lh.order f xs)) ∨ (c ≠ 0 ∧ v = .slice none 0 0 ∧ ErrIs a w' c pl ev)
/-- what Host answers: the first one, or nothing and an error -/
def HstIs (a : Nat → Addr) (f : ByteArray → Nat) (xs : List ByteArray) (c : Nat) (pl : Int) (w' : World) (s : ByteArray) (ev : Value) : Prop :=
  (c = 0 ∧ ev = .nilIface ∧ ∃ T, Lh.order f xs = s :: T) ∨ (c ≠ 0 ∧ s = ByteArray.empty ∧ ErrIs a w' c pl ev)
theorem small_of {xs : List ByteArray} {n m : Nat} (hs : ∀ k (h : k < xs.length), (xs[k]).size ≤ n) (hnm : n ≤ m) : ∀ k (h : k < xs.length), (xs[k]).size ≤ m := fun k h => Nat.le_trans (hs k h) hnm
theorem small_mem {xs : List ByteArray} {n : Nat} (hs : ∀ k (h : k < xs.length), (xs[k]).size ≤ n) : ∀ s ∈ xs, s.size ≤ n := fun s h => by
  obtain ⟨k, hk, rfl⟩ := List.getElem_of_mem h
  exact hs k hk

set_option maxRecDepth 100000 in
set_option maxHeartbeats 2000000 in
theorem order_good (a : Nat → Addr) (v : Value) (xs : List ByteArray) (k : Nat) (hk : k < 18446744073709551616) (w : World) (he : Errs4 a w) (hv : Strs1 w v xs) (h0 : 0 < xs.length) (hf : IsFault xs 0 (-1)) (hs : ∀ k (h : k < xs.length), (xs[k]).size ≤ 300) (hm : xs.length < 1000000) :
    Calls Tryd.prog 56 #[v, .int .u64 (k : Nat)] w fun e w' => ∃ v', e = .returned (.tuple #[v', .nilIface]) ∧ Strs1 w' v' (Lh.order (Lh.score k) xs) ∧ Below w.heap.size w w' := by
  have hchk := rcheck_any a v xs w 0 (-1) he hv (Or.inr ⟨h0, hf⟩) (small_of hs (by decide)) hm
  have hby := fun W (hb : Below w.heap.size w W) => byScore_any v xs k hk W (hv.later hb) h0 hm (small_mem hs)
  obtain ⟨b, o, c, rfl, hx⟩ := strsPos hv h0
  clear he hv hf hs hx
  generalize Lh.order (Lh.score k) xs = ys at *
  go_enter Tryd.func56, Tryd.ntmps56
  go_wp2_with fail
  refine hchk.mono ?_
  rintro e w1 ⟨ev, rfl, hev, hb1⟩
  obtain rfl := err0 hev
  clear hev hchk
  go_wp2_with fail
  refine (hby _ hb1).mono ?_
  rintro e w2 ⟨v', rfl, hv', hb2⟩
  have hbz : Below w.heap.size w w2 := below_then hb1 hb2
  have HF : Hid (Strs1 w2 v' ys) := hv'
  clear hby hv' hb1 hb2
  go_wp2
  go_ret2
  exact ⟨_, rfl, HF.out, hbz⟩
set_option maxRecDepth 100000 in
set_option maxHeartbeats 2000000 in
theorem order_bad (a : Nat → Addr) (v : Value) (xs : List ByteArray) (kv : Value) (w : World) (c : Nat) (pl : Int) (he : Errs4 a w) (hv : Strs1 w v xs) (hf : SFault xs c pl) (hc : c ≠ 0) (hs : ∀ k (h : k < xs.length), (xs[k]).size ≤ 1000000) (hm : xs.length < 1000000) :
    Calls Tryd.prog 56 #[v, kv] w fun e w' => ∃ ev, e = .returned (.tuple #[.slice none 0 0, ev]) ∧ ErrIs a w' c pl ev ∧ Below w.heap.size w w' := by
  have hchk := rcheck_any a v xs w c pl he hv hf hs hm
  clear he hv hf hs
  go_enter Tryd.func56, Tryd.ntmps56
  go_wp2_with fail
  refine hchk.mono ?_
  rintro e w1 ⟨ev, rfl, hev, hb1⟩
  have HEV : Hid (ErrIs a w1 c pl ev) := hev
  obtain ⟨t, x, rfl⟩ := errPos hev hc
  clear hev hchk
  go_wp2
  go_ret2
  exact ⟨_, rfl, HEV.out, hb1⟩
/-- Order of any hosts. -/
theorem order_any (a : Nat → Addr) (v : Value) (xs : List ByteArray) (k : Nat) (hk : k < 18446744073709551616) (w : World) (c : Nat) (pl : Int) (he : Errs4 a w) (hv : Strs1 w v xs) (hf : SFault xs c pl) (hs : ∀ k (h : k < xs.length), (xs[k]).size ≤ 60) (hm : xs.length < 1000000) :
    Calls Tryd.prog 56 #[v, .int .u64 (k : Nat)] w fun e w' => ∃ v' ev, e = .returned (.tuple #[v', ev]) ∧ OrdIs a (Lh.score k) xs c pl w' v' ev ∧ Below w.heap.size w w' := by
  by_cases hc : c = 0
  · subst hc
    obtain ⟨h0, hf0, rfl⟩ := sFault_zero hf
    exact (order_good a v xs k hk w he hv h0 hf0 (small_of hs (by decide)) hm).mono fun _ _ ⟨v', h1, h2, h3⟩ => ⟨v', _, h1, Or.inl ⟨rfl, rfl, h2⟩, h3⟩
  · exact (order_bad a v xs _ w c pl he hv hf hc (small_of hs (by decide)) hm).mono fun _ _ ⟨ev, h1, h2, h3⟩ => ⟨_, ev, h1, Or.inr ⟨hc, rfl, h2⟩, h3⟩

set_option maxRecDepth 100000 in
set_option maxHeartbeats 2000000 in
theorem vhost_good (a : Nat → Addr) (v : Value) (xs : List ByteArray) (k : Nat) (hk : k < 18446744073709551616) (w : World) (he : Errs4 a w) (hv : Strs1 w v xs) (h0 : 0 < xs.length) (hf : IsFault xs 0 (-1)) (hs : ∀ k (h : k < xs.length), (xs[k]).size ≤ 300) (hm : xs.length < 1000000) :
    Calls Tryd.prog 57 #[v, .int .u64 (k : Nat)] w fun e w' => ∃ s T, e = .returned (.tuple #[.string s, .nilIface]) ∧ Lh.order (Lh.score k) xs = s :: T ∧ Below w.heap.size w w' := by
  have hchk := rcheck_any a v xs w 0 (-1) he hv (Or.inr ⟨h0, hf⟩) (small_of hs (by decide)) hm
  have hby := fun W (hb : Below w.heap.size w W) => byScore_any v xs k hk W (hv.later hb) h0 hm (small_mem hs)
  obtain ⟨y, T, hyT, _⟩ := Lh.order_head (f := Lh.score k) h0
  obtain ⟨b, o, c, rfl, hx⟩ := strsPos hv h0
  clear he hv hf hs hx
  rw [hyT] at hby ⊢
  clear hyT
  go_enter Tryd.func57, Tryd.ntmps57
  go_wp2_with fail
  refine hchk.mono ?_
  rintro e w1 ⟨ev, rfl, hev, hb1⟩
  obtain rfl := err0 hev
  clear hev hchk
  go_wp2_with fail
  refine (hby _ hb1).mono ?_
  rintro e w2 ⟨v', rfl, hv', hb2⟩
  have hbz : Below w.heap.size w w2 := below_then hb1 hb2
  obtain ⟨b2, o2, c2, rfl, hc2⟩ := strsPos hv' (by simp)
  have d0 : w2.cell? ⟨b2, o2, none⟩ = some (.string y) := hc2 0 (by simp)
  have hpos : (0 : Int) < ((y :: T).length : Int) := by simp
  clear hby hv' hb1 hb2 hc2
  generalize (y :: T).length = n at *
  go_wp2
  go_ret2
  exact ⟨_, _, rfl, rfl, hbz⟩
set_option maxRecDepth 100000 in
set_option maxHeartbeats 2000000 in
theorem vhost_bad (a : Nat → Addr) (v : Value) (xs : List ByteArray) (kv : Value) (w : World) (c : Nat) (pl : Int) (he : Errs4 a w) (hv : Strs1 w v xs) (hf : SFault xs c pl) (hc : c ≠ 0) (hs : ∀ k (h : k < xs.length), (xs[k]).size ≤ 1000000) (hm : xs.length < 1000000) :
    Calls Tryd.prog 57 #[v, kv] w fun e w' => ∃ ev, e = .returned (.tuple #[.string ByteArray.empty, ev]) ∧ ErrIs a w' c pl ev ∧ Below w.heap.size w w' := by
  have hchk := rcheck_any a v xs w c pl he hv hf hs hm
  clear he hv hf hs
  go_enter Tryd.func57, Tryd.ntmps57
  go_wp2_with fail
  refine hchk.mono ?_
  rintro e w1 ⟨ev, rfl, hev, hb1⟩
  have HEV : Hid (ErrIs a w1 c pl ev) := hev
  obtain ⟨t, x, rfl⟩ := errPos hev hc
  clear hev hchk
  go_wp2
  go_ret2
  exact ⟨_, rfl, HEV.out, hb1⟩
/-- Host of any hosts. -/
theorem vhost_any (a : Nat → Addr) (v : Value) (xs : List ByteArray) (k : Nat) (hk : k < 18446744073709551616) (w : World) (c : Nat) (pl : Int) (he : Errs4 a w) (hv : Strs1 w v xs) (hf : SFault xs c pl) (hs : ∀ k (h : k < xs.length), (xs[k]).size ≤ 60) (hm : xs.length < 1000000) :
    Calls Tryd.prog 57 #[v, .int .u64 (k : Nat)] w fun e w' => ∃ s ev, e = .returned (.tuple #[.string s, ev]) ∧ HstIs a (Lh.score k) xs c pl w' s ev ∧ Below w.heap.size w w' := by
  by_cases hc : c = 0
  · subst hc
    obtain ⟨h0, hf0, rfl⟩ := sFault_zero hf
    exact (vhost_good a v xs k hk w he hv h0 hf0 (small_of hs (by decide)) hm).mono fun _ _ ⟨s, T, h1, h2, h3⟩ => ⟨s, _, h1, Or.inl ⟨rfl, rfl, T, h2⟩, h3⟩
  · exact (vhost_bad a v xs _ w c pl he hv hf hc (small_of hs (by decide)) hm).mono fun _ _ ⟨ev, h1, h2, h3⟩ => ⟨_, ev, h1, Or.inr ⟨hc, rfl, h2⟩, h3⟩

set_option maxRecDepth 100000 in
set_option maxHeartbeats 2000000 in
theorem rivals_any (a : Nat → Addr) (w : World) (he : Errs4 a w) :
    Calls Tryd.prog 52 #[] w fun e w' => e = .returned (.bool true) ∧ Below w.heap.size w w' := by
  have hbW := (Below.refl w.heap.size w).alloc (Nat.le_refl _) (.cells #[.string hostA] 9)
  have hnw := vhost_good a _ [hostA] 5 (by decide) _ (he.later hbW) (strsA w) (by simp) faultsA (fun k hk => by
    have : k = 0 := by simp at hk; omega
    subst this
    exact lenA) (by decide)
  rw [Lh.order_one] at hnw
  have hAB : (hostA.toList == [97]) = true := by rw [ByteArray.toList_eq]; rfl
  have hnw' : Calls Tryd.prog 57 #[.slice (some ⟨w.heap.size, 0, none⟩) 1 1, .int .u64 5] (w.alloc (.cells #[.string hostA] 9)) fun e w' => e = .returned (.tuple #[.string hostA, .nilIface]) ∧ Below w.heap.size w w' :=
    hnw.mono fun _ _ ⟨s, T, h1, h2, h3⟩ => ⟨by rw [h1, (List.cons.inj h2).1], hbW.trans (h3.mono (by simp))⟩
  clear hnw he hbW
  generalize hh : hostA = s at *
  have hh' : s = ⟨#[97]⟩ := hh.symm
  clear hh
  rw [hh'] at hnw'
  go_enter Tryd.func52, Tryd.ntmps52
  go_wp2_with fail
  refine hnw'.mono ?_
  rintro e w1 ⟨rfl, hb1⟩
  go_wp2
  go_ret
  exact ⟨rfl, hb1⟩
end Go.Proofs.YtffobmiacinngaaDoor
