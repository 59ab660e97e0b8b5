/- The reference's HostsFault, and LongHosts. -/
import Derived.Test.YtmdckddenelneaaGreatDoorM3
import Derived.Laws.AppendOwnNone
import Derived.Laws.CopyOwn
import Derived.Test.YtmdckddenelneaaGreatDoorM0
namespace Go.Proofs.YtmdckddenelneaaGreatDoor
open Go.RowKit

theorem bare_any (n : Int) (w : World) : Calls Tryz.prog 14 #[.int .i64 n] w fun e w' => e = .returned (.agg #[.int .i64 n, .int .i64 (-1)]) ∧ Below w.heap.size w w' := by
  go_enter Tryz.func14, Tryz.ntmps14
  go_wp2
  exact bodyPost_ret (v := .agg #[.int .i64 n, .int .i64 (-1)]) (by simp [results, Tryz.results14, go_sem]) rfl ⟨rfl, (Below.refl _ _).alloc (Nat.le_refl _) _⟩
theorem fine_any (w : World) : Calls Tryz.prog 71 #[] w fun e w' => e = .returned (.agg #[.int .i64 0, .int .i64 (-1)]) ∧ Below w.heap.size w w' := by
  go_enter Tryz.func71, Tryz.ntmps71
  go_wp2
  exact bodyPost_ret (v := .agg #[.int .i64 0, .int .i64 (-1)]) (by simp [results, Tryz.results71, go_sem]) rfl ⟨rfl, (Below.refl _ _).alloc (Nat.le_refl _) _⟩

set_option maxHeartbeats 2000000 in
theorem hfault_core (b o cap : Nat) (xs : List ByteArray) (w : World) (c : Nat) (pl : Int) (hx : ∀ k (h : k < xs.length), w.cell? ⟨b, o + k, none⟩ = some (.string xs[k]))
    (hf : IsFault xs c pl) (h12 : ¬ 12 < xs.length) (hs : ∀ k (h : k < xs.length), (xs[k]).size ≤ 1000000) :
    Calls Tryz.prog 47 #[.slice (some ⟨b, o, none⟩) xs.length cap] w fun e w' => e = .returned (.agg #[.int .i64 c, .int .i64 pl]) ∧ Below w.heap.size w w' := by
  have HF : Hid _ := hf
  have HS : Hid _ := hs
  have e12 : decide (12 < (xs.length : Int)) = false := by simp; omega
  have hba : ∀ q, Below w.heap.size w (w.alloc q) := fun q => (Below.refl _ _).alloc (Nat.le_refl _) _
  have HX : Hid (∀ q k (h : k < xs.length), (w.alloc q).cell? ⟨b, o + k, none⟩ = some (.string xs[k])) := fun q k h => below_cell (hba q) (hx k h)
  clear hx hf hs hba
  go_enter Tryz.func47, Tryz.ntmps47
  go_wp2_with fail
  have hbW := (Below.refl w.heap.size w).alloc (Nat.le_refl _) (.cells #[.int .i64 0, .int .i64 0] 37)
  have HXW := HX.out (.cells #[.int .i64 0, .int .i64 0] 37)
  go_loopw [3] (fun t W => W = w.alloc (.cells #[.int .i64 0, .int .i64 0] 37) ∧ ∃ k : Nat, k ≤ xs.length ∧ t = .int .i64 k ∧ ∀ j, j < k → ∀ hj : j < xs.length, Good xs j hj) (fun t _ => xs.length - (intOf t).toNat)
  case atStart => exact ⟨rfl, 0, Nat.zero_le _, rfl, fun j h => absurd h (by omega)⟩
  case round =>
    obtain ⟨rfl, k, hk, rfl, hpre⟩ := hrel
    have HP : Hid _ := hpre
    clear hpre
    have HXX : Hid _ := HXW
    clear HXW
    by_cases hlt : k < xs.length
    · have cx := HXX.out k hlt
      have hsz := HS.out k hlt
      cases hn : Lh.isNm xs[k] with
      | false =>
        have HC : Hid _ := fault_name HF.out h12 hlt HP.out hn
        have HN : Hid _ := hn
        clear hn
        go_wp2_with fail
        refine (refName_any _ _ hsz).mono ?_
        rintro e w1 ⟨rfl, rfl⟩
        rw [HN.out]
        go_wp2
        exact bodyPost_ret (v := .agg #[.int .i64 c, .int .i64 pl]) (by rw [HC.out.1, HC.out.2]; simp [results, Tryz.results47, go_sem]) rfl ⟨rfl, (Below.refl _ _).alloc (Nat.le_refl _) _⟩
      | true =>
        have HN : Hid _ := hn
        cases hme : Lh.mem xs[k] (xs.take k) with
        | true =>
          have HC : Hid _ := fault_exist HF.out h12 hlt HP.out hn hme
          have HM : Hid _ := hme
          clear hn hme
          go_wp2_with fail
          refine (refName_any _ _ hsz).mono ?_
          rintro e w1 ⟨rfl, rfl⟩
          rw [HN.out]
          go_wp2_with fail
          refine (refIndex_any b o cap xs k hlt _ HXX.out (by omega)).mono ?_
          rintro e w2 ⟨⟨j, rfl, hj⟩, rfl⟩
          have hj' : decide (j < (k : Int)) = true := by rw [hj, HM.out]
          clear hj
          go_wp2
          exact bodyPost_ret (v := .agg #[.int .i64 c, .int .i64 pl]) (by rw [HC.out.1, HC.out.2]; simp [results, Tryz.results47, go_sem]) rfl ⟨rfl, (Below.refl _ _).alloc (Nat.le_refl _) _⟩
        | false =>
          have HM : Hid _ := hme
          clear hn hme
          go_wp2_with fail
          refine (refName_any _ _ hsz).mono ?_
          rintro e w1 ⟨rfl, rfl⟩
          rw [HN.out]
          go_wp2_with fail
          refine (refIndex_any b o cap xs k hlt _ HXX.out (by omega)).mono ?_
          rintro e w2 ⟨⟨j, rfl, hj⟩, rfl⟩
          have hj' : decide (j < (k : Int)) = false := by rw [hj, HM.out]
          clear hj
          go_wp2
          refine ⟨⟨by trivial, k + 1, by omega, by go_num, fun j hj hl => ?_⟩, by simp [intOf]; omega⟩
          by_cases e : j = k
          · subst e; exact ⟨HN.out, HM.out⟩
          · exact HP.out j (by omega) hl
    · have HC : Hid _ := fault_none HF.out h12 (fun j hj => HP.out j (by omega) hj)
      go_wp2_with fail
      refine (fine_any _).mono ?_
      rintro e w1 ⟨rfl, hb1⟩
      have c0 : w1.cell? ⟨w.heap.size, 0, none⟩ = some (.int .i64 0) := below_cell hb1 (by simp)
      have c1 : w1.cell? ⟨w.heap.size, 1, none⟩ = some (.int .i64 0) := below_cell hb1 (by simp)
      have f0 : w1.frozen? ⟨w.heap.size, 0, none⟩ = false := by rw [hb1.frozen (by simp)]; simp
      have f1 : w1.frozen? ⟨w.heap.size, 1, none⟩ = false := by rw [hb1.frozen (by simp)]; simp
      have hbz : Below w.heap.size w w1 := hbW.trans (hb1.mono (by simp))
      clear hb1 hbW
      go_wp2
      exact bodyPost_ret (v := .agg #[.int .i64 c, .int .i64 pl]) (by rw [HC.out.1, HC.out.2]; simp [results, Tryz.results47, go_sem, c0, c1]) rfl ⟨rfl, (hbz.setCell (Nat.le_refl _) _).setCell (Nat.le_refl _) _⟩

set_option maxHeartbeats 2000000 in
theorem hfault_long (p : Option Addr) (n cap : Nat) (w : World) (h12 : 12 < n) (_hm : n < 1000000) :
    Calls Tryz.prog 47 #[.slice p n cap] w fun e w' => e = .returned (.agg #[.int .i64 2, .int .i64 (-1)]) ∧ Below w.heap.size w w' := by
  have e12 : decide (12 < (n : Int)) = true := by simp; omega
  have hbW := (Below.refl w.heap.size w).alloc (Nat.le_refl _) (.cells #[.int .i64 0, .int .i64 0] 37)
  go_enter Tryz.func47, Tryz.ntmps47
  go_wp2_with fail
  refine (bare_any _ _).mono ?_
  rintro e w1 ⟨rfl, hb1⟩
  have c0 : w1.cell? ⟨w.heap.size, 0, none⟩ = some (.int .i64 0) := below_cell hb1 (by simp)
  have c1 : w1.cell? ⟨w.heap.size, 1, none⟩ = some (.int .i64 0) := below_cell hb1 (by simp)
  have f0 : w1.frozen? ⟨w.heap.size, 0, none⟩ = false := by rw [hb1.frozen (by simp)]; simp
  have f1 : w1.frozen? ⟨w.heap.size, 1, none⟩ = false := by rw [hb1.frozen (by simp)]; simp
  have hbz : Below w.heap.size w w1 := hbW.trans (hb1.mono (by simp))
  clear hb1 hbW
  go_wp2
  exact bodyPost_ret (v := .agg #[.int .i64 2, .int .i64 (-1)]) (by simp [results, Tryz.results47, go_sem, c0, c1]) rfl ⟨rfl, (hbz.setCell (Nat.le_refl _) _).setCell (Nat.le_refl _) _⟩

set_option maxHeartbeats 2000000 in
theorem hfault_zero (p : Option Addr) (cap : Nat) (w : World) :
    Calls Tryz.prog 47 #[.slice p 0 cap] w fun e w' => e = .returned (.agg #[.int .i64 0, .int .i64 (-1)]) ∧ Below w.heap.size w w' := by
  have hbW := (Below.refl w.heap.size w).alloc (Nat.le_refl _) (.cells #[.int .i64 0, .int .i64 0] 37)
  go_enter Tryz.func47, Tryz.ntmps47
  go_wp2_with fail
  refine wp_loop_rounds 1 ?_
  rw [rounds_succ]
  go_wp2_with fail
  refine (fine_any _).mono ?_
  rintro e w1 ⟨rfl, hb1⟩
  have c0 : w1.cell? ⟨w.heap.size, 0, none⟩ = some (.int .i64 0) := below_cell hb1 (by simp)
  have c1 : w1.cell? ⟨w.heap.size, 1, none⟩ = some (.int .i64 0) := below_cell hb1 (by simp)
  have f0 : w1.frozen? ⟨w.heap.size, 0, none⟩ = false := by rw [hb1.frozen (by simp)]; simp
  have f1 : w1.frozen? ⟨w.heap.size, 1, none⟩ = false := by rw [hb1.frozen (by simp)]; simp
  have hbz : Below w.heap.size w w1 := hbW.trans (hb1.mono (by simp))
  clear hb1 hbW
  go_wp2
  exact bodyPost_ret (v := .agg #[.int .i64 0, .int .i64 (-1)]) (by simp [results, Tryz.results47, go_sem, c0, c1]) rfl ⟨rfl, (hbz.setCell (Nat.le_refl _) _).setCell (Nat.le_refl _) _⟩

/-- HostsFault of any list of texts. -/
theorem hfault_any (v : Value) (xs : List ByteArray) (w : World) (c : Nat) (pl : Int) (hv : Strs w v xs) (hf : IsFault xs c pl) (hs : ∀ k (h : k < xs.length), (xs[k]).size ≤ 1000000) (hm : xs.length < 1000000) :
    Calls Tryz.prog 47 #[v] w fun e w' => e = .returned (.agg #[.int .i64 c, .int .i64 pl]) ∧ Below w.heap.size w w' := by
  by_cases h12 : 12 < xs.length
  · obtain ⟨rfl, rfl⟩ := fault_long hf h12
    obtain ⟨p, cap, rfl⟩ := hv.slice
    exact hfault_long p _ cap w h12 hm
  · rcases hv with ⟨rfl, p, cap, rfl⟩ | ⟨b, o, cap, rfl, hcap, hx⟩
    · obtain ⟨rfl, rfl⟩ := fault_none hf h12 (fun j hj => absurd hj (by simp))
      exact hfault_zero p cap w
    · exact hfault_core b o cap xs w c pl hx hf h12 hs

set_option maxHeartbeats 1000000 in
theorem long_core (b o cap : Nat) (xs : List ByteArray) (w : World) (hx : ∀ k (h : k < xs.length), w.cell? ⟨b, o + k, none⟩ = some (.string xs[k])) (hs : ∀ k (h : k < xs.length), (xs[k]).size ≤ maxLen) (h30 : ¬ 30 < xs.length) :
    Calls Tryz.prog 7 #[.slice (some ⟨b, o, none⟩) xs.length cap] w fun e w' => (e = .returned (.int .i64 1) ∨ (e = .returned (.int .i64 0) ∧ ∀ k (h : k < xs.length), (xs[k]).size ≤ 60)) ∧ w' = w := by
  have HX : Hid _ := hx
  have HS : Hid _ := hs
  have e30 : decide (30 < (xs.length : Int)) = false := by simp; omega
  clear hx hs
  go_enter Tryz.func7, Tryz.ntmps7
  go_wp2
  go_loop [3] (fun t => ∃ k : Nat, k ≤ xs.length ∧ t = .int .i64 k ∧ ∀ j (h : j < xs.length), j < k → (xs[j]).size ≤ 60) (fun t => xs.length - (intOf t).toNat)
  case atStart => exact ⟨0, Nat.zero_le _, rfl, fun j _ h => absurd h (by omega)⟩
  case round =>
    obtain ⟨k, hk, rfl, hpre⟩ := hrel
    have HP : Hid _ := hpre
    clear hpre
    by_cases hlt : k < xs.length
    · have cx := HX.out k hlt
      have hsz := HS.out k hlt
      unfold maxLen at hsz
      by_cases h60 : 60 < (xs[k]).size
      · have e60 : decide (60 < ((xs[k]).size : Int)) = true := by simp; omega
        go_wp2
        go_ret
        exact ⟨Or.inl rfl, rfl⟩
      · have e60 : decide (60 < ((xs[k]).size : Int)) = false := by simp; omega
        go_wp2
        go_round
        case rel =>
          refine ⟨k + 1, by omega, by go_num, fun j h hj => ?_⟩
          by_cases e : j = k
          · subst e; omega
          · exact HP.out j h (by omega)
        case measure => simp [intOf]; omega
    · go_wp2
      go_ret
      exact ⟨Or.inr ⟨rfl, fun j h => HP.out j h (by omega)⟩, rfl⟩
set_option maxHeartbeats 1000000 in
theorem long_zero (p : Option Addr) (cap : Nat) (w : World) :
    Calls Tryz.prog 7 #[.slice p 0 cap] w fun e w' => e = .returned (.int .i64 0) ∧ w' = w := by
  go_enter Tryz.func7, Tryz.ntmps7
  go_wp2
  refine wp_loop_rounds 1 ?_
  rw [rounds_succ]
  go_wp2
  go_ret
  exact ⟨rfl, rfl⟩
set_option maxHeartbeats 1000000 in
theorem long_long (p : Option Addr) (n cap : Nat) (w : World) (h30 : 30 < n) (hm : n ≤ maxLen) :
    Calls Tryz.prog 7 #[.slice p n cap] w fun e w' => e = .returned (.int .i64 1) ∧ w' = w := by
  unfold maxLen at hm
  have e30 : decide (30 < (n : Int)) = true := by simp; omega
  go_enter Tryz.func7, Tryz.ntmps7
  go_wp2
  go_ret
  exact ⟨rfl, rfl⟩
/-- LongHosts: 1, or 0, and then the list is short. -/
theorem long_any (v : Value) (xs : List ByteArray) (w : World) (hv : Strs w v xs) (hs : ∀ k (h : k < xs.length), (xs[k]).size ≤ maxLen) (hm : xs.length ≤ maxLen) :
    Calls Tryz.prog 7 #[v] w fun e w' => (e = .returned (.int .i64 1) ∨ (e = .returned (.int .i64 0) ∧ xs.length ≤ 30 ∧ ∀ k (h : k < xs.length), (xs[k]).size ≤ 60)) ∧ w' = w := by
  by_cases h30 : 30 < xs.length
  · obtain ⟨p, cap, rfl⟩ := hv.slice
    exact (long_long p _ cap w h30 hm).mono fun e w' ⟨h1, h2⟩ => ⟨Or.inl h1, h2⟩
  · rcases hv with ⟨rfl, p, cap, rfl⟩ | ⟨b, o, cap, rfl, hcap, hx⟩
    · exact (long_zero p cap w).mono fun e w' ⟨h1, h2⟩ => ⟨Or.inr ⟨h1, by simp, fun k h => absurd h (by simp)⟩, h2⟩
    · refine (long_core b o cap xs w hx hs h30).mono fun e w' ⟨h1, h2⟩ => ⟨?_, h2⟩
      rcases h1 with h1 | ⟨h1, h3⟩
      · exact Or.inl h1
      · exact Or.inr ⟨h1, by omega, h3⟩
end Go.Proofs.YtmdckddenelneaaGreatDoor

/- Own memory: OwnTexts. -/
namespace Go.Proofs.YtmdckddenelneaaGreatDoor
open Go.RowKit

/-- As a caller hands it over. -/
def Strs1 (w : World) (v : Value) (xs : List ByteArray) : Prop :=
  (xs = [] ∧ (v = .slice none 0 0 ∨ ∃ a c, v = .slice (some a) 0 c)) ∨ ∃ b o c, v = .slice (some ⟨b, o, none⟩) xs.length c ∧ xs.length ≤ c ∧ ∀ k (h : k < xs.length), w.cell? ⟨b, o + k, none⟩ = some (.string xs[k])
theorem Strs1.strs {w : World} {v : Value} {xs : List ByteArray} (h : Strs1 w v xs) : Strs w v xs := by
  rcases h with ⟨rfl, rfl | ⟨a, c, rfl⟩⟩ | h
  · exact Or.inl ⟨rfl, _, _, rfl⟩
  · exact Or.inl ⟨rfl, _, _, rfl⟩
  · exact Or.inr h
theorem Strs1.later {w w' : World} {v : Value} {xs : List ByteArray} (h : Strs1 w v xs) (hb : Below w.heap.size w w') : Strs1 w' v xs := by
  rcases h with h | ⟨b, o, c, rfl, hcap, hc⟩
  · exact Or.inl h
  · exact Or.inr ⟨b, o, c, rfl, hcap, fun k hk => below_cell hb (hc k hk)⟩

theorem infoS : (Tryz.prog.info? 9).map (fun i => (i.zero, i.size, i.bytes)) = some (some (.string ByteArray.empty), 1, 16) := by kernel_rfl

theorem strs_of_owns {w : World} {base n : Nat} {v : Value} {e : TypeId} {xs : List ByteArray} (h : w.ownsRow base e 1 v n (xs.map Value.string)) : Strs1 w v xs := by
  obtain ⟨hl, ⟨rfl, rfl⟩ | ⟨g, cap, cur, rfl, hbase, hb, hn, hm, hsz, ht⟩⟩ := h
  · have : xs = [] := by simpa using hl
    exact Or.inl ⟨this, Or.inl rfl⟩
  · have hl' : xs.length = n := by simpa using hl
    refine Or.inr ⟨g, 0, cap, by rw [hl'], by omega, fun k hk => ?_⟩
    have hk' : (cur.toList.take (n * 1))[k]? = some (.string xs[k]) := by rw [ht]; simp [hk]
    rw [List.getElem?_take_of_lt (by omega)] at hk'
    simp only [World.cell?, hb, Nat.zero_add]
    simpa using hk'

theorem owns_nil (w : World) (base : Nat) (e : TypeId) : w.ownsRow base e 1 (.slice none 0 0) 0 (([] : List ByteArray).map Value.string) := ⟨rfl, Or.inl ⟨rfl, rfl⟩⟩
theorem strs_oneCell (xs : List ByteArray) : ∀ u ∈ xs.map Value.string, u.oneCell' = true := by
  intro u hu
  obtain ⟨_, _, rfl⟩ := List.mem_map.1 hu
  rfl
theorem cells_strs {w : World} {b o : Nat} {xs : List ByteArray} (hx : ∀ k (h : k < xs.length), w.cell? ⟨b, o + k, none⟩ = some (.string xs[k])) : ∀ j u, (xs.map Value.string)[j]? = some u → w.cell? ((⟨b, o, none⟩ : Addr).add j) = some u := by
  intro j u hu
  obtain ⟨hj, rfl⟩ := List.getElem?_eq_some_iff.1 hu
  rw [Addr.add_lit, hx j (by simpa using hj)]
  simp
set_option maxHeartbeats 1000000 in
theorem ownTexts_any (v : Value) (xs : List ByteArray) (w : World) (hv : Strs1 w v xs) (hm : xs.length < 1000000) :
    Calls Tryz.prog 11 #[v] w fun e w' => ∃ v', e = .returned v' ∧ Strs1 w' v' xs ∧ Below w.heap.size w w' := by
  obtain ⟨i, hi, hz0, hz1, hz2⟩ := info_parts infoS
  have hmax : 0 + xs.length ≤ maxLen := by unfold maxLen; omega
  rcases hv with ⟨rfl, rfl | ⟨ad, c, rfl⟩⟩ | ⟨b, o, c, rfl, hcap, hx⟩
  · go_enter Tryz.func11, Tryz.ntmps11
    go_wp2_with (at_builtin; refine wpList_append_own_none rfl _ _ 22 rfl w.heap.size 9 i 1 Tryz.underlying22 hi (.slice none 0 0) 0 _ rfl (owns_nil w _ _) rfl ?_)
    go_ret
    exact ⟨_, rfl, Or.inl ⟨rfl, Or.inl rfl⟩, Below.refl _ _⟩
  · have hn : ([] : List ByteArray).map Value.string = [] := rfl
    have hnews : ∀ j u, (([] : List ByteArray).map Value.string)[j]? = some u → w.cell? (ad.add j) = some u := fun j u h => by simp at h
    go_enter Tryz.func11, Tryz.ntmps11
    go_wp2_with fail
    go_ret
    exact ⟨_, rfl, Or.inl ⟨rfl, Or.inl rfl⟩, Below.refl _ _⟩
  · have hnews := cells_strs hx
    go_enter Tryz.func11, Tryz.ntmps11
    go_wp2_with (at_builtin; refine wpList_append_own w rfl _ _ 22 rfl w.heap.size 9 i _ 1 16 Tryz.underlying22 hi hz0 hz1 hz2 rfl (by decide) (.slice none 0 0) 0 _ rfl (owns_nil w _ _) ⟨b, o, none⟩ xs.length c (xs.map Value.string) rfl (by simp) hnews (strs_oneCell xs) hmax (by omega) (Nat.le_refl _) ?_)
    intro v' w' hown hg _
    go_wp2
    go_ret
    refine ⟨_, rfl, strs_of_owns (by simpa using hown), below_grown hg (fun k h => by cases h)⟩
end Go.Proofs.YtmdckddenelneaaGreatDoor

/- The ring of points, pure: rotated it is sorted from a place on; different hosts in order; what goes, what comes. -/
namespace Go.Proofs.YtmdckddenelneaaGreatDoor
namespace Lh
abbrev Pt := Nat × ByteArray
def bl (s : ByteArray) : List UInt8 := s.data.toList
/- the points of hosts -/
/- rotated -/
def cut (f : Nat) (P : List Pt) : Nat := P.countP fun p => !decide (f ≤ p.1)
/-- where a key's way begins -/
def start (f : Nat) (P : List Pt) : Nat := if cut f P = P.length then 0 else cut f P
/- different hosts in order -/
instance memD (s : ByteArray) (out : List ByteArray) : Decidable (s ∈ out) :=
  if h : mem s out = true then .isTrue (by
    unfold mem at h
    rw [List.any_eq_true] at h
    obtain ⟨x, hx, e⟩ := h
    have := of_decide_eq_true e
    exact this ▸ hx) else .isFalse (fun k => h (mem_true k))
theorem filter_erase {xs : List ByteArray} (hn : xs.Nodup) {i : Nat} (hi : i < xs.length) : xs.take i ++ xs.drop (i + 1) = xs.filter fun s => decide (s ≠ xs[i]) := by
  have e : xs = xs.take i ++ xs[i] :: xs.drop (i + 1) := by rw [List.getElem_cons_drop, List.take_append_drop]
  have hn' := hn
  rw [e, List.nodup_append, List.nodup_cons] at hn'
  obtain ⟨_, ⟨h2, _⟩, h3⟩ := hn'
  generalize hw : xs[i] = w at *
  conv => rhs; rw [e]
  rw [List.filter_append, List.filter_cons]
  simp only [ne_eq, not_true_eq_false, decide_false, Bool.false_eq_true, if_false]
  congr 1
  · symm
    rw [List.filter_eq_self]
    intro a ha
    have := h3 a ha w List.mem_cons_self
    simpa using this
  · symm
    rw [List.filter_eq_self]
    intro a ha
    have : a ≠ w := fun e => h2 (e ▸ ha)
    simpa using this
end Lh
/- the order of the sort -/
end Go.Proofs.YtmdckddenelneaaGreatDoor

/- Small things that rings and rivals share: a list without a fault, errors, texts and keys in memory. -/
namespace Go.Proofs.YtmdckddenelneaaGreatDoor
open Go.RowKit

theorem nodup_good {xs : List ByteArray} (h : ∀ j, ∀ hj : j < xs.length, Good xs j hj) : xs.Nodup := by
  refine List.pairwise_iff_getElem.2 fun i j hi hj hij e => ?_
  have h2 := (h j hj).2
  rw [Lh.mem_true] at h2
  · cases h2
  · rw [List.mem_take_iff_getElem]
    exact ⟨i, by omega, e⟩
theorem fault0 {xs : List ByteArray} {pl : Int} (h : IsFault xs 0 pl) : pl = -1 ∧ xs.length ≤ 12 ∧ xs.Nodup := by
  rcases h with ⟨_, h, _⟩ | ⟨_, i, _, _, _, ⟨_, h⟩ | ⟨_, _, h⟩⟩ | ⟨h, hg, _, h'⟩
  · cases h
  · cases h
  · cases h
  · exact ⟨h', by omega, nodup_good hg⟩
theorem err0 {a : Nat → Addr} {W : World} {pl : Int} {v : Value} (h : ErrIs a W 0 pl v) : v = .nilIface := by
  rcases h with ⟨_, _, h⟩ | ⟨i, _, h, _⟩
  · exact h
  · omega
theorem errPos {a : Nat → Addr} {W : World} {c : Nat} {pl : Int} {v : Value} (h : ErrIs a W c pl v) (hc : c ≠ 0) : ∃ t x, v = .iface t x := by
  rcases h with ⟨h, _⟩ | ⟨j, _, _, ⟨_, h⟩ | ⟨b, h, _⟩⟩
  · exact absurd h hc
  · exact ⟨_, _, h⟩
  · exact ⟨_, _, h⟩
theorem owns_snoc {w : World} {base n : Nat} {v : Value} {e : TypeId} {out : List ByteArray} {s : ByteArray} (h : w.ownsRow base e 1 v n (out.map Value.string ++ [.string s])) : w.ownsRow base e 1 v n ((out ++ [s]).map Value.string) := by simpa using h
theorem cells_one {w : World} {t : TypeId} (s : ByteArray) : ∀ j u, [Value.string s][j]? = some u → (w.alloc (.cells #[.string s] t)).cell? ((⟨w.heap.size, 0, none⟩ : Addr).add j) = some u := by
  intro j u hu
  match j, hu with
  | 0, hu => simp at hu; subst hu; simp [Addr.add]
  | j + 1, hu => simp at hu
theorem fault_of {xs : List ByteArray} (h12 : xs.length ≤ 12) (hn : ∀ s ∈ xs, Lh.isNm s = true) (hd : xs.Nodup) : IsFault xs 0 (-1) := by
  refine Or.inr (Or.inr ⟨by omega, fun j hj => ⟨hn _ (List.getElem_mem hj), Lh.mem_false fun h => ?_⟩, rfl, rfl⟩)
  rw [List.mem_take_iff_getElem] at h
  obtain ⟨i, hi, e⟩ := h
  exact List.pairwise_iff_getElem.1 hd i j (by omega) hj (by omega) e
end Go.Proofs.YtmdckddenelneaaGreatDoor

/- The model of health in memory; Find and IsUp. -/
namespace Go.Proofs.YtmdckddenelneaaGreatDoor
open Go.RowKit

/-- a host of the model: its name, whether it is up, its looks since it turned, the slice that holds them -/
structure Mh where
  name : ByteArray
  up : Bool
  looks : List Bool
  val : Value
/-- how many of the other kind are at the end -/
def trail (up : Bool) (looks : List Bool) : Nat := (looks.reverse.takeWhile fun b => b != up).length
def Mh.st (x : Mh) : Lh.Hh := (x.name, x.up, trail x.up x.looks)
def hst (L : List Mh) : List Lh.Hh := L.map Mh.st
theorem owns_same {w w' : World} {base : Nat} {e : TypeId} {size : Nat} {v : Value} {n : Nat} {xs : List Value} (h : w.ownsRow base e size v n xs) (he : ∀ g, v.ownBlock = some g → w'.heap[g]? = w.heap[g]?) : w'.ownsRow base e size v n xs := by
  obtain ⟨h1, h2 | ⟨g, cap, cur, rfl, e2, e3, e4⟩⟩ := h
  · exact ⟨h1, Or.inl h2⟩
  · exact ⟨h1, Or.inr ⟨g, cap, cur, rfl, e2, (he g rfl).trans e3, e4⟩⟩
/-- the number that Find answers -/
def fi (l : List Lh.Hh) (s : ByteArray) : Int := if Lh.hix l s < l.length then ((Lh.hix l s : Nat) : Int) else -1
theorem fi_at {l : List Lh.Hh} {s : ByteArray} {k : Nat} (hk : k < l.length) (hp : ∀ j (h : j < l.length), j < k → (l[j]).1 ≠ s) (he : (l[k]).1 = s) : Lh.hix l s = k := by
  have h1 : Lh.hix l s < l.length := Lh.hix_lt.2 ⟨_, List.getElem_mem hk, he⟩
  rcases Nat.lt_trichotomy (Lh.hix l s) k with h | h | h
  · exact absurd (Lh.hix_get h1) (hp _ h1 h)
  · exact h
  · exact absurd he (Lh.hix_first hk h)

end Go.Proofs.YtmdckddenelneaaGreatDoor

/- The model of health: Find, IsUp and Ups. -/
namespace Go.Proofs.YtmdckddenelneaaGreatDoor
open Go.RowKit

theorem hup_at {l : List Lh.Hh} {s : ByteArray} (hn : (l.map fun x => x.1).Nodup) (h : Lh.hix l s < l.length) : Lh.hup l s = (l[Lh.hix l s]).2.1 := by
  have h1 := Lh.hix_get h
  cases e : (l[Lh.hix l s]).2.1 with
  | true =>
    unfold Lh.hup
    rw [List.any_eq_true]
    exact ⟨_, List.getElem_mem h, by simp [h1, e]⟩
  | false =>
    unfold Lh.hup
    rw [List.any_eq_false]
    intro x hx hc
    simp only [Bool.and_eq_true, decide_eq_true_eq] at hc
    obtain ⟨j, hj, rfl⟩ := List.getElem_of_mem hx
    have h2 : j = Lh.hix l s := by
      have h3 : (l.map fun x => x.1)[j]'(by simpa using hj) = (l.map fun x => x.1)[Lh.hix l s]'(by simpa using h) := by
        simp only [List.getElem_map]
        rw [hc.1, h1]
      exact (List.getElem_inj hn).1 h3
    subst h2
    rw [e] at hc
    cases hc.2
theorem hup_none {l : List Lh.Hh} {s : ByteArray} (h : ¬ Lh.hix l s < l.length) : Lh.hup l s = false := by
  unfold Lh.hup
  rw [List.any_eq_false]
  intro x hx hc
  simp only [Bool.and_eq_true, decide_eq_true_eq] at hc
  exact h (Lh.hix_lt.2 ⟨x, hx, hc.1⟩)

end Go.Proofs.YtmdckddenelneaaGreatDoor
