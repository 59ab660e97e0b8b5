/- mix.Sorted. -/
import Derived.Test.YtmdckddenelneaaGreatDoorM4
import Derived.Test.YtmdckddenelneaaGreatDoorSort
import Derived.Sort.OwnSorted
import Derived.Sort.Walk0
namespace Go.Proofs.YtmdckddenelneaaGreatDoor
open Go.RowKit Go.Sort

namespace Lh
/-- rising, byte by byte -/
def sortL (l : List (List UInt8)) : List (List UInt8) := l.mergeSort fun x y => decide (x ≤ y)
def sortT (xs : List ByteArray) : List ByteArray := (sortL (xs.map fun s => s.data.toList)).map fun l => ⟨l.toArray⟩
theorem sortL_length (l : List (List UInt8)) : (sortL l).length = l.length := List.length_mergeSort _
theorem sortT_length (xs : List ByteArray) : (sortT xs).length = xs.length := by simp [sortT, sortL_length]
end Lh

theorem Strs1.src {w : World} {v : Value} {xs : List ByteArray} (h : Strs1 w v xs) : ∃ sp c, v = .slice sp xs.length c ∧ (0 < xs.length → ∃ b o, sp = some ⟨b, o, none⟩ ∧ ∀ k (h : k < xs.length), w.cell? ⟨b, o + k, none⟩ = some (.string xs[k])) := by
  rcases h with ⟨rfl, rfl | ⟨a, c, rfl⟩⟩ | ⟨b, o, c, rfl, _, hc⟩
  · exact ⟨_, _, rfl, fun h => absurd h (by simp)⟩
  · exact ⟨_, _, rfl, fun h => absurd h (by simp)⟩
  · exact ⟨_, _, rfl, fun _ => ⟨b, o, rfl, hc⟩⟩

theorem sizeS : (Tryz.prog.info? 9).map (·.size) = some 1 := by kernel_rfl
theorem strs_enc (xs : List ByteArray) : xs.map Value.string = (xs.map fun s => s.data.toList).map encStr := by
  rw [List.map_map]; rfl
theorem enc_strs (l : List (List UInt8)) : l.map encStr = (l.map fun b => (⟨b.toArray⟩ : ByteArray)).map Value.string := by
  rw [List.map_map]; rfl

set_option maxHeartbeats 2000000 in
theorem sorted_good (a : Nat → Addr) (v : Value) (xs : List ByteArray) (w : World) (he : Errs a w) (hv : Strs1 w v xs) (hf : IsFault xs 0 (-1)) (hs : ∀ k (h : k < xs.length), (xs[k]).size ≤ 1000000) (hm : xs.length < 1000000) :
    Calls Tryz.prog 43 #[v] w fun e w' => ∃ v', e = .returned (.tuple #[v', .nilIface]) ∧ Strs1 w' v' (Lh.sortT xs) ∧ Below w.heap.size w w' := by
  obtain ⟨i, hi, hz0, hz1, hz2⟩ := info_parts infoS
  have hchk := check_any a v xs w 0 (-1) he hv.strs hf hs hm
  have HSRC : ∃ sp c, v = .slice sp xs.length c ∧ Hid (∀ W, Below w.heap.size w W → 0 < xs.length → ∃ ad, sp = some ad ∧ ∀ j u, (xs.map Value.string)[j]? = some u → W.cell? (ad.add j) = some u) := by
    obtain ⟨sp, c, rfl, h⟩ := hv.src
    refine ⟨sp, c, rfl, fun W hb hpos => ?_⟩
    obtain ⟨b, o, rfl, hc⟩ := h hpos
    exact ⟨_, rfl, cells_strs (fun k hk => below_cell hb (hc k hk))⟩
  obtain ⟨sp, c, rfl, HSRC⟩ := HSRC
  clear hv
  have hmax : xs.length ≤ maxLen := by unfold maxLen; omega
  have hbyt : i.bytes * xs.length ≤ 281474976710656 := by rw [hz2]; omega
  go_enter Tryz.func43, Tryz.ntmps43
  go_wp2_with fail
  refine hchk.mono ?_
  rintro e w1 ⟨ev, rfl, hev, hb1⟩
  have hev' : ev = .nilIface := by
    rcases hev with ⟨_, _, h⟩ | ⟨j, _, h, _⟩
    · exact h
    · omega
  subst hev'
  clear hev hchk
  go_wp2_with (at_make; refine wpList_make_full w1 rfl _ _ 22 rfl w1.heap.size 9 i _ 1 Tryz.underlying22 hi hz0 hz1 _ _ _ _ xs.length rfl rfl rfl rfl hbyt hmax (Nat.le_refl _) ?_)
  intro w2 hown hgrow
  have hb2 : Below w.heap.size w w2 := hb1.trans ((below_grown hgrow (fun k h => by cases h)).mono hb1.size)
  obtain ⟨hl, ⟨hnil, _⟩ | ⟨g, cap, cur, hgv, hbase, hbk, hn, hcm, hsz, ht⟩⟩ := hown
  · cases hnil
  obtain ⟨rfl, rfl⟩ : w1.heap.size = g ∧ xs.length = cap := by
    simp only [Value.slice.injEq, Option.some.injEq, Addr.mk.injEq] at hgv
    exact ⟨hgv.1.1, hgv.2.2⟩
  clear hgv hl ht hgrow hbase
  obtain ⟨cur⟩ := cur
  have hcl : cur.length = xs.length := by simpa using hsz
  go_wp2_with (refine wpList_copy_splice rfl (.tmp 14) (.tmp 15) 22 22 rfl 9 Tryz.underlying22 sizeS _ _ _ _ _ _ rfl rfl w1.heap.size 0 cur 9 hbk (xs.map Value.string) (by simp) (fun hp => ⟨rfl, HSRC.out _ hb2 (by simpa using hp)⟩) (by simp; omega) (strs_oneCell xs) w.heap.size w hb2 hb1.size ?_)
  intro w3 hg3 hb3
  have hspl : splice cur 0 (xs.map Value.string) = xs.map Value.string := by
    simp [splice, List.drop_of_length_le (show cur.length ≤ xs.length by omega)]
  have hblk : w3.heap[w1.heap.size]? = some (.cells (xs.map Value.string).toArray 9 (0, 0)) := by rw [← hspl]; exact hg3.out
  have hH : Holds encStr w3 w1.heap.size 0 (xs.map fun s => s.data.toList).toArray := holds_of_block hblk (by rw [← strs_enc, List.length_map]; exact List.take_of_length_le (by simp))
  have hlt : w1.heap.size < w3.heap.size := (Array.getElem?_eq_some_iff.1 hblk).1
  have hsort := sort_string w1.heap.size 0 xs.length (xs.map fun s => s.data.toList) w3 hH hlt (by simp; omega)
  rw [List.length_map] at hsort
  clear hH hspl hg3 hbk hcl
  go_wp2_with fail
  refine hsort.mono ?_
  rintro e w4 ⟨rfl, nn, os, hw4⟩
  have hown4 := ownsRow_sorted (n := nn) (os := os) (base := w.heap.size) (ts := Lh.sortL (xs.map fun s => s.data.toList)) (ss := xs.map fun s => s.data.toList) (cap := xs.length) (Lh.sortL_length _) hb1.size hblk (by simp) hmax (by simp)
  have hg4 := grownBy_sorted (w := w3) (g := w1.heap.size) (n := nn) (os := os) (Lh.sortL (xs.map fun s => s.data.toList)).toArray
  have e4 : w4 = grow (putRow encStr (Sort.ahead w3 nn) w1.heap.size 0 (Lh.sortL (xs.map fun s => s.data.toList)).toArray) os := hw4
  rw [← e4] at hown4 hg4
  clear hw4 e4 hsort hblk
  have hb4 : Below w.heap.size w w4 := hb3.grown hg4 hb3.size (fun k hk => by cases hk; exact hb1.size)
  rw [List.length_map, enc_strs] at hown4
  have hfin := strs_of_owns hown4
  have HFIN : Hid _ := hfin
  clear hfin hown4 hg4 hb3 hb2
  go_wp2
  go_ret2
  exact ⟨_, rfl, HFIN.out, hb4⟩

set_option maxHeartbeats 2000000 in
theorem sorted_bad (a : Nat → Addr) (v : Value) (xs : List ByteArray) (w : World) (c : Nat) (pl : Int) (he : Errs a w) (hv : Strs1 w v xs) (hf : IsFault xs c pl) (hc : c ≠ 0) (hs : ∀ k (h : k < xs.length), (xs[k]).size ≤ 1000000) (hm : xs.length < 1000000) :
    Calls Tryz.prog 43 #[v] w fun e w' => ∃ ev, e = .returned (.tuple #[.slice none 0 0, ev]) ∧ ErrIs a w' c pl ev ∧ Below w.heap.size w w' := by
  have hchk := check_any a v xs w c pl he hv.strs hf hs hm
  clear hv hf
  go_enter Tryz.func43, Tryz.ntmps43
  go_wp2_with fail
  refine hchk.mono ?_
  rintro e w1 ⟨ev, rfl, hev, hb1⟩
  have HEV : Hid _ := hev
  obtain ⟨t, x, rfl⟩ : ∃ t x, ev = .iface t x := by
    rcases hev with ⟨h, _⟩ | ⟨j, _, _, ⟨_, h⟩ | ⟨b, h, _⟩⟩
    · exact absurd h hc
    · exact ⟨_, _, h⟩
    · exact ⟨_, _, h⟩
  clear hev hchk
  go_wp2
  go_ret2
  exact ⟨_, rfl, HEV.out, hb1⟩
end Go.Proofs.YtmdckddenelneaaGreatDoor

/- The reference's SortedOf: laid in one by one, it is the list that slices.Sort makes. -/
namespace Go.Proofs.YtmdckddenelneaaGreatDoor
open Go.RowKit Go.Sort

namespace Lh
def leT (x y : ByteArray) : Prop := x.data.toList ≤ y.data.toList
theorem sort_unique {xs ys : List ByteArray} (hs : ys.Pairwise leT) (hp : ys.Perm xs) : ys = sortT xs := by
  have h1 : (ys.map fun s => s.data.toList) = sortL (xs.map fun s => s.data.toList) := by
    refine List.Perm.eq_of_pairwise (le := fun a b : List UInt8 => a ≤ b) (fun a b _ _ h k => List.le_antisymm h k) ?_ ?_ ?_
    · rw [List.pairwise_map]; exact hs
    · have := List.pairwise_mergeSort (le := fun x y : List UInt8 => decide (x ≤ y)) (fun a b c h k => by simp at h k ⊢; exact List.le_trans h k) (fun a b => by simp; exact List.le_total a b) (xs.map fun s => s.data.toList)
      exact this.imp (fun h => by simpa using h)
    · exact (hp.map _).trans (List.mergeSort_perm _ _).symm
  unfold sortT
  rw [← h1, List.map_map]
  have : ((fun l : List UInt8 => (⟨l.toArray⟩ : ByteArray)) ∘ fun s : ByteArray => s.data.toList) = id := rfl
  rw [this, List.map_id]

theorem ins_sorted {ys : List ByteArray} {x : ByteArray} {k : Nat} (hs : ys.Pairwise leT) (hk : k ≤ ys.length) (hlo : ∀ j (h : j < ys.length), j < k → leT ys[j] x) (hhi : ∀ h : k < ys.length, leT x ys[k]) :
    (ys.take k ++ x :: ys.drop k).Pairwise leT := by
  have hpw := List.pairwise_iff_getElem.1 hs
  have hlow : ∀ y ∈ ys.take k, leT y x := by
    intro y hy
    rw [List.mem_take_iff_getElem] at hy
    obtain ⟨j, hj, rfl⟩ := hy
    exact hlo j (by omega) (by omega)
  have hhigh : ∀ y ∈ ys.drop k, leT x y := by
    intro y hy
    rw [List.mem_drop_iff_getElem] at hy
    obtain ⟨j, hj, rfl⟩ := hy
    have hkl : k < ys.length := by omega
    rcases Nat.eq_zero_or_pos j with h | h
    · subst h; simpa using hhi hkl
    · exact List.le_trans (hhi hkl) (hpw k (k + j) hkl (by omega) (by omega))
  rw [List.pairwise_append, List.pairwise_cons]
  refine ⟨hs.sublist (List.take_sublist _ _), ⟨hhigh, hs.sublist (List.drop_sublist _ _)⟩, fun a ha b hb => ?_⟩
  rcases List.mem_cons.1 hb with rfl | hb
  · exact hlow a ha
  · exact List.le_trans (hlow a ha) (hhigh b hb)

theorem ins_perm {ys xs : List ByteArray} {n : Nat} (hn : n < xs.length) {k : Nat} (hp : ys.Perm (xs.take n)) : (ys.take k ++ xs[n] :: ys.drop k).Perm (xs.take (n + 1)) := by
  rw [List.take_succ_eq_append_getElem hn]
  refine List.perm_middle.trans ?_
  rw [List.take_append_drop]
  exact (hp.cons _).trans (List.perm_append_singleton _ _).symm
theorem less_true {x y : ByteArray} (h : Op.bytesLess x.toList y.toList = true) : leT x y := by
  rw [bytesLess_eq] at h
  have := List.le_of_lt (of_decide_eq_true h)
  rwa [ByteArray.toList_eq, ByteArray.toList_eq] at this
theorem less_false {x y : ByteArray} (h : Op.bytesLess x.toList y.toList = false) : leT y x := by
  rw [bytesLess_eq] at h
  have h' : ¬ x.toList < y.toList := of_decide_eq_false h
  have := List.not_lt.1 h'
  rwa [ByteArray.toList_eq, ByteArray.toList_eq] at this
end Lh
end Go.Proofs.YtmdckddenelneaaGreatDoor

/- The reference's SortedOf: the walk. -/
namespace Go.Proofs.YtmdckddenelneaaGreatDoor
open Go.RowKit Go.Sort

theorem owns_cells {w : World} {base n g cap : Nat} {e : TypeId} {xs : List ByteArray} (h : w.ownsRow base e 1 (.slice (some ⟨g, 0, none⟩) n cap) n (xs.map Value.string)) : ∀ k (h : k < xs.length), w.cell? ⟨g, k, none⟩ = some (.string xs[k]) := by
  intro k hk
  have hl : xs.length = n := by simpa using h.1
  rw [h.cellAt k (by omega)]
  simp [hk]

theorem owns_mono {w : World} {base base' n : Nat} {e : TypeId} {v : Value} {xs : List Value} (h : w.ownsRow base e 1 v n xs) (hb : base' ≤ base) : w.ownsRow base' e 1 v n xs := by
  obtain ⟨h1, h2 | ⟨g, cap, cur, e1, e2, e3⟩⟩ := h
  · exact ⟨h1, Or.inl h2⟩
  · exact ⟨h1, Or.inr ⟨g, cap, cur, e1, by omega, e3⟩⟩

set_option maxRecDepth 100000 in
set_option maxHeartbeats 1000000 in
theorem sortedOf_core (b o c : Nat) (xs : List ByteArray) (w : World) (hx : ∀ k (h : k < xs.length), w.cell? ⟨b, o + k, none⟩ = some (.string xs[k])) (hm : xs.length < 1000000) :
    Calls Tryz.prog 33 #[.slice (some ⟨b, o, none⟩) xs.length c] w fun e w' => ∃ v', e = .returned v' ∧ Strs1 w' v' (Lh.sortT xs) ∧ Below w.heap.size w w' := by
  obtain ⟨i, hi, hz0, hz1, hz2⟩ := info_parts infoS
  have HX : Hid _ := hx
  clear hx
  go_enter Tryz.func33, Tryz.ntmps33
  go_wp2
  go_loopw [3, 4] (fun vo t W => Below w.heap.size w W ∧ ∃ (n : Nat) (ys : List ByteArray), n ≤ xs.length ∧ t = .int .i64 n ∧ W.ownsRow w.heap.size 9 1 vo n (ys.map Value.string) ∧ ys.Pairwise Lh.leT ∧ ys.Perm (xs.take n)) (fun _ t _ => xs.length - (intOf t).toNat)
  case atStart => exact ⟨Below.refl _ _, 0, [], Nat.zero_le _, rfl, owns_nil _ _ _, List.Pairwise.nil, by simp⟩
  case round =>
    obtain ⟨hb, n, ys, hn, rfl, hown, hsort, hperm⟩ := hrel
    have HSO : Hid _ := hsort
    have HPE : Hid _ := hperm
    clear hsort hperm
    have hyl : ys.length = n := by simpa using hown.1
    by_cases hlt : n < xs.length
    · have cx := below_cell hb (HX.out n hlt)
      generalize hxn : xs[n] = x at *
      have HXN : Hid _ := hxn
      clear hxn
      obtain ⟨hl, ⟨rfl, rfl⟩ | ⟨g, cap, cur, rfl, hbase, hbk, hn', hcm, hsz, ht⟩⟩ := hown
      · obtain rfl : ys = [] := by simpa using hl
        rw [Nat.add_zero] at cx
        go_wp2_with fail
        refine wp_loop_rounds 1 ?_
        rw [rounds_succ]
        go_wp2_with fail
        go_quiet (fail)
        have hbs : ∀ q, w.heap.size ≤ ((wr.drewN nq).alloc q).heap.size := fun q => by
          have h1 : ((wr.drewN nq).alloc q).heap.size = wr.heap.size + 1 := by simp
          have := hb.size
          omega
        have hnew := cell_one_new (wr.drewN nq) (.string x) 9
        have hmx : 0 + 1 ≤ maxLen := by unfold maxLen; omega
        have tok1 : True := trivial
        have tok2 : True := trivial
        have tok3 : True := trivial
        go_wp2_with (first | (at_builtin; have _t := tok1; refine wpList_append_own_none rfl _ _ 22 rfl w.heap.size 9 i 1 Tryz.underlying22 hi (.slice none 0 0) 0 _ rfl (owns_nil _ _ _) rfl ?_; clear tok1 _t) | (at_builtin; have _t := tok2; refine wpList_append_own _ rfl _ _ 22 rfl w.heap.size 9 i _ 1 16 Tryz.underlying22 hi hz0 hz1 hz2 rfl (by decide) (.slice none 0 0) 0 _ rfl (owns_nil _ _ _) ⟨wr.heap.size, 0, none⟩ 1 1 [.string x] rfl rfl hnew (strs_oneCell [x]) hmx (by omega) (hbs _) ?_; intro v2 w2 hown2 hg2 hnil2; clear tok2 _t) | (at_builtin; have _t := tok3; refine wpList_append_own_none rfl _ _ 22 rfl w.heap.size 9 i 1 Tryz.underlying22 hi v2 (0 + 1) _ rfl hown2 rfl ?_; clear tok3 _t))
        have hb2 : Below w.heap.size w w2 := ((below_drewN hb nq).alloc (by have := hb.size; simpa using this) _).grown hg2 (hbs _) (fun k h => by cases h)
        refine ⟨⟨hb2, 1, [x], by omega, rfl, by simpa using hown2, List.pairwise_singleton _ _, ?_⟩, by simp [intOf]; omega⟩
        have := Lh.ins_perm (ys := []) (k := 0) hlt HPE.out
        rw [HXN.out] at this
        simpa using this
      · have hcy := fun k (h : k < ys.length) => owns_cells (w := wr) (base := w.heap.size) (e := 9) (n := n) (g := g) (cap := cap) (xs := ys) ⟨hl, Or.inr ⟨g, cap, cur, rfl, hbase, hbk, hn', hcm, hsz, ht⟩⟩ k h
        have HCY : Hid _ := hcy
        have HYL : Hid _ := hyl
        clear hcy hyl hl hsz ht hbk
        unfold maxLen at hcm
        generalize wr = W0 at *
        go_wp2_with fail
        go_loopw [5] (fun t W => Below W0.heap.size W0 W ∧ ∃ k : Nat, k ≤ n ∧ t = .int .i64 k ∧ ∀ j (h : j < ys.length), j < k → Lh.leT ys[j] x) (fun t _ => n - (intOf t).toNat)
        case atStart => exact ⟨Below.refl _ _, 0, Nat.zero_le _, rfl, fun j _ h => absurd h (by omega)⟩
        case round =>
          obtain ⟨hbr, k, hk, rfl, hlo⟩ := hrel
          have HLO : Hid _ := hlo
          clear hlo
          have cxr := below_cell hbr cx
          by_cases hkn : k < n
          · have hky : k < ys.length := by have := HYL.out; omega
            have cyr := below_cell hbr (HCY.out k hky)
            have hd : decide ((k : Int) < (n : Int)) = true := by simp; omega
            have hi1 : (k : Int) < (n : Int) := by omega
            have hi2 : (n : Int) < (xs.length : Int) := by omega
            generalize hyk : ys[k] = yk at *
            have HYK : Hid _ := hyk
            clear hyk
            cases hless : Op.bytesLess yk.toList x.toList with
            | true =>
              have HLE : Hid _ := Lh.less_true hless
              go_wp2_with fail
              go_quiet (fail)
              go_wp2_with fail
              refine ⟨⟨below_drewN hbr _, k + 1, by omega, by go_num, fun j h hj => ?_⟩, by simp [intOf]; omega⟩
              by_cases e : j = k
              · subst e; rw [HYK.out]; exact HLE.out
              · exact HLO.out j h (by omega)
            | false =>
              have HHI : Hid (∀ h : k < ys.length, Lh.leT x ys[k]) := fun h => by rw [HYK.out]; exact Lh.less_false hless
              go_wp2_with fail
              go_quiet (fail)
              have hbq : Below W0.heap.size W0 (wr.drewN nq) := below_drewN hbr nq
              have hsq : W0.heap.size ≤ (wr.drewN nq).heap.size := hbq.size
              have hs1 : ∀ j u, ((ys.take k).map Value.string)[j]? = some u → (wr.drewN nq).cell? ((⟨g, 0, none⟩ : Addr).add j) = some u := cells_strs (fun j hj => by
                have hj' : j < ys.length := by simp at hj; omega
                have := below_cell hbq (HCY.out j hj')
                rw [Nat.zero_add, this]; simp)
              have hlt1 : ((ys.take k).map Value.string).length = k * 1 := by have := HYL.out; simp; omega
              have hs3 : ∀ W, Below W0.heap.size W0 W → ∀ j u, ((ys.drop k).map Value.string)[j]? = some u → W.cell? ((⟨g, k, none⟩ : Addr).add j) = some u := fun W hW => cells_strs (fun j hj => by
                have hj' : k + j < ys.length := by simp at hj; omega
                have := below_cell hW (HCY.out (k + j) hj')
                rw [this]; simp)
              have hlt3 : ((ys.drop k).map Value.string).length = (n - k) * 1 := by have := HYL.out; simp; omega
              have hm1 : 0 + k ≤ maxLen := by unfold maxLen; omega
              have hm2 : 0 + k + 1 ≤ maxLen := by unfold maxLen; omega
              have hm3 : 0 + k + 1 + (n - k) ≤ maxLen := by unfold maxLen; omega
              have HHS : Hid _ := hs3
              clear hs3
              have tok1 : True := trivial
              have tok2 : True := trivial
              have tok3 : True := trivial
              go_wp2_with (first | (at_builtin; have _t := tok1; refine wpList_append_own _ rfl _ _ 22 rfl W0.heap.size 9 i _ 1 16 Tryz.underlying22 hi hz0 hz1 hz2 rfl (by decide) (.slice none 0 0) 0 _ rfl (owns_nil _ _ _) ⟨g, 0, none⟩ k cap ((ys.take k).map Value.string) rfl hlt1 hs1 (strs_oneCell _) hm1 (by omega) hsq ?_; intro v1 w1 hown1 hg1 hnil1; have hb1 : Below W0.heap.size W0 w1 := hbq.grown hg1 hsq (fun k h => by cases h); have cx1 := below_cell hb1 cx; clear tok1 _t hnil1) | (at_builtin; have _t := tok2; refine wpList_append_own _ rfl _ _ 22 rfl W0.heap.size 9 i _ 1 16 Tryz.underlying22 hi hz0 hz1 hz2 rfl (by decide) v1 (0 + k) _ rfl (hown1.alloc _) ⟨w1.heap.size, 0, none⟩ 1 1 [.string x] rfl rfl (cell_one_new w1 (.string x) 9) (strs_oneCell [x]) hm2 (by omega) (Nat.le_trans hb1.size (by simp)) ?_; intro v2 w2 hown2 hg2 hnil2; have hb2 : Below W0.heap.size W0 w2 := (hb1.alloc hb1.size _).grown hg2 (Nat.le_trans hb1.size (by simp)) (fun k h => (hown1.lt k h).1); clear tok2 _t hnil2) | (at_builtin; have _t := tok3; refine wpList_append_own _ rfl _ _ 22 rfl W0.heap.size 9 i _ 1 16 Tryz.underlying22 hi hz0 hz1 hz2 rfl (by decide) v2 (0 + k + 1) _ rfl hown2 ⟨g, k, none⟩ (n - k) (cap - k) ((ys.drop k).map Value.string) rfl hlt3 (HHS.out _ hb2) (strs_oneCell _) hm3 (by omega) hb2.size ?_; intro v3 w3 hown3 hg3 hnil3; clear tok3 _t hnil3))
              have hb3 : Below W0.heap.size W0 w3 := hb2.grown hg3 hb2.size (fun k h => (hown2.lt k h).1)
              refine ⟨⟨hb.trans (hb3.mono hb.size), n + 1, ys.take k ++ x :: ys.drop k, by omega, by go_num, ?_, Lh.ins_sorted HSO.out (by have := HYL.out; omega) HLO.out HHI.out, ?_⟩, by simp [intOf]; omega⟩
              · have h3 := owns_mono hown3 hb.size
                rw [show 0 + k + 1 + (n - k) = n + 1 by omega] at h3
                simpa using h3
              · have := Lh.ins_perm (k := k) hlt HPE.out
                rwa [HXN.out] at this
          · have hkk : k = n := by omega
            subst hkk
            have HHI : Hid (∀ h : k < ys.length, Lh.leT x ys[k]) := fun h => absurd h (by have := HYL.out; omega)
            have hd : decide ((k : Int) < (k : Int)) = false := by simp
            have hi2 : (k : Int) < (xs.length : Int) := by omega
            go_wp2_with fail
            go_quiet (fail)
            have hbq : Below W0.heap.size W0 (wr.drewN nq) := below_drewN hbr nq
            have hsq : W0.heap.size ≤ (wr.drewN nq).heap.size := hbq.size
            have hs1 : ∀ j u, ((ys.take k).map Value.string)[j]? = some u → (wr.drewN nq).cell? ((⟨g, 0, none⟩ : Addr).add j) = some u := cells_strs (fun j hj => by
              have hj' : j < ys.length := by simp at hj; omega
              have := below_cell hbq (HCY.out j hj')
              rw [Nat.zero_add, this]; simp)
            have hlt1 : ((ys.take k).map Value.string).length = k * 1 := by have := HYL.out; simp; omega
            have hs3 : ∀ (W : World) (ad : Addr) j u, (([] : List ByteArray).map Value.string)[j]? = some u → W.cell? (ad.add j) = some u := fun W ad j u h => by simp at h
            have hm1 : 0 + k ≤ maxLen := by unfold maxLen; omega
            have hm2 : 0 + k + 1 ≤ maxLen := by unfold maxLen; omega
            have hm3 : 0 + k + 1 + 0 ≤ maxLen := by unfold maxLen; omega
            obtain ⟨ad, hif⟩ : ∃ ad : Addr, (if cap = k then (some ⟨g, 0, none⟩ : Option Addr) else some ⟨g, k, none⟩) = some ad := by
              by_cases h : cap = k
              · exact ⟨_, by rw [if_pos h]⟩
              · exact ⟨_, by rw [if_neg h]⟩
            have HHS : Hid _ := hs3
            clear hs3
            have tok1 : True := trivial
            have tok2 : True := trivial
            have tok3 : True := trivial
            go_wp2_with (first | (at_builtin; have _t := tok1; refine wpList_append_own _ rfl _ _ 22 rfl W0.heap.size 9 i _ 1 16 Tryz.underlying22 hi hz0 hz1 hz2 rfl (by decide) (.slice none 0 0) 0 _ rfl (owns_nil _ _ _) ⟨g, 0, none⟩ k cap ((ys.take k).map Value.string) rfl hlt1 hs1 (strs_oneCell _) hm1 (by omega) hsq ?_; intro v1 w1 hown1 hg1 hnil1; have hb1 : Below W0.heap.size W0 w1 := hbq.grown hg1 hsq (fun k h => by cases h); have cx1 := below_cell hb1 cx; clear tok1 _t hnil1) | (at_builtin; have _t := tok2; refine wpList_append_own _ rfl _ _ 22 rfl W0.heap.size 9 i _ 1 16 Tryz.underlying22 hi hz0 hz1 hz2 rfl (by decide) v1 (0 + k) _ rfl (hown1.alloc _) ⟨w1.heap.size, 0, none⟩ 1 1 [.string x] rfl rfl (cell_one_new w1 (.string x) 9) (strs_oneCell [x]) hm2 (by omega) (Nat.le_trans hb1.size (by simp)) ?_; intro v2 w2 hown2 hg2 hnil2; have hb2 : Below W0.heap.size W0 w2 := (hb1.alloc hb1.size _).grown hg2 (Nat.le_trans hb1.size (by simp)) (fun k h => (hown1.lt k h).1); clear tok2 _t hnil2) | (at_builtin; have _t := tok3; refine wpList_append_own _ rfl _ _ 22 rfl W0.heap.size 9 i _ 1 16 Tryz.underlying22 hi hz0 hz1 hz2 rfl (by decide) v2 (0 + k + 1) _ rfl hown2 ad 0 (cap - k) (([] : List ByteArray).map Value.string) rfl rfl (HHS.out _ _) (strs_oneCell _) hm3 (by omega) hb2.size ?_; intro v3 w3 hown3 hg3 hnil3; clear tok3 _t hnil3))
            have hb3 : Below W0.heap.size W0 w3 := hb2.grown hg3 hb2.size (fun k h => (hown2.lt k h).1)
            refine ⟨⟨hb.trans (hb3.mono hb.size), k + 1, ys.take k ++ x :: ys.drop k, by omega, by go_num, ?_, Lh.ins_sorted HSO.out (by have := HYL.out; omega) HLO.out HHI.out, ?_⟩, by simp [intOf]; omega⟩
            · have h3 := owns_mono hown3 hb.size
              rw [show 0 + k + 1 + 0 = k + 1 by omega] at h3
              have hdr : ys.drop k = [] := List.drop_of_length_le (by have := HYL.out; omega)
              rw [hdr]
              simpa using h3
            · have := Lh.ins_perm (k := k) hlt HPE.out
              rwa [HXN.out] at this
    · have hfull : xs.take n = xs := List.take_of_length_le (by omega)
      have hperm := HPE.out
      rw [hfull] at hperm
      have hfin := Lh.sort_unique HSO.out hperm
      have hst := strs_of_owns hown
      rw [hfin] at hst
      have HST : Hid _ := hst
      clear hst hfin hperm hfull hown hyl
      go_wp2
      go_ret
      exact ⟨_, rfl, HST.out, hb⟩
end Go.Proofs.YtmdckddenelneaaGreatDoor
