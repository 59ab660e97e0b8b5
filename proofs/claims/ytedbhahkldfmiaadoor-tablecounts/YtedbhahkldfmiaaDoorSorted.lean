/- mix.Sorted. -/
import Derived.Test.YtedbhahkldfmiaaDoorOwn
import Derived.Test.YtedbhahkldfmiaaDoorSort
import Derived.Sort.OwnSorted
namespace Go.Proofs.YtedbhahkldfmiaaDoor
open Go.RowKit Go.Sort

namespace Lh
/-- rising, byte by byte -/
def sortL (l : List (List UInt8)) : List (List UInt8) := l.mergeSort fun x y => decide (x ≤ y)
def sortT (xs : List ByteArray) : List ByteArray := (sortL (xs.map fun s => s.data.toList)).map fun l => ⟨l.toArray⟩
theorem sortL_length (l : List (List UInt8)) : (sortL l).length = l.length := List.length_mergeSort _
theorem sortT_length (xs : List ByteArray) : (sortT xs).length = xs.length := by simp [sortT, sortL_length]
end Lh

theorem Strs1.src {w : World} {v : Value} {xs : List ByteArray} (h : Strs1 w v xs) : ∃ sp c, v = .slice sp xs.length c ∧ (0 < xs.length → ∃ b o, sp = some ⟨b, o, none⟩ ∧ ∀ k (h : k < xs.length), w.cell? ⟨b, o + k, none⟩ = some (.string xs[k])) := by
  rcases h with ⟨rfl, rfl | ⟨a, c, rfl⟩⟩ | ⟨b, o, c, rfl, _, hc⟩
  · exact ⟨_, _, rfl, fun h => absurd h (by simp)⟩
  · exact ⟨_, _, rfl, fun h => absurd h (by simp)⟩
  · exact ⟨_, _, rfl, fun _ => ⟨b, o, rfl, hc⟩⟩

theorem sizeS : (Tryd.prog.info? 9).map (·.size) = some 1 := by kernel_rfl
theorem encStr_data (s : ByteArray) : encStr s.data.toList = .string s := rfl
theorem strs_enc (xs : List ByteArray) : xs.map Value.string = (xs.map fun s => s.data.toList).map encStr := by
  rw [List.map_map]; rfl
theorem enc_strs (l : List (List UInt8)) : l.map encStr = (l.map fun b => (⟨b.toArray⟩ : ByteArray)).map Value.string := by
  rw [List.map_map]; rfl

set_option maxHeartbeats 2000000 in
theorem sorted_good (a : Nat → Addr) (v : Value) (xs : List ByteArray) (w : World) (he : Errs a w) (hv : Strs1 w v xs) (hf : IsFault xs 0 (-1)) (hs : ∀ k (h : k < xs.length), (xs[k]).size ≤ 1000000) (hm : xs.length < 1000000) :
    Calls Tryd.prog 24 #[v] w fun e w' => ∃ v', e = .returned (.tuple #[v', .nilIface]) ∧ Strs1 w' v' (Lh.sortT xs) ∧ Below w.heap.size w w' := by
  obtain ⟨i, hi, hz0, hz1, hz2⟩ := info_parts infoS
  have hchk := check_any a v xs w 0 (-1) he hv.strs hf hs hm
  have HSRC : ∃ sp c, v = .slice sp xs.length c ∧ Hid (∀ W, Below w.heap.size w W → 0 < xs.length → ∃ ad, sp = some ad ∧ ∀ j u, (xs.map Value.string)[j]? = some u → W.cell? (ad.add j) = some u) := by
    obtain ⟨sp, c, rfl, h⟩ := hv.src
    refine ⟨sp, c, rfl, fun W hb hpos => ?_⟩
    obtain ⟨b, o, rfl, hc⟩ := h hpos
    exact ⟨_, rfl, cells_strs (fun k hk => below_cell hb (hc k hk))⟩
  obtain ⟨sp, c, rfl, HSRC⟩ := HSRC
  clear hv
  have hmax : xs.length ≤ maxLen := by unfold maxLen; omega
  have hbyt : i.bytes * xs.length ≤ 281474976710656 := by rw [hz2]; omega
  go_enter Tryd.func24, Tryd.ntmps24
  go_wp2_with fail
  refine hchk.mono ?_
  rintro e w1 ⟨ev, rfl, hev, hb1⟩
  have hev' : ev = .nilIface := by
    rcases hev with ⟨_, _, h⟩ | ⟨j, _, h, _⟩
    · exact h
    · omega
  subst hev'
  clear hev hchk
  go_wp2_with (at_make; refine wpList_make_full w1 rfl _ _ 35 rfl w1.heap.size 9 i _ 1 Tryd.underlying35 hi hz0 hz1 _ _ _ _ xs.length rfl rfl rfl rfl hbyt hmax (Nat.le_refl _) ?_)
  intro w2 hown hgrow
  have hb2 : Below w.heap.size w w2 := hb1.trans ((below_grown hgrow (fun k h => by cases h)).mono hb1.size)
  obtain ⟨hl, ⟨hnil, _⟩ | ⟨g, cap, cur, hgv, hbase, hbk, hn, hcm, hsz, ht⟩⟩ := hown
  · cases hnil
  obtain ⟨rfl, rfl⟩ : w1.heap.size = g ∧ xs.length = cap := by
    simp only [Value.slice.injEq, Option.some.injEq, Addr.mk.injEq] at hgv
    exact ⟨hgv.1.1, hgv.2.2⟩
  clear hgv hl ht hgrow hbase
  obtain ⟨cur⟩ := cur
  have hcl : cur.length = xs.length := by simpa using hsz
  go_wp2_with (refine wpList_copy_splice rfl (.tmp 14) (.tmp 15) 35 35 rfl 9 Tryd.underlying35 sizeS _ _ _ _ _ _ rfl rfl w1.heap.size 0 cur 9 hbk (xs.map Value.string) (by simp) (fun hp => ⟨rfl, HSRC.out _ hb2 (by simpa using hp)⟩) (by simp; omega) (strs_oneCell xs) w.heap.size w hb2 hb1.size ?_)
  intro w3 hg3 hb3
  have hspl : splice cur 0 (xs.map Value.string) = xs.map Value.string := by
    simp [splice, List.drop_of_length_le (show cur.length ≤ xs.length by omega)]
  have hblk : w3.heap[w1.heap.size]? = some (.cells (xs.map Value.string).toArray 9 (0, 0)) := by rw [← hspl]; exact hg3.out
  have hH : Holds encStr w3 w1.heap.size 0 (xs.map fun s => s.data.toList).toArray := holds_of_block hblk (by rw [← strs_enc, List.length_map]; exact List.take_of_length_le (by simp))
  have hlt : w1.heap.size < w3.heap.size := (Array.getElem?_eq_some_iff.1 hblk).1
  have hsort := sort_string w1.heap.size 0 xs.length (xs.map fun s => s.data.toList) w3 hH hlt (by simp; omega)
  rw [List.length_map] at hsort
  clear hH hspl hg3 hbk hcl
  go_wp2_with fail
  refine hsort.mono ?_
  rintro e w4 ⟨rfl, nn, os, hw4⟩
  have hown4 := ownsRow_sorted (n := nn) (os := os) (base := w.heap.size) (ts := Lh.sortL (xs.map fun s => s.data.toList)) (ss := xs.map fun s => s.data.toList) (cap := xs.length) (Lh.sortL_length _) hb1.size hblk (by simp) hmax (by simp)
  have hg4 := grownBy_sorted (w := w3) (g := w1.heap.size) (n := nn) (os := os) (Lh.sortL (xs.map fun s => s.data.toList)).toArray
  have e4 : w4 = grow (putRow encStr (Sort.ahead w3 nn) w1.heap.size 0 (Lh.sortL (xs.map fun s => s.data.toList)).toArray) os := hw4
  rw [← e4] at hown4 hg4
  clear hw4 e4 hsort hblk
  have hb4 : Below w.heap.size w w4 := hb3.grown hg4 hb3.size (fun k hk => by cases hk; exact hb1.size)
  rw [List.length_map, enc_strs] at hown4
  have hfin := strs_of_owns hown4
  have HFIN : Hid _ := hfin
  clear hfin hown4 hg4 hb3 hb2
  go_wp2
  go_ret2
  exact ⟨_, rfl, HFIN.out, hb4⟩

set_option maxHeartbeats 2000000 in
theorem sorted_bad (a : Nat → Addr) (v : Value) (xs : List ByteArray) (w : World) (c : Nat) (pl : Int) (he : Errs a w) (hv : Strs1 w v xs) (hf : IsFault xs c pl) (hc : c ≠ 0) (hs : ∀ k (h : k < xs.length), (xs[k]).size ≤ 1000000) (hm : xs.length < 1000000) :
    Calls Tryd.prog 24 #[v] w fun e w' => ∃ ev, e = .returned (.tuple #[.slice none 0 0, ev]) ∧ ErrIs a w' c pl ev ∧ Below w.heap.size w w' := by
  have hchk := check_any a v xs w c pl he hv.strs hf hs hm
  clear hv hf
  go_enter Tryd.func24, Tryd.ntmps24
  go_wp2_with fail
  refine hchk.mono ?_
  rintro e w1 ⟨ev, rfl, hev, hb1⟩
  have HEV : Hid _ := hev
  obtain ⟨t, x, rfl⟩ : ∃ t x, ev = .iface t x := by
    rcases hev with ⟨h, _⟩ | ⟨j, _, _, ⟨_, h⟩ | ⟨b, h, _⟩⟩
    · exact absurd h hc
    · exact ⟨_, _, h⟩
    · exact ⟨_, _, h⟩
  clear hev hchk
  go_wp2
  go_ret2
  exact ⟨_, rfl, HEV.out, hb1⟩
end Go.Proofs.YtedbhahkldfmiaaDoor
