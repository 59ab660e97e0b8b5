/- The landed byScore, whole. -/
import Derived.Test.YtffobmiacinngaaDoorVOrd
import Derived.Test.YtffobmiacinngaaDoorVClone
namespace Go.Proofs.YtffobmiacinngaaDoor
open Go.RowKit Go.Sort Go.Shelf Go.Lib

theorem attach_val {xs : List ByteArray} (hs : ∀ s ∈ xs, s.size ≤ 300) : (xs.attachWith (fun s => s.size ≤ 300) hs).map (·.1) = xs := List.attachWith_map_subtype_val _
/-- A row of texts that one has made, as the sort wants it. -/
theorem holds_of_owns {w : World} {base : Nat} {v : Value} {e : TypeId} {xs : List ByteArray} (hs : ∀ s ∈ xs, s.size ≤ 300) (h : w.ownsRow base e 1 v xs.length (xs.map Value.string)) (h0 : 0 < xs.length) :
    ∃ g cap, v = .slice (some ⟨g, 0, none⟩) xs.length cap ∧ base ≤ g ∧ g < w.heap.size ∧ xs.length ≤ cap ∧ Holds encS w g 0 (xs.attachWith (fun s => s.size ≤ 300) hs).toArray := by
  obtain ⟨hl, ⟨rfl, h'⟩ | ⟨g, cap, cur, rfl, hbase, hb, hn, hm, hsz, ht⟩⟩ := h
  · omega
  · have hlt : g < w.heap.size := (Array.getElem?_eq_some_iff.1 hb).1
    refine ⟨g, cap, rfl, hbase, hlt, hn, fun j hj => ⟨?_, by simp [World.frozen?, hb]⟩⟩
    have hj' : j < xs.length := by simpa using hj
    have hk' : (cur.toList.take (xs.length * 1))[j]? = some (.string xs[j]) := by rw [ht]; simp [hj']
    rw [List.getElem?_take_of_lt (by omega)] at hk'
    simp only [World.cell?, hb, Nat.zero_add]
    have e : (xs.attachWith (fun s => s.size ≤ 300) hs).toArray[j]! = ⟨xs[j], hs _ (List.getElem_mem hj')⟩ := by simp [hj']
    rw [e]
    simpa [encS] using hk'

set_option maxRecDepth 100000 in
set_option maxHeartbeats 2000000 in
theorem byScore_any (v : Value) (xs : List ByteArray) (k : Nat) (hk : k < 18446744073709551616) (w : World) (hv : Strs1 w v xs) (h0 : 0 < xs.length) (hm : xs.length < 1000000) (hs : ∀ s ∈ xs, s.size ≤ 300) :
    Calls Tryd.prog 82 #[v, .int .u64 (k : Nat)] w fun e w' => ∃ v', e = .returned v' ∧ Strs1 w' v' (Lh.order (Lh.score k) xs) ∧ Below w.heap.size w w' := by
  have hbW := (Below.refl w.heap.size w).alloc (Nat.le_refl _) (.cells #[.int .u64 (k : Nat)] 36)
  have hck : (w.alloc (.cells #[.int .u64 (k : Nat)] 36)).cell? ⟨w.heap.size, 0, none⟩ = some (.int .u64 (k : Nat)) := by simp
  have hsz1 : (w.alloc (.cells #[.int .u64 (k : Nat)] 36)).heap.size = w.heap.size + 1 := by simp
  obtain ⟨b, o, c, rfl, hx⟩ := strsPos hv h0
  have hcl := clone_any b o c xs (w.alloc (.cells #[.int .u64 (k : Nat)] 36)) (fun j h => below_cell hbW (hx j h)) hm
  have HK : Hid (k < 18446744073709551616) := hk
  have HS : Hid (∀ s ∈ xs, s.size ≤ 300) := hs
  clear hv hx hs hk
  go_enter Tryd.func82, Tryd.ntmps82
  go_wp2_with fail
  refine hcl.mono ?_
  clear hcl
  generalize w.alloc (.cells #[.int .u64 (k : Nat)] 36) = w0 at *
  rintro e w1 ⟨v', rfl, hown, hb1⟩
  have hbw1 : Below w.heap.size w w1 := hbW.trans (hb1.mono hbW.size)
  have hck1 := below_cell hb1 hck
  have hklt : w.heap.size < w1.heap.size := by have := hb1.size; omega
  obtain ⟨g, cp, rfl, hg0, hg1, hcp, hH⟩ := holds_of_owns HS.out hown h0
  have hsort := sortR k HK.out g w.heap.size cp (xs.attachWith (fun s => s.size ≤ 300) HS.out) w1 (by omega) hklt hck1 hH hg1 (by simpa using hm)
  rw [attach_val, List.length_attachWith] at hsort
  clear hown hb1 hck hck1 hH
  go_wp2_with fail
  refine hsort.mono ?_
  rintro e w2 ⟨rfl, hgr, d', hd', hcells⟩
  have hb2 : Below w.heap.size w w2 := hbw1.grown hgr hbw1.size (fun k hk => by cases hk; omega)
  have HF : Hid (Strs1 w2 (.slice (some ⟨g, 0, none⟩) xs.length cp) (Lh.order (Lh.score k) xs)) := by
    have hl : (Lh.order (Lh.score k) xs).length = xs.length := Lh.order_length _ _
    refine Or.inr ⟨g, 0, cp, by rw [hl], by omega, fun j hj => ?_⟩
    have hj' : j < d'.length := by rw [← hd', List.length_map] at hj; exact hj
    rw [Nat.zero_add, hcells j hj']
    congr 2
    have : (Lh.order (Lh.score k) xs)[j] = (d'.map (·.1))[j]'(by simpa using hj') := by congr 1; exact hd'.symm
    rw [this, List.getElem_map]
  clear hsort hgr hd' hcells
  go_wp2
  go_ret
  exact ⟨_, rfl, HF.out, hb2⟩
end Go.Proofs.YtffobmiacinngaaDoor
