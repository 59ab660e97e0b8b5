/- tabled: one host has all slots. -/
import Derived.Test.YtedbhahkldfmiaaDoorTableOf
import Derived.Test.YtedbhahkldfmiaaDoorRow
import Derived.Test.YtedbhahkldfmiaaDoorNames
namespace Go.Proofs.YtedbhahkldfmiaaDoor
open Go.RowKit

def nameA : ByteArray := ⟨#[97]⟩
theorem nameA_nm : Lh.isNm nameA = true := by decide +kernel
theorem faultA : IsFault [nameA] 0 (-1) := by
  refine Or.inr (Or.inr ⟨by simp, fun j hj => ?_, rfl, rfl⟩)
  have : j = 0 := by simp at hj; omega
  subst this
  exact ⟨nameA_nm, rfl⟩
theorem sizeA : nameA.size ≤ 300 := by decide +kernel
theorem prm3 : Lh.Prm 3 := ⟨by decide, fun k h2 h3 => by
  have : k = 2 := by omega
  subst this
  decide⟩
theorem tab3 : Lh.tab [nameA] 3 3 = [0, 0, 0] := by
  have hl : (Lh.tab [nameA] 3 3).length = 3 := Lh.tab_length _ _ _
  have hz : ∀ x, x < 3 → (Lh.tab [nameA] 3 3).getD x 0 = 0 := fun x hx => by
    obtain ⟨i, hi, e⟩ := Lh.tab_full (xs := [nameA]) prm3 (by simp) hx
    have : i = 0 := by simp at hi; omega
    subst this
    exact e
  generalize Lh.tab [nameA] 3 3 = t at *
  match t, hl with
  | [x, y, z], _ =>
    have h0 := hz 0 (by decide)
    have h1 := hz 1 (by decide)
    have h2 := hz 2 (by decide)
    simp at h0 h1 h2
    rw [h0, h1, h2]
theorem strs1_A (w : World) : Strs1 (w.alloc (.cells #[.string nameA] 9)) (.slice (some ⟨w.heap.size, 0, none⟩) 1 1) [nameA] :=
  Or.inr ⟨w.heap.size, 0, 1, rfl, by simp, fun k hk => by
    have : k = 0 := by simp at hk; omega
    subst this
    simp⟩

set_option maxRecDepth 100000 in
set_option maxHeartbeats 2000000 in
theorem tabled_any (a : Nat → Addr) (w : World) (he : Errs a w) :
    Calls Tryd.prog 30 #[] w fun e w' => e = .returned (.bool true) ∧ Below w.heap.size w w' := by
  have hbW := (Below.refl w.heap.size w).alloc (Nat.le_refl _) (.cells #[.string nameA] 9)
  have hmk := make_good a _ [nameA] 3 _ (he.later hbW) (strs1_A w) (by simp) faultA (fun k hk => by
    have : k = 0 := by simp at hk; omega
    subst this
    exact sizeA) prm3 (by decide)
  rw [tab3] at hmk
  unfold nameA at hmk
  clear he
  go_enter Tryd.func30, Tryd.ntmps30
  go_wp2_with fail
  refine hmk.mono ?_
  rintro e w1 ⟨g, rfl, hg, hr, hb1⟩
  have hb : Below w.heap.size w w1 := hbW.trans (hb1.mono (by simp))
  have hbA := (Below.refl w1.heap.size w1).alloc (Nat.le_refl _) (.cells #[.int .i64 0, .int .i64 0, .int .i64 0] 3)
  have hsame := sameInts_any (.slice (some ⟨g, 0, none⟩) 3 3) (.slice (some ⟨w1.heap.size, 0, none⟩) 3 3) [0, 0, 0] [0, 0, 0] (w1.alloc (.cells #[.int .i64 0, .int .i64 0, .int .i64 0] 3)) ((hr.later hbA).ints 3) (ints_alloc w1 [0, 0, 0] 3 3) (by simp) (by simp)
  rw [decide_eq_true rfl] at hsame
  clear hmk hbW hb1 hr
  go_wp2_with fail
  refine hsame.mono ?_
  rintro e w2 ⟨rfl, hb2⟩
  have hbz : Below w.heap.size w w2 := below_then (below_then hb hbA) hb2
  go_wp2
  go_ret
  exact ⟨rfl, hbz⟩
end Go.Proofs.YtedbhahkldfmiaaDoor
