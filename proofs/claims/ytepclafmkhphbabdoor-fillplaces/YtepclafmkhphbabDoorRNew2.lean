/- The landed New. -/
import Derived.Test.YtepclafmkhphbabDoorRNew
import Derived.Test.YtepclafmkhphbabDoorE4
namespace Go.Proofs.YtepclafmkhphbabDoor
open Go.RowKit Go.Sort Go.Shelf Go.Lib

/-- Block rb is a ring: its points lie in block blk. -/
def RingBlk (W : World) (rb blk cap : Nat) (P : List Lh.Pt) : Prop := W.cell? ⟨rb, 0, none⟩ = some (.slice (some ⟨blk, 0, none⟩) P.length cap) ∧ PtsAt W blk P
theorem RingBlk.later {W W' : World} {rb blk cap : Nat} {P : List Lh.Pt} (h : RingBlk W rb blk cap P) (hb : Below W.heap.size W W') : RingBlk W' rb blk cap P := ⟨below_cell hb h.1, h.2.later hb⟩

theorem cmpLaysP (blk off size : Nat) (w : World) : CmpLays Tryd.prog 42 #[] encP 2 cfP blk off size w := fun _ _ _ _ x y => closureP x y _
theorem entersC : ∀ args w, (callFunc 42 args).run Tryd.prog w = .ok (.enter 42 args) w := enters_of Tryd.func42 (by kernel_rfl) rfl
/-- slices.SortFunc of points. -/
theorem sortPts (g cap : Nat) (P : List Lh.Pt) (w : World) (hH : PtsAt w g P) (hf : ∀ k, w.frozen? ⟨g, k, none⟩ = false) (hg : g < w.heap.size) (hsz : P.length < 1000000) :
    Calls Tryd.prog 41 #[.slice (some ⟨g, 0, none⟩) P.length cap, .func (.func 42) #[] #[]] w fun e w' => e = .returned (.tuple #[]) ∧ ∃ P' : List Lh.Pt, P'.Perm P ∧ P'.Pairwise (Lh.leF 0) ∧ PtsAt w' g P' ∧ w.grownBy w' (some g) := by
  have h := AnyQ.slices_SortFunc sortP 2 Tryd.isAgg79 Tryd.sizeOf79 encP (fun _ => rfl) encP_one cfP swoP 42 #[] g 0 cap P.toArray w entersC (cmpLaysP g 0 _ w) (holds_of_pts hH hf) hg (by simp; omega)
  rw [List.size_toArray] at h
  refine Calls.mono h ?_
  rintro e w' ⟨rfl, d', n, os, hp, hs, rfl⟩
  obtain ⟨h1, h2⟩ := sortedP (P := P) (d' := d') (by simpa using hp) (by simpa using hs)
  have hl : d'.size = P.toArray.size := by
    have := h1.length_eq
    simpa using this
  refine ⟨rfl, d'.toList, h1, h2, ?_, grownBy_sortedP d'⟩
  have hh := sorted_holds (n := n) (os := os) hg (holds_of_pts hH hf) hl
  exact pts_of_holds hh
set_option maxRecDepth 100000 in
set_option maxHeartbeats 2000000 in
theorem new_good (a : Nat → Addr) (v : Value) (xs : List ByteArray) (c : Nat) (w : World) (he : Errs4 a w) (hv : Strs1 w v xs) (h0 : 0 < xs.length) (hf : IsFault xs 0 (-1)) (hsz : ∀ k (h : k < xs.length), (xs[k]).size ≤ 300) (hc1 : 1 ≤ c) (hc : c ≤ 16) :
    Calls Tryd.prog 24 #[v, .int .i64 (c : Nat)] w fun e w' => ∃ rb blk cap P, e = .returned (.tuple #[.pointer (some ⟨rb, 0, none⟩), .nilIface]) ∧ RingBlk w' rb blk cap P ∧ Lh.IsRing c xs P ∧ Below w.heap.size w w' := by
  obtain ⟨_, h12, _⟩ := fault0 hf
  have hchk := check_any4 a v xs w 0 (-1) he hv.strs hf (fun k h => Nat.le_trans (hsz k h) (by decide)) (by omega)
  obtain ⟨b, o, cap, rfl, hx⟩ := strsPos hv h0
  have HX : Hid (∀ k (h : k < xs.length), w.cell? ⟨b, o + k, none⟩ = some (.string xs[k])) := hx
  have HSZ : Hid (∀ k (h : k < xs.length), (xs[k]).size ≤ 300) := hsz
  clear hx hsz hv hf he
  have hl0 : ((xs.length : Int) == 0) = false := by rw [beq_eq_false_iff_ne]; omega
  have hd1 : decide ((c : Int) < 1) = false := by simp; omega
  have hd2 : decide (16 < (c : Int)) = false := by simp; omega
  go_enter Tryd.func24, Tryd.ntmps24
  go_wp2_with fail
  refine hchk.mono ?_
  rintro e w1 ⟨ev, rfl, hev, hb1⟩
  obtain rfl := err0 hev
  clear hev hchk
  go_wp2_with fail
  refine (pointsOf_any b o cap xs c w1 (fun k h => below_cell hb1 (HX.out k h)) h12 hc1 hc HSZ.out).mono ?_
  rintro e w2 ⟨v2, rfl, hown, hb2⟩
  have hlp : (Lh.pts c xs).length = xs.length * c := Lh.pts_length c xs
  have hlp1 : 0 < (Lh.pts c xs).length := by rw [hlp]; exact Nat.mul_pos h0 hc1
  have hlp2 : (Lh.pts c xs).length < 1000000 := by rw [hlp]; have := mul_bound h12 hc; omega
  obtain ⟨g, cp, rfl, hg0, hg1, hcap, hpts, hfz⟩ := pts_of_owns hown hlp1
  have hbw2 : Below w.heap.size w w2 := below_then hb1 hb2
  have hgw : w.heap.size ≤ g := Nat.le_trans hb1.size hg0
  have hsort := sortPts g cp (Lh.pts c xs) w2 hpts hfz hg1 hlp2
  clear hown hpts hfz hb2 hlp
  go_wp2_with fail
  refine hsort.mono ?_
  rintro e w3 ⟨rfl, P', hp1, hp2, hp3, hgr⟩
  have hbw3 : Below w.heap.size w w3 := hbw2.grown hgr hbw2.size (fun k hk => by cases hk; exact hgw)
  have hlen : (Lh.pts c xs).length = P'.length := hp1.length_eq.symm
  rw [hlen]
  have HFIN : Hid (P'.Perm (Lh.pts c xs) ∧ P'.Pairwise (Lh.leF 0) ∧ PtsAt w3 g P') := ⟨hp1, hp2, hp3⟩
  clear hp1 hp2 hp3 hgr hlen hlp1 hlp2 hsort
  go_wp2
  go_ret2
  refine ⟨w3.heap.size, g, cp, P', rfl, ⟨by simp, HFIN.out.2.2.later ((Below.refl _ _).alloc (Nat.le_refl _) _)⟩, ⟨HFIN.out.1, HFIN.out.2.1⟩, hbw3.alloc hbw3.size _⟩
end Go.Proofs.YtepclafmkhphbabDoor
