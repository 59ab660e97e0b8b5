/- The reference's NextOf. -/
import Derived.Test.YtfhmfjcpggddkaaGreatDoorM30
import Derived.Deep.RegionHeld3
import Derived.Deep.AppendLies
import Derived.Deep.RegionLaw
import Derived.Test.YtfhmfjcpggddkaaGreatDoorM3
import Derived.Test.YtfhmfjcpggddkaaGreatDoorM15
import Derived.Sort.Grow
import Derived.Test.YtfhmfjcpggddkaaGreatDoorM21
import Derived.Shelf.SlGeneric
import Derived.Shelf.SlSortCmp.NoneTotal
import Derived.Test.YtfhmfjcpggddkaaGreatDoorProg
import Derived.Test.YtfhmfjcpggddkaaGreatDoorM5
namespace Go.Proofs.YtfhmfjcpggddkaaGreatDoor
open Go.RowKit Go.Sort Go.Shelf Go.Lib

def lenV : Value → Nat
  | .slice _ n _ => n
  | _ => 0
/-- the best point of the first i -/
def BestIs (out : List ByteArray) (f : Nat) (L : List Lh.Pt) (tb : Value) (i : Nat) : Prop :=
  (tb = .int .i64 (-1) ∧ ∀ j (h : j < L.length), j < i → L[j].2 ∈ out) ∨
  ∃ b0, ∃ hb0 : b0 < L.length, b0 < i ∧ tb = .int .i64 (b0 : Nat) ∧ ¬ L[b0].2 ∈ out ∧ ∀ j (h : j < L.length), j < i → ¬ L[j].2 ∈ out → Lh.leF f L[b0] L[j]
theorem BestIs.skip {out : List ByteArray} {f : Nat} {L : List Lh.Pt} {tb : Value} {i : Nat} (h : BestIs out f L tb i) (hi : i < L.length) (hm : L[i].2 ∈ out) : BestIs out f L tb (i + 1) := by
  rcases h with ⟨h1, h2⟩ | ⟨b0, hb0, h1, h2, h3, h4⟩
  · refine Or.inl ⟨h1, fun j hj hji => ?_⟩
    by_cases e : j = i
    · subst e; exact hm
    · exact h2 j hj (by omega)
  · refine Or.inr ⟨b0, hb0, by omega, h2, h3, fun j hj hji hn => ?_⟩
    by_cases e : j = i
    · subst e; exact absurd hm hn
    · exact h4 j hj (by omega) hn
theorem BestIs.first {out : List ByteArray} {f : Nat} {L : List Lh.Pt} {i : Nat} (h2 : ∀ j (h : j < L.length), j < i → L[j].2 ∈ out) (hi : i < L.length) (hm : ¬ L[i].2 ∈ out) : BestIs out f L (.int .i64 (i : Nat)) (i + 1) := by
  refine Or.inr ⟨i, hi, by omega, rfl, hm, fun j hj hji hn => ?_⟩
  by_cases e : j = i
  · subst e; exact Lh.leF_refl _ _
  · exact absurd (h2 j hj (by omega)) hn
theorem BestIs.turn {out : List ByteArray} {f : Nat} {L : List Lh.Pt} {i b0 : Nat} (hb0 : b0 < L.length) (h4 : ∀ j (h : j < L.length), j < i → ¬ L[j].2 ∈ out → Lh.leF f L[b0] L[j]) (hi : i < L.length) (hm : ¬ L[i].2 ∈ out) (hl : Lh.lessF f L[i] L[b0] = true) : BestIs out f L (.int .i64 (i : Nat)) (i + 1) := by
  refine Or.inr ⟨i, hi, by omega, rfl, hm, fun j hj hji hn => ?_⟩
  by_cases e : j = i
  · subst e; exact Lh.leF_refl _ _
  · exact Lh.leF_trans (Lh.lessF_true hl) (h4 j hj (by omega) hn)
theorem BestIs.stay {out : List ByteArray} {f : Nat} {L : List Lh.Pt} {i b0 : Nat} (hb0 : b0 < L.length) (hbi : b0 < i) (h3 : ¬ L[b0].2 ∈ out) (h4 : ∀ j (h : j < L.length), j < i → ¬ L[j].2 ∈ out → Lh.leF f L[b0] L[j]) (hi : i < L.length) (hl : Lh.lessF f L[i] L[b0] = false) : BestIs out f L (.int .i64 (b0 : Nat)) (i + 1) := by
  refine Or.inr ⟨b0, hb0, by omega, rfl, h3, fun j hj hji hn => ?_⟩
  by_cases e : j = i
  · subst e; exact Lh.lessF_false hl
  · exact h4 j hj (by omega) hn

theorem less_pt (f : Nat) (p q : Lh.Pt) (w : World) :
    Calls Tryz.prog 128 #[.int .u64 (f : Nat), .agg #[.int .u64 (p.1 : Nat), .string p.2], .agg #[.int .u64 (q.1 : Nat), .string q.2]] w fun e w' => e = .returned (.bool (Lh.lessF f p q)) ∧ Below w.heap.size w w' := less_any f p.1 q.1 p.2 q.2 w
set_option maxRecDepth 100000 in
set_option maxHeartbeats 4000000 in
theorem nextOf_any (rb blk cap : Nat) (L R : List Lh.Pt) (z : Nat) (many : Int) (w : World) (hR : RingBlk w rb blk cap L) (hp : R.Perm L) (hs : R.Pairwise (Lh.leF (Lh.turn z))) (hl : L.length < 1000000) :
    Calls Tryz.prog 83 #[.pointer (some ⟨rb, 0, none⟩), .int .u64 (z : Nat), .int .i64 many] w fun e w' => ∃ v, e = .returned v ∧ Strs1 w' v ((Lh.dd [] R).take many.toNat) ∧ Below w.heap.size w w' := by
  obtain ⟨ii, hi, hz0, hz1, hz2⟩ := info_parts infoS
  have HCR : Hid (∀ W, Below w.heap.size w W → W.cell? ⟨rb, 0, none⟩ = some (.slice (some ⟨blk, 0, none⟩) L.length cap)) := fun W hW => below_cell hW hR.1
  have HCA : Hid (∀ W, Below w.heap.size w W → ∀ i (h : i < L.length), W.cell? ⟨blk, i * 2, none⟩ = some (.int .u64 (L[i].1 : Nat)) ∧ W.cell? ⟨blk, i * 2 + 1, none⟩ = some (.string L[i].2)) := fun W hW i h => ⟨below_cell hW (hR.2 i h).1, below_cell hW (hR.2 i h).2⟩
  have HT := turnOf_any z w
  have hdl : (Lh.dd [] R).length ≤ L.length := by
    have := Lh.dd_length_le R []
    rw [hp.length_eq] at this
    simpa using this
  have HDL : Hid ((Lh.dd [] R).length ≤ L.length) := hdl
  clear hdl
  generalize Lh.turn z = f at *
  have HNX : Hid (∀ k, k ≤ (Lh.dd [] R).length → ∀ b0 (hb0 : b0 < L.length), ¬ L[b0].2 ∈ (Lh.dd [] R).take k → (∀ j (h : j < L.length), j < L.length → ¬ L[j].2 ∈ (Lh.dd [] R).take k → Lh.leF f L[b0] L[j]) → k < (Lh.dd [] R).length ∧ (Lh.dd [] R).take (k + 1) = (Lh.dd [] R).take k ++ [L[b0].2]) := fun k hk b0 hb0 hn hmin =>
    Lh.dd_next hs (hp.mem_iff.2 (List.getElem_mem hb0)) hk hn (fun q hq hqn => by
      obtain ⟨j, hj, rfl⟩ := List.getElem_of_mem (hp.mem_iff.1 hq)
      exact hmin j hj hj hqn)
  have HALL : Hid (∀ k, k ≤ (Lh.dd [] R).length → (∀ j (h : j < L.length), j < L.length → L[j].2 ∈ (Lh.dd [] R).take k) → k = (Lh.dd [] R).length) := fun k hk h =>
    Lh.dd_all hk (fun q hq => by
      obtain ⟨j, hj, rfl⟩ := List.getElem_of_mem (hp.mem_iff.1 hq)
      exact h j hj hj)
  generalize Lh.dd [] R = D at *
  clear hR hp hs
  go_enter Tryz.func83, Tryz.ntmps83
  go_wp2_with fail
  refine HT.mono ?_
  rintro e w1 ⟨rfl, rfl⟩
  clear HT
  go_wp2_with fail
  go_loopw [8] (fun v W => Below w1.heap.size w1 W ∧ ∃ k : Nat, k ≤ D.length ∧ k ≤ many.toNat ∧ W.ownsRow w1.heap.size 9 1 v k ((D.take k).map Value.string)) (fun v _ => D.length - lenV v)
  case atStart => exact ⟨Below.refl _ _, 0, Nat.zero_le _, Nat.zero_le _, by simpa using owns_nil w1 _ _⟩
  case round =>
    obtain ⟨hb, k, hkD, hkm, hown⟩ := hrel
    obtain ⟨p, c, rfl⟩ : ∃ p c, u8 = .slice p k c := by
      obtain ⟨_, ⟨rfl, rfl⟩ | ⟨g, cp, _, rfl, _⟩⟩ := hown
      · exact ⟨_, _, rfl⟩
      · exact ⟨_, _, rfl⟩
    have hkl : k < 1000000 := by have := HDL.out; omega
    by_cases hkk : (k : Int) < many
    · have hd : decide ((k : Int) < many) = true := by simpa using hkk
      have HOWN : Hid (wr.ownsRow w1.heap.size 9 1 (.slice p k c) k ((D.take k).map Value.string)) := hown
      clear hown
      have hdn : D.length - k = D.length - k := rfl
      clear hdn
      generalize wr = W0 at *
      have hout : (D.take k).length < 1000000 := by rw [List.length_take]; omega
      have HSTR : Hid (∀ W, Below W0.heap.size W0 W → Strs W (.slice p k c) (D.take k)) := fun W hW => (strs_of_owns (ownsRow_below HOWN.out hW)).strs
      go_wp2_with fail
      go_loopw [9, 10] (fun tb t W => Below W0.heap.size W0 W ∧ ∃ i : Nat, i ≤ L.length ∧ t = .int .i64 i ∧ BestIs (D.take k) f L tb i) (fun _ t _ => L.length - (intOf t).toNat)
      case atStart => exact ⟨Below.refl _ _, 0, Nat.zero_le _, rfl, Or.inl ⟨rfl, fun j _ h => absurd h (by omega)⟩⟩
      case round =>
        obtain ⟨hbr, i, hil, rfl, hbest⟩ := hrel
        have hbw : Below w1.heap.size w1 wr := below_then hb hbr
        have c0 := HCR.out wr hbw
        by_cases hlt : i < L.length
        · obtain ⟨ca, ch⟩ := HCA.out wr hbw i hlt
          have hii : (i : Int) < (L.length : Int) := by omega
          have hmem := refMem_any (.slice p k c) (D.take k) L[i].2 wr (HSTR.out wr hbr) hout
          by_cases hin : L[i].2 ∈ D.take k
          · have HB2 : Hid (BestIs (D.take k) f L u9 (i + 1)) := hbest.skip hlt hin
            rw [Lh.mem_true hin] at hmem
            clear hin hbest ca
            generalize L[i].2 = s at *
            go_wp2_with fail
            refine hmem.mono ?_
            rintro e w2 ⟨⟨j, rfl, hj⟩, rfl⟩
            clear hmem
            go_wp2
            exact ⟨⟨hbr, i + 1, by omega, by go_num, HB2.out⟩, by simp [intOf]; omega⟩
          · rw [Lh.mem_false hin] at hmem
            rcases hbest with ⟨rfl, hall⟩ | ⟨b0, hb0, hbi, rfl, hn0, hmin⟩
            · have HB2 : Hid (BestIs (D.take k) f L (.int .i64 (i : Nat)) (i + 1)) := BestIs.first hall hlt hin
              clear hin hall ca
              generalize L[i].2 = s at *
              go_wp2_with fail
              refine hmem.mono ?_
              rintro e w2 ⟨⟨j, rfl, hj⟩, rfl⟩
              clear hmem
              go_wp2_with fail
              go_quiet (fail)
              go_wp2
              exact ⟨⟨below_drewN hbr _, i + 1, by omega, by go_num, HB2.out⟩, by simp [intOf]; omega⟩
            · have hb0i : (b0 : Int) < (L.length : Int) := by omega
              have hd0 : decide ((b0 : Int) < 0) = false := by simp
              have HSS : Hid (∀ W', Below W0.heap.size W0 W' → Below W0.heap.size W0 W' ∧ W'.cell? ⟨rb, 0, none⟩ = some (.slice (some ⟨blk, 0, none⟩) L.length cap) ∧ W'.cell? ⟨blk, i * 2, none⟩ = some (.int .u64 (L[i].1 : Nat)) ∧ W'.cell? ⟨blk, i * 2 + 1, none⟩ = some (.string L[i].2) ∧ W'.cell? ⟨blk, b0 * 2, none⟩ = some (.int .u64 (L[b0].1 : Nat)) ∧ W'.cell? ⟨blk, b0 * 2 + 1, none⟩ = some (.string L[b0].2)) := fun W' hW' => ⟨hW', HCR.out _ (below_then hb hW'), (HCA.out _ (below_then hb hW') i hlt).1, (HCA.out _ (below_then hb hW') i hlt).2, (HCA.out _ (below_then hb hW') b0 hb0).1, (HCA.out _ (below_then hb hW') b0 hb0).2⟩
              cases hr : Lh.lessF f L[i] L[b0]
              · have HB2 : Hid (BestIs (D.take k) f L (.int .i64 (b0 : Nat)) (i + 1)) := BestIs.stay hb0 hbi hn0 hmin hlt hr
                have hless : ∀ W', Below W0.heap.size W0 W' → Calls Tryz.prog 128 #[.int .u64 (f : Nat), .agg #[.int .u64 (L[i].1 : Nat), .string L[i].2], .agg #[.int .u64 (L[b0].1 : Nat), .string L[b0].2]] W' fun e w' => e = .returned (.bool false) ∧ Below W0.heap.size W0 w' := fun W' hW' => (less_pt f L[i] L[b0] W').mono fun e w' ⟨h1, h2⟩ => ⟨by rw [h1, hr], below_then hW' h2⟩
                clear hr hin hn0 hmin ca
                generalize L[i] = pi at *
                generalize L[b0] = pb at *
                go_wp2_with fail
                refine hmem.mono ?_
                rintro e w2 ⟨⟨j, rfl, hj⟩, rfl⟩
                clear hmem
                go_wp2_with fail
                go_region_held3 (fun w' => Below W0.heap.size W0 w' ∧ w'.cell? ⟨rb, 0, none⟩ = some (.slice (some ⟨blk, 0, none⟩) L.length cap) ∧ w'.cell? ⟨blk, i * 2, none⟩ = some (.int .u64 (pi.1 : Nat)) ∧ w'.cell? ⟨blk, i * 2 + 1, none⟩ = some (.string pi.2) ∧ w'.cell? ⟨blk, b0 * 2, none⟩ = some (.int .u64 (pb.1 : Nat)) ∧ w'.cell? ⟨blk, b0 * 2 + 1, none⟩ = some (.string pb.2))
                  (first | exact HSS.out _ (by assumption) | exact HSS.out _ (below_drewN hbr 1))
                  (first
                    | (go_at_call 128; refine (hless _ (by first | assumption | exact below_drewN hbr 1)).mono ?_; rintro e w' ⟨rfl, hbn⟩))
                all_goals
                  go_wp2
                  exact ⟨⟨hbn, i + 1, by omega, by go_num, HB2.out⟩, by simp [intOf]; omega⟩
              · have HB2 : Hid (BestIs (D.take k) f L (.int .i64 (i : Nat)) (i + 1)) := BestIs.turn hb0 hmin hlt hin hr
                have hless : ∀ W', Below W0.heap.size W0 W' → Calls Tryz.prog 128 #[.int .u64 (f : Nat), .agg #[.int .u64 (L[i].1 : Nat), .string L[i].2], .agg #[.int .u64 (L[b0].1 : Nat), .string L[b0].2]] W' fun e w' => e = .returned (.bool true) ∧ Below W0.heap.size W0 w' := fun W' hW' => (less_pt f L[i] L[b0] W').mono fun e w' ⟨h1, h2⟩ => ⟨by rw [h1, hr], below_then hW' h2⟩
                clear hr hin hn0 hmin ca
                generalize L[i] = pi at *
                generalize L[b0] = pb at *
                go_wp2_with fail
                refine hmem.mono ?_
                rintro e w2 ⟨⟨j, rfl, hj⟩, rfl⟩
                clear hmem
                go_wp2_with fail
                go_region_held3 (fun w' => Below W0.heap.size W0 w' ∧ w'.cell? ⟨rb, 0, none⟩ = some (.slice (some ⟨blk, 0, none⟩) L.length cap) ∧ w'.cell? ⟨blk, i * 2, none⟩ = some (.int .u64 (pi.1 : Nat)) ∧ w'.cell? ⟨blk, i * 2 + 1, none⟩ = some (.string pi.2) ∧ w'.cell? ⟨blk, b0 * 2, none⟩ = some (.int .u64 (pb.1 : Nat)) ∧ w'.cell? ⟨blk, b0 * 2 + 1, none⟩ = some (.string pb.2))
                  (first | exact HSS.out _ (by assumption) | exact HSS.out _ (below_drewN hbr 1))
                  (first
                    | (go_at_call 128; refine (hless _ (by first | assumption | exact below_drewN hbr 1)).mono ?_; rintro e w' ⟨rfl, hbn⟩))
                all_goals
                  go_wp2
                  exact ⟨⟨hbn, i + 1, by omega, by go_num, HB2.out⟩, by simp [intOf]; omega⟩
        · have hie : i = L.length := by omega
          subst hie
          have hstr := ownsRow_below HOWN.out hbr
          rcases hbest with ⟨rfl, hall⟩ | ⟨b0, hb0, hbi, rfl, hn0, hmin⟩
          · have HK : Hid (k = D.length) := HALL.out k hkD hall
            have HFS : Hid (Strs1 wr (.slice p k c) (D.take k)) := strs_of_owns hstr
            clear hall hstr
            go_wp2
            go_ret
            refine ⟨_, rfl, ?_, hbw⟩
            have e1 := HK.out
            have e2 := HFS.out
            rw [e1, List.take_length] at e2
            rw [List.take_of_length_le (by omega), e1]
            exact e2
          · obtain ⟨hkD', htk⟩ := HNX.out k hkD b0 hb0 hn0 hmin
            have HTK : Hid (D.take (k + 1) = D.take k ++ [L[b0].2]) := htk
            obtain ⟨_, ch⟩ := HCA.out wr hbw b0 hb0
            have hb0i : (b0 : Int) < (L.length : Int) := by omega
            have hd0 : decide ((b0 : Int) < 0) = false := by simp
            clear htk hn0 hmin
            generalize L[b0].2 = s at *
            have hown3 := hstr.alloc (.cells #[.string s] 9)
            have hnews := cells_one (w := wr) (t := 9) s
            have hbw3 : Below w1.heap.size w1 (wr.alloc (.cells #[.string s] 9)) := hbw.alloc hbw.size _
            have hmax : k + 1 ≤ maxLen := by unfold maxLen; omega
            clear hstr
            go_wp2_with (at_builtin; refine wpList_append_own _ rfl _ _ 22 rfl w1.heap.size 9 ii _ 1 16 Tryz.underlying22 hi hz0 hz1 hz2 rfl (by decide) (.slice p k c) k _ rfl hown3 ⟨wr.heap.size, 0, none⟩ 1 1 [.string s] rfl rfl hnews (fun u hu => by simp at hu; subst hu; rfl) hmax (by omega) hbw3.size ?_)
            intro v' w4 hown4 hg4 _
            have hlo := hown3.lt
            have hb4 : Below w1.heap.size w1 w4 := hbw3.grown hg4 hbw3.size (fun q hq => (hlo q hq).1)
            have hout4 : w4.ownsRow w1.heap.size 9 1 v' (k + 1) ((D.take k).map Value.string ++ [.string s]) := by simpa using hown4
            have HOUT : Hid (w4.ownsRow w1.heap.size 9 1 v' (k + 1) ((D.take k).map Value.string ++ [.string s])) := hout4
            clear hout4
            clear hown3 hnews hlo hg4 hbw3 hmax
            obtain ⟨_, ⟨_, hbad⟩ | ⟨g, cp, cur, rfl, _⟩⟩ := hown4
            · omega
            go_wp2
            refine ⟨⟨hb4, k + 1, hkD', by omega, ?_⟩, by simp [lenV]; omega⟩
            rw [HTK.out]
            exact owns_snoc HOUT.out
    · have hd : decide ((k : Int) < many) = false := by simpa using hkk
      go_wp2
      go_ret
      have : k = many.toNat := by omega
      refine ⟨_, rfl, ?_, hb⟩
      rw [← this]
      exact strs_of_owns hown
end Go.Proofs.YtfhmfjcpggddkaaGreatDoor

/- The reference's RingOf. -/
namespace Go.Proofs.YtfhmfjcpggddkaaGreatDoor
open Go.RowKit Go.Sort Go.Shelf Go.Lib

theorem infoQ : (Tryz.prog.info? 190).map (fun i => (i.zero, i.size, i.bytes)) = some (some (.agg #[.int .u64 0, .string ByteArray.empty]), 2, 24) := by kernel_rfl
theorem far_cell {wr W w1 : World} {o : Obj} {row : Option Nat} {x k : Nat} {val : Value} (hW : W.heap = wr.heap.push o) (hg : W.grownBy w1 row) (hne : some x ≠ row) (h : wr.cell? ⟨x, k, none⟩ = some val) : w1.cell? ⟨x, k, none⟩ = some val := by
  have hx : x < wr.heap.size := World.block_lt_of_cell? wr ⟨x, k, none⟩ h
  have hx2 : x < W.heap.size := by rw [hW]; simp; omega
  have e : w1.heap[x]? = wr.heap[x]? := by
    rw [hg.block x hx2 hne, hW, Array.getElem?_push_lt hx, Array.getElem?_eq_getElem hx]
  rw [World.cell?_of_block (w := wr) (w' := w1) (a := ⟨x, k, none⟩) e]
  exact h
theorem far_frozen {wr W w1 : World} {o : Obj} {row : Option Nat} {x k : Nat} (hW : W.heap = wr.heap.push o) (hg : W.grownBy w1 row) (hne : some x ≠ row) (hx : x < wr.heap.size) (h : wr.frozen? ⟨x, k, none⟩ = false) : w1.frozen? ⟨x, k, none⟩ = false := by
  have hx2 : x < W.heap.size := by rw [hW]; simp; omega
  have e : w1.heap[x]? = wr.heap[x]? := by
    rw [hg.block x hx2 hne, hW, Array.getElem?_push_lt hx, Array.getElem?_eq_getElem hx]
  rw [World.frozen?_of_block (w := wr) (w' := w1) (a := ⟨x, k, none⟩) e]
  exact h
theorem owns_setCell {w : World} {base : Nat} {e : TypeId} {size : Nat} {v : Value} {n : Nat} {xs : List Value} (h : w.ownsRow base e size v n xs) {x k : Nat} (hx : x < base) (u : Value) : (w.setCell ⟨x, k, none⟩ u).ownsRow base e size v n xs := by
  refine h.kept (row := some x) ⟨rfl, rfl, rfl, by simp [World.setCell], fun j _ hne => heap_setCell_other w ⟨x, k, none⟩ j u (fun e => hne (by rw [e]))⟩ ?_
  cases hv : v.ownBlock with
  | none => exact Or.inl rfl
  | some g =>
    have := (h.lt g hv).1
    exact Or.inr (fun e => by cases e; omega)
theorem owns_heap {w W : World} {base : Nat} {e : TypeId} {size : Nat} {v : Value} {n : Nat} {xs : List Value} {o : Obj} (h : w.ownsRow base e size v n xs) (hW : W.heap = w.heap.push o) : W.ownsRow base e size v n xs := by
  obtain ⟨h1, h2 | ⟨g, cap, cur, e1, e2, e3, e4⟩⟩ := h
  · exact ⟨h1, Or.inl h2⟩
  · refine ⟨h1, Or.inr ⟨g, cap, cur, e1, e2, ?_, e4⟩⟩
    have hg : g < w.heap.size := (Array.getElem?_eq_some_iff.1 e3).1
    rw [hW, Array.getElem?_push_lt hg, ← Array.getElem?_eq_getElem hg]
    exact e3
theorem cellsP_heap {wr W : World} {t : TypeId} (p : Lh.Pt) (hW : W.heap = wr.heap.push (.cells #[.int .u64 (p.1 : Nat), .string p.2] t (0, 0))) : ∀ j u, (encP p)[j]? = some u → W.cell? ((⟨wr.heap.size, 0, none⟩ : Addr).add j) = some u := by
  intro j u hu
  have e : W.heap[wr.heap.size]? = some (.cells #[.int .u64 (p.1 : Nat), .string p.2] t (0, 0)) := by rw [hW]; simp
  match j, hu with
  | 0, hu => simp [encP] at hu; subst hu; simp [Addr.add, World.cell?, e]
  | 1, hu => simp [encP] at hu; subst hu; simp [Addr.add, World.cell?, e]
  | j + 2, hu => simp [encP] at hu

theorem step_append_pt {ops : Array Oper} {o : Oper} {a : Act} {K : Act → World → Prop} {Q : Exit → Act → World → Prop} {E : Prop} {W : World} (wr : World) (at1 : Nat) (s : ByteArray) (rb : Nat) (hgd : o.guard = none) (so xo : Operand)
    (ho : o.op = .call { callee := .builtin .append, args := #[so, xo], argTypes := #[185, 185] }) (hW : W.heap = wr.heap.push (.cells #[.int .u64 (at1 : Nat), .string s] 190 (0, 0)))
    (v : Value) (P1 : List Lh.Pt) (hs : a.eval so = v) (hx : a.eval xo = .slice (some ⟨wr.heap.size, 0, none⟩) 1 1) (hown : wr.ownsRow (rb + 1) 190 2 v P1.length (flatP P1)) (hl : P1.length ≤ 208) (hrb : rb < wr.heap.size)
    (h : ∀ g cap w', w'.ownsRow (rb + 1) 190 2 (.slice (some ⟨g, 0, none⟩) (P1.length + 1) cap) (P1.length + 1) (flatP (P1 ++ [(at1, s)])) → W.grownBy w' v.ownBlock → K (a.put o.dst (.slice (some ⟨g, 0, none⟩) (P1.length + 1) cap)) w') :
    if Region.wanted o (yielded ops a.tmps) = true then Oper.wp Tryz.prog o a W K Q else E := by
  obtain ⟨i, hi, hz0, hz1, hz2⟩ := info_parts infoQ
  have hsz : W.heap.size = wr.heap.size + 1 := by rw [hW]; simp
  refine step_append_lies W hgd so xo 185 ho (rb + 1) 190 i _ 2 24 Tryz.underlying185 hi hz0 hz1 hz2 rfl (by decide) v P1.length (flatP P1) hs (owns_heap hown hW) ⟨wr.heap.size, 0, none⟩ 1 1 (encP (at1, s)) hx rfl (cellsP_heap (at1, s) hW) (encP_one _) (by decide) (by unfold maxLen; omega) (by omega) (by omega) (wr.heap.size + 1) hsz ?_
  intro g cp w1 hown1 hgr _ _
  rw [← flatP_snoc] at hown1
  exact h g cp w1 hown1 hgr

set_option maxRecDepth 100000 in
set_option maxHeartbeats 4000000 in
theorem ringOf_any (b o cap : Nat) (xs : List ByteArray) (c : Nat) (w : World) (hx : ∀ k (h : k < xs.length), w.cell? ⟨b, o + k, none⟩ = some (.string xs[k])) (hb0 : b < w.heap.size) (hl : xs.length ≤ 12) (h0 : 0 < xs.length) (hc1 : 1 ≤ c) (hc : c ≤ 16) (hs : ∀ k (h : k < xs.length), (xs[k]).size ≤ 300) :
    Calls Tryz.prog 82 #[.slice (some ⟨b, o, none⟩) xs.length cap, .int .i64 (c : Nat)] w fun e w' => ∃ rb blk cp, e = .returned (.pointer (some ⟨rb, 0, none⟩)) ∧ RingBlk w' rb blk cp (Lh.pts c xs) ∧ Below w.heap.size w w' := by
  obtain ⟨i, hi, hz0, hz1, hz2⟩ := info_parts infoQ
  have HX : Hid (∀ k (h : k < xs.length), w.cell? ⟨b, o + k, none⟩ = some (.string xs[k])) := hx
  have HS : Hid (∀ k (h : k < xs.length), (xs[k]).size ≤ 300) := hs
  clear hx hs
  obtain ⟨rb, hrb⟩ : ∃ rb, w.heap.size = rb := ⟨_, rfl⟩
  have HRB : Hid (w.heap.size = rb) := hrb
  go_enter Tryz.func82, Tryz.ntmps82
  go_wp2_with fail
  have hbW := (Below.refl w.heap.size w).alloc (Nat.le_refl _) (.cells #[.slice none 0 0] 187)
  have cr0 : (w.alloc (.cells #[.slice none 0 0] 187)).cell? ⟨rb, 0, none⟩ = some (.slice none 0 0) := by rw [← hrb]; simp
  have fr0 : (w.alloc (.cells #[.slice none 0 0] 187)).frozen? ⟨rb, 0, none⟩ = false := by rw [← hrb]; simp
  have hb0' : b < rb := by omega
  rw [hrb] at hbW
  generalize w.alloc (.cells #[.slice none 0 0] 187) = w0 at *
  clear hrb hb0
  go_loopw [6] (fun t W => Below rb w W ∧ ∃ k : Nat, k ≤ xs.length ∧ t = .int .i64 k ∧ ∃ v, W.cell? ⟨rb, 0, none⟩ = some v ∧ W.frozen? ⟨rb, 0, none⟩ = false ∧ W.ownsRow (rb + 1) 190 2 v (Lh.pts c (xs.take k)).length (flatP (Lh.pts c (xs.take k)))) (fun t _ => xs.length - (intOf t).toNat)
  case atStart => exact ⟨hbW, 0, Nat.zero_le _, rfl, _, cr0, fr0, World.ownsRow_nil _ _ _ _⟩
  case round =>
    clear cr0 fr0 hbW
    obtain ⟨hb, k, hk, rfl, v, cr, fr, hown⟩ := hrel
    by_cases hlt : k < xs.length
    · have HCX : Hid (∀ W, Below rb w W → W.cell? ⟨b, o + k, none⟩ = some (.string xs[k])) := fun W hW => below_cell (by rw [HRB.out]; exact hW) (HX.out k hlt)
      have hsz := HS.out k hlt
      have HP : Hid (Lh.pts c (xs.take (k + 1)) = Lh.pts c (xs.take k) ++ Lh.pts1 c xs[k]) := pts_snoc c xs k hlt
      have hlen : (Lh.pts c (xs.take k)).length ≤ 192 := by
        rw [Lh.pts_length, List.length_take]
        exact mul_bound (by omega) hc
      generalize Lh.pts c (xs.take k) = P0 at *
      generalize xs[k] = s at *
      have HSZ : Hid (s.size ≤ 300) := hsz
      clear hsz
      have hki : (k : Int) < (xs.length : Int) := by omega
      go_wp2_with fail
      go_loopw [7] (fun t W => Below rb w W ∧ ∃ j : Nat, j ≤ c ∧ t = .int .i64 j ∧ ∃ v, W.cell? ⟨rb, 0, none⟩ = some v ∧ W.frozen? ⟨rb, 0, none⟩ = false ∧ W.ownsRow (rb + 1) 190 2 v (P0 ++ (Lh.pts1 c s).take j).length (flatP (P0 ++ (Lh.pts1 c s).take j))) (fun t _ => c - (intOf t).toNat)
      case atStart => exact ⟨hb, 0, Nat.zero_le _, rfl, v, cr, fr, by simpa using hown⟩
      case round =>
        clear hown hb cr fr
        obtain ⟨hb, j, hj, rfl, v, cr, fr, hown⟩ := hrel
        by_cases hjc : j < c
        · have hlj : (P0 ++ (Lh.pts1 c s).take j).length ≤ 208 := by
            rw [List.length_append, List.length_take]
            omega
          have hap : P0 ++ (Lh.pts1 c s).take (j + 1) = (P0 ++ (Lh.pts1 c s).take j) ++ [(Lh.num s (1000 + j), s)] := by
            rw [pts1_snoc c j s hjc, List.append_assoc]
          have HAP : Hid (P0 ++ (Lh.pts1 c s).take (j + 1) = (P0 ++ (Lh.pts1 c s).take j) ++ [(Lh.num s (1000 + j), s)]) := hap
          clear hap
          generalize P0 ++ (Lh.pts1 c s).take j = P1 at *
          have hnum := fun W' => numberOf_any s (1000 + j) W' HSZ.out
          rw [show ((1000 + j : Nat) : Int) = IntKind.u64.wrap (IntKind.i64.wrap (1000 + (j : Int))) by simp [IntKind.wrap, IntKind.bits, IntKind.signed]; omega] at hnum
          generalize Lh.num s (1000 + j) = at1 at *
          have HNUM : Hid (∀ W', Calls Tryz.prog 127 #[.string s, .int .u64 (IntKind.u64.wrap (IntKind.i64.wrap (1000 + (j : Int))))] W' fun e w' => e = .returned (.int .u64 (at1 : Nat)) ∧ w' = W') := hnum
          clear hnum
          have cx := HCX.out wr hb
          have HNE : Hid (∀ x, x ≤ rb → some x ≠ v.ownBlock) := fun x hx e => by
            have := (hown.lt x e.symm).1
            omega
          have hrl : rb < wr.heap.size := World.block_lt_of_cell? wr ⟨rb, 0, none⟩ cr
          have hmax : P1.length + 1 ≤ maxLen := by unfold maxLen; omega
          have hbr : b ≠ rb := by omega
          have hrb2 : rb ≠ b := by omega
          have HOWN : Hid (wr.ownsRow (rb + 1) 190 2 v P1.length (flatP P1)) := hown
          clear hown
          go_wp2_with fail
          go_region_law (first
            | (refine step_append_pt wr at1 s rb rfl _ _ rfl rfl v P1 rfl rfl HOWN.out hlj hrl ?_
               intro g cp w1 hown1 hgr
               have hr1 := far_cell (wr := wr) (x := rb) (k := 0) rfl hgr (HNE.out rb (Nat.le_refl _)) cr
               have fr1 := far_frozen (wr := wr) (x := rb) (k := 0) rfl hgr (HNE.out rb (Nat.le_refl _)) hrl fr)
            | (go_simp; go_at_call 127; refine (HNUM.out _).mono ?_; rintro e w' ⟨rfl, rfl⟩))
          all_goals
            have hbw1 : Below rb w w1 := by
              refine (hb.trans (below_drewN ((Below.refl rb wr).alloc (Nat.le_of_lt hrl) _) 1)).grown hgr (by simp; omega) (fun q e => ?_)
              · refine Nat.le_of_lt (Nat.lt_of_not_le fun h => HNE.out q h ?_)
                exact e.symm
            have hbw2 : Below rb w (w1.setCell ⟨rb, 0, none⟩ (.slice (some ⟨g, 0, none⟩) (P1.length + 1) cp)) := hbw1.setCell (Nat.le_refl _) _
            have hownN := owns_setCell (k := 0) hown1 (Nat.lt_succ_self rb) (.slice (some ⟨g, 0, none⟩) (P1.length + 1) cp)
            have crN : (w1.setCell ⟨rb, 0, none⟩ (.slice (some ⟨g, 0, none⟩) (P1.length + 1) cp)).cell? ⟨rb, 0, none⟩ = some (.slice (some ⟨g, 0, none⟩) (P1.length + 1) cp) := by simp [go_sem, hr1]
            have frN : (w1.setCell ⟨rb, 0, none⟩ (.slice (some ⟨g, 0, none⟩) (P1.length + 1) cp)).frozen? ⟨rb, 0, none⟩ = false := by simp [go_sem, fr1]
            clear hown1 hgr hr1 fr1 hbw1 cr fr cx hb
            generalize w1.setCell ⟨rb, 0, none⟩ (.slice (some ⟨g, 0, none⟩) (P1.length + 1) cp) = wN at *
            go_wp2
            refine ⟨⟨hbw2, j + 1, by omega, by go_num, _, crN, frN, ?_⟩, by simp [intOf]; omega⟩
            rw [HAP.out, List.length_append]
            exact hownN
        · go_wp2
          have hjj : j = c := by omega
          subst hjj
          rw [List.take_of_length_le (by rw [Lh.pts1_length]; exact Nat.le_refl _), ← HP.out] at hown
          exact ⟨⟨hb, k + 1, by omega, by go_num, v, cr, fr, hown⟩, by simp [intOf]; omega⟩
    · go_wp2
      go_ret
      have hkk : k = xs.length := by omega
      subst hkk
      rw [List.take_length] at hown
      have hlp1 : 0 < (Lh.pts c xs).length := by rw [Lh.pts_length]; exact Nat.mul_pos h0 hc1
      obtain ⟨g, cp, rfl, _, _, _, hpts, _⟩ := pts_of_owns hown hlp1
      refine ⟨rb, g, cp, rfl, ⟨cr, hpts⟩, by rw [HRB.out]; exact hb⟩
end Go.Proofs.YtfhmfjcpggddkaaGreatDoor

/- Numbers and scores once more: the memory only grows. -/
namespace Go.Proofs.YtfhmfjcpggddkaaGreatDoor
open Go.RowKit Go.Sort

/-- Only draws, and new blocks. -/
def Gr (w w' : World) : Prop := ∃ q os, w' = grow (w.drewN q) os
theorem Gr.refl (w : World) : Gr w w := ⟨0, #[], by rw [grow_empty]; rfl⟩
theorem Gr.trans {a b c : World} (h : Gr a b) (k : Gr b c) : Gr a c := by
  obtain ⟨q, os, rfl⟩ := h
  obtain ⟨q', os', rfl⟩ := k
  refine ⟨q + q', os ++ os', ?_⟩
  show grow (grow ((a.drewN q).drewN q') os) os' = _
  rw [grow_grow, World.drewN_drewN]
theorem Gr.alloc {a b : World} (h : Gr a b) (o : Obj) : Gr a (b.alloc o) := h.trans ⟨0, #[o], by rw [alloc_eq_grow]; rfl⟩
theorem Gr.drewN {a b : World} (h : Gr a b) (n : Nat) : Gr a (b.drewN n) := h.trans ⟨n, #[], by rw [grow_empty]⟩
theorem Gr.cell {a b : World} (h : Gr a b) {x : Addr} {v : Value} (hc : a.cell? x = some v) : b.cell? x = some v := by
  obtain ⟨q, os, rfl⟩ := h
  have hb : x.block < a.heap.size := by
    by_cases hb : x.block < a.heap.size
    · exact hb
    · rw [World.cell?, Array.getElem?_eq_none (by omega)] at hc
      cases hc
  rw [cell?_grow (a.drewN q) os x hb]
  exact hc
theorem Gr.below {w w' : World} (h : Gr w w') : Below w.heap.size w w' := by
  obtain ⟨q, os, rfl⟩ := h
  exact ⟨rfl, rfl, rfl, by rw [size_grow]; exact Nat.le_add_right _ _, fun k hk => heap_grow_old _ _ hk⟩

set_option maxHeartbeats 400000 in
theorem turn_gr (z : Nat) (w : World) :
    Calls Tryz.prog 183 #[.int .u64 z] w fun e w' => e = .returned (.int .u64 (Lh.turn z : Nat)) ∧ Gr w w' := by
  go_enter Tryz.func183, Tryz.ntmps183
  go_wp2
  go_end0
  go_wp2
  go_end0
  go_wp2
  go_end0
  go_wp2
  go_ret
  refine ⟨?_, (Gr.refl _).alloc _⟩
  rw [stepAdd, step30 _ (Nat.mod_lt _ (by decide)), step27 _ (Nat.mod_lt _ (by decide)), step31 _ (Nat.mod_lt _ (by decide))]
  rfl

set_option maxHeartbeats 400000 in
theorem two_gr (a b : Nat) (hb : b < 18446744073709551616) (w : World) :
    Calls Tryz.prog 187 #[.int .u64 a, .int .u64 b] w fun e w' => e = .returned (.int .u64 (Lh.turn (Lh.turn a ^^^ b) : Nat)) ∧ Gr w w' := by
  go_enter Tryz.func187, Tryz.ntmps187
  go_wp2_with fail
  refine (turn_gr a _).mono ?_
  rintro e w1 ⟨rfl, hb1⟩
  go_wp2_with fail
  rw [xorNat _ _ (Lh.turn_lt a) hb]
  refine (turn_gr _ _).mono ?_
  rintro e w2 ⟨rfl, hb2⟩
  go_wp2
  go_ret
  exact ⟨rfl, hb1.trans hb2⟩

set_option maxHeartbeats 400000 in
theorem of_gr (s : ByteArray) (salt : Nat) (w : World) (hs : s.size ≤ 300) :
    Calls Tryz.prog 178 #[.string s, .int .u64 salt] w fun e w' => e = .returned (.int .u64 (Lh.num s salt : Nat)) ∧ Gr w w' := by
  go_enter Tryz.func178, Tryz.ntmps178
  go_wp2
  go_loop [5, 9] (fun h i => ∃ k : Nat, k ≤ s.size ∧ i = .int .i64 k ∧ h = .int .u64 (Lh.hash (s.data.toList.take k) : Nat)) (fun _ i => s.size - (intOf i).toNat)
  case atStart => exact ⟨0, Nat.zero_le _, rfl, rfl⟩
  case round =>
    obtain ⟨k, hk, rfl, rfl⟩ := hrel
    by_cases hlt : k < s.size
    · have HN : Hid _ := hash_next s k hlt
      go_wp2
      go_round
      case rel => exact ⟨k + 1, by omega, by go_num, by rw [← HN.out]⟩
      case measure => simp [intOf]; omega
    · have hfull : s.data.toList.take k = s.data.toList := List.take_of_length_le (by simp; omega)
      rw [hfull]
      clear hfull
      go_wp2_with fail
      refine (turn_gr salt _).mono ?_
      rintro e w1 ⟨rfl, hb1⟩
      go_wp2_with fail
      rw [xorNat _ _ (Lh.hash_lt _) (Lh.turn_lt _)]
      refine (turn_gr _ _).mono ?_
      rintro e w2 ⟨rfl, hb2⟩
      go_wp2
      go_ret
      exact ⟨rfl, hb1.trans hb2⟩

set_option maxHeartbeats 400000 in
/-- rival.Score -/
theorem score_gr (s : ByteArray) (k : Nat) (hk : k < 18446744073709551616) (w : World) (hs : s.size ≤ 300) :
    Calls Tryz.prog 148 #[.string s, .int .u64 k] w fun e w' => e = .returned (.int .u64 (Lh.score k s : Nat)) ∧ Gr w w' := by
  go_enter Tryz.func148, Tryz.ntmps148
  go_wp2_with fail
  refine (of_gr s 3 _ hs).mono ?_
  rintro e w1 ⟨rfl, hb1⟩
  go_wp2_with fail
  refine (two_gr _ k hk _).mono ?_
  rintro e w2 ⟨rfl, hb2⟩
  go_wp2
  go_ret
  exact ⟨rfl, hb1.trans hb2⟩
end Go.Proofs.YtfhmfjcpggddkaaGreatDoor

/- The function handed to slices.SortFunc: by score falling, then by name. -/
namespace Go.Proofs.YtfhmfjcpggddkaaGreatDoor
open Go.RowKit Go.Sort

def cfR (f : ByteArray → Nat) (x y : ByteArray) : Int := if cmpU (f y) (f x) = 0 then cmpS x y else cmpU (f y) (f x)
set_option maxRecDepth 100000 in
set_option maxHeartbeats 4000000 in
theorem closureR0 (fx fy kb k : Nat) (x y : ByteArray) (W : World) (hc0 : W.cell? ⟨kb, 0, none⟩ = some (.int .u64 (k : Nat)))
    (hx : ∀ W', Calls Tryz.prog 148 #[.string x, .int .u64 (k : Nat)] W' fun e w' => e = .returned (.int .u64 (fx : Nat)) ∧ Gr W' w')
    (hy : ∀ W', Calls Tryz.prog 148 #[.string y, .int .u64 (k : Nat)] W' fun e w' => e = .returned (.int .u64 (fy : Nat)) ∧ Gr W' w') :
    Calls Tryz.prog 147 #[.string x, .string y, .pointer (some ⟨kb, 0, none⟩)] W fun e w' => e = .returned (.int .i64 (if cmpU fy fx = 0 then cmpS x y else cmpU fy fx)) ∧ Gr W w' := by
  have hU := fun W' => compareU fy fx W'
  have hS := fun W' => compareS x y W'
  generalize cmpU fy fx = u at *
  generalize cmpS x y = v at *
  have hO := fun b W' c0 c1 => or_two b u v W' c0 c1
  generalize (if u = 0 then v else u) = r at hO ⊢
  have hx' : ∀ W', Gr W W' → Calls Tryz.prog 148 #[.string x, .int .u64 (k : Nat)] W' fun e w' => e = .returned (.int .u64 (fx : Nat)) ∧ Gr W w' := fun W' h => (hx W').mono fun _ _ ⟨h1, h2⟩ => ⟨h1, h.trans h2⟩
  have hy' : ∀ W', Gr W W' → Calls Tryz.prog 148 #[.string y, .int .u64 (k : Nat)] W' fun e w' => e = .returned (.int .u64 (fy : Nat)) ∧ Gr W w' := fun W' h => (hy W').mono fun _ _ ⟨h1, h2⟩ => ⟨h1, h.trans h2⟩
  have hcc : ∀ W', Gr W W' → W'.cell? ⟨kb, 0, none⟩ = some (.int .u64 (k : Nat)) := fun W' h => h.cell hc0
  have hg1 : Gr W W.drew := (Gr.refl W).drewN 1
  clear hx hy
  go_enter Tryz.func147, Tryz.ntmps147
  go_wp2_with fail
  go_region_held3 (fun w' => Gr W w' ∧ w'.cell? ⟨kb, 0, none⟩ = some (.int .u64 (k : Nat))) (first | exact ⟨by assumption, hcc _ (by assumption)⟩ | exact ⟨Gr.alloc (by assumption) _, hcc _ (Gr.alloc (by assumption) _)⟩)
   (first
    | (go_at_call 148; first | (refine (hx' _ (by assumption)).mono ?_; rintro e w' ⟨rfl, hgn⟩) | (refine (hy' _ (by assumption)).mono ?_; rintro e w' ⟨rfl, hgn⟩))
    | (go_at_call 142; refine (hU _).mono ?_; rintro e w' ⟨rfl, rfl⟩)
    | (go_at_call 143; refine (hS _).mono ?_; rintro e w' ⟨rfl, rfl⟩)
    | (go_at_call 141; refine (hO _ _ (by simp) (by simp)).mono ?_; rintro e w' ⟨rfl, rfl⟩))
  all_goals
    go_wp2
    go_ret
    exact ⟨rfl, by first | assumption | exact Gr.alloc (by assumption) _⟩
theorem closureR (kb k : Nat) (hk : k < 18446744073709551616) (x y : ByteArray) (hx : x.size ≤ 300) (hy : y.size ≤ 300) (W : World) (hc0 : W.cell? ⟨kb, 0, none⟩ = some (.int .u64 (k : Nat))) :
    Calls Tryz.prog 147 #[.string x, .string y, .pointer (some ⟨kb, 0, none⟩)] W fun e w' => e = .returned (.int .i64 (cfR (Lh.score k) x y)) ∧ Gr W w' :=
  closureR0 (Lh.score k x) (Lh.score k y) kb k x y W hc0 (fun W' => score_gr x k hk W' hx) (fun W' => score_gr y k hk W' hy)
end Go.Proofs.YtfhmfjcpggddkaaGreatDoor

/- slices.SortFunc of texts, by the library's own contract: laid at this program's numbers. -/
namespace Go.Proofs.YtfhmfjcpggddkaaGreatDoor
open Go.Shelf
def sortS_ren : Go.Shelf.Ren := ⟨fun | 6 => 146 | 15 => 180 | 14 => 186 | 28 => 230 | 29 => 231 | 20 => 233 | 21 => 234 | 22 => 235 | 23 => 236 | 24 => 237 | 25 => 238 | 26 => 239 | 27 => 240 | 46 => 275 | 47 => 271 | 48 => 272 | 49 => 276 | 50 => 277 | 57 => 303 | n => n, fun | 22 => 22 | 24 => 9 | 25 => 208 | 3 => 3 | 39 => 261 | 0 => 0 | 53 => 287 | 55 => 63 | 4 => 4 | 46 => 300 | 45 => 299 | 50 => 294 | 5 => 5 | 9 => 9 | 66 => 330 | 70 => 334 | 76 => 354 | 77 => 55 | n => n, fun | n => n⟩
theorem sortS : Go.Proofs.SlLaysF.n6 Tryz.prog sortS_ren := {
  mixed := by kernel_rfl
  f6 := ⟨Tryz.f146.name, by decide, Tryz.func146.trans (congrArg some (by kernel_rfl))⟩
  f14 := ⟨Tryz.f186.name, by decide, Tryz.func186.trans (congrArg some (by kernel_rfl))⟩
  f15 := Tryz.func180.trans (congrArg some (by kernel_rfl))
  f20 := ⟨Tryz.f233.name, by decide, Tryz.func233.trans (congrArg some (by kernel_rfl))⟩
  f21 := ⟨Tryz.f234.name, by decide, Tryz.func234.trans (congrArg some (by kernel_rfl))⟩
  f22 := ⟨Tryz.f235.name, by decide, Tryz.func235.trans (congrArg some (by kernel_rfl))⟩
  f23 := ⟨Tryz.f236.name, by decide, Tryz.func236.trans (congrArg some (by kernel_rfl))⟩
  f24 := ⟨Tryz.f237.name, by decide, Tryz.func237.trans (congrArg some (by kernel_rfl))⟩
  f25 := ⟨Tryz.f238.name, by decide, Tryz.func238.trans (congrArg some (by kernel_rfl))⟩
  f26 := ⟨Tryz.f239.name, by decide, Tryz.func239.trans (congrArg some (by kernel_rfl))⟩
  f27 := ⟨Tryz.f240.name, by decide, Tryz.func240.trans (congrArg some (by kernel_rfl))⟩
  f28 := Tryz.func230.trans (congrArg some (by kernel_rfl))
  f29 := Tryz.func231.trans (congrArg some (by kernel_rfl))
  f46 := ⟨Tryz.f275.name, by decide, Tryz.func275.trans (congrArg some (by kernel_rfl))⟩
  f47 := Tryz.func271.trans (congrArg some (by kernel_rfl))
  f48 := Tryz.func272.trans (congrArg some (by kernel_rfl))
  f49 := ⟨Tryz.f276.name, by decide, Tryz.func276.trans (congrArg some (by kernel_rfl))⟩
  f50 := ⟨Tryz.f277.name, by decide, Tryz.func277.trans (congrArg some (by kernel_rfl))⟩
  f57 := ⟨Tryz.f303.name, by decide, Tryz.func303.trans (congrArg some (by kernel_rfl))⟩
  t0 := Tryz.underlying0
  a0 := Tryz.isAgg0
  z0 := Tryz.sizeOf0
  v0 := Tryz.zeroValue0
  t3 := Tryz.underlying3
  a3 := Tryz.isAgg3
  z3 := Tryz.sizeOf3
  v3 := Tryz.zeroValue3
  t4 := Tryz.underlying4
  a4 := Tryz.isAgg4
  z4 := Tryz.sizeOf4
  v4 := Tryz.zeroValue4
  t5 := Tryz.underlying5
  a5 := Tryz.isAgg5
  z5 := Tryz.sizeOf5
  v5 := Tryz.zeroValue5
  t9 := Tryz.underlying9
  a9 := Tryz.isAgg9
  z9 := Tryz.sizeOf9
  v9 := Tryz.zeroValue9
  t22 := Tryz.underlying22
  a22 := Tryz.isAgg22
  z22 := Tryz.sizeOf22
  v22 := Tryz.zeroValue22
  a24 := Tryz.isAgg9
  z24 := Tryz.sizeOf9
  t25 := Tryz.underlying208
  a25 := Tryz.isAgg208
  z25 := Tryz.sizeOf208
  v25 := Tryz.zeroValue208
  t39 := Tryz.underlying261
  a39 := Tryz.isAgg261
  z39 := Tryz.sizeOf261
  v39 := Tryz.zeroValue261
  t45 := Tryz.underlying299
  a45 := Tryz.isAgg299
  z45 := Tryz.sizeOf299
  v45 := Tryz.zeroValue299
  t46 := Tryz.underlying300
  a46 := Tryz.isAgg300
  z46 := Tryz.sizeOf300
  v46 := Tryz.zeroValue300
  t50 := Tryz.underlying294
  a50 := Tryz.isAgg294
  z50 := Tryz.sizeOf294
  v50 := Tryz.zeroValue294
  t53 := Tryz.underlying287
  a53 := Tryz.isAgg287
  z53 := Tryz.sizeOf287
  v53 := Tryz.zeroValue287
  t55 := Tryz.underlying63
  a55 := Tryz.isAgg63
  z55 := Tryz.sizeOf63
  v55 := Tryz.zeroValue63
  t66 := Tryz.underlying330
  a66 := Tryz.isAgg330
  z66 := Tryz.sizeOf330
  v66 := Tryz.zeroValue330
  t70 := Tryz.underlying334
  a70 := Tryz.isAgg334
  z70 := Tryz.sizeOf334
  v70 := Tryz.zeroValue334
  t76 := Tryz.underlying354
  a76 := Tryz.isAgg354
  z76 := Tryz.sizeOf354
  v76 := Tryz.zeroValue354
  t77 := Tryz.underlying55
  a77 := Tryz.isAgg55
  z77 := Tryz.sizeOf55
  v77 := Tryz.zeroValue55 }
end Go.Proofs.YtfhmfjcpggddkaaGreatDoor

/- The landed byScore: slices.Clone, slices.SortFunc. -/
namespace Go.Proofs.YtfhmfjcpggddkaaGreatDoor
open Go.RowKit Go.Sort Go.Shelf Go.Lib

abbrev Sub := {s : ByteArray // s.size ≤ 300}
instance : Inhabited Sub := ⟨⟨ByteArray.empty, by decide⟩⟩
def encS (s : Sub) : Value := .string s.1
theorem encS_one : OneCell encS := fun _ => rfl
def cfS (f : ByteArray → Nat) (x y : Sub) : Int := cfR f x.1 y.1
theorem ltS_false (f : ByteArray → Nat) (x y : Sub) : ltOf (cfS f) x y = false ↔ Lh.leR f y.1 x.1 := by
  unfold ltOf cfS cfR cmpU cmpS Lh.leR
  rcases Nat.lt_trichotomy (f x.1) (f y.1) with h | h | h
  · have h2 : ¬ f y.1 < f x.1 := by omega
    simp [h, h2]
  · by_cases h3 : Lh.bl x.1 < Lh.bl y.1
    · have h5 : ¬ Lh.bl y.1 ≤ Lh.bl x.1 := fun h6 => List.not_lt.2 h6 h3
      simp [h, h3]
    · have h5 : Lh.bl y.1 ≤ Lh.bl x.1 := List.not_lt.1 h3
      by_cases h4 : Lh.bl y.1 < Lh.bl x.1
      · simp [h, h3, h4, h5]
      · simp [h, h3, h4, h5]
  · have h2 : ¬ f x.1 < f y.1 := by omega
    have h6 : ¬ f y.1 = f x.1 := by omega
    simp [h, h2, h6]
theorem ltS_true (f : ByteArray → Nat) (x y : Sub) : ltOf (cfS f) x y = true ↔ ¬ Lh.leR f y.1 x.1 := by
  rw [← ltS_false, Bool.not_eq_false]
theorem swoS (f : ByteArray → Nat) : SWO (ltOf (cfS f)) where
  irrefl x := (ltS_false f x x).2 (Lh.leR_refl f x.1)
  trans x y z h1 h2 := by
    rw [ltS_true] at *
    intro h3
    rcases Lh.leR_total f x.1 y.1 with h4 | h4
    · exact h2 (Lh.leR_trans h3 h4)
    · exact h1 h4
  ntrans x y z h1 h2 := by
    rw [ltS_false] at *
    exact Lh.leR_trans h2 h1
theorem sortedS (f : ByteArray → Nat) (d : List Sub) : (d.mergeSort fun x y => !(ltOf (cfS f)) y x).map (·.1) = Lh.order f (d.map (·.1)) := by
  refine Lh.order_unique ?_ ((List.mergeSort_perm _ _).map _)
  rw [List.pairwise_map]
  have := List.pairwise_mergeSort (le := fun x y => !(ltOf (cfS f)) y x) (fun a b c h k => by
    simp only [Bool.not_eq_eq_eq_not, Bool.not_true] at h k ⊢
    rw [ltS_false] at *
    exact Lh.leR_trans h k) (fun a b => by
    rw [Bool.or_eq_true]
    simp only [Bool.not_eq_eq_eq_not, Bool.not_true]
    rw [ltS_false, ltS_false]
    exact Lh.leR_total f a.1 b.1) d
  refine this.imp fun {a b} h => ?_
  simp only [Bool.not_eq_eq_eq_not, Bool.not_true] at h
  exact (ltS_false f b a).1 h

theorem size_sortW {w : World} {g m : Nat} (dk : Array Sub) : (putRow encS (Sort.ahead w m) g 0 dk).heap.size = w.heap.size := by simp [putRow, mapBlock, Sort.ahead]
theorem cell_sortW {w : World} {g kb m : Nat} {dk : Array Sub} {os : Array Obj} {v : Value} (hne : kb ≠ g) (hkl : kb < w.heap.size) (hk : w.cell? ⟨kb, 0, none⟩ = some v) : (sortWorld encS w g 0 m dk os).cell? ⟨kb, 0, none⟩ = some v := by
  unfold sortWorld
  rw [cell?_grow _ _ _ (by rw [size_sortW]; exact hkl), cell?_putRow_other _ _ _ _ _ _ (Or.inl hne)]
  exact hk
theorem grownBy_sortW {w : World} {g n : Nat} {os : Array Obj} (d : Array Sub) : w.grownBy (sortWorld encS w g 0 n d os) (some g) := by
  unfold sortWorld
  refine ⟨rfl, rfl, rfl, by simp [putRow, mapBlock, Sort.ahead], fun k hk hne => ?_⟩
  rw [heap_grow_old _ _ (by rw [size_sortW]; exact hk)]
  have : g ≠ k := fun e => hne (by rw [e])
  simp [putRow, mapBlock, Sort.ahead, Array.getElem?_modify, this]
theorem entersV : ∀ args w, (callFunc 147 args).run Tryz.prog w = .ok (.enter 147 args) w := enters_of Tryz.func147 (by kernel_rfl) rfl

theorem get_encS (l : List Sub) (i : Nat) (h : i < l.length) : encS (l.toArray[i]!) = .string l[i].1 := by
  simp [encS, h]
/-- slices.SortFunc of texts by scores. -/
theorem sortR (k : Nat) (hk : k < 18446744073709551616) (g kb cap : Nat) (d : List Sub) (w : World) (hne : kb ≠ g) (hkl : kb < w.heap.size) (hkb : w.cell? ⟨kb, 0, none⟩ = some (.int .u64 (k : Nat))) (hH : Holds encS w g 0 d.toArray) (hg : g < w.heap.size) (hsz : d.length < 1000000) :
    Calls Tryz.prog 146 #[.slice (some ⟨g, 0, none⟩) d.length cap, .func (.func 147) #[] #[.pointer (some ⟨kb, 0, none⟩)]] w fun e w' => e = .returned (.tuple #[]) ∧ w.grownBy w' (some g) ∧ ∃ d' : List Sub, d'.map (·.1) = Lh.order (Lh.score k) (d.map (·.1)) ∧ ∀ i (h : i < d'.length), w'.cell? ⟨g, i, none⟩ = some (.string d'[i].1) := by
  have hcmp : CmpLays1 Tryz.prog 147 #[.pointer (some ⟨kb, 0, none⟩)] encS (cfS (Lh.score k)) g 0 d.toArray.size w := fun m os dk _ x y =>
    (closureR kb k hk x.1 y.1 x.2 y.2 _ (cell_sortW hne hkl hkb)).mono fun _ _ ⟨h1, h2⟩ => ⟨h1, h2⟩
  have h := Any.slices_SortFunc_total sortS encS encS_one (cfS (Lh.score k)) (swoS _) 147 #[.pointer (some ⟨kb, 0, none⟩)] g 0 cap d.toArray w entersV hcmp hH hg (by simp; omega) (fun x y h1 h2 => Subtype.ext (Lh.leR_antisymm ((ltS_false _ y x).1 h2) ((ltS_false _ x y).1 h1)))
  rw [List.size_toArray] at h
  refine Calls.mono h ?_
  rintro e w' ⟨rfl, n, os, rfl⟩
  refine ⟨rfl, grownBy_sortW _, _, sortedS (Lh.score k) d, fun i hi => ?_⟩
  have hs : (d.mergeSort fun x y => !(ltOf (cfS (Lh.score k))) y x).toArray.size = d.toArray.size := by simp
  have hh : Holds encS (sortWorld encS w g 0 n (d.mergeSort fun x y => !(ltOf (cfS (Lh.score k))) y x).toArray os) g 0 (d.mergeSort fun x y => !(ltOf (cfS (Lh.score k))) y x).toArray := by
    unfold sortWorld
    exact holds_grow _ _ _ _ _ _ (by rw [size_sortW]; exact hg) (holds_putRow _ _ _ _ _ _ (holds_ahead _ _ _ _ _ _ hH) hs)
  have := (hh i (by simpa using hi)).1
  rw [Nat.zero_add] at this
  rw [this, get_encS _ i hi]
end Go.Proofs.YtfhmfjcpggddkaaGreatDoor

/- slices.Clone of texts; rival.check. -/
namespace Go.Proofs.YtfhmfjcpggddkaaGreatDoor
open Go.RowKit

theorem owns_empty (w : World) : (w.alloc (.cells #[] 9)).ownsRow w.heap.size 9 1 (.slice (some ⟨w.heap.size, 0, none⟩) 0 0) 0 (([] : List ByteArray).map Value.string) :=
  ⟨rfl, Or.inr ⟨w.heap.size, 0, #[], rfl, Nat.le_refl _, heap_alloc_new w _, Nat.le_refl _, by unfold maxLen; omega, rfl, rfl⟩⟩
set_option maxRecDepth 100000 in
set_option maxHeartbeats 1000000 in
theorem clone_any (b o c : Nat) (xs : List ByteArray) (w : World) (hx : ∀ k (h : k < xs.length), w.cell? ⟨b, o + k, none⟩ = some (.string xs[k])) (hm : xs.length < 1000000) :
    Calls Tryz.prog 145 #[.slice (some ⟨b, o, none⟩) xs.length c] w fun e w' => ∃ v', e = .returned v' ∧ w'.ownsRow w.heap.size 9 1 v' xs.length (xs.map Value.string) ∧ Below w.heap.size w w' := by
  obtain ⟨i, hi, hz0, hz1, hz2⟩ := info_parts infoS
  have hmax : 0 + xs.length ≤ maxLen := by unfold maxLen; omega
  have hbW := (Below.refl w.heap.size w).alloc (Nat.le_refl _) (.cells #[] 9)
  have hnews := cells_strs (fun k h => below_cell hbW (hx k h))
  have hown0 := owns_empty w
  clear hx
  have hnil : ∀ W : World, (binOp .eql 22 (.slice (some ⟨b, o, none⟩) xs.length c) (.slice none 0 0)).run Tryz.prog W = .ok (.bool false) W := fun _ => rfl
  go_enter Tryz.func145, Tryz.ntmps145
  go_wp2_with (at_builtin; refine wpList_append_own _ rfl _ _ 22 rfl w.heap.size 9 i _ 1 16 Tryz.underlying22 hi hz0 hz1 hz2 rfl (by decide) (.slice (some ⟨w.heap.size, 0, none⟩) 0 0) 0 _ rfl hown0 ⟨b, o, none⟩ xs.length c (xs.map Value.string) rfl (by simp) hnews (strs_oneCell xs) hmax (by omega) hbW.size ?_)
  intro v' w' hown hg _
  have hb' : Below w.heap.size w w' := hbW.grown hg hbW.size (fun k hk => (hown0.lt k hk).1)
  have hown' : w'.ownsRow w.heap.size 9 1 v' xs.length (xs.map Value.string) := by simpa using hown
  have HF : Hid (w'.ownsRow w.heap.size 9 1 v' xs.length (xs.map Value.string)) := hown'
  clear hown hown' hg hown0 hnews
  go_wp2
  go_ret
  exact ⟨_, rfl, HF.out, hb'⟩

/-- What is wrong with hosts, of whom there must be some: the error's number, and where. -/
def SFault (xs : List ByteArray) (c : Nat) (pl : Int) : Prop := (xs = [] ∧ c = 5 ∧ pl = -1) ∨ (0 < xs.length ∧ IsFault xs c pl)
set_option maxHeartbeats 1000000 in
theorem rcheck_none (a : Nat → Addr) (p : Option Addr) (c : Nat) (w : World) (he : Errs4 a w) :
    Calls Tryz.prog 90 #[.slice p 0 c] w fun e w' => e = .returned (.iface 378 (.pointer (some (a 4)))) ∧ Below w.heap.size w w' := by
  have s4 := he.s4
  go_enter Tryz.func90, Tryz.ntmps90
  go_wp2
  go_ret
  exact ⟨rfl, Below.refl _ _⟩
set_option maxHeartbeats 1000000 in
theorem rcheck_some (a : Nat → Addr) (v : Value) (xs : List ByteArray) (w : World) (c : Nat) (pl : Int) (he : Errs4 a w) (hv : Strs1 w v xs) (h0 : 0 < xs.length) (hf : IsFault xs c pl) (hsz : ∀ k (h : k < xs.length), (xs[k]).size ≤ 1000000) (hm : xs.length < 1000000) :
    Calls Tryz.prog 90 #[v] w fun e w' => ∃ ev, e = .returned ev ∧ ErrIs a w' c pl ev ∧ Below w.heap.size w w' := by
  have hchk := check_any4 a v xs w c pl he hv.strs hf hsz hm
  obtain ⟨b, o, cp, rfl, hx⟩ := strsPos hv h0
  clear hv hf hsz hx he
  have hl0 : ((xs.length : Int) == 0) = false := by rw [beq_eq_false_iff_ne]; omega
  go_enter Tryz.func90, Tryz.ntmps90
  go_wp2_with fail
  refine hchk.mono ?_
  rintro e w1 ⟨ev, rfl, hev, hb1⟩
  have HEV : Hid (ErrIs a w1 c pl ev) := hev
  clear hev hchk
  go_wp2
  go_ret
  exact ⟨_, rfl, HEV.out, hb1⟩
/-- rival.check of any list of texts. -/
theorem rcheck_any (a : Nat → Addr) (v : Value) (xs : List ByteArray) (w : World) (c : Nat) (pl : Int) (he : Errs4 a w) (hv : Strs1 w v xs) (hf : SFault xs c pl) (hsz : ∀ k (h : k < xs.length), (xs[k]).size ≤ 1000000) (hm : xs.length < 1000000) :
    Calls Tryz.prog 90 #[v] w fun e w' => ∃ ev, e = .returned ev ∧ ErrIs a w' c pl ev ∧ Below w.heap.size w w' := by
  rcases hf with ⟨rfl, rfl, rfl⟩ | ⟨h0, hf⟩
  · obtain ⟨p, cp, rfl⟩ := hv.strs.slice
    exact (rcheck_none a p cp w he).mono fun e w' ⟨h1, h2⟩ => ⟨_, h1, Or.inr ⟨4, by decide, rfl, Or.inl ⟨rfl, rfl⟩⟩, h2⟩
  · exact rcheck_some a v xs w c pl he hv h0 hf hsz hm
end Go.Proofs.YtfhmfjcpggddkaaGreatDoor

/- The landed byScore, whole. -/
namespace Go.Proofs.YtfhmfjcpggddkaaGreatDoor
open Go.RowKit Go.Sort Go.Shelf Go.Lib

theorem attach_val {xs : List ByteArray} (hs : ∀ s ∈ xs, s.size ≤ 300) : (xs.attachWith (fun s => s.size ≤ 300) hs).map (·.1) = xs := List.attachWith_map_subtype_val _
/-- A row of texts that one has made, as the sort wants it. -/
theorem holds_of_owns {w : World} {base : Nat} {v : Value} {e : TypeId} {xs : List ByteArray} (hs : ∀ s ∈ xs, s.size ≤ 300) (h : w.ownsRow base e 1 v xs.length (xs.map Value.string)) (h0 : 0 < xs.length) :
    ∃ g cap, v = .slice (some ⟨g, 0, none⟩) xs.length cap ∧ base ≤ g ∧ g < w.heap.size ∧ xs.length ≤ cap ∧ Holds encS w g 0 (xs.attachWith (fun s => s.size ≤ 300) hs).toArray := by
  obtain ⟨hl, ⟨rfl, h'⟩ | ⟨g, cap, cur, rfl, hbase, hb, hn, hm, hsz, ht⟩⟩ := h
  · omega
  · have hlt : g < w.heap.size := (Array.getElem?_eq_some_iff.1 hb).1
    refine ⟨g, cap, rfl, hbase, hlt, hn, fun j hj => ⟨?_, by simp [World.frozen?, hb]⟩⟩
    have hj' : j < xs.length := by simpa using hj
    have hk' : (cur.toList.take (xs.length * 1))[j]? = some (.string xs[j]) := by rw [ht]; simp [hj']
    rw [List.getElem?_take_of_lt (by omega)] at hk'
    simp only [World.cell?, hb, Nat.zero_add]
    have e : (xs.attachWith (fun s => s.size ≤ 300) hs).toArray[j]! = ⟨xs[j], hs _ (List.getElem_mem hj')⟩ := by simp [hj']
    rw [e]
    simpa [encS] using hk'

set_option maxRecDepth 100000 in
set_option maxHeartbeats 2000000 in
theorem byScore_any (v : Value) (xs : List ByteArray) (k : Nat) (hk : k < 18446744073709551616) (w : World) (hv : Strs1 w v xs) (h0 : 0 < xs.length) (hm : xs.length < 1000000) (hs : ∀ s ∈ xs, s.size ≤ 300) :
    Calls Tryz.prog 91 #[v, .int .u64 (k : Nat)] w fun e w' => ∃ v', e = .returned v' ∧ Strs1 w' v' (Lh.order (Lh.score k) xs) ∧ Below w.heap.size w w' := by
  have hbW := (Below.refl w.heap.size w).alloc (Nat.le_refl _) (.cells #[.int .u64 (k : Nat)] 63)
  have hck : (w.alloc (.cells #[.int .u64 (k : Nat)] 63)).cell? ⟨w.heap.size, 0, none⟩ = some (.int .u64 (k : Nat)) := by simp
  have hsz1 : (w.alloc (.cells #[.int .u64 (k : Nat)] 63)).heap.size = w.heap.size + 1 := by simp
  obtain ⟨b, o, c, rfl, hx⟩ := strsPos hv h0
  have hcl := clone_any b o c xs (w.alloc (.cells #[.int .u64 (k : Nat)] 63)) (fun j h => below_cell hbW (hx j h)) hm
  have HK : Hid (k < 18446744073709551616) := hk
  have HS : Hid (∀ s ∈ xs, s.size ≤ 300) := hs
  clear hv hx hs hk
  go_enter Tryz.func91, Tryz.ntmps91
  go_wp2_with fail
  refine hcl.mono ?_
  clear hcl
  generalize w.alloc (.cells #[.int .u64 (k : Nat)] 63) = w0 at *
  rintro e w1 ⟨v', rfl, hown, hb1⟩
  have hbw1 : Below w.heap.size w w1 := hbW.trans (hb1.mono hbW.size)
  have hck1 := below_cell hb1 hck
  have hklt : w.heap.size < w1.heap.size := by have := hb1.size; omega
  obtain ⟨g, cp, rfl, hg0, hg1, hcp, hH⟩ := holds_of_owns HS.out hown h0
  have hsort := sortR k HK.out g w.heap.size cp (xs.attachWith (fun s => s.size ≤ 300) HS.out) w1 (by omega) hklt hck1 hH hg1 (by simpa using hm)
  rw [attach_val, List.length_attachWith] at hsort
  clear hown hb1 hck hck1 hH
  go_wp2_with fail
  refine hsort.mono ?_
  rintro e w2 ⟨rfl, hgr, d', hd', hcells⟩
  have hb2 : Below w.heap.size w w2 := hbw1.grown hgr hbw1.size (fun k hk => by cases hk; omega)
  have HF : Hid (Strs1 w2 (.slice (some ⟨g, 0, none⟩) xs.length cp) (Lh.order (Lh.score k) xs)) := by
    have hl : (Lh.order (Lh.score k) xs).length = xs.length := Lh.order_length _ _
    refine Or.inr ⟨g, 0, cp, by rw [hl], by omega, fun j hj => ?_⟩
    have hj' : j < d'.length := by rw [← hd', List.length_map] at hj; exact hj
    rw [Nat.zero_add, hcells j hj']
    congr 2
    have : (Lh.order (Lh.score k) xs)[j] = (d'.map (·.1))[j]'(by simpa using hj') := by congr 1; exact hd'.symm
    rw [this, List.getElem_map]
  clear hsort hgr hd' hcells
  go_wp2
  go_ret
  exact ⟨_, rfl, HF.out, hb2⟩
end Go.Proofs.YtfhmfjcpggddkaaGreatDoor

/- The landed Order and Host of rivals; the law's closed fact. -/
namespace Go.Proofs.YtfhmfjcpggddkaaGreatDoor
open Go.RowKit

theorem small_of {xs : List ByteArray} {n m : Nat} (hs : ∀ k (h : k < xs.length), (xs[k]).size ≤ n) (hnm : n ≤ m) : ∀ k (h : k < xs.length), (xs[k]).size ≤ m := fun k h => Nat.le_trans (hs k h) hnm
theorem small_mem {xs : List ByteArray} {n : Nat} (hs : ∀ k (h : k < xs.length), (xs[k]).size ≤ n) : ∀ s ∈ xs, s.size ≤ n := fun s h => by
  obtain ⟨k, hk, rfl⟩ := List.getElem_of_mem h
  exact hs k hk

set_option maxRecDepth 100000 in
set_option maxHeartbeats 2000000 in
theorem order_good (a : Nat → Addr) (v : Value) (xs : List ByteArray) (k : Nat) (hk : k < 18446744073709551616) (w : World) (he : Errs4 a w) (hv : Strs1 w v xs) (h0 : 0 < xs.length) (hf : IsFault xs 0 (-1)) (hs : ∀ k (h : k < xs.length), (xs[k]).size ≤ 300) (hm : xs.length < 1000000) :
    Calls Tryz.prog 41 #[v, .int .u64 (k : Nat)] w fun e w' => ∃ v', e = .returned (.tuple #[v', .nilIface]) ∧ Strs1 w' v' (Lh.order (Lh.score k) xs) ∧ Below w.heap.size w w' := by
  have hchk := rcheck_any a v xs w 0 (-1) he hv (Or.inr ⟨h0, hf⟩) (small_of hs (by decide)) hm
  have hby := fun W (hb : Below w.heap.size w W) => byScore_any v xs k hk W (hv.later hb) h0 hm (small_mem hs)
  obtain ⟨b, o, c, rfl, hx⟩ := strsPos hv h0
  clear he hv hf hs hx
  generalize Lh.order (Lh.score k) xs = ys at *
  go_enter Tryz.func41, Tryz.ntmps41
  go_wp2_with fail
  refine hchk.mono ?_
  rintro e w1 ⟨ev, rfl, hev, hb1⟩
  obtain rfl := err0 hev
  clear hev hchk
  go_wp2_with fail
  refine (hby _ hb1).mono ?_
  rintro e w2 ⟨v', rfl, hv', hb2⟩
  have hbz : Below w.heap.size w w2 := below_then hb1 hb2
  have HF : Hid (Strs1 w2 v' ys) := hv'
  clear hby hv' hb1 hb2
  go_wp2
  go_ret2
  exact ⟨_, rfl, HF.out, hbz⟩
end Go.Proofs.YtfhmfjcpggddkaaGreatDoor

/- The reference's ScoreOf; laying in one more, pure. -/
namespace Go.Proofs.YtfhmfjcpggddkaaGreatDoor
open Go.RowKit Go.Sort

namespace Lh
theorem insR_sorted {f : ByteArray → Nat} {ys : List ByteArray} {x : ByteArray} {k : Nat} (hs : ys.Pairwise (leR f)) (hlo : ∀ j (h : j < ys.length), j < k → leR f ys[j] x) (hhi : ∀ h : k < ys.length, leR f x ys[k]) :
    (ys.take k ++ x :: ys.drop k).Pairwise (leR f) := by
  have hpw := List.pairwise_iff_getElem.1 hs
  have hlow : ∀ y ∈ ys.take k, leR f y x := by
    intro y hy
    rw [List.mem_take_iff_getElem] at hy
    obtain ⟨j, hj, rfl⟩ := hy
    exact hlo j (by omega) (by omega)
  have hhigh : ∀ y ∈ ys.drop k, leR f x y := by
    intro y hy
    rw [List.mem_drop_iff_getElem] at hy
    obtain ⟨j, hj, rfl⟩ := hy
    have hkl : k < ys.length := by omega
    rcases Nat.eq_zero_or_pos j with h | h
    · subst h; simpa using hhi hkl
    · exact leR_trans (hhi hkl) (hpw k (k + j) hkl (by omega) (by omega))
  rw [List.pairwise_append, List.pairwise_cons]
  refine ⟨hs.sublist (List.take_sublist _ _), ⟨hhigh, hs.sublist (List.drop_sublist _ _)⟩, fun a ha b hb => ?_⟩
  rcases List.mem_cons.1 hb with rfl | hb
  · exact hlow a ha
  · exact leR_trans (hlow a ha) (hhigh b hb)
theorem insR_perm {ys xs : List ByteArray} {n : Nat} (hn : n < xs.length) {k : Nat} (hp : ys.Perm (xs.take n)) : (ys.take k ++ xs[n] :: ys.drop k).Perm (xs.take (n + 1)) := by
  rw [List.take_succ_eq_append_getElem hn]
  refine List.perm_middle.trans ?_
  rw [List.take_append_drop]
  exact (hp.cons _).trans (List.perm_append_singleton _ _).symm
/-- x ahead of y -/
theorem leR_more {f : ByteArray → Nat} {x y : ByteArray} (h : f y < f x) : leR f x y := Or.inl h
theorem leR_less {f : ByteArray → Nat} {x y : ByteArray} (h : f x < f y) : leR f y x := Or.inl h
theorem leR_same {f : ByteArray → Nat} {x y : ByteArray} (h : f x = f y) (hb : Op.bytesLess x.toList y.toList = true) : leR f x y := by
  rw [less_bl] at hb
  exact Or.inr ⟨h, List.le_of_lt (of_decide_eq_true hb)⟩
theorem leR_same_not {f : ByteArray → Nat} {x y : ByteArray} (h : f x = f y) (hb : Op.bytesLess x.toList y.toList = false) : leR f y x := by
  rw [less_bl] at hb
  exact Or.inr ⟨h.symm, List.not_lt.1 (of_decide_eq_false hb)⟩
end Lh

set_option maxHeartbeats 400000 in
/-- the reference's ScoreOf -/
theorem scoreOf_any (s : ByteArray) (k : Nat) (hk : k < 18446744073709551616) (w : World) (hs : s.size ≤ 300) :
    Calls Tryz.prog 129 #[.string s, .int .u64 (k : Nat)] w fun e w' => e = .returned (.int .u64 (Lh.score k s : Nat)) ∧ w' = w := by
  go_enter Tryz.func129, Tryz.ntmps129
  go_wp2_with fail
  refine (numberOf_any s 3 _ hs).mono ?_
  rintro e w1 ⟨rfl, rfl⟩
  go_wp2_with fail
  refine (turnOf_any _ _).mono ?_
  rintro e w2 ⟨rfl, rfl⟩
  go_wp2_with fail
  rw [xorNat _ _ (Lh.turn_lt _) hk]
  refine (turnOf_any _ _).mono ?_
  rintro e w3 ⟨rfl, rfl⟩
  go_wp2
  go_ret
  exact ⟨rfl, rfl⟩
end Go.Proofs.YtfhmfjcpggddkaaGreatDoor
