/- The reference's NextOf. -/
import Derived.Test.YtepclafmkhphbabDoorRKeys
import Derived.Test.YtepclafmkhphbabDoorRRef1
import Derived.Deep.RegionHeld3
namespace Go.Proofs.YtepclafmkhphbabDoor
open Go.RowKit Go.Sort Go.Shelf Go.Lib

def lenV : Value → Nat
  | .slice _ n _ => n
  | _ => 0
/-- the best point of the first i -/
def BestIs (out : List ByteArray) (f : Nat) (L : List Lh.Pt) (tb : Value) (i : Nat) : Prop :=
  (tb = .int .i64 (-1) ∧ ∀ j (h : j < L.length), j < i → L[j].2 ∈ out) ∨
  ∃ b0, ∃ hb0 : b0 < L.length, b0 < i ∧ tb = .int .i64 (b0 : Nat) ∧ ¬ L[b0].2 ∈ out ∧ ∀ j (h : j < L.length), j < i → ¬ L[j].2 ∈ out → Lh.leF f L[b0] L[j]
theorem BestIs.skip {out : List ByteArray} {f : Nat} {L : List Lh.Pt} {tb : Value} {i : Nat} (h : BestIs out f L tb i) (hi : i < L.length) (hm : L[i].2 ∈ out) : BestIs out f L tb (i + 1) := by
  rcases h with ⟨h1, h2⟩ | ⟨b0, hb0, h1, h2, h3, h4⟩
  · refine Or.inl ⟨h1, fun j hj hji => ?_⟩
    by_cases e : j = i
    · subst e; exact hm
    · exact h2 j hj (by omega)
  · refine Or.inr ⟨b0, hb0, by omega, h2, h3, fun j hj hji hn => ?_⟩
    by_cases e : j = i
    · subst e; exact absurd hm hn
    · exact h4 j hj (by omega) hn
theorem BestIs.first {out : List ByteArray} {f : Nat} {L : List Lh.Pt} {i : Nat} (h2 : ∀ j (h : j < L.length), j < i → L[j].2 ∈ out) (hi : i < L.length) (hm : ¬ L[i].2 ∈ out) : BestIs out f L (.int .i64 (i : Nat)) (i + 1) := by
  refine Or.inr ⟨i, hi, by omega, rfl, hm, fun j hj hji hn => ?_⟩
  by_cases e : j = i
  · subst e; exact Lh.leF_refl _ _
  · exact absurd (h2 j hj (by omega)) hn
theorem BestIs.turn {out : List ByteArray} {f : Nat} {L : List Lh.Pt} {i b0 : Nat} (hb0 : b0 < L.length) (h4 : ∀ j (h : j < L.length), j < i → ¬ L[j].2 ∈ out → Lh.leF f L[b0] L[j]) (hi : i < L.length) (hm : ¬ L[i].2 ∈ out) (hl : Lh.lessF f L[i] L[b0] = true) : BestIs out f L (.int .i64 (i : Nat)) (i + 1) := by
  refine Or.inr ⟨i, hi, by omega, rfl, hm, fun j hj hji hn => ?_⟩
  by_cases e : j = i
  · subst e; exact Lh.leF_refl _ _
  · exact Lh.leF_trans (Lh.lessF_true hl) (h4 j hj (by omega) hn)
theorem BestIs.stay {out : List ByteArray} {f : Nat} {L : List Lh.Pt} {i b0 : Nat} (hb0 : b0 < L.length) (hbi : b0 < i) (h3 : ¬ L[b0].2 ∈ out) (h4 : ∀ j (h : j < L.length), j < i → ¬ L[j].2 ∈ out → Lh.leF f L[b0] L[j]) (hi : i < L.length) (hl : Lh.lessF f L[i] L[b0] = false) : BestIs out f L (.int .i64 (b0 : Nat)) (i + 1) := by
  refine Or.inr ⟨b0, hb0, by omega, rfl, h3, fun j hj hji hn => ?_⟩
  by_cases e : j = i
  · subst e; exact Lh.lessF_false hl
  · exact h4 j hj (by omega) hn

theorem less_pt (f : Nat) (p q : Lh.Pt) (w : World) :
    Calls Tryd.prog 55 #[.int .u64 (f : Nat), .agg #[.int .u64 (p.1 : Nat), .string p.2], .agg #[.int .u64 (q.1 : Nat), .string q.2]] w fun e w' => e = .returned (.bool (Lh.lessF f p q)) ∧ Below w.heap.size w w' := less_any f p.1 q.1 p.2 q.2 w
set_option maxRecDepth 100000 in
set_option maxHeartbeats 4000000 in
theorem nextOf_any (rb blk cap : Nat) (L R : List Lh.Pt) (z : Nat) (many : Int) (w : World) (hR : RingBlk w rb blk cap L) (hp : R.Perm L) (hs : R.Pairwise (Lh.leF (Lh.turn z))) (hl : L.length < 1000000) :
    Calls Tryd.prog 37 #[.pointer (some ⟨rb, 0, none⟩), .int .u64 (z : Nat), .int .i64 many] w fun e w' => ∃ v, e = .returned v ∧ Strs1 w' v ((Lh.dd [] R).take many.toNat) ∧ Below w.heap.size w w' := by
  obtain ⟨ii, hi, hz0, hz1, hz2⟩ := info_parts infoS
  have HCR : Hid (∀ W, Below w.heap.size w W → W.cell? ⟨rb, 0, none⟩ = some (.slice (some ⟨blk, 0, none⟩) L.length cap)) := fun W hW => below_cell hW hR.1
  have HCA : Hid (∀ W, Below w.heap.size w W → ∀ i (h : i < L.length), W.cell? ⟨blk, i * 2, none⟩ = some (.int .u64 (L[i].1 : Nat)) ∧ W.cell? ⟨blk, i * 2 + 1, none⟩ = some (.string L[i].2)) := fun W hW i h => ⟨below_cell hW (hR.2 i h).1, below_cell hW (hR.2 i h).2⟩
  have HT := turnOf_any z w
  have hdl : (Lh.dd [] R).length ≤ L.length := by
    have := Lh.dd_length_le R []
    rw [hp.length_eq] at this
    simpa using this
  have HDL : Hid ((Lh.dd [] R).length ≤ L.length) := hdl
  clear hdl
  generalize Lh.turn z = f at *
  have HNX : Hid (∀ k, k ≤ (Lh.dd [] R).length → ∀ b0 (hb0 : b0 < L.length), ¬ L[b0].2 ∈ (Lh.dd [] R).take k → (∀ j (h : j < L.length), j < L.length → ¬ L[j].2 ∈ (Lh.dd [] R).take k → Lh.leF f L[b0] L[j]) → k < (Lh.dd [] R).length ∧ (Lh.dd [] R).take (k + 1) = (Lh.dd [] R).take k ++ [L[b0].2]) := fun k hk b0 hb0 hn hmin =>
    Lh.dd_next hs (hp.mem_iff.2 (List.getElem_mem hb0)) hk hn (fun q hq hqn => by
      obtain ⟨j, hj, rfl⟩ := List.getElem_of_mem (hp.mem_iff.1 hq)
      exact hmin j hj hj hqn)
  have HALL : Hid (∀ k, k ≤ (Lh.dd [] R).length → (∀ j (h : j < L.length), j < L.length → L[j].2 ∈ (Lh.dd [] R).take k) → k = (Lh.dd [] R).length) := fun k hk h =>
    Lh.dd_all hk (fun q hq => by
      obtain ⟨j, hj, rfl⟩ := List.getElem_of_mem (hp.mem_iff.1 hq)
      exact h j hj hj)
  generalize Lh.dd [] R = D at *
  clear hR hp hs
  go_enter Tryd.func37, Tryd.ntmps37
  go_wp2_with fail
  refine HT.mono ?_
  rintro e w1 ⟨rfl, rfl⟩
  clear HT
  go_wp2_with fail
  go_loopw [8] (fun v W => Below w1.heap.size w1 W ∧ ∃ k : Nat, k ≤ D.length ∧ k ≤ many.toNat ∧ W.ownsRow w1.heap.size 9 1 v k ((D.take k).map Value.string)) (fun v _ => D.length - lenV v)
  case atStart => exact ⟨Below.refl _ _, 0, Nat.zero_le _, Nat.zero_le _, by simpa using owns_nil w1 _ _⟩
  case round =>
    obtain ⟨hb, k, hkD, hkm, hown⟩ := hrel
    obtain ⟨p, c, rfl⟩ : ∃ p c, u8 = .slice p k c := by
      obtain ⟨_, ⟨rfl, rfl⟩ | ⟨g, cp, _, rfl, _⟩⟩ := hown
      · exact ⟨_, _, rfl⟩
      · exact ⟨_, _, rfl⟩
    have hkl : k < 1000000 := by have := HDL.out; omega
    by_cases hkk : (k : Int) < many
    · have hd : decide ((k : Int) < many) = true := by simpa using hkk
      have HOWN : Hid (wr.ownsRow w1.heap.size 9 1 (.slice p k c) k ((D.take k).map Value.string)) := hown
      clear hown
      have hdn : D.length - k = D.length - k := rfl
      clear hdn
      generalize wr = W0 at *
      have hout : (D.take k).length < 1000000 := by rw [List.length_take]; omega
      have HSTR : Hid (∀ W, Below W0.heap.size W0 W → Strs W (.slice p k c) (D.take k)) := fun W hW => (strs_of_owns (ownsRow_below HOWN.out hW)).strs
      go_wp2_with fail
      go_loopw [9, 10] (fun tb t W => Below W0.heap.size W0 W ∧ ∃ i : Nat, i ≤ L.length ∧ t = .int .i64 i ∧ BestIs (D.take k) f L tb i) (fun _ t _ => L.length - (intOf t).toNat)
      case atStart => exact ⟨Below.refl _ _, 0, Nat.zero_le _, rfl, Or.inl ⟨rfl, fun j _ h => absurd h (by omega)⟩⟩
      case round =>
        obtain ⟨hbr, i, hil, rfl, hbest⟩ := hrel
        have hbw : Below w1.heap.size w1 wr := below_then hb hbr
        have c0 := HCR.out wr hbw
        by_cases hlt : i < L.length
        · obtain ⟨ca, ch⟩ := HCA.out wr hbw i hlt
          have hii : (i : Int) < (L.length : Int) := by omega
          have hmem := refMem_any (.slice p k c) (D.take k) L[i].2 wr (HSTR.out wr hbr) hout
          by_cases hin : L[i].2 ∈ D.take k
          · have HB2 : Hid (BestIs (D.take k) f L u9 (i + 1)) := hbest.skip hlt hin
            rw [Lh.mem_true hin] at hmem
            clear hin hbest ca
            generalize L[i].2 = s at *
            go_wp2_with fail
            refine hmem.mono ?_
            rintro e w2 ⟨⟨j, rfl, hj⟩, rfl⟩
            clear hmem
            go_wp2
            exact ⟨⟨hbr, i + 1, by omega, by go_num, HB2.out⟩, by simp [intOf]; omega⟩
          · rw [Lh.mem_false hin] at hmem
            rcases hbest with ⟨rfl, hall⟩ | ⟨b0, hb0, hbi, rfl, hn0, hmin⟩
            · have HB2 : Hid (BestIs (D.take k) f L (.int .i64 (i : Nat)) (i + 1)) := BestIs.first hall hlt hin
              clear hin hall ca
              generalize L[i].2 = s at *
              go_wp2_with fail
              refine hmem.mono ?_
              rintro e w2 ⟨⟨j, rfl, hj⟩, rfl⟩
              clear hmem
              go_wp2_with fail
              go_quiet (fail)
              go_wp2
              exact ⟨⟨below_drewN hbr _, i + 1, by omega, by go_num, HB2.out⟩, by simp [intOf]; omega⟩
            · have hb0i : (b0 : Int) < (L.length : Int) := by omega
              have hd0 : decide ((b0 : Int) < 0) = false := by simp
              have HSS : Hid (∀ W', Below W0.heap.size W0 W' → Below W0.heap.size W0 W' ∧ W'.cell? ⟨rb, 0, none⟩ = some (.slice (some ⟨blk, 0, none⟩) L.length cap) ∧ W'.cell? ⟨blk, i * 2, none⟩ = some (.int .u64 (L[i].1 : Nat)) ∧ W'.cell? ⟨blk, i * 2 + 1, none⟩ = some (.string L[i].2) ∧ W'.cell? ⟨blk, b0 * 2, none⟩ = some (.int .u64 (L[b0].1 : Nat)) ∧ W'.cell? ⟨blk, b0 * 2 + 1, none⟩ = some (.string L[b0].2)) := fun W' hW' => ⟨hW', HCR.out _ (below_then hb hW'), (HCA.out _ (below_then hb hW') i hlt).1, (HCA.out _ (below_then hb hW') i hlt).2, (HCA.out _ (below_then hb hW') b0 hb0).1, (HCA.out _ (below_then hb hW') b0 hb0).2⟩
              cases hr : Lh.lessF f L[i] L[b0]
              · have HB2 : Hid (BestIs (D.take k) f L (.int .i64 (b0 : Nat)) (i + 1)) := BestIs.stay hb0 hbi hn0 hmin hlt hr
                have hless : ∀ W', Below W0.heap.size W0 W' → Calls Tryd.prog 55 #[.int .u64 (f : Nat), .agg #[.int .u64 (L[i].1 : Nat), .string L[i].2], .agg #[.int .u64 (L[b0].1 : Nat), .string L[b0].2]] W' fun e w' => e = .returned (.bool false) ∧ Below W0.heap.size W0 w' := fun W' hW' => (less_pt f L[i] L[b0] W').mono fun e w' ⟨h1, h2⟩ => ⟨by rw [h1, hr], below_then hW' h2⟩
                clear hr hin hn0 hmin ca
                generalize L[i] = pi at *
                generalize L[b0] = pb at *
                go_wp2_with fail
                refine hmem.mono ?_
                rintro e w2 ⟨⟨j, rfl, hj⟩, rfl⟩
                clear hmem
                go_wp2_with fail
                go_region_held3 (fun w' => Below W0.heap.size W0 w' ∧ w'.cell? ⟨rb, 0, none⟩ = some (.slice (some ⟨blk, 0, none⟩) L.length cap) ∧ w'.cell? ⟨blk, i * 2, none⟩ = some (.int .u64 (pi.1 : Nat)) ∧ w'.cell? ⟨blk, i * 2 + 1, none⟩ = some (.string pi.2) ∧ w'.cell? ⟨blk, b0 * 2, none⟩ = some (.int .u64 (pb.1 : Nat)) ∧ w'.cell? ⟨blk, b0 * 2 + 1, none⟩ = some (.string pb.2))
                  (first | exact HSS.out _ (by assumption) | exact HSS.out _ (below_drewN hbr 1))
                  (first
                    | (go_at_call 55; refine (hless _ (by first | assumption | exact below_drewN hbr 1)).mono ?_; rintro e w' ⟨rfl, hbn⟩))
                all_goals
                  go_wp2
                  exact ⟨⟨hbn, i + 1, by omega, by go_num, HB2.out⟩, by simp [intOf]; omega⟩
              · have HB2 : Hid (BestIs (D.take k) f L (.int .i64 (i : Nat)) (i + 1)) := BestIs.turn hb0 hmin hlt hin hr
                have hless : ∀ W', Below W0.heap.size W0 W' → Calls Tryd.prog 55 #[.int .u64 (f : Nat), .agg #[.int .u64 (L[i].1 : Nat), .string L[i].2], .agg #[.int .u64 (L[b0].1 : Nat), .string L[b0].2]] W' fun e w' => e = .returned (.bool true) ∧ Below W0.heap.size W0 w' := fun W' hW' => (less_pt f L[i] L[b0] W').mono fun e w' ⟨h1, h2⟩ => ⟨by rw [h1, hr], below_then hW' h2⟩
                clear hr hin hn0 hmin ca
                generalize L[i] = pi at *
                generalize L[b0] = pb at *
                go_wp2_with fail
                refine hmem.mono ?_
                rintro e w2 ⟨⟨j, rfl, hj⟩, rfl⟩
                clear hmem
                go_wp2_with fail
                go_region_held3 (fun w' => Below W0.heap.size W0 w' ∧ w'.cell? ⟨rb, 0, none⟩ = some (.slice (some ⟨blk, 0, none⟩) L.length cap) ∧ w'.cell? ⟨blk, i * 2, none⟩ = some (.int .u64 (pi.1 : Nat)) ∧ w'.cell? ⟨blk, i * 2 + 1, none⟩ = some (.string pi.2) ∧ w'.cell? ⟨blk, b0 * 2, none⟩ = some (.int .u64 (pb.1 : Nat)) ∧ w'.cell? ⟨blk, b0 * 2 + 1, none⟩ = some (.string pb.2))
                  (first | exact HSS.out _ (by assumption) | exact HSS.out _ (below_drewN hbr 1))
                  (first
                    | (go_at_call 55; refine (hless _ (by first | assumption | exact below_drewN hbr 1)).mono ?_; rintro e w' ⟨rfl, hbn⟩))
                all_goals
                  go_wp2
                  exact ⟨⟨hbn, i + 1, by omega, by go_num, HB2.out⟩, by simp [intOf]; omega⟩
        · have hie : i = L.length := by omega
          subst hie
          have hstr := ownsRow_below HOWN.out hbr
          rcases hbest with ⟨rfl, hall⟩ | ⟨b0, hb0, hbi, rfl, hn0, hmin⟩
          · have HK : Hid (k = D.length) := HALL.out k hkD hall
            have HFS : Hid (Strs1 wr (.slice p k c) (D.take k)) := strs_of_owns hstr
            clear hall hstr
            go_wp2
            go_ret
            refine ⟨_, rfl, ?_, hbw⟩
            have e1 := HK.out
            have e2 := HFS.out
            rw [e1, List.take_length] at e2
            rw [List.take_of_length_le (by omega), e1]
            exact e2
          · obtain ⟨hkD', htk⟩ := HNX.out k hkD b0 hb0 hn0 hmin
            have HTK : Hid (D.take (k + 1) = D.take k ++ [L[b0].2]) := htk
            obtain ⟨_, ch⟩ := HCA.out wr hbw b0 hb0
            have hb0i : (b0 : Int) < (L.length : Int) := by omega
            have hd0 : decide ((b0 : Int) < 0) = false := by simp
            clear htk hn0 hmin
            generalize L[b0].2 = s at *
            have hown3 := hstr.alloc (.cells #[.string s] 9)
            have hnews := cells_one (w := wr) (t := 9) s
            have hbw3 : Below w1.heap.size w1 (wr.alloc (.cells #[.string s] 9)) := hbw.alloc hbw.size _
            have hmax : k + 1 ≤ maxLen := by unfold maxLen; omega
            clear hstr
            go_wp2_with (at_builtin; refine wpList_append_own _ rfl _ _ 41 rfl w1.heap.size 9 ii _ 1 16 Tryd.underlying41 hi hz0 hz1 hz2 rfl (by decide) (.slice p k c) k _ rfl hown3 ⟨wr.heap.size, 0, none⟩ 1 1 [.string s] rfl rfl hnews (fun u hu => by simp at hu; subst hu; rfl) hmax (by omega) hbw3.size ?_)
            intro v' w4 hown4 hg4 _
            have hlo := hown3.lt
            have hb4 : Below w1.heap.size w1 w4 := hbw3.grown hg4 hbw3.size (fun q hq => (hlo q hq).1)
            have hout4 : w4.ownsRow w1.heap.size 9 1 v' (k + 1) ((D.take k).map Value.string ++ [.string s]) := by simpa using hown4
            have HOUT : Hid (w4.ownsRow w1.heap.size 9 1 v' (k + 1) ((D.take k).map Value.string ++ [.string s])) := hout4
            clear hout4
            clear hown3 hnews hlo hg4 hbw3 hmax
            obtain ⟨_, ⟨_, hbad⟩ | ⟨g, cp, cur, rfl, _⟩⟩ := hown4
            · omega
            go_wp2
            refine ⟨⟨hb4, k + 1, hkD', by omega, ?_⟩, by simp [lenV]; omega⟩
            rw [HTK.out]
            exact owns_snoc HOUT.out
    · have hd : decide ((k : Int) < many) = false := by simpa using hkk
      go_wp2
      go_ret
      have : k = many.toNat := by omega
      refine ⟨_, rfl, ?_, hb⟩
      rw [← this]
      exact strs_of_owns hown
end Go.Proofs.YtepclafmkhphbabDoor
