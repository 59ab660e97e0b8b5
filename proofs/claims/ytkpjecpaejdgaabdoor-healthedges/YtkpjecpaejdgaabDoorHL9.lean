/- The landed health keeps its contracts. -/
import Derived.Test.YtkpjecpaejdgaabDoorHLM
import Derived.Test.YtkpjecpaejdgaabDoorHLN
import Derived.Test.YtkpjecpaejdgaabDoorHL8
namespace Go.Proofs.YtkpjecpaejdgaabDoor
open Go.RowKit Go.Shelf

section
variable {W W1 w2 : World} {p f r : Nat} {l : List Lh.Hh} {bs : List Nat} {lv : Value}
theorem HR.removed {g n cap : Nat} (h : HR W p f r l bs (.slice (some ⟨g, 0, none⟩) n cap)) (k : Nat) (hk : k < l.length) (hB : Below W.heap.size W W1) {m : Nat} (hm : m = (bs.eraseIdx k).length) (hown : w2.ownsRow (p + 1) 111 1 (.slice (some ⟨g, 0, none⟩) m cap) m ((bs.eraseIdx k).map ptrS)) (hgr : W1.grownBy w2 (some g)) :
    HR (w2.setCell ⟨p, 2, none⟩ (.slice (some ⟨g, 0, none⟩) m cap)) p f r (l.eraseIdx k) (bs.eraseIdx k) (.slice (some ⟨g, 0, none⟩) m cap) ∧ Tur (HFoot p bs (.slice (some ⟨g, 0, none⟩) n cap)) W (w2.setCell ⟨p, 2, none⟩ (.slice (some ⟨g, 0, none⟩) m cap)) ∧ ∀ j, HFoot p (bs.eraseIdx k) (.slice (some ⟨g, 0, none⟩) m cap) j → HFoot p bs (.slice (some ⟨g, 0, none⟩) n cap) j := by
  have hp := h.plt
  have hs1 := hB.size
  have hpg : p < g := (h.own.lt g rfl).1
  have hsub := List.eraseIdx_sublist bs k
  have hsame : ∀ j, j < W.heap.size → j ≠ p → j ≠ g → (w2.setCell ⟨p, 2, none⟩ (.slice (some ⟨g, 0, none⟩) m cap)).heap[j]? = W.heap[j]? := fun j hj hjp hjg => by
    rw [heap_setCell_other w2 ⟨p, 2, none⟩ j _ (fun e => hjp e), hgr.block j (by omega) (fun e => hjg (Option.some.inj e)), hB.block j hj]
  have hpb : w2.heap[p]? = W.heap[p]? := (hgr.block p (by omega) (fun e => by have := Option.some.inj e; omega)).trans (hB.block p hp)
  refine ⟨⟨?_, ?_, ?_, fun j => ?_, ?_, ?_, fun i h1 h2 => ?_, h.nd.sublist hsub, fun b hb => h.gt b (hsub.mem hb), fun b hb => h.apart b (hsub.mem hb)⟩, ⟨hgr.os.trans hB.os, hgr.tape.trans hB.tape, hgr.output.trans hB.output, ?_, fun j hj hf => hsame j hj (fun e => hf (Or.inl e)) (fun e => hf (Or.inr (Or.inl (by rw [e]; rfl))))⟩, fun j hj => ?_⟩
  · have : w2.cell? ⟨p, 0, none⟩ = _ := (World.cell?_of_block (w := W) (w' := w2) (a := ⟨p, 0, none⟩) hpb).trans h.c0
    simp [go_sem, this]
  · have : w2.cell? ⟨p, 1, none⟩ = _ := (World.cell?_of_block (w := W) (w' := w2) (a := ⟨p, 1, none⟩) hpb).trans h.c1
    simp [go_sem, this]
  · have : w2.cell? ⟨p, 2, none⟩ = _ := (World.cell?_of_block (w := W) (w' := w2) (a := ⟨p, 2, none⟩) hpb).trans h.c2
    simp [go_sem, this]
  · have : w2.frozen? ⟨p, j, none⟩ = _ := (World.frozen?_of_block (w := W) (w' := w2) (a := ⟨p, j, none⟩) hpb).trans (h.fz j)
    simp [go_sem, this]
  · have e : (l.eraseIdx k).length = m := by rw [hm, List.length_eraseIdx, List.length_eraseIdx, h.len]
    rw [e]
    exact howns_setCell (k := 2) hown (Nat.lt_succ_self p) _
  · rw [List.length_eraseIdx, List.length_eraseIdx, h.len]
  · have hl := h.len
    have h3 : i < l.length - 1 := by rw [List.length_eraseIdx, if_pos hk] at h1; exact h1
    have key : ∀ q (q1 : q < l.length) (q2 : q < bs.length), HSt (w2.setCell ⟨p, 2, none⟩ (.slice (some ⟨g, 0, none⟩) m cap)) bs[q] l[q] := fun q q1 q2 => by
      have hs := h.st q q1 q2
      have hm := List.getElem_mem q2
      have hg := h.gt _ hm
      exact hs.same (hsame _ hs.lt (by omega) (fun e => h.apart _ hm (by rw [e]; rfl)))
    rw [List.getElem_eraseIdx, List.getElem_eraseIdx]
    by_cases hik : i < k
    · rw [dif_pos hik, dif_pos hik]
      exact key i (by omega) (by omega)
    · rw [dif_neg hik, dif_neg hik]
      exact key (i + 1) (by omega) (by omega)
  · have := hgr.size
    simp [World.setCell]
    omega
  · rcases hj with rfl | e | hy
    · exact Or.inl rfl
    · exact Or.inr (Or.inl e)
    · exact Or.inr (Or.inr (hsub.mem hy))

set_option maxHeartbeats 1000000 in
theorem removeS_none (a : Nat → Addr) (he : Errs4 a W) (h : HR W p f r l bs lv) (hl : l.length ≤ 12) (s : ByteArray) (hx : ¬ Lh.hix l s < l.length) :
    Calls Tryd.prog 38 #[.pointer (some ⟨p, 0, none⟩), .string s] W fun e w' => e = .returned (.iface 203 (.pointer (some (a 4)))) ∧ Below W.heap.size W w' := by
  have hfd := findS_none h hl s hx
  have HE : Hid (Errs4 a W) := he
  clear h hx he
  go_enter Tryd.func38, Tryd.ntmps38
  go_wp2_with fail
  refine hfd.mono ?_
  rintro e w1 ⟨rfl, hb1⟩
  have hb2 : Below W.heap.size W (w1.alloc (.cells #[.pointer none] 111)) := hb1.alloc hb1.size _
  have s4 := (HE.out.later hb2).s4
  clear hfd
  go_wp2
  go_ret
  exact ⟨rfl, hb2⟩

set_option maxHeartbeats 1000000 in
theorem removeS_good (h : HR W p f r l bs lv) (hl : l.length ≤ 12) (s : ByteArray) (hx : Lh.hix l s < l.length) :
    Calls Tryd.prog 38 #[.pointer (some ⟨p, 0, none⟩), .string s] W fun e w' => e = .returned .nilIface ∧ ∃ bs' lv', HR w' p f r (l.eraseIdx (Lh.hix l s)) bs' lv' ∧ Tur (HFoot p bs lv) W w' ∧ ∀ b, HFoot p bs' lv' b → HFoot p bs lv b := by
  obtain ⟨b, hb⟩ := h.at hx
  have hfd := findS_good h hl s hx hb
  have hmem : b ∈ bs := List.mem_of_getElem? hb
  obtain ⟨g, cap, rfl, hcap, hcm, hpg, hrow, _⟩ := h.row (by omega)
  have hln := h.len
  have HH : Hid (HR W p f r l bs (.slice (some ⟨g, 0, none⟩) l.length cap)) := h
  have HB : Hid (bs[Lh.hix l s]? = some b) := hb
  have HX : Hid (Lh.hix l s < l.length) := hx
  have HM : Hid (b ∈ bs) := hmem
  have HLN : Hid (bs.length = l.length) := hln
  clear hrow h hb hx hmem hln
  go_enter Tryd.func38, Tryd.ntmps38
  go_wp2_with fail
  refine hfd.mono ?_
  rintro e w1 ⟨rfl, hb1⟩
  clear hfd
  have hb2 : Below W.heap.size W (w1.alloc (.cells #[.pointer (some ⟨b, 0, none⟩)] 111)) := hb1.alloc hb1.size _
  have hR := HH.out.later hb2
  have c2 := hR.c2
  have hgl : g < W.heap.size := (HH.out.own.lt g rfl).2
  have hw1 := hb1.size
  have hdel := deleteS (p + 1) g cap w1.heap.size b bs (w1.alloc (.cells #[.pointer (some ⟨b, 0, none⟩)] 111)) (by rw [HLN.out]; exact hR.own) (by simp) (by omega) HM.out (fun x hx => ⟨fun e => HH.out.apart x hx (by rw [e]; rfl), by
    obtain ⟨i, hi, rfl⟩ := List.getElem_of_mem hx
    exact (hR.st i (by rw [← HLN.out]; exact hi) hi).blk⟩)
  rw [filter_eraseIdx HH.out.nd HB.out, HLN.out] at hdel
  have hme : (bs.eraseIdx (Lh.hix l s)).length ≤ cap := Nat.le_trans (List.eraseIdx_sublist _ _).length_le (by rw [HLN.out]; exact hcap)
  generalize hmm : (bs.eraseIdx (Lh.hix l s)).length = m at *
  have HMM : Hid (m = (bs.eraseIdx (Lh.hix l s)).length) := hmm.symm
  clear hR hmm
  go_wp2_with fail
  refine hdel.mono ?_
  rintro e w2 ⟨rfl, hown2, hgr2⟩
  have HN : Hid _ := HH.out.removed (Lh.hix l s) HX.out hb2 HMM.out hown2 hgr2
  obtain ⟨d2, g2⟩ := HH.out.grown hb2 hgr2
  clear hdel hown2 hgr2 c2
  go_wp2
  go_ret
  exact ⟨rfl, _, _, HN.out⟩
end

/-- The landed health. -/
def healthC : HealthC where
  Rep f r l F p W := ∃ bs lv, HR W p f r l bs lv ∧ F = HFoot p bs lv
  lt := fun ⟨bs, lv, h, e⟩ b hb => by subst e; exact (h.lt b hb).1
  stay := fun ⟨bs, lv, h, e⟩ _ hs => ⟨bs, lv, h.stay fun b hb => hs b (by subst e; exact hb), e⟩
  newG := fun a v xs f r W he hv hf hs h1 h2 h3 h4 => (newS_good a v xs f r W he hv hf hs h1 h2 h3 h4).mono fun _ _ ⟨p, bs, lv, q1, q2, q3, q4⟩ => ⟨p, _, q1, ⟨bs, lv, q2, rfl⟩, fun b hb => Nat.le_trans q3 (q2.lt b hb).2, q4⟩
  newB := fun a v xs x y W c pl he hv hf hs hl => by
    rcases hf with ⟨hc, hf⟩ | ⟨hf, hxy, rfl, rfl⟩
    · exact newS_bad1 a v xs x y W c pl he hv hc hf hs hl
    · refine (newS_bad2 a v xs x y W he hv hf hxy hs hl).mono ?_
      rintro e w' ⟨rfl, hb⟩
      exact ⟨_, rfl, Or.inr ⟨1, by decide, rfl, Or.inl ⟨rfl, rfl⟩⟩, hb⟩
  look := fun a f r l F p s well W he ⟨bs, lv, h, e⟩ hk _ => by
    subst e
    refine (lookS_any a he h hk s well).mono ?_
    rintro e w' ⟨hT, ⟨hx, q1, q2⟩ | ⟨hx, q1, q2⟩⟩
    · exact ⟨_, fun b hb => Or.inl hb, hT, Or.inl ⟨hx, q1, bs, lv, q2, rfl⟩⟩
    · exact ⟨_, fun b hb => Or.inl hb, hT, Or.inr ⟨hx, q1, bs, lv, q2, rfl⟩⟩
  up := fun f r l F p W ⟨bs, lv, h, _⟩ hk => upS_any h hk.len
  is := fun f r l F p s W ⟨bs, lv, h, _⟩ hk _ => isS_any h hk s
  add := fun a f r l F p s W he ⟨bs, lv, h, e⟩ hk hn hs => by
    subst e
    by_cases g1 : l.length < 12
    · by_cases g2 : Lh.isNm s = true
      · by_cases g3 : Lh.hix l s < l.length
        · have hf : AddFault l s 5 := Or.inr (Or.inr ⟨g1, g2, g3, rfl⟩)
          refine (addS_bad a he h hk hn s hs 5 hf).mono ?_
          rintro e w' ⟨q1, q2⟩
          exact ⟨_, fun b hb => Or.inl hb, Tur.of_below q2, Or.inr ⟨5, hf, q1, bs, lv, h.later q2, rfl⟩⟩
        · refine (addS_good a he h hk hn s hs g1 g2 g3).mono ?_
          rintro e w' ⟨q1, bs', lv', q2, q3, q4⟩
          exact ⟨_, q4, q3, Or.inl ⟨g1, g2, g3, q1, bs', lv', q2, rfl⟩⟩
      · have hf : AddFault l s 3 := Or.inr (Or.inl ⟨g1, by simpa using g2, rfl⟩)
        refine (addS_bad a he h hk hn s hs 3 hf).mono ?_
        rintro e w' ⟨q1, q2⟩
        exact ⟨_, fun b hb => Or.inl hb, Tur.of_below q2, Or.inr ⟨3, hf, q1, bs, lv, h.later q2, rfl⟩⟩
    · have hf : AddFault l s 1 := Or.inl ⟨by omega, rfl⟩
      refine (addS_bad a he h hk hn s hs 1 hf).mono ?_
      rintro e w' ⟨q1, q2⟩
      exact ⟨_, fun b hb => Or.inl hb, Tur.of_below q2, Or.inr ⟨1, hf, q1, bs, lv, h.later q2, rfl⟩⟩
  remove := fun a f r l F p s W he ⟨bs, lv, h, e⟩ hk _ => by
    subst e
    by_cases hx : Lh.hix l s < l.length
    · refine (removeS_good h hk.len s hx).mono ?_
      rintro e w' ⟨q1, bs', lv', q2, q3, q4⟩
      exact ⟨_, fun b hb => Or.inl (q4 b hb), q3, Or.inl ⟨hx, q1, bs', lv', q2, rfl⟩⟩
    · refine (removeS_none a he h hk.len s hx).mono ?_
      rintro e w' ⟨q1, q2⟩
      exact ⟨_, fun b hb => Or.inl hb, Tur.of_below q2, Or.inr ⟨hx, q1, bs, lv, h.later q2, rfl⟩⟩
end Go.Proofs.YtkpjecpaejdgaabDoor
