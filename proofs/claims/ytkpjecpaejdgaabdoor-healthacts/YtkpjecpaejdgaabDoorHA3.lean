/- The law HealthActs: the steps of both sides. -/
import Derived.Test.YtkpjecpaejdgaabDoorHA1
namespace Go.Proofs.YtkpjecpaejdgaabDoor
open Go.RowKit

theorem Tur.cell {F : Nat → Prop} {W W1 : World} (h : Tur F W W1) {x k : Nat} {v : Value} (hc : W.cell? ⟨x, k, none⟩ = some v) (hx : ¬ F x) : W1.cell? ⟨x, k, none⟩ = some v := by
  have hlt : x < W.heap.size := World.block_lt_of_cell? W ⟨x, k, none⟩ hc
  exact (World.cell?_of_block (w := W) (w' := W1) (a := ⟨x, k, none⟩) (h.block x hlt hx)).trans hc
/-- what Add makes of the hosts: the error's number -/
def ResA (l : List Lh.Hh) (s : ByteArray) (l' : List Lh.Hh) (c : Nat) : Prop :=
  (l.length < 12 ∧ Lh.isNm s = true ∧ ¬ Lh.hix l s < l.length ∧ l' = l ++ [(s, false, 0)] ∧ c = 0) ∨ ∃ k, AddFault l s k ∧ l' = l ∧ c = k + 1
/-- what Remove makes of the hosts -/
def ResR (l : List Lh.Hh) (s : ByteArray) (l' : List Lh.Hh) (c : Nat) : Prop :=
  (Lh.hix l s < l.length ∧ l' = l.eraseIdx (Lh.hix l s) ∧ c = 0) ∨ (¬ Lh.hix l s < l.length ∧ l' = l ∧ c = 5)
/-- the landed side is a step ahead -/
structure Mid (hC : HealthC) (a : Nat → Addr) (w : World) (f r p m : Nat) (B : Nat) (l : List Lh.Hh) (F : Nat → Prop) (L : List Mh) (lv : Value) (l' : List Lh.Hh) (F' : Nat → Prop) (ev : Value) (c : Nat) (W1 : World) : Prop where
  ex : ∃ W, Both hC w f r p m B l F L lv W ∧ Tur F W W1 ∧ ∀ b, F' b → F b ∨ W.heap.size ≤ b
  rep : hC.Rep f r l' F' p W1
  err : ∀ W, ErrIs a W c (-1) ev
section
variable {hC : HealthC} {a : Nat → Addr} {w : World} {f r p m B : Nat} {l : List Lh.Hh} {F : Nat → Prop} {L : List Mh} {lv : Value} {W : World}
theorem Both.size (h : Both hC w f r p m B l F L lv W) : L.length ≤ 12 := by
  have := h.ok.len
  rw [← h.same, hst_length] at this
  exact this
theorem Both.mono {B' : Nat} (h : Both hC w f r p m B l F L lv W) (hB : B ≤ B') : Both hC w f r p m B' l F L lv W := ⟨h.rep, h.mh, h.same, h.ok, h.nms, h.fw, h.mw, h.apart, fun x hx => Nat.le_trans (h.looks x hx) hB, h.below⟩
theorem Both.add1 (he : Errs a w) (h : Both hC w f r p m B l F L lv W) (s : ByteArray) (hs : s.size ≤ 300) {x : Nat} {v : Value} (hc : W.cell? ⟨x, 1, none⟩ = some v) (hx : ¬ F x) :
    Calls Tryd.prog 36 #[.pointer (some ⟨p, 0, none⟩), .string s] W fun e W1 => ∃ ev c l' F', e = .returned ev ∧ ResA l s l' c ∧ Mid hC a w f r p m B l F L lv l' F' ev c W1 ∧ W1.cell? ⟨x, 1, none⟩ = some v := by
  refine (hC.add a f r l F p s W (he.later h.below) h.rep h.ok h.nms hs).mono ?_
  rintro e W1 ⟨F', h1, h2, ⟨g1, g2, g3, rfl, h3⟩ | ⟨k, hk, rfl, h3⟩⟩
  · exact ⟨_, 0, _, F', rfl, Or.inl ⟨g1, g2, g3, rfl, rfl⟩, ⟨⟨W, h, h2, h1⟩, h3, fun _ => Or.inl ⟨rfl, rfl, rfl⟩⟩, h2.cell hc hx⟩
  · refine ⟨_, k + 1, _, F', rfl, Or.inr ⟨k, hk, rfl, rfl⟩, ⟨⟨W, h, h2, h1⟩, h3, fun _ => Or.inr ⟨k, ?_, rfl, Or.inl ⟨rfl, rfl⟩⟩⟩, h2.cell hc hx⟩
    rcases hk with ⟨_, rfl⟩ | ⟨_, _, rfl⟩ | ⟨_, _, _, rfl⟩ <;> decide
theorem Both.remove1 (he : Errs a w) (h : Both hC w f r p m B l F L lv W) (s : ByteArray) (hs : s.size ≤ 300) {x : Nat} {v : Value} (hc : W.cell? ⟨x, 1, none⟩ = some v) (hx : ¬ F x) :
    Calls Tryd.prog 38 #[.pointer (some ⟨p, 0, none⟩), .string s] W fun e W1 => ∃ ev c l' F', e = .returned ev ∧ ResR l s l' c ∧ Mid hC a w f r p m B l F L lv l' F' ev c W1 ∧ W1.cell? ⟨x, 1, none⟩ = some v := by
  refine (hC.remove a f r l F p s W (he.later h.below).four h.rep h.ok hs).mono ?_
  rintro e W1 ⟨F', h1, h2, ⟨g1, rfl, h3⟩ | ⟨g1, rfl, h3⟩⟩
  · exact ⟨_, 0, _, F', rfl, Or.inl ⟨g1, rfl, rfl⟩, ⟨⟨W, h, h2, h1⟩, h3, fun _ => Or.inl ⟨rfl, rfl, rfl⟩⟩, h2.cell hc hx⟩
  · exact ⟨_, 5, _, F', rfl, Or.inr ⟨g1, rfl, rfl⟩, ⟨⟨W, h, h2, h1⟩, h3, fun _ => Or.inr ⟨4, by decide, rfl, Or.inl ⟨rfl, rfl⟩⟩⟩, h2.cell hc hx⟩
theorem Mid.mh {l' : List Lh.Hh} {F' : Nat → Prop} {ev : Value} {c : Nat} {W1 : World} (h : Mid hC a w f r p m B l F L lv l' F' ev c W1) : MH W1 m f r L lv := by
  obtain ⟨W, hB, hT, _⟩ := h.ex
  exact hB.mh1 hT
theorem Mid.step {l' : List Lh.Hh} {F' : Nat → Prop} {ev : Value} {c : Nat} {W1 W2 : World} (h : Mid hC a w f r p m B l F L lv l' F' ev c W1) {L' : List Mh} {lv' : Value} {B' : Nat} (hM : MH W2 m f r L' lv') (hT2 : Tur (MFoot m L lv) W1 W2) (hG : ∀ b, MFoot m L' lv' b → MFoot m L lv b ∨ W1.heap.size ≤ b) (hsame : hst L' = l') (hok : Lh.HOk f r l') (hn : ∀ x ∈ l', Lh.isNm x.1 = true) (hl : ∀ x ∈ L', x.looks.length ≤ B') : Both hC w f r p m B' l' F' L' lv' W2 := by
  obtain ⟨W, hB, hT, hF⟩ := h.ex
  exact hB.step hF hT h.rep hM hT2 hG hsame hok hn hl
/-- the model's Add behind the landed one's -/
theorem Mid.add2 {s : ByteArray} (hs : s.size ≤ 300) {l' : List Lh.Hh} {F' : Nat → Prop} {ev : Value} {c : Nat} {W1 : World} (h : Mid hC a w f r p m B l F L lv l' F' ev c W1) (hr : ResA l s l' c) {x : Nat} {v : Value} (hc : W1.cell? ⟨x, 1, none⟩ = some v) (hx : ¬ MFoot m L lv x) :
    Calls Tryd.prog 37 #[.pointer (some ⟨m, 0, none⟩), .string s] W1 fun e W2 => e = .returned (.int .i64 (c : Nat)) ∧ (∃ L' lv', Both hC w f r p m B l' F' L' lv' W2) ∧ W2.cell? ⟨x, 1, none⟩ = some v := by
  obtain ⟨W, hB, hT, hF⟩ := h.ex
  have hmh := hB.mh1 hT
  have hsame := hB.same
  have hlen := hB.size
  rcases hr with ⟨g1, g2, g3, rfl, rfl⟩ | ⟨k, hk, rfl, rfl⟩
  · have g1' : L.length < 12 := by rw [← hsame, hst_length] at g1; exact g1
    refine (addM_good hmh s hs g1' g2 (by rw [hsame]; exact g3)).mono ?_
    rintro e W2 ⟨lv', rfl, h1, h2, h3⟩
    refine ⟨rfl, ⟨_, lv', h.step h1 h2 h3 ?_ (hB.ok.add g1 hs g3) (fun y hy => ?_) (fun y hy => ?_)⟩, h2.cell hc hx⟩
    · rw [← hsame]
      simp [hst, Mh.st, trail]
    · rcases List.mem_append.1 hy with hy | hy
      · exact hB.nms y hy
      · simp at hy
        subst hy
        exact g2
    · rcases List.mem_append.1 hy with hy | hy
      · exact hB.looks y hy
      · simp at hy
        subst hy
        simp
  · refine (addM_bad hmh hlen s hs k (by rw [hsame]; exact hk)).mono ?_
    rintro e W2 ⟨rfl, rfl⟩
    exact ⟨rfl, ⟨L, lv, h.step hmh (Tur.of_below (Below.refl _ _)) (fun b hb => Or.inl hb) hsame hB.ok hB.nms hB.looks⟩, hc⟩
theorem hst_erase (L : List Mh) (k : Nat) : hst (L.eraseIdx k) = (hst L).eraseIdx k := by
  unfold hst
  rw [List.eraseIdx_eq_take_drop_succ, List.eraseIdx_eq_take_drop_succ, List.map_append, List.map_take, List.map_drop]
/-- the model's Remove behind the landed one's -/
theorem Mid.remove2 {s : ByteArray} {l' : List Lh.Hh} {F' : Nat → Prop} {ev : Value} {c : Nat} {W1 : World} (h : Mid hC a w f r p m B l F L lv l' F' ev c W1) (hr : ResR l s l' c) {x : Nat} {v : Value} (hc : W1.cell? ⟨x, 1, none⟩ = some v) (hx : ¬ MFoot m L lv x) :
    Calls Tryd.prog 39 #[.pointer (some ⟨m, 0, none⟩), .string s] W1 fun e W2 => e = .returned (.int .i64 (c : Nat)) ∧ (∃ L' lv', Both hC w f r p m B l' F' L' lv' W2) ∧ W2.cell? ⟨x, 1, none⟩ = some v := by
  obtain ⟨W, hB, hT, hF⟩ := h.ex
  have hmh := hB.mh1 hT
  have hsame := hB.same
  have hlen := hB.size
  rcases hr with ⟨g1, rfl, rfl⟩ | ⟨g1, rfl, rfl⟩
  · refine (removeM_good hmh hlen s (by rw [hsame]; exact g1)).mono ?_
    rintro e W2 ⟨lv', rfl, h1, h2, h3⟩
    have hsub := List.eraseIdx_sublist l (Lh.hix l s)
    refine ⟨rfl, ⟨_, lv', h.step h1 h2 h3 (by rw [hst_erase, hsame]) (hB.ok.remove _) (fun y hy => hB.nms y (hsub.mem hy)) (fun y hy => hB.looks y ((List.eraseIdx_sublist _ _).mem hy))⟩, h2.cell hc hx⟩
  · refine (removeM_none hmh hlen s (by rw [hsame]; exact g1)).mono ?_
    rintro e W2 ⟨rfl, rfl⟩
    exact ⟨rfl, ⟨L, lv, h.step hmh (Tur.of_below (Below.refl _ _)) (fun b hb => Or.inl hb) hsame hB.ok hB.nms hB.looks⟩, hc⟩
/-- what Look makes of the hosts: did it turn, the error's number -/
def ResL (f r : Nat) (l : List Lh.Hh) (s : ByteArray) (well : Bool) (l' : List Lh.Hh) (t : Bool) (c : Nat) : Prop :=
  (∃ h : Lh.hix l s < l.length, l' = l.set (Lh.hix l s) (Lh.hlook f r l[Lh.hix l s] well).1 ∧ t = (Lh.hlook f r l[Lh.hix l s] well).2 ∧ c = 0) ∨ (¬ Lh.hix l s < l.length ∧ l' = l ∧ t = false ∧ c = 5)
theorem Both.look1 (he : Errs a w) (h : Both hC w f r p m B l F L lv W) (s : ByteArray) (well : Bool) (hs : s.size ≤ 300) {x : Nat} {v v2 : Value} (hc : W.cell? ⟨x, 1, none⟩ = some v) (hc2 : W.cell? ⟨x, 2, none⟩ = some v2) (hx : ¬ F x) :
    Calls Tryd.prog 30 #[.pointer (some ⟨p, 0, none⟩), .string s, .bool well] W fun e W1 => ∃ t ev c l' F', e = .returned (.tuple #[.bool t, ev]) ∧ ResL f r l s well l' t c ∧ Mid hC a w f r p m B l F L lv l' F' ev c W1 ∧ W1.cell? ⟨x, 1, none⟩ = some v ∧ W1.cell? ⟨x, 2, none⟩ = some v2 := by
  refine (hC.look a f r l F p s well W (he.later h.below).four h.rep h.ok hs).mono ?_
  rintro e W1 ⟨F', h1, h2, ⟨g1, rfl, h3⟩ | ⟨g1, rfl, h3⟩⟩
  · exact ⟨_, _, 0, _, F', rfl, Or.inl ⟨g1, rfl, rfl, rfl⟩, ⟨⟨W, h, h2, h1⟩, h3, fun _ => Or.inl ⟨rfl, rfl, rfl⟩⟩, h2.cell hc hx, h2.cell hc2 hx⟩
  · exact ⟨_, _, 5, _, F', rfl, Or.inr ⟨g1, rfl, rfl, rfl⟩, ⟨⟨W, h, h2, h1⟩, h3, fun _ => Or.inr ⟨4, by decide, rfl, Or.inl ⟨rfl, rfl⟩⟩⟩, h2.cell hc hx, h2.cell hc2 hx⟩
/-- the model's Look behind the landed one's -/
theorem Mid.look2 {s : ByteArray} {well : Bool} (hB200 : B ≤ 200) {l' : List Lh.Hh} {F' : Nat → Prop} {ev : Value} {t : Bool} {c : Nat} {W1 : World} (h : Mid hC a w f r p m B l F L lv l' F' ev c W1) (hr : ResL f r l s well l' t c) {x : Nat} {v : Value} (hc : W1.cell? ⟨x, 1, none⟩ = some v) (hx : ¬ MFoot m L lv x) :
    Calls Tryd.prog 40 #[.pointer (some ⟨m, 0, none⟩), .string s, .bool well] W1 fun e W2 => e = .returned (.tuple #[.bool t, .int .i64 (c : Nat)]) ∧ (∃ L' lv', Both hC w f r p m (B + 1) l' F' L' lv' W2) ∧ W2.cell? ⟨x, 1, none⟩ = some v := by
  obtain ⟨W, hB, hT, hF⟩ := h.ex
  have hmh := hB.mh1 hT
  have hsame := hB.same
  have hok : Lh.HOk f r (hst L) := by rw [hsame]; exact hB.ok
  refine (lookM_any hmh hok s well B hB200 hB.looks).mono ?_
  subst hsame
  rintro e W2 ⟨L', lv', h1, h2, h3, h4, ⟨g1, rfl, h5⟩ | ⟨g1, rfl, h5⟩⟩
  · rcases hr with ⟨_, rfl, rfl, rfl⟩ | ⟨g2, _⟩
    · refine ⟨rfl, ⟨L', lv', h.step h1 h2 h3 h5 (hB.ok.look g1 well) (fun y hy => ?_) h4⟩, h2.cell hc hx⟩
      rcases List.mem_or_eq_of_mem_set hy with hy | rfl
      · exact hB.nms y hy
      · rw [Lh.hlook_name]
        exact hB.nms _ (List.getElem_mem g1)
    · exact absurd g1 g2
  · rcases hr with ⟨g2, _⟩ | ⟨_, rfl, rfl, rfl⟩
    · exact absurd g2 g1
    · exact ⟨rfl, ⟨L', lv', h.step h1 h2 h3 h5 hB.ok hB.nms h4⟩, h2.cell hc hx⟩
end
end Go.Proofs.YtkpjecpaejdgaabDoor
