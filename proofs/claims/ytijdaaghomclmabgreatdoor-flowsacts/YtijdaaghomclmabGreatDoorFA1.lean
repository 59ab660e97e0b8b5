/- The law FlowsActs: the steps of both sides. -/
import Derived.Test.YtijdaaghomclmabGreatDoorFA0
namespace Go.Proofs.YtijdaaghomclmabGreatDoor
open Go.RowKit

section
variable {hC : FlowsC} {a : Nat → Addr} {w : World} {t p m : Nat} {la la' : Int} {L L' : List Lh.Fl} {F F' : Nat → Prop} {lv : Value} {W W1 : World}
theorem err_at {j : Nat} (hj : j < 9) (W : World) : ErrIs a W (j + 1) (-1) (.iface 153 (.pointer (some (a j)))) := Or.inr ⟨j, hj, rfl, Or.inl ⟨rfl, rfl⟩⟩
theorem err_none (W : World) : ErrIs a W 0 (-1) .nilIface := Or.inl ⟨rfl, rfl, rfl⟩
theorem TickF.lt9 {la now : Int} {j : Nat} (h : TickF la now j) : j < 9 := by rcases h.num with rfl | rfl <;> decide
/-- Put: the landed one .. -/
theorem BothF.put1 (he : Errs a w) (h1 : 1 ≤ t) (h2 : t ≤ 1000) (h : BothF hC w t p m la L F lv W) (k : Nat) (hk : k < 18446744073709551616) (s : ByteArray) (hs : s.size ≤ 300) (now : Int) {ab : Nat} (hx : ¬ F ab) :
    Calls Tryz.prog 8 #[.pointer (some ⟨p, 0, none⟩), .int .u64 (k : Nat), .string s, .int .i64 now] W fun e W1 => ∃ ev c la' L' F', e = .returned ev ∧ ResP t la L k s now la' L' c ∧ MidF hC w t p m la L F lv la' L' F' W1 ∧ (∀ W, ErrIs a W c (-1) ev) ∧ Kept ab W W1 := by
  refine (hC.put a t la L F p k s now W (hC.eOf (he.later h.below)) h.rep h.ok h1 h2 h.la0 hk hs).mono ?_
  rintro e W1 ⟨F', hF, hT, ⟨g1, g2, rfl, g4⟩ | ⟨j, g1, rfl, g4⟩⟩
  · exact ⟨_, 0, now, _, F', rfl, Or.inl ⟨g1, g2, rfl, rfl, rfl⟩, ⟨⟨W, h, hT, hF⟩, g4, h.ok.put hk hs g1.1 g1.2.1 h2, g1.1⟩, fun W => err_none W, Kept.of_tur hT hx⟩
  · exact ⟨_, j + 1, la, L, F', rfl, Or.inr ⟨j, g1, rfl, rfl, rfl⟩, ⟨⟨W, h, hT, hF⟩, g4, h.ok, h.la0⟩, fun W => err_at (putE_lt g1) W, Kept.of_tur hT hx⟩
/-- .. then the model's -/
theorem MidF.put2 (h2 : t ≤ 1000) (h : MidF hC w t p m la L F lv la' L' F' W1) (k : Nat) (s : ByteArray) (hs : s.size ≤ 300) (now : Int) {c : Nat} (hr : ResP t la L k s now la' L' c) {ab : Nat} (hx : ¬ FFoot m lv ab) :
    Calls Tryz.prog 9 #[.pointer (some ⟨m, 0, none⟩), .int .u64 (k : Nat), .string s, .int .i64 now] W1 fun e W2 => e = .returned (.int .i64 (c : Nat)) ∧ (∃ lv', BothF hC w t p m la' L' F' lv' W2) ∧ Kept ab W1 W2 := by
  refine (fputM_any h.mf h.ok0 h2 k s hs now).mono ?_
  rintro e W2 ⟨lv', hT, hF, ⟨g1, g2, rfl, g4⟩ | ⟨j, g1, rfl, g4⟩⟩
  · rcases hr with ⟨_, _, rfl, rfl, rfl⟩ | ⟨i, hi, _⟩
    · exact ⟨rfl, ⟨lv', h.step g4 hT hF⟩, Kept.of_tur hT hx⟩
    · exact (putE_not hi g1 g2).elim
  · rcases hr with ⟨q1, q2, _⟩ | ⟨i, hi, rfl, rfl, rfl⟩
    · exact (putE_not g1 q1 q2).elim
    · obtain rfl : i = j := putE_one hi g1
      exact ⟨rfl, ⟨lv', h.step g4 hT hF⟩, Kept.of_tur hT hx⟩
/-- Put once more, for a block that stays neither side's -/
theorem BothF.put1n (he : Errs a w) (h1 : 1 ≤ t) (h2 : t ≤ 1000) (h : BothF hC w t p m la L F lv W) (k : Nat) (hk : k < 18446744073709551616) (s : ByteArray) (hs : s.size ≤ 300) (now : Int) {ab : Nat} (hx : ¬ F ab) (hab : ab < W.heap.size) :
    Calls Tryz.prog 8 #[.pointer (some ⟨p, 0, none⟩), .int .u64 (k : Nat), .string s, .int .i64 now] W fun e W1 => ∃ ev c la' L' F', e = .returned ev ∧ ResP t la L k s now la' L' c ∧ MidF hC w t p m la L F lv la' L' F' W1 ∧ (∀ W, ErrIs a W c (-1) ev) ∧ Kept ab W W1 ∧ ¬ F' ab := by
  refine (hC.put a t la L F p k s now W (hC.eOf (he.later h.below)) h.rep h.ok h1 h2 h.la0 hk hs).mono ?_
  rintro e W1 ⟨F', hF, hT, hg⟩
  have hn : ¬ F' ab := fun hf => by
    rcases hF ab hf with h | h
    · exact hx h
    · omega
  rcases hg with ⟨g1, g2, rfl, g4⟩ | ⟨j, g1, rfl, g4⟩
  · exact ⟨_, 0, now, _, F', rfl, Or.inl ⟨g1, g2, rfl, rfl, rfl⟩, ⟨⟨W, h, hT, hF⟩, g4, h.ok.put hk hs g1.1 g1.2.1 h2, g1.1⟩, fun W => err_none W, Kept.of_tur hT hx, hn⟩
  · exact ⟨_, j + 1, la, L, F', rfl, Or.inr ⟨j, g1, rfl, rfl, rfl⟩, ⟨⟨W, h, hT, hF⟩, g4, h.ok, h.la0⟩, fun W => err_at (putE_lt g1) W, Kept.of_tur hT hx, hn⟩
theorem MidF.put2n (h2 : t ≤ 1000) (h : MidF hC w t p m la L F lv la' L' F' W1) (k : Nat) (s : ByteArray) (hs : s.size ≤ 300) (now : Int) {c : Nat} (hr : ResP t la L k s now la' L' c) {ab : Nat} (hx : ¬ FFoot m lv ab) (hab : ab < W1.heap.size) :
    Calls Tryz.prog 9 #[.pointer (some ⟨m, 0, none⟩), .int .u64 (k : Nat), .string s, .int .i64 now] W1 fun e W2 => e = .returned (.int .i64 (c : Nat)) ∧ (∃ lv', BothF hC w t p m la' L' F' lv' W2 ∧ ¬ FFoot m lv' ab) ∧ Kept ab W1 W2 := by
  refine (fputM_any h.mf h.ok0 h2 k s hs now).mono ?_
  rintro e W2 ⟨lv', hT, hF, hg⟩
  have hn : ¬ FFoot m lv' ab := fun hf => by
    rcases hF ab hf with h | h
    · exact hx h
    · omega
  rcases hg with ⟨g1, g2, rfl, g4⟩ | ⟨j, g1, rfl, g4⟩
  · rcases hr with ⟨_, _, rfl, rfl, rfl⟩ | ⟨i, hi, _⟩
    · exact ⟨rfl, ⟨lv', h.step g4 hT hF, hn⟩, Kept.of_tur hT hx⟩
    · exact (putE_not hi g1 g2).elim
  · rcases hr with ⟨q1, q2, _⟩ | ⟨i, hi, rfl, rfl, rfl⟩
    · exact (putE_not g1 q1 q2).elim
    · obtain rfl : i = j := putE_one hi g1
      exact ⟨rfl, ⟨lv', h.step g4 hT hF, hn⟩, Kept.of_tur hT hx⟩
theorem MidF.below (h : MidF hC w t p m la L F lv la' L' F' W1) : Below w.heap.size w W1 := by
  obtain ⟨W, hB, hT, _⟩ := h.ex
  exact hT.below hB.fw hB.below (Nat.le_refl _)
/-- what a Get tells -/
def ResG (la : Int) (L : List Lh.Fl) (k : Nat) (now : Int) (la' : Int) (s : ByteArray) (is : Bool) (c : Nat) : Prop :=
  (TickOk la now ∧ la' = now ∧ c = 0 ∧ ((∃ h : Lh.fix L k < L.length, now < (L[Lh.fix L k]).2.2 ∧ s = (L[Lh.fix L k]).2.1 ∧ is = true) ∨ ((∀ h : Lh.fix L k < L.length, (L[Lh.fix L k]).2.2 ≤ now) ∧ s = ByteArray.empty ∧ is = false))) ∨ ∃ j, TickF la now j ∧ la' = la ∧ s = ByteArray.empty ∧ is = false ∧ c = j + 1
theorem BothF.get1 (he : Errs a w) (h : BothF hC w t p m la L F lv W) (k : Nat) (hk : k < 18446744073709551616) (now : Int) {ab : Nat} (hx : ¬ F ab) :
    Calls Tryz.prog 10 #[.pointer (some ⟨p, 0, none⟩), .int .u64 (k : Nat), .int .i64 now] W fun e W1 => ∃ s is ev c la' F', e = .returned (.tuple #[.string s, .bool is, ev]) ∧ ResG la L k now la' s is c ∧ MidF hC w t p m la L F lv la' L F' W1 ∧ (∀ W, ErrIs a W c (-1) ev) ∧ Kept ab W W1 := by
  refine (hC.get a t la L F p k now W (hC.eOf (he.later h.below)) h.rep h.ok h.la0 hk).mono ?_
  rintro e W1 ⟨F', hF, hT, ⟨g1, g4, ⟨q1, q2, rfl⟩ | ⟨q1, rfl⟩⟩ | ⟨j, g1, rfl, g4⟩⟩
  · exact ⟨_, _, _, 0, now, F', rfl, Or.inl ⟨g1, rfl, rfl, Or.inl ⟨q1, q2, rfl, rfl⟩⟩, ⟨⟨W, h, hT, hF⟩, g4, h.ok, g1.1⟩, fun W => err_none W, Kept.of_tur hT hx⟩
  · exact ⟨_, _, _, 0, now, F', rfl, Or.inl ⟨g1, rfl, rfl, Or.inr ⟨q1, rfl, rfl⟩⟩, ⟨⟨W, h, hT, hF⟩, g4, h.ok, g1.1⟩, fun W => err_none W, Kept.of_tur hT hx⟩
  · exact ⟨_, _, _, j + 1, la, F', rfl, Or.inr ⟨j, g1, rfl, rfl, rfl, rfl⟩, ⟨⟨W, h, hT, hF⟩, g4, h.ok, h.la0⟩, fun W => err_at g1.lt9 W, Kept.of_tur hT hx⟩
theorem MidF.get2 (h : MidF hC w t p m la L F lv la' L F' W1) (k : Nat) (now : Int) {s : ByteArray} {is : Bool} {c : Nat} (hr : ResG la L k now la' s is c) {ab : Nat} (hx : ¬ FFoot m lv ab) :
    Calls Tryz.prog 11 #[.pointer (some ⟨m, 0, none⟩), .int .u64 (k : Nat), .int .i64 now] W1 fun e W2 => e = .returned (.tuple #[.string s, .bool is, .int .i64 (c : Nat)]) ∧ (∃ lv', BothF hC w t p m la' L F' lv' W2) ∧ Kept ab W1 W2 := by
  have hl := h.ok0.len
  rcases hr with ⟨ht, rfl, rfl, hr⟩ | ⟨j, ht, rfl, rfl, rfl, rfl⟩
  · by_cases hf : Lh.fix L k < L.length
    · refine (fget_there h.mf hl k ht hf).mono ?_
      rintro e W2 ⟨hg, hM, hT⟩
      refine ⟨?_, ⟨lv, h.step hM hT fun b hb => Or.inl hb⟩, Kept.of_tur hT hx⟩
      rcases hr with ⟨_, r2, rfl, rfl⟩ | ⟨r1, rfl, rfl⟩
      · rcases hg with ⟨_, rfl⟩ | ⟨g, _⟩
        · rfl
        · omega
      · have := r1 hf
        rcases hg with ⟨g, _⟩ | ⟨_, rfl⟩
        · omega
        · rfl
    · refine (fget_none h.mf hl k ht hf).mono ?_
      rintro e W2 ⟨rfl, hM, hT⟩
      refine ⟨?_, ⟨lv, h.step hM hT fun b hb => Or.inl hb⟩, Kept.of_tur hT hx⟩
      rcases hr with ⟨r1, _⟩ | ⟨_, rfl, rfl⟩
      · exact absurd r1 hf
      · rfl
  · refine (fget_tick h.mf k ht).mono ?_
    rintro e W2 ⟨rfl, rfl⟩
    exact ⟨rfl, ⟨lv, h.step h.mf (Tur.of_below (Below.refl _ _)) fun b hb => Or.inl hb⟩, fun _ _ h => h⟩
def ResX (la : Int) (L : List Lh.Fl) (now : Int) (la' : Int) (L' : List Lh.Fl) (n c : Nat) : Prop :=
  (TickOk la now ∧ la' = now ∧ L' = Lh.fexp L now ∧ n = L.length - (Lh.fexp L now).length ∧ c = 0) ∨ ∃ j, TickF la now j ∧ la' = la ∧ L' = L ∧ n = 0 ∧ c = j + 1
theorem fexp_sub (L : List Lh.Fl) (now : Int) : (Lh.fexp L now).Sublist L := List.filter_sublist
theorem fdrop_sub (L : List Lh.Fl) (s : ByteArray) : (Lh.fdrop L s).Sublist L := List.filter_sublist
theorem BothF.expire1 (he : Errs a w) (h : BothF hC w t p m la L F lv W) (now : Int) {ab : Nat} (hx : ¬ F ab) :
    Calls Tryz.prog 12 #[.pointer (some ⟨p, 0, none⟩), .int .i64 now] W fun e W1 => ∃ n ev c la' L' F', e = .returned (.tuple #[.int .i64 (n : Nat), ev]) ∧ ResX la L now la' L' n c ∧ MidF hC w t p m la L F lv la' L' F' W1 ∧ (∀ W, ErrIs a W c (-1) ev) ∧ Kept ab W W1 := by
  refine (hC.expire a t la L F p now W (hC.eOf (he.later h.below)) h.rep h.ok h.la0).mono ?_
  rintro e W1 ⟨F', hF, hT, ⟨g1, rfl, g4⟩ | ⟨j, g1, rfl, g4⟩⟩
  · exact ⟨_, _, 0, now, _, F', rfl, Or.inl ⟨g1, rfl, rfl, rfl, rfl⟩, ⟨⟨W, h, hT, hF⟩, g4, h.ok.sub (fexp_sub L now), g1.1⟩, fun W => err_none W, Kept.of_tur hT hx⟩
  · exact ⟨0, _, j + 1, la, L, F', rfl, Or.inr ⟨j, g1, rfl, rfl, rfl, rfl⟩, ⟨⟨W, h, hT, hF⟩, g4, h.ok, h.la0⟩, fun W => err_at g1.lt9 W, Kept.of_tur hT hx⟩
theorem MidF.expire2 (h : MidF hC w t p m la L F lv la' L' F' W1) (now : Int) {n c : Nat} (hr : ResX la L now la' L' n c) {ab : Nat} (hx : ¬ FFoot m lv ab) :
    Calls Tryz.prog 13 #[.pointer (some ⟨m, 0, none⟩), .int .i64 now] W1 fun e W2 => e = .returned (.tuple #[.int .i64 (n : Nat), .int .i64 (c : Nat)]) ∧ (∃ lv', BothF hC w t p m la' L' F' lv' W2) ∧ Kept ab W1 W2 := by
  rcases hr with ⟨ht, rfl, rfl, rfl, rfl⟩ | ⟨j, ht, rfl, rfl, rfl, rfl⟩
  · refine (fexp_good h.mf h.ok0.len ht).mono ?_
    rintro e W2 ⟨rfl, lv', hM, hT, hF⟩
    exact ⟨rfl, ⟨lv', h.step hM hT hF⟩, Kept.of_tur hT hx⟩
  · refine (fexp_tick h.mf ht).mono ?_
    rintro e W2 ⟨rfl, rfl⟩
    exact ⟨rfl, ⟨lv, h.step h.mf (Tur.of_below (Below.refl _ _)) fun b hb => Or.inl hb⟩, fun _ _ h => h⟩
theorem BothF.drop1 (h : BothF hC w t p m la L F lv W) (s : ByteArray) (hs : s.size ≤ 300) {ab : Nat} (hx : ¬ F ab) :
    Calls Tryz.prog 14 #[.pointer (some ⟨p, 0, none⟩), .string s] W fun e W1 => ∃ F', e = .returned (.int .i64 ((L.length - (Lh.fdrop L s).length : Nat) : Int)) ∧ MidF hC w t p m la L F lv la (Lh.fdrop L s) F' W1 ∧ Kept ab W W1 := by
  refine (hC.drop t la L F p s W h.rep h.ok hs).mono ?_
  rintro e W1 ⟨F', hF, hT, rfl, g4⟩
  exact ⟨F', rfl, ⟨⟨W, h, hT, hF⟩, g4, h.ok.sub (fdrop_sub L s), h.la0⟩, Kept.of_tur hT hx⟩
theorem MidF.drop2 {s : ByteArray} (h : MidF hC w t p m la L F lv la (Lh.fdrop L s) F' W1) {ab : Nat} (hx : ¬ FFoot m lv ab) :
    Calls Tryz.prog 15 #[.pointer (some ⟨m, 0, none⟩), .string s] W1 fun e W2 => e = .returned (.int .i64 ((L.length - (Lh.fdrop L s).length : Nat) : Int)) ∧ (∃ lv', BothF hC w t p m la (Lh.fdrop L s) F' lv' W2) ∧ Kept ab W1 W2 := by
  refine (fdropM_any h.mf h.ok0.len s).mono ?_
  rintro e W2 ⟨rfl, lv', hM, hT, hF⟩
  exact ⟨rfl, ⟨lv', h.step hM hT hF⟩, Kept.of_tur hT hx⟩
/-- what an Add tells -/
def ResD (la : Int) (L l : List Lh.Fl) (now : Int) (la' : Int) (L' : List Lh.Fl) (n c : Nat) (pl : Int) : Prop :=
  (TickOk la now ∧ (∀ x ∈ l, Lh.isNm x.2.1 = true) ∧ la' = now ∧ L' = Lh.fadd now L l ∧ n = (Lh.fadd now L l).length - L.length ∧ c = 0 ∧ pl = -1) ∨
  (∃ i : Nat, TickOk la now ∧ NmAt l i ∧ la' = la ∧ L' = L ∧ n = 0 ∧ c = 4 ∧ pl = i) ∨
  ∃ j, TickF la now j ∧ la' = la ∧ L' = L ∧ n = 0 ∧ c = j + 1 ∧ pl = -1
theorem nmAt_one {l : List Lh.Fl} {i j : Nat} (h : NmAt l i) (k : NmAt l j) : i = j := by
  obtain ⟨h1, h2, h3⟩ := h
  obtain ⟨k1, k2, k3⟩ := k
  rcases Nat.lt_trichotomy i j with e | e | e
  · rw [k3 i h1 e] at h2; cases h2
  · exact e
  · rw [h3 j k1 e] at k2; cases k2
theorem nmAt_not {l : List Lh.Fl} {i : Nat} (h : NmAt l i) (k : ∀ x ∈ l, Lh.isNm x.2.1 = true) : False := by
  obtain ⟨h1, h2, _⟩ := h
  rw [k _ (List.getElem_mem h1)] at h2
  cases h2
theorem BothF.add1 (he : Errs a w) (h1 : 1 ≤ t) (h2 : t ≤ 1000) (h : BothF hC w t p m la L F lv W) (v : Value) (l : List Lh.Fl) (hv : Flows1 W v l) (hvf : ∀ b o n c, v = .slice (some ⟨b, o, none⟩) n c → ¬ F b) (hl : l.length ≤ 201) (hin : FlIn l) (now : Int) {ab : Nat} (hx : ¬ F ab) :
    Calls Tryz.prog 16 #[.pointer (some ⟨p, 0, none⟩), v, .int .i64 now] W fun e W1 => ∃ n ev c pl la' L' F', e = .returned (.tuple #[.int .i64 (n : Nat), ev]) ∧ ResD la L l now la' L' n c pl ∧ MidF hC w t p m la L F lv la' L' F' W1 ∧ ErrIs a W1 c pl ev ∧ (∀ b, ev = .iface 76 (.pointer (some ⟨b, 0, none⟩)) → W.heap.size ≤ b) ∧ Kept ab W W1 := by
  refine (hC.add a t la L F p v l now W (hC.eOf (he.later h.below)) h.rep h.ok h1 h2 h.la0 hv hvf hl hin).mono ?_
  rintro e W1 ⟨F', hF, hT, ⟨g1, g2, rfl, g4⟩ | ⟨i, g1, g2, ev, rfl, g3, g5, g4⟩ | ⟨j, g1, rfl, g4⟩⟩
  · exact ⟨_, _, 0, -1, now, _, F', rfl, Or.inl ⟨g1, g2, rfl, rfl, rfl, rfl, rfl⟩, ⟨⟨W, h, hT, hF⟩, g4, Lh.FlOk.add g1.1 g1.2.1 l h.ok (fun x hx => ⟨(hin x hx).1, (hin x hx).2.1⟩), g1.1⟩, err_none W1, (fun b e => by cases e), Kept.of_tur hT hx⟩
  · exact ⟨0, ev, 4, _, la, L, F', rfl, Or.inr (Or.inl ⟨i, g1, g2, rfl, rfl, rfl, rfl, rfl⟩), ⟨⟨W, h, hT, hF⟩, g4, h.ok, h.la0⟩, g3, g5, Kept.of_tur hT hx⟩
  · exact ⟨0, _, j + 1, -1, la, L, F', rfl, Or.inr (Or.inr ⟨j, g1, rfl, rfl, rfl, rfl, rfl⟩), ⟨⟨W, h, hT, hF⟩, g4, h.ok, h.la0⟩, err_at g1.lt9 W1, (fun b e => by injection e with e1; exact absurd e1 (by decide)), Kept.of_tur hT hx⟩
theorem MidF.add2 (h : MidF hC w t p m la L F lv la' L' F' W1) (v : Value) (l : List Lh.Fl) (hv : Flows1 W1 v l) (hvm : 0 < l.length → ∀ b o n c, v = .slice (some ⟨b, o, none⟩) n c → b < m) (hl : l.length ≤ 201) (hin : FlIn l) (now : Int) {n c : Nat} {pl : Int} (hr : ResD la L l now la' L' n c pl) {ev : Value} (hev : ErrIs a W1 c pl ev) (hef : ∀ b, ev = .iface 76 (.pointer (some ⟨b, 0, none⟩)) → ¬ FFoot m lv b) {ab : Nat} (hx : ¬ FFoot m lv ab) :
    Calls Tryz.prog 18 #[.pointer (some ⟨m, 0, none⟩), v, .int .i64 now] W1 fun e W2 => e = .returned (.tuple #[.int .i64 (n : Nat), .agg #[.int .i64 (c : Nat), .int .i64 pl]]) ∧ (∃ lv', BothF hC w t p m la' L' F' lv' W2) ∧ ErrIs a W2 c pl ev ∧ Kept ab W1 W2 := by
  refine (faddM_any h.mf h.ok0 v l hv hvm hl hin now).mono ?_
  rintro e W2 ⟨lv', hT, hF, hg⟩
  have hev2 : ErrIs a W2 c pl ev := by
    rcases hev with h | ⟨i, hi, hc, h | ⟨b, hv, h0, h1⟩⟩
    · exact Or.inl h
    · exact Or.inr ⟨i, hi, hc, Or.inl h⟩
    · exact Or.inr ⟨i, hi, hc, Or.inr ⟨b, hv, fcell hT h0 (hef b hv), fcell hT h1 (hef b hv)⟩⟩
  rcases hr with ⟨ht, hn, rfl, rfl, rfl, rfl, rfl⟩ | ⟨i, ht, hn, rfl, rfl, rfl, rfl, rfl⟩ | ⟨j, ht, rfl, rfl, rfl, rfl, rfl⟩
  · rcases hg with ⟨_, _, rfl, g4⟩ | ⟨i, _, hi, _⟩ | ⟨j, hj, _⟩
    · exact ⟨rfl, ⟨lv', h.step g4 hT hF⟩, hev2, Kept.of_tur hT hx⟩
    · exact (nmAt_not hi hn).elim
    · exact (ht.not hj).elim
  · rcases hg with ⟨_, hn2, _⟩ | ⟨i2, _, hi, rfl, g4⟩ | ⟨j, hj, _⟩
    · exact (nmAt_not hn hn2).elim
    · obtain rfl : i = i2 := nmAt_one hn hi
      exact ⟨rfl, ⟨lv', h.step g4 hT hF⟩, hev2, Kept.of_tur hT hx⟩
    · exact (ht.not hj).elim
  · rcases hg with ⟨ht2, _⟩ | ⟨i2, ht2, _⟩ | ⟨j2, hj, rfl, g4⟩
    · exact (ht2.not ht).elim
    · exact (ht2.not ht).elim
    · obtain rfl : j = j2 := tickF_one ht hj
      exact ⟨rfl, ⟨lv', h.step g4 hT hF⟩, hev2, Kept.of_tur hT hx⟩
end
end Go.Proofs.YtijdaaghomclmabGreatDoor
