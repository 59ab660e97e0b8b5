/- The landed balance's methods, as the laws ask them. -/
import Derived.Test.YtmdckddenelneaaGreatDoorM20
import Derived.Test.YtmdckddenelneaaGreatDoorM24
import Derived.Test.YtmdckddenelneaaGreatDoorM26
import Derived.Test.YtmdckddenelneaaGreatDoorM11
namespace Go.Proofs.YtmdckddenelneaaGreatDoor
open Go.RowKit Go.Shelf Go.Maps Go.ChangeMaps

/-- what the package asks of the variables -/
structure EB (a : Nat → Addr) (w : World) : Prop where
  e5 : Errs5 a w
  s7 : w.cell? ⟨7, 0, none⟩ = some (.iface 331 (.pointer (some (a 7))))
theorem EB.later {a : Nat → Addr} {w w' : World} (h : EB a w) (hb : Below w.heap.size w w') : EB a w' := ⟨h.e5.later hb, below_cell hb h.s7⟩
theorem EB.ef {a : Nat → Addr} {w : World} (h : EB a w) : EF a w := ⟨h.e5.four, h.s7⟩
theorem EB.of {a : Nat → Addr} {w : World} (h : Errs a w) : EB a w := ⟨⟨h.s1, h.s2, h.s3, h.s4, h.s5⟩, h.s7⟩
/-- a block that is no variable of these -/
def NotG (b : Nat) : Prop := b ≠ 0 ∧ b ≠ 3 ∧ b ≠ 4 ∧ b ≠ 1 ∧ b ≠ 5 ∧ b ≠ 7
theorem EB.new {a : Nat → Addr} {w : World} (h : EB a w) {b : Nat} (hb : w.heap.size ≤ b) : NotG b := by
  have h1 := World.block_lt_of_cell? w _ h.e5.s1
  have h2 := World.block_lt_of_cell? w _ h.e5.s2
  have h3 := World.block_lt_of_cell? w _ h.e5.s3
  have h4 := World.block_lt_of_cell? w _ h.e5.s4
  have h5 := World.block_lt_of_cell? w _ h.e5.s5
  have h7 := World.block_lt_of_cell? w _ h.s7
  simp only at h1 h2 h3 h4 h5 h7
  unfold NotG
  omega
theorem tur_cell {F : Nat → Prop} {w w' : World} (hT : Tur F w w') {x : Addr} {v : Value} (hx : ¬ F x.block) (h : w.cell? x = some v) : w'.cell? x = some v :=
  (World.cell?_of_block (w := w) (w' := w') (a := x) (hT.block x.block (World.block_lt_of_cell? w x h) hx)).trans h
theorem EB.tur {a : Nat → Addr} {F : Nat → Prop} {w w' : World} (h : EB a w) (hT : Tur F w w') (hF : ∀ b, F b → NotG b) : EB a w' :=
  ⟨⟨tur_cell hT (fun q => (hF _ q).1 rfl) h.e5.s1, tur_cell hT (fun q => (hF _ q).2.1 rfl) h.e5.s2, tur_cell hT (fun q => (hF _ q).2.2.1 rfl) h.e5.s3, tur_cell hT (fun q => (hF _ q).2.2.2.1 rfl) h.e5.s4, tur_cell hT (fun q => (hF _ q).2.2.2.2.1 rfl) h.e5.s5⟩, tur_cell hT (fun q => (hF _ q).2.2.2.2.2 rfl) h.s7⟩

def RepB (S : Lh.Bl) (F : Nat → Prop) (p : Nat) (W : World) : Prop := ∃ hp fp fm db bs lv, BR W p hp fp fm db bs lv S ∧ F = BFt p hp fp fm db bs lv ∧ ∀ b, F b → NotG b
theorem RepB.lt {S : Lh.Bl} {F : Nat → Prop} {p : Nat} {W : World} (h : RepB S F p W) : ∀ b, F b → b < W.heap.size := by
  obtain ⟨hp, fp, fm, db, bs, lv, h, rfl, _⟩ := h
  exact h.lt
theorem RepB.stay {S : Lh.Bl} {F : Nat → Prop} {p : Nat} {W W' : World} (h : RepB S F p W) (hs : ∀ b, F b → W'.heap[b]? = W.heap[b]?) : RepB S F p W' := by
  obtain ⟨hp, fp, fm, db, bs, lv, h, rfl, hg⟩ := h
  exact ⟨hp, fp, fm, db, bs, lv, h.stay hs, rfl, hg⟩
theorem newG_bal (a : Nat → Addr) (v : Value) (xs : List ByteArray) (n t f r : Nat) (W : World) (he : EB a W) (hv : Strs1 W v xs) (h0 : 0 < xs.length) (hf : IsFault xs 0 (-1)) (hs : ∀ s ∈ xs, s.size ≤ 300) (hprm : Lh.Prm n) (h5 : n ≤ 503) (ht1 : 1 ≤ t) (ht2 : t ≤ 1000) (hf1 : 1 ≤ f) (hf2 : f ≤ 10) (hr1 : 1 ≤ r) (hr2 : r ≤ 10) :
    Calls Tryz.prog 51 #[v, .int .i64 (n : Nat), .int .i64 (t : Nat), .int .i64 (f : Nat), .int .i64 (r : Nat)] W fun e W' => ∃ p F, e = .returned (.tuple #[.pointer (some ⟨p, 0, none⟩), .nilIface]) ∧ RepB ⟨f, r, n, t, Lh.hnew xs, [], 0, 0, []⟩ F p W' ∧ (∀ b, F b → W.heap.size ≤ b) ∧ Below W.heap.size W W' := by
  refine (new_bal a v xs n t f r W he.e5 hv h0 hf hs hprm h5 ht1 ht2 hf1 hf2 hr1 hr2).mono ?_
  rintro e W' ⟨p, hp, fp, fm, db, bs, lv, rfl, hB, hN, hb⟩
  exact ⟨p, _, rfl, ⟨hp, fp, fm, db, bs, lv, hB, rfl, fun b hq => he.new (hN b hq)⟩, hN, hb⟩

theorem pick_bal (a : Nat → Addr) (S : Lh.Bl) (F : Nat → Prop) (p k : Nat) (now : Int) (W : World) (he : EB a W) (hR : RepB S F p W) (hk : Lh.BOk S) (hkk : k < 18446744073709551616) :
    Calls Tryz.prog 87 #[.pointer (some ⟨p, 0, none⟩), .int .u64 (k : Nat), .int .i64 now] W fun e W' => ∃ F' S' s kept c ev, (∀ b, F' b → F b ∨ W.heap.size ≤ b) ∧ Tur F W W' ∧ e = .returned (.tuple #[.string s, .bool kept, ev]) ∧ EvOf a c ev ∧ PickR nwB S k now S' s kept c ∧ RepB S' F' p W' := by
  obtain ⟨hp, fp, fm, db, bs, lv, h, rfl, hg⟩ := hR
  have hgf : ∀ b, FFt fp fm b → NotG b := fun b hb => hg b (Or.inr (Or.inr (Or.inr hb)))
  rcases tick_ex S.la now with hok | ⟨j, hf⟩
  · have hok2 : TickOk now now := ⟨hok.1, hok.2.1, Int.le_refl _⟩
    have hput : ∀ s : ByteArray, Lh.isNm s = true → s.size ≤ 300 → ∀ w1, Tur (FFt fp fm) W w1 → FR w1 fp fm S.t now S.L → Calls Tryz.prog 118 #[.pointer (some ⟨fp, 0, none⟩), .int .u64 (k : Nat), .string s, .int .i64 now] w1 fun e w' => e = .returned .nilIface ∧ FR w' fp fm S.t now (Lh.fput S.t S.L k s now) ∧ Tur (FFt fp fm) w1 w' := fun s hn hs w1 hT hF => putF_ok a (he.tur hT hgf).ef hF hk.ok hk.t2 k hkk s hs now hok2 hn
    by_cases hks : ∃ z, Lh.BKeeps S k now z
    · obtain ⟨s, hs⟩ := hks
      have hs' := hs
      obtain ⟨_, _, _, hup⟩ := hs'
      obtain ⟨hn, hsz⟩ := Lh.hup_nm hk hup
      refine (pick_keep h hk k hkk now hok s hs (hput s hn hsz)).mono ?_
      rintro e W' ⟨rfl, hB, hT⟩
      exact ⟨_, _, s, true, 0, _, fun b hb => Or.inl hb, hT.flows, rfl, Or.inl ⟨rfl, rfl⟩, Or.inr (Or.inl ⟨hok, hs, rfl, rfl, rfl⟩), hp, fp, fm, db, bs, lv, hB, rfl, hg⟩
    · have hks' : ∀ z, ¬ Lh.BKeeps S k now z := fun z hz => hks ⟨z, hz⟩
      have hkn := hk.tick hok.1 hok.2.1
      by_cases ho : Lh.bopen S = []
      · refine (pick_none a h hk k hkk now hok hks' fun w1 hT hB => byTable_none a (he.tur hT hgf).e5 hB hkn k ho).mono ?_
        rintro e W' ⟨rfl, hB, hT⟩
        exact ⟨_, _, ByteArray.empty, false, 5, _, fun b hb => Or.inl hb, hT.flows, rfl, Or.inr ⟨4, rfl, rfl⟩, Or.inr (Or.inr (Or.inl ⟨hok, hks', ho, rfl, rfl, rfl, rfl⟩)), hp, fp, fm, db, bs, lv, hB, rfl, hg⟩
      · obtain ⟨hn, hsz⟩ := (bopen_facts hk).2.2 _ (nwB_in (n := S.size) k ho)
        refine (pick_new h hk k hkk now hok hks' (nwB (Lh.bopen S) S.size k) (fun w1 hT hB => byTable_good a (he.tur hT hgf).e5 hB hkn k ho) (hput _ hn hsz)).mono ?_
        rintro e W' ⟨rfl, hB, hT⟩
        exact ⟨_, _, _, false, 0, _, fun b hb => Or.inl hb, hT.flows, rfl, Or.inl ⟨rfl, rfl⟩, Or.inr (Or.inr (Or.inr ⟨hok, hks', ho, rfl, rfl, rfl, rfl⟩)), hp, fp, fm, db, bs, lv, hB, rfl, hg⟩
  · refine (pick_tick a he.ef h k now j hf).mono ?_
    rintro e W' ⟨rfl, hb⟩
    exact ⟨_, S, ByteArray.empty, false, j + 1, _, fun b hb => Or.inl hb, Tur.of_below hb, rfl, Or.inr ⟨j, rfl, rfl⟩, Or.inl ⟨j, hf, rfl, rfl, rfl, rfl⟩, hp, fp, fm, db, bs, lv, h.later hb, rfl, hg⟩

theorem drain_bal (a : Nat → Addr) (S : Lh.Bl) (F : Nat → Prop) (p : Nat) (s : ByteArray) (is : Bool) (W : World) (he : EB a W) (hR : RepB S F p W) (hk : Lh.BOk S) :
    Calls Tryz.prog 84 #[.pointer (some ⟨p, 0, none⟩), .string s, .bool is] W fun e W' => ∃ F' S' c ev, (∀ b, F' b → F b ∨ W.heap.size ≤ b) ∧ Tur F W W' ∧ e = .returned ev ∧ EvOf a c ev ∧ DrainR S s is S' c ∧ RepB S' F' p W' := by
  obtain ⟨hp, fp, fm, db, bs, lv, h, rfl, hg⟩ := hR
  by_cases hx : Lh.hix S.hs s < S.hs.length
  · refine (drain_good h hk s is hx).mono ?_
    rintro e W' ⟨rfl, hB, hT⟩
    exact ⟨_, _, 0, _, fun b hb => Or.inl hb, hT.map, rfl, Or.inl ⟨rfl, rfl⟩, Or.inl ⟨hx, rfl, rfl⟩, hp, fp, fm, db, bs, lv, hB, rfl, hg⟩
  · refine (drain_none a he.e5.four h hk.h.len s is hx).mono ?_
    rintro e W' ⟨rfl, hb⟩
    exact ⟨_, S, 5, _, fun b hb => Or.inl hb, Tur.of_below hb, rfl, Or.inr ⟨4, rfl, rfl⟩, Or.inr ⟨hx, rfl, rfl⟩, hp, fp, fm, db, bs, lv, h.later hb, rfl, hg⟩
theorem up_bal (S : Lh.Bl) (F : Nat → Prop) (p : Nat) (W : World) (hR : RepB S F p W) (hk : Lh.BOk S) :
    Calls Tryz.prog 26 #[.pointer (some ⟨p, 0, none⟩)] W fun e W' => ∃ v, e = .returned v ∧ Strs1 W' v (Lh.hups S.hs) ∧ Below W.heap.size W W' := by
  obtain ⟨hp, fp, fm, db, bs, lv, h, rfl, hg⟩ := hR
  exact (upB h hk.h.len).mono fun e W' ⟨v, q1, q2, q3⟩ => ⟨v, q1, strs_of_owns q2, q3⟩
theorem flows_bal (S : Lh.Bl) (F : Nat → Prop) (p : Nat) (W : World) (hR : RepB S F p W) (hk : Lh.BOk S) :
    Calls Tryz.prog 21 #[.pointer (some ⟨p, 0, none⟩)] W fun e W' => ∃ v, e = .returned v ∧ FlowsNew W.heap.size W' v S.L ∧ Below W.heap.size W W' := by
  obtain ⟨hp, fp, fm, db, bs, lv, h, rfl, hg⟩ := hR
  exact flowsB h hk
theorem epoch_bal (S : Lh.Bl) (F : Nat → Prop) (p : Nat) (W : World) (hR : RepB S F p W) :
    Calls Tryz.prog 24 #[.pointer (some ⟨p, 0, none⟩)] W fun e W' => e = .returned (.int .i64 S.ep) ∧ Below W.heap.size W W' := by
  obtain ⟨hp, fp, fm, db, bs, lv, h, rfl, hg⟩ := hR
  exact epochB h
end Go.Proofs.YtmdckddenelneaaGreatDoor

/- The landed balance: Look. -/
namespace Go.Proofs.YtmdckddenelneaaGreatDoor
open Go.RowKit Go.Shelf Go.Maps Go.ChangeMaps

theorem hix_names (l : List Lh.Hh) (s : ByteArray) : Lh.hix l s = (l.map fun x => x.1).findIdx fun x => decide (x = s) := by
  unfold Lh.hix
  rw [List.findIdx_map]
  rfl
theorem names_set {l : List Lh.Hh} {s : ByteArray} {y : Lh.Hh} (hx : Lh.hix l s < l.length) (hy : y.1 = s) : ((l.set (Lh.hix l s) y).map fun x => x.1) = l.map fun x => x.1 := by
  have hg := Lh.hix_get hx
  refine List.ext_getElem (by simp) fun j h1 h2 => ?_
  rw [List.getElem_map, List.getElem_map, List.getElem_set]
  split
  · rename_i e
    subst e
    rw [hy, hg]
  · rfl
theorem hix_set {l : List Lh.Hh} {s : ByteArray} {y : Lh.Hh} (hx : Lh.hix l s < l.length) (hy : y.1 = s) (z : ByteArray) : Lh.hix (l.set (Lh.hix l s) y) z = Lh.hix l z := by
  rw [hix_names, hix_names l z, names_set hx hy]
theorem hup_set {l : List Lh.Hh} {s : ByteArray} {y : Lh.Hh} (hn : (l.map fun x => x.1).Nodup) (hx : Lh.hix l s < l.length) (hy : y.1 = s) : Lh.hup (l.set (Lh.hix l s) y) s = y.2.1 := by
  have h1 : Lh.hix (l.set (Lh.hix l s) y) s < (l.set (Lh.hix l s) y).length := by rw [hix_set hx hy, List.length_set]; exact hx
  rw [hup_at (by rw [names_set hx hy]; exact hn) h1]
  congr 1
  congr 1
  have e : Lh.hix (l.set (Lh.hix l s) y) s = Lh.hix l s := hix_set hx hy s
  simp only [e, List.getElem_set_self]
section
variable {W W' : World} {p hp fp fm db : Nat} {bs : List Nat} {lv : Value} {S : Lh.Bl}
set_option maxHeartbeats 1000000 in
theorem look_none (a : Nat → Addr) (he : Errs4 a W) (h : BR W p hp fp fm db bs lv S) (hk : Lh.BOk S) (s : ByteArray) (well : Bool) (hx : ¬ Lh.hix S.hs s < S.hs.length) :
    Calls Tryz.prog 81 #[.pointer (some ⟨p, 0, none⟩), .string s, .bool well] W fun e w' => e = .returned (.tuple #[.bool false, .iface 331 (.pointer (some (a 4)))]) ∧ BR w' p hp fp fm db bs lv S ∧ Tur (HFoot hp bs lv) W w' := by
  have hlk := lookS_any a he h.h hk.h s well
  have c0 := h.c0
  have HH : Hid (BR W p hp fp fm db bs lv S) := h
  have HX : Hid (¬ Lh.hix S.hs s < S.hs.length) := hx
  clear h hk hx he
  go_enter Tryz.func81, Tryz.ntmps81
  go_wp2_with fail
  refine hlk.mono ?_
  rintro e w1 ⟨hT, ⟨hx, _⟩ | ⟨_, rfl, hR⟩⟩
  case inl => exact absurd hx HX.out
  have HB : Hid (BR w1 p hp fp fm db bs lv S) := HH.out.health hT hR HH.out.dh
  have HT : Hid (Tur (HFoot hp bs lv) W w1) := hT
  clear hlk c0 hT hR
  go_wp2
  go_ret2
  exact ⟨rfl, HB.out, HT.out⟩

set_option maxHeartbeats 2000000 in
theorem look_good (a : Nat → Addr) (he : Errs4 a W) (h : BR W p hp fp fm db bs lv S) (hk : Lh.BOk S) (s : ByteArray) (well : Bool) (hx : Lh.hix S.hs s < S.hs.length) :
    Calls Tryz.prog 81 #[.pointer (some ⟨p, 0, none⟩), .string s, .bool well] W fun e w' => e = .returned (.tuple #[.bool (Lh.hlook S.f S.r S.hs[Lh.hix S.hs s] well).2, .nilIface]) ∧ BR w' p hp fp fm db bs lv (Lh.blook S s well S.hs[Lh.hix S.hs s]) ∧ Tur (BFt p hp fp fm db bs lv) W w' := by
  have hlk := lookS_any a he h.h hk.h s well
  have c0 := h.c0
  have HH : Hid (BR W p hp fp fm db bs lv S) := h
  have hy : (Lh.hlook S.f S.r S.hs[Lh.hix S.hs s] well).1.1 = s := by rw [Lh.hlook_name, Lh.hix_get hx]
  have HD : Hid (∀ z ∈ S.dr, Lh.hix (S.hs.set (Lh.hix S.hs s) (Lh.hlook S.f S.r S.hs[Lh.hix S.hs s] well).1) z < (S.hs.set (Lh.hix S.hs s) (Lh.hlook S.f S.r S.hs[Lh.hix S.hs s] well).1).length) := fun z hz => by
    rw [hix_set hx hy, List.length_set]
    exact h.dh z hz
  have HUP : Hid (Lh.hup (S.hs.set (Lh.hix S.hs s) (Lh.hlook S.f S.r S.hs[Lh.hix S.hs s] well).1) s = (Lh.hlook S.f S.r S.hs[Lh.hix S.hs s] well).1.2.1) := hup_set hk.h.nodup hx hy
  have HOK : Hid (Lh.HOk S.f S.r (S.hs.set (Lh.hix S.hs s) (Lh.hlook S.f S.r S.hs[Lh.hix S.hs s] well).1)) := hk.h.look hx well
  have HFO : Hid (Lh.FlOk S.L) := hk.ok
  unfold Lh.blook
  clear h hk he hy
  obtain ⟨y, t, hyt⟩ : ∃ y t, Lh.hlook S.f S.r S.hs[Lh.hix S.hs s] well = (y, t) := ⟨_, _, rfl⟩
  rw [hyt] at HD HUP HOK ⊢
  simp only at HD HUP HOK ⊢
  have hlk' : Calls Tryz.prog 110 #[.pointer (some ⟨hp, 0, none⟩), .string s, .bool well] W fun e w' => Tur (HFoot hp bs lv) W w' ∧ e = .returned (.tuple #[.bool t, .nilIface]) ∧ HR w' hp S.f S.r (S.hs.set (Lh.hix S.hs s) y) bs lv := hlk.mono fun e w' ⟨q1, q2⟩ => by
    rcases q2 with ⟨hx', q3, q4⟩ | ⟨hx', _⟩
    · rw [hyt] at q3 q4
      exact ⟨q1, q3, q4⟩
    · exact absurd hx hx'
  obtain ⟨L', hL'⟩ : ∃ L', (if t = true ∧ y.2.1 = false then Lh.fdrop S.L s else S.L) = L' := ⟨_, rfl⟩
  rw [hL']
  have HL : Hid ((if t = true ∧ y.2.1 = false then Lh.fdrop S.L s else S.L) = L') := hL'
  clear hlk hyt hx hL'
  go_enter Tryz.func81, Tryz.ntmps81
  go_wp2_with fail
  refine hlk'.mono ?_
  rintro e w1 ⟨hT, rfl, hR⟩
  have hB := HH.out.health hT hR HD.out
  have HB : Hid (BR w1 p hp fp fm db bs lv { S with hs := S.hs.set (Lh.hix S.hs s) y }) := hB
  have HT : Hid (Tur (HFoot hp bs lv) W w1) := hT
  clear hlk' hT hR
  cases t with
  | false =>
    have HL2 : Hid (L' = S.L) := by have h1 := HL.out; rw [if_neg (by simp)] at h1; exact h1.symm
    clear c0 hB HL
    go_wp2
    go_ret2
    exact ⟨rfl, by rw [HL2.out]; exact HB.out, HT.out.health⟩
  | true =>
    have c0' := hB.c0
    have c2' := hB.c2
    have his := isS_any hB.h HOK.out s
    rw [show Lh.hup ({ S with hs := S.hs.set (Lh.hix S.hs s) y } : Lh.Bl).hs s = y.2.1 from HUP.out] at his
    cases hu : y.2.1 with
    | true =>
      rw [hu] at his
      have HL2 : Hid (L' = S.L) := by have h1 := HL.out; rw [if_neg (by simp [hu])] at h1; exact h1.symm
      clear c0 hB hu c2' HL
      go_wp2_with fail
      refine his.mono ?_
      rintro e w2 ⟨rfl, hb2⟩
      have HB2 : Hid (BR w2 p hp fp fm db bs lv { S with hs := S.hs.set (Lh.hix S.hs s) y }) := HB.out.later hb2
      have HT2 : Hid (Tur (HFoot hp bs lv) W w2) := HT.out.behind hb2
      clear his c0' hb2
      go_wp2
      go_ret2
      exact ⟨rfl, by rw [HL2.out]; exact HB2.out, HT2.out.health⟩
    | false =>
      rw [hu] at his
      have HL2 : Hid (L' = Lh.fdrop S.L s) := by have h1 := HL.out; rw [if_pos (by simp [hu])] at h1; exact h1.symm
      clear c0 hB hu HL
      go_wp2_with fail
      refine his.mono ?_
      rintro e w2 ⟨rfl, hb2⟩
      have hB2 := HB.out.later hb2
      have c2'' := hB2.c2
      have HB2 : Hid (BR w2 p hp fp fm db bs lv { S with hs := S.hs.set (Lh.hix S.hs s) y }) := hB2
      have HT2 : Hid (Tur (HFoot hp bs lv) W w2) := HT.out.behind hb2
      have hdr := dropF_any hB2.f HFO.out s
      clear his c0' hb2 hB2 c2'
      go_wp2_with fail
      refine hdr.mono ?_
      rintro e w3 ⟨rfl, hF3, hT3⟩
      have HB3 : Hid (BR w3 p hp fp fm db bs lv { S with hs := S.hs.set (Lh.hix S.hs s) y, L := Lh.fdrop S.L s }) := HB2.out.flows hT3 hF3
      have HT3 : Hid (Tur (BFt p hp fp fm db bs lv) W w3) := HT2.out.health.trans (hT3.flows (p := p) (hp := hp) (db := db) (bs := bs) (lv := lv)) fun b hb => Or.inl hb
      clear hdr hF3 hT3 c2''
      go_wp2
      go_ret2
      exact ⟨rfl, by rw [HL2.out]; exact HB3.out, HT3.out⟩
end
end Go.Proofs.YtmdckddenelneaaGreatDoor
