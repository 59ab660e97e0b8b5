/- A balance, as data: hosts, those that are drained, an epoch, the last tick, flows. -/
import Derived.Test.YtmdckddenelneaaGreatDoorM0
import Derived.Test.YtmdckddenelneaaGreatDoorM8
import Derived.Test.YtmdckddenelneaaGreatDoorTMath
import Derived.Test.YtmdckddenelneaaGreatDoorM9
import Derived.Test.YtmdckddenelneaaGreatDoorM4
import Derived.Test.YtmdckddenelneaaGreatDoorM7
import Derived.Test.YtmdckddenelneaaGreatDoorM10
namespace Go.Proofs.YtmdckddenelneaaGreatDoor
namespace Lh

/-- f, r: the edges; size: of a table; t: how long a flow stays; dr: those that are drained; ep: the epoch; la: the last tick -/
structure Bl where
  f : Nat
  r : Nat
  size : Nat
  t : Nat
  hs : List Hh
  dr : List ByteArray
  ep : Int
  la : Int
  L : List Fl
/-- those that new keys may go to -/
def bopen (S : Bl) : List ByteArray := (hups S.hs).filter fun s => !(S.dr.any fun x => decide (x = s))
/-- the key has its host still -/
def BKeeps (S : Bl) (k : Nat) (now : Int) (s : ByteArray) : Prop := ∃ h : fix S.L k < S.L.length, now < (S.L[fix S.L k]).2.2 ∧ (S.L[fix S.L k]).2.1 = s ∧ hup S.hs s = true
def bdrain (dr : List ByteArray) (s : ByteArray) (is : Bool) : List ByteArray := (dr.filter fun x => !decide (x = s)) ++ if is then [s] else []
/-- what is right of a balance -/
structure BOk (S : Bl) : Prop where
  h : HOk S.f S.r S.hs
  nm : ∀ x ∈ S.hs, isNm x.1 = true
  ok : FlOk S.L
  host : ∀ x ∈ S.L, isNm x.2.1 = true
  hi : ∀ x ∈ S.L, x.2.2 ≤ 1099511628776
  t1 : 1 ≤ S.t
  t2 : S.t ≤ 1000
  prm : Prm S.size
  s5 : S.size ≤ 503
  ep0 : 0 ≤ S.ep
  ep1 : S.ep ≤ 1099511627776
  la0 : 0 ≤ S.la
  la1 : S.la ≤ 1099511627776
theorem hup_iff {l : List Hh} {s : ByteArray} : hup l s = true ↔ ∃ x ∈ l, x.1 = s ∧ x.2.1 = true := by
  unfold hup
  rw [List.any_eq_true]
  constructor
  · rintro ⟨x, hx, h⟩
    simp at h
    exact ⟨x, hx, h.1, h.2⟩
  · rintro ⟨x, hx, h1, h2⟩
    exact ⟨x, hx, by simp [h1, h2]⟩
theorem hups_mem {l : List Hh} {s : ByteArray} : s ∈ hups l ↔ hup l s = true := by
  rw [hup_iff]
  unfold hups
  rw [List.mem_map]
  constructor
  · rintro ⟨x, hx, rfl⟩
    rw [List.mem_filter] at hx
    exact ⟨x, hx.1, rfl, hx.2⟩
  · rintro ⟨x, hx, rfl, h⟩
    exact ⟨x, List.mem_filter.2 ⟨hx, h⟩, rfl⟩
theorem bopen_mem {S : Bl} {s : ByteArray} : s ∈ bopen S ↔ hup S.hs s = true ∧ s ∉ S.dr := by
  unfold bopen
  rw [List.mem_filter, hups_mem]
  constructor
  · rintro ⟨h1, h2⟩
    refine ⟨h1, fun hm => ?_⟩
    have : (S.dr.any fun x => decide (x = s)) = true := List.any_eq_true.2 ⟨s, hm, by simp⟩
    rw [this] at h2
    cases h2
  · rintro ⟨h1, h2⟩
    refine ⟨h1, ?_⟩
    have : (S.dr.any fun x => decide (x = s)) = false := List.any_eq_false.2 fun x hx => by
      intro e
      have e' : x = s := by simpa using e
      subst e'
      exact h2 hx
    rw [this]
    rfl
theorem hup_nm {S : Bl} (h : BOk S) {s : ByteArray} (hu : hup S.hs s = true) : isNm s = true ∧ s.size ≤ 300 := by
  obtain ⟨x, hx, rfl, _⟩ := hup_iff.1 hu
  exact ⟨h.nm x hx, h.h.size x hx⟩
/-- a host more, or the same one anew -/
theorem BOk.put {S : Bl} (h : BOk S) {k : Nat} (hk : k < 18446744073709551616) {s : ByteArray} (hn : isNm s = true) (hs : s.size ≤ 300) {now : Int} (h0 : 0 ≤ now) (h1 : now ≤ 1099511627776) : BOk { S with la := now, L := fput S.t S.L k s now } := by
  refine ⟨h.h, h.nm, h.ok.put hk hs h0 h1 h.t2, fun x hx => ?_, fun x hx => ?_, h.t1, h.t2, h.prm, h.s5, h.ep0, h.ep1, h0, h1⟩
  · rcases flay_mem.1 hx with rfl | hx
    · exact hn
    · exact h.host x ((frest_sub _ _).mem hx)
  · rcases flay_mem.1 hx with rfl | hx
    · have := h.t2
      show now + (S.t : Int) ≤ 1099511628776
      omega
    · exact h.hi x ((frest_sub _ _).mem hx)
theorem BOk.tick {S : Bl} (h : BOk S) {now : Int} (h0 : 0 ≤ now) (h1 : now ≤ 1099511627776) : BOk { S with la := now } := ⟨h.h, h.nm, h.ok, h.host, h.hi, h.t1, h.t2, h.prm, h.s5, h.ep0, h.ep1, h0, h1⟩
theorem BOk.drain {S : Bl} (h : BOk S) (dr : List ByteArray) : BOk { S with dr := dr } := ⟨h.h, h.nm, h.ok, h.host, h.hi, h.t1, h.t2, h.prm, h.s5, h.ep0, h.ep1, h.la0, h.la1⟩
theorem BOk.epoch {S : Bl} (h : BOk S) {e : Int} (h0 : 0 ≤ e) (h1 : e ≤ 1099511627776) : BOk { S with ep := e } := ⟨h.h, h.nm, h.ok, h.host, h.hi, h.t1, h.t2, h.prm, h.s5, h0, h1, h.la0, h.la1⟩
theorem BOk.sub {S : Bl} (h : BOk S) {M : List Fl} (hM : M.Sublist S.L) : BOk { S with L := M } := ⟨h.h, h.nm, h.ok.sub hM, fun x hx => h.host x (hM.mem hx), fun x hx => h.hi x (hM.mem hx), h.t1, h.t2, h.prm, h.s5, h.ep0, h.ep1, h.la0, h.la1⟩
theorem BOk.hosts {S : Bl} (h : BOk S) {l : List Hh} (hl : HOk S.f S.r l) (hn : ∀ x ∈ l, isNm x.1 = true) : BOk { S with hs := l } := ⟨hl, hn, h.ok, h.host, h.hi, h.t1, h.t2, h.prm, h.s5, h.ep0, h.ep1, h.la0, h.la1⟩
/-- a look at a host that there is -/
def blook (S : Bl) (s : ByteArray) (well : Bool) (x : Hh) : Bl :=
  { S with hs := S.hs.set (hix S.hs s) (hlook S.f S.r x well).1, L := if (hlook S.f S.r x well).2 = true ∧ (hlook S.f S.r x well).1.2.1 = false then fdrop S.L s else S.L }
theorem BOk.look {S : Bl} (h : BOk S) {s : ByteArray} {well : Bool} (hx : hix S.hs s < S.hs.length) : BOk (blook S s well S.hs[hix S.hs s]) := by
  have hn : ∀ y ∈ S.hs.set (hix S.hs s) (hlook S.f S.r S.hs[hix S.hs s] well).1, isNm y.1 = true := fun y hy => by
    rcases List.mem_or_eq_of_mem_set hy with hy | rfl
    · exact h.nm y hy
    · rw [hlook_name]
      exact h.nm _ (List.getElem_mem hx)
  have h2 := h.hosts (h.h.look hx well) hn
  unfold blook
  split
  · exact h2.sub (List.filter_sublist)
  · exact h2
/-- what of a list is added: those that may come, in their order, where each key is new -/
theorem BOk.add {S : Bl} (h : BOk S) {now : Int} (h0 : 0 ≤ now) (h1 : now ≤ 1099511627776) : ∀ (l : List Fl) {M : List Fl}, BOk { S with la := now, L := M } → (∀ x ∈ l, x.1 < 18446744073709551616 ∧ x.2.1.size ≤ 300 ∧ isNm x.2.1 = true) → BOk { S with la := now, L := fadd now M l }
  | [], _, hM, _ => hM
  | x :: l, M, hM, hl => by
    show BOk { S with la := now, L := fadd now (fadd1 now M x) l }
    refine BOk.add h h0 h1 l ?_ fun y hy => hl y (by simp [hy])
    obtain ⟨hk, hs, hn⟩ := hl x (by simp)
    refine ⟨hM.h, hM.nm, hM.ok.add1 h0 h1 hk hs, fun y hy => ?_, fun y hy => ?_, hM.t1, hM.t2, hM.prm, hM.s5, hM.ep0, hM.ep1, h0, h1⟩
    · unfold fadd1 at hy
      split at hy
      · exact hM.host y hy
      · rcases flay_mem.1 hy with rfl | hy
        · exact hn
        · exact hM.host y hy
    · unfold fadd1 at hy
      split at hy
      · exact hM.hi y hy
      · rename_i hc
        rcases flay_mem.1 hy with rfl | hy
        · have : ¬ 1000 < y.2.2 - now := fun e => hc (Or.inr (Or.inr (Or.inl e)))
          omega
        · exact hM.hi y hy
end Lh
end Go.Proofs.YtmdckddenelneaaGreatDoor

/- The landed balance in memory: a block, a health, a map of those that are drained, flows. -/
namespace Go.Proofs.YtmdckddenelneaaGreatDoor
open Go.RowKit Go.Shelf Go.Maps Go.ChangeMaps

/-- a datum that is a set of names -/
def SetN (D : DataW Unit) (dr : List ByteArray) : Prop := IsMap D ∧ Maps.size D = dr.length ∧ ∀ s : ByteArray, has D (.string s.data.toList) = decide (s ∈ dr)
theorem SetN.zero : SetN (.map []) [] := ⟨isMap_empty, rfl, fun _ => by simp [has]⟩
theorem filter_out {dr : List ByteArray} {s : ByteArray} (h : s ∉ dr) : (dr.filter fun x => !decide (x = s)) = dr := List.filter_eq_self.2 fun x hx => by
  have : x ≠ s := fun e => h (e ▸ hx)
  simpa using this
theorem filter_len {dr : List ByteArray} {s : ByteArray} (hn : dr.Nodup) (h : s ∈ dr) : (dr.filter fun x => !decide (x = s)).length + 1 = dr.length := by
  induction dr with
  | nil => cases h
  | cons x l ih =>
    rw [List.nodup_cons] at hn
    by_cases e : x = s
    · subst e
      rw [List.filter_cons_of_neg (by simp), filter_out hn.1]
      rfl
    · have hm : s ∈ l := by
        rcases List.mem_cons.1 h with h | h
        · exact absurd h.symm e
        · exact h
      rw [List.filter_cons_of_pos (by simpa using e), List.length_cons, List.length_cons, ih hn.2 hm]
theorem bdrain_mem {dr : List ByteArray} {s z : ByteArray} {is : Bool} : z ∈ Lh.bdrain dr s is ↔ (z ∈ dr ∧ z ≠ s) ∨ (is = true ∧ z = s) := by
  unfold Lh.bdrain
  rw [List.mem_append, List.mem_filter]
  cases is <;> simp
theorem SetN.put {D : DataW Unit} {dr : List ByteArray} (h : SetN D dr) (ht : Tidy D) (hn : dr.Nodup) (s : ByteArray) : SetN (D.put (.string s.data.toList) (.agg [])) (Lh.bdrain dr s true) := by
  refine ⟨h.1.put _ _, ?_, fun z => ?_⟩
  · rw [size_put ht, h.2.2 s, h.2.1]
    unfold Lh.bdrain
    rw [List.length_append]
    by_cases hm : s ∈ dr
    · have := filter_len hn hm
      simp [hm]
      omega
    · rw [filter_out hm]
      simp [hm]
  · by_cases e : z = s
    · subst e
      rw [has_put_same (k := .string _) h.1 (by simp [WideAt.IsKeyLit])]
      simp [bdrain_mem]
    · rw [has_put_other (strs_lit_ne e), h.2.2 z]
      simp [bdrain_mem, e]
theorem SetN.del {D : DataW Unit} {dr : List ByteArray} (h : SetN D dr) (ht : Tidy D) (hn : dr.Nodup) (s : ByteArray) (hm : IsMap (D.del (.string s.data.toList))) : SetN (D.del (.string s.data.toList)) (Lh.bdrain dr s false) := by
  refine ⟨hm, ?_, fun z => ?_⟩
  · have h1 := size_del (k := .string s.data.toList) ht
    rw [h.2.2 s, h.2.1] at h1
    unfold Lh.bdrain
    rw [List.length_append]
    by_cases hm : s ∈ dr
    · have := filter_len hn hm
      simp [hm] at h1 ⊢
      omega
    · rw [filter_out hm]
      simp [hm] at h1 ⊢
      omega
  · by_cases e : z = s
    · subst e
      rw [has_del_same]
      simp [bdrain_mem]
    · rw [has_del_other (strs_lit_ne e), h.2.2 z]
      simp [bdrain_mem, e]
theorem bdrain_nodup {dr : List ByteArray} (hn : dr.Nodup) (s : ByteArray) (is : Bool) : (Lh.bdrain dr s is).Nodup := by
  unfold Lh.bdrain
  rw [List.nodup_append]
  refine ⟨hn.sublist List.filter_sublist, by cases is <;> simp, fun x hx y hy => ?_⟩
  rw [List.mem_filter] at hx
  cases is
  · cases hy
  · have hy' : y = s := by simpa using hy
    have := hx.2
    subst hy'
    simpa using this
theorem nodup_le : ∀ {l m : List ByteArray}, l.Nodup → (∀ x ∈ l, x ∈ m) → l.length ≤ m.length
  | [], _, _, _ => Nat.zero_le _
  | a :: l, m, hn, hs => by
    rw [List.nodup_cons] at hn
    have h1 : l.length ≤ (m.filter fun x => !decide (x = a)).length := nodup_le hn.2 fun x hx => List.mem_filter.2 ⟨hs x (by simp [hx]), by
      have : x ≠ a := fun e => hn.1 (e ▸ hx)
      simpa using this⟩
    have h2 : (m.filter fun x => !decide (x = a)).length < m.length := List.length_filter_lt_length_iff_exists.2 ⟨a, hs a (by simp), by simp⟩
    rw [List.length_cons]
    omega

/-- Block p is the landed balance: its health is block hp, those that are drained are map db, its flows are block fp (its map fm). -/
structure BR (W : World) (p hp fp fm db : Nat) (bs : List Nat) (lv : Value) (S : Lh.Bl) : Prop where
  c0 : W.cell? ⟨p, 0, none⟩ = some (.pointer (some ⟨hp, 0, none⟩))
  c1 : W.cell? ⟨p, 1, none⟩ = some (.map (some db))
  c2 : W.cell? ⟨p, 2, none⟩ = some (.pointer (some ⟨fp, 0, none⟩))
  c3 : W.cell? ⟨p, 3, none⟩ = some (.int .i64 (S.size : Nat))
  c4 : W.cell? ⟨p, 4, none⟩ = some (.int .i64 S.ep)
  fz : ∀ k, W.frozen? ⟨p, k, none⟩ = false
  h : HR W hp S.f S.r S.hs bs lv
  f : FR W fp fm S.t S.la S.L
  d : ∃ D : DataW Unit, W.ownsMap Tryz.prog 9 unitElem db S.dr.length D ∧ SetN D S.dr
  dn : S.dr.Nodup
  dh : ∀ s ∈ S.dr, Lh.hix S.hs s < S.hs.length
  pd : p ≠ db
  ph : ¬ HFoot hp bs lv p
  pf : ¬ FFt fp fm p
  dbh : ¬ HFoot hp bs lv db
  dbf : ¬ FFt fp fm db
  hf : ∀ b, HFoot hp bs lv b → ¬ FFt fp fm b
/-- the blocks that it is made of -/
def BFt (p hp fp fm db : Nat) (bs : List Nat) (lv : Value) (b : Nat) : Prop := b = p ∨ b = db ∨ HFoot hp bs lv b ∨ FFt fp fm b
section
variable {W W' : World} {p hp fp fm db : Nat} {bs : List Nat} {lv : Value} {S : Lh.Bl}
theorem BR.plt (h : BR W p hp fp fm db bs lv S) : p < W.heap.size := World.block_lt_of_cell? W ⟨p, 0, none⟩ h.c0
theorem BR.dlt (h : BR W p hp fp fm db bs lv S) : db < W.heap.size := by
  obtain ⟨D, h, _⟩ := h.d
  exact h.lt
theorem BR.lt (h : BR W p hp fp fm db bs lv S) : ∀ b, BFt p hp fp fm db bs lv b → b < W.heap.size := by
  rintro b (rfl | rfl | hb | hb)
  · exact h.plt
  · exact h.dlt
  · exact (h.h.lt b hb).1
  · exact h.f.lt b hb
/-- its own block is as it was -/
theorem BR.cells (h : BR W p hp fp fm db bs lv S) (e : W'.heap[p]? = W.heap[p]?) : W'.cell? ⟨p, 0, none⟩ = some (.pointer (some ⟨hp, 0, none⟩)) ∧ W'.cell? ⟨p, 1, none⟩ = some (.map (some db)) ∧ W'.cell? ⟨p, 2, none⟩ = some (.pointer (some ⟨fp, 0, none⟩)) ∧ W'.cell? ⟨p, 3, none⟩ = some (.int .i64 (S.size : Nat)) ∧ W'.cell? ⟨p, 4, none⟩ = some (.int .i64 S.ep) ∧ ∀ k, W'.frozen? ⟨p, k, none⟩ = false :=
  ⟨(World.cell?_of_block (w := W) (w' := W') (a := ⟨p, 0, none⟩) e).trans h.c0, (World.cell?_of_block (w := W) (w' := W') (a := ⟨p, 1, none⟩) e).trans h.c1, (World.cell?_of_block (w := W) (w' := W') (a := ⟨p, 2, none⟩) e).trans h.c2, (World.cell?_of_block (w := W) (w' := W') (a := ⟨p, 3, none⟩) e).trans h.c3, (World.cell?_of_block (w := W) (w' := W') (a := ⟨p, 4, none⟩) e).trans h.c4, fun k => (World.frozen?_of_block (w := W) (w' := W') (a := ⟨p, k, none⟩) e).trans (h.fz k)⟩
theorem BR.stay (h : BR W p hp fp fm db bs lv S) (hs : ∀ b, BFt p hp fp fm db bs lv b → W'.heap[b]? = W.heap[b]?) : BR W' p hp fp fm db bs lv S := by
  obtain ⟨a0, a1, a2, a3, a4, a5⟩ := h.cells (hs p (Or.inl rfl))
  obtain ⟨D, d1, d2⟩ := h.d
  exact ⟨a0, a1, a2, a3, a4, a5, h.h.stay fun b hb => hs b (Or.inr (Or.inr (Or.inl hb))), h.f.stay fun b hb => hs b (Or.inr (Or.inr (Or.inr hb))), ⟨D, ownsMap_later d1 (hs db (Or.inr (Or.inl rfl))), d2⟩, h.dn, h.dh, h.pd, h.ph, h.pf, h.dbh, h.dbf, h.hf⟩
theorem BR.later (h : BR W p hp fp fm db bs lv S) (hb : Below W.heap.size W W') : BR W' p hp fp fm db bs lv S := h.stay fun b hf => hb.block b (h.lt b hf)
/-- all but its flows is as it was -/
theorem BR.flows (h : BR W p hp fp fm db bs lv S) (hT : Tur (FFt fp fm) W W') {la : Int} {L : List Lh.Fl} (hF : FR W' fp fm S.t la L) : BR W' p hp fp fm db bs lv { S with la := la, L := L } := by
  obtain ⟨a0, a1, a2, a3, a4, a5⟩ := h.cells (hT.block p h.plt h.pf)
  obtain ⟨D, d1, d2⟩ := h.d
  exact ⟨a0, a1, a2, a3, a4, a5, h.h.stay fun b hb => hT.block b (h.h.lt b hb).1 (h.hf b hb), hF, ⟨D, ownsMap_later d1 (hT.block db h.dlt h.dbf), d2⟩, h.dn, h.dh, h.pd, h.ph, h.pf, h.dbh, h.dbf, h.hf⟩
/-- all but its health is as it was -/
theorem BR.health (h : BR W p hp fp fm db bs lv S) (hT : Tur (HFoot hp bs lv) W W') {l : List Lh.Hh} (hH : HR W' hp S.f S.r l bs lv) (hd : ∀ s ∈ S.dr, Lh.hix l s < l.length) : BR W' p hp fp fm db bs lv { S with hs := l } := by
  obtain ⟨a0, a1, a2, a3, a4, a5⟩ := h.cells (hT.block p h.plt h.ph)
  obtain ⟨D, d1, d2⟩ := h.d
  exact ⟨a0, a1, a2, a3, a4, a5, hH, h.f.stay fun b hb => hT.block b (h.f.lt b hb) fun hg => h.hf b hg hb, ⟨D, ownsMap_later d1 (hT.block db h.dlt h.dbh), d2⟩, h.dn, hd, h.pd, h.ph, h.pf, h.dbh, h.dbf, h.hf⟩
/-- all but its map is as it was -/
theorem BR.map (h : BR W p hp fp fm db bs lv S) (hT : Tur (fun b => b = db) W W') {dr : List ByteArray} (hn : dr.Nodup) (hd : ∀ s ∈ dr, Lh.hix S.hs s < S.hs.length) (hD : ∃ D : DataW Unit, W'.ownsMap Tryz.prog 9 unitElem db dr.length D ∧ SetN D dr) : BR W' p hp fp fm db bs lv { S with dr := dr } := by
  obtain ⟨a0, a1, a2, a3, a4, a5⟩ := h.cells (hT.block p h.plt h.pd)
  exact ⟨a0, a1, a2, a3, a4, a5, h.h.stay fun b hb => hT.block b (h.h.lt b hb).1 fun e => h.dbh (e ▸ hb), h.f.stay fun b hb => hT.block b (h.f.lt b hb) fun e => h.dbf (e ▸ hb), hD, hn, hd, h.pd, h.ph, h.pf, h.dbh, h.dbf, h.hf⟩
/-- an epoch -/
theorem BR.epoch (h : BR W p hp fp fm db bs lv S) (e : Int) : BR (W.setCell ⟨p, 4, none⟩ (.int .i64 e)) p hp fp fm db bs lv { S with ep := e } := by
  have ho : ∀ b, b ≠ p → (W.setCell ⟨p, 4, none⟩ (.int .i64 e)).heap[b]? = W.heap[b]? := fun b hb => Below.heap_setCell _ _ _ b hb
  obtain ⟨D, d1, d2⟩ := h.d
  refine ⟨?_, ?_, ?_, ?_, World.cell?_setCell_same' _ _ _ (by rw [h.c4]; rfl), fun k => by rw [World.frozen?_setCell]; exact h.fz k, h.h.stay fun b hb => ho b fun e => h.ph (e ▸ hb), h.f.stay fun b hb => ho b fun e => h.pf (e ▸ hb), ⟨D, ownsMap_later d1 (ho db fun e => h.pd e.symm), d2⟩, h.dn, h.dh, h.pd, h.ph, h.pf, h.dbh, h.dbf, h.hf⟩
  · rw [World.cell?_setCell_other _ _ _ _ (by simp)]; exact h.c0
  · rw [World.cell?_setCell_other _ _ _ _ (by simp)]; exact h.c1
  · rw [World.cell?_setCell_other _ _ _ _ (by simp)]; exact h.c2
  · rw [World.cell?_setCell_other _ _ _ _ (by simp)]; exact h.c3
theorem BR.drLen (h : BR W p hp fp fm db bs lv S) (hl : S.hs.length ≤ 12) : S.dr.length ≤ 12 := by
  refine Nat.le_trans (nodup_le (m := S.hs.map fun x => x.1) h.dn fun x hx => ?_) (by rw [List.length_map]; exact hl)
  obtain ⟨y, hy, rfl⟩ := Lh.hix_lt.1 (h.dh x hx)
  exact List.mem_map_of_mem hy
theorem Tur.flows (h : Tur (FFt fp fm) W W') : Tur (BFt p hp fp fm db bs lv) W W' := h.wide fun _ hb => Or.inr (Or.inr (Or.inr hb))
theorem Tur.health (h : Tur (HFoot hp bs lv) W W') : Tur (BFt p hp fp fm db bs lv) W W' := h.wide fun _ hb => Or.inr (Or.inr (Or.inl hb))
theorem Tur.map (h : Tur (fun b => b = db) W W') : Tur (BFt p hp fp fm db bs lv) W W' := h.wide fun _ hb => Or.inr (Or.inl hb)
end
end Go.Proofs.YtmdckddenelneaaGreatDoor
