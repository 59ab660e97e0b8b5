/- The landed flows: dropFirst, Put. -/
import Derived.Test.YtmdckddenelneaaGreatDoorM9
import Derived.Test.YtmdckddenelneaaGreatDoorFlL4
import Derived.Deep.RegionLaw
import Derived.BigRegion
import Derived.Test.YtmdckddenelneaaGreatDoorM10
import Derived.Test.YtmdckddenelneaaGreatDoorM11
namespace Go.Proofs.YtmdckddenelneaaGreatDoor
open Go.RowKit Go.Maps Go.ChangeMaps Go.Shelf
section
variable {W W' : World} {p mb t : Nat} {la : Int} {L : List Lh.Fl}

/-- a map that has turned, and nothing else that lay -/
theorem FR.turned {w1 w2 : World} {M : List Lh.Fl} {n : Nat} (h : FR w1 p mb t la L) (hg : w1.grownBy w2 (some mb)) (hown : w2.ownsMap Tryz.prog 27 flElem mb n (FD M)) : FR w2 p mb t la M ∧ Tur (fun b => b = mb) w1 w2 := by
  have hT : Tur (fun b => b = mb) w1 w2 := ⟨hg.os, hg.tape, hg.output, hg.size, fun k hk hne => hg.block k hk (fun e => hne (by cases e; rfl))⟩
  have hpb : w2.heap[p]? = w1.heap[p]? := hT.block p h.plt h.ne
  have own2 := ownsMap_tight hown
  rw [FD_size] at own2
  exact ⟨⟨(World.cell?_of_block (w := w1) (w' := w2) (a := ⟨p, 0, none⟩) hpb).trans h.c0, (World.cell?_of_block (w := w1) (w' := w2) (a := ⟨p, 1, none⟩) hpb).trans h.c1, (World.cell?_of_block (w := w1) (w' := w2) (a := ⟨p, 2, none⟩) hpb).trans h.c2, fun k => (World.frozen?_of_block (w := w1) (w' := w2) (a := ⟨p, k, none⟩) hpb).trans (h.fz k), own2, h.ne⟩, hT⟩

theorem own_heap {w w' : World} {b n : Nat} {D : DataW Unit} (h : w.ownsMap Tryz.prog 27 flElem b n D) (he : w'.heap = w.heap) : w'.ownsMap Tryz.prog 27 flElem b n D := by
  obtain ⟨es, clock, hb, r⟩ := h
  exact ⟨es, clock, by rw [he]; exact hb, r⟩
/-- delete, as one step of a region that draws -/
theorem step_delF {ops : Array Oper} {o : Oper} {a : Act} {K : Act → World → Prop} {Q : Exit → Act → World → Prop} {E : Prop} {W : World} (wr : World) (hgd : o.guard = none) (mo xo : Operand)
    (ho : o.op = .call { callee := .builtin .delete, args := #[mo, xo], argTypes := #[119, 27] }) (hW : W.heap = wr.heap) (mb n k : Nat) (L : List Lh.Fl) (hm : a.eval mo = .map (some mb)) (hx : a.eval xo = .int .u64 (k : Nat)) (hown : wr.ownsMap Tryz.prog 27 flElem mb n (FD L)) (hk : k < 18446744073709551616)
    (h : ∀ w', w'.ownsMap Tryz.prog 27 flElem mb n (FD (L.filter fun y => !decide (y.1 = k))) → W.grownBy w' (some mb) → K (a.put o.dst (.tuple #[])) w') :
    if Region.wanted o (yielded ops a.tmps) = true then Oper.wp Tryz.prog o a W K Q else E := by
  have hw : Region.wanted o (yielded ops a.tmps) = true := by simp [Region.wanted, hgd]
  rw [if_pos hw]
  obtain ⟨w', hrun, r1, r2⟩ := (own_heap hown hW).drop u64Keyed Tryz.underlying119 (keyK k hk) o.type
  rw [FD_del] at r1
  unfold Oper.wp
  simp [execOp, ho, resolve, invoke, builtin, hm, hx, hrun, Result.andThen]
  exact h w' r1 r2.grown

set_option maxHeartbeats 4000000 in
theorem dropFirstF (h : FR W p mb t la L) (hk : Lh.FlOk L) (h0 : 0 < L.length) :
    Calls Tryz.prog 167 #[.pointer (some ⟨p, 0, none⟩)] W fun e W' => e = .returned (.tuple #[]) ∧ FR W' p mb t la (L.eraseIdx (Lh.fleast L)) ∧ Tur (FFt p mb) W W' := by
  have hlist := listF_any h hk.rise (Nat.le_trans hk.len (by omega))
  have H : Hid (FR W p mb t la L) := h
  have HK : Hid (Lh.FlOk L) := hk
  have hl : L.length ≤ 1000 := Nat.le_trans hk.len (by omega)
  clear h hk
  go_enter Tryz.func167, Tryz.ntmps167
  go_wp2_with fail
  refine hlist.mono ?_
  rintro e w1 ⟨v, rfl, ⟨hn, _⟩ | ⟨g, c, rfl, hc, hf, _, _⟩, hb1⟩
  · rw [hn] at h0
    simp at h0
  have hmin := minF g c L w1 h0 hl hf
  clear hlist hf hc
  go_wp2_with fail
  refine hmin.mono ?_
  rintro e w2 ⟨hx, rfl, hb2⟩
  have hbW : Below W.heap.size W w2 := below_then hb1 hb2
  obtain ⟨x, hxe⟩ : ∃ x, L[Lh.fleast L] = x := ⟨_, rfl⟩
  have HE : Hid ((L.filter fun y => !decide (y.1 = x.1)) = L.eraseIdx (Lh.fleast L)) := by
    have : (L.filter fun y => !decide (y.1 = x.1)) = L.eraseIdx (Lh.fleast L) := by rw [← hxe]; exact filter_erase HK.out.rise hx
    exact this
  have hkx : x.1 < 18446744073709551616 := by rw [← hxe]; exact HK.out.key _ (List.getElem_mem hx)
  have hkey := keyK x.1 hkx
  rw [hxe]
  have hb3 : Below W.heap.size W (w2.alloc (.cells #[.int .u64 (x.1 : Nat), .string x.2.1, .int .i64 x.2.2] 82)) := hbW.alloc hbW.size _
  have h3 := H.out.later hb3
  have own3 := h3.own
  have c2 := h3.c2
  have HB3 : Hid (Below W.heap.size W (w2.alloc (.cells #[.int .u64 (x.1 : Nat), .string x.2.1, .int .i64 x.2.2] 82))) := hb3
  have H3 : Hid (FR (w2.alloc (.cells #[.int .u64 (x.1 : Nat), .string x.2.1, .int .i64 x.2.2] 82)) p mb t la L) := h3
  clear hmin hb1 hb2 hbW hxe hx hb3 h3
  go_wp2_with fail
  have x0 : (w2.alloc (.cells #[.int .u64 (x.1 : Nat), .string x.2.1, .int .i64 x.2.2] 82)).cell? ⟨w2.heap.size, 0, none⟩ = some (.int .u64 (x.1 : Nat)) := by simp
  generalize w2.alloc (.cells #[.int .u64 (x.1 : Nat), .string x.2.1, .int .i64 x.2.2] 82) = w3 at *
  have HOWN : Hid (w3.ownsMap Tryz.prog 27 flElem mb L.length (FD L)) := own3
  clear own3 hkey
  go_region_law (first
    | (refine step_delF w3 rfl _ _ rfl rfl mb L.length x.1 L rfl rfl HOWN.out hkx ?_
       intro w4 hown4 hgr))
  all_goals
    rw [HE.out] at hown4
    obtain ⟨h4, hT⟩ := FR.turned (H3.out.later (below_drewN (Below.refl _ _) 1)) hgr hown4
    have HT : Hid (Tur (FFt p mb) W w4) := (Tur.of_below (below_then HB3.out (below_drewN (Below.refl _ _) 1))).trans hT fun b hb => Or.inl (Or.inr hb)
    go_end0
    exact ⟨rfl, h4, HT.out⟩
end
end Go.Proofs.YtmdckddenelneaaGreatDoor

/- The landed flows: Put. -/
namespace Go.Proofs.YtmdckddenelneaaGreatDoor
open Go.RowKit Go.Maps Go.ChangeMaps Go.Shelf
section
variable {W W' : World} {p mb t : Nat} {la : Int} {L : List Lh.Fl}

theorem FR.heap (h : FR W p mb t la L) (he : W'.heap = W.heap) : FR W' p mb t la L := h.stay fun b _ => by rw [he]
theorem Tur.heap {F : Nat → Prop} {w w1 w2 : World} (h : Tur F w w1) (hb : Below w1.heap.size w1 w2) : Tur F w w2 := h.behind hb
/-- the last step of Put -/
theorem FR.laid {w3 w4 : World} {M : List Lh.Fl} {n k : Nat} {s : ByteArray} {u : Int} {now : Int} (h : FR w3 p mb t now M) (hg : w3.grownBy w4 (some mb)) (hown : w4.ownsMap Tryz.prog 27 flElem mb n ((FD M).put (keyF k) (datF (k, s, u)))) : FR w4 p mb t now (Lh.flay (k, s, u) (M.filter fun y => !decide (y.1 = k))) ∧ Tur (fun b => b = mb) w3 w4 := by
  have e := FD_put M (k, s, u)
  rw [e] at hown
  exact h.turned hg hown

set_option maxHeartbeats 4000000 in
theorem putF_ok (a : Nat → Addr) (he : EF a W) (h : FR W p mb t la L) (hk : Lh.FlOk L) (ht : t ≤ 1000) (k : Nat) (hkk : k < 18446744073709551616) (s : ByteArray) (hs : s.size ≤ 300) (now : Int) (hok : TickOk la now) (hn : Lh.isNm s = true) :
    Calls Tryz.prog 118 #[.pointer (some ⟨p, 0, none⟩), .int .u64 (k : Nat), .string s, .int .i64 now] W fun e W' => e = .returned .nilIface ∧ FR W' p mb t now (Lh.fput t L k s now) ∧ Tur (FFt p mb) W W' := by
  have hchk := checkF_ok h now hok
  have H : Hid (FR W p mb t la L) := h
  have HE : Hid (EF a W) := he
  have HK : Hid (Lh.FlOk L) := hk
  have hwr : IntKind.i64.wrap (now + (t : Int)) = now + (t : Int) := by
    obtain ⟨h1, h2, h3⟩ := hok
    rw [IntKind.wrap_i64]; omega
  have hkey := keyK k hkk
  clear h he hk hok
  go_enter Tryz.func118, Tryz.ntmps118
  go_wp2_with fail
  refine hchk.mono ?_
  rintro e w1 ⟨rfl, hb1⟩
  have hnm := isNameF_any a (HE.out.later hb1) s hs
  rw [hn] at hnm
  clear hchk hn
  go_wp2_with fail
  refine hnm.mono ?_
  rintro e w2 ⟨rfl, hb2⟩
  have hbW : Below W.heap.size W w2 := below_then hb1 hb2
  have h2 := H.out.later hbW
  obtain ⟨h3, hT3⟩ := H.out.ticked hbW now
  have f1 := h2.fz 1
  have c1 := h2.c1
  have hhas := hasF_any h3 k hkk
  have H3 : Hid (FR (w2.setCell ⟨p, 1, none⟩ (.int .i64 now)) p mb t now L) := h3
  have HT3 : Hid (Tur (FFt p mb) W (w2.setCell ⟨p, 1, none⟩ (.int .i64 now))) := hT3
  clear hnm hb1 hb2 hbW h2 h3 hT3
  by_cases hx : Lh.fix L k < L.length
  · rw [decide_eq_true hx] at hhas
    have HR : Hid ((L.filter fun y => !decide (y.1 = k)) = Lh.frest L k) := put_plain HK.out.rise (Or.inl hx)
    clear hx
    go_wp2_with fail
    refine hhas.mono ?_
    rintro e w4 ⟨rfl, hb4⟩
    have h4 := H3.out.later hb4
    have H4 : Hid (FR w4 p mb t now L) := h4
    have HT4 : Hid (Tur (FFt p mb) W w4) := HT3.out.behind hb4
    have k0 := h4.c0
    have k2 := h4.c2
    have hl : L.length < maxLen := by have := HK.out.len; unfold maxLen; omega
    obtain ⟨w5, hrun, own5, hg5⟩ := (own_heap h4.own (w' := w4.drew) rfl).store u64Keyed Tryz.underlying119 hl hkey (flElem_mk (k, s, now + (t : Int)))
    clear hhas hb4 h4 f1 c1
    unfold valF at hrun
    go_wp2_with fail
    go_region
    go_wp2
    go_ret
    obtain ⟨h6, hT6⟩ := (H4.out.heap (W' := w4.drew) rfl).laid hg5.grown own5
    rw [HR.out] at h6
    exact ⟨rfl, h6, (HT4.out.behind (below_drewN (Below.refl _ _) 1)).trans hT6 fun b hb => Or.inl (Or.inr hb)⟩
  · rw [decide_eq_false hx] at hhas
    by_cases hl2 : 200 ≤ L.length
    · have HR : Hid (((L.eraseIdx (Lh.fleast L)).filter fun y => !decide (y.1 = k)) = Lh.frest L k) := put_full hx hl2
      clear hx
      go_wp2_with fail
      refine hhas.mono ?_
      rintro e w3 ⟨rfl, hb3⟩
      have h3 := H3.out.later hb3
      have hfull := fullF_any h3
      rw [decide_eq_true hl2] at hfull
      have H3' : Hid (FR w3 p mb t now L) := h3
      have HT3' : Hid (Tur (FFt p mb) W w3) := HT3.out.behind hb3
      clear hhas h3 hb3
      go_wp2_with fail
      refine hfull.mono ?_
      rintro e w3' ⟨rfl, hb3⟩
      have h3 := H3'.out.later hb3
      have hdf := dropFirstF h3 HK.out (by omega)
      have HT3'' : Hid (Tur (FFt p mb) W w3') := HT3'.out.behind hb3
      clear hfull h3 hb3 f1 c1
      go_wp2_with fail
      refine hdf.mono ?_
      rintro e w4 ⟨rfl, h4, hT4⟩
      have H4 : Hid (FR w4 p mb t now (L.eraseIdx (Lh.fleast L))) := h4
      have HT4 : Hid (Tur (FFt p mb) W w4) := HT3''.out.trans hT4 fun b hb => Or.inl hb
      have k0 := h4.c0
      have k2 := h4.c2
      have hl : (L.eraseIdx (Lh.fleast L)).length < maxLen := by
        have := HK.out.len
        have := (List.eraseIdx_sublist L (Lh.fleast L)).length_le
        unfold maxLen; omega
      obtain ⟨w5, hrun, own5, hg5⟩ := (own_heap h4.own (w' := w4.drew) rfl).store u64Keyed Tryz.underlying119 hl hkey (flElem_mk (k, s, now + (t : Int)))
      clear hdf h4 hT4 hl hl2
      unfold valF at hrun
      go_wp2_with fail
      go_region
      go_wp2
      go_ret
      obtain ⟨h6, hT6⟩ := (H4.out.heap (W' := w4.drew) rfl).laid hg5.grown own5
      rw [HR.out] at h6
      exact ⟨rfl, h6, (HT4.out.behind (below_drewN (Below.refl _ _) 1)).trans hT6 fun b hb => Or.inl (Or.inr hb)⟩
    · have HR : Hid ((L.filter fun y => !decide (y.1 = k)) = Lh.frest L k) := put_plain HK.out.rise (Or.inr (by omega))
      clear hx
      go_wp2_with fail
      refine hhas.mono ?_
      rintro e w3 ⟨rfl, hb3⟩
      have h3 := H3.out.later hb3
      have hfull := fullF_any h3
      rw [decide_eq_false hl2] at hfull
      have H3' : Hid (FR w3 p mb t now L) := h3
      have HT3' : Hid (Tur (FFt p mb) W w3) := HT3.out.behind hb3
      clear hhas h3 hb3
      go_wp2_with fail
      refine hfull.mono ?_
      rintro e w4 ⟨rfl, hb4⟩
      have h4 := H3'.out.later hb4
      have H4 : Hid (FR w4 p mb t now L) := h4
      have HT4 : Hid (Tur (FFt p mb) W w4) := HT3'.out.behind hb4
      have k0 := h4.c0
      have k2 := h4.c2
      have hl : L.length < maxLen := by have := HK.out.len; unfold maxLen; omega
      obtain ⟨w5, hrun, own5, hg5⟩ := (own_heap h4.own (w' := w4.drew) rfl).store u64Keyed Tryz.underlying119 hl hkey (flElem_mk (k, s, now + (t : Int)))
      clear hfull hb4 h4 f1 c1
      unfold valF at hrun
      go_wp2_with fail
      go_region
      go_wp2
      go_ret
      obtain ⟨h6, hT6⟩ := (H4.out.heap (W' := w4.drew) rfl).laid hg5.grown own5
      rw [HR.out] at h6
      exact ⟨rfl, h6, (HT4.out.behind (below_drewN (Below.refl _ _) 1)).trans hT6 fun b hb => Or.inl (Or.inr hb)⟩
end
end Go.Proofs.YtmdckddenelneaaGreatDoor

/- The landed balance: Flows, as the laws ask it. -/
namespace Go.Proofs.YtmdckddenelneaaGreatDoor
open Go.RowKit Go.Shelf Go.Maps Go.ChangeMaps

section
variable {W W' : World} {p hp fp fm db : Nat} {bs : List Nat} {lv : Value} {S : Lh.Bl}
set_option maxHeartbeats 1000000 in
/-- Flows. -/
theorem flowsB (h : BR W p hp fp fm db bs lv S) (hk : Lh.BOk S) :
    Calls Tryz.prog 21 #[.pointer (some ⟨p, 0, none⟩)] W fun e w' => ∃ v, e = .returned v ∧ FlowsNew W.heap.size w' v S.L ∧ Below W.heap.size W w' := by
  have hl := hk.ok.len
  have hli : Calls Tryz.prog 38 #[.pointer (some ⟨fp, 0, none⟩)] W fun e w' => ∃ v, e = .returned v ∧ FlowsNew W.heap.size w' v S.L ∧ Below W.heap.size W w' := (listF_any h.f hk.ok.rise (by omega)).mono fun e w' ⟨v, q1, q2, q3⟩ => ⟨v, q1, by
    rcases q2 with q2 | ⟨g, c, e1, e2, e3, e4, e5⟩
    · exact Or.inl q2
    · exact Or.inr ⟨g, c, e1, e2, e4, e3, e5⟩, q3⟩
  have c2 := h.c2
  clear h hk
  go_enter Tryz.func21, Tryz.ntmps21
  go_wp2_with fail
  refine hli.mono ?_
  rintro e w1 ⟨v, rfl, hv, hb⟩
  have HV : Hid (FlowsNew W.heap.size w1 v S.L) := hv
  obtain ⟨q, c, rfl⟩ := hv.flows.shape
  clear hli hv c2
  go_wp2
  go_ret
  exact ⟨_, rfl, HV.out, hb⟩
end
end Go.Proofs.YtmdckddenelneaaGreatDoor

/- The landed balance: Drain, Epoch. -/

namespace Go.Proofs.YtmdckddenelneaaGreatDoor
open Go.RowKit Go.Shelf Go.Maps Go.ChangeMaps

theorem Tur.of_grown {w w' : World} {b : Nat} (h : w.grownBy w' (some b)) : Tur (fun k => k = b) w w' := ⟨h.os, h.tape, h.output, h.size, fun k hk hne => h.block k hk fun e => hne (Option.some.inj e)⟩
section
variable {W W' : World} {p hp fp fm db : Nat} {bs : List Nat} {lv : Value} {S : Lh.Bl}
set_option maxHeartbeats 1000000 in
/-- Epoch. -/
theorem epochB (h : BR W p hp fp fm db bs lv S) :
    Calls Tryz.prog 24 #[.pointer (some ⟨p, 0, none⟩)] W fun e w' => e = .returned (.int .i64 S.ep) ∧ Below W.heap.size W w' := by
  have c4 := h.c4
  clear h
  go_enter Tryz.func24, Tryz.ntmps24
  go_wp2
  go_ret
  exact ⟨rfl, Below.refl _ _⟩

set_option maxHeartbeats 1000000 in
theorem drain_none (a : Nat → Addr) (he : Errs4 a W) (h : BR W p hp fp fm db bs lv S) (hl : S.hs.length ≤ 12) (s : ByteArray) (is : Bool) (hx : ¬ Lh.hix S.hs s < S.hs.length) :
    Calls Tryz.prog 84 #[.pointer (some ⟨p, 0, none⟩), .string s, .bool is] W fun e w' => e = .returned (.iface 331 (.pointer (some (a 4)))) ∧ Below W.heap.size W w' := by
  have hhas := hasS_any h.h hl s
  rw [decide_eq_false hx] at hhas
  have HE : Hid (Errs4 a W) := he
  have c0 := h.c0
  clear h hx he
  go_enter Tryz.func84, Tryz.ntmps84
  go_wp2_with fail
  refine hhas.mono ?_
  rintro e w1 ⟨rfl, hb1⟩
  have s4 := (HE.out.later hb1).s4
  clear hhas c0
  go_wp2
  go_ret
  exact ⟨rfl, hb1⟩

set_option maxHeartbeats 2000000 in
theorem drain_good (h : BR W p hp fp fm db bs lv S) (hk : Lh.BOk S) (s : ByteArray) (is : Bool) (hx : Lh.hix S.hs s < S.hs.length) :
    Calls Tryz.prog 84 #[.pointer (some ⟨p, 0, none⟩), .string s, .bool is] W fun e w' => e = .returned .nilIface ∧ BR w' p hp fp fm db bs lv { S with dr := Lh.bdrain S.dr s is } ∧ Tur (fun b => b = db) W w' := by
  have hhas := hasS_any h.h hk.h.len s
  rw [decide_eq_true hx] at hhas
  have hs : s.size ≤ 300 := by
    have h1 := hk.h.size _ (List.getElem_mem hx)
    rwa [Lh.hix_get hx] at h1
  have hkey := fkeyS s hs
  have c0 := h.c0
  have hdl : S.dr.length < maxLen := by
    have := h.drLen hk.h.len
    unfold maxLen
    omega
  have HH : Hid (BR W p hp fp fm db bs lv S) := h
  have HD : Hid (∀ z ∈ Lh.bdrain S.dr s is, Lh.hix S.hs z < S.hs.length) := fun z hz => by
    rcases bdrain_mem.1 hz with ⟨h1, _⟩ | ⟨_, rfl⟩
    · exact h.dh z h1
    · exact hx
  clear h hk hx hs
  go_enter Tryz.func84, Tryz.ntmps84
  go_wp2_with fail
  refine hhas.mono ?_
  rintro e w1 ⟨rfl, hb1⟩
  have hB := HH.out.later hb1
  have c1 := hB.c1
  obtain ⟨D, hown, hset⟩ := hB.d
  have htd := hown.tidy (string_keyed Tryz.underlying9)
  have HB : Hid (BR w1 p hp fp fm db bs lv S) := hB
  have HB1 : Hid (Below W.heap.size W w1) := hb1
  have HSET : Hid (SetN D S.dr) := hset
  have HTD : Hid (Tidy D) := htd
  clear hhas c0 hB hset htd hb1
  cases is with
  | true =>
    go_wp2_with (at_mapUpdate; refine wpList_mapUpdate_own _ rfl _ _ _ 84 rfl 9 204 (string_keyed Tryz.underlying9) Tryz.underlying84 unitElem db S.dr.length D rfl hown hdl _ _ _ rfl rfl hkey (.agg []) [] unitElem_mk ?_; intro w3 hown3 hgr3)
    go_ret
    have hs3 := HSET.out.put HTD.out HB.out.dn s
    have ht3 := Tur.of_grown hgr3
    have ho3 := ownsMap_tight hown3
    rw [hs3.2.1] at ho3
    exact ⟨rfl, HB.out.map ht3 (bdrain_nodup HB.out.dn s true) HD.out ⟨_, ho3, hs3⟩, (Tur.of_below (F := fun b => b = db) HB1.out).trans ht3 fun b hb => Or.inl hb⟩
  | false =>
    go_wp2_with (at_delete; refine wpList_delete_own _ rfl _ _ 84 9 rfl 204 (string_keyed Tryz.underlying9) Tryz.underlying84 unitElem db S.dr.length D rfl hown _ _ rfl hkey ?_; intro w3 hown3 hgr3)
    go_ret
    have hs3 := HSET.out.del HTD.out HB.out.dn s hown3.isMap
    have ht3 := Tur.of_grown hgr3.grown
    have ho3 := ownsMap_tight hown3
    rw [hs3.2.1] at ho3
    exact ⟨rfl, HB.out.map ht3 (bdrain_nodup HB.out.dn s false) HD.out ⟨_, ho3, hs3⟩, (Tur.of_below (F := fun b => b = db) HB1.out).trans ht3 fun b hb => Or.inl hb⟩
end
end Go.Proofs.YtmdckddenelneaaGreatDoor

/- What is carried over, as lists of bytes: cutting, numbers, sums. -/
namespace Go.Proofs.YtmdckddenelneaaGreatDoor
namespace Lh

/-- a text cut by a byte -/
def cutL (y : UInt8) : List UInt8 → List (List UInt8)
  | [] => [[]]
  | c :: cs => if c = y then [] :: cutL y cs else match cutL y cs with
    | [] => [[c]]
    | w :: ws => (c :: w) :: ws
/-- texts put together by a byte -/
def joinL (y : UInt8) : List (List UInt8) → List UInt8
  | [] => []
  | [w] => w
  | w :: v :: ws => w ++ y :: joinL y (v :: ws)
theorem cutL_cons (y c : UInt8) (cs : List UInt8) : cutL y (c :: cs) = if c = y then [] :: cutL y cs else match cutL y cs with
    | [] => [[c]]
    | w :: ws => (c :: w) :: ws := rfl
theorem cutL_ne (y : UInt8) : ∀ l, cutL y l ≠ []
  | [] => by simp [cutL]
  | c :: cs => by
    unfold cutL
    split
    · simp
    · split <;> simp
theorem cutL_some (y : UInt8) (l : List UInt8) : ∃ w ws, cutL y l = w :: ws := by
  cases h : cutL y l with
  | nil => exact absurd h (cutL_ne y l)
  | cons w ws => exact ⟨w, ws, rfl⟩
theorem cut_join (y : UInt8) : ∀ l, joinL y (cutL y l) = l
  | [] => rfl
  | c :: cs => by
    have ih := cut_join y cs
    obtain ⟨w, ws, e⟩ := cutL_some y cs
    unfold cutL
    rw [e] at ih ⊢
    split
    · rename_i h
      subst h
      show [] ++ c :: joinL c (w :: ws) = _
      rw [ih]
      rfl
    · cases ws with
      | nil =>
        show c :: w = _
        have : w = cs := ih
        rw [this]
      | cons v vs =>
        show (c :: w) ++ y :: joinL y (v :: vs) = _
        have : w ++ y :: joinL y (v :: vs) = cs := ih
        rw [List.cons_append, this]
theorem cutL_word {y : UInt8} : ∀ {w : List UInt8}, y ∉ w → cutL y w = [w]
  | [], _ => rfl
  | c :: w, h => by
    simp only [List.mem_cons, not_or] at h
    have ih := cutL_word h.2
    unfold cutL
    rw [ih, if_neg (fun e => h.1 e.symm)]
/-- a digit -/
def digU (d : Nat) : UInt8 := UInt8.ofNat (48 + d)
/-- digits of a number -/
def decL (n : Nat) : List UInt8 := if _h : n < 10 then [digU n] else decL (n / 10) ++ [digU (n % 10)]
  termination_by n
  decreasing_by omega
def isDg (c : UInt8) : Bool := decide (48 ≤ c.toNat) && decide (c.toNat ≤ 57)
/-- the number of digits, whatever they are -/
def valL (l : List UInt8) : Nat := l.foldl (fun n c => 10 * n + (c.toNat - 48)) 0
/-- the number that a text is (none: it is none) -/
def numL (l : List UInt8) : Option Nat := if l = [] ∨ 14 < l.length ∨ (1 < l.length ∧ l.head? = some 48) ∨ l.all isDg = false then none else some (valL l)
theorem digU_nat {d : Nat} (h : d < 10) : (digU d).toNat = 48 + d := by
  unfold digU
  rw [UInt8.toNat_ofNat']
  omega
theorem digU_is {d : Nat} (h : d < 10) : isDg (digU d) = true := by
  unfold isDg
  rw [digU_nat h]
  simp
  omega
theorem digU_inv {c : UInt8} (h : isDg c = true) : digU (c.toNat - 48) = c := by
  unfold isDg at h
  simp at h
  unfold digU
  have : 48 + (c.toNat - 48) = c.toNat := by omega
  rw [this]
  simp
theorem valL_snoc (l : List UInt8) (c : UInt8) : valL (l ++ [c]) = 10 * valL l + (c.toNat - 48) := by simp [valL, List.foldl_append]
theorem decL_small {n : Nat} (h : n < 10) : decL n = [digU n] := by
  rw [decL, dif_pos h]
theorem decL_big {n : Nat} (h : ¬ n < 10) : decL n = decL (n / 10) ++ [digU (n % 10)] := by
  rw [decL, dif_neg h]
theorem decL_ne (n : Nat) : decL n ≠ [] := by
  by_cases h : n < 10
  · rw [decL_small h]; simp
  · rw [decL_big h]; simp
theorem decL_val (n : Nat) : valL (decL n) = n := by
  induction n using Nat.strongRecOn with
  | _ n ih =>
    by_cases h : n < 10
    · rw [decL_small h]
      simp [valL, digU_nat h]
    · rw [decL_big h, valL_snoc, ih (n / 10) (by omega), digU_nat (Nat.mod_lt _ (by decide))]
      omega
theorem decL_dig (n : Nat) : (decL n).all isDg = true := by
  induction n using Nat.strongRecOn with
  | _ n ih =>
    by_cases h : n < 10
    · rw [decL_small h]
      simp [digU_is h]
    · rw [decL_big h, List.all_append, ih (n / 10) (by omega)]
      simp [digU_is (Nat.mod_lt n (show 0 < 10 by decide))]
theorem decL_head (n : Nat) (h : 0 < n) : (decL n).head? ≠ some 48 := by
  induction n using Nat.strongRecOn with
  | _ n ih =>
    by_cases h9 : n < 10
    · rw [decL_small h9]
      intro e
      have e2 : digU n = 48 := by simpa using e
      have := digU_nat h9
      rw [e2] at this
      have h48 : (48 : UInt8).toNat = 48 := rfl
      omega
    · rw [decL_big h9]
      have := ih (n / 10) (by omega) (by omega)
      intro e
      apply this
      rw [List.head?_append] at e
      cases hd : (decL (n / 10)).head? with
      | none => exact absurd (List.head?_eq_none_iff.1 hd) (decL_ne _)
      | some c => rw [hd] at e; exact e
theorem decL_len {n k : Nat} (hk : 0 < k) (h : n < 10 ^ k) : (decL n).length ≤ k := by
  induction k generalizing n with
  | zero => omega
  | succ k ih =>
    by_cases h9 : n < 10
    · rw [decL_small h9]; simp
    · rw [decL_big h9, List.length_append]
      have hk0 : 0 < k := by
        rcases Nat.eq_zero_or_pos k with rfl | h0
        · simp at h; omega
        · exact h0
      have h2 : n / 10 < 10 ^ k := by
        rw [Nat.pow_succ] at h
        omega
      have := ih hk0 h2
      simp
      omega
theorem numL_dec {n : Nat} (h : n < 10 ^ 14) : numL (decL n) = some n := by
  unfold numL
  rw [if_neg, decL_val]
  rintro (e | e | ⟨e1, e2⟩ | e)
  · exact decL_ne n e
  · have := decL_len (by decide) h
    omega
  · rcases Nat.eq_zero_or_pos n with rfl | h0
    · rw [decL_small (by decide)] at e1
      simp at e1
    · exact decL_head n h0 e2
  · rw [decL_dig] at e
    cases e
theorem dec_valL : ∀ {l : List UInt8}, l ≠ [] → l.all isDg = true → (1 < l.length → l.head? ≠ some 48) → decL (valL l) = l := by
  intro l
  induction hn : l.length generalizing l with
  | zero => intro h; exact absurd (List.eq_nil_of_length_eq_zero hn) h
  | succ n ih =>
    intro hne hd hh
    obtain ⟨m, c, rfl⟩ : ∃ m c, l = m ++ [c] := ⟨l.dropLast, l.getLast hne, (List.dropLast_concat_getLast hne).symm⟩
    rw [List.all_append] at hd
    simp at hd
    have hm : m.all isDg = true := by simpa using hd.1
    have hcd := hd.2
    have hcb : c.toNat - 48 < 10 := by
      unfold isDg at hcd
      simp at hcd
      omega
    rw [valL_snoc]
    by_cases hm0 : m = []
    · subst hm0
      simp only [valL, List.foldl_nil, List.nil_append]
      rw [decL_small (by omega)]
      simp [digU_inv hcd]
    · have hlm : m.length = n := by simp at hn; exact hn
      have hmp : 0 < m.length := List.length_pos_iff.2 hm0
      have hhd : m.head? ≠ some 48 := by
        intro e
        refine hh (by simp; omega) ?_
        rw [List.head?_append, e]
        rfl
      have hv := ih hlm hm0 hm (fun _ => hhd)
      have hpos : 0 < valL m := by
        rcases Nat.eq_zero_or_pos (valL m) with e | e
        · rw [e, decL_small (by decide)] at hv
          rw [← hv] at hhd
          exact absurd rfl hhd
        · exact e
      rw [decL_big (by omega), show (10 * valL m + (c.toNat - 48)) / 10 = valL m by omega, show (10 * valL m + (c.toNat - 48)) % 10 = c.toNat - 48 by omega, hv, digU_inv hcd]
theorem numL_inv {l : List UInt8} {n : Nat} (h : numL l = some n) : decL n = l := by
  unfold numL at h
  split at h
  · cases h
  · rename_i hc
    simp only [not_or] at hc
    obtain rfl := Option.some.inj h
    refine dec_valL hc.1 ?_ fun h1 e => hc.2.2.1 ⟨h1, e⟩
    cases e : l.all isDg with
    | true => rfl
    | false => exact absurd e hc.2.2.2
end Lh
end Go.Proofs.YtmdckddenelneaaGreatDoor
