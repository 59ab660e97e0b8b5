/- The landed flows: dropFirst, Put. -/
import Derived.Test.YtmkdpchodeckgaaDoorM14
import Derived.Test.YtmkdpchodeckgaaDoorFlL4
import Derived.Deep.RegionLaw
import Derived.BigRegion
namespace Go.Proofs.YtmkdpchodeckgaaDoor
open Go.RowKit Go.Maps Go.ChangeMaps Go.Shelf
section
variable {W W' : World} {p mb t : Nat} {la : Int} {L : List Lh.Fl}

/-- a map that has turned, and nothing else that lay -/
theorem FR.turned {w1 w2 : World} {M : List Lh.Fl} {n : Nat} (h : FR w1 p mb t la L) (hg : w1.grownBy w2 (some mb)) (hown : w2.ownsMap Tryd.prog 32 flElem mb n (FD M)) : FR w2 p mb t la M ∧ Tur (fun b => b = mb) w1 w2 := by
  have hT : Tur (fun b => b = mb) w1 w2 := ⟨hg.os, hg.tape, hg.output, hg.size, fun k hk hne => hg.block k hk (fun e => hne (by cases e; rfl))⟩
  have hpb : w2.heap[p]? = w1.heap[p]? := hT.block p h.plt h.ne
  have own2 := ownsMap_tight hown
  rw [FD_size] at own2
  exact ⟨⟨(World.cell?_of_block (w := w1) (w' := w2) (a := ⟨p, 0, none⟩) hpb).trans h.c0, (World.cell?_of_block (w := w1) (w' := w2) (a := ⟨p, 1, none⟩) hpb).trans h.c1, (World.cell?_of_block (w := w1) (w' := w2) (a := ⟨p, 2, none⟩) hpb).trans h.c2, fun k => (World.frozen?_of_block (w := w1) (w' := w2) (a := ⟨p, k, none⟩) hpb).trans (h.fz k), own2, h.ne⟩, hT⟩

theorem own_heap {w w' : World} {b n : Nat} {D : DataW Unit} (h : w.ownsMap Tryd.prog 32 flElem b n D) (he : w'.heap = w.heap) : w'.ownsMap Tryd.prog 32 flElem b n D := by
  obtain ⟨es, clock, hb, r⟩ := h
  exact ⟨es, clock, by rw [he]; exact hb, r⟩
/-- delete, as one step of a region that draws -/
theorem step_delF {ops : Array Oper} {o : Oper} {a : Act} {K : Act → World → Prop} {Q : Exit → Act → World → Prop} {E : Prop} {W : World} (wr : World) (hgd : o.guard = none) (mo xo : Operand)
    (ho : o.op = .call { callee := .builtin .delete, args := #[mo, xo], argTypes := #[71, 32] }) (hW : W.heap = wr.heap) (mb n k : Nat) (L : List Lh.Fl) (hm : a.eval mo = .map (some mb)) (hx : a.eval xo = .int .u64 (k : Nat)) (hown : wr.ownsMap Tryd.prog 32 flElem mb n (FD L)) (hk : k < 18446744073709551616)
    (h : ∀ w', w'.ownsMap Tryd.prog 32 flElem mb n (FD (L.filter fun y => !decide (y.1 = k))) → W.grownBy w' (some mb) → K (a.put o.dst (.tuple #[])) w') :
    if Region.wanted o (yielded ops a.tmps) = true then Oper.wp Tryd.prog o a W K Q else E := by
  have hw : Region.wanted o (yielded ops a.tmps) = true := by simp [Region.wanted, hgd]
  rw [if_pos hw]
  obtain ⟨w', hrun, r1, r2⟩ := (own_heap hown hW).drop u64Keyed Tryd.underlying71 (keyK k hk) o.type
  rw [FD_del] at r1
  unfold Oper.wp
  simp [execOp, ho, resolve, invoke, builtin, hm, hx, hrun, Result.andThen]
  exact h w' r1 r2.grown

set_option maxHeartbeats 4000000 in
theorem dropFirstF (h : FR W p mb t la L) (hk : Lh.FlOk L) (h0 : 0 < L.length) :
    Calls Tryd.prog 34 #[.pointer (some ⟨p, 0, none⟩)] W fun e W' => e = .returned (.tuple #[]) ∧ FR W' p mb t la (L.eraseIdx (Lh.fleast L)) ∧ Tur (FFt p mb) W W' := by
  have hlist := listF_any h hk.rise (Nat.le_trans hk.len (by omega))
  have H : Hid (FR W p mb t la L) := h
  have HK : Hid (Lh.FlOk L) := hk
  have hl : L.length ≤ 1000 := Nat.le_trans hk.len (by omega)
  clear h hk
  go_enter Tryd.func34, Tryd.ntmps34
  go_wp2_with fail
  refine hlist.mono ?_
  rintro e w1 ⟨v, rfl, ⟨hn, _⟩ | ⟨g, c, rfl, hc, hf, _, _⟩, hb1⟩
  · rw [hn] at h0
    simp at h0
  have hmin := minF g c L w1 h0 hl hf
  clear hlist hf hc
  go_wp2_with fail
  refine hmin.mono ?_
  rintro e w2 ⟨hx, rfl, hb2⟩
  have hbW : Below W.heap.size W w2 := below_then hb1 hb2
  obtain ⟨x, hxe⟩ : ∃ x, L[Lh.fleast L] = x := ⟨_, rfl⟩
  have HE : Hid ((L.filter fun y => !decide (y.1 = x.1)) = L.eraseIdx (Lh.fleast L)) := by
    have : (L.filter fun y => !decide (y.1 = x.1)) = L.eraseIdx (Lh.fleast L) := by rw [← hxe]; exact filter_erase HK.out.rise hx
    exact this
  have hkx : x.1 < 18446744073709551616 := by rw [← hxe]; exact HK.out.key _ (List.getElem_mem hx)
  have hkey := keyK x.1 hkx
  rw [hxe]
  have hb3 : Below W.heap.size W (w2.alloc (.cells #[.int .u64 (x.1 : Nat), .string x.2.1, .int .i64 x.2.2] 75)) := hbW.alloc hbW.size _
  have h3 := H.out.later hb3
  have own3 := h3.own
  have c2 := h3.c2
  have HB3 : Hid (Below W.heap.size W (w2.alloc (.cells #[.int .u64 (x.1 : Nat), .string x.2.1, .int .i64 x.2.2] 75))) := hb3
  have H3 : Hid (FR (w2.alloc (.cells #[.int .u64 (x.1 : Nat), .string x.2.1, .int .i64 x.2.2] 75)) p mb t la L) := h3
  clear hmin hb1 hb2 hbW hxe hx hb3 h3
  go_wp2_with fail
  have x0 : (w2.alloc (.cells #[.int .u64 (x.1 : Nat), .string x.2.1, .int .i64 x.2.2] 75)).cell? ⟨w2.heap.size, 0, none⟩ = some (.int .u64 (x.1 : Nat)) := by simp
  generalize w2.alloc (.cells #[.int .u64 (x.1 : Nat), .string x.2.1, .int .i64 x.2.2] 75) = w3 at *
  have HOWN : Hid (w3.ownsMap Tryd.prog 32 flElem mb L.length (FD L)) := own3
  clear own3 hkey
  go_region_law (first
    | (refine step_delF w3 rfl _ _ rfl rfl mb L.length x.1 L rfl rfl HOWN.out hkx ?_
       intro w4 hown4 hgr))
  all_goals
    rw [HE.out] at hown4
    obtain ⟨h4, hT⟩ := FR.turned (H3.out.later (below_drewN (Below.refl _ _) 1)) hgr hown4
    have HT : Hid (Tur (FFt p mb) W w4) := (Tur.of_below (below_then HB3.out (below_drewN (Below.refl _ _) 1))).trans hT fun b hb => Or.inl (Or.inr hb)
    go_end0
    exact ⟨rfl, h4, HT.out⟩
end
end Go.Proofs.YtmkdpchodeckgaaDoor

/- The landed flows: Put. -/
namespace Go.Proofs.YtmkdpchodeckgaaDoor
open Go.RowKit Go.Maps Go.ChangeMaps Go.Shelf
section
variable {W W' : World} {p mb t : Nat} {la : Int} {L : List Lh.Fl}

set_option maxHeartbeats 2000000 in
theorem putF_bad (a : Nat → Addr) (he : EF a W) (h : FR W p mb t la L) (k : Nat) (s : ByteArray) (now : Int) (j : Nat) (hf : TickF la now j) :
    Calls Tryd.prog 17 #[.pointer (some ⟨p, 0, none⟩), .int .u64 (k : Nat), .string s, .int .i64 now] W fun e W' => e = .returned (.iface 142 (.pointer (some (a j)))) ∧ Below W.heap.size W W' := by
  have hchk := checkF_bad a he h now j hf
  clear h he
  go_enter Tryd.func17, Tryd.ntmps17
  go_wp2_with fail
  refine hchk.mono ?_
  rintro e w1 ⟨rfl, hb1⟩
  clear hchk
  go_wp2
  go_ret
  exact ⟨rfl, hb1⟩

set_option maxHeartbeats 2000000 in
theorem putF_name (a : Nat → Addr) (he : EF a W) (h : FR W p mb t la L) (k : Nat) (s : ByteArray) (hs : s.size ≤ 300) (now : Int) (hok : TickOk la now) (hn : Lh.isNm s = false) :
    Calls Tryd.prog 17 #[.pointer (some ⟨p, 0, none⟩), .int .u64 (k : Nat), .string s, .int .i64 now] W fun e W' => e = .returned (.iface 142 (.pointer (some (a 3)))) ∧ Below W.heap.size W W' := by
  have hchk := checkF_ok h now hok
  have HE : Hid (EF a W) := he
  clear h he
  go_enter Tryd.func17, Tryd.ntmps17
  go_wp2_with fail
  refine hchk.mono ?_
  rintro e w1 ⟨rfl, hb1⟩
  have hnm := isNameF_any a (HE.out.later hb1) s hs
  rw [hn] at hnm
  clear hchk hn
  go_wp2_with fail
  refine hnm.mono ?_
  rintro e w2 ⟨rfl, hb2⟩
  have hbW : Below W.heap.size W w2 := below_then hb1 hb2
  have s3 := (HE.out.later hbW).e4.s3
  clear hnm
  go_wp2
  go_ret
  exact ⟨rfl, hbW⟩

theorem FR.heap (h : FR W p mb t la L) (he : W'.heap = W.heap) : FR W' p mb t la L := h.stay fun b _ => by rw [he]
theorem Tur.heap {F : Nat → Prop} {w w1 w2 : World} (h : Tur F w w1) (hb : Below w1.heap.size w1 w2) : Tur F w w2 := h.behind hb
/-- the last step of Put -/
theorem FR.laid {w3 w4 : World} {M : List Lh.Fl} {n k : Nat} {s : ByteArray} {u : Int} {now : Int} (h : FR w3 p mb t now M) (hg : w3.grownBy w4 (some mb)) (hown : w4.ownsMap Tryd.prog 32 flElem mb n ((FD M).put (keyF k) (datF (k, s, u)))) : FR w4 p mb t now (Lh.flay (k, s, u) (M.filter fun y => !decide (y.1 = k))) ∧ Tur (fun b => b = mb) w3 w4 := by
  have e := FD_put M (k, s, u)
  rw [e] at hown
  exact h.turned hg hown

set_option maxHeartbeats 4000000 in
theorem putF_ok (a : Nat → Addr) (he : EF a W) (h : FR W p mb t la L) (hk : Lh.FlOk L) (ht : t ≤ 1000) (k : Nat) (hkk : k < 18446744073709551616) (s : ByteArray) (hs : s.size ≤ 300) (now : Int) (hok : TickOk la now) (hn : Lh.isNm s = true) :
    Calls Tryd.prog 17 #[.pointer (some ⟨p, 0, none⟩), .int .u64 (k : Nat), .string s, .int .i64 now] W fun e W' => e = .returned .nilIface ∧ FR W' p mb t now (Lh.fput t L k s now) ∧ Tur (FFt p mb) W W' := by
  have hchk := checkF_ok h now hok
  have H : Hid (FR W p mb t la L) := h
  have HE : Hid (EF a W) := he
  have HK : Hid (Lh.FlOk L) := hk
  have hwr : IntKind.i64.wrap (now + (t : Int)) = now + (t : Int) := by
    obtain ⟨h1, h2, h3⟩ := hok
    rw [IntKind.wrap_i64]; omega
  have hkey := keyK k hkk
  clear h he hk hok
  go_enter Tryd.func17, Tryd.ntmps17
  go_wp2_with fail
  refine hchk.mono ?_
  rintro e w1 ⟨rfl, hb1⟩
  have hnm := isNameF_any a (HE.out.later hb1) s hs
  rw [hn] at hnm
  clear hchk hn
  go_wp2_with fail
  refine hnm.mono ?_
  rintro e w2 ⟨rfl, hb2⟩
  have hbW : Below W.heap.size W w2 := below_then hb1 hb2
  have h2 := H.out.later hbW
  obtain ⟨h3, hT3⟩ := H.out.ticked hbW now
  have f1 := h2.fz 1
  have c1 := h2.c1
  have hhas := hasF_any h3 k hkk
  have H3 : Hid (FR (w2.setCell ⟨p, 1, none⟩ (.int .i64 now)) p mb t now L) := h3
  have HT3 : Hid (Tur (FFt p mb) W (w2.setCell ⟨p, 1, none⟩ (.int .i64 now))) := hT3
  clear hnm hb1 hb2 hbW h2 h3 hT3
  by_cases hx : Lh.fix L k < L.length
  · rw [decide_eq_true hx] at hhas
    have HR : Hid ((L.filter fun y => !decide (y.1 = k)) = Lh.frest L k) := put_plain HK.out.rise (Or.inl hx)
    clear hx
    go_wp2_with fail
    refine hhas.mono ?_
    rintro e w4 ⟨rfl, hb4⟩
    have h4 := H3.out.later hb4
    have H4 : Hid (FR w4 p mb t now L) := h4
    have HT4 : Hid (Tur (FFt p mb) W w4) := HT3.out.behind hb4
    have k0 := h4.c0
    have k2 := h4.c2
    have hl : L.length < maxLen := by have := HK.out.len; unfold maxLen; omega
    obtain ⟨w5, hrun, own5, hg5⟩ := (own_heap h4.own (w' := w4.drew) rfl).store u64Keyed Tryd.underlying71 hl hkey (flElem_mk (k, s, now + (t : Int)))
    clear hhas hb4 h4 f1 c1
    unfold valF at hrun
    go_wp2_with fail
    go_region
    go_wp2
    go_ret
    obtain ⟨h6, hT6⟩ := (H4.out.heap (W' := w4.drew) rfl).laid hg5.grown own5
    rw [HR.out] at h6
    exact ⟨rfl, h6, (HT4.out.behind (below_drewN (Below.refl _ _) 1)).trans hT6 fun b hb => Or.inl (Or.inr hb)⟩
  · rw [decide_eq_false hx] at hhas
    by_cases hl2 : 200 ≤ L.length
    · have HR : Hid (((L.eraseIdx (Lh.fleast L)).filter fun y => !decide (y.1 = k)) = Lh.frest L k) := put_full hx hl2
      clear hx
      go_wp2_with fail
      refine hhas.mono ?_
      rintro e w3 ⟨rfl, hb3⟩
      have h3 := H3.out.later hb3
      have hfull := fullF_any h3
      rw [decide_eq_true hl2] at hfull
      have H3' : Hid (FR w3 p mb t now L) := h3
      have HT3' : Hid (Tur (FFt p mb) W w3) := HT3.out.behind hb3
      clear hhas h3 hb3
      go_wp2_with fail
      refine hfull.mono ?_
      rintro e w3' ⟨rfl, hb3⟩
      have h3 := H3'.out.later hb3
      have hdf := dropFirstF h3 HK.out (by omega)
      have HT3'' : Hid (Tur (FFt p mb) W w3') := HT3'.out.behind hb3
      clear hfull h3 hb3 f1 c1
      go_wp2_with fail
      refine hdf.mono ?_
      rintro e w4 ⟨rfl, h4, hT4⟩
      have H4 : Hid (FR w4 p mb t now (L.eraseIdx (Lh.fleast L))) := h4
      have HT4 : Hid (Tur (FFt p mb) W w4) := HT3''.out.trans hT4 fun b hb => Or.inl hb
      have k0 := h4.c0
      have k2 := h4.c2
      have hl : (L.eraseIdx (Lh.fleast L)).length < maxLen := by
        have := HK.out.len
        have := (List.eraseIdx_sublist L (Lh.fleast L)).length_le
        unfold maxLen; omega
      obtain ⟨w5, hrun, own5, hg5⟩ := (own_heap h4.own (w' := w4.drew) rfl).store u64Keyed Tryd.underlying71 hl hkey (flElem_mk (k, s, now + (t : Int)))
      clear hdf h4 hT4 hl hl2
      unfold valF at hrun
      go_wp2_with fail
      go_region
      go_wp2
      go_ret
      obtain ⟨h6, hT6⟩ := (H4.out.heap (W' := w4.drew) rfl).laid hg5.grown own5
      rw [HR.out] at h6
      exact ⟨rfl, h6, (HT4.out.behind (below_drewN (Below.refl _ _) 1)).trans hT6 fun b hb => Or.inl (Or.inr hb)⟩
    · have HR : Hid ((L.filter fun y => !decide (y.1 = k)) = Lh.frest L k) := put_plain HK.out.rise (Or.inr (by omega))
      clear hx
      go_wp2_with fail
      refine hhas.mono ?_
      rintro e w3 ⟨rfl, hb3⟩
      have h3 := H3.out.later hb3
      have hfull := fullF_any h3
      rw [decide_eq_false hl2] at hfull
      have H3' : Hid (FR w3 p mb t now L) := h3
      have HT3' : Hid (Tur (FFt p mb) W w3) := HT3.out.behind hb3
      clear hhas h3 hb3
      go_wp2_with fail
      refine hfull.mono ?_
      rintro e w4 ⟨rfl, hb4⟩
      have h4 := H3'.out.later hb4
      have H4 : Hid (FR w4 p mb t now L) := h4
      have HT4 : Hid (Tur (FFt p mb) W w4) := HT3'.out.behind hb4
      have k0 := h4.c0
      have k2 := h4.c2
      have hl : L.length < maxLen := by have := HK.out.len; unfold maxLen; omega
      obtain ⟨w5, hrun, own5, hg5⟩ := (own_heap h4.own (w' := w4.drew) rfl).store u64Keyed Tryd.underlying71 hl hkey (flElem_mk (k, s, now + (t : Int)))
      clear hfull hb4 h4 f1 c1
      unfold valF at hrun
      go_wp2_with fail
      go_region
      go_wp2
      go_ret
      obtain ⟨h6, hT6⟩ := (H4.out.heap (W' := w4.drew) rfl).laid hg5.grown own5
      rw [HR.out] at h6
      exact ⟨rfl, h6, (HT4.out.behind (below_drewN (Below.refl _ _) 1)).trans hT6 fun b hb => Or.inl (Or.inr hb)⟩
end
end Go.Proofs.YtmkdpchodeckgaaDoor
