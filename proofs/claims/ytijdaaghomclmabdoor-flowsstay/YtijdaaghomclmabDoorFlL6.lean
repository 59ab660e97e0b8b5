/- The landed flows: Put. -/
import Derived.Test.YtijdaaghomclmabDoorFlL5
namespace Go.Proofs.YtijdaaghomclmabDoor
open Go.RowKit Go.Maps Go.ChangeMaps Go.Shelf
section
variable {W W' : World} {p mb t : Nat} {la : Int} {L : List Lh.Fl}

set_option maxHeartbeats 2000000 in
theorem putF_bad (a : Nat → Addr) (he : EF a W) (h : FR W p mb t la L) (k : Nat) (s : ByteArray) (now : Int) (j : Nat) (hf : TickF la now j) :
    Calls Tryd.prog 48 #[.pointer (some ⟨p, 0, none⟩), .int .u64 (k : Nat), .string s, .int .i64 now] W fun e W' => e = .returned (.iface 242 (.pointer (some (a j)))) ∧ Below W.heap.size W W' := by
  have hchk := checkF_bad a he h now j hf
  clear h he
  go_enter Tryd.func48, Tryd.ntmps48
  go_wp2_with fail
  refine hchk.mono ?_
  rintro e w1 ⟨rfl, hb1⟩
  clear hchk
  go_wp2
  go_ret
  exact ⟨rfl, hb1⟩

set_option maxHeartbeats 2000000 in
theorem putF_name (a : Nat → Addr) (he : EF a W) (h : FR W p mb t la L) (k : Nat) (s : ByteArray) (hs : s.size ≤ 300) (now : Int) (hok : TickOk la now) (hn : Lh.isNm s = false) :
    Calls Tryd.prog 48 #[.pointer (some ⟨p, 0, none⟩), .int .u64 (k : Nat), .string s, .int .i64 now] W fun e W' => e = .returned (.iface 242 (.pointer (some (a 3)))) ∧ Below W.heap.size W W' := by
  have hchk := checkF_ok h now hok
  have HE : Hid (EF a W) := he
  clear h he
  go_enter Tryd.func48, Tryd.ntmps48
  go_wp2_with fail
  refine hchk.mono ?_
  rintro e w1 ⟨rfl, hb1⟩
  have hnm := isNameF_any a (HE.out.later hb1) s hs
  rw [hn] at hnm
  clear hchk hn
  go_wp2_with fail
  refine hnm.mono ?_
  rintro e w2 ⟨rfl, hb2⟩
  have hbW : Below W.heap.size W w2 := below_then hb1 hb2
  have s3 := (HE.out.later hbW).e4.s3
  clear hnm
  go_wp2
  go_ret
  exact ⟨rfl, hbW⟩

theorem FR.heap (h : FR W p mb t la L) (he : W'.heap = W.heap) : FR W' p mb t la L := h.stay fun b _ => by rw [he]
theorem Tur.heap {F : Nat → Prop} {w w1 w2 : World} (h : Tur F w w1) (hb : Below w1.heap.size w1 w2) : Tur F w w2 := h.behind hb
/-- the last step of Put -/
theorem FR.laid {w3 w4 : World} {M : List Lh.Fl} {n k : Nat} {s : ByteArray} {u : Int} {now : Int} (h : FR w3 p mb t now M) (hg : w3.grownBy w4 (some mb)) (hown : w4.ownsMap Tryd.prog 32 flElem mb n ((FD M).put (keyF k) (datF (k, s, u)))) : FR w4 p mb t now (Lh.flay (k, s, u) (M.filter fun y => !decide (y.1 = k))) ∧ Tur (fun b => b = mb) w3 w4 := by
  have e := FD_put M (k, s, u)
  rw [e] at hown
  exact h.turned hg hown

set_option maxHeartbeats 4000000 in
theorem putF_ok (a : Nat → Addr) (he : EF a W) (h : FR W p mb t la L) (hk : Lh.FlOk L) (ht : t ≤ 1000) (k : Nat) (hkk : k < 18446744073709551616) (s : ByteArray) (hs : s.size ≤ 300) (now : Int) (hok : TickOk la now) (hn : Lh.isNm s = true) :
    Calls Tryd.prog 48 #[.pointer (some ⟨p, 0, none⟩), .int .u64 (k : Nat), .string s, .int .i64 now] W fun e W' => e = .returned .nilIface ∧ FR W' p mb t now (Lh.fput t L k s now) ∧ Tur (FFt p mb) W W' := by
  have hchk := checkF_ok h now hok
  have H : Hid (FR W p mb t la L) := h
  have HE : Hid (EF a W) := he
  have HK : Hid (Lh.FlOk L) := hk
  have hwr : IntKind.i64.wrap (now + (t : Int)) = now + (t : Int) := by
    obtain ⟨h1, h2, h3⟩ := hok
    rw [IntKind.wrap_i64]; omega
  have hkey := keyK k hkk
  clear h he hk hok
  go_enter Tryd.func48, Tryd.ntmps48
  go_wp2_with fail
  refine hchk.mono ?_
  rintro e w1 ⟨rfl, hb1⟩
  have hnm := isNameF_any a (HE.out.later hb1) s hs
  rw [hn] at hnm
  clear hchk hn
  go_wp2_with fail
  refine hnm.mono ?_
  rintro e w2 ⟨rfl, hb2⟩
  have hbW : Below W.heap.size W w2 := below_then hb1 hb2
  have h2 := H.out.later hbW
  obtain ⟨h3, hT3⟩ := H.out.ticked hbW now
  have f1 := h2.fz 1
  have c1 := h2.c1
  have hhas := hasF_any h3 k hkk
  have H3 : Hid (FR (w2.setCell ⟨p, 1, none⟩ (.int .i64 now)) p mb t now L) := h3
  have HT3 : Hid (Tur (FFt p mb) W (w2.setCell ⟨p, 1, none⟩ (.int .i64 now))) := hT3
  clear hnm hb1 hb2 hbW h2 h3 hT3
  by_cases hx : Lh.fix L k < L.length
  · rw [decide_eq_true hx] at hhas
    have HR : Hid ((L.filter fun y => !decide (y.1 = k)) = Lh.frest L k) := put_plain HK.out.rise (Or.inl hx)
    clear hx
    go_wp2_with fail
    refine hhas.mono ?_
    rintro e w4 ⟨rfl, hb4⟩
    have h4 := H3.out.later hb4
    have H4 : Hid (FR w4 p mb t now L) := h4
    have HT4 : Hid (Tur (FFt p mb) W w4) := HT3.out.behind hb4
    have k0 := h4.c0
    have k2 := h4.c2
    have hl : L.length < maxLen := by have := HK.out.len; unfold maxLen; omega
    obtain ⟨w5, hrun, own5, hg5⟩ := (own_heap h4.own (w' := w4.drew) rfl).store u64Keyed Tryd.underlying139 hl hkey (flElem_mk (k, s, now + (t : Int)))
    clear hhas hb4 h4 f1 c1
    unfold valF at hrun
    go_wp2_with fail
    go_region
    go_wp2
    go_ret
    obtain ⟨h6, hT6⟩ := (H4.out.heap (W' := w4.drew) rfl).laid hg5.grown own5
    rw [HR.out] at h6
    exact ⟨rfl, h6, (HT4.out.behind (below_drewN (Below.refl _ _) 1)).trans hT6 fun b hb => Or.inl (Or.inr hb)⟩
  · rw [decide_eq_false hx] at hhas
    by_cases hl2 : 200 ≤ L.length
    · have HR : Hid (((L.eraseIdx (Lh.fleast L)).filter fun y => !decide (y.1 = k)) = Lh.frest L k) := put_full hx hl2
      clear hx
      go_wp2_with fail
      refine hhas.mono ?_
      rintro e w3 ⟨rfl, hb3⟩
      have h3 := H3.out.later hb3
      have hfull := fullF_any h3
      rw [decide_eq_true hl2] at hfull
      have H3' : Hid (FR w3 p mb t now L) := h3
      have HT3' : Hid (Tur (FFt p mb) W w3) := HT3.out.behind hb3
      clear hhas h3 hb3
      go_wp2_with fail
      refine hfull.mono ?_
      rintro e w3' ⟨rfl, hb3⟩
      have h3 := H3'.out.later hb3
      have hdf := dropFirstF h3 HK.out (by omega)
      have HT3'' : Hid (Tur (FFt p mb) W w3') := HT3'.out.behind hb3
      clear hfull h3 hb3 f1 c1
      go_wp2_with fail
      refine hdf.mono ?_
      rintro e w4 ⟨rfl, h4, hT4⟩
      have H4 : Hid (FR w4 p mb t now (L.eraseIdx (Lh.fleast L))) := h4
      have HT4 : Hid (Tur (FFt p mb) W w4) := HT3''.out.trans hT4 fun b hb => Or.inl hb
      have k0 := h4.c0
      have k2 := h4.c2
      have hl : (L.eraseIdx (Lh.fleast L)).length < maxLen := by
        have := HK.out.len
        have := (List.eraseIdx_sublist L (Lh.fleast L)).length_le
        unfold maxLen; omega
      obtain ⟨w5, hrun, own5, hg5⟩ := (own_heap h4.own (w' := w4.drew) rfl).store u64Keyed Tryd.underlying139 hl hkey (flElem_mk (k, s, now + (t : Int)))
      clear hdf h4 hT4 hl hl2
      unfold valF at hrun
      go_wp2_with fail
      go_region
      go_wp2
      go_ret
      obtain ⟨h6, hT6⟩ := (H4.out.heap (W' := w4.drew) rfl).laid hg5.grown own5
      rw [HR.out] at h6
      exact ⟨rfl, h6, (HT4.out.behind (below_drewN (Below.refl _ _) 1)).trans hT6 fun b hb => Or.inl (Or.inr hb)⟩
    · have HR : Hid ((L.filter fun y => !decide (y.1 = k)) = Lh.frest L k) := put_plain HK.out.rise (Or.inr (by omega))
      clear hx
      go_wp2_with fail
      refine hhas.mono ?_
      rintro e w3 ⟨rfl, hb3⟩
      have h3 := H3.out.later hb3
      have hfull := fullF_any h3
      rw [decide_eq_false hl2] at hfull
      have H3' : Hid (FR w3 p mb t now L) := h3
      have HT3' : Hid (Tur (FFt p mb) W w3) := HT3.out.behind hb3
      clear hhas h3 hb3
      go_wp2_with fail
      refine hfull.mono ?_
      rintro e w4 ⟨rfl, hb4⟩
      have h4 := H3'.out.later hb4
      have H4 : Hid (FR w4 p mb t now L) := h4
      have HT4 : Hid (Tur (FFt p mb) W w4) := HT3'.out.behind hb4
      have k0 := h4.c0
      have k2 := h4.c2
      have hl : L.length < maxLen := by have := HK.out.len; unfold maxLen; omega
      obtain ⟨w5, hrun, own5, hg5⟩ := (own_heap h4.own (w' := w4.drew) rfl).store u64Keyed Tryd.underlying139 hl hkey (flElem_mk (k, s, now + (t : Int)))
      clear hfull hb4 h4 f1 c1
      unfold valF at hrun
      go_wp2_with fail
      go_region
      go_wp2
      go_ret
      obtain ⟨h6, hT6⟩ := (H4.out.heap (W' := w4.drew) rfl).laid hg5.grown own5
      rw [HR.out] at h6
      exact ⟨rfl, h6, (HT4.out.behind (below_drewN (Below.refl _ _) 1)).trans hT6 fun b hb => Or.inl (Or.inr hb)⟩
end
end Go.Proofs.YtijdaaghomclmabDoor
