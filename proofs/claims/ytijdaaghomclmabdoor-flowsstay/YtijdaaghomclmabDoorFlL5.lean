/- The landed flows: dropFirst, Put. -/
import Derived.Test.YtijdaaghomclmabDoorFlL3
import Derived.Test.YtijdaaghomclmabDoorFlL4
import Derived.Deep.RegionLaw
import Derived.BigRegion
namespace Go.Proofs.YtijdaaghomclmabDoor
open Go.RowKit Go.Maps Go.ChangeMaps Go.Shelf
section
variable {W W' : World} {p mb t : Nat} {la : Int} {L : List Lh.Fl}

/-- a map that has turned, and nothing else that lay -/
theorem FR.turned {w1 w2 : World} {M : List Lh.Fl} {n : Nat} (h : FR w1 p mb t la L) (hg : w1.grownBy w2 (some mb)) (hown : w2.ownsMap Tryd.prog 32 flElem mb n (FD M)) : FR w2 p mb t la M ∧ Tur (fun b => b = mb) w1 w2 := by
  have hT : Tur (fun b => b = mb) w1 w2 := ⟨hg.os, hg.tape, hg.output, hg.size, fun k hk hne => hg.block k hk (fun e => hne (by cases e; rfl))⟩
  have hpb : w2.heap[p]? = w1.heap[p]? := hT.block p h.plt h.ne
  have own2 := ownsMap_tight hown
  rw [FD_size] at own2
  exact ⟨⟨(World.cell?_of_block (w := w1) (w' := w2) (a := ⟨p, 0, none⟩) hpb).trans h.c0, (World.cell?_of_block (w := w1) (w' := w2) (a := ⟨p, 1, none⟩) hpb).trans h.c1, (World.cell?_of_block (w := w1) (w' := w2) (a := ⟨p, 2, none⟩) hpb).trans h.c2, fun k => (World.frozen?_of_block (w := w1) (w' := w2) (a := ⟨p, k, none⟩) hpb).trans (h.fz k), own2, h.ne⟩, hT⟩

theorem own_heap {w w' : World} {b n : Nat} {D : DataW Unit} (h : w.ownsMap Tryd.prog 32 flElem b n D) (he : w'.heap = w.heap) : w'.ownsMap Tryd.prog 32 flElem b n D := by
  obtain ⟨es, clock, hb, r⟩ := h
  exact ⟨es, clock, by rw [he]; exact hb, r⟩
/-- delete, as one step of a region that draws -/
theorem step_delF {ops : Array Oper} {o : Oper} {a : Act} {K : Act → World → Prop} {Q : Exit → Act → World → Prop} {E : Prop} {W : World} (wr : World) (hgd : o.guard = none) (mo xo : Operand)
    (ho : o.op = .call { callee := .builtin .delete, args := #[mo, xo], argTypes := #[139, 32] }) (hW : W.heap = wr.heap) (mb n k : Nat) (L : List Lh.Fl) (hm : a.eval mo = .map (some mb)) (hx : a.eval xo = .int .u64 (k : Nat)) (hown : wr.ownsMap Tryd.prog 32 flElem mb n (FD L)) (hk : k < 18446744073709551616)
    (h : ∀ w', w'.ownsMap Tryd.prog 32 flElem mb n (FD (L.filter fun y => !decide (y.1 = k))) → W.grownBy w' (some mb) → K (a.put o.dst (.tuple #[])) w') :
    if Region.wanted o (yielded ops a.tmps) = true then Oper.wp Tryd.prog o a W K Q else E := by
  have hw : Region.wanted o (yielded ops a.tmps) = true := by simp [Region.wanted, hgd]
  rw [if_pos hw]
  obtain ⟨w', hrun, r1, r2⟩ := (own_heap hown hW).drop u64Keyed Tryd.underlying139 (keyK k hk) o.type
  rw [FD_del] at r1
  unfold Oper.wp
  simp [execOp, ho, resolve, invoke, builtin, hm, hx, hrun, Result.andThen]
  exact h w' r1 r2.grown

set_option maxHeartbeats 4000000 in
theorem dropFirstF (h : FR W p mb t la L) (hk : Lh.FlOk L) (h0 : 0 < L.length) :
    Calls Tryd.prog 90 #[.pointer (some ⟨p, 0, none⟩)] W fun e W' => e = .returned (.tuple #[]) ∧ FR W' p mb t la (L.eraseIdx (Lh.fleast L)) ∧ Tur (FFt p mb) W W' := by
  have hlist := listF_any h hk.rise (Nat.le_trans hk.len (by omega))
  have H : Hid (FR W p mb t la L) := h
  have HK : Hid (Lh.FlOk L) := hk
  have hl : L.length ≤ 1000 := Nat.le_trans hk.len (by omega)
  clear h hk
  go_enter Tryd.func90, Tryd.ntmps90
  go_wp2_with fail
  refine hlist.mono ?_
  rintro e w1 ⟨v, rfl, ⟨hn, _⟩ | ⟨g, c, rfl, hc, hf⟩, hb1⟩
  · rw [hn] at h0
    simp at h0
  have hmin := minF g c L w1 h0 hl hf
  clear hlist hf hc
  go_wp2_with fail
  refine hmin.mono ?_
  rintro e w2 ⟨hx, rfl, hb2⟩
  have hbW : Below W.heap.size W w2 := below_then hb1 hb2
  obtain ⟨x, hxe⟩ : ∃ x, L[Lh.fleast L] = x := ⟨_, rfl⟩
  have HE : Hid ((L.filter fun y => !decide (y.1 = x.1)) = L.eraseIdx (Lh.fleast L)) := by
    have : (L.filter fun y => !decide (y.1 = x.1)) = L.eraseIdx (Lh.fleast L) := by rw [← hxe]; exact filter_erase HK.out.rise hx
    exact this
  have hkx : x.1 < 18446744073709551616 := by rw [← hxe]; exact HK.out.key _ (List.getElem_mem hx)
  have hkey := keyK x.1 hkx
  rw [hxe]
  have hb3 : Below W.heap.size W (w2.alloc (.cells #[.int .u64 (x.1 : Nat), .string x.2.1, .int .i64 x.2.2] 88)) := hbW.alloc hbW.size _
  have h3 := H.out.later hb3
  have own3 := h3.own
  have c2 := h3.c2
  have HB3 : Hid (Below W.heap.size W (w2.alloc (.cells #[.int .u64 (x.1 : Nat), .string x.2.1, .int .i64 x.2.2] 88))) := hb3
  have H3 : Hid (FR (w2.alloc (.cells #[.int .u64 (x.1 : Nat), .string x.2.1, .int .i64 x.2.2] 88)) p mb t la L) := h3
  clear hmin hb1 hb2 hbW hxe hx hb3 h3
  go_wp2_with fail
  have x0 : (w2.alloc (.cells #[.int .u64 (x.1 : Nat), .string x.2.1, .int .i64 x.2.2] 88)).cell? ⟨w2.heap.size, 0, none⟩ = some (.int .u64 (x.1 : Nat)) := by simp
  generalize w2.alloc (.cells #[.int .u64 (x.1 : Nat), .string x.2.1, .int .i64 x.2.2] 88) = w3 at *
  have HOWN : Hid (w3.ownsMap Tryd.prog 32 flElem mb L.length (FD L)) := own3
  clear own3 hkey
  go_region_law (first
    | (refine step_delF w3 rfl _ _ rfl rfl mb L.length x.1 L rfl rfl HOWN.out hkx ?_
       intro w4 hown4 hgr))
  all_goals
    rw [HE.out] at hown4
    obtain ⟨h4, hT⟩ := FR.turned (H3.out.later (below_drewN (Below.refl _ _) 1)) hgr hown4
    have HT : Hid (Tur (FFt p mb) W w4) := (Tur.of_below (below_then HB3.out (below_drewN (Below.refl _ _) 1))).trans hT fun b hb => Or.inl (Or.inr hb)
    go_end0
    exact ⟨rfl, h4, HT.out⟩
end
end Go.Proofs.YtijdaaghomclmabDoor
