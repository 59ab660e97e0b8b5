/- The landed flows: Expire, Drop, Get. -/
import Derived.Test.YtijdaaghomclmabDoorFlL2
namespace Go.Proofs.YtijdaaghomclmabDoor
open Go.RowKit Go.Maps Go.ChangeMaps Go.Shelf
section
variable {W W' : World} {p mb t : Nat} {la : Int} {L : List Lh.Fl}

theorem Tur.behind {F : Nat → Prop} {w w1 w2 : World} (h : Tur F w w1) (hb : Below w1.heap.size w1 w2) : Tur F w w2 :=
  ⟨hb.os.trans h.os, hb.tape.trans h.tape, hb.output.trans h.output, Nat.le_trans h.size hb.size, fun j hj hf => (hb.block j (Nat.lt_of_lt_of_le hj h.size)).trans (h.block j hj hf)⟩
theorem Tur.wide {F G : Nat → Prop} {w w1 : World} (h : Tur F w w1) (hG : ∀ b, F b → G b) : Tur G w w1 := ⟨h.os, h.tape, h.output, h.size, fun k hk hf => h.block k hk fun hb => hf (hG k hb)⟩
theorem exp_eq (L : List Lh.Fl) (now : Int) : (L.filter fun x => !decide (x.2.2 ≤ now)) = Lh.fexp L now := by
  unfold Lh.fexp
  refine List.filter_congr fun x _ => ?_
  rw [← decide_not]
  exact decide_eq_decide.2 (by omega)
/-- the world behind 'f.latest = now', where only new blocks were laid ahead -/
theorem FR.ticked {W1 : World} (h : FR W p mb t la L) (hb : Below W.heap.size W W1) (now : Int) : FR (W1.setCell ⟨p, 1, none⟩ (.int .i64 now)) p mb t now L ∧ Tur (FFt p mb) W (W1.setCell ⟨p, 1, none⟩ (.int .i64 now)) :=
  ⟨(h.later hb).tick now, (Tur.of_below hb).trans (Tur.ticked now) fun _ hg => Or.inl hg⟩

set_option maxHeartbeats 4000000 in
theorem expireF_ok (h : FR W p mb t la L) (hk : Lh.FlOk L) (now : Int) (hok : TickOk la now) :
    Calls Tryd.prog 52 #[.pointer (some ⟨p, 0, none⟩), .int .i64 now] W fun e W' => e = .returned (.tuple #[.int .i64 ((L.length - (Lh.fexp L now).length : Nat) : Int), .nilIface]) ∧ FR W' p mb t now (Lh.fexp L now) ∧ Tur (FFt p mb) W W' := by
  have hb0 : Below W.heap.size W (W.alloc (.cells #[.int .i64 now] 3)) := (Below.refl _ _).alloc (Nat.le_refl _) _
  have hbox : (W.alloc (.cells #[.int .i64 now] 3)).cell? ⟨W.heap.size, 0, none⟩ = some (.int .i64 now) := by simp
  have hchk := checkF_ok (h.later hb0) now hok
  have HBX : Hid (∀ w', Below (W.alloc (.cells #[.int .i64 now] 3)).heap.size (W.alloc (.cells #[.int .i64 now] 3)) w' → w'.cell? ⟨W.heap.size, 0, none⟩ = some (.int .i64 now)) := fun w' hb => below_cell hb hbox
  have H : Hid (FR W p mb t la L) := h
  have HB0 : Hid (Below W.heap.size W (W.alloc (.cells #[.int .i64 now] 3))) := hb0
  have hplt := h.plt
  clear h hb0
  go_enter Tryd.func52, Tryd.ntmps52
  go_wp2_with fail
  refine hchk.mono ?_
  rintro e w1 ⟨rfl, hb1⟩
  have hbx := HBX.out w1 hb1
  have hbW : Below W.heap.size W w1 := below_then HB0.out hb1
  have h1 := H.out.later hbW
  obtain ⟨h2, hT2⟩ := H.out.ticked hbW now
  have f1 := h1.fz 1
  have c1 := h1.c1
  have hbx2 : (w1.setCell ⟨p, 1, none⟩ (.int .i64 now)).cell? ⟨W.heap.size, 0, none⟩ = some (.int .i64 now) := by
    rw [World.cell?_setCell_other _ _ _ _ (by simp)]
    exact hbx
  have H2 : Hid (FR (w1.setCell ⟨p, 1, none⟩ (.int .i64 now)) p mb t now L) := h2
  have HT2 : Hid (Tur (FFt p mb) W (w1.setCell ⟨p, 1, none⟩ (.int .i64 now))) := hT2
  have hdr := dropF h2 hk.rise (Nat.le_trans hk.len (by omega)) (fun x => decide (x.2.2 ≤ now)) 97 #[.pointer (some ⟨W.heap.size, 0, none⟩)] (enters_of Tryd.func97 (by kernel_rfl) rfl) (fun W3 x hT _ => expireC W.heap.size now x (by
    rw [World.cell?_of_block (w := w1.setCell ⟨p, 1, none⟩ (.int .i64 now)) (w' := W3) (a := ⟨W.heap.size, 0, none⟩) (hT.block _ (Nat.lt_of_lt_of_le (by simp) (Nat.le_trans hb1.size (by simp))) (fun e => by have := H.out.mlt; simp at e; omega))]
    exact hbx2))
  rw [exp_eq] at hdr
  clear hchk h1 h2 hT2 hbx2 hb1 hbW HBX
  go_wp2_with fail
  refine hdr.mono ?_
  rintro e w2 ⟨rfl, hF, hT⟩
  have HF : Hid (FR w2 p mb t now (Lh.fexp L now)) := hF
  have HTT : Hid (Tur (FFt p mb) W w2) := HT2.out.trans hT fun b hb => Or.inl (Or.inr hb)
  clear hdr hF hT
  go_wp2
  go_ret2
  exact ⟨rfl, HF.out, HTT.out⟩
set_option maxHeartbeats 2000000 in
theorem expireF_bad (a : Nat → Addr) (he : EF a W) (h : FR W p mb t la L) (now : Int) (j : Nat) (hf : TickF la now j) :
    Calls Tryd.prog 52 #[.pointer (some ⟨p, 0, none⟩), .int .i64 now] W fun e W' => e = .returned (.tuple #[.int .i64 0, .iface 242 (.pointer (some (a j)))]) ∧ Below W.heap.size W W' := by
  have hb0 : Below W.heap.size W (W.alloc (.cells #[.int .i64 now] 3)) := (Below.refl _ _).alloc (Nat.le_refl _) _
  have hchk := checkF_bad a (he.later hb0) (h.later hb0) now j hf
  clear h he
  go_enter Tryd.func52, Tryd.ntmps52
  go_wp2_with fail
  refine hchk.mono ?_
  rintro e w1 ⟨rfl, hb1⟩
  clear hchk
  go_wp2
  go_ret2
  exact ⟨rfl, below_then hb0 hb1⟩

set_option maxHeartbeats 4000000 in
theorem dropF_any (h : FR W p mb t la L) (hk : Lh.FlOk L) (s : ByteArray) :
    Calls Tryd.prog 49 #[.pointer (some ⟨p, 0, none⟩), .string s] W fun e W' => e = .returned (.int .i64 ((L.length - (Lh.fdrop L s).length : Nat) : Int)) ∧ FR W' p mb t la (Lh.fdrop L s) ∧ Tur (FFt p mb) W W' := by
  have hb0 : Below W.heap.size W (W.alloc (.cells #[.string s] 9)) := (Below.refl _ _).alloc (Nat.le_refl _) _
  have hbox : (W.alloc (.cells #[.string s] 9)).cell? ⟨W.heap.size, 0, none⟩ = some (.string s) := by simp
  have hmlt := h.mlt
  have hdr := dropF (h.later hb0) hk.rise (Nat.le_trans hk.len (by omega)) (fun x => decide (x.2.1 = s)) 92 #[.pointer (some ⟨W.heap.size, 0, none⟩)] (enters_of Tryd.func92 (by kernel_rfl) rfl) (fun W3 x hT _ => dropC W.heap.size s x (by
    rw [World.cell?_of_block (w := W.alloc (.cells #[.string s] 9)) (w' := W3) (a := ⟨W.heap.size, 0, none⟩) (hT.block _ (by simp) (fun e => by simp at e; omega))]
    exact hbox))
  clear hmlt hbox h
  go_enter Tryd.func49, Tryd.ntmps49
  go_wp2_with fail
  refine hdr.mono ?_
  rintro e w2 ⟨rfl, hF, hT⟩
  have HF : Hid (FR w2 p mb t la (Lh.fdrop L s)) := hF
  have HTT : Hid (Tur (FFt p mb) W w2) := (Tur.of_below hb0).trans hT fun b hb => Or.inl (Or.inr hb)
  clear hdr hF hT
  go_wp2
  go_ret
  exact ⟨rfl, HF.out, HTT.out⟩

set_option maxHeartbeats 2000000 in
theorem getF_bad (a : Nat → Addr) (he : EF a W) (h : FR W p mb t la L) (k : Nat) (now : Int) (j : Nat) (hf : TickF la now j) :
    Calls Tryd.prog 50 #[.pointer (some ⟨p, 0, none⟩), .int .u64 (k : Nat), .int .i64 now] W fun e W' => e = .returned (.tuple #[.string ByteArray.empty, .bool false, .iface 242 (.pointer (some (a j)))]) ∧ Below W.heap.size W W' := by
  have hchk := checkF_bad a he h now j hf
  clear h he
  go_enter Tryd.func50, Tryd.ntmps50
  go_wp2_with fail
  refine hchk.mono ?_
  rintro e w1 ⟨rfl, hb1⟩
  clear hchk
  go_wp2
  go_ret3
  exact ⟨rfl, hb1⟩

set_option maxHeartbeats 4000000 in
theorem getF_ok (h : FR W p mb t la L) (k : Nat) (hk : k < 18446744073709551616) (now : Int) (hok : TickOk la now) :
    Calls Tryd.prog 50 #[.pointer (some ⟨p, 0, none⟩), .int .u64 (k : Nat), .int .i64 now] W fun e W' => FR W' p mb t now L ∧ Tur (FFt p mb) W W' ∧
      ((∃ h : Lh.fix L k < L.length, now < (L[Lh.fix L k]).2.2 ∧ e = .returned (.tuple #[.string (L[Lh.fix L k]).2.1, .bool true, .nilIface])) ∨ ((∀ h : Lh.fix L k < L.length, (L[Lh.fix L k]).2.2 ≤ now) ∧ e = .returned (.tuple #[.string ByteArray.empty, .bool false, .nilIface]))) := by
  have hchk := checkF_ok h now hok
  have H : Hid (FR W p mb t la L) := h
  clear h
  go_enter Tryd.func50, Tryd.ntmps50
  go_wp2_with fail
  refine hchk.mono ?_
  rintro e w1 ⟨rfl, hb1⟩
  have h1 := H.out.later hb1
  obtain ⟨h2, hT2⟩ := H.out.ticked hb1 now
  have f1 := h1.fz 1
  have c1 := h1.c1
  have H2 : Hid (FR (w1.setCell ⟨p, 1, none⟩ (.int .i64 now)) p mb t now L) := h2
  have HT2 : Hid (Tur (FFt p mb) W (w1.setCell ⟨p, 1, none⟩ (.int .i64 now))) := hT2
  have HLK := h2.look k hk
  have k2 := h2.c2
  clear hchk h1 h2 hT2 hb1
  rcases HLK with ⟨hx, hrun⟩ | ⟨hx, hrun⟩
  · obtain ⟨z, hz⟩ : ∃ z, L[Lh.fix L k] = z := ⟨_, rfl⟩
    rw [hz] at hrun
    have HZ : Hid (L[Lh.fix L k] = z) := hz
    have HX : Hid (Lh.fix L k < L.length) := hx
    clear hz
    by_cases hu : z.2.2 ≤ now
    · have d : decide (z.2.2 ≤ now) = true := by simpa using hu
      go_wp2
      go_ret3
      refine ⟨H2.out.later ((Below.refl _ _).alloc (Nat.le_refl _) _), HT2.out.behind ((Below.refl _ _).alloc (Nat.le_refl _) _), Or.inr ⟨fun _ => ?_, rfl⟩⟩
      rw [HZ.out]
      exact hu
    · have d : decide (z.2.2 ≤ now) = false := by simpa using hu
      go_wp2
      go_ret3
      refine ⟨H2.out.later ((Below.refl _ _).alloc (Nat.le_refl _) _), HT2.out.behind ((Below.refl _ _).alloc (Nat.le_refl _) _), Or.inl ⟨HX.out, ?_, ?_⟩⟩
      · rw [HZ.out]
        omega
      · rw [HZ.out]
        rfl
  · have HX : Hid (¬ Lh.fix L k < L.length) := hx
    go_wp2
    go_ret3
    exact ⟨H2.out.later ((Below.refl _ _).alloc (Nat.le_refl _) _), HT2.out.behind ((Below.refl _ _).alloc (Nat.le_refl _) _), Or.inr ⟨fun hx' => absurd hx' HX.out, rfl⟩⟩
end
end Go.Proofs.YtijdaaghomclmabDoor
