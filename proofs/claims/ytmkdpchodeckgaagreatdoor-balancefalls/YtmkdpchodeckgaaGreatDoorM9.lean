/- The landed flows: drop, Expire, Drop. -/
import Derived.Test.YtmkdpchodeckgaaGreatDoorM8
namespace Go.Proofs.YtmkdpchodeckgaaGreatDoor
open Go.RowKit Go.Maps Go.ChangeMaps Go.Shelf
section
variable {W W' : World} {p mb t : Nat} {la : Int} {L : List Lh.Fl}

theorem grown_of_below (h : Below W.heap.size W W') : W.grownBy W' none := ⟨h.os, h.tape, h.output, h.size, fun k hk _ => h.block k hk⟩
theorem below_of_grown (h : W.grownBy W' none) : Below W.heap.size W W' := ⟨h.os, h.tape, h.output, h.size, fun k hk => h.block k hk (by simp)⟩

theorem beqT (u s : ByteArray) : (u.toList == s.toList) = decide (u = s) := by
  by_cases h : u = s
  · rw [bytes_same h, decide_eq_true h]
  · rw [bytes_parts h, decide_eq_false h]
set_option maxHeartbeats 2000000 in
theorem dropIn (g B : Nat) (cb : Array Value) (k : Nat) (x : Lh.Fl) (bo : Bool) (eg : ∀ args w, (callFunc g args).run Tryz.prog w = .ok (.enter g args) w) (hB : W.cell? ⟨B, 0, none⟩ = some (.func (.func g) #[] cb))
    (hw : ∀ W', Below W.heap.size W W' → Calls Tryz.prog g (#[valF x] ++ cb) W' fun e w' => e = .returned (.bool bo) ∧ Below W'.heap.size W' w') :
    Calls Tryz.prog 81 #[.int .u64 (k : Nat), valF x, .pointer (some ⟨B, 0, none⟩)] W fun e W' => e = .returned (.bool bo) ∧ Below W.heap.size W W' := by
  have hb0 : Below W.heap.size W (W.alloc (.cells #[.int .u64 (x.1 : Nat), .string x.2.1, .int .i64 x.2.2] 48)) := (Below.refl _ _).alloc (Nat.le_refl _) _
  have hc := hw _ hb0
  have hB' := below_cell hb0 hB
  clear hw
  unfold valF at hc ⊢
  go_enter Tryz.func81, Tryz.ntmps81
  go_wp2_with fail
  refine hc.mono ?_
  rintro e w1 ⟨rfl, hb1⟩
  clear hc
  go_wp2
  go_ret
  exact ⟨rfl, below_then hb0 hb1⟩

set_option maxHeartbeats 2000000 in
theorem dropC (B : Nat) (s : ByteArray) (x : Lh.Fl) (hB : W.cell? ⟨B, 0, none⟩ = some (.string s)) :
    Calls Tryz.prog 50 #[valF x, .pointer (some ⟨B, 0, none⟩)] W fun e W' => e = .returned (.bool (decide (x.2.1 = s))) ∧ Below W.heap.size W W' := by
  have hb0 : Below W.heap.size W (W.alloc (.cells #[.int .u64 (x.1 : Nat), .string x.2.1, .int .i64 x.2.2] 48)) := (Below.refl _ _).alloc (Nat.le_refl _) _
  have hB' := below_cell hb0 hB
  unfold valF
  generalize x.2.1 = u at *
  go_enter Tryz.func50, Tryz.ntmps50
  go_wp2
  go_ret
  exact ⟨by rw [← beqT u s]; rfl, hb0⟩

set_option maxHeartbeats 4000000 in
/-- drop: those go of whom which says so. -/
theorem dropF (h : FR W p mb t la L) (hp : L.Pairwise fun x y => x.1 < y.1) (hl : L.length ≤ 1000) (pd : Lh.Fl → Bool) (g : Nat) (cb : Array Value) (eg : ∀ args w, (callFunc g args).run Tryz.prog w = .ok (.enter g args) w)
    (hw : ∀ W' x, Tur (fun b => b = mb) W W' → x ∈ L → Calls Tryz.prog g (#[valF x] ++ cb) W' fun e w' => e = .returned (.bool (pd x)) ∧ Below W'.heap.size W' w') :
    Calls Tryz.prog 49 #[.pointer (some ⟨p, 0, none⟩), .func (.func g) #[] cb] W fun e W' => e = .returned (.int .i64 ((L.length - (L.filter fun x => !pd x).length : Nat) : Int)) ∧ FR W' p mb t la (L.filter fun x => !pd x) ∧ Tur (fun b => b = mb) W W' := by
  obtain ⟨M, hM⟩ : ∃ M, (L.filter fun x => !pd x) = M := ⟨_, rfl⟩
  rw [hM]
  have hb0 : Below W.heap.size W (W.alloc (.cells #[.func (.func g) #[] cb] 73)) := (Below.refl _ _).alloc (Nat.le_refl _) _
  have h0 := h.later hb0
  have hbox : (W.alloc (.cells #[.func (.func g) #[] cb] 73)).cell? ⟨W.heap.size, 0, none⟩ = some (.func (.func g) #[] cb) := by simp
  have hlen0 := fun ty => h0.own.len Tryz.underlying90 ty
  rw [FD_size] at hlen0
  have hmlt := h.mlt
  have hle : M.length ≤ L.length := by rw [← hM]; exact List.length_filter_le _ _
  have hdel := delFuncF pd 81 #[.pointer (some ⟨W.heap.size, 0, none⟩)] mb L.length L hp (W.alloc (.cells #[.func (.func g) #[] cb] 73)) (enters_of Tryz.func81 (by kernel_rfl) rfl) h0.own (fun W1 x hg hx => by
    have hb1 : W1.cell? ⟨W.heap.size, 0, none⟩ = some (.func (.func g) #[] cb) := by
      rw [World.cell?_of_block (w := W.alloc (.cells #[.func (.func g) #[] cb] 73)) (w' := W1) (a := ⟨W.heap.size, 0, none⟩) (hg.block _ (by simp) (fun e => by cases e; exact absurd hmlt (Nat.lt_irrefl _)))]
      exact hbox
    refine (dropIn g W.heap.size cb x.1 x (pd x) eg hb1 fun W2 hb2 => hw W2 x ?_ hx).mono fun e w' ⟨q1, q2⟩ => ⟨q1, grown_of_below q2⟩
    refine ⟨hb2.os.trans (hg.os.trans hb0.os), hb2.tape.trans (hg.tape.trans hb0.tape), hb2.output.trans (hg.output.trans hb0.output), Nat.le_trans hb0.size (Nat.le_trans hg.size hb2.size), fun k hk hne => ?_⟩
    exact (hb2.block k (Nat.lt_of_lt_of_le hk (Nat.le_trans hb0.size hg.size))).trans ((hg.block k (Nat.lt_of_lt_of_le hk hb0.size) (fun e => hne (by cases e; rfl))).trans (hb0.block k hk)))
  rw [hM] at hdel
  have c2 := h0.c2
  have H : Hid (FR W p mb t la L) := h
  have HB0 : Hid (Below W.heap.size W (W.alloc (.cells #[.func (.func g) #[] cb] 73))) := hb0
  clear hw h hbox hb0 h0 hM
  go_enter Tryz.func49, Tryz.ntmps49
  go_wp2_with fail
  refine hdel.mono ?_
  rintro e w1 ⟨rfl, hown, hg⟩
  have hT : Tur (fun b => b = mb) W w1 := ⟨hg.os.trans HB0.out.os, hg.tape.trans HB0.out.tape, hg.output.trans HB0.out.output, Nat.le_trans HB0.out.size hg.size, fun k hk hne => (hg.block k (Nat.lt_of_lt_of_le hk HB0.out.size) (fun e => hne (by cases e; rfl))).trans (HB0.out.block k hk)⟩
  have hpb : w1.heap[p]? = W.heap[p]? := hT.block p H.out.plt H.out.ne
  have own2 := ownsMap_tight hown
  rw [FD_size] at own2
  have hlen1 := fun ty => own2.len Tryz.underlying90 ty
  rw [FD_size] at hlen1
  have hfin : FR w1 p mb t la M := ⟨(World.cell?_of_block (w := W) (w' := w1) (a := ⟨p, 0, none⟩) hpb).trans H.out.c0, (World.cell?_of_block (w := W) (w' := w1) (a := ⟨p, 1, none⟩) hpb).trans H.out.c1, (World.cell?_of_block (w := W) (w' := w1) (a := ⟨p, 2, none⟩) hpb).trans H.out.c2, fun k => (World.frozen?_of_block (w := W) (w' := w1) (a := ⟨p, k, none⟩) hpb).trans (H.out.fz k), own2, H.out.ne⟩
  have HFIN : Hid (FR w1 p mb t la M) := hfin
  have HT : Hid (Tur (fun b => b = mb) W w1) := hT
  have k2 := hfin.c2
  clear hdel hown hg hT hpb own2 hfin c2 hlen0
  have hsub : IntKind.i64.wrap ((L.length : Int) - (M.length : Int)) = ((L.length - M.length : Nat) : Int) := by
    rw [IntKind.wrap_i64]; omega
  have HR : Hid (∀ r : Int, IntKind.i64.wrap ((L.length : Int) - (M.length : Int)) = r → r = ((L.length - M.length : Nat) : Int)) := fun r e => e.symm.trans hsub
  clear hsub
  generalize hr : IntKind.i64.wrap ((L.length : Int) - (M.length : Int)) = r at *
  have HE : Hid (r = ((L.length - M.length : Nat) : Int)) := HR.out r rfl
  clear HR hle
  go_wp2
  go_ret
  exact ⟨by rw [← HE.out]; rfl, HFIN.out, HT.out⟩
end
end Go.Proofs.YtmkdpchodeckgaaGreatDoor

/- The landed flows: Expire, Drop, Get. -/
namespace Go.Proofs.YtmkdpchodeckgaaGreatDoor
open Go.RowKit Go.Maps Go.ChangeMaps Go.Shelf
section
variable {W W' : World} {p mb t : Nat} {la : Int} {L : List Lh.Fl}

theorem Tur.behind {F : Nat → Prop} {w w1 w2 : World} (h : Tur F w w1) (hb : Below w1.heap.size w1 w2) : Tur F w w2 :=
  ⟨hb.os.trans h.os, hb.tape.trans h.tape, hb.output.trans h.output, Nat.le_trans h.size hb.size, fun j hj hf => (hb.block j (Nat.lt_of_lt_of_le hj h.size)).trans (h.block j hj hf)⟩
theorem Tur.wide {F G : Nat → Prop} {w w1 : World} (h : Tur F w w1) (hG : ∀ b, F b → G b) : Tur G w w1 := ⟨h.os, h.tape, h.output, h.size, fun k hk hf => h.block k hk fun hb => hf (hG k hb)⟩
theorem exp_eq (L : List Lh.Fl) (now : Int) : (L.filter fun x => !decide (x.2.2 ≤ now)) = Lh.fexp L now := by
  unfold Lh.fexp
  refine List.filter_congr fun x _ => ?_
  rw [← decide_not]
  exact decide_eq_decide.2 (by omega)
/-- the world behind 'f.latest = now', where only new blocks were laid ahead -/
theorem FR.ticked {W1 : World} (h : FR W p mb t la L) (hb : Below W.heap.size W W1) (now : Int) : FR (W1.setCell ⟨p, 1, none⟩ (.int .i64 now)) p mb t now L ∧ Tur (FFt p mb) W (W1.setCell ⟨p, 1, none⟩ (.int .i64 now)) :=
  ⟨(h.later hb).tick now, (Tur.of_below hb).trans (Tur.ticked now) fun _ hg => Or.inl hg⟩

set_option maxHeartbeats 4000000 in
theorem dropF_any (h : FR W p mb t la L) (hk : Lh.FlOk L) (s : ByteArray) :
    Calls Tryz.prog 25 #[.pointer (some ⟨p, 0, none⟩), .string s] W fun e W' => e = .returned (.int .i64 ((L.length - (Lh.fdrop L s).length : Nat) : Int)) ∧ FR W' p mb t la (Lh.fdrop L s) ∧ Tur (FFt p mb) W W' := by
  have hb0 : Below W.heap.size W (W.alloc (.cells #[.string s] 9)) := (Below.refl _ _).alloc (Nat.le_refl _) _
  have hbox : (W.alloc (.cells #[.string s] 9)).cell? ⟨W.heap.size, 0, none⟩ = some (.string s) := by simp
  have hmlt := h.mlt
  have hdr := dropF (h.later hb0) hk.rise (Nat.le_trans hk.len (by omega)) (fun x => decide (x.2.1 = s)) 50 #[.pointer (some ⟨W.heap.size, 0, none⟩)] (enters_of Tryz.func50 (by kernel_rfl) rfl) (fun W3 x hT _ => dropC W.heap.size s x (by
    rw [World.cell?_of_block (w := W.alloc (.cells #[.string s] 9)) (w' := W3) (a := ⟨W.heap.size, 0, none⟩) (hT.block _ (by simp) (fun e => by simp at e; omega))]
    exact hbox))
  clear hmlt hbox h
  go_enter Tryz.func25, Tryz.ntmps25
  go_wp2_with fail
  refine hdr.mono ?_
  rintro e w2 ⟨rfl, hF, hT⟩
  have HF : Hid (FR w2 p mb t la (Lh.fdrop L s)) := hF
  have HTT : Hid (Tur (FFt p mb) W w2) := (Tur.of_below hb0).trans hT fun b hb => Or.inl (Or.inr hb)
  clear hdr hF hT
  go_wp2
  go_ret
  exact ⟨rfl, HF.out, HTT.out⟩

set_option maxHeartbeats 2000000 in
theorem getF_bad (a : Nat → Addr) (he : EF a W) (h : FR W p mb t la L) (k : Nat) (now : Int) (j : Nat) (hf : TickF la now j) :
    Calls Tryz.prog 20 #[.pointer (some ⟨p, 0, none⟩), .int .u64 (k : Nat), .int .i64 now] W fun e W' => e = .returned (.tuple #[.string ByteArray.empty, .bool false, .iface 236 (.pointer (some (a j)))]) ∧ Below W.heap.size W W' := by
  have hchk := checkF_bad a he h now j hf
  clear h he
  go_enter Tryz.func20, Tryz.ntmps20
  go_wp2_with fail
  refine hchk.mono ?_
  rintro e w1 ⟨rfl, hb1⟩
  clear hchk
  go_wp2
  go_ret3
  exact ⟨rfl, hb1⟩

set_option maxHeartbeats 4000000 in
theorem getF_ok (h : FR W p mb t la L) (k : Nat) (hk : k < 18446744073709551616) (now : Int) (hok : TickOk la now) :
    Calls Tryz.prog 20 #[.pointer (some ⟨p, 0, none⟩), .int .u64 (k : Nat), .int .i64 now] W fun e W' => FR W' p mb t now L ∧ Tur (FFt p mb) W W' ∧
      ((∃ h : Lh.fix L k < L.length, now < (L[Lh.fix L k]).2.2 ∧ e = .returned (.tuple #[.string (L[Lh.fix L k]).2.1, .bool true, .nilIface])) ∨ ((∀ h : Lh.fix L k < L.length, (L[Lh.fix L k]).2.2 ≤ now) ∧ e = .returned (.tuple #[.string ByteArray.empty, .bool false, .nilIface]))) := by
  have hchk := checkF_ok h now hok
  have H : Hid (FR W p mb t la L) := h
  clear h
  go_enter Tryz.func20, Tryz.ntmps20
  go_wp2_with fail
  refine hchk.mono ?_
  rintro e w1 ⟨rfl, hb1⟩
  have h1 := H.out.later hb1
  obtain ⟨h2, hT2⟩ := H.out.ticked hb1 now
  have f1 := h1.fz 1
  have c1 := h1.c1
  have H2 : Hid (FR (w1.setCell ⟨p, 1, none⟩ (.int .i64 now)) p mb t now L) := h2
  have HT2 : Hid (Tur (FFt p mb) W (w1.setCell ⟨p, 1, none⟩ (.int .i64 now))) := hT2
  have HLK := h2.look k hk
  have k2 := h2.c2
  clear hchk h1 h2 hT2 hb1
  rcases HLK with ⟨hx, hrun⟩ | ⟨hx, hrun⟩
  · obtain ⟨z, hz⟩ : ∃ z, L[Lh.fix L k] = z := ⟨_, rfl⟩
    rw [hz] at hrun
    have HZ : Hid (L[Lh.fix L k] = z) := hz
    have HX : Hid (Lh.fix L k < L.length) := hx
    clear hz
    by_cases hu : z.2.2 ≤ now
    · have d : decide (z.2.2 ≤ now) = true := by simpa using hu
      go_wp2
      go_ret3
      refine ⟨H2.out.later ((Below.refl _ _).alloc (Nat.le_refl _) _), HT2.out.behind ((Below.refl _ _).alloc (Nat.le_refl _) _), Or.inr ⟨fun _ => ?_, rfl⟩⟩
      rw [HZ.out]
      exact hu
    · have d : decide (z.2.2 ≤ now) = false := by simpa using hu
      go_wp2
      go_ret3
      refine ⟨H2.out.later ((Below.refl _ _).alloc (Nat.le_refl _) _), HT2.out.behind ((Below.refl _ _).alloc (Nat.le_refl _) _), Or.inl ⟨HX.out, ?_, ?_⟩⟩
      · rw [HZ.out]
        omega
      · rw [HZ.out]
        rfl
  · have HX : Hid (¬ Lh.fix L k < L.length) := hx
    go_wp2
    go_ret3
    exact ⟨H2.out.later ((Below.refl _ _).alloc (Nat.le_refl _) _), HT2.out.behind ((Below.refl _ _).alloc (Nat.le_refl _) _), Or.inr ⟨fun hx' => absurd hx' HX.out, rfl⟩⟩
end
end Go.Proofs.YtmkdpchodeckgaaGreatDoor
