/- The landed flows: drop, Expire, Drop. -/
import Derived.Test.YtijdaaghomclmabDoorFlL1
import Derived.Test.YtijdaaghomclmabDoorFlDel
namespace Go.Proofs.YtijdaaghomclmabDoor
open Go.RowKit Go.Maps Go.ChangeMaps Go.Shelf
section
variable {W W' : World} {p mb t : Nat} {la : Int} {L : List Lh.Fl}

theorem grown_of_below (h : Below W.heap.size W W') : W.grownBy W' none := ⟨h.os, h.tape, h.output, h.size, fun k hk _ => h.block k hk⟩
theorem below_of_grown (h : W.grownBy W' none) : Below W.heap.size W W' := ⟨h.os, h.tape, h.output, h.size, fun k hk => h.block k hk (by simp)⟩

theorem beqT (u s : ByteArray) : (u.toList == s.toList) = decide (u = s) := by
  by_cases h : u = s
  · rw [bytes_same h, decide_eq_true h]
  · rw [bytes_parts h, decide_eq_false h]
set_option maxHeartbeats 2000000 in
theorem dropIn (g B : Nat) (cb : Array Value) (k : Nat) (x : Lh.Fl) (bo : Bool) (eg : ∀ args w, (callFunc g args).run Tryd.prog w = .ok (.enter g args) w) (hB : W.cell? ⟨B, 0, none⟩ = some (.func (.func g) #[] cb))
    (hw : ∀ W', Below W.heap.size W W' → Calls Tryd.prog g (#[valF x] ++ cb) W' fun e w' => e = .returned (.bool bo) ∧ Below W'.heap.size W' w') :
    Calls Tryd.prog 123 #[.int .u64 (k : Nat), valF x, .pointer (some ⟨B, 0, none⟩)] W fun e W' => e = .returned (.bool bo) ∧ Below W.heap.size W W' := by
  have hb0 : Below W.heap.size W (W.alloc (.cells #[.int .u64 (x.1 : Nat), .string x.2.1, .int .i64 x.2.2] 88)) := (Below.refl _ _).alloc (Nat.le_refl _) _
  have hc := hw _ hb0
  have hB' := below_cell hb0 hB
  clear hw
  unfold valF at hc ⊢
  go_enter Tryd.func123, Tryd.ntmps123
  go_wp2_with fail
  refine hc.mono ?_
  rintro e w1 ⟨rfl, hb1⟩
  clear hc
  go_wp2
  go_ret
  exact ⟨rfl, below_then hb0 hb1⟩

set_option maxHeartbeats 2000000 in
theorem expireC (B : Nat) (now : Int) (x : Lh.Fl) (hB : W.cell? ⟨B, 0, none⟩ = some (.int .i64 now)) :
    Calls Tryd.prog 97 #[valF x, .pointer (some ⟨B, 0, none⟩)] W fun e W' => e = .returned (.bool (decide (x.2.2 ≤ now))) ∧ Below W.heap.size W W' := by
  have hb0 : Below W.heap.size W (W.alloc (.cells #[.int .u64 (x.1 : Nat), .string x.2.1, .int .i64 x.2.2] 88)) := (Below.refl _ _).alloc (Nat.le_refl _) _
  have hB' := below_cell hb0 hB
  unfold valF
  generalize x.2.2 = u at *
  go_enter Tryd.func97, Tryd.ntmps97
  go_wp2
  go_ret
  exact ⟨rfl, hb0⟩

set_option maxHeartbeats 2000000 in
theorem dropC (B : Nat) (s : ByteArray) (x : Lh.Fl) (hB : W.cell? ⟨B, 0, none⟩ = some (.string s)) :
    Calls Tryd.prog 92 #[valF x, .pointer (some ⟨B, 0, none⟩)] W fun e W' => e = .returned (.bool (decide (x.2.1 = s))) ∧ Below W.heap.size W W' := by
  have hb0 : Below W.heap.size W (W.alloc (.cells #[.int .u64 (x.1 : Nat), .string x.2.1, .int .i64 x.2.2] 88)) := (Below.refl _ _).alloc (Nat.le_refl _) _
  have hB' := below_cell hb0 hB
  unfold valF
  generalize x.2.1 = u at *
  go_enter Tryd.func92, Tryd.ntmps92
  go_wp2
  go_ret
  exact ⟨by rw [← beqT u s]; rfl, hb0⟩

set_option maxHeartbeats 4000000 in
/-- drop: those go of whom which says so. -/
theorem dropF (h : FR W p mb t la L) (hp : L.Pairwise fun x y => x.1 < y.1) (hl : L.length ≤ 1000) (pd : Lh.Fl → Bool) (g : Nat) (cb : Array Value) (eg : ∀ args w, (callFunc g args).run Tryd.prog w = .ok (.enter g args) w)
    (hw : ∀ W' x, Tur (fun b => b = mb) W W' → x ∈ L → Calls Tryd.prog g (#[valF x] ++ cb) W' fun e w' => e = .returned (.bool (pd x)) ∧ Below W'.heap.size W' w') :
    Calls Tryd.prog 91 #[.pointer (some ⟨p, 0, none⟩), .func (.func g) #[] cb] W fun e W' => e = .returned (.int .i64 ((L.length - (L.filter fun x => !pd x).length : Nat) : Int)) ∧ FR W' p mb t la (L.filter fun x => !pd x) ∧ Tur (fun b => b = mb) W W' := by
  obtain ⟨M, hM⟩ : ∃ M, (L.filter fun x => !pd x) = M := ⟨_, rfl⟩
  rw [hM]
  have hb0 : Below W.heap.size W (W.alloc (.cells #[.func (.func g) #[] cb] 145)) := (Below.refl _ _).alloc (Nat.le_refl _) _
  have h0 := h.later hb0
  have hbox : (W.alloc (.cells #[.func (.func g) #[] cb] 145)).cell? ⟨W.heap.size, 0, none⟩ = some (.func (.func g) #[] cb) := by simp
  have hlen0 := fun ty => h0.own.len Tryd.underlying139 ty
  rw [FD_size] at hlen0
  have hmlt := h.mlt
  have hle : M.length ≤ L.length := by rw [← hM]; exact List.length_filter_le _ _
  have hdel := delFuncF pd 123 #[.pointer (some ⟨W.heap.size, 0, none⟩)] mb L.length L hp (W.alloc (.cells #[.func (.func g) #[] cb] 145)) (enters_of Tryd.func123 (by kernel_rfl) rfl) h0.own (fun W1 x hg hx => by
    have hb1 : W1.cell? ⟨W.heap.size, 0, none⟩ = some (.func (.func g) #[] cb) := by
      rw [World.cell?_of_block (w := W.alloc (.cells #[.func (.func g) #[] cb] 145)) (w' := W1) (a := ⟨W.heap.size, 0, none⟩) (hg.block _ (by simp) (fun e => by cases e; exact absurd hmlt (Nat.lt_irrefl _)))]
      exact hbox
    refine (dropIn g W.heap.size cb x.1 x (pd x) eg hb1 fun W2 hb2 => hw W2 x ?_ hx).mono fun e w' ⟨q1, q2⟩ => ⟨q1, grown_of_below q2⟩
    refine ⟨hb2.os.trans (hg.os.trans hb0.os), hb2.tape.trans (hg.tape.trans hb0.tape), hb2.output.trans (hg.output.trans hb0.output), Nat.le_trans hb0.size (Nat.le_trans hg.size hb2.size), fun k hk hne => ?_⟩
    exact (hb2.block k (Nat.lt_of_lt_of_le hk (Nat.le_trans hb0.size hg.size))).trans ((hg.block k (Nat.lt_of_lt_of_le hk hb0.size) (fun e => hne (by cases e; rfl))).trans (hb0.block k hk)))
  rw [hM] at hdel
  have c2 := h0.c2
  have H : Hid (FR W p mb t la L) := h
  have HB0 : Hid (Below W.heap.size W (W.alloc (.cells #[.func (.func g) #[] cb] 145))) := hb0
  clear hw h hbox hb0 h0 hM
  go_enter Tryd.func91, Tryd.ntmps91
  go_wp2_with fail
  refine hdel.mono ?_
  rintro e w1 ⟨rfl, hown, hg⟩
  have hT : Tur (fun b => b = mb) W w1 := ⟨hg.os.trans HB0.out.os, hg.tape.trans HB0.out.tape, hg.output.trans HB0.out.output, Nat.le_trans HB0.out.size hg.size, fun k hk hne => (hg.block k (Nat.lt_of_lt_of_le hk HB0.out.size) (fun e => hne (by cases e; rfl))).trans (HB0.out.block k hk)⟩
  have hpb : w1.heap[p]? = W.heap[p]? := hT.block p H.out.plt H.out.ne
  have own2 := ownsMap_tight hown
  rw [FD_size] at own2
  have hlen1 := fun ty => own2.len Tryd.underlying139 ty
  rw [FD_size] at hlen1
  have hfin : FR w1 p mb t la M := ⟨(World.cell?_of_block (w := W) (w' := w1) (a := ⟨p, 0, none⟩) hpb).trans H.out.c0, (World.cell?_of_block (w := W) (w' := w1) (a := ⟨p, 1, none⟩) hpb).trans H.out.c1, (World.cell?_of_block (w := W) (w' := w1) (a := ⟨p, 2, none⟩) hpb).trans H.out.c2, fun k => (World.frozen?_of_block (w := W) (w' := w1) (a := ⟨p, k, none⟩) hpb).trans (H.out.fz k), own2, H.out.ne⟩
  have HFIN : Hid (FR w1 p mb t la M) := hfin
  have HT : Hid (Tur (fun b => b = mb) W w1) := hT
  have k2 := hfin.c2
  clear hdel hown hg hT hpb own2 hfin c2 hlen0
  have hsub : IntKind.i64.wrap ((L.length : Int) - (M.length : Int)) = ((L.length - M.length : Nat) : Int) := by
    rw [IntKind.wrap_i64]; omega
  have HR : Hid (∀ r : Int, IntKind.i64.wrap ((L.length : Int) - (M.length : Int)) = r → r = ((L.length - M.length : Nat) : Int)) := fun r e => e.symm.trans hsub
  clear hsub
  generalize hr : IntKind.i64.wrap ((L.length : Int) - (M.length : Int)) = r at *
  have HE : Hid (r = ((L.length - M.length : Nat) : Int)) := HR.out r rfl
  clear HR hle
  go_wp2
  go_ret
  exact ⟨by rw [← HE.out]; rfl, HFIN.out, HT.out⟩
end
end Go.Proofs.YtijdaaghomclmabDoor
