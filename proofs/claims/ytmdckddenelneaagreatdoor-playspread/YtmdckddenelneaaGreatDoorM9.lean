/- The landed flows: has, isFull, isName. -/
import Derived.Test.YtmdckddenelneaaGreatDoorM8
import Derived.Maps.RangeWalk
import Derived.Laws.IdiomRangeMap
import Derived.Deep.LoopGhost
import Derived.Test.YtmdckddenelneaaGreatDoorM0
import Derived.Test.YtmdckddenelneaaGreatDoorM2
import Derived.Maps.OwnOps
import Derived.Maps.OwnSet
import Derived.Carry
namespace Go.Proofs.YtmdckddenelneaaGreatDoor
open Go.RowKit Go.Maps Go.ChangeMaps
section
variable {W W' : World} {p mb t : Nat} {la : Int} {L : List Lh.Fl}

theorem zeroFl (w : World) : (zeroValue 82).run Tryz.prog w = .ok (valF (0, ⟨#[]⟩, 0)) w := Tryz.zeroValue82 w
theorem wfK {z : Nat} (h : z < 18446744073709551616) : (Lit.int .u64 (z : Nat)).wf = true := by
  simp [Lit.wf, IntKind.min, IntKind.max, IntKind.signed, IntKind.bits]
  omega
theorem keyK (z : Nat) (h : z < 18446744073709551616) : keyOf Tryz.prog 27 (.int .u64 (z : Nat)) = some (keyF z) := keyOf_int_mk Tryz.underlying27 (wfK h)
/-- 'v, ok := m[k]' -/
theorem FR.look (h : FR W p mb t la L) (k : Nat) (hk : k < 18446744073709551616) : (∃ hx : Lh.fix L k < L.length, (Instr.lookup 119 (.map (some mb)) (.int .u64 (k : Nat)) true).run Tryz.prog W = .ok (.tuple #[.agg #[.int .u64 ((L[Lh.fix L k]).1 : Nat), .string (L[Lh.fix L k]).2.1, .int .i64 (L[Lh.fix L k]).2.2], .bool true]) W) ∨
    (¬ Lh.fix L k < L.length ∧ (Instr.lookup 119 (.map (some mb)) (.int .u64 (k : Nat)) true).run Tryz.prog W = .ok (.tuple #[.agg #[.int .u64 0, .string ⟨#[]⟩, .int .i64 0], .bool false]) W) := by
  obtain ⟨v, ps, hrun, hv⟩ := h.own.look_ok u64Keyed Tryz.underlying119 (zeroFl W) (flElem_mk _) (keyK k hk)
  rw [FD_has] at hrun
  by_cases hx : Lh.fix L k < L.length
  · rw [FD_hit hx] at hv
    obtain rfl := flElem_inv hv
    rw [decide_eq_true hx] at hrun
    exact Or.inl ⟨hx, hrun⟩
  · rw [FD_miss hx] at hv
    obtain rfl := flElem_inv hv
    rw [decide_eq_false hx] at hrun
    exact Or.inr ⟨hx, hrun⟩

set_option maxHeartbeats 2000000 in
theorem hasF_any (h : FR W p mb t la L) (k : Nat) (hk : k < 18446744073709551616) :
    Calls Tryz.prog 165 #[.pointer (some ⟨p, 0, none⟩), .int .u64 (k : Nat)] W fun e W' => e = .returned (.bool (decide (Lh.fix L k < L.length))) ∧ Below W.heap.size W W' := by
  have c2 := h.c2
  rcases h.look k hk with ⟨hx, hrun⟩ | ⟨hx, hrun⟩
  · rw [decide_eq_true hx]
    generalize (L[Lh.fix L k]) = z at hrun
    clear h hx
    go_enter Tryz.func165, Tryz.ntmps165
    go_wp2
    go_ret
    exact ⟨rfl, (Below.refl _ _).alloc (Nat.le_refl _) _⟩
  · rw [decide_eq_false hx]
    clear h hx
    go_enter Tryz.func165, Tryz.ntmps165
    go_wp2
    go_ret
    exact ⟨rfl, (Below.refl _ _).alloc (Nat.le_refl _) _⟩

set_option maxHeartbeats 2000000 in
theorem fullF_any (h : FR W p mb t la L) :
    Calls Tryz.prog 166 #[.pointer (some ⟨p, 0, none⟩)] W fun e W' => e = .returned (.bool (decide (200 ≤ L.length))) ∧ Below W.heap.size W W' := by
  have c2 := h.c2
  have hlen := fun ty => h.own.len Tryz.underlying119 ty
  rw [FD_size] at hlen
  clear h
  have d : decide ((200 : Int) ≤ (L.length : Int)) = decide (200 ≤ L.length) := decide_eq_decide.2 (by omega)
  go_enter Tryz.func166, Tryz.ntmps166
  go_wp2
  go_ret
  exact ⟨rfl, Below.refl _ _⟩

theorem fault_lone {s : ByteArray} {c : Nat} {pl : Int} (h : IsFault [s] c pl) : (Lh.isNm s = true ∧ c = 0) ∨ (Lh.isNm s = false ∧ c ≠ 0) := by
  rcases h with ⟨h, _⟩ | ⟨_, i, hi, _, _, hc⟩ | ⟨_, h, hc, _⟩
  · simp at h
  · have : i = 0 := by simp at hi; omega
    subst this
    rcases hc with ⟨h, rfl⟩ | ⟨_, h, _⟩
    · exact Or.inr ⟨h, by decide⟩
    · simp [Lh.mem] at h
  · exact Or.inl ⟨(h 0 (by simp)).1, hc⟩
set_option maxHeartbeats 2000000 in
theorem isNameF_any (a : Nat → Addr) (he : EF a W) (s : ByteArray) (hs : s.size ≤ 300) :
    Calls Tryz.prog 164 #[.string s] W fun e W' => e = .returned (.bool (Lh.isNm s)) ∧ Below W.heap.size W W' := by
  have hb0 : Below W.heap.size W (W.alloc (.cells #[.string s] 9)) := (Below.refl _ _).alloc (Nat.le_refl _) _
  obtain ⟨c, pl, hf⟩ := isFault_ex [s]
  have hchk := check_any4 a (.slice (some ⟨W.heap.size, 0, none⟩) 1 1) [s] (W.alloc (.cells #[.string s] 9)) c pl (he.e4.later hb0) (Or.inr ⟨_, _, _, rfl, Nat.le_refl _, fun k h => by
    have : k = 0 := by simp at h; omega
    subst this
    simp⟩) hf (fun k h => by
    have : k = 0 := by simp at h; omega
    subst this
    simp; omega) (by simp)
  have HF : Hid ((Lh.isNm s = true ∧ c = 0) ∨ (Lh.isNm s = false ∧ c ≠ 0)) := fault_lone hf
  clear he hf
  go_enter Tryz.func164, Tryz.ntmps164
  go_wp2_with fail
  refine hchk.mono ?_
  rintro e w1 ⟨ev, rfl, hev, hb1⟩
  have hb : Below W.heap.size W w1 := below_then hb0 hb1
  clear hchk
  rcases HF.out with ⟨h1, rfl⟩ | ⟨h1, h2⟩
  · obtain rfl := err0 hev
    have H1 : Hid (_ = _) := h1
    clear hev h1 HF
    go_wp2
    go_ret
    exact ⟨by rw [H1.out]; rfl, hb⟩
  · obtain ⟨t, x, rfl⟩ := errPos hev h2
    have H1 : Hid (_ = _) := h1
    clear hev h1 HF
    go_wp2
    go_ret
    exact ⟨by rw [H1.out]; rfl, hb⟩
end
end Go.Proofs.YtmdckddenelneaaGreatDoor

/- maps.DeleteFunc of a map of flows. -/
namespace Go.Proofs.YtmdckddenelneaaGreatDoor
open Go.RowKit Go.Maps Go.ChangeMaps Go.Shelf

/-- those that stay, and those that are still to come -/
def stayF (L : List Lh.Fl) (pd : Lh.Fl → Bool) (left : Lit → Bool) : List Lh.Fl := L.filter fun x => left (keyF x.1) || !pd x
theorem stayF_start (L : List Lh.Fl) (pd : Lh.Fl → Bool) : stayF L pd (has (FD L)) = L := by
  unfold stayF
  rw [List.filter_eq_self]
  intro x hx
  rw [FD_has, decide_eq_true (Lh.fix_lt.2 ⟨x, hx, rfl⟩)]
  rfl
theorem stayF_end {L : List Lh.Fl} {pd : Lh.Fl → Bool} {left : Lit → Bool} (h : ∀ kl, left kl = false) : stayF L pd left = L.filter fun x => !pd x := by
  unfold stayF
  exact List.filter_congr fun x _ => by rw [h]; rfl
theorem stayF_no {L : List Lh.Fl} {pd : Lh.Fl → Bool} {left : Lit → Bool} (hp : L.Pairwise fun x y => x.1 < y.1) {x : Lh.Fl} (hx : x ∈ L) (hl : left (keyF x.1) = true) (hd : pd x = false) : stayF L pd (fun z => left z && !z.sameKey (keyF x.1)) = stayF L pd left := by
  unfold stayF
  refine List.filter_congr fun y hy => ?_
  simp only [same_keyF]
  by_cases e : y.1 = x.1
  · obtain rfl := rise_inj hp hy hx e
    simp [hl, hd]
  · simp [e]
theorem stayF_yes {L : List Lh.Fl} {pd : Lh.Fl → Bool} {left : Lit → Bool} (hp : L.Pairwise fun x y => x.1 < y.1) {x : Lh.Fl} (hx : x ∈ L) (hd : pd x = true) : stayF L pd (fun z => left z && !z.sameKey (keyF x.1)) = (stayF L pd left).filter fun y => !decide (y.1 = x.1) := by
  unfold stayF
  rw [List.filter_filter]
  refine List.filter_congr fun y hy => ?_
  simp only [same_keyF]
  by_cases e : y.1 = x.1
  · obtain rfl := rise_inj hp hy hx e
    simp [hd]
  · simp [e]
theorem key_of_lit {key : Value} {k : Nat} (h : keyOf Tryz.prog 27 key = some (keyF k)) : key = .int .u64 (k : Nat) := by
  obtain ⟨x, rfl, e, _⟩ := keyOf_int_inv Tryz.underlying27 h
  simp only [keyF, Lit.int.injEq, true_and] at e
  rw [← e]

set_option maxHeartbeats 4000000 in
set_option maxRecDepth 100000 in
theorem delFuncF (pd : Lh.Fl → Bool) (g : Nat) (cb : Array Value) (b nn : Nat) (L : List Lh.Fl) (hp : L.Pairwise fun x y => x.1 < y.1) (w : World)
    (eg : ∀ args w, (callFunc g args).run Tryz.prog w = .ok (.enter g args) w) (hown : w.ownsMap Tryz.prog 27 flElem b nn (FD L))
    (hdel : ∀ (W : World) (x : Lh.Fl), w.grownBy W (some b) → x ∈ L → Calls Tryz.prog g (#[.int .u64 (x.1 : Nat), valF x] ++ cb) W fun e w' => e = .returned (.bool (pd x)) ∧ W.grownBy w' none) :
    Calls Tryz.prog 180 #[.map (some b), .func (.func g) #[] cb] w fun e w' => e = .returned (.tuple #[]) ∧ w'.ownsMap Tryz.prog 27 flElem b nn (FD (L.filter fun x => !pd x)) ∧ w.grownBy w' (some b) := by
  have HD : Aside _ := hdel
  clear hdel
  go_enter Tryz.func180, Tryz.ntmps180
  go_wp2_with (first
    | (at_range; refine wpList_range_own _ rfl _ 119 rfl 27 82 u64Keyed Tryz.underlying119 flElem b nn _ rfl hown ?_; intro w0 hrg0 hg0 hs0)
    | go_in)
  go_frame
  go_loopw [8] (fun _ wr => ∃ (left : Lit → Bool) (cnt : Nat), wr.ranges Tryz.prog 27 flElem b w.heap.size nn (FD (stayF L pd left)) left cnt ∧ w.grownBy wr (some b))
    (fun _ wr => wr.rangeLeft b w.heap.size)
  case atStart => exact ⟨_, _, by rw [stayF_start]; exact hrg0, hg0.but _⟩
  case round =>
    obtain ⟨left, cnt, hrg, hgw⟩ := hrel
    go_wp2_with (first
      | (at_next; refine wpList_next_ranges _ rfl _ rfl 27 u64Keyed flElem id id (fun key _ _ => ⟨key, rfl⟩) (fun v _ _ => ⟨v, rfl⟩) b w.heap.size nn _ _ _ rfl hrg ?_ ?_)
      | go_in)
    · intro _ hl0
      go_wp2
      go_end0
      exact ⟨rfl, by rw [← stayF_end hl0]; exact hrg.owns, hgw⟩
    · intro key c kl yd yp w1 cnt1 hkey hlx hv hat hrg1 hlt hg1 hs1 hen
      obtain ⟨x, hx', rfl, rfl⟩ := FD_at_all hat
      obtain rfl : c = valF x := flElem_inv hv
      obtain rfl := key_of_lit hkey
      have hx : x ∈ L := (List.mem_filter.1 hx').1
      have hgw1 := hgw.andThen hg1 (fun j hj => by cases hj; exact Or.inl (Nat.le_refl _))
      have hga := World.grownBy_alloc w1 (.cells #[.int .u64 (x.1 : Nat), .string x.2.1, .int .i64 x.2.2] 82) none
      have hgw2 := hgw1.andThen hga (fun j hj => by cases hj)
      have hrg2 := hrg1.kept hga (by simp) (by simp)
      have hc := HD.out _ x hgw2 hx
      have hbl := hrg1.owns.lt
      have hrl := hrg1.lt
      clear hv hat hx' hs1
      unfold valF at hen hc
      cases hpd : pd x <;> rw [hpd] at hc
      · go_wp2_with fail
        refine hc.mono ?_
        rintro e w2 ⟨rfl, hg2⟩
        have hrg3 := hrg2.kept hg2 (by simp) (by simp)
        go_wp2
        go_roundw
        case rel => exact ⟨_, cnt1, by rw [stayF_no hp hx hlx hpd]; exact hrg3, hgw2.andThen hg2 (fun j hj => by cases hj)⟩
        case measure => rw [hrg3.left_eq, hrg.left_eq]; exact hlt
      · go_wp2_with fail
        refine hc.mono ?_
        rintro e w2 ⟨rfl, hg2⟩
        have hrg3 := hrg2.kept hg2 (by simp) (by simp)
        go_wp2_with (first
          | (at_delete; refine wpList_delete_ranges _ rfl _ _ 119 27 rfl 82 u64Keyed Tryz.underlying119 flElem b w.heap.size nn _ _ _ rfl hrg3 _ _ rfl hkey ?_; intro w3 cnt3 hrg4 hle hturn; go_frame)
          | go_in)
        rw [strike_twice, FD_del, ← stayF_yes hp hx hpd] at hrg4
        go_roundw
        case rel => exact ⟨_, cnt3, hrg4, (hgw2.andThen hg2 (fun j hj => by cases hj)).andThen hturn.grown (fun j hj => by cases hj; exact Or.inr rfl)⟩
        case measure => rw [hrg4.left_eq, hrg.left_eq]; omega
end Go.Proofs.YtmdckddenelneaaGreatDoor

/- The landed flows: drop, Expire, Drop. -/
namespace Go.Proofs.YtmdckddenelneaaGreatDoor
open Go.RowKit Go.Maps Go.ChangeMaps Go.Shelf
section
variable {W W' : World} {p mb t : Nat} {la : Int} {L : List Lh.Fl}

theorem grown_of_below (h : Below W.heap.size W W') : W.grownBy W' none := ⟨h.os, h.tape, h.output, h.size, fun k hk _ => h.block k hk⟩
theorem beqT (u s : ByteArray) : (u.toList == s.toList) = decide (u = s) := by
  by_cases h : u = s
  · rw [bytes_same h, decide_eq_true h]
  · rw [bytes_parts h, decide_eq_false h]
set_option maxHeartbeats 2000000 in
theorem dropIn (g B : Nat) (cb : Array Value) (k : Nat) (x : Lh.Fl) (bo : Bool) (eg : ∀ args w, (callFunc g args).run Tryz.prog w = .ok (.enter g args) w) (hB : W.cell? ⟨B, 0, none⟩ = some (.func (.func g) #[] cb))
    (hw : ∀ W', Below W.heap.size W W' → Calls Tryz.prog g (#[valF x] ++ cb) W' fun e w' => e = .returned (.bool bo) ∧ Below W'.heap.size W' w') :
    Calls Tryz.prog 181 #[.int .u64 (k : Nat), valF x, .pointer (some ⟨B, 0, none⟩)] W fun e W' => e = .returned (.bool bo) ∧ Below W.heap.size W W' := by
  have hb0 : Below W.heap.size W (W.alloc (.cells #[.int .u64 (x.1 : Nat), .string x.2.1, .int .i64 x.2.2] 82)) := (Below.refl _ _).alloc (Nat.le_refl _) _
  have hc := hw _ hb0
  have hB' := below_cell hb0 hB
  clear hw
  unfold valF at hc ⊢
  go_enter Tryz.func181, Tryz.ntmps181
  go_wp2_with fail
  refine hc.mono ?_
  rintro e w1 ⟨rfl, hb1⟩
  clear hc
  go_wp2
  go_ret
  exact ⟨rfl, below_then hb0 hb1⟩

set_option maxHeartbeats 2000000 in
theorem dropC (B : Nat) (s : ByteArray) (x : Lh.Fl) (hB : W.cell? ⟨B, 0, none⟩ = some (.string s)) :
    Calls Tryz.prog 156 #[valF x, .pointer (some ⟨B, 0, none⟩)] W fun e W' => e = .returned (.bool (decide (x.2.1 = s))) ∧ Below W.heap.size W W' := by
  have hb0 : Below W.heap.size W (W.alloc (.cells #[.int .u64 (x.1 : Nat), .string x.2.1, .int .i64 x.2.2] 82)) := (Below.refl _ _).alloc (Nat.le_refl _) _
  have hB' := below_cell hb0 hB
  unfold valF
  generalize x.2.1 = u at *
  go_enter Tryz.func156, Tryz.ntmps156
  go_wp2
  go_ret
  exact ⟨by rw [← beqT u s]; rfl, hb0⟩

set_option maxHeartbeats 4000000 in
/-- drop: those go of whom which says so. -/
theorem dropF (h : FR W p mb t la L) (hp : L.Pairwise fun x y => x.1 < y.1) (hl : L.length ≤ 1000) (pd : Lh.Fl → Bool) (g : Nat) (cb : Array Value) (eg : ∀ args w, (callFunc g args).run Tryz.prog w = .ok (.enter g args) w)
    (hw : ∀ W' x, Tur (fun b => b = mb) W W' → x ∈ L → Calls Tryz.prog g (#[valF x] ++ cb) W' fun e w' => e = .returned (.bool (pd x)) ∧ Below W'.heap.size W' w') :
    Calls Tryz.prog 155 #[.pointer (some ⟨p, 0, none⟩), .func (.func g) #[] cb] W fun e W' => e = .returned (.int .i64 ((L.length - (L.filter fun x => !pd x).length : Nat) : Int)) ∧ FR W' p mb t la (L.filter fun x => !pd x) ∧ Tur (fun b => b = mb) W W' := by
  obtain ⟨M, hM⟩ : ∃ M, (L.filter fun x => !pd x) = M := ⟨_, rfl⟩
  rw [hM]
  have hb0 : Below W.heap.size W (W.alloc (.cells #[.func (.func g) #[] cb] 175)) := (Below.refl _ _).alloc (Nat.le_refl _) _
  have h0 := h.later hb0
  have hbox : (W.alloc (.cells #[.func (.func g) #[] cb] 175)).cell? ⟨W.heap.size, 0, none⟩ = some (.func (.func g) #[] cb) := by simp
  have hlen0 := fun ty => h0.own.len Tryz.underlying119 ty
  rw [FD_size] at hlen0
  have hmlt := h.mlt
  have hle : M.length ≤ L.length := by rw [← hM]; exact List.length_filter_le _ _
  have hdel := delFuncF pd 181 #[.pointer (some ⟨W.heap.size, 0, none⟩)] mb L.length L hp (W.alloc (.cells #[.func (.func g) #[] cb] 175)) (enters_of Tryz.func181 (by kernel_rfl) rfl) h0.own (fun W1 x hg hx => by
    have hb1 : W1.cell? ⟨W.heap.size, 0, none⟩ = some (.func (.func g) #[] cb) := by
      rw [World.cell?_of_block (w := W.alloc (.cells #[.func (.func g) #[] cb] 175)) (w' := W1) (a := ⟨W.heap.size, 0, none⟩) (hg.block _ (by simp) (fun e => by cases e; exact absurd hmlt (Nat.lt_irrefl _)))]
      exact hbox
    refine (dropIn g W.heap.size cb x.1 x (pd x) eg hb1 fun W2 hb2 => hw W2 x ?_ hx).mono fun e w' ⟨q1, q2⟩ => ⟨q1, grown_of_below q2⟩
    refine ⟨hb2.os.trans (hg.os.trans hb0.os), hb2.tape.trans (hg.tape.trans hb0.tape), hb2.output.trans (hg.output.trans hb0.output), Nat.le_trans hb0.size (Nat.le_trans hg.size hb2.size), fun k hk hne => ?_⟩
    exact (hb2.block k (Nat.lt_of_lt_of_le hk (Nat.le_trans hb0.size hg.size))).trans ((hg.block k (Nat.lt_of_lt_of_le hk hb0.size) (fun e => hne (by cases e; rfl))).trans (hb0.block k hk)))
  rw [hM] at hdel
  have c2 := h0.c2
  have H : Hid (FR W p mb t la L) := h
  have HB0 : Hid (Below W.heap.size W (W.alloc (.cells #[.func (.func g) #[] cb] 175))) := hb0
  clear hw h hbox hb0 h0 hM
  go_enter Tryz.func155, Tryz.ntmps155
  go_wp2_with fail
  refine hdel.mono ?_
  rintro e w1 ⟨rfl, hown, hg⟩
  have hT : Tur (fun b => b = mb) W w1 := ⟨hg.os.trans HB0.out.os, hg.tape.trans HB0.out.tape, hg.output.trans HB0.out.output, Nat.le_trans HB0.out.size hg.size, fun k hk hne => (hg.block k (Nat.lt_of_lt_of_le hk HB0.out.size) (fun e => hne (by cases e; rfl))).trans (HB0.out.block k hk)⟩
  have hpb : w1.heap[p]? = W.heap[p]? := hT.block p H.out.plt H.out.ne
  have own2 := ownsMap_tight hown
  rw [FD_size] at own2
  have hlen1 := fun ty => own2.len Tryz.underlying119 ty
  rw [FD_size] at hlen1
  have hfin : FR w1 p mb t la M := ⟨(World.cell?_of_block (w := W) (w' := w1) (a := ⟨p, 0, none⟩) hpb).trans H.out.c0, (World.cell?_of_block (w := W) (w' := w1) (a := ⟨p, 1, none⟩) hpb).trans H.out.c1, (World.cell?_of_block (w := W) (w' := w1) (a := ⟨p, 2, none⟩) hpb).trans H.out.c2, fun k => (World.frozen?_of_block (w := W) (w' := w1) (a := ⟨p, k, none⟩) hpb).trans (H.out.fz k), own2, H.out.ne⟩
  have HFIN : Hid (FR w1 p mb t la M) := hfin
  have HT : Hid (Tur (fun b => b = mb) W w1) := hT
  have k2 := hfin.c2
  clear hdel hown hg hT hpb own2 hfin c2 hlen0
  have hsub : IntKind.i64.wrap ((L.length : Int) - (M.length : Int)) = ((L.length - M.length : Nat) : Int) := by
    rw [IntKind.wrap_i64]; omega
  have HR : Hid (∀ r : Int, IntKind.i64.wrap ((L.length : Int) - (M.length : Int)) = r → r = ((L.length - M.length : Nat) : Int)) := fun r e => e.symm.trans hsub
  clear hsub
  generalize hr : IntKind.i64.wrap ((L.length : Int) - (M.length : Int)) = r at *
  have HE : Hid (r = ((L.length - M.length : Nat) : Int)) := HR.out r rfl
  clear HR hle
  go_wp2
  go_ret
  exact ⟨by rw [← HE.out]; rfl, HFIN.out, HT.out⟩
end
end Go.Proofs.YtmdckddenelneaaGreatDoor

/- The landed flows: Expire, Drop, Get. -/
namespace Go.Proofs.YtmdckddenelneaaGreatDoor
open Go.RowKit Go.Maps Go.ChangeMaps Go.Shelf
section
variable {W W' : World} {p mb t : Nat} {la : Int} {L : List Lh.Fl}

theorem Tur.behind {F : Nat → Prop} {w w1 w2 : World} (h : Tur F w w1) (hb : Below w1.heap.size w1 w2) : Tur F w w2 :=
  ⟨hb.os.trans h.os, hb.tape.trans h.tape, hb.output.trans h.output, Nat.le_trans h.size hb.size, fun j hj hf => (hb.block j (Nat.lt_of_lt_of_le hj h.size)).trans (h.block j hj hf)⟩
theorem Tur.wide {F G : Nat → Prop} {w w1 : World} (h : Tur F w w1) (hG : ∀ b, F b → G b) : Tur G w w1 := ⟨h.os, h.tape, h.output, h.size, fun k hk hf => h.block k hk fun hb => hf (hG k hb)⟩
/-- the world behind 'f.latest = now', where only new blocks were laid ahead -/
theorem FR.ticked {W1 : World} (h : FR W p mb t la L) (hb : Below W.heap.size W W1) (now : Int) : FR (W1.setCell ⟨p, 1, none⟩ (.int .i64 now)) p mb t now L ∧ Tur (FFt p mb) W (W1.setCell ⟨p, 1, none⟩ (.int .i64 now)) :=
  ⟨(h.later hb).tick now, (Tur.of_below hb).trans (Tur.ticked now) fun _ hg => Or.inl hg⟩

set_option maxHeartbeats 4000000 in
theorem dropF_any (h : FR W p mb t la L) (hk : Lh.FlOk L) (s : ByteArray) :
    Calls Tryz.prog 112 #[.pointer (some ⟨p, 0, none⟩), .string s] W fun e W' => e = .returned (.int .i64 ((L.length - (Lh.fdrop L s).length : Nat) : Int)) ∧ FR W' p mb t la (Lh.fdrop L s) ∧ Tur (FFt p mb) W W' := by
  have hb0 : Below W.heap.size W (W.alloc (.cells #[.string s] 9)) := (Below.refl _ _).alloc (Nat.le_refl _) _
  have hbox : (W.alloc (.cells #[.string s] 9)).cell? ⟨W.heap.size, 0, none⟩ = some (.string s) := by simp
  have hmlt := h.mlt
  have hdr := dropF (h.later hb0) hk.rise (Nat.le_trans hk.len (by omega)) (fun x => decide (x.2.1 = s)) 156 #[.pointer (some ⟨W.heap.size, 0, none⟩)] (enters_of Tryz.func156 (by kernel_rfl) rfl) (fun W3 x hT _ => dropC W.heap.size s x (by
    rw [World.cell?_of_block (w := W.alloc (.cells #[.string s] 9)) (w' := W3) (a := ⟨W.heap.size, 0, none⟩) (hT.block _ (by simp) (fun e => by simp at e; omega))]
    exact hbox))
  clear hmlt hbox h
  go_enter Tryz.func112, Tryz.ntmps112
  go_wp2_with fail
  refine hdr.mono ?_
  rintro e w2 ⟨rfl, hF, hT⟩
  have HF : Hid (FR w2 p mb t la (Lh.fdrop L s)) := hF
  have HTT : Hid (Tur (FFt p mb) W w2) := (Tur.of_below hb0).trans hT fun b hb => Or.inl (Or.inr hb)
  clear hdr hF hT
  go_wp2
  go_ret
  exact ⟨rfl, HF.out, HTT.out⟩

set_option maxHeartbeats 2000000 in
theorem getF_bad (a : Nat → Addr) (he : EF a W) (h : FR W p mb t la L) (k : Nat) (now : Int) (j : Nat) (hf : TickF la now j) :
    Calls Tryz.prog 116 #[.pointer (some ⟨p, 0, none⟩), .int .u64 (k : Nat), .int .i64 now] W fun e W' => e = .returned (.tuple #[.string ByteArray.empty, .bool false, .iface 331 (.pointer (some (a j)))]) ∧ Below W.heap.size W W' := by
  have hchk := checkF_bad a he h now j hf
  clear h he
  go_enter Tryz.func116, Tryz.ntmps116
  go_wp2_with fail
  refine hchk.mono ?_
  rintro e w1 ⟨rfl, hb1⟩
  clear hchk
  go_wp2
  go_ret3
  exact ⟨rfl, hb1⟩

set_option maxHeartbeats 4000000 in
theorem getF_ok (h : FR W p mb t la L) (k : Nat) (hk : k < 18446744073709551616) (now : Int) (hok : TickOk la now) :
    Calls Tryz.prog 116 #[.pointer (some ⟨p, 0, none⟩), .int .u64 (k : Nat), .int .i64 now] W fun e W' => FR W' p mb t now L ∧ Tur (FFt p mb) W W' ∧
      ((∃ h : Lh.fix L k < L.length, now < (L[Lh.fix L k]).2.2 ∧ e = .returned (.tuple #[.string (L[Lh.fix L k]).2.1, .bool true, .nilIface])) ∨ ((∀ h : Lh.fix L k < L.length, (L[Lh.fix L k]).2.2 ≤ now) ∧ e = .returned (.tuple #[.string ByteArray.empty, .bool false, .nilIface]))) := by
  have hchk := checkF_ok h now hok
  have H : Hid (FR W p mb t la L) := h
  clear h
  go_enter Tryz.func116, Tryz.ntmps116
  go_wp2_with fail
  refine hchk.mono ?_
  rintro e w1 ⟨rfl, hb1⟩
  have h1 := H.out.later hb1
  obtain ⟨h2, hT2⟩ := H.out.ticked hb1 now
  have f1 := h1.fz 1
  have c1 := h1.c1
  have H2 : Hid (FR (w1.setCell ⟨p, 1, none⟩ (.int .i64 now)) p mb t now L) := h2
  have HT2 : Hid (Tur (FFt p mb) W (w1.setCell ⟨p, 1, none⟩ (.int .i64 now))) := hT2
  have HLK := h2.look k hk
  have k2 := h2.c2
  clear hchk h1 h2 hT2 hb1
  rcases HLK with ⟨hx, hrun⟩ | ⟨hx, hrun⟩
  · obtain ⟨z, hz⟩ : ∃ z, L[Lh.fix L k] = z := ⟨_, rfl⟩
    rw [hz] at hrun
    have HZ : Hid (L[Lh.fix L k] = z) := hz
    have HX : Hid (Lh.fix L k < L.length) := hx
    clear hz
    by_cases hu : z.2.2 ≤ now
    · have d : decide (z.2.2 ≤ now) = true := by simpa using hu
      go_wp2
      go_ret3
      refine ⟨H2.out.later ((Below.refl _ _).alloc (Nat.le_refl _) _), HT2.out.behind ((Below.refl _ _).alloc (Nat.le_refl _) _), Or.inr ⟨fun _ => ?_, rfl⟩⟩
      rw [HZ.out]
      exact hu
    · have d : decide (z.2.2 ≤ now) = false := by simpa using hu
      go_wp2
      go_ret3
      refine ⟨H2.out.later ((Below.refl _ _).alloc (Nat.le_refl _) _), HT2.out.behind ((Below.refl _ _).alloc (Nat.le_refl _) _), Or.inl ⟨HX.out, ?_, ?_⟩⟩
      · rw [HZ.out]
        omega
      · rw [HZ.out]
        rfl
  · have HX : Hid (¬ Lh.fix L k < L.length) := hx
    go_wp2
    go_ret3
    exact ⟨H2.out.later ((Below.refl _ _).alloc (Nat.le_refl _) _), HT2.out.behind ((Below.refl _ _).alloc (Nat.le_refl _) _), Or.inr ⟨fun hx' => absurd hx' HX.out, rfl⟩⟩
end
end Go.Proofs.YtmdckddenelneaaGreatDoor

/- Filling evenly, as numbers: how many keys a host may have, the first one that has fewer, where all keys go. -/
namespace Go.Proofs.YtmdckddenelneaaGreatDoor
namespace Lh

/-- one key more: it goes to the first of its hosts that has fewer than may be -/
def put1 (most : Nat) (out : List Nat) (o : List Nat) : List Nat :=
  match o.find? fun h => decide (out.count h < most) with
  | some h => out ++ [h]
  | none => out
/-- where all go -/
def places (most : Nat) (os : List (List Nat)) : List Nat := os.foldl (put1 most) []
end Lh
end Go.Proofs.YtmdckddenelneaaGreatDoor

/- Maps of the call's own: numbers by name, and keys that were seen. -/
namespace Go.Proofs.YtmdckddenelneaaGreatDoor
open Go.RowKit Go.Maps Go.ChangeMaps

theorem fkeyS (s : ByteArray) (hs : s.size ≤ 300) : keyOf Tryz.prog 9 (.string s) = some (.string s.data.toList) := Go.WideMaps.keyOf_string_mk Tryz.underlying9 (Nat.le_trans hs (by unfold maxLen; omega))
theorem wfU {z : Nat} (h : z < 18446744073709551616) : (Lit.int .u64 (z : Nat)).wf = true := by
  simp [Lit.wf, IntKind.min, IntKind.max, IntKind.signed, IntKind.bits]
  omega
theorem fkeyU (z : Nat) (h : z < 18446744073709551616) : keyOf Tryz.prog 27 (.int .u64 (z : Nat)) = some (.int .u64 (z : Nat)) := keyOf_int_mk Tryz.underlying27 (wfU h)
theorem wfI {n : Nat} (h : n ≤ 1000000) : (Lit.int .i64 (n : Nat)).wf = true := by
  simp [Lit.wf, IntKind.min, IntKind.max, IntKind.signed, IntKind.bits]
  omega
theorem strs_lit_ne {s t : ByteArray} (h : s ≠ t) : Lit.string s.data.toList ≠ Lit.string t.data.toList := by
  intro e
  simp only [Lit.string.injEq] at e
  apply h
  cases s
  cases t
  simpa using e
theorem ownsMap_later {k : TypeId} {R : Value → Option (DataW Unit × List MemPlace)} {w w' : World} {b n : Nat} {D : DataW Unit} (h : w.ownsMap Tryz.prog k R b n D) (he : w'.heap[b]? = w.heap[b]?) : w'.ownsMap Tryz.prog k R b n D := by
  obtain ⟨es, clock, hb, r⟩ := h
  exact ⟨es, clock, he.trans hb, r⟩

end Go.Proofs.YtmdckddenelneaaGreatDoor
