/- The landed flows: has, isFull, isName. -/
import Derived.Test.YtfhmfjcpggddkaaGreatDoorM16
import Derived.Test.YtfhmfjcpggddkaaGreatDoorM9
import Derived.Maps.RangeWalk
import Derived.Laws.IdiomRangeMap
import Derived.Deep.LoopGhost
import Derived.Test.YtfhmfjcpggddkaaGreatDoorM4
import Derived.Test.YtfhmfjcpggddkaaGreatDoorM10
import Derived.Lib.SliceRun
namespace Go.Proofs.YtfhmfjcpggddkaaGreatDoor
open Go.RowKit Go.Maps Go.ChangeMaps
section
variable {W W' : World} {p mb t : Nat} {la : Int} {L : List Lh.Fl}

theorem zeroFl (w : World) : (zeroValue 80).run Tryz.prog w = .ok (valF (0, ⟨#[]⟩, 0)) w := Tryz.zeroValue80 w
theorem wfK {z : Nat} (h : z < 18446744073709551616) : (Lit.int .u64 (z : Nat)).wf = true := by
  simp [Lit.wf, IntKind.min, IntKind.max, IntKind.signed, IntKind.bits]
  omega
theorem keyK (z : Nat) (h : z < 18446744073709551616) : keyOf Tryz.prog 63 (.int .u64 (z : Nat)) = some (keyF z) := keyOf_int_mk Tryz.underlying63 (wfK h)
/-- 'v, ok := m[k]' -/
theorem FR.look (h : FR W p mb t la L) (k : Nat) (hk : k < 18446744073709551616) : (∃ hx : Lh.fix L k < L.length, (Instr.lookup 251 (.map (some mb)) (.int .u64 (k : Nat)) true).run Tryz.prog W = .ok (.tuple #[.agg #[.int .u64 ((L[Lh.fix L k]).1 : Nat), .string (L[Lh.fix L k]).2.1, .int .i64 (L[Lh.fix L k]).2.2], .bool true]) W) ∨
    (¬ Lh.fix L k < L.length ∧ (Instr.lookup 251 (.map (some mb)) (.int .u64 (k : Nat)) true).run Tryz.prog W = .ok (.tuple #[.agg #[.int .u64 0, .string ⟨#[]⟩, .int .i64 0], .bool false]) W) := by
  obtain ⟨v, ps, hrun, hv⟩ := h.own.look_ok u64Keyed Tryz.underlying251 (zeroFl W) (flElem_mk _) (keyK k hk)
  rw [FD_has] at hrun
  by_cases hx : Lh.fix L k < L.length
  · rw [FD_hit hx] at hv
    obtain rfl := flElem_inv hv
    rw [decide_eq_true hx] at hrun
    exact Or.inl ⟨hx, hrun⟩
  · rw [FD_miss hx] at hv
    obtain rfl := flElem_inv hv
    rw [decide_eq_false hx] at hrun
    exact Or.inr ⟨hx, hrun⟩

set_option maxHeartbeats 2000000 in
theorem hasF_any (h : FR W p mb t la L) (k : Nat) (hk : k < 18446744073709551616) :
    Calls Tryz.prog 193 #[.pointer (some ⟨p, 0, none⟩), .int .u64 (k : Nat)] W fun e W' => e = .returned (.bool (decide (Lh.fix L k < L.length))) ∧ Below W.heap.size W W' := by
  have c2 := h.c2
  rcases h.look k hk with ⟨hx, hrun⟩ | ⟨hx, hrun⟩
  · rw [decide_eq_true hx]
    generalize (L[Lh.fix L k]) = z at hrun
    clear h hx
    go_enter Tryz.func193, Tryz.ntmps193
    go_wp2
    go_ret
    exact ⟨rfl, (Below.refl _ _).alloc (Nat.le_refl _) _⟩
  · rw [decide_eq_false hx]
    clear h hx
    go_enter Tryz.func193, Tryz.ntmps193
    go_wp2
    go_ret
    exact ⟨rfl, (Below.refl _ _).alloc (Nat.le_refl _) _⟩

set_option maxHeartbeats 2000000 in
theorem fullF_any (h : FR W p mb t la L) :
    Calls Tryz.prog 194 #[.pointer (some ⟨p, 0, none⟩)] W fun e W' => e = .returned (.bool (decide (200 ≤ L.length))) ∧ Below W.heap.size W W' := by
  have c2 := h.c2
  have hlen := fun ty => h.own.len Tryz.underlying251 ty
  rw [FD_size] at hlen
  clear h
  have d : decide ((200 : Int) ≤ (L.length : Int)) = decide (200 ≤ L.length) := decide_eq_decide.2 (by omega)
  go_enter Tryz.func194, Tryz.ntmps194
  go_wp2
  go_ret
  exact ⟨rfl, Below.refl _ _⟩

theorem fault_lone {s : ByteArray} {c : Nat} {pl : Int} (h : IsFault [s] c pl) : (Lh.isNm s = true ∧ c = 0) ∨ (Lh.isNm s = false ∧ c ≠ 0) := by
  rcases h with ⟨h, _⟩ | ⟨_, i, hi, _, _, hc⟩ | ⟨_, h, hc, _⟩
  · simp at h
  · have : i = 0 := by simp at hi; omega
    subst this
    rcases hc with ⟨h, rfl⟩ | ⟨_, h, _⟩
    · exact Or.inr ⟨h, by decide⟩
    · simp [Lh.mem] at h
  · exact Or.inl ⟨(h 0 (by simp)).1, hc⟩
set_option maxHeartbeats 2000000 in
theorem isNameF_any (a : Nat → Addr) (he : EF a W) (s : ByteArray) (hs : s.size ≤ 300) :
    Calls Tryz.prog 192 #[.string s] W fun e W' => e = .returned (.bool (Lh.isNm s)) ∧ Below W.heap.size W W' := by
  have hb0 : Below W.heap.size W (W.alloc (.cells #[.string s] 9)) := (Below.refl _ _).alloc (Nat.le_refl _) _
  obtain ⟨c, pl, hf⟩ := isFault_ex [s]
  have hchk := check_any4 a (.slice (some ⟨W.heap.size, 0, none⟩) 1 1) [s] (W.alloc (.cells #[.string s] 9)) c pl (he.e4.later hb0) (Or.inr ⟨_, _, _, rfl, Nat.le_refl _, fun k h => by
    have : k = 0 := by simp at h; omega
    subst this
    simp⟩) hf (fun k h => by
    have : k = 0 := by simp at h; omega
    subst this
    simp; omega) (by simp)
  have HF : Hid ((Lh.isNm s = true ∧ c = 0) ∨ (Lh.isNm s = false ∧ c ≠ 0)) := fault_lone hf
  clear he hf
  go_enter Tryz.func192, Tryz.ntmps192
  go_wp2_with fail
  refine hchk.mono ?_
  rintro e w1 ⟨ev, rfl, hev, hb1⟩
  have hb : Below W.heap.size W w1 := below_then hb0 hb1
  clear hchk
  rcases HF.out with ⟨h1, rfl⟩ | ⟨h1, h2⟩
  · obtain rfl := err0 hev
    have H1 : Hid (_ = _) := h1
    clear hev h1 HF
    go_wp2
    go_ret
    exact ⟨by rw [H1.out]; rfl, hb⟩
  · obtain ⟨t, x, rfl⟩ := errPos hev h2
    have H1 : Hid (_ = _) := h1
    clear hev h1 HF
    go_wp2
    go_ret
    exact ⟨by rw [H1.out]; rfl, hb⟩
end
end Go.Proofs.YtfhmfjcpggddkaaGreatDoor

/- maps.DeleteFunc of a map of flows. -/
namespace Go.Proofs.YtfhmfjcpggddkaaGreatDoor
open Go.RowKit Go.Maps Go.ChangeMaps Go.Shelf

/-- those that stay, and those that are still to come -/
def stayF (L : List Lh.Fl) (pd : Lh.Fl → Bool) (left : Lit → Bool) : List Lh.Fl := L.filter fun x => left (keyF x.1) || !pd x
theorem stayF_start (L : List Lh.Fl) (pd : Lh.Fl → Bool) : stayF L pd (has (FD L)) = L := by
  unfold stayF
  rw [List.filter_eq_self]
  intro x hx
  rw [FD_has, decide_eq_true (Lh.fix_lt.2 ⟨x, hx, rfl⟩)]
  rfl
theorem stayF_end {L : List Lh.Fl} {pd : Lh.Fl → Bool} {left : Lit → Bool} (h : ∀ kl, left kl = false) : stayF L pd left = L.filter fun x => !pd x := by
  unfold stayF
  exact List.filter_congr fun x _ => by rw [h]; rfl
theorem stayF_no {L : List Lh.Fl} {pd : Lh.Fl → Bool} {left : Lit → Bool} (hp : L.Pairwise fun x y => x.1 < y.1) {x : Lh.Fl} (hx : x ∈ L) (hl : left (keyF x.1) = true) (hd : pd x = false) : stayF L pd (fun z => left z && !z.sameKey (keyF x.1)) = stayF L pd left := by
  unfold stayF
  refine List.filter_congr fun y hy => ?_
  simp only [same_keyF]
  by_cases e : y.1 = x.1
  · obtain rfl := rise_inj hp hy hx e
    simp [hl, hd]
  · simp [e]
theorem stayF_yes {L : List Lh.Fl} {pd : Lh.Fl → Bool} {left : Lit → Bool} (hp : L.Pairwise fun x y => x.1 < y.1) {x : Lh.Fl} (hx : x ∈ L) (hd : pd x = true) : stayF L pd (fun z => left z && !z.sameKey (keyF x.1)) = (stayF L pd left).filter fun y => !decide (y.1 = x.1) := by
  unfold stayF
  rw [List.filter_filter]
  refine List.filter_congr fun y hy => ?_
  simp only [same_keyF]
  by_cases e : y.1 = x.1
  · obtain rfl := rise_inj hp hy hx e
    simp [hd]
  · simp [e]
theorem key_of_lit {key : Value} {k : Nat} (h : keyOf Tryz.prog 63 key = some (keyF k)) : key = .int .u64 (k : Nat) := by
  obtain ⟨x, rfl, e, _⟩ := keyOf_int_inv Tryz.underlying63 h
  simp only [keyF, Lit.int.injEq, true_and] at e
  rw [← e]

set_option maxHeartbeats 4000000 in
set_option maxRecDepth 100000 in
theorem delFuncF (pd : Lh.Fl → Bool) (g : Nat) (cb : Array Value) (b nn : Nat) (L : List Lh.Fl) (hp : L.Pairwise fun x y => x.1 < y.1) (w : World)
    (eg : ∀ args w, (callFunc g args).run Tryz.prog w = .ok (.enter g args) w) (hown : w.ownsMap Tryz.prog 63 flElem b nn (FD L))
    (hdel : ∀ (W : World) (x : Lh.Fl), w.grownBy W (some b) → x ∈ L → Calls Tryz.prog g (#[.int .u64 (x.1 : Nat), valF x] ++ cb) W fun e w' => e = .returned (.bool (pd x)) ∧ W.grownBy w' none) :
    Calls Tryz.prog 198 #[.map (some b), .func (.func g) #[] cb] w fun e w' => e = .returned (.tuple #[]) ∧ w'.ownsMap Tryz.prog 63 flElem b nn (FD (L.filter fun x => !pd x)) ∧ w.grownBy w' (some b) := by
  have HD : Aside _ := hdel
  clear hdel
  go_enter Tryz.func198, Tryz.ntmps198
  go_wp2_with (first
    | (at_range; refine wpList_range_own _ rfl _ 251 rfl 63 80 u64Keyed Tryz.underlying251 flElem b nn _ rfl hown ?_; intro w0 hrg0 hg0 hs0)
    | go_in)
  go_frame
  go_loopw [8] (fun _ wr => ∃ (left : Lit → Bool) (cnt : Nat), wr.ranges Tryz.prog 63 flElem b w.heap.size nn (FD (stayF L pd left)) left cnt ∧ w.grownBy wr (some b))
    (fun _ wr => wr.rangeLeft b w.heap.size)
  case atStart => exact ⟨_, _, by rw [stayF_start]; exact hrg0, hg0.but _⟩
  case round =>
    obtain ⟨left, cnt, hrg, hgw⟩ := hrel
    go_wp2_with (first
      | (at_next; refine wpList_next_ranges _ rfl _ rfl 63 u64Keyed flElem id id (fun key _ _ => ⟨key, rfl⟩) (fun v _ _ => ⟨v, rfl⟩) b w.heap.size nn _ _ _ rfl hrg ?_ ?_)
      | go_in)
    · intro _ hl0
      go_wp2
      go_end0
      exact ⟨rfl, by rw [← stayF_end hl0]; exact hrg.owns, hgw⟩
    · intro key c kl yd yp w1 cnt1 hkey hlx hv hat hrg1 hlt hg1 hs1 hen
      obtain ⟨x, hx', rfl, rfl⟩ := FD_at_all hat
      obtain rfl : c = valF x := flElem_inv hv
      obtain rfl := key_of_lit hkey
      have hx : x ∈ L := (List.mem_filter.1 hx').1
      have hgw1 := hgw.andThen hg1 (fun j hj => by cases hj; exact Or.inl (Nat.le_refl _))
      have hga := World.grownBy_alloc w1 (.cells #[.int .u64 (x.1 : Nat), .string x.2.1, .int .i64 x.2.2] 80) none
      have hgw2 := hgw1.andThen hga (fun j hj => by cases hj)
      have hrg2 := hrg1.kept hga (by simp) (by simp)
      have hc := HD.out _ x hgw2 hx
      have hbl := hrg1.owns.lt
      have hrl := hrg1.lt
      clear hv hat hx' hs1
      unfold valF at hen hc
      cases hpd : pd x <;> rw [hpd] at hc
      · go_wp2_with fail
        refine hc.mono ?_
        rintro e w2 ⟨rfl, hg2⟩
        have hrg3 := hrg2.kept hg2 (by simp) (by simp)
        go_wp2
        go_roundw
        case rel => exact ⟨_, cnt1, by rw [stayF_no hp hx hlx hpd]; exact hrg3, hgw2.andThen hg2 (fun j hj => by cases hj)⟩
        case measure => rw [hrg3.left_eq, hrg.left_eq]; exact hlt
      · go_wp2_with fail
        refine hc.mono ?_
        rintro e w2 ⟨rfl, hg2⟩
        have hrg3 := hrg2.kept hg2 (by simp) (by simp)
        go_wp2_with (first
          | (at_delete; refine wpList_delete_ranges _ rfl _ _ 251 63 rfl 80 u64Keyed Tryz.underlying251 flElem b w.heap.size nn _ _ _ rfl hrg3 _ _ rfl hkey ?_; intro w3 cnt3 hrg4 hle hturn; go_frame)
          | go_in)
        rw [strike_twice, FD_del, ← stayF_yes hp hx hpd] at hrg4
        go_roundw
        case rel => exact ⟨_, cnt3, hrg4, (hgw2.andThen hg2 (fun j hj => by cases hj)).andThen hturn.grown (fun j hj => by cases hj; exact Or.inr rfl)⟩
        case measure => rw [hrg4.left_eq, hrg.left_eq]; omega
end Go.Proofs.YtfhmfjcpggddkaaGreatDoor

/- The landed flows: drop, Expire, Drop. -/
namespace Go.Proofs.YtfhmfjcpggddkaaGreatDoor
open Go.RowKit Go.Maps Go.ChangeMaps Go.Shelf
section
variable {W W' : World} {p mb t : Nat} {la : Int} {L : List Lh.Fl}

theorem grown_of_below (h : Below W.heap.size W W') : W.grownBy W' none := ⟨h.os, h.tape, h.output, h.size, fun k hk _ => h.block k hk⟩
theorem beqT (u s : ByteArray) : (u.toList == s.toList) = decide (u = s) := by
  by_cases h : u = s
  · rw [bytes_same h, decide_eq_true h]
  · rw [bytes_parts h, decide_eq_false h]
set_option maxHeartbeats 2000000 in
theorem dropIn (g B : Nat) (cb : Array Value) (k : Nat) (x : Lh.Fl) (bo : Bool) (eg : ∀ args w, (callFunc g args).run Tryz.prog w = .ok (.enter g args) w) (hB : W.cell? ⟨B, 0, none⟩ = some (.func (.func g) #[] cb))
    (hw : ∀ W', Below W.heap.size W W' → Calls Tryz.prog g (#[valF x] ++ cb) W' fun e w' => e = .returned (.bool bo) ∧ Below W'.heap.size W' w') :
    Calls Tryz.prog 199 #[.int .u64 (k : Nat), valF x, .pointer (some ⟨B, 0, none⟩)] W fun e W' => e = .returned (.bool bo) ∧ Below W.heap.size W W' := by
  have hb0 : Below W.heap.size W (W.alloc (.cells #[.int .u64 (x.1 : Nat), .string x.2.1, .int .i64 x.2.2] 80)) := (Below.refl _ _).alloc (Nat.le_refl _) _
  have hc := hw _ hb0
  have hB' := below_cell hb0 hB
  clear hw
  unfold valF at hc ⊢
  go_enter Tryz.func199, Tryz.ntmps199
  go_wp2_with fail
  refine hc.mono ?_
  rintro e w1 ⟨rfl, hb1⟩
  clear hc
  go_wp2
  go_ret
  exact ⟨rfl, below_then hb0 hb1⟩

set_option maxHeartbeats 2000000 in
theorem dropC (B : Nat) (s : ByteArray) (x : Lh.Fl) (hB : W.cell? ⟨B, 0, none⟩ = some (.string s)) :
    Calls Tryz.prog 158 #[valF x, .pointer (some ⟨B, 0, none⟩)] W fun e W' => e = .returned (.bool (decide (x.2.1 = s))) ∧ Below W.heap.size W W' := by
  have hb0 : Below W.heap.size W (W.alloc (.cells #[.int .u64 (x.1 : Nat), .string x.2.1, .int .i64 x.2.2] 80)) := (Below.refl _ _).alloc (Nat.le_refl _) _
  have hB' := below_cell hb0 hB
  unfold valF
  generalize x.2.1 = u at *
  go_enter Tryz.func158, Tryz.ntmps158
  go_wp2
  go_ret
  exact ⟨by rw [← beqT u s]; rfl, hb0⟩

set_option maxHeartbeats 4000000 in
/-- drop: those go of whom which says so. -/
theorem dropF (h : FR W p mb t la L) (hp : L.Pairwise fun x y => x.1 < y.1) (hl : L.length ≤ 1000) (pd : Lh.Fl → Bool) (g : Nat) (cb : Array Value) (eg : ∀ args w, (callFunc g args).run Tryz.prog w = .ok (.enter g args) w)
    (hw : ∀ W' x, Tur (fun b => b = mb) W W' → x ∈ L → Calls Tryz.prog g (#[valF x] ++ cb) W' fun e w' => e = .returned (.bool (pd x)) ∧ Below W'.heap.size W' w') :
    Calls Tryz.prog 157 #[.pointer (some ⟨p, 0, none⟩), .func (.func g) #[] cb] W fun e W' => e = .returned (.int .i64 ((L.length - (L.filter fun x => !pd x).length : Nat) : Int)) ∧ FR W' p mb t la (L.filter fun x => !pd x) ∧ Tur (fun b => b = mb) W W' := by
  obtain ⟨M, hM⟩ : ∃ M, (L.filter fun x => !pd x) = M := ⟨_, rfl⟩
  rw [hM]
  have hb0 : Below W.heap.size W (W.alloc (.cells #[.func (.func g) #[] cb] 223)) := (Below.refl _ _).alloc (Nat.le_refl _) _
  have h0 := h.later hb0
  have hbox : (W.alloc (.cells #[.func (.func g) #[] cb] 223)).cell? ⟨W.heap.size, 0, none⟩ = some (.func (.func g) #[] cb) := by simp
  have hlen0 := fun ty => h0.own.len Tryz.underlying251 ty
  rw [FD_size] at hlen0
  have hmlt := h.mlt
  have hle : M.length ≤ L.length := by rw [← hM]; exact List.length_filter_le _ _
  have hdel := delFuncF pd 199 #[.pointer (some ⟨W.heap.size, 0, none⟩)] mb L.length L hp (W.alloc (.cells #[.func (.func g) #[] cb] 223)) (enters_of Tryz.func199 (by kernel_rfl) rfl) h0.own (fun W1 x hg hx => by
    have hb1 : W1.cell? ⟨W.heap.size, 0, none⟩ = some (.func (.func g) #[] cb) := by
      rw [World.cell?_of_block (w := W.alloc (.cells #[.func (.func g) #[] cb] 223)) (w' := W1) (a := ⟨W.heap.size, 0, none⟩) (hg.block _ (by simp) (fun e => by cases e; exact absurd hmlt (Nat.lt_irrefl _)))]
      exact hbox
    refine (dropIn g W.heap.size cb x.1 x (pd x) eg hb1 fun W2 hb2 => hw W2 x ?_ hx).mono fun e w' ⟨q1, q2⟩ => ⟨q1, grown_of_below q2⟩
    refine ⟨hb2.os.trans (hg.os.trans hb0.os), hb2.tape.trans (hg.tape.trans hb0.tape), hb2.output.trans (hg.output.trans hb0.output), Nat.le_trans hb0.size (Nat.le_trans hg.size hb2.size), fun k hk hne => ?_⟩
    exact (hb2.block k (Nat.lt_of_lt_of_le hk (Nat.le_trans hb0.size hg.size))).trans ((hg.block k (Nat.lt_of_lt_of_le hk hb0.size) (fun e => hne (by cases e; rfl))).trans (hb0.block k hk)))
  rw [hM] at hdel
  have c2 := h0.c2
  have H : Hid (FR W p mb t la L) := h
  have HB0 : Hid (Below W.heap.size W (W.alloc (.cells #[.func (.func g) #[] cb] 223))) := hb0
  clear hw h hbox hb0 h0 hM
  go_enter Tryz.func157, Tryz.ntmps157
  go_wp2_with fail
  refine hdel.mono ?_
  rintro e w1 ⟨rfl, hown, hg⟩
  have hT : Tur (fun b => b = mb) W w1 := ⟨hg.os.trans HB0.out.os, hg.tape.trans HB0.out.tape, hg.output.trans HB0.out.output, Nat.le_trans HB0.out.size hg.size, fun k hk hne => (hg.block k (Nat.lt_of_lt_of_le hk HB0.out.size) (fun e => hne (by cases e; rfl))).trans (HB0.out.block k hk)⟩
  have hpb : w1.heap[p]? = W.heap[p]? := hT.block p H.out.plt H.out.ne
  have own2 := ownsMap_tight hown
  rw [FD_size] at own2
  have hlen1 := fun ty => own2.len Tryz.underlying251 ty
  rw [FD_size] at hlen1
  have hfin : FR w1 p mb t la M := ⟨(World.cell?_of_block (w := W) (w' := w1) (a := ⟨p, 0, none⟩) hpb).trans H.out.c0, (World.cell?_of_block (w := W) (w' := w1) (a := ⟨p, 1, none⟩) hpb).trans H.out.c1, (World.cell?_of_block (w := W) (w' := w1) (a := ⟨p, 2, none⟩) hpb).trans H.out.c2, fun k => (World.frozen?_of_block (w := W) (w' := w1) (a := ⟨p, k, none⟩) hpb).trans (H.out.fz k), own2, H.out.ne⟩
  have HFIN : Hid (FR w1 p mb t la M) := hfin
  have HT : Hid (Tur (fun b => b = mb) W w1) := hT
  have k2 := hfin.c2
  clear hdel hown hg hT hpb own2 hfin c2 hlen0
  have hsub : IntKind.i64.wrap ((L.length : Int) - (M.length : Int)) = ((L.length - M.length : Nat) : Int) := by
    rw [IntKind.wrap_i64]; omega
  have HR : Hid (∀ r : Int, IntKind.i64.wrap ((L.length : Int) - (M.length : Int)) = r → r = ((L.length - M.length : Nat) : Int)) := fun r e => e.symm.trans hsub
  clear hsub
  generalize hr : IntKind.i64.wrap ((L.length : Int) - (M.length : Int)) = r at *
  have HE : Hid (r = ((L.length - M.length : Nat) : Int)) := HR.out r rfl
  clear HR hle
  go_wp2
  go_ret
  exact ⟨by rw [← HE.out]; rfl, HFIN.out, HT.out⟩
end
end Go.Proofs.YtfhmfjcpggddkaaGreatDoor

/- The landed flows: Expire, Drop, Get. -/
namespace Go.Proofs.YtfhmfjcpggddkaaGreatDoor
open Go.RowKit Go.Maps Go.ChangeMaps Go.Shelf
section
variable {W W' : World} {p mb t : Nat} {la : Int} {L : List Lh.Fl}

theorem Tur.behind {F : Nat → Prop} {w w1 w2 : World} (h : Tur F w w1) (hb : Below w1.heap.size w1 w2) : Tur F w w2 :=
  ⟨hb.os.trans h.os, hb.tape.trans h.tape, hb.output.trans h.output, Nat.le_trans h.size hb.size, fun j hj hf => (hb.block j (Nat.lt_of_lt_of_le hj h.size)).trans (h.block j hj hf)⟩
theorem Tur.wide {F G : Nat → Prop} {w w1 : World} (h : Tur F w w1) (hG : ∀ b, F b → G b) : Tur G w w1 := ⟨h.os, h.tape, h.output, h.size, fun k hk hf => h.block k hk fun hb => hf (hG k hb)⟩
/-- the world behind 'f.latest = now', where only new blocks were laid ahead -/
theorem FR.ticked {W1 : World} (h : FR W p mb t la L) (hb : Below W.heap.size W W1) (now : Int) : FR (W1.setCell ⟨p, 1, none⟩ (.int .i64 now)) p mb t now L ∧ Tur (FFt p mb) W (W1.setCell ⟨p, 1, none⟩ (.int .i64 now)) :=
  ⟨(h.later hb).tick now, (Tur.of_below hb).trans (Tur.ticked now) fun _ hg => Or.inl hg⟩

set_option maxHeartbeats 4000000 in
theorem dropF_any (h : FR W p mb t la L) (hk : Lh.FlOk L) (s : ByteArray) :
    Calls Tryz.prog 100 #[.pointer (some ⟨p, 0, none⟩), .string s] W fun e W' => e = .returned (.int .i64 ((L.length - (Lh.fdrop L s).length : Nat) : Int)) ∧ FR W' p mb t la (Lh.fdrop L s) ∧ Tur (FFt p mb) W W' := by
  have hb0 : Below W.heap.size W (W.alloc (.cells #[.string s] 9)) := (Below.refl _ _).alloc (Nat.le_refl _) _
  have hbox : (W.alloc (.cells #[.string s] 9)).cell? ⟨W.heap.size, 0, none⟩ = some (.string s) := by simp
  have hmlt := h.mlt
  have hdr := dropF (h.later hb0) hk.rise (Nat.le_trans hk.len (by omega)) (fun x => decide (x.2.1 = s)) 158 #[.pointer (some ⟨W.heap.size, 0, none⟩)] (enters_of Tryz.func158 (by kernel_rfl) rfl) (fun W3 x hT _ => dropC W.heap.size s x (by
    rw [World.cell?_of_block (w := W.alloc (.cells #[.string s] 9)) (w' := W3) (a := ⟨W.heap.size, 0, none⟩) (hT.block _ (by simp) (fun e => by simp at e; omega))]
    exact hbox))
  clear hmlt hbox h
  go_enter Tryz.func100, Tryz.ntmps100
  go_wp2_with fail
  refine hdr.mono ?_
  rintro e w2 ⟨rfl, hF, hT⟩
  have HF : Hid (FR w2 p mb t la (Lh.fdrop L s)) := hF
  have HTT : Hid (Tur (FFt p mb) W w2) := (Tur.of_below hb0).trans hT fun b hb => Or.inl (Or.inr hb)
  clear hdr hF hT
  go_wp2
  go_ret
  exact ⟨rfl, HF.out, HTT.out⟩

set_option maxHeartbeats 2000000 in
theorem getF_bad (a : Nat → Addr) (he : EF a W) (h : FR W p mb t la L) (k : Nat) (now : Int) (j : Nat) (hf : TickF la now j) :
    Calls Tryz.prog 152 #[.pointer (some ⟨p, 0, none⟩), .int .u64 (k : Nat), .int .i64 now] W fun e W' => e = .returned (.tuple #[.string ByteArray.empty, .bool false, .iface 378 (.pointer (some (a j)))]) ∧ Below W.heap.size W W' := by
  have hchk := checkF_bad a he h now j hf
  clear h he
  go_enter Tryz.func152, Tryz.ntmps152
  go_wp2_with fail
  refine hchk.mono ?_
  rintro e w1 ⟨rfl, hb1⟩
  clear hchk
  go_wp2
  go_ret3
  exact ⟨rfl, hb1⟩

set_option maxHeartbeats 4000000 in
theorem getF_ok (h : FR W p mb t la L) (k : Nat) (hk : k < 18446744073709551616) (now : Int) (hok : TickOk la now) :
    Calls Tryz.prog 152 #[.pointer (some ⟨p, 0, none⟩), .int .u64 (k : Nat), .int .i64 now] W fun e W' => FR W' p mb t now L ∧ Tur (FFt p mb) W W' ∧
      ((∃ h : Lh.fix L k < L.length, now < (L[Lh.fix L k]).2.2 ∧ e = .returned (.tuple #[.string (L[Lh.fix L k]).2.1, .bool true, .nilIface])) ∨ ((∀ h : Lh.fix L k < L.length, (L[Lh.fix L k]).2.2 ≤ now) ∧ e = .returned (.tuple #[.string ByteArray.empty, .bool false, .nilIface]))) := by
  have hchk := checkF_ok h now hok
  have H : Hid (FR W p mb t la L) := h
  clear h
  go_enter Tryz.func152, Tryz.ntmps152
  go_wp2_with fail
  refine hchk.mono ?_
  rintro e w1 ⟨rfl, hb1⟩
  have h1 := H.out.later hb1
  obtain ⟨h2, hT2⟩ := H.out.ticked hb1 now
  have f1 := h1.fz 1
  have c1 := h1.c1
  have H2 : Hid (FR (w1.setCell ⟨p, 1, none⟩ (.int .i64 now)) p mb t now L) := h2
  have HT2 : Hid (Tur (FFt p mb) W (w1.setCell ⟨p, 1, none⟩ (.int .i64 now))) := hT2
  have HLK := h2.look k hk
  have k2 := h2.c2
  clear hchk h1 h2 hT2 hb1
  rcases HLK with ⟨hx, hrun⟩ | ⟨hx, hrun⟩
  · obtain ⟨z, hz⟩ : ∃ z, L[Lh.fix L k] = z := ⟨_, rfl⟩
    rw [hz] at hrun
    have HZ : Hid (L[Lh.fix L k] = z) := hz
    have HX : Hid (Lh.fix L k < L.length) := hx
    clear hz
    by_cases hu : z.2.2 ≤ now
    · have d : decide (z.2.2 ≤ now) = true := by simpa using hu
      go_wp2
      go_ret3
      refine ⟨H2.out.later ((Below.refl _ _).alloc (Nat.le_refl _) _), HT2.out.behind ((Below.refl _ _).alloc (Nat.le_refl _) _), Or.inr ⟨fun _ => ?_, rfl⟩⟩
      rw [HZ.out]
      exact hu
    · have d : decide (z.2.2 ≤ now) = false := by simpa using hu
      go_wp2
      go_ret3
      refine ⟨H2.out.later ((Below.refl _ _).alloc (Nat.le_refl _) _), HT2.out.behind ((Below.refl _ _).alloc (Nat.le_refl _) _), Or.inl ⟨HX.out, ?_, ?_⟩⟩
      · rw [HZ.out]
        omega
      · rw [HZ.out]
        rfl
  · have HX : Hid (¬ Lh.fix L k < L.length) := hx
    go_wp2
    go_ret3
    exact ⟨H2.out.later ((Below.refl _ _).alloc (Nat.le_refl _) _), HT2.out.behind ((Below.refl _ _).alloc (Nat.le_refl _) _), Or.inr ⟨fun hx' => absurd hx' HX.out, rfl⟩⟩
end
end Go.Proofs.YtfhmfjcpggddkaaGreatDoor

/- The landed balance in memory: a block, a health, a map of those that are drained, flows. -/
namespace Go.Proofs.YtfhmfjcpggddkaaGreatDoor
open Go.RowKit Go.Shelf Go.Maps Go.ChangeMaps

/-- a datum that is a set of names -/
def SetN (D : DataW Unit) (dr : List ByteArray) : Prop := IsMap D ∧ Maps.size D = dr.length ∧ ∀ s : ByteArray, has D (.string s.data.toList) = decide (s ∈ dr)
theorem SetN.zero : SetN (.map []) [] := ⟨isMap_empty, rfl, fun _ => by simp [has]⟩
theorem filter_out {dr : List ByteArray} {s : ByteArray} (h : s ∉ dr) : (dr.filter fun x => !decide (x = s)) = dr := List.filter_eq_self.2 fun x hx => by
  have : x ≠ s := fun e => h (e ▸ hx)
  simpa using this
theorem filter_len {dr : List ByteArray} {s : ByteArray} (hn : dr.Nodup) (h : s ∈ dr) : (dr.filter fun x => !decide (x = s)).length + 1 = dr.length := by
  induction dr with
  | nil => cases h
  | cons x l ih =>
    rw [List.nodup_cons] at hn
    by_cases e : x = s
    · subst e
      rw [List.filter_cons_of_neg (by simp), filter_out hn.1]
      rfl
    · have hm : s ∈ l := by
        rcases List.mem_cons.1 h with h | h
        · exact absurd h.symm e
        · exact h
      rw [List.filter_cons_of_pos (by simpa using e), List.length_cons, List.length_cons, ih hn.2 hm]
theorem bdrain_mem {dr : List ByteArray} {s z : ByteArray} {is : Bool} : z ∈ Lh.bdrain dr s is ↔ (z ∈ dr ∧ z ≠ s) ∨ (is = true ∧ z = s) := by
  unfold Lh.bdrain
  rw [List.mem_append, List.mem_filter]
  cases is <;> simp
theorem SetN.put {D : DataW Unit} {dr : List ByteArray} (h : SetN D dr) (ht : Tidy D) (hn : dr.Nodup) (s : ByteArray) : SetN (D.put (.string s.data.toList) (.agg [])) (Lh.bdrain dr s true) := by
  refine ⟨h.1.put _ _, ?_, fun z => ?_⟩
  · rw [size_put ht, h.2.2 s, h.2.1]
    unfold Lh.bdrain
    rw [List.length_append]
    by_cases hm : s ∈ dr
    · have := filter_len hn hm
      simp [hm]
      omega
    · rw [filter_out hm]
      simp [hm]
  · by_cases e : z = s
    · subst e
      rw [has_put_same (k := .string _) h.1 (by simp [WideAt.IsKeyLit])]
      simp [bdrain_mem]
    · rw [has_put_other (strs_lit_ne e), h.2.2 z]
      simp [bdrain_mem, e]
theorem SetN.del {D : DataW Unit} {dr : List ByteArray} (h : SetN D dr) (ht : Tidy D) (hn : dr.Nodup) (s : ByteArray) (hm : IsMap (D.del (.string s.data.toList))) : SetN (D.del (.string s.data.toList)) (Lh.bdrain dr s false) := by
  refine ⟨hm, ?_, fun z => ?_⟩
  · have h1 := size_del (k := .string s.data.toList) ht
    rw [h.2.2 s, h.2.1] at h1
    unfold Lh.bdrain
    rw [List.length_append]
    by_cases hm : s ∈ dr
    · have := filter_len hn hm
      simp [hm] at h1 ⊢
      omega
    · rw [filter_out hm]
      simp [hm] at h1 ⊢
      omega
  · by_cases e : z = s
    · subst e
      rw [has_del_same]
      simp [bdrain_mem]
    · rw [has_del_other (strs_lit_ne e), h.2.2 z]
      simp [bdrain_mem, e]
theorem bdrain_nodup {dr : List ByteArray} (hn : dr.Nodup) (s : ByteArray) (is : Bool) : (Lh.bdrain dr s is).Nodup := by
  unfold Lh.bdrain
  rw [List.nodup_append]
  refine ⟨hn.sublist List.filter_sublist, by cases is <;> simp, fun x hx y hy => ?_⟩
  rw [List.mem_filter] at hx
  cases is
  · cases hy
  · have hy' : y = s := by simpa using hy
    have := hx.2
    subst hy'
    simpa using this
theorem nodup_le : ∀ {l m : List ByteArray}, l.Nodup → (∀ x ∈ l, x ∈ m) → l.length ≤ m.length
  | [], _, _, _ => Nat.zero_le _
  | a :: l, m, hn, hs => by
    rw [List.nodup_cons] at hn
    have h1 : l.length ≤ (m.filter fun x => !decide (x = a)).length := nodup_le hn.2 fun x hx => List.mem_filter.2 ⟨hs x (by simp [hx]), by
      have : x ≠ a := fun e => hn.1 (e ▸ hx)
      simpa using this⟩
    have h2 : (m.filter fun x => !decide (x = a)).length < m.length := List.length_filter_lt_length_iff_exists.2 ⟨a, hs a (by simp), by simp⟩
    rw [List.length_cons]
    omega

/-- Block p is the landed balance: its health is block hp, those that are drained are map db, its flows are block fp (its map fm). -/
structure BR (W : World) (p hp fp fm db : Nat) (bs : List Nat) (lv : Value) (S : Lh.Bl) : Prop where
  c0 : W.cell? ⟨p, 0, none⟩ = some (.pointer (some ⟨hp, 0, none⟩))
  c1 : W.cell? ⟨p, 1, none⟩ = some (.map (some db))
  c2 : W.cell? ⟨p, 2, none⟩ = some (.pointer (some ⟨fp, 0, none⟩))
  c3 : W.cell? ⟨p, 3, none⟩ = some (.int .i64 (S.size : Nat))
  c4 : W.cell? ⟨p, 4, none⟩ = some (.int .i64 S.ep)
  fz : ∀ k, W.frozen? ⟨p, k, none⟩ = false
  h : HR W hp S.f S.r S.hs bs lv
  f : FR W fp fm S.t S.la S.L
  d : ∃ D : DataW Unit, W.ownsMap Tryz.prog 9 unitElem db S.dr.length D ∧ SetN D S.dr
  dn : S.dr.Nodup
  dh : ∀ s ∈ S.dr, Lh.hix S.hs s < S.hs.length
  pd : p ≠ db
  ph : ¬ HFoot hp bs lv p
  pf : ¬ FFt fp fm p
  dbh : ¬ HFoot hp bs lv db
  dbf : ¬ FFt fp fm db
  hf : ∀ b, HFoot hp bs lv b → ¬ FFt fp fm b
/-- the blocks that it is made of -/
def BFt (p hp fp fm db : Nat) (bs : List Nat) (lv : Value) (b : Nat) : Prop := b = p ∨ b = db ∨ HFoot hp bs lv b ∨ FFt fp fm b
section
variable {W W' : World} {p hp fp fm db : Nat} {bs : List Nat} {lv : Value} {S : Lh.Bl}
theorem BR.plt (h : BR W p hp fp fm db bs lv S) : p < W.heap.size := World.block_lt_of_cell? W ⟨p, 0, none⟩ h.c0
theorem BR.dlt (h : BR W p hp fp fm db bs lv S) : db < W.heap.size := by
  obtain ⟨D, h, _⟩ := h.d
  exact h.lt
theorem BR.lt (h : BR W p hp fp fm db bs lv S) : ∀ b, BFt p hp fp fm db bs lv b → b < W.heap.size := by
  rintro b (rfl | rfl | hb | hb)
  · exact h.plt
  · exact h.dlt
  · exact (h.h.lt b hb).1
  · exact h.f.lt b hb
/-- its own block is as it was -/
theorem BR.cells (h : BR W p hp fp fm db bs lv S) (e : W'.heap[p]? = W.heap[p]?) : W'.cell? ⟨p, 0, none⟩ = some (.pointer (some ⟨hp, 0, none⟩)) ∧ W'.cell? ⟨p, 1, none⟩ = some (.map (some db)) ∧ W'.cell? ⟨p, 2, none⟩ = some (.pointer (some ⟨fp, 0, none⟩)) ∧ W'.cell? ⟨p, 3, none⟩ = some (.int .i64 (S.size : Nat)) ∧ W'.cell? ⟨p, 4, none⟩ = some (.int .i64 S.ep) ∧ ∀ k, W'.frozen? ⟨p, k, none⟩ = false :=
  ⟨(World.cell?_of_block (w := W) (w' := W') (a := ⟨p, 0, none⟩) e).trans h.c0, (World.cell?_of_block (w := W) (w' := W') (a := ⟨p, 1, none⟩) e).trans h.c1, (World.cell?_of_block (w := W) (w' := W') (a := ⟨p, 2, none⟩) e).trans h.c2, (World.cell?_of_block (w := W) (w' := W') (a := ⟨p, 3, none⟩) e).trans h.c3, (World.cell?_of_block (w := W) (w' := W') (a := ⟨p, 4, none⟩) e).trans h.c4, fun k => (World.frozen?_of_block (w := W) (w' := W') (a := ⟨p, k, none⟩) e).trans (h.fz k)⟩
theorem BR.stay (h : BR W p hp fp fm db bs lv S) (hs : ∀ b, BFt p hp fp fm db bs lv b → W'.heap[b]? = W.heap[b]?) : BR W' p hp fp fm db bs lv S := by
  obtain ⟨a0, a1, a2, a3, a4, a5⟩ := h.cells (hs p (Or.inl rfl))
  obtain ⟨D, d1, d2⟩ := h.d
  exact ⟨a0, a1, a2, a3, a4, a5, h.h.stay fun b hb => hs b (Or.inr (Or.inr (Or.inl hb))), h.f.stay fun b hb => hs b (Or.inr (Or.inr (Or.inr hb))), ⟨D, ownsMap_later d1 (hs db (Or.inr (Or.inl rfl))), d2⟩, h.dn, h.dh, h.pd, h.ph, h.pf, h.dbh, h.dbf, h.hf⟩
theorem BR.later (h : BR W p hp fp fm db bs lv S) (hb : Below W.heap.size W W') : BR W' p hp fp fm db bs lv S := h.stay fun b hf => hb.block b (h.lt b hf)
/-- all but its flows is as it was -/
theorem BR.flows (h : BR W p hp fp fm db bs lv S) (hT : Tur (FFt fp fm) W W') {la : Int} {L : List Lh.Fl} (hF : FR W' fp fm S.t la L) : BR W' p hp fp fm db bs lv { S with la := la, L := L } := by
  obtain ⟨a0, a1, a2, a3, a4, a5⟩ := h.cells (hT.block p h.plt h.pf)
  obtain ⟨D, d1, d2⟩ := h.d
  exact ⟨a0, a1, a2, a3, a4, a5, h.h.stay fun b hb => hT.block b (h.h.lt b hb).1 (h.hf b hb), hF, ⟨D, ownsMap_later d1 (hT.block db h.dlt h.dbf), d2⟩, h.dn, h.dh, h.pd, h.ph, h.pf, h.dbh, h.dbf, h.hf⟩
/-- all but its health is as it was -/
theorem BR.health (h : BR W p hp fp fm db bs lv S) (hT : Tur (HFoot hp bs lv) W W') {l : List Lh.Hh} (hH : HR W' hp S.f S.r l bs lv) (hd : ∀ s ∈ S.dr, Lh.hix l s < l.length) : BR W' p hp fp fm db bs lv { S with hs := l } := by
  obtain ⟨a0, a1, a2, a3, a4, a5⟩ := h.cells (hT.block p h.plt h.ph)
  obtain ⟨D, d1, d2⟩ := h.d
  exact ⟨a0, a1, a2, a3, a4, a5, hH, h.f.stay fun b hb => hT.block b (h.f.lt b hb) fun hg => h.hf b hg hb, ⟨D, ownsMap_later d1 (hT.block db h.dlt h.dbh), d2⟩, h.dn, hd, h.pd, h.ph, h.pf, h.dbh, h.dbf, h.hf⟩
/-- all but its map is as it was -/
theorem BR.map (h : BR W p hp fp fm db bs lv S) (hT : Tur (fun b => b = db) W W') {dr : List ByteArray} (hn : dr.Nodup) (hd : ∀ s ∈ dr, Lh.hix S.hs s < S.hs.length) (hD : ∃ D : DataW Unit, W'.ownsMap Tryz.prog 9 unitElem db dr.length D ∧ SetN D dr) : BR W' p hp fp fm db bs lv { S with dr := dr } := by
  obtain ⟨a0, a1, a2, a3, a4, a5⟩ := h.cells (hT.block p h.plt h.pd)
  exact ⟨a0, a1, a2, a3, a4, a5, h.h.stay fun b hb => hT.block b (h.h.lt b hb).1 fun e => h.dbh (e ▸ hb), h.f.stay fun b hb => hT.block b (h.f.lt b hb) fun e => h.dbf (e ▸ hb), hD, hn, hd, h.pd, h.ph, h.pf, h.dbh, h.dbf, h.hf⟩
/-- an epoch -/
theorem BR.epoch (h : BR W p hp fp fm db bs lv S) (e : Int) : BR (W.setCell ⟨p, 4, none⟩ (.int .i64 e)) p hp fp fm db bs lv { S with ep := e } := by
  have ho : ∀ b, b ≠ p → (W.setCell ⟨p, 4, none⟩ (.int .i64 e)).heap[b]? = W.heap[b]? := fun b hb => Below.heap_setCell _ _ _ b hb
  obtain ⟨D, d1, d2⟩ := h.d
  refine ⟨?_, ?_, ?_, ?_, World.cell?_setCell_same' _ _ _ (by rw [h.c4]; rfl), fun k => by rw [World.frozen?_setCell]; exact h.fz k, h.h.stay fun b hb => ho b fun e => h.ph (e ▸ hb), h.f.stay fun b hb => ho b fun e => h.pf (e ▸ hb), ⟨D, ownsMap_later d1 (ho db fun e => h.pd e.symm), d2⟩, h.dn, h.dh, h.pd, h.ph, h.pf, h.dbh, h.dbf, h.hf⟩
  · rw [World.cell?_setCell_other _ _ _ _ (by simp)]; exact h.c0
  · rw [World.cell?_setCell_other _ _ _ _ (by simp)]; exact h.c1
  · rw [World.cell?_setCell_other _ _ _ _ (by simp)]; exact h.c2
  · rw [World.cell?_setCell_other _ _ _ _ (by simp)]; exact h.c3
theorem BR.drLen (h : BR W p hp fp fm db bs lv S) (hl : S.hs.length ≤ 12) : S.dr.length ≤ 12 := by
  refine Nat.le_trans (nodup_le (m := S.hs.map fun x => x.1) h.dn fun x hx => ?_) (by rw [List.length_map]; exact hl)
  obtain ⟨y, hy, rfl⟩ := Lh.hix_lt.1 (h.dh x hx)
  exact List.mem_map_of_mem hy
theorem Tur.flows (h : Tur (FFt fp fm) W W') : Tur (BFt p hp fp fm db bs lv) W W' := h.wide fun _ hb => Or.inr (Or.inr (Or.inr hb))
theorem Tur.health (h : Tur (HFoot hp bs lv) W W') : Tur (BFt p hp fp fm db bs lv) W W' := h.wide fun _ hb => Or.inr (Or.inr (Or.inl hb))
theorem Tur.map (h : Tur (fun b => b = db) W W') : Tur (BFt p hp fp fm db bs lv) W W' := h.wide fun _ hb => Or.inr (Or.inl hb)
end
end Go.Proofs.YtfhmfjcpggddkaaGreatDoor

/- slices.IndexFunc and slices.DeleteFunc of texts, with a function that lays blocks of its own. -/
namespace Go.Proofs.YtfhmfjcpggddkaaGreatDoor
open Go.RowKit Go.Shelf

/-- those that stay -/
def fl {α : Type} (q : α → Bool) (l : List α) : List α := l.filter fun x => !q x
theorem fl_le {α : Type} (q : α → Bool) (l : List α) (i : Nat) : (fl q (l.take i)).length ≤ i := Nat.le_trans (List.length_filter_le _ _) (by rw [List.length_take]; exact Nat.min_le_left _ _)
theorem fl_keep {α : Type} {q : α → Bool} {l : List α} {i : Nat} (h : i < l.length) {x : α} (hx : l[i] = x) (hq : q x = false) : fl q (l.take (i + 1)) = fl q (l.take i) ++ [x] := by
  unfold fl
  rw [List.take_succ_eq_append_getElem h, List.filter_append, hx]
  simp [hq]
theorem fl_gone {α : Type} {q : α → Bool} {l : List α} {i : Nat} (h : i < l.length) {x : α} (hx : l[i] = x) (hq : q x = true) : fl q (l.take (i + 1)) = fl q (l.take i) := by
  unfold fl
  rw [List.take_succ_eq_append_getElem h, List.filter_append, hx]
  simp [hq]
theorem fl_all {α : Type} {q : α → Bool} {l : List α} (h : ∀ x ∈ l, q x = false) : fl q l = l := List.filter_eq_self.2 fun x hx => by simp [h x hx]
theorem fl_first {α : Type} {q : α → Bool} {l : List α} {i : Nat} (h : i < l.length) (ht : ∀ j (hj : j < l.length), j < i → q l[j] = false) (hq : q l[i] = true) : fl q (l.take (i + 1)) = l.take i := by
  rw [fl_gone h rfl hq]
  refine fl_all fun x hx => ?_
  obtain ⟨j, hj, rfl⟩ := List.getElem_of_mem hx
  rw [List.length_take] at hj
  rw [List.getElem_take]
  exact ht j (by omega) (by omega)

set_option maxRecDepth 100000 in
set_option maxHeartbeats 2000000 in
theorem indexT_core (fn : Nat) (eg : ∀ args w, (callFunc fn args).run Tryz.prog w = .ok (.enter fn args) w) (bx : Value) (q : ByteArray → Bool) (pv : Option Addr) (c : Nat) (xs : List ByteArray) (W : World) (hl : xs.length ≤ 1000)
    (hc : ∀ k (h : k < xs.length), ∃ g o, pv = some ⟨g, o, none⟩ ∧ W.cell? ⟨g, o + k, none⟩ = some (.string xs[k]))
    (hq : ∀ W' k (h : k < xs.length), Below W.heap.size W W' → Calls Tryz.prog fn #[.string xs[k], bx] W' fun e w' => e = .returned (.bool (q xs[k])) ∧ Below W'.heap.size W' w') :
    Calls Tryz.prog 278 #[.slice pv xs.length c, .func (.func fn) #[] #[bx]] W fun e w' => Below W.heap.size W w' ∧ (((∀ x ∈ xs, q x = false) ∧ e = .returned (.int .i64 (-1))) ∨ ∃ i, ∃ h : i < xs.length, q xs[i] = true ∧ (∀ j (hj : j < xs.length), j < i → q xs[j] = false) ∧ e = .returned (.int .i64 (i : Nat))) := by
  have HC : Hid (∀ k (h : k < xs.length), ∃ g o, pv = some ⟨g, o, none⟩ ∧ W.cell? ⟨g, o + k, none⟩ = some (.string xs[k])) := hc
  have HQ : Hid (∀ W' k (h : k < xs.length), Below W.heap.size W W' → Calls Tryz.prog fn #[.string xs[k], bx] W' fun e w' => e = .returned (.bool (q xs[k])) ∧ Below W'.heap.size W' w') := hq
  clear hc hq
  go_enter Tryz.func278, Tryz.ntmps278
  go_wp2_with fail
  go_loopw [5, 8] (fun _ t W' => Below W.heap.size W W' ∧ ∃ k : Nat, k ≤ xs.length ∧ t = .int .i64 (k : Nat) ∧ ∀ j (hj : j < xs.length), j < k → q xs[j] = false) (fun _ t _ => xs.length + 1 - (intOf t).toNat)
  case atStart => exact ⟨Below.refl _ _, 0, Nat.zero_le _, rfl, fun j _ h => absurd h (by omega)⟩
  case round =>
    obtain ⟨hB, k, hk, rfl, hp⟩ := hrel
    have HP : Hid (∀ j (hj : j < xs.length), j < k → q xs[j] = false) := hp
    clear hp
    by_cases hlt : k < xs.length
    · obtain ⟨g, o, rfl, c1⟩ := HC.out k hlt
      have hki : (k : Int) < (xs.length : Int) := by omega
      have hcall := HQ.out _ k hlt hB
      have c1' := below_cell hB c1
      have HN : Hid (q (xs[k]'hlt) = false → ∀ j (hj : j < xs.length), j < k + 1 → q xs[j] = false) := fun h j hj hjk => by
        by_cases e : j = k
        · subst e
          exact h
        · exact HP.out j hj (by omega)
      obtain ⟨s, hs⟩ : ∃ s, xs[k]'hlt = s := ⟨_, rfl⟩
      rw [hs] at c1' hcall HN
      have HS : Hid (xs[k]'hlt = s) := hs
      clear c1 hs
      cases hd : q s with
      | true =>
        have HE : Hid (q (xs[k]'hlt) = true) := by rw [HS.out]; exact hd
        rw [hd] at hcall
        clear hd HN
        go_wp2_with (go_at_fn fn; refine hcall.mono ?_; rintro e w' ⟨rfl, hB2⟩)
        go_ret
        exact ⟨below_then hB hB2, Or.inr ⟨k, hlt, HE.out, HP.out, rfl⟩⟩
      | false =>
        have HN2 : Hid (∀ j (hj : j < xs.length), j < k + 1 → q xs[j] = false) := HN.out hd
        rw [hd] at hcall
        clear hd HN
        go_wp2_with (go_at_fn fn; refine hcall.mono ?_; rintro e w' ⟨rfl, hB2⟩)
        go_roundw
        case rel => exact ⟨below_then hB hB2, k + 1, by omega, by go_num, HN2.out⟩
        case measure => simp [intOf]; omega
    · have hki : decide ((k : Int) < (xs.length : Int)) = false := by simp; omega
      have HF : Hid (∀ x ∈ xs, q x = false) := fun x hx => by
        obtain ⟨j, hj, rfl⟩ := List.getElem_of_mem hx
        exact HP.out j hj (by omega)
      go_wp2
      go_ret
      exact ⟨hB, Or.inl ⟨HF.out, rfl⟩⟩

/-- a row of texts, of which the first j are looked at, and i stay -/
structure DelT (q : ByteArray → Bool) (xs : List ByteArray) (g : Nat) (W0 : World) (i j : Nat) (W : World) : Prop where
  tur : Tur (fun b => b = g) W0 W
  lt : i < j
  len : (fl q (xs.take j)).length = i
  lo : ∀ k (h : k < (fl q (xs.take j)).length), W.cell? ⟨g, k, none⟩ = some (.string (fl q (xs.take j))[k])
  hi : ∀ k (h : k < xs.length), j ≤ k → W.cell? ⟨g, k, none⟩ = some (.string xs[k])
  all : ∀ k, k < xs.length → (W.cell? ⟨g, k, none⟩).isSome = true
  fz : ∀ k, W.frozen? ⟨g, k, none⟩ = false
section
variable {q : ByteArray → Bool} {xs : List ByteArray} {g i j : Nat} {W0 W W' : World}
theorem DelT.later (h : DelT q xs g W0 i j W) (hg : g < W0.heap.size) (hb : Below W.heap.size W W') : DelT q xs g W0 i j W' := by
  have hg' : g < W.heap.size := Nat.lt_of_lt_of_le hg h.tur.size
  have e := hb.block g hg'
  refine ⟨h.tur.trans (Tur.of_below (F := fun b => b = g) hb) (fun b hb => Or.inl hb), h.lt, h.len, fun k hk => ?_, fun k hk hj => ?_, fun k hk => ?_, fun k => ?_⟩
  · rw [World.cell?_of_block (w := W) (w' := W') (a := ⟨g, k, none⟩) e]; exact h.lo k hk
  · rw [World.cell?_of_block (w := W) (w' := W') (a := ⟨g, k, none⟩) e]; exact h.hi k hk hj
  · rw [World.cell?_of_block (w := W) (w' := W') (a := ⟨g, k, none⟩) e]; exact h.all k hk
  · rw [World.frozen?_of_block (w := W) (w' := W') (a := ⟨g, k, none⟩) e]; exact h.fz k
theorem DelT.gone (h : DelT q xs g W0 i j W) (hj : j < xs.length) {x : ByteArray} (hx : xs[j] = x) (hq : q x = true) : DelT q xs g W0 i (j + 1) W := by
  have e := fl_gone hj hx hq
  exact ⟨h.tur, by have := h.lt; omega, by rw [e]; exact h.len, by rw [e]; exact h.lo, fun k hk hjk => h.hi k hk (by omega), h.all, h.fz⟩
theorem DelT.keep (h : DelT q xs g W0 i j W) (hj : j < xs.length) {x : ByteArray} (hx : xs[j] = x) (hq : q x = false) : DelT q xs g W0 (i + 1) (j + 1) (W.setCell ⟨g, i, none⟩ (.string x)) := by
  have e := fl_keep hj hx hq
  have hij := h.lt
  have hlen := h.len
  refine ⟨h.tur.setCell i (Or.inl rfl) _, by omega, by rw [e, List.length_append, hlen]; rfl, ?_, fun k hk hjk => ?_, fun k hk => ?_, fun k => by rw [World.frozen?_setCell]; exact h.fz k⟩
  · rw [e]
    intro k hk
    rw [List.length_append, List.length_singleton] at hk
    by_cases hki : k = i
    · subst hki
      rw [World.cell?_setCell_same' _ _ _ (h.all _ (by omega)), List.getElem_append_right (by omega)]
      simp
    · have hk' : k < (fl q (xs.take j)).length := by omega
      rw [World.cell?_setCell_other _ _ _ _ (by intro e; injection e with _ e; omega), List.getElem_append_left hk']
      exact h.lo k hk'
  · rw [World.cell?_setCell_other _ _ _ _ (by intro e; injection e with _ e; omega)]
    exact h.hi k hk (by omega)
  · by_cases hki : k = i
    · subst hki
      rw [World.cell?_setCell_same' _ _ _ (h.all _ (by omega))]
      rfl
    · rw [World.cell?_setCell_other _ _ _ _ (by intro e; injection e with _ e; omega)]
      exact h.all k hk
end
theorem clearT (g i n c : Nat) (w : World) (hi : i < n) (hs : ∀ k, k < n → (w.cell? ⟨g, k, none⟩).isSome = true) (hf : ∀ k, w.frozen? ⟨g, k, none⟩ = false) (ty : TypeId) :
    (Builtin.clear_ #[22] ty #[.slice (some ⟨g, i, none⟩) (n - i) c]).run Tryz.prog w = .ok (.tuple #[]) (w.setCells g i (List.replicate (n - i) (.string ⟨#[]⟩))) :=
  Lib.run_clear_slice w 22 9 ty (.string ⟨#[]⟩) Tryz.underlying22 Tryz.zeroValue9 rfl rfl g i (n - i) c (by omega) (fun j hj => hs _ (by omega)) (fun j _ => hf _)
theorem Tur.setCells {F : Nat → Prop} {w w' : World} (h : Tur F w w') {x : Nat} (hx : F x ∨ w.heap.size ≤ x) : ∀ (vs : List Value) (o : Nat), Tur F w (w'.setCells x o vs) := by
  intro vs
  induction vs generalizing w' with
  | nil => intro o; exact h
  | cons v r ih => intro o; exact ih (h.setCell o hx v) (o + 1)

set_option maxRecDepth 100000 in
set_option maxHeartbeats 4000000 in
/-- slices.DeleteFunc of texts -/
theorem deleteT (fn : Nat) (eg : ∀ args w, (callFunc fn args).run Tryz.prog w = .ok (.enter fn args) w) (bx : Value) (q : ByteArray → Bool) (g cap : Nat) (xs : List ByteArray) (W : World) (hl : xs.length ≤ 1000) (hcap : xs.length ≤ cap) (hcm : cap ≤ maxLen) (hg : g < W.heap.size)
    (hc : ∀ k (h : k < xs.length), W.cell? ⟨g, k, none⟩ = some (.string xs[k])) (hf : ∀ k, W.frozen? ⟨g, k, none⟩ = false)
    (hq : ∀ W' k (h : k < xs.length), Tur (fun b => b = g) W W' → Calls Tryz.prog fn #[.string xs[k], bx] W' fun e w' => e = .returned (.bool (q xs[k])) ∧ Below W'.heap.size W' w') :
    Calls Tryz.prog 241 #[.slice (some ⟨g, 0, none⟩) xs.length cap, .func (.func fn) #[] #[bx]] W fun e w' => e = .returned (.slice (some ⟨g, 0, none⟩) (fl q xs).length cap) ∧ Tur (fun b => b = g) W w' ∧ ∀ k (h : k < (fl q xs).length), w'.cell? ⟨g, k, none⟩ = some (.string (fl q xs)[k]) := by
  have hix := indexT_core fn eg bx q (some ⟨g, 0, none⟩) cap xs W hl (fun k h => ⟨g, 0, rfl, by rw [Nat.zero_add]; exact hc k h⟩) (fun W' k h hB => hq W' k h (Tur.of_below hB))
  have HC : Hid (∀ k (h : k < xs.length), W.cell? ⟨g, k, none⟩ = some (.string xs[k])) := hc
  have HF : Hid (∀ k, W.frozen? ⟨g, k, none⟩ = false) := hf
  have HQ : Hid (∀ W' k (h : k < xs.length), Tur (fun b => b = g) W W' → Calls Tryz.prog fn #[.string xs[k], bx] W' fun e w' => e = .returned (.bool (q xs[k])) ∧ Below W'.heap.size W' w') := hq
  unfold maxLen at hcm
  clear hc hf hq
  go_enter Tryz.func241, Tryz.ntmps241
  go_wp2_with fail
  refine hix.mono ?_
  rintro e w1 ⟨hb1, ⟨hall, rfl⟩ | ⟨i0, hi0, hqt, hqf, rfl⟩⟩
  · have HA : Hid (fl q xs = xs) := fl_all hall
    clear hix hall
    go_wp2
    go_ret
    exact ⟨by rw [HA.out]; rfl, Tur.of_below hb1, by rw [HA.out]; exact fun k h => below_cell hb1 (HC.out k h)⟩
  · have hne : ((i0 : Int) == -1) = false := beq_eq_false_iff_ne.2 (by omega)
    have HD : Hid (DelT q xs g W i0 (i0 + 1) w1) := by
      have e := fl_first hi0 hqf hqt
      have eb := hb1.block g hg
      have hlt : (xs.take i0).length = i0 := by rw [List.length_take]; omega
      refine ⟨Tur.of_below hb1, by omega, by rw [e]; exact hlt, ?_, fun k hk _ => below_cell hb1 (HC.out k hk), fun k hk => by rw [below_cell hb1 (HC.out k hk)]; rfl, fun k => (World.frozen?_of_block (w := W) (w' := w1) (a := ⟨g, k, none⟩) eb).trans (HF.out k)⟩
      rw [e]
      intro k hk
      rw [List.getElem_take]
      exact below_cell hb1 (HC.out k _)
    clear hix hqt hqf
    go_wp2_with fail
    go_loopw [5, 6, 7] (fun s5 s6 _ wr => ∃ i j : Nat, s5 = .int .i64 (i : Nat) ∧ s6 = .int .i64 (j : Nat) ∧ j ≤ xs.length ∧ DelT q xs g W i j wr) (fun _ s6 _ _ => xs.length - (intOf s6).toNat)
    case atStart => exact ⟨i0, i0 + 1, rfl, by go_num, hi0, HD.out⟩
    case round =>
      obtain ⟨i, j, rfl, rfl, hj, hD⟩ := hrel
      have HD2 : Hid (DelT q xs g W i j wr) := hD
      clear HD hb1
      have hij := hD.lt
      by_cases hlt : j < xs.length
      · have hji : (j : Int) < (xs.length : Int) := by omega
        have cj := hD.hi j hlt (Nat.le_refl _)
        obtain ⟨zi, ci⟩ := Option.isSome_iff_exists.1 (hD.all i (by omega))
        have fi := hD.fz i
        have hii : (i : Int) < (xs.length : Int) := by omega
        have hcall := HQ.out wr j hlt hD.tur
        obtain ⟨x, hx⟩ : ∃ x, xs[j]'hlt = x := ⟨_, rfl⟩
        rw [hx] at cj hcall
        have HX : Hid (xs[j]'hlt = x) := hx
        clear hx hD
        have hgw : g < wr.heap.size := World.block_lt_of_cell? wr ⟨g, j, none⟩ cj
        cases hqx : q x with
        | false =>
          have HQX : Hid (q x = false) := hqx
          rw [hqx] at hcall
          clear hqx
          go_wp2_with fail
          refine hcall.mono ?_
          rintro e w2 ⟨rfl, hb2⟩
          have ci' := below_cell hb2 ci
          have fi' : w2.frozen? ⟨g, i, none⟩ = false := (World.frozen?_of_block (w := wr) (w' := w2) (a := ⟨g, i, none⟩) (hb2.block g hgw)).trans fi
          have HD3 : Hid (DelT q xs g W (i + 1) (j + 1) (w2.setCell ⟨g, i, none⟩ (.string x))) := (HD2.out.later hg hb2).keep hlt HX.out HQX.out
          clear hcall ci fi cj
          go_wp2_with fail
          go_roundw
          case rel => exact ⟨i + 1, j + 1, by go_num, by go_num, by omega, HD3.out⟩
          case measure => simp [intOf]; omega
        | true =>
          have HQX : Hid (q x = true) := hqx
          rw [hqx] at hcall
          clear hqx
          go_wp2_with fail
          refine hcall.mono ?_
          rintro e w2 ⟨rfl, hb2⟩
          have HD3 : Hid (DelT q xs g W i (j + 1) w2) := (HD2.out.later hg hb2).gone hlt HX.out HQX.out
          clear hcall ci fi cj
          go_wp2_with fail
          go_roundw
          case rel => exact ⟨i, j + 1, rfl, by go_num, by omega, HD3.out⟩
          case measure => simp [intOf]; omega
      · have hje : j = xs.length := by omega
        subst hje
        have hji : decide ((xs.length : Int) < (xs.length : Int)) = false := by simp
        have hcl := fun ty => clearT g i xs.length (cap - i) wr hij hD.all hD.fz ty
        have HI : Hid ((fl q xs).length = i) := by have := hD.len; rwa [List.take_length] at this
        have HLO : Hid (∀ k (h : k < (fl q xs).length), wr.cell? ⟨g, k, none⟩ = some (.string (fl q xs)[k])) := by have := hD.lo; rwa [List.take_length] at this
        have HT : Hid (Tur (fun b => b = g) W wr) := hD.tur
        have hic : (i : Int) < (cap : Int) := by omega
        have hii : (i : Int) < (xs.length : Int) := by omega
        clear hD HD2
        go_wp2
        go_ret
        refine ⟨by rw [HI.out]; rfl, HT.out.setCells (Or.inl rfl) _ _, fun k hk => ?_⟩
        rw [World.cell?_setCells_out _ _ _ _ _ (fun _ _ => Or.inl (by have := HI.out; show k < i; omega))]
        exact HLO.out k hk
end Go.Proofs.YtfhmfjcpggddkaaGreatDoor
