/- The model's duo: NewDuo. -/
import Derived.Test.YtmdckddenelneaaGreatDoorM48
import Derived.Test.YtmdckddenelneaaGreatDoorM45
import Derived.Test.YtmdckddenelneaaGreatDoorM27
import Derived.Deep.RegionLaw
import Derived.Test.YtmdckddenelneaaGreatDoorM36
import Derived.Deep.RegionHeld3
import Derived.Test.YtmdckddenelneaaGreatDoorM11
import Derived.Test.YtmdckddenelneaaGreatDoorM20
import Derived.Test.YtmdckddenelneaaGreatDoorM49
import Derived.Test.YtmdckddenelneaaGreatDoorM22
import Derived.Test.YtmdckddenelneaaGreatDoorM4
namespace Go.Proofs.YtmdckddenelneaaGreatDoor
open Go.RowKit

theorem infoBp : (Tryz.prog.info? 61).map (fun i => (i.zero, i.size, i.bytes)) = some (some (.pointer none), 1, 8) := by kernel_rfl
def ptrM (x : Mm) : Value := .pointer (some ⟨x.m, 0, none⟩)
/-- a duo that is being made -/
structure ND (W0 : World) (d : Nat) (W : World) (v : Value) (Ms : List Mm) : Prop where
  below : Below W0.heap.size W0 W
  d0 : W0.heap.size ≤ d
  c0 : W.cell? ⟨d, 0, none⟩ = some v
  c1 : W.cell? ⟨d, 1, none⟩ = some (.int .i64 0)
  fz : ∀ k, W.frozen? ⟨d, k, none⟩ = false
  own : W.ownsRow (d + 1) 61 1 v Ms.length (Ms.map ptrM)
  at_ : ∀ x ∈ Ms, x.At 0 duoB W
  lo : ∀ x ∈ Ms, ∀ b, x.F b → d < b
  ap : ∀ x ∈ Ms, ∀ b, x.F b → v.ownBlock ≠ some b
  pw : Ms.Pairwise fun x y => ∀ b, x.F b → ¬ y.F b
section
variable {W0 wr w2 W3 w3 : World} {d g cap : Nat} {v : Value} {Ms : List Mm} {x : Mm}
theorem ND.dlt (h : ND W0 d wr v Ms) : d < wr.heap.size := World.block_lt_of_cell? wr ⟨d, 0, none⟩ h.c0
theorem ND.far (h : ND W0 d wr v Ms) : some d ≠ v.ownBlock := fun e => by
  have := (h.own.lt d e.symm).1
  omega
/-- behind what the append has left, a block of the duo's is as it was -/
theorem nd_block (hW : Below w2.heap.size w2 W3) (hg : W3.grownBy w3 v.ownBlock) {b : Nat} (h1 : b < w2.heap.size) (h2 : some b ≠ v.ownBlock) : w3.heap[b]? = w2.heap[b]? :=
  (hg.block b (Nat.lt_of_lt_of_le h1 hW.size) h2).trans (hW.block b h1)
theorem ND.more (h : ND W0 d wr v Ms) (hb : Below wr.heap.size wr w2) (hx : x.At 0 duoB w2) (hxF : ∀ b, x.F b → wr.heap.size ≤ b) (hW : Below w2.heap.size w2 W3) (hg : W3.grownBy w3 v.ownBlock)
    (hown : w3.ownsRow (d + 1) 61 1 (.slice (some ⟨g, 0, none⟩) (Ms.length + 1) cap) (Ms.length + 1) (Ms.map ptrM ++ [ptrM x])) (hor : v.ownBlock = some g ∨ w2.heap.size ≤ g) :
    ND W0 d (w3.setCell ⟨d, 0, none⟩ (.slice (some ⟨g, 0, none⟩) (Ms.length + 1) cap)) (.slice (some ⟨g, 0, none⟩) (Ms.length + 1) cap) (Ms ++ [x]) := by
  have hdl := h.dlt
  have hs2 := hb.size
  have hd : w3.heap[d]? = wr.heap[d]? := (nd_block hW hg (by omega) h.far).trans (hb.block d hdl)
  have hc0 := (World.cell?_of_block (w := wr) (w' := w3) (a := ⟨d, 0, none⟩) hd).trans h.c0
  have hc1 := (World.cell?_of_block (w := wr) (w' := w3) (a := ⟨d, 1, none⟩) hd).trans h.c1
  have hblk : ∀ b, b < w2.heap.size → some b ≠ v.ownBlock → b ≠ d → (w3.setCell ⟨d, 0, none⟩ (.slice (some ⟨g, 0, none⟩) (Ms.length + 1) cap)).heap[b]? = w2.heap[b]? := fun b h1 h2 h3 => (Below.heap_setCell _ _ _ b fun e => h3 e).trans (nd_block hW hg h1 h2)
  have hownlt : ∀ b, v.ownBlock = some b → d < b ∧ b < wr.heap.size := fun b e => by
    have := h.own.lt b e
    omega
  refine ⟨?_, h.d0, World.cell?_setCell_same' _ _ _ (by rw [hc0]; rfl), ?_, fun k => ?_, ?_, fun y hy => ?_, fun y hy => ?_, fun y hy b hyb e => ?_, ?_⟩
  · have h3 : Below W0.heap.size W0 w3 := ((below_then h.below hb).trans (hW.mono (Nat.le_trans h.below.size hs2))).grown hg (Nat.le_trans h.below.size (Nat.le_trans hs2 hW.size)) fun k e => by
      have := hownlt k e
      have := h.d0
      omega
    exact h3.setCell h.d0 _
  · rw [World.cell?_setCell_other _ _ _ _ (by simp)]; exact hc1
  · rw [World.frozen?_setCell]
    exact (World.frozen?_of_block (w := wr) (w' := w3) (a := ⟨d, k, none⟩) hd).trans (h.fz k)
  · rw [List.map_append, List.length_append]
    exact howns_setCell (k := 0) hown (Nat.lt_succ_self d) _
  · rcases List.mem_append.1 hy with h1 | h1
    · refine MB.stay (MB.later (h.at_ y h1) hb) fun b hf => hblk b ?_ (fun e => h.ap y h1 b hf e.symm) (fun e => ?_)
      · exact Nat.lt_of_lt_of_le (MB.lt (h.at_ y h1) b hf) hs2
      · have := h.lo y h1 b hf
        omega
    · obtain rfl : y = x := by simpa using h1
      refine MB.stay hx fun b hf => hblk b (MB.lt hx b hf) (fun e => ?_) (fun e => ?_)
      · have := (hownlt b e.symm).2
        have := hxF b hf
        omega
      · have := hxF b hf
        omega
  · rcases List.mem_append.1 hy with h1 | h1
    · exact h.lo y h1
    · obtain rfl : y = x := by simpa using h1
      intro b hf
      have := hxF b hf
      omega
  · have e' : g = b := by simpa [Value.ownBlock] using e
    subst e'
    rcases List.mem_append.1 hy with h1 | h1
    · rcases hor with h2 | h2
      · exact h.ap y h1 _ hyb h2
      · have := MB.lt (h.at_ y h1) _ hyb
        omega
    · obtain rfl : y = x := by simpa using h1
      rcases hor with h2 | h2
      · have := (hownlt _ h2).2
        have := hxF _ hyb
        omega
      · have := MB.lt hx _ hyb
        omega
  · refine List.pairwise_append.2 ⟨h.pw, List.pairwise_singleton _ _, fun y hy z hz b h1 h2 => ?_⟩
    obtain rfl : z = x := by simpa using hz
    have := MB.lt (h.at_ y hy) b h1
    have := hxF b h2
    omega
/-- both are made -/
theorem ND.md {y : Mm} (h : ND W0 d wr v [x, y]) : ∃ g cap M, MD wr d g cap M ⟨duoB, duoB, 0⟩ 0 ∧ ∀ b, MDt d g M b → W0.heap.size ≤ b := by
  obtain ⟨g, cap, hv, hg1, _⟩ := h.own.form (by simp)
  have hcell : ∀ k (u : Value), ([x, y].map ptrM)[k]? = some u → wr.cell? ⟨g, k, none⟩ = some u := fun k u hu => by
    obtain ⟨hl, ⟨_, h0⟩ | ⟨g2, cap2, cur, hv2, _, hb, hn, hm, hsz, ht⟩⟩ := h.own
    · simp at h0
    · rw [hv] at hv2
      injection hv2 with e1 _ _
      injection e1 with e1
      injection e1 with e1
      subst e1
      have hk2 : k < 2 := by
        rcases Nat.lt_or_ge k 2 with h1 | h1
        · exact h1
        · rw [List.getElem?_eq_none (by simpa using h1)] at hu
          cases hu
      rw [← ht, List.getElem?_take_of_lt (by simpa using hk2)] at hu
      simp only [World.cell?, hb]
      simpa using hu
  have hob : v.ownBlock = some g := by rw [hv]; rfl
  refine ⟨g, cap, fun b => if b then y else x, ⟨by rw [h.c0, hv]; rfl, h.c1, h.fz 1, hcell 0 _ rfl, hcell 1 _ rfl, fun b => ?_, fun b z h1 h2 => ?_, fun b h1 => ?_, fun b h1 => ?_, by omega⟩, ?_⟩
  · cases b
    · exact h.at_ x (by simp)
    · exact h.at_ y (by simp)
  · have hp := h.pw
    simp at hp
    cases b
    · exact hp z h1 h2
    · exact hp z h2 h1
  · cases b
    · have := h.lo x (by simp) d h1
      omega
    · have := h.lo y (by simp) d h1
      omega
  · cases b
    · exact h.ap x (by simp) g h1 hob
    · exact h.ap y (by simp) g h1 hob
  · have hd0 := h.d0
    rintro b (rfl | rfl | ⟨c, hc⟩)
    · exact hd0
    · omega
    · cases c
      · have := h.lo x (by simp) b hc
        omega
      · have := h.lo y (by simp) b hc
        omega
/-- a balance of four -/
theorem newB (wr : World) :
    Calls Tryz.prog 39 #[.slice (some ⟨wr.heap.size, 0, none⟩) 4 4, .int .i64 31, .int .i64 20, .int .i64 2, .int .i64 2] (wr.drew.alloc (.cells #[.string ⟨#[97]⟩, .string ⟨#[98]⟩, .string ⟨#[99]⟩, .string ⟨#[100]⟩] 9)) fun e w' => ∃ x : Mm, e = .returned (.pointer (some ⟨x.m, 0, none⟩)) ∧ x.At 0 duoB w' ∧ (∀ b, x.F b → wr.heap.size ≤ b) ∧ Below wr.heap.size wr w' := by
  have hb : Below wr.heap.size wr (wr.drew.alloc (.cells #[.string ⟨#[97]⟩, .string ⟨#[98]⟩, .string ⟨#[99]⟩, .string ⟨#[100]⟩] 9)) := (below_drewN (Below.refl _ _) 1).alloc (Nat.le_refl _) _
  refine (mnew (some ⟨wr.heap.size, 0, none⟩) 4 four 31 20 2 2 _ (fun k hk => ⟨wr.heap.size, 0, rfl, ?_⟩) (by decide) (by decide) (by decide)).mono ?_
  · have h4 := four_cells wr.drew (hi := k) (by simpa [four] using hk)
    rw [List.getD_eq_getElem?_getD, List.getElem?_eq_getElem hk, Option.getD_some] at h4
    rw [Nat.zero_add]
    exact h4
  · rintro e w' ⟨m, hm, fm, lv, rfl, hM, hF, hb2⟩
    refine ⟨⟨m, hm, fm, newM four, lv, .slice none 0 0, .slice none 0 0⟩, rfl, hM, fun b hf => ?_, below_then hb hb2⟩
    have := hF b hf
    have := hb.size
    omega
theorem step_append_b {ops : Array Oper} {o : Oper} {a : Act} {K : Act → World → Prop} {Q : Exit → Act → World → Prop} {E : Prop} {W : World} (w2 : World) (x : Mm) (d : Nat) (hgd : o.guard = none) (so xo : Operand)
    (ho : o.op = .call { callee := .builtin .append, args := #[so, xo], argTypes := #[62, 62] }) (hW : W = w2.alloc (.cells #[.pointer (some ⟨x.m, 0, none⟩)] 61))
    (v : Value) (Ms : List Mm) (hs : a.eval so = v) (hx : a.eval xo = .slice (some ⟨w2.heap.size, 0, none⟩) 1 1) (hown : w2.ownsRow (d + 1) 61 1 v Ms.length (Ms.map ptrM)) (hl : Ms.length ≤ 2) (hd : d < w2.heap.size)
    (h : ∀ g cap w', w'.ownsRow (d + 1) 61 1 (.slice (some ⟨g, 0, none⟩) (Ms.length + 1) cap) (Ms.length + 1) (Ms.map ptrM ++ [ptrM x]) → W.grownBy w' v.ownBlock → (v.ownBlock = some g ∨ g = w2.heap.size + 1) → K (a.put o.dst (.slice (some ⟨g, 0, none⟩) (Ms.length + 1) cap)) w') :
    if Region.wanted o (yielded ops a.tmps) = true then Oper.wp Tryz.prog o a W K Q else E := by
  obtain ⟨i, hi, hz0, hz1, hz2⟩ := info_parts infoBp
  have hsz : W.heap.size = w2.heap.size + 1 := by rw [hW]; simp
  have hnews : ∀ j u, [ptrM x][j]? = some u → W.cell? ((⟨w2.heap.size, 0, none⟩ : Addr).add j) = some u := fun j u hu => by
    match j with
    | 0 => simp [ptrM] at hu; subst hu; rw [hW]; simp [Addr.add]
    | j + 1 => simp at hu
  refine step_append_lies W hgd so xo 62 ho (d + 1) 61 i _ 1 8 Tryz.underlying62 hi hz0 hz1 hz2 rfl (by decide) v Ms.length (Ms.map ptrM) hs (by rw [hW]; exact hown.alloc _) ⟨w2.heap.size, 0, none⟩ 1 1 [ptrM x] hx rfl hnews (fun u hu => by simp [ptrM] at hu; subst hu; rfl) (by decide) (by unfold maxLen; omega) (by omega) (by omega) (w2.heap.size + 1) hsz ?_
  intro g cp w1 hown1 hgr hat _
  exact h g cp w1 hown1 hgr hat

set_option maxRecDepth 100000 in
set_option maxHeartbeats 4000000 in
theorem mduo (W0 : World) : Calls Tryz.prog 22 #[] W0 fun e w' => ∃ d g cap M, e = .returned (.pointer (some ⟨d, 0, none⟩)) ∧ MD w' d g cap M ⟨duoB, duoB, 0⟩ 0 ∧ (∀ b, MDt d g M b → W0.heap.size ≤ b) ∧ Below W0.heap.size W0 w' := by
  obtain ⟨d, hd⟩ : ∃ d, W0.heap.size = d := ⟨_, rfl⟩
  have hN : ND W0 d (W0.alloc (.cells #[.slice none 0 0, .int .i64 0] 64)) (.slice none 0 0) [] := by
    subst hd
    exact ⟨(Below.refl _ _).alloc (Nat.le_refl _) _, Nat.le_refl _, by simp, by simp, fun k => by simp, World.ownsRow_nil _ _ _ _, (fun x hx => by cases hx), (fun x hx => by cases hx), (fun x hx => by cases hx), List.Pairwise.nil⟩
  have HN : Hid (ND W0 d (W0.alloc (.cells #[.slice none 0 0, .int .i64 0] 64)) (.slice none 0 0) []) := hN
  clear hN
  go_enter Tryz.func22, Tryz.ntmps22
  go_wp2_with fail
  generalize W0.alloc (.cells #[.slice none 0 0, .int .i64 0] 64) = w0 at *
  clear hd
  go_loopw [2] (fun t W => ∃ (k : Nat) (v : Value) (Ms : List Mm), k ≤ 2 ∧ t = .int .i64 (k : Nat) ∧ Ms.length = k ∧ ND W0 d W v Ms) (fun t _ => 2 - (intOf t).toNat)
  case atStart => exact ⟨0, _, [], by decide, rfl, rfl, HN.out⟩
  case round =>
    obtain ⟨k, v, Ms, hk, rfl, hMs, hND⟩ := hrel
    have HND : Hid (ND W0 d wr v Ms) := hND
    have HMS : Hid (Ms.length = k) := hMs
    by_cases hlt : k < 2
    · have hki : (k : Int) < 2 := by omega
      have hlen : Ms.length ≤ 2 := by omega
      have cr := hND.c0
      have fr := hND.fz 0
      have hdl := hND.dlt
      have hnb := newB wr
      clear hND hMs
      go_wp2_with fail
      go_region_law (first
        | (refine step_append_b w2 x d rfl _ _ rfl rfl v Ms rfl rfl OWN2.out hlen hdl2 ?_
           intro g cp w3 hown3 hgr hor
           have cr3 := (World.cell?_of_block (w := w2) (w' := w3) (a := ⟨d, 0, none⟩) (nd_block ((Below.refl _ _).alloc (Nat.le_refl _) _) hgr hdl2 HND.out.far)).trans cr2
           have fr3 := (World.frozen?_of_block (w := w2) (w' := w3) (a := ⟨d, 0, none⟩) (nd_block ((Below.refl _ _).alloc (Nat.le_refl _) _) hgr hdl2 HND.out.far)).trans fr2)
        | (go_simp; go_at_call 39; refine hnb.mono ?_; rintro e w2 ⟨x, rfl, hx, hxF, hb2⟩
           have cr2 := below_cell hb2 cr
           have fr2 := (World.frozen?_of_block (w := wr) (w' := w2) (a := ⟨d, 0, none⟩) (hb2.block d hdl)).trans fr
           have hdl2 := Nat.lt_of_lt_of_le hdl hb2.size
           have OWN2 : Hid (w2.ownsRow (d + 1) 61 1 v Ms.length (Ms.map ptrM)) := ownsRow_below HND.out.own hb2
           have HX : Hid (x.At 0 duoB w2 ∧ (∀ b, x.F b → wr.heap.size ≤ b) ∧ Below wr.heap.size wr w2) := ⟨hx, hxF, hb2⟩
           clear hx hxF hb2))
      all_goals
        have hm := HND.out.more HX.out.2.2 HX.out.1 HX.out.2.1 ((Below.refl _ _).alloc (Nat.le_refl _) _) hgr hown3 (hor.imp id fun h1 => by omega)
        have HM : Hid (ND W0 d (w3.setCell ⟨d, 0, none⟩ (.slice (some ⟨g, 0, none⟩) (Ms.length + 1) cp)) (.slice (some ⟨g, 0, none⟩) (Ms.length + 1) cp) (Ms ++ [x])) := hm
        clear hm hgr hown3 hor cr3 fr3 cr2 fr2 cr fr hnb
        generalize w3.setCell ⟨d, 0, none⟩ (.slice (some ⟨g, 0, none⟩) (Ms.length + 1) cp) = wN at *
        go_wp2
        exact ⟨⟨k + 1, _, Ms ++ [x], by omega, by go_num, by rw [List.length_append, HMS.out]; rfl, HM.out⟩, by simp [intOf]; omega⟩
    · obtain rfl : k = 2 := by omega
      match Ms, hMs, hND with
      | [x, y], _, hND =>
        obtain ⟨g, cap, M, h1, h2⟩ := hND.md
        have HF : Hid (MD wr d g cap M ⟨duoB, duoB, 0⟩ 0 ∧ (∀ b, MDt d g M b → W0.heap.size ≤ b) ∧ Below W0.heap.size W0 wr) := ⟨h1, h2, hND.below⟩
        clear h1 h2 hND
        go_wp2
        go_ret
        exact ⟨d, g, cap, M, rfl, HF.out⟩
end
end Go.Proofs.YtmdckddenelneaaGreatDoor

/- The closed fact: a play of three numbers. -/
namespace Go.Proofs.YtmdckddenelneaaGreatDoor
open Go.RowKit

theorem pick_first {nw : List ByteArray → Nat → Nat → ByteArray} {k : Nat} {S' : Lh.Bl} {s : ByteArray} {kept : Bool} {c : Nat} (h : PickR nw duoB k 0 S' s kept c) : c = 0 := by
  have hno : ∀ z, ¬ Lh.BKeeps duoB k 0 z := fun z ⟨h, _⟩ => absurd h (by simp [duoB])
  have ho : Lh.bopen duoB ≠ [] := open_some (s := nA) (Lh.bopen_mem.2 ⟨hup_new.2 (by simp [four]), by simp [duoB]⟩)
  obtain ⟨_, _, h, _⟩ := h.new ⟨by decide, by decide, by decide⟩ hno ho
  exact h
/-- numbers 0, -1, 40 -/
theorem run_first {nw : List ByteArray → Nat → Nat → ByteArray} {es : List Int} {D : Lh.Duo} (h : RunR nw ⟨duoB, duoB, 0⟩ [0, -1, 40] es D) : es = [0, -1, 0] := by
  obtain ⟨e1, D1, es1, h1, rfl, e2, D2, es2, h2, rfl, e3, D3, es3, h3, rfl, rfl, _⟩ := h
  rcases h1 with ⟨h1, _⟩ | ⟨n1, c1, hn1, rfl, h1⟩
  · omega
  obtain rfl : n1 = 0 := by omega
  obtain ⟨q, b, host, is, rfl, rfl, rfl, rfl, h1⟩ := h1
  rcases h1 with ⟨_, S1, s1, k1, hp1, rfl⟩ | ⟨m, _⟩ | ⟨m, _⟩ | ⟨m, _⟩ | ⟨m, _⟩ | ⟨m, _⟩
  rotate_left
  iterate 5 omega
  obtain rfl := pick_first hp1
  rcases h2 with ⟨_, rfl, rfl⟩ | ⟨n2, c2, hn2, _⟩
  rotate_left
  · omega
  rcases h3 with ⟨h3, _⟩ | ⟨n3, c3, hn3, rfl, h3⟩
  · omega
  obtain rfl : n3 = 40 := by omega
  obtain ⟨q, b, host, is, rfl, rfl, rfl, rfl, h3⟩ := h3
  rcases h3 with ⟨_, S3, s3, k3, hp3, rfl⟩ | ⟨m, _⟩ | ⟨m, _⟩ | ⟨m, _⟩ | ⟨m, _⟩ | ⟨m, _⟩
  rotate_left
  iterate 5 omega
  obtain rfl := pick_first hp3
  rfl

set_option maxRecDepth 100000 in
set_option maxHeartbeats 4000000 in
theorem played_any (hC : BalanceC) (hP : PlayC hC) (a : Nat → Addr) (w : World) (he : hP.E a w) :
    Calls Tryz.prog 6 #[] w fun e w' => e = .returned (.bool true) ∧ Below w.heap.size w w' := by
  have HE : Hid (hP.E a w) := he
  have hnew := hP.newD a w he
  clear he
  go_enter Tryz.func6, Tryz.ntmps6
  go_wp2_with fail
  refine hnew.mono ?_
  rintro e w1 ⟨x, rfl, hx, hxA, hxB, hxF, hb1⟩
  obtain ⟨wA, hwA⟩ : ∃ wA, wA = w1.alloc (.cells #[.int .i64 0, .int .i64 (-1), .int .i64 40] 3) := ⟨_, rfl⟩
  have hbA : Below w1.heap.size w1 wA := by rw [hwA]; exact (Below.refl _ _).alloc (Nat.le_refl _) _
  have hbwA : Below w.heap.size w wA := below_then hb1 hbA
  have hsc : Ints wA (.slice (some ⟨w1.heap.size, 0, none⟩) 3 3) [0, -1, 40] := Or.inr ⟨w1.heap.size, 0, 3, rfl, fun k hk => by
    have : k = 0 ∨ k = 1 ∨ k = 2 := by simp at hk; omega
    rw [hwA]
    rcases this with rfl | rfl | rfl <;> simp⟩
  have hrun := hP.run a x _ [0, -1, 40] wA (hP.eLater HE.out hbwA) (hx.later hbA) hsc (fun p n c e => by injection e; omega) (fun b o k c e _ hf => by
    have h1 := hx.lt b hf
    injection e with e _ _
    injection e with e
    injection e with e
    omega) (by decide) (by decide)
  have HF : Hid (∀ b, x.F b → w.heap.size ≤ b) := hxF
  have HXD : Hid (x.A = duoB ∧ x.B = duoB) := ⟨hxA, hxB⟩
  have HBA : Hid (Below w.heap.size w wA) := hbwA
  clear hnew hx hxA hxB hxF hb1 hbA hsc hbwA
  go_wp2_with fail
  rw [← hwA]
  refine hrun.mono ?_
  rintro e w2 ⟨y, es, now, v2, rfl, hR, hy, _, _, _, hyF, hT, hv2⟩
  rw [HXD.out.1, HXD.out.2] at hR
  obtain rfl := run_first hR
  have hbw2 : Below w.heap.size w w2 := hT.below HF.out HBA.out (Nat.le_refl _)
  have HV2 : Hid (Ints w2 v2 [0, -1, 0]) := hv2.ints
  clear hrun hR hy hyF hT hv2 HBA HXD HF hwA
  go_wp2_with fail
  obtain ⟨wB, hwB⟩ : ∃ wB, wB = w2.alloc (.cells #[.int .i64 0, .int .i64 (-1), .int .i64 0] 3) := ⟨_, rfl⟩
  have hbB : Below w2.heap.size w2 wB := by rw [hwB]; exact (Below.refl _ _).alloc (Nat.le_refl _) _
  have hsc : Ints wB (.slice (some ⟨w2.heap.size, 0, none⟩) 3 3) [0, -1, 0] := Or.inr ⟨w2.heap.size, 0, 3, rfl, fun k hk => by
    have : k = 0 ∨ k = 1 ∨ k = 2 := by simp at hk; omega
    rw [hwB]
    rcases this with rfl | rfl | rfl <;> simp⟩
  rw [← hwB]
  refine (sameInts_any v2 _ _ _ wB (HV2.out.later hbB) hsc (by decide) (by decide)).mono ?_
  rintro e w3 ⟨rfl, hb3⟩
  have hbw3 : Below w.heap.size w w3 := below_then (below_then hbw2 hbB) hb3
  have hk3 := hP.keys 3 w3
  clear hsc hbB hwB HV2 hbw2 hb3
  go_wp2_with fail
  refine hk3.mono ?_
  rintro e w4 ⟨v4, rfl, ⟨p4, c4, rfl, _⟩, hb4⟩
  have hbw4 := below_then hbw3 hb4
  have e3 : ((List.range (min (3 : Int).toNat 500)).map Lh.turn).length = 3 := by simp
  rw [e3]
  clear hk3 hb4 hbw3 e3
  go_wp2
  go_ret
  exact ⟨rfl, hbw4⟩
end Go.Proofs.YtmdckddenelneaaGreatDoor

/- The law PlayAgain, over the landed package's contracts. -/
namespace Go.Proofs.YtmdckddenelneaaGreatDoor
open Go.RowKit

/-- A list of numbers, as a caller hands it over. -/
def IntsP (w : World) (v : Value) (xs : List Int) : Prop :=
  (xs = [] ∧ v = .slice none 0 0) ∨ ∃ ad c, v = .slice (some ad) xs.length c ∧ xs.length ≤ c ∧ (∀ j u, (xs.map (Value.int .i64))[j]? = some u → w.cell? (ad.add j) = some u) ∧ (0 < xs.length → ad.spot = none)
theorem IntsP.later {w w' : World} {v : Value} {xs : List Int} (h : IntsP w v xs) (hb : Below w.heap.size w w') : IntsP w' v xs := by
  rcases h with h | ⟨ad, c, rfl, hcp, hc, hs⟩
  · exact Or.inl h
  · exact Or.inr ⟨ad, c, rfl, hcp, fun j u hu => below_cell hb (hc j u hu), hs⟩
theorem IntsP.room {w : World} {v : Value} {xs : List Int} (h : IntsP w v xs) : Room v := by
  rcases h with ⟨rfl, rfl⟩ | ⟨ad, c, rfl, hcp, _⟩
  · intro p n c e
    injection e
    omega
  · intro p n c e
    injection e
    omega
/-- where it lies -/
theorem IntsP.ints {w : World} {v : Value} {xs : List Int} (h : IntsP w v xs) : Ints w v xs ∧ IntsOff (fun b => w.heap.size ≤ b) v xs.length := by
  rcases h with ⟨rfl, rfl⟩ | ⟨⟨b, o, sp⟩, c, rfl, _, hc, hs⟩
  · exact ⟨Or.inl ⟨rfl, _, _, rfl⟩, fun b o k c h => by cases h⟩
  · by_cases h0 : 0 < xs.length
    · obtain rfl : sp = none := hs h0
      have hcell : ∀ k (h : k < xs.length), w.cell? ⟨b, o + k, none⟩ = some (.int .i64 xs[k]) := fun k hk => by
        have := hc k (.int .i64 xs[k]) (by simp [hk])
        rwa [Addr.add_lit] at this
      refine ⟨Or.inr ⟨b, o, c, rfl, hcell⟩, fun b' o' k' c' e _ hb => ?_⟩
      have e' : b = b' := by injection e with e _ _; injection e with e; injection e
      subst e'
      have := World.block_lt_of_cell? _ _ (hcell 0 h0)
      exact absurd hb (Nat.not_le.2 this)
    · have hx : xs = [] := List.length_eq_zero_iff.1 (by omega)
      subst hx
      exact ⟨Or.inl ⟨rfl, _, _, rfl⟩, fun _ _ _ _ _ h => absurd h (by simp)⟩
theorem ints_oneCellP (xs : List Int) : ∀ u ∈ xs.map (Value.int .i64), u.oneCell' = true := by
  intro u hu
  obtain ⟨_, _, rfl⟩ := List.mem_map.1 hu
  rfl
/-- 'append(own, l...)' where own is nil, at the operation. -/
theorem wpList_append_intsP (w : World) {ops : Array Oper} {rest : List Oper} {o : Oper} {a : Act} {Q : Exit → Act → World → Prop} (hgd : o.guard = none) (s x : Operand)
    (ho : o.op = .call { callee := .builtin .append, args := #[s, x], argTypes := #[29, 29] }) (hs : a.eval s = .slice none 0 0) (v : Value) (xs : List Int) (hx : a.eval x = v) (hv : IntsP w v xs) (hm : xs.length ≤ 1000000)
    (h : ∀ v' w', w'.ownsRow w.heap.size 3 1 v' xs.length (xs.map (Value.int .i64)) → w.grownBy w' none → wpList Tryz.prog ops Q rest (a.put o.dst v') w') : wpList Tryz.prog ops Q (o :: rest) a w := by
  obtain ⟨i, hi, hz0, hz1, hz2⟩ := info_parts infoI
  rcases hv with ⟨rfl, rfl⟩ | ⟨ad, c, rfl, _, hc, _⟩
  · exact wpList_append_own_none hgd s x 29 ho w.heap.size 3 i 1 Tryz.underlying29 hi (.slice none 0 0) 0 [] hs (World.ownsRow_nil _ _ _ _) hx (h _ _ (World.ownsRow_nil _ _ _ _) ⟨rfl, rfl, rfl, Nat.le_refl _, fun _ _ _ => rfl⟩)
  · refine wpList_append_own w hgd s x 29 ho w.heap.size 3 i _ 1 8 Tryz.underlying29 hi hz0 hz1 hz2 rfl (by decide) (.slice none 0 0) 0 [] hs (World.ownsRow_nil _ _ _ _) ad xs.length c (xs.map (Value.int .i64)) hx (by simp) hc (ints_oneCellP xs) (by unfold maxLen; omega) (by omega) (Nat.le_refl _) ?_
    intro v' w' h1 h2 _
    refine h v' w' ?_ h2
    simpa using h1

theorem ints_ownP {w : World} {base : Nat} {v : Value} {xs : List Int} (h : w.ownsRow base 3 1 v xs.length (xs.map (Value.int .i64))) : Ints w v xs ∧ IntsOff (fun b => b < base) v xs.length := by
  obtain ⟨hl, ⟨rfl, h0⟩ | ⟨g, cap, cur, rfl, hbase, hb, hn, hm, hsz, ht⟩⟩ := h
  · have hx : xs = [] := by
      have : xs.length = 0 := by simpa using h0
      exact List.length_eq_zero_iff.1 this
    subst hx
    exact ⟨Or.inl ⟨rfl, _, _, rfl⟩, fun b o k c e => by cases e⟩
  · refine ⟨Or.inr ⟨g, 0, cap, rfl, fun k hk => ?_⟩, fun b o k c e _ hlt => ?_⟩
    · have hk' : (cur.toList.take (xs.length * 1))[k]? = some (.int .i64 xs[k]) := by rw [ht]; simp [hk]
      rw [List.getElem?_take_of_lt (by omega)] at hk'
      simp only [World.cell?, hb]
      simpa using hk'
    · injection e with e _ _
      injection e with e
      injection e with e
      omega
theorem owns_room {w : World} {base m : Nat} {v : Value} {xs : List Int} (h : w.ownsRow base 3 1 v m (xs.map (Value.int .i64))) : Room v := by
  rcases h.2 with ⟨rfl, hn⟩ | ⟨g, cap, cur, rfl, _, _, hmc, _⟩
  · intro p n c e
    injection e
    omega
  · intro p n c e
    injection e
    omega
theorem IntsOff.mono {F G : Nat → Prop} {v : Value} {n : Nat} (h : IntsOff F v n) (hG : ∀ b, G b → F b) : IntsOff G v n := fun b o k c e h0 hg => h b o k c e h0 (hG b hg)
theorem IntsNew.turned {B : Nat} {F : Nat → Prop} {W W' : World} {v : Value} {xs : List Int} (h : IntsNew B W v xs) (hT : Tur F W W') (hF : ∀ b, F b → b < B) : IntsNew B W' v xs := by
  rcases h with h | ⟨b, o, c, h1, h2, h3⟩
  · exact Or.inl h
  · refine Or.inr ⟨b, o, c, h1, h2, fun k hk => cell_same (hT.block b (World.block_lt_of_cell? _ _ (h3 k hk)) fun hf => ?_) (h3 k hk)⟩
    have := hF b hf
    omega
theorem IntsNew.later {B : Nat} {W W' : World} {v : Value} {xs : List Int} (h : IntsNew B W v xs) (hb : Below W.heap.size W W') : IntsNew B W' v xs := by
  rcases h with h | ⟨b, o, c, h1, h2, h3⟩
  · exact Or.inl h
  · exact Or.inr ⟨b, o, c, h1, h2, fun k hk => below_cell hb (h3 k hk)⟩
theorem grown_below {W W' : World} (h : W.grownBy W' none) : Below W.heap.size W W' := (Below.refl _ _).grown h (Nat.le_refl _) (fun _ h => by cases h)
theorem FlowsNew.flowsP {B : Nat} {W : World} {v : Value} {L : List Lh.Fl} (h : FlowsNew B W v L) : Flows1 W v L := by
  rcases h with h | ⟨g, c, h1, h2, _, h3, _⟩
  · exact Or.inl h
  · exact Or.inr ⟨g, 0, c, h1, h2, by simpa only [Nat.zero_add] using h3⟩

end Go.Proofs.YtmdckddenelneaaGreatDoor

/- The law PlayRuns, over the landed package's contracts. -/
namespace Go.Proofs.YtmdckddenelneaaGreatDoor
open Go.RowKit

theorem duo_db : DB ⟨duoB, duoB, 0⟩ 0 := ⟨⟨duo_ok, duo_ok⟩, fun c => by cases c <;> decide, by decide, by decide⟩
theorem hups_len {S : Lh.Bl} (h : Lh.BOk S) : (Lh.hups S.hs).length < 1000000 := by
  unfold Lh.hups
  rw [List.length_map]
  have h1 := List.length_filter_le (fun x : Lh.Hh => x.2.1) S.hs
  have h2 := h.h.len
  omega
/-- a duo, and the model's -/
structure PM (hC : BalanceC) (w W : World) (x : DR) (d g cap : Nat) (M : Bool → Mm) (D : Lh.Duo) (B : Nat) : Prop where
  below : Below w.heap.size w W
  ax : x.At hC W
  md : MD W d g cap M D B
  bx : ∀ b, x.F b → w.heap.size ≤ b
  bm : ∀ b, MDt d g M b → w.heap.size ≤ b
  off : ∀ b, x.F b → ¬ MDt d g M b
section
variable {hC : BalanceC} {w W W' : World} {x x' : DR} {d g cap : Nat} {M M' : Bool → Mm} {D D' : Lh.Duo} {B B' : Nat}
theorem PM.turned (h : PM hC w W x d g cap M D B) (ha : x'.At hC W') (hF : ∀ b, x'.F b → x.F b ∨ W.heap.size ≤ b) (hT : Tur x.F W W') : PM hC w W' x' d g cap M D B := by
  refine ⟨hT.below h.bx h.below (Nat.le_refl _), ha, h.md.stay fun b hb => hT.block b (h.md.lt b hb) fun hf => h.off b hf hb, fun b hb => ?_, h.bm, fun b hb hg => ?_⟩
  · rcases hF b hb with h1 | h1
    · exact h.bx b h1
    · exact Nat.le_trans h.below.size h1
  · rcases hF b hb with h1 | h1
    · exact h.off b h1 hg
    · have := h.md.lt b hg
      omega
theorem PM.later (h : PM hC w W x d g cap M D B) (hb : Below W.heap.size W W') : PM hC w W' x d g cap M D B := h.turned (h.ax.later hb) (fun _ hf => Or.inl hf) (Tur.of_below hb)
theorem PM.model (h : PM hC w W x d g cap M D B) {v : Value} {es : List Int} (hM : ML W d g cap M W' M' D' B' v es) : PM hC w W' x d g cap M' D' B' := by
  refine ⟨hM.tur.below h.bm h.below (Nat.le_refl _), h.ax.stay hM.tur.size fun b hb => hM.tur.block b (h.ax.lt b hb) fun hf => h.off b hb hf, hM.md, h.bx, fun b hb => ?_, fun b hb hg => ?_⟩
  · rcases hM.new b hb with h1 | h1
    · exact h.bm b h1
    · exact Nat.le_trans h.below.size h1
  · rcases hM.new b hg with h1 | h1
    · exact h.off b hb h1
    · have := h.ax.lt b hb
      omega
end

set_option maxRecDepth 100000 in
set_option maxHeartbeats 8000000 in
theorem runs_core (hC : BalanceC) (hnw : hC.nw = nwB) (hP : PlayC hC) (a : Nat → Addr) (lp : Option Addr) (lc : Nat) (l : List Int) (w : World) (he : hP.E a w) (hl : l.length ≤ 250) (hla : IntsP w (.slice lp l.length lc) l) (hlz : ∀ z ∈ l, z < 9223372036854775808) :
    Calls Tryz.prog 5 #[.slice lp l.length lc] w fun e w' => e = .returned (.bool true) ∧ Below w.heap.size w w' := by
  have HE : Hid (hP.E a w) := he
  have HL : Hid (IntsP w (.slice lp l.length lc) l) := hla
  have HLZ : Hid (∀ z ∈ l, z < 9223372036854775808) := hlz
  have hpl := played_any hC hP a w he
  have d1 : decide (250 < (l.length : Int)) = false := by simp; omega
  clear he hla hlz
  go_enter Tryz.func5, Tryz.ntmps5
  go_wp2_with fail
  refine hpl.mono ?_
  rintro e w1 ⟨rfl, hb1⟩
  have hn1 := hP.newD a w1 (hP.eLater HE.out hb1)
  have HB1 : Hid (Below w.heap.size w w1) := hb1
  clear hpl hb1
  go_wp2_with fail
  refine hn1.mono ?_
  rintro e w2 ⟨x, rfl, hx, hxA, hxB, hxF, hb2⟩
  have hn2 := mduo w2
  have HX : Hid (x.At hC w2 ∧ x.A = duoB ∧ x.B = duoB ∧ ∀ b, x.F b → w1.heap.size ≤ b) := ⟨hx, hxA, hxB, hxF⟩
  have HB2 : Hid (Below w1.heap.size w1 w2) := hb2
  clear hn1 hx hxA hxB hxF hb2
  go_wp2_with fail
  refine hn2.mono ?_
  rintro e w3 ⟨d, g, cap, M, rfl, hM, hMF, hb3⟩
  have hPM : PM hC w1 w3 x d g cap M ⟨duoB, duoB, 0⟩ 0 := ⟨below_then HB2.out hb3, HX.out.1.later hb3, hM, HX.out.2.2.2, fun b hb => Nat.le_trans HB2.out.size (hMF b hb), fun b hb hg => by
    have h1 := HX.out.1.lt b hb
    have h2 := hMF b hg
    omega⟩
  have HP3 : Hid (PM hC w1 w3 x d g cap M ⟨duoB, duoB, 0⟩ 0) := hPM
  have HXD : Hid (x.A = duoB ∧ x.B = duoB) := ⟨HX.out.2.1, HX.out.2.2.1⟩
  have hla4 := (HL.out.later HB1.out).later hPM.below
  clear hn2 hM hMF hb3 hPM HX HB2
  go_wp2_with (at_builtin; refine wpList_append_intsP _ rfl _ _ rfl rfl _ l rfl hla4 (by omega) ?_; intro v5 w5 hown5 hgr5)
  have hb5 := grown_below hgr5
  obtain ⟨hi5, ho5⟩ := ints_ownP hown5
  have HRM5 : Hid (Room v5) := owns_room hown5
  have hP5 := HP3.out.later hb5
  have hrun := hP.run a x v5 l w5 (hP.eLater HE.out (below_then HB1.out hP5.below)) hP5.ax hi5 HRM5.out (ho5.mono fun b hb => HP3.out.ax.lt b hb) (by omega) HLZ.out
  have HP5 : Hid (PM hC w1 w5 x d g cap M ⟨duoB, duoB, 0⟩ 0) := hP5
  clear hla4 hown5 hgr5 hb5 hi5 ho5 hP5 HP3
  refine hrun.mono ?_
  rintro e w6 ⟨x6, es6, now6, v6, rfl, hR6, hx6, hd6, hp6, hq6, hF6, hT6, hv6⟩
  have hP6 := HP5.out.turned hx6 hF6 hT6
  obtain ⟨hio, hoo⟩ := HL.out.ints
  have hbw6 := below_then HB1.out hP6.below
  have hrun7 := mrun_any hP6.md duo_db (Nat.zero_le _) (.slice lp l.length lc) l (hio.later hbw6) (hoo.mono fun b hb => Nat.le_trans HB1.out.size (hP6.bm b hb)) (by omega) HLZ.out
  have HP6 : Hid (PM hC w1 w6 x6 d g cap M ⟨duoB, duoB, 0⟩ 0) := hP6
  have HD6 : Hid (x6.d = x.d) := hd6
  have HR6 : Hid (RunR hC.nw ⟨x.A, x.B, 0⟩ l es6 ⟨x6.A, x6.B, now6⟩) := hR6
  have HV6 : Hid (IntsNew w5.heap.size w6 v6 es6) := hv6
  clear hrun hR6 hx6 hd6 hp6 hq6 hF6 hT6 hv6 hP6 hio hoo hbw6
  go_wp2_with fail
  refine hrun7.mono ?_
  rintro e w7 ⟨v7, es7, D7, M7, rfl, hR7, hM7⟩
  have hP7 := HP6.out.model hM7
  have hV6 : Ints w7 v6 es6 := (HV6.out.turned hM7.tur fun b hb => HP5.out.md.lt b hb).ints
  have hV7 : Ints w7 v7 es7 := (ints_ownP hM7.own).1
  have h6 := HR6.out
  rw [HXD.out.1, HXD.out.2, hnw] at h6
  obtain ⟨rfl, rfl⟩ := runR_one h6 hR7
  have hlen : es6.length = l.length := runR_len h6
  have hsi := sameInts_any v6 v7 es6 es6 w7 hV6 hV7 (by omega) (by omega)
  have HP7 : Hid (PM hC w1 w7 x6 d g cap M7 ⟨x6.A, x6.B, now6⟩ (0 + l.length)) := hP7
  clear hrun7 hR7 hM7 hP7 hV6 hV7 h6 hlen HV6 HP6 HP5 HR6 HXD
  go_wp2_with fail
  refine hsi.mono ?_
  rintro e w8 ⟨he8, hb8⟩
  have he9 : e = .returned (.bool true) := by rw [he8]; simp
  subst he9
  have hP8 := HP7.out.later hb8
  have HP8 : Hid (PM hC w1 w8 x6 d g cap M7 ⟨x6.A, x6.B, now6⟩ (0 + l.length)) := hP8
  clear hsi he8 hb8 HP7 hP8
  go_wp2_with fail
  have h8 := HP8.out
  have k0 := h8.ax.c0
  have k1 := h8.ax.c1
  rw [HD6.out] at k0 k1
  have A0 : (M7 false).At (0 + l.length) x6.A w8 := h8.md.at_ false
  have A1 : (M7 true).At (0 + l.length) x6.B w8 := h8.md.at_ true
  have HEA : Hid (∀ W, Below w8.heap.size w8 W → Calls Tryz.prog 24 #[.pointer (some ⟨x6.p, 0, none⟩)] W fun e w' => e = .returned (.int .i64 x6.A.ep) ∧ Below w8.heap.size w8 w') := fun W hW => (hC.epoch _ x6.FA x6.p W (hC.later h8.ax.ra hW)).mono fun _ _ ⟨q1, q2⟩ => ⟨q1, below_then hW q2⟩
  have HEB : Hid (∀ W, Below w8.heap.size w8 W → Calls Tryz.prog 24 #[.pointer (some ⟨x6.q, 0, none⟩)] W fun e w' => e = .returned (.int .i64 x6.B.ep) ∧ Below w8.heap.size w8 w') := fun W hW => (hC.epoch _ x6.FB x6.q W (hC.later h8.ax.rb hW)).mono fun _ _ ⟨q1, q2⟩ => ⟨q1, below_then hW q2⟩
  have HFA : Hid (∀ W, Below w8.heap.size w8 W → Calls Tryz.prog 21 #[.pointer (some ⟨x6.p, 0, none⟩)] W fun e w' => ∃ v, e = .returned v ∧ Flows1 w' v x6.A.L ∧ Below w8.heap.size w8 w') := fun W hW => (hC.flows _ x6.FA x6.p W (hC.later h8.ax.ra hW) h8.ax.oka).mono fun _ _ ⟨v, q1, q2, q3⟩ => ⟨v, q1, q2.flowsP, below_then hW q3⟩
  have HFB : Hid (∀ W, Below w8.heap.size w8 W → Calls Tryz.prog 21 #[.pointer (some ⟨x6.q, 0, none⟩)] W fun e w' => ∃ v, e = .returned v ∧ Flows1 w' v x6.B.L ∧ Below w8.heap.size w8 w') := fun W hW => (hC.flows _ x6.FB x6.q W (hC.later h8.ax.rb hW) h8.ax.okb).mono fun _ _ ⟨v, q1, q2, q3⟩ => ⟨v, q1, q2.flowsP, below_then hW q3⟩
  have HSA : Hid (∀ W u, Below w8.heap.size w8 W → Flows1 W u x6.A.L → Calls Tryz.prog 20 #[u, (M7 false).fv] W fun e w' => e = .returned (.bool true) ∧ Below w8.heap.size w8 w') := fun W u hW hu => (sameFlows_same u (M7 false).fv x6.A.L W hu ((flows_of_owns A0.f.own).1.later hW) (by have := h8.ax.oka.ok.len; omega)).mono fun _ _ ⟨q1, q2⟩ => ⟨q1, below_then hW q2⟩
  have HSB : Hid (∀ W u, Below w8.heap.size w8 W → Flows1 W u x6.B.L → Calls Tryz.prog 20 #[u, (M7 true).fv] W fun e w' => e = .returned (.bool true) ∧ Below w8.heap.size w8 w') := fun W u hW hu => (sameFlows_same u (M7 true).fv x6.B.L W hu ((flows_of_owns A1.f.own).1.later hW) (by have := h8.ax.okb.ok.len; omega)).mono fun _ _ ⟨q1, q2⟩ => ⟨q1, below_then hW q2⟩
  have HUA : Hid (∀ W, Below w8.heap.size w8 W → Calls Tryz.prog 26 #[.pointer (some ⟨x6.p, 0, none⟩)] W fun e w' => ∃ v, e = .returned v ∧ Strs1 w' v (Lh.hups x6.A.hs) ∧ Below w8.heap.size w8 w') := fun W hW => (hC.up _ x6.FA x6.p W (hC.later h8.ax.ra hW) h8.ax.oka).mono fun _ _ ⟨v, q1, q2, q3⟩ => ⟨v, q1, q2, below_then hW q3⟩
  have HUB : Hid (∀ W, Below w8.heap.size w8 W → Calls Tryz.prog 26 #[.pointer (some ⟨x6.q, 0, none⟩)] W fun e w' => ∃ v, e = .returned v ∧ Strs1 w' v (Lh.hups x6.B.hs) ∧ Below w8.heap.size w8 w') := fun W hW => (hC.up _ x6.FB x6.q W (hC.later h8.ax.rb hW) h8.ax.okb).mono fun _ _ ⟨v, q1, q2, q3⟩ => ⟨v, q1, q2, below_then hW q3⟩
  have HVA : Hid (∀ W u, Below w8.heap.size w8 W → Strs1 W u (Lh.hups x6.A.hs) → Calls Tryz.prog 27 #[.pointer (some ⟨(M7 false).hm, 0, none⟩)] W fun e w' => ∃ v, e = .returned v ∧ (Strs1 w' u (Lh.hups x6.A.hs) ∧ Strs1 w' v (Lh.hups x6.A.hs)) ∧ Below w8.heap.size w8 w') := fun W u hW hu => (ups_any (A0.h.later hW) (by have h1 := h8.ax.oka.h.len; have h2 := congrArg List.length A0.hs; rw [hst, List.length_map] at h2; omega)).mono fun _ _ ⟨v, q1, q2, q3⟩ => ⟨v, q1, ⟨hu.later q3, by rw [← A0.hs]; exact q2⟩, below_then hW q3⟩
  have HVB : Hid (∀ W u, Below w8.heap.size w8 W → Strs1 W u (Lh.hups x6.B.hs) → Calls Tryz.prog 27 #[.pointer (some ⟨(M7 true).hm, 0, none⟩)] W fun e w' => ∃ v, e = .returned v ∧ (Strs1 w' u (Lh.hups x6.B.hs) ∧ Strs1 w' v (Lh.hups x6.B.hs)) ∧ Below w8.heap.size w8 w') := fun W u hW hu => (ups_any (A1.h.later hW) (by have h1 := h8.ax.okb.h.len; have h2 := congrArg List.length A1.hs; rw [hst, List.length_map] at h2; omega)).mono fun _ _ ⟨v, q1, q2, q3⟩ => ⟨v, q1, ⟨hu.later q3, by rw [← A1.hs]; exact q2⟩, below_then hW q3⟩
  have HTA : Hid (∀ W u v (S : Lh.Bl), Below w8.heap.size w8 W → Lh.BOk S → (Strs1 W u (Lh.hups S.hs) ∧ Strs1 W v (Lh.hups S.hs)) → Calls Tryz.prog 25 #[u, v] W fun e w' => e = .returned (.bool true) ∧ Below w8.heap.size w8 w') := fun W u v S hW hk hh => (sameTexts_any u v _ _ W hh.1.strs hh.2.strs (hups_len hk) (hups_len hk)).mono fun _ _ ⟨q1, q2⟩ => ⟨by rw [q1]; simp, below_then hW q2⟩
  have HOA : Hid (Lh.BOk x6.A) := h8.ax.oka
  have HOB : Hid (Lh.BOk x6.B) := h8.ax.okb
  have HKA : Hid (∀ W, Below w8.heap.size w8 W → Below w8.heap.size w8 W ∧ W.cell? ⟨x.d, 0, none⟩ = some (.pointer (some ⟨x6.p, 0, none⟩)) ∧ W.cell? ⟨x.d, 1, none⟩ = some (.pointer (some ⟨x6.q, 0, none⟩)) ∧ W.cell? ⟨d, 0, none⟩ = some (.slice (some ⟨g, 0, none⟩) 2 cap) ∧ W.cell? ⟨g, 0, none⟩ = some (.pointer (some ⟨(M7 false).m, 0, none⟩)) ∧ W.cell? ⟨g, 1, none⟩ = some (.pointer (some ⟨(M7 true).m, 0, none⟩)) ∧ W.cell? ⟨(M7 false).m, 4, none⟩ = some (.int .i64 x6.A.ep) ∧ W.cell? ⟨(M7 true).m, 4, none⟩ = some (.int .i64 x6.B.ep) ∧ W.cell? ⟨(M7 false).m, 1, none⟩ = some (.pointer (some ⟨(M7 false).fm, 0, none⟩)) ∧ W.cell? ⟨(M7 true).m, 1, none⟩ = some (.pointer (some ⟨(M7 true).fm, 0, none⟩)) ∧ W.cell? ⟨(M7 false).fm, 2, none⟩ = some (M7 false).fv ∧ W.cell? ⟨(M7 true).fm, 2, none⟩ = some (M7 true).fv) := fun W hW => ⟨hW, below_cell hW k0, below_cell hW k1, below_cell hW h8.md.c0, below_cell hW h8.md.r0, below_cell hW h8.md.r1, below_cell hW A0.c4, below_cell hW A1.c4, below_cell hW A0.c1, below_cell hW A1.c1, below_cell hW A0.f.c2, below_cell hW A1.f.c2⟩
  have HKB : Hid (∀ W, Below w8.heap.size w8 W → Below w8.heap.size w8 W ∧ W.cell? ⟨x.d, 0, none⟩ = some (.pointer (some ⟨x6.p, 0, none⟩)) ∧ W.cell? ⟨x.d, 1, none⟩ = some (.pointer (some ⟨x6.q, 0, none⟩)) ∧ W.cell? ⟨d, 0, none⟩ = some (.slice (some ⟨g, 0, none⟩) 2 cap) ∧ W.cell? ⟨g, 0, none⟩ = some (.pointer (some ⟨(M7 false).m, 0, none⟩)) ∧ W.cell? ⟨g, 1, none⟩ = some (.pointer (some ⟨(M7 true).m, 0, none⟩)) ∧ W.cell? ⟨(M7 false).m, 0, none⟩ = some (.pointer (some ⟨(M7 false).hm, 0, none⟩)) ∧ W.cell? ⟨(M7 true).m, 0, none⟩ = some (.pointer (some ⟨(M7 true).hm, 0, none⟩))) := fun W hW => ⟨hW, below_cell hW k0, below_cell hW k1, below_cell hW h8.md.c0, below_cell hW h8.md.r0, below_cell hW h8.md.r1, below_cell hW A0.c0, below_cell hW A1.c0⟩
  clear h8 k0 k1 A0 A1 HD6
  simp only [List.append_eq, List.cons_append, List.nil_append]
  have hb8d : Below w8.heap.size w8 w8.drew := below_drewN (Below.refl _ _) 1
  go_region_held3 (fun w' => Below w8.heap.size w8 w' ∧ w'.cell? ⟨x.d, 0, none⟩ = some (.pointer (some ⟨x6.p, 0, none⟩)) ∧ w'.cell? ⟨x.d, 1, none⟩ = some (.pointer (some ⟨x6.q, 0, none⟩)) ∧ w'.cell? ⟨d, 0, none⟩ = some (.slice (some ⟨g, 0, none⟩) 2 cap) ∧ w'.cell? ⟨g, 0, none⟩ = some (.pointer (some ⟨(M7 false).m, 0, none⟩)) ∧ w'.cell? ⟨g, 1, none⟩ = some (.pointer (some ⟨(M7 true).m, 0, none⟩)) ∧ w'.cell? ⟨(M7 false).m, 4, none⟩ = some (.int .i64 x6.A.ep) ∧ w'.cell? ⟨(M7 true).m, 4, none⟩ = some (.int .i64 x6.B.ep) ∧ w'.cell? ⟨(M7 false).m, 1, none⟩ = some (.pointer (some ⟨(M7 false).fm, 0, none⟩)) ∧ w'.cell? ⟨(M7 true).m, 1, none⟩ = some (.pointer (some ⟨(M7 true).fm, 0, none⟩)) ∧ w'.cell? ⟨(M7 false).fm, 2, none⟩ = some (M7 false).fv ∧ w'.cell? ⟨(M7 true).fm, 2, none⟩ = some (M7 true).fv)
    (first | exact HKA.out _ (by assumption) | exact HKA.out _ hb8d)
    (first
      | (go_at_call 24; with_reducible (show Calls _ _ #[.pointer (some ⟨x6.p, 0, none⟩)] _ _); refine (HEA.out _ (by assumption)).mono ?_; rintro e w10 ⟨rfl, hb10⟩)
      | (go_at_call 24; with_reducible (show Calls _ _ #[.pointer (some ⟨x6.q, 0, none⟩)] _ _); refine (HEB.out _ (by assumption)).mono ?_; rintro e w11 ⟨rfl, hb11⟩)
      | (go_at_call 21; with_reducible (show Calls _ _ #[.pointer (some ⟨x6.p, 0, none⟩)] _ _); refine (HFA.out _ (by assumption)).mono ?_; rintro e w12 ⟨v12, rfl, hv12, hb12⟩)
      | (go_at_call 21; with_reducible (show Calls _ _ #[.pointer (some ⟨x6.q, 0, none⟩)] _ _); refine (HFB.out _ (by assumption)).mono ?_; rintro e w14 ⟨v14, rfl, hv14, hb14⟩)
      | (go_at_call 20; with_reducible (show Calls _ _ #[_, (M7 false).fv] _ _); refine (HSA.out _ _ (by assumption) (by assumption)).mono ?_; rintro e w13 ⟨rfl, hb13⟩)
      | (go_at_call 20; with_reducible (show Calls _ _ #[_, (M7 true).fv] _ _); refine (HSB.out _ _ (by assumption) (by assumption)).mono ?_; rintro e w15 ⟨rfl, hb15⟩))
  clear HEA HEB HFA HFB HSA HSB HKA hv12 hv14 hb10 hb11 hb12 hb13 hb14 hb8d
  have hb15d : Below w8.heap.size w8 w15.drew := below_drewN hb15 1
  go_wp2_with fail
  go_region_held3 (fun w' => Below w8.heap.size w8 w' ∧ w'.cell? ⟨x.d, 0, none⟩ = some (.pointer (some ⟨x6.p, 0, none⟩)) ∧ w'.cell? ⟨x.d, 1, none⟩ = some (.pointer (some ⟨x6.q, 0, none⟩)) ∧ w'.cell? ⟨d, 0, none⟩ = some (.slice (some ⟨g, 0, none⟩) 2 cap) ∧ w'.cell? ⟨g, 0, none⟩ = some (.pointer (some ⟨(M7 false).m, 0, none⟩)) ∧ w'.cell? ⟨g, 1, none⟩ = some (.pointer (some ⟨(M7 true).m, 0, none⟩)) ∧ w'.cell? ⟨(M7 false).m, 0, none⟩ = some (.pointer (some ⟨(M7 false).hm, 0, none⟩)) ∧ w'.cell? ⟨(M7 true).m, 0, none⟩ = some (.pointer (some ⟨(M7 true).hm, 0, none⟩)))
    (exact HKB.out _ (by assumption))
    (first
      | (go_at_call 26; with_reducible (show Calls _ _ #[.pointer (some ⟨x6.p, 0, none⟩)] _ _); refine (HUA.out _ (by assumption)).mono ?_; rintro e w20 ⟨v20, rfl, hv20, hb20⟩)
      | (go_at_call 26; with_reducible (show Calls _ _ #[.pointer (some ⟨x6.q, 0, none⟩)] _ _); refine (HUB.out _ (by assumption)).mono ?_; rintro e w21 ⟨v21, rfl, hv21, hb21⟩)
      | (go_at_call 27; with_reducible (show Calls _ _ #[.pointer (some ⟨(M7 false).hm, 0, none⟩)] _ _); refine (HVA.out _ _ (by assumption) (by assumption)).mono ?_; rintro e w22 ⟨v22, rfl, hv22, hb22⟩)
      | (go_at_call 27; with_reducible (show Calls _ _ #[.pointer (some ⟨(M7 true).hm, 0, none⟩)] _ _); refine (HVB.out _ _ (by assumption) (by assumption)).mono ?_; rintro e w23 ⟨v23, rfl, hv23, hb23⟩)
      | (go_at_call 25; refine (HTA.out _ _ _ x6.A (by assumption) HOA.out (by assumption)).mono ?_; rintro e w24 ⟨rfl, hb24⟩)
      | (go_at_call 25; refine (HTA.out _ _ _ x6.B (by assumption) HOB.out (by assumption)).mono ?_; rintro e w25 ⟨rfl, hb25⟩))
  all_goals
    go_wp2
    go_ret
    exact ⟨rfl, below_then (below_then HB1.out HP8.out.below) (by assumption)⟩
end Go.Proofs.YtmdckddenelneaaGreatDoor

/- The law PlayRuns, over the landed package's contracts: all lists. -/
namespace Go.Proofs.YtmdckddenelneaaGreatDoor
open Go.RowKit

set_option maxHeartbeats 1000000 in
theorem runs_e1 (hC : BalanceC) (hP : PlayC hC) (a : Nat → Addr) (lp : Option Addr) (n lc : Nat) (w : World) (he : hP.E a w) (hl : n ≤ maxLen) (c1 : 250 < n) :
    Calls Tryz.prog 5 #[.slice lp n lc] w fun e w' => e = .returned (.bool true) ∧ Below w.heap.size w w' := by
  have hpl := played_any hC hP a w he
  have hn2 : n ≤ 9223372036854775807 := by unfold maxLen at hl; omega
  have d1 : decide (250 < (n : Int)) = true := by simp; omega
  clear he hl c1
  go_enter Tryz.func5, Tryz.ntmps5
  go_wp2_with fail
  refine hpl.mono ?_
  rintro e w1 ⟨rfl, hb1⟩
  clear hpl
  go_wp2
  go_ret
  exact ⟨rfl, hb1⟩
/-- PlayRuns of any list. -/
theorem runs_any (hC : BalanceC) (hnw : hC.nw = nwB) (hP : PlayC hC) (a : Nat → Addr) (lp : Option Addr) (lc : Nat) (l : List Int) (w : World) (he : hP.E a w) (hl : l.length ≤ maxLen) (hla : IntsP w (.slice lp l.length lc) l) (hlz : ∀ z ∈ l, z < 9223372036854775808) :
    Calls Tryz.prog 5 #[.slice lp l.length lc] w fun e w' => e = .returned (.bool true) ∧ Below w.heap.size w w' := by
  by_cases c1 : 250 < l.length
  · exact runs_e1 hC hP a lp l.length lc w he hl c1
  · exact runs_core hC hnw hP a lp lc l w he (by omega) hla hlz
end Go.Proofs.YtmdckddenelneaaGreatDoor
