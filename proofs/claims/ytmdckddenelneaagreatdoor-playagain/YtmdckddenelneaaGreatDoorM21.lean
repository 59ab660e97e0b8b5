/- The landed health: New. -/
import Derived.Test.YtmdckddenelneaaGreatDoorM7
import Derived.Test.YtmdckddenelneaaGreatDoorM12
import Derived.Test.YtmdckddenelneaaGreatDoorM19
import Derived.Test.YtmdckddenelneaaGreatDoorM5
import Derived.Sort.Walk0
namespace Go.Proofs.YtmdckddenelneaaGreatDoor
open Go.RowKit Go.Shelf

set_option maxHeartbeats 1000000 in
theorem isEdge_any (x : Int) (W : World) : Calls Tryz.prog 108 #[.int .i64 x] W fun e w' => e = .returned (.bool (decide (1 ≤ x ∧ x ≤ 10))) ∧ w' = W := by
  by_cases h1 : 1 ≤ x
  · have d1 : decide (1 ≤ x) = true := by simpa using h1
    by_cases h2 : x ≤ 10
    · have d2 : decide (x ≤ 10) = true := by simpa using h2
      have HD : Hid (decide (1 ≤ x ∧ x ≤ 10) = true) := by show decide (1 ≤ x ∧ x ≤ 10) = true; simp [h1, h2]
      clear h1 h2
      go_enter Tryz.func108, Tryz.ntmps108
      go_wp2
      go_ret
      exact ⟨by rw [HD.out]; rfl, rfl⟩
    · have d2 : decide (x ≤ 10) = false := by simpa using h2
      have HD : Hid (decide (1 ≤ x ∧ x ≤ 10) = false) := by show decide (1 ≤ x ∧ x ≤ 10) = false; simp [h2]
      clear h1 h2
      go_enter Tryz.func108, Tryz.ntmps108
      go_wp2
      go_ret
      exact ⟨by rw [HD.out]; rfl, rfl⟩
  · have d1 : decide (1 ≤ x) = false := by simpa using h1
    have HD : Hid (decide (1 ≤ x ∧ x ≤ 10) = false) := by show decide (1 ≤ x ∧ x ≤ 10) = false; simp [h1]
    clear h1
    go_enter Tryz.func108, Tryz.ntmps108
    go_wp2
    go_ret
    exact ⟨by rw [HD.out]; rfl, rfl⟩
theorem strs1_any {w : World} {v : Value} {xs : List ByteArray} (h : Strs1 w v xs) : ∃ q cap, v = .slice q xs.length cap ∧ ∀ k (h : k < xs.length), ∃ b o, q = some ⟨b, o, none⟩ ∧ w.cell? ⟨b, o + k, none⟩ = some (.string xs[k]) := by
  rcases h with ⟨rfl, rfl | ⟨a, c, rfl⟩⟩ | ⟨b, o, c, rfl, _, hx⟩
  · exact ⟨_, _, rfl, fun k h => absurd h (by simp)⟩
  · exact ⟨_, _, rfl, fun k h => absurd h (by simp)⟩
  · exact ⟨_, _, rfl, fun k h => ⟨b, o, rfl, hx k h⟩⟩
theorem hnew_snoc (xs : List ByteArray) {k : Nat} (h : k < xs.length) : Lh.hnew (xs.take (k + 1)) = Lh.hnew (xs.take k) ++ [(xs[k], true, 0)] := by
  unfold Lh.hnew
  rw [List.take_succ_eq_append_getElem h, List.map_append]
  rfl
theorem HR.fresh {W : World} {p f r : Nat} (c0 : W.cell? ⟨p, 0, none⟩ = some (.int .i64 (f : Nat))) (c1 : W.cell? ⟨p, 1, none⟩ = some (.int .i64 (r : Nat))) (c2 : W.cell? ⟨p, 2, none⟩ = some (.slice none 0 0)) (fz : ∀ k, W.frozen? ⟨p, k, none⟩ = false) : HR W p f r [] [] (.slice none 0 0) :=
  ⟨c0, c1, c2, fz, World.ownsRow_nil _ _ _ _, rfl, fun i h => absurd h (by simp), List.nodup_nil, fun b hb => by simp at hb, fun b hb => by simp at hb⟩

set_option maxRecDepth 100000 in
set_option maxHeartbeats 4000000 in
theorem newS_good (a : Nat → Addr) (v : Value) (xs : List ByteArray) (f r : Nat) (w : World) (he : Errs4 a w) (hv : Strs1 w v xs) (hf0 : IsFault xs 0 (-1)) (hs : ∀ s ∈ xs, s.size ≤ 300) (hf1 : 1 ≤ f) (hf : f ≤ 10) (hr1 : 1 ≤ r) (hr : r ≤ 10) :
    Calls Tryz.prog 78 #[v, .int .i64 (f : Nat), .int .i64 (r : Nat)] w fun e w' => ∃ p bs lv, e = .returned (.tuple #[.pointer (some ⟨p, 0, none⟩), .nilIface]) ∧ HR w' p f r (Lh.hnew xs) bs lv ∧ w.heap.size ≤ p ∧ Below w.heap.size w w' := by
  have hl := (fault0 hf0).2.1
  have hck := check_any4 a v xs w 0 (-1) he hv.strs hf0 (fun k h => Nat.le_trans (hs _ (List.getElem_mem h)) (by decide)) (by omega)
  have hef : ∀ W, Calls Tryz.prog 108 #[.int .i64 (f : Nat)] W fun e w' => e = .returned (.bool true) ∧ w' = W := fun W => by
    have := isEdge_any (f : Nat) W
    rwa [decide_eq_true (by omega)] at this
  have her : ∀ W, Calls Tryz.prog 108 #[.int .i64 (r : Nat)] W fun e w' => e = .returned (.bool true) ∧ w' = W := fun W => by
    have := isEdge_any (r : Nat) W
    rwa [decide_eq_true (by omega)] at this
  have HEF : Hid (∀ W, Calls Tryz.prog 108 #[.int .i64 (f : Nat)] W fun e w' => e = .returned (.bool true) ∧ w' = W) := hef
  have HER : Hid (∀ W, Calls Tryz.prog 108 #[.int .i64 (r : Nat)] W fun e w' => e = .returned (.bool true) ∧ w' = W) := her
  have HV : Hid (Strs1 w v xs) := hv
  clear hef her hs hf0 he hv
  go_enter Tryz.func78, Tryz.ntmps78
  go_wp2_with fail
  refine hck.mono ?_
  rintro e w1 ⟨ev, rfl, hev, hb1⟩
  obtain rfl := err0 hev
  clear hev hck
  go_wp2_with fail
  refine (HEF.out _).mono ?_
  rintro e w' ⟨rfl, rfl⟩
  go_wp2_with fail
  refine (HER.out _).mono ?_
  rintro e w2 ⟨rfl, rfl⟩
  clear HEF HER
  obtain ⟨q, cap, rfl, hx⟩ := strs1_any HV.out
  have HX : Hid (∀ k (h : k < xs.length), ∃ b o, q = some ⟨b, o, none⟩ ∧ w.cell? ⟨b, o + k, none⟩ = some (.string xs[k])) := hx
  clear hx HV
  go_wp2_with fail
  have hbW : Below w.heap.size w (w2.alloc (.cells #[.int .i64 (f : Nat), .int .i64 (r : Nat), .slice none 0 0] 187)) := hb1.alloc hb1.size _
  have hF : HR (w2.alloc (.cells #[.int .i64 (f : Nat), .int .i64 (r : Nat), .slice none 0 0] 187)) w2.heap.size f r [] [] (.slice none 0 0) := HR.fresh (by simp) (by simp) (by simp) (fun k => by simp)
  have hpm := hb1.size
  have HPM : Hid (w.heap.size ≤ w2.heap.size) := hpm
  generalize w2.alloc (.cells #[.int .i64 (f : Nat), .int .i64 (r : Nat), .slice none 0 0] 187) = w0 at *
  generalize w2.heap.size = p at *
  clear hb1 hpm
  go_loopw [11, 32] (fun _ t W => Below w.heap.size w W ∧ ∃ k : Nat, k ≤ xs.length ∧ t = .int .i64 k ∧ ∃ bs lv, HR W p f r (Lh.hnew (xs.take k)) bs lv) (fun _ t _ => xs.length - (intOf t).toNat)
  case atStart => exact ⟨hbW, 0, Nat.zero_le _, rfl, _, _, hF⟩
  case round =>
    clear hbW hF
    obtain ⟨hb, k, hk, rfl, bs, lv, hR⟩ := hrel
    obtain ⟨wo, hwo⟩ : ∃ wo, wo = wr := ⟨_, rfl⟩
    subst hwo
    by_cases hlt : k < xs.length
    · obtain ⟨b, o, rfl, hck⟩ := HX.out k hlt
      have cx := below_cell hb hck
      have HP : Hid (Lh.hnew (xs.take (k + 1)) = Lh.hnew (xs.take k) ++ [(xs[k], true, 0)]) := hnew_snoc xs hlt
      have hlen : (Lh.hnew (xs.take k)).length ≤ 208 := by
        unfold Lh.hnew
        rw [List.length_map, List.length_take]
        omega
      generalize Lh.hnew (xs.take k) = l at *
      generalize xs[k] = s at *
      have hki : (k : Int) < (xs.length : Int) := by omega
      have c2 := hR.c2
      have f2 := hR.fz 2
      have hp := hR.plt
      obtain ⟨hB2, hS2, hq2⟩ := laid2 wo s true
      have HR2 : Hid (HR wo p f r l bs lv) := hR
      have HB2 : Hid _ := hB2
      have HS2 : Hid _ := hS2
      have HQ2 : Hid _ := hq2
      have HOW : Hid _ := ownsRow_below hR.own hB2
      have c2' := below_cell hB2 c2
      have hpl : p < ((wo.alloc (.cells #[.string s, .bool true, .int .i64 0] 137)).alloc (.cells #[.pointer (some ⟨wo.heap.size, 0, none⟩)] 135)).heap.size := Nat.lt_of_lt_of_le hp hB2.size
      have HPL : Hid _ := hpl
      have HLO : Hid (∀ j, HFoot p bs lv j → w.heap.size ≤ j) := fun j hj => Nat.le_trans HPM.out (hR.lt j hj).2
      clear hck hR hB2 hS2 hq2 hpl
      go_wp2_with (at_builtin; refine wpList_append_s p (wo.heap.size + 1) wo.heap.size rfl _ _ rfl lv bs l.length rfl rfl HOW.out hlen HPL.out HQ2.out ?_)
      intro g cp w1 hown hgr hat
      have hown' : w1.ownsRow (p + 1) 135 1 (.slice (some ⟨g, 0, none⟩) (l.length + 1) cp) (l.length + 1) ((bs ++ [wo.heap.size]).map ptrS) := by rw [List.map_append]; exact hown
      have HN : Hid _ := HR2.out.added (s, true, 0) rfl HB2.out HS2.out hown' hgr (by simpa using hat)
      obtain ⟨d2, g2⟩ := HR2.out.grown HB2.out hgr
      clear hown hown' hgr hat c2 f2 cx HB2 HS2 HQ2 HOW HPL c2' HR2
      go_wp2
      refine ⟨⟨?_, k + 1, by omega, by go_num, _, _, by rw [HP.out]; exact HN.out.1⟩, by simp [intOf]; omega⟩
      refine HN.out.2.1.below (B := w.heap.size) (fun j hj => HLO.out j hj) hb (Nat.le_refl _)
    · have hki : decide ((k : Int) < (xs.length : Int)) = false := by simp; omega
      have HN : Hid (HR wo p f r (Lh.hnew xs) bs lv) := by
        have e : k = xs.length := by omega
        rw [e, List.take_length] at hR
        exact hR
      clear hR
      go_wp2
      go_ret2
      exact ⟨p, bs, lv, rfl, HN.out, HPM.out, hb⟩

end Go.Proofs.YtmdckddenelneaaGreatDoor

/- The landed balance: New. -/
namespace Go.Proofs.YtmdckddenelneaaGreatDoor
open Go.RowKit Go.Shelf Go.Maps Go.ChangeMaps

theorem Errs5.four {a : Nat → Addr} {w : World} (h : Errs5 a w) : Errs4 a w := ⟨h.s1, h.s3, h.s4, h.s5⟩
set_option maxRecDepth 100000 in
set_option maxHeartbeats 2000000 in
/-- New. -/
theorem new_bal (a : Nat → Addr) (v : Value) (xs : List ByteArray) (n t f r : Nat) (W : World) (he : Errs5 a W) (hv : Strs1 W v xs) (h0 : 0 < xs.length) (hf : IsFault xs 0 (-1)) (hs : ∀ s ∈ xs, s.size ≤ 300) (hprm : Lh.Prm n) (h5 : n ≤ 503) (ht1 : 1 ≤ t) (ht2 : t ≤ 1000) (hf1 : 1 ≤ f) (hf2 : f ≤ 10) (hr1 : 1 ≤ r) (hr2 : r ≤ 10) :
    Calls Tryz.prog 51 #[v, .int .i64 (n : Nat), .int .i64 (t : Nat), .int .i64 (f : Nat), .int .i64 (r : Nat)] W fun e w' => ∃ p hp fp fm db bs lv, e = .returned (.tuple #[.pointer (some ⟨p, 0, none⟩), .nilIface]) ∧ BR w' p hp fp fm db bs lv ⟨f, r, n, t, Lh.hnew xs, [], 0, 0, []⟩ ∧ (∀ b, BFt p hp fp fm db bs lv b → W.heap.size ≤ b) ∧ Below W.heap.size W w' := by
  have hnh := newS_good a v xs f r W he.four hv hf hs hf1 hf2 hr1 hr2
  have HMK : Hid (∀ w1, Below W.heap.size W w1 → Calls Tryz.prog 29 #[v, .int .i64 n] w1 fun e w' => ∃ g, e = .returned (.tuple #[.slice (some ⟨g, 0, none⟩) n n, .nilIface]) ∧ Below w1.heap.size w1 w') := fun w1 hb => (make_good5 a v xs n w1 (he.later hb) (hv.later hb) h0 hf (fun k hk => hs _ (List.getElem_mem hk)) hprm h5).mono fun e w' ⟨g, q1, _, _, q4⟩ => ⟨g, q1, q4⟩
  obtain ⟨b, o, c, rfl, _⟩ := strs1_pos hv h0
  have hl0 : ((xs.length : Int) == 0) = false := by rw [beq_eq_false_iff_ne]; omega
  have hl1 : ¬ xs.length = 0 := by omega
  have hmm := @run_makeMap Tryz.prog
  clear hv hf hs hprm he
  go_enter Tryz.func51, Tryz.ntmps51
  go_wp2_with fail
  refine hnh.mono ?_
  rintro e w1 ⟨hp, bs, lv, rfl, hR, hph, hb1⟩
  have hmk := HMK.out w1 hb1
  have HR1 : Hid (HR w1 hp f r (Lh.hnew xs) bs lv) := hR
  clear hnh HMK hR
  go_wp2_with fail
  refine hmk.mono ?_
  rintro e w2 ⟨g, rfl, hb2⟩
  have hnf := newF_good t w2 ht1 ht2
  clear hmk
  go_wp2_with fail
  refine hnf.mono ?_
  rintro e w3 ⟨fp, fm, rfl, hF, hfp, hfm, hb3⟩
  have HF : Hid (FR w3 fp fm t 0 []) := hF
  clear hnf hF
  go_wp2
  go_ret2
  have s1 := hb1.size
  have s2 := hb2.size
  have s3 := hb3.size
  have hb123 := below_then (below_then hb1 hb2) hb3
  have hH3 := HR1.out.later (below_then hb2 hb3)
  have hbA : Below w3.heap.size w3 (w3.alloc (.map #[] 0)) := (Below.refl _ _).alloc (Nat.le_refl _) _
  have hHl := HR1.out.lt
  have hFl := HF.out.lt
  refine ⟨w3.heap.size + 1, hp, fp, fm, w3.heap.size, bs, lv, rfl, ⟨by simp, by simp, by simp, by simp, by simp, fun k => by simp, ?_, ?_, ⟨.map [], ?_, SetN.zero⟩, List.nodup_nil, (fun s hs => absurd hs (by simp)), by omega, (fun hq => ?_), ?_, (fun hq => ?_), ?_, ?_⟩, ?_, ?_⟩
  · exact (hH3.later hbA).later ((Below.refl _ _).alloc (Nat.le_refl _) _)
  · exact (HF.out.later hbA).later ((Below.refl _ _).alloc (Nat.le_refl _) _)
  · exact (World.ownsMap_made w3 _ _ _).alloc _
  · have := (hHl _ hq).1
    omega
  · intro hq
    have := hFl _ hq
    omega
  · have := (hHl _ hq).1
    omega
  · intro hq
    have := hFl _ hq
    omega
  · rintro b hq (rfl | rfl)
    · have := (hHl _ hq).1
      omega
    · have := (hHl _ hq).1
      omega
  · rintro b (rfl | rfl | hq | hq)
    · omega
    · omega
    · have := (hHl b hq).2
      omega
    · rcases hq with rfl | rfl <;> omega
  · exact (hb123.alloc (by omega) _).alloc (by simp; omega) _
end Go.Proofs.YtmdckddenelneaaGreatDoor

/- cmp.Compare of numbers and texts, cmp.Or of two. -/
namespace Go.Proofs.YtmdckddenelneaaGreatDoor
open Go.RowKit Go.Sort

set_option maxHeartbeats 1000000 in
theorem nanU (x : Nat) (W : World) : Calls Tryz.prog 92 #[.int .u64 x] W fun e w' => e = .returned (.bool false) ∧ w' = W := by
  go_enter Tryz.func92, Tryz.ntmps92
  go_wp2
  go_ret
  exact ⟨by simp, rfl⟩
def cmpU (x y : Nat) : Int := if x < y then -1 else if y < x then 1 else 0
set_option maxHeartbeats 1000000 in
theorem compareU (x y : Nat) (W : World) : Calls Tryz.prog 58 #[.int .u64 x, .int .u64 y] W fun e w' => e = .returned (.int .i64 (cmpU x y)) ∧ w' = W := by
  unfold cmpU
  by_cases h1 : x < y
  · have e1 : decide ((x : Int) < (y : Int)) = true := by simpa using h1
    rw [if_pos h1]
    go_enter Tryz.func58, Tryz.ntmps58
    go_wp2_with (first | (refine (nanU _ _).mono ?_; rintro e w' ⟨rfl, rfl⟩) | fail)
    go_ret
    exact ⟨rfl, rfl⟩
  · have e1 : decide ((x : Int) < (y : Int)) = false := by simpa using h1
    rw [if_neg h1]
    by_cases h2 : y < x
    · have e2 : decide ((y : Int) < (x : Int)) = true := by simpa using h2
      rw [if_pos h2]
      go_enter Tryz.func58, Tryz.ntmps58
      go_wp2_with (first | (refine (nanU _ _).mono ?_; rintro e w' ⟨rfl, rfl⟩) | fail)
      go_ret
      exact ⟨rfl, rfl⟩
    · have e2 : decide ((y : Int) < (x : Int)) = false := by simpa using h2
      rw [if_neg h2]
      go_enter Tryz.func58, Tryz.ntmps58
      go_wp2_with (first | (refine (nanU _ _).mono ?_; rintro e w' ⟨rfl, rfl⟩) | fail)
      go_ret
      exact ⟨rfl, rfl⟩
end Go.Proofs.YtmdckddenelneaaGreatDoor
