/- The landed health: New. -/
import Derived.Test.YtkpjecpaejdgaabDoorHL3
namespace Go.Proofs.YtkpjecpaejdgaabDoor
open Go.RowKit Go.Shelf

set_option maxHeartbeats 1000000 in
theorem isEdge_any (x : Int) (W : World) : Calls Tryd.prog 66 #[.int .i64 x] W fun e w' => e = .returned (.bool (decide (1 ≤ x ∧ x ≤ 10))) ∧ w' = W := by
  by_cases h1 : 1 ≤ x
  · have d1 : decide (1 ≤ x) = true := by simpa using h1
    by_cases h2 : x ≤ 10
    · have d2 : decide (x ≤ 10) = true := by simpa using h2
      have HD : Hid (decide (1 ≤ x ∧ x ≤ 10) = true) := by show decide (1 ≤ x ∧ x ≤ 10) = true; simp [h1, h2]
      clear h1 h2
      go_enter Tryd.func66, Tryd.ntmps66
      go_wp2
      go_ret
      exact ⟨by rw [HD.out]; rfl, rfl⟩
    · have d2 : decide (x ≤ 10) = false := by simpa using h2
      have HD : Hid (decide (1 ≤ x ∧ x ≤ 10) = false) := by show decide (1 ≤ x ∧ x ≤ 10) = false; simp [h2]
      clear h1 h2
      go_enter Tryd.func66, Tryd.ntmps66
      go_wp2
      go_ret
      exact ⟨by rw [HD.out]; rfl, rfl⟩
  · have d1 : decide (1 ≤ x) = false := by simpa using h1
    have HD : Hid (decide (1 ≤ x ∧ x ≤ 10) = false) := by show decide (1 ≤ x ∧ x ≤ 10) = false; simp [h1]
    clear h1
    go_enter Tryd.func66, Tryd.ntmps66
    go_wp2
    go_ret
    exact ⟨by rw [HD.out]; rfl, rfl⟩
theorem strs1_any {w : World} {v : Value} {xs : List ByteArray} (h : Strs1 w v xs) : ∃ q cap, v = .slice q xs.length cap ∧ ∀ k (h : k < xs.length), ∃ b o, q = some ⟨b, o, none⟩ ∧ w.cell? ⟨b, o + k, none⟩ = some (.string xs[k]) := by
  rcases h with ⟨rfl, rfl | ⟨a, c, rfl⟩⟩ | ⟨b, o, c, rfl, _, hx⟩
  · exact ⟨_, _, rfl, fun k h => absurd h (by simp)⟩
  · exact ⟨_, _, rfl, fun k h => absurd h (by simp)⟩
  · exact ⟨_, _, rfl, fun k h => ⟨b, o, rfl, hx k h⟩⟩
theorem hnew_snoc (xs : List ByteArray) {k : Nat} (h : k < xs.length) : Lh.hnew (xs.take (k + 1)) = Lh.hnew (xs.take k) ++ [(xs[k], true, 0)] := by
  unfold Lh.hnew
  rw [List.take_succ_eq_append_getElem h, List.map_append]
  rfl
theorem HR.fresh {W : World} {p f r : Nat} (c0 : W.cell? ⟨p, 0, none⟩ = some (.int .i64 (f : Nat))) (c1 : W.cell? ⟨p, 1, none⟩ = some (.int .i64 (r : Nat))) (c2 : W.cell? ⟨p, 2, none⟩ = some (.slice none 0 0)) (fz : ∀ k, W.frozen? ⟨p, k, none⟩ = false) : HR W p f r [] [] (.slice none 0 0) :=
  ⟨c0, c1, c2, fz, World.ownsRow_nil _ _ _ _, rfl, fun i h => absurd h (by simp), List.nodup_nil, fun b hb => by simp at hb, fun b hb => by simp at hb⟩

set_option maxRecDepth 100000 in
set_option maxHeartbeats 4000000 in
theorem newS_good (a : Nat → Addr) (v : Value) (xs : List ByteArray) (f r : Nat) (w : World) (he : Errs4 a w) (hv : Strs1 w v xs) (hf0 : IsFault xs 0 (-1)) (hs : ∀ s ∈ xs, s.size ≤ 300) (hf1 : 1 ≤ f) (hf : f ≤ 10) (hr1 : 1 ≤ r) (hr : r ≤ 10) :
    Calls Tryd.prog 29 #[v, .int .i64 (f : Nat), .int .i64 (r : Nat)] w fun e w' => ∃ p bs lv, e = .returned (.tuple #[.pointer (some ⟨p, 0, none⟩), .nilIface]) ∧ HR w' p f r (Lh.hnew xs) bs lv ∧ w.heap.size ≤ p ∧ Below w.heap.size w w' := by
  have hl := (fault0 hf0).2.1
  have hck := check_any4 a v xs w 0 (-1) he hv.strs hf0 (fun k h => Nat.le_trans (hs _ (List.getElem_mem h)) (by decide)) (by omega)
  have hef : ∀ W, Calls Tryd.prog 66 #[.int .i64 (f : Nat)] W fun e w' => e = .returned (.bool true) ∧ w' = W := fun W => by
    have := isEdge_any (f : Nat) W
    rwa [decide_eq_true (by omega)] at this
  have her : ∀ W, Calls Tryd.prog 66 #[.int .i64 (r : Nat)] W fun e w' => e = .returned (.bool true) ∧ w' = W := fun W => by
    have := isEdge_any (r : Nat) W
    rwa [decide_eq_true (by omega)] at this
  have HEF : Hid (∀ W, Calls Tryd.prog 66 #[.int .i64 (f : Nat)] W fun e w' => e = .returned (.bool true) ∧ w' = W) := hef
  have HER : Hid (∀ W, Calls Tryd.prog 66 #[.int .i64 (r : Nat)] W fun e w' => e = .returned (.bool true) ∧ w' = W) := her
  have HV : Hid (Strs1 w v xs) := hv
  clear hef her hs hf0 he hv
  go_enter Tryd.func29, Tryd.ntmps29
  go_wp2_with fail
  refine hck.mono ?_
  rintro e w1 ⟨ev, rfl, hev, hb1⟩
  obtain rfl := err0 hev
  clear hev hck
  go_wp2_with fail
  refine (HEF.out _).mono ?_
  rintro e w' ⟨rfl, rfl⟩
  go_wp2_with fail
  refine (HER.out _).mono ?_
  rintro e w2 ⟨rfl, rfl⟩
  clear HEF HER
  obtain ⟨q, cap, rfl, hx⟩ := strs1_any HV.out
  have HX : Hid (∀ k (h : k < xs.length), ∃ b o, q = some ⟨b, o, none⟩ ∧ w.cell? ⟨b, o + k, none⟩ = some (.string xs[k])) := hx
  clear hx HV
  go_wp2_with fail
  have hbW : Below w.heap.size w (w2.alloc (.cells #[.int .i64 (f : Nat), .int .i64 (r : Nat), .slice none 0 0] 110)) := hb1.alloc hb1.size _
  have hF : HR (w2.alloc (.cells #[.int .i64 (f : Nat), .int .i64 (r : Nat), .slice none 0 0] 110)) w2.heap.size f r [] [] (.slice none 0 0) := HR.fresh (by simp) (by simp) (by simp) (fun k => by simp)
  have hpm := hb1.size
  have HPM : Hid (w.heap.size ≤ w2.heap.size) := hpm
  generalize w2.alloc (.cells #[.int .i64 (f : Nat), .int .i64 (r : Nat), .slice none 0 0] 110) = w0 at *
  generalize w2.heap.size = p at *
  clear hb1 hpm
  go_loopw [11, 32] (fun _ t W => Below w.heap.size w W ∧ ∃ k : Nat, k ≤ xs.length ∧ t = .int .i64 k ∧ ∃ bs lv, HR W p f r (Lh.hnew (xs.take k)) bs lv) (fun _ t _ => xs.length - (intOf t).toNat)
  case atStart => exact ⟨hbW, 0, Nat.zero_le _, rfl, _, _, hF⟩
  case round =>
    clear hbW hF
    obtain ⟨hb, k, hk, rfl, bs, lv, hR⟩ := hrel
    obtain ⟨wo, hwo⟩ : ∃ wo, wo = wr := ⟨_, rfl⟩
    subst hwo
    by_cases hlt : k < xs.length
    · obtain ⟨b, o, rfl, hck⟩ := HX.out k hlt
      have cx := below_cell hb hck
      have HP : Hid (Lh.hnew (xs.take (k + 1)) = Lh.hnew (xs.take k) ++ [(xs[k], true, 0)]) := hnew_snoc xs hlt
      have hlen : (Lh.hnew (xs.take k)).length ≤ 208 := by
        unfold Lh.hnew
        rw [List.length_map, List.length_take]
        omega
      generalize Lh.hnew (xs.take k) = l at *
      generalize xs[k] = s at *
      have hki : (k : Int) < (xs.length : Int) := by omega
      have c2 := hR.c2
      have f2 := hR.fz 2
      have hp := hR.plt
      obtain ⟨hB2, hS2, hq2⟩ := laid2 wo s true
      have HR2 : Hid (HR wo p f r l bs lv) := hR
      have HB2 : Hid _ := hB2
      have HS2 : Hid _ := hS2
      have HQ2 : Hid _ := hq2
      have HOW : Hid _ := ownsRow_below hR.own hB2
      have c2' := below_cell hB2 c2
      have hpl : p < ((wo.alloc (.cells #[.string s, .bool true, .int .i64 0] 113)).alloc (.cells #[.pointer (some ⟨wo.heap.size, 0, none⟩)] 111)).heap.size := Nat.lt_of_lt_of_le hp hB2.size
      have HPL : Hid _ := hpl
      have HLO : Hid (∀ j, HFoot p bs lv j → w.heap.size ≤ j) := fun j hj => Nat.le_trans HPM.out (hR.lt j hj).2
      clear hck hR hB2 hS2 hq2 hpl
      go_wp2_with (at_builtin; refine wpList_append_s p (wo.heap.size + 1) wo.heap.size rfl _ _ rfl lv bs l.length rfl rfl HOW.out hlen HPL.out HQ2.out ?_)
      intro g cp w1 hown hgr hat
      have hown' : w1.ownsRow (p + 1) 111 1 (.slice (some ⟨g, 0, none⟩) (l.length + 1) cp) (l.length + 1) ((bs ++ [wo.heap.size]).map ptrS) := by rw [List.map_append]; exact hown
      have HN : Hid _ := HR2.out.added (s, true, 0) rfl HB2.out HS2.out hown' hgr (by simpa using hat)
      obtain ⟨d2, g2⟩ := HR2.out.grown HB2.out hgr
      clear hown hown' hgr hat c2 f2 cx HB2 HS2 HQ2 HOW HPL c2' HR2
      go_wp2
      refine ⟨⟨?_, k + 1, by omega, by go_num, _, _, by rw [HP.out]; exact HN.out.1⟩, by simp [intOf]; omega⟩
      refine HN.out.2.1.below (B := w.heap.size) (fun j hj => HLO.out j hj) hb (Nat.le_refl _)
    · have hki : decide ((k : Int) < (xs.length : Int)) = false := by simp; omega
      have HN : Hid (HR wo p f r (Lh.hnew xs) bs lv) := by
        have e : k = xs.length := by omega
        rw [e, List.take_length] at hR
        exact hR
      clear hR
      go_wp2
      go_ret2
      exact ⟨p, bs, lv, rfl, HN.out, HPM.out, hb⟩

set_option maxHeartbeats 2000000 in
theorem newS_bad1 (a : Nat → Addr) (v : Value) (xs : List ByteArray) (x y : Int) (w : World) (c : Nat) (pl : Int) (he : Errs4 a w) (hv : Strs1 w v xs) (hc : c ≠ 0) (hf : IsFault xs c pl) (hs : ∀ s ∈ xs, s.size ≤ 300) (hl : xs.length < 1000) :
    Calls Tryd.prog 29 #[v, .int .i64 x, .int .i64 y] w fun e w' => ∃ ev, e = .returned (.tuple #[.pointer none, ev]) ∧ ErrIs a w' c pl ev ∧ Below w.heap.size w w' := by
  have hck := check_any4 a v xs w c pl he hv.strs hf (fun k h => Nat.le_trans (hs _ (List.getElem_mem h)) (by decide)) (by omega)
  clear hs hf he hv
  go_enter Tryd.func29, Tryd.ntmps29
  go_wp2_with fail
  refine hck.mono ?_
  rintro e w1 ⟨ev, rfl, hev, hb1⟩
  have HEV : Hid (ErrIs a w1 c pl ev) := hev
  obtain ⟨t, z, rfl⟩ := errPos hev hc
  clear hev hck
  go_wp2
  go_ret2
  exact ⟨_, rfl, HEV.out, hb1⟩

set_option maxHeartbeats 2000000 in
theorem newS_bad2 (a : Nat → Addr) (v : Value) (xs : List ByteArray) (x y : Int) (w : World) (he : Errs4 a w) (hv : Strs1 w v xs) (hf : IsFault xs 0 (-1)) (hxy : x < 1 ∨ 10 < x ∨ y < 1 ∨ 10 < y) (hs : ∀ s ∈ xs, s.size ≤ 300) (hl : xs.length < 1000) :
    Calls Tryd.prog 29 #[v, .int .i64 x, .int .i64 y] w fun e w' => e = .returned (.tuple #[.pointer none, .iface 203 (.pointer (some (a 1)))]) ∧ Below w.heap.size w w' := by
  have hck := check_any4 a v xs w 0 (-1) he hv.strs hf (fun k h => Nat.le_trans (hs _ (List.getElem_mem h)) (by decide)) (by omega)
  have HE : Hid (Errs4 a w) := he
  have hex := isEdge_any x
  have hey := isEdge_any y
  clear hs hf he hv
  by_cases hx : 1 ≤ x ∧ x ≤ 10
  · have hy : ¬ (1 ≤ y ∧ y ≤ 10) := by omega
    rw [decide_eq_true hx] at hex
    rw [decide_eq_false hy] at hey
    have HEX : Hid (∀ W, Calls Tryd.prog 66 #[.int .i64 x] W fun e w' => e = .returned (.bool true) ∧ w' = W) := hex
    have HEY : Hid (∀ W, Calls Tryd.prog 66 #[.int .i64 y] W fun e w' => e = .returned (.bool false) ∧ w' = W) := hey
    clear hx hy hxy hex hey
    go_enter Tryd.func29, Tryd.ntmps29
    go_wp2_with fail
    refine hck.mono ?_
    rintro e w1 ⟨ev, rfl, hev, hb1⟩
    obtain rfl := err0 hev
    have s1 := (HE.out.later hb1).s1
    clear hev hck
    go_wp2_with fail
    refine (HEX.out _).mono ?_
    rintro e w' ⟨rfl, rfl⟩
    go_wp2_with fail
    refine (HEY.out _).mono ?_
    rintro e w2 ⟨rfl, rfl⟩
    clear HEX HEY
    go_wp2
    go_quiet (fail)
    go_wp2
    go_ret2
    exact ⟨rfl, below_drewN hb1 nq⟩
  · rw [decide_eq_false hx] at hex
    have HEX : Hid (∀ W, Calls Tryd.prog 66 #[.int .i64 x] W fun e w' => e = .returned (.bool false) ∧ w' = W) := hex
    clear hx hxy hex hey
    go_enter Tryd.func29, Tryd.ntmps29
    go_wp2_with fail
    refine hck.mono ?_
    rintro e w1 ⟨ev, rfl, hev, hb1⟩
    obtain rfl := err0 hev
    have s1 := (HE.out.later hb1).s1
    clear hev hck
    go_wp2_with fail
    refine (HEX.out _).mono ?_
    rintro e w' ⟨rfl, rfl⟩
    clear HEX
    go_wp2
    go_quiet (fail)
    go_wp2
    go_ret2
    exact ⟨rfl, below_drewN hb1 nq⟩
end Go.Proofs.YtkpjecpaejdgaabDoor

/- The landed health: those, Up. -/
namespace Go.Proofs.YtkpjecpaejdgaabDoor
open Go.RowKit Go.Shelf

/-- the names of those of the first k that q takes -/
def thoseN (q : Lh.Hh → Bool) (l : List Lh.Hh) (k : Nat) : List ByteArray := ((l.take k).filter q).map fun x => x.1
theorem thoseN_succ (q : Lh.Hh → Bool) (l : List Lh.Hh) {k : Nat} (h : k < l.length) : thoseN q l (k + 1) = thoseN q l k ++ (if q l[k] then [(l[k]).1] else []) := by
  unfold thoseN
  rw [List.take_succ_eq_append_getElem h, List.filter_append, List.map_append]
  congr 1
  cases e : q l[k] <;> simp [e]
theorem thoseN_len (q : Lh.Hh → Bool) (l : List Lh.Hh) (k : Nat) : (thoseN q l k).length ≤ k := by
  unfold thoseN
  rw [List.length_map]
  refine Nat.le_trans (List.length_filter_le _ _) ?_
  rw [List.length_take]
  omega

set_option maxRecDepth 100000 in
set_option maxHeartbeats 2000000 in
theorem those_core (fn : Nat) (eg : ∀ args w, (callFunc fn args).run Tryd.prog w = .ok (.enter fn args) w) (q : Lh.Hh → Bool) {W : World} {p f r : Nat} {l : List Lh.Hh} {bs : List Nat} {lv : Value} (h : HR W p f r l bs lv) (hl : l.length ≤ 12)
    (hq : ∀ k (h1 : k < l.length) (h2 : k < bs.length) W', Below W.heap.size W W' → Calls Tryd.prog fn #[.pointer (some ⟨bs[k], 0, none⟩)] W' fun e w' => e = .returned (.bool (q l[k])) ∧ w' = W') :
    Calls Tryd.prog 70 #[.pointer (some ⟨p, 0, none⟩), .func (.func fn) #[] #[]] W fun e w' => ∃ v, e = .returned v ∧ w'.ownsRow W.heap.size 9 1 v (thoseN q l l.length).length ((thoseN q l l.length).map Value.string) ∧ Below W.heap.size W w' := by
  obtain ⟨i, hi, hz0, hz1, hz2⟩ := info_parts infoS
  obtain ⟨p0, cap, hlv⟩ := h.shape
  have HC : Hid (∀ i (hi : i < l.length) (h2 : i < bs.length), ∃ g, p0 = some ⟨g, 0, none⟩ ∧ W.cell? ⟨g, i, none⟩ = some (.pointer (some ⟨bs[i], 0, none⟩)) ∧ W.cell? ⟨bs[i], 0, none⟩ = some (.string (l[i]).1)) := fun i hi h2 => by
    obtain ⟨g, cap', e, _, _, _, hc, _⟩ := h.row (by omega)
    rw [hlv] at e
    cases e
    exact ⟨g, rfl, hc i h2, (h.st i hi h2).c0⟩
  have HQ : Hid (∀ k (h1 : k < l.length) (h2 : k < bs.length) W', Below W.heap.size W W' → Calls Tryd.prog fn #[.pointer (some ⟨bs[k], 0, none⟩)] W' fun e w' => e = .returned (.bool (q l[k])) ∧ w' = W') := hq
  have HLN : Hid (bs.length = l.length) := h.len
  have c2 := h.c2
  subst hlv
  clear h hq
  go_enter Tryd.func70, Tryd.ntmps70
  go_wp2_with fail
  go_loopw [5, 7, 15] (fun v _ t W' => Below W.heap.size W W' ∧ ∃ k : Nat, k ≤ l.length ∧ t = .int .i64 (k : Nat) ∧ W'.ownsRow W.heap.size 9 1 v (thoseN q l k).length ((thoseN q l k).map Value.string)) (fun _ _ t _ => l.length - (intOf t).toNat)
  case atStart => exact ⟨Below.refl _ _, 0, Nat.zero_le _, rfl, World.ownsRow_nil _ _ _ _⟩
  case round =>
    obtain ⟨hb, k, hk, rfl, hown⟩ := hrel
    obtain ⟨wo, hwo⟩ : ∃ wo, wo = wr := ⟨_, rfl⟩
    subst hwo
    obtain ⟨vo, hvo⟩ : ∃ vo, vo = u5 := ⟨_, rfl⟩
    subst hvo
    clear c2
    by_cases hlt : k < l.length
    · have hlt2 : k < bs.length := by rw [HLN.out]; exact hlt
      obtain ⟨g, rfl, cn, cu⟩ := HC.out k hlt hlt2
      have cn' := below_cell hb cn
      have cu' := below_cell hb cu
      have hcall := HQ.out k hlt hlt2 wo hb
      have hki : (k : Int) < (l.length : Int) := by omega
      have hul := thoseN_len q l k
      have hsu := thoseN_succ q l hlt
      clear cn cu
      generalize (l[k]).1 = s at *
      generalize bs[k] = b at *
      cases hu : q l[k] with
      | true =>
        rw [hu] at hcall hsu
        simp only [if_true] at hsu
        have HSU : Hid (thoseN q l (k + 1) = thoseN q l k ++ [s]) := hsu
        clear hu hsu
        generalize thoseN q l k = out at *
        have hown3 := hown.alloc (.cells #[.string s] 9)
        have hnews := cells_one (w := wo) (t := 9) s
        have hbw3 : Below W.heap.size W (wo.alloc (.cells #[.string s] 9)) := hb.alloc hb.size _
        have hmax : out.length + 1 ≤ maxLen := by unfold maxLen; omega
        clear hown
        go_wp2_with (first | (go_at_fn fn; refine hcall.mono ?_; rintro e w' ⟨rfl, rfl⟩; clear hcall) | (at_builtin; refine wpList_append_own _ rfl _ _ 41 rfl W.heap.size 9 i _ 1 16 Tryd.underlying41 hi hz0 hz1 hz2 rfl (by decide) vo out.length (out.map Value.string) rfl hown3 ⟨_, 0, none⟩ 1 1 [.string s] rfl rfl hnews (fun u hu => by simp at hu; subst hu; rfl) hmax (by omega) hbw3.size ?_))
        intro v' w4 hown4 hg4 _
        have hlo := hown3.lt
        have hb4 : Below W.heap.size W w4 := hbw3.grown hg4 hbw3.size (fun k hk => (hlo k hk).1)
        have hown5 := owns_snoc hown4
        have HOUT : Hid (w4.ownsRow W.heap.size 9 1 v' (out ++ [s]).length ((out ++ [s]).map Value.string)) := by rw [List.length_append]; exact hown5
        clear hown3 hnews hlo hg4 hbw3 hmax hown4 hown5
        go_wp2
        exact ⟨⟨hb4, k + 1, by omega, by go_num, by rw [HSU.out]; exact HOUT.out⟩, by simp [intOf]; omega⟩
      | false =>
        rw [hu] at hcall hsu
        simp only [Bool.false_eq_true, if_false, List.append_nil] at hsu
        have HOUT : Hid (wo.ownsRow W.heap.size 9 1 vo (thoseN q l (k + 1)).length ((thoseN q l (k + 1)).map Value.string)) := by rw [hsu]; exact hown
        clear hu hsu hown
        go_wp2_with (go_at_fn fn; refine hcall.mono ?_; rintro e w' ⟨rfl, rfl⟩; clear hcall)
        exact ⟨⟨hb, k + 1, by omega, by go_num, HOUT.out⟩, by simp [intOf]; omega⟩
    · have hki : decide ((k : Int) < (l.length : Int)) = false := by simp; omega
      have HS : Hid (wo.ownsRow W.heap.size 9 1 vo (thoseN q l l.length).length ((thoseN q l l.length).map Value.string)) := by
        have e : k = l.length := by omega
        rw [← e]
        exact hown
      clear hown
      go_wp2
      go_ret
      exact ⟨_, rfl, HS.out, hb⟩

set_option maxHeartbeats 1000000 in
theorem upC (b : Nat) (u : Bool) (W : World) (h1 : W.cell? ⟨b, 1, none⟩ = some (.bool u)) :
    Calls Tryd.prog 77 #[.pointer (some ⟨b, 0, none⟩)] W fun e w' => e = .returned (.bool u) ∧ w' = W := by
  go_enter Tryd.func77, Tryd.ntmps77
  go_wp2
  go_ret
  exact ⟨rfl, rfl⟩
theorem entersUp : ∀ args w, (callFunc 77 args).run Tryd.prog w = .ok (.enter 77 args) w := enters_of Tryd.func77 (by kernel_rfl) rfl
set_option maxHeartbeats 1000000 in
theorem allC (b : Nat) (W : World) :
    Calls Tryd.prog 71 #[.pointer (some ⟨b, 0, none⟩)] W fun e w' => e = .returned (.bool true) ∧ w' = W := by
  go_enter Tryd.func71, Tryd.ntmps71
  go_wp2
  go_ret
  exact ⟨rfl, rfl⟩
theorem entersAll : ∀ args w, (callFunc 71 args).run Tryd.prog w = .ok (.enter 71 args) w := enters_of Tryd.func71 (by kernel_rfl) rfl
section
variable {W : World} {p f r : Nat} {l : List Lh.Hh} {bs : List Nat} {lv : Value}
/-- all names -/
theorem all_any (h : HR W p f r l bs lv) (hl : l.length ≤ 12) :
    Calls Tryd.prog 70 #[.pointer (some ⟨p, 0, none⟩), .func (.func 71) #[] #[]] W fun e w' => ∃ v, e = .returned v ∧ w'.ownsRow W.heap.size 9 1 v l.length ((l.map fun x => x.1).map Value.string) ∧ Below W.heap.size W w' := by
  have h1 := those_core 71 entersAll (fun _ => true) h hl fun k _ _ W' _ => allC _ W'
  have e : thoseN (fun _ => true) l l.length = l.map fun x => x.1 := by
    unfold thoseN
    rw [List.take_length, List.filter_eq_self.2 (fun _ _ => rfl)]
  rw [e, List.length_map] at h1
  exact h1

set_option maxHeartbeats 1000000 in
/-- Up. -/
theorem upS_any (h : HR W p f r l bs lv) (hl : l.length ≤ 12) :
    Calls Tryd.prog 43 #[.pointer (some ⟨p, 0, none⟩)] W fun e w' => ∃ v, e = .returned v ∧ Strs1 w' v (Lh.hups l) ∧ Below W.heap.size W w' := by
  have h1 := those_core 77 entersUp (fun x => x.2.1) h hl fun k hk h2 W' hB => upC _ _ W' (below_cell hB (h.st k hk h2).c1)
  have e : thoseN (fun x => x.2.1) l l.length = Lh.hups l := by
    unfold thoseN Lh.hups
    rw [List.take_length]
  rw [e] at h1
  have h2 : Calls Tryd.prog 70 #[.pointer (some ⟨p, 0, none⟩), .func (.func 77) #[] #[]] W fun e w' => ∃ v, e = .returned v ∧ Strs1 w' v (Lh.hups l) ∧ Below W.heap.size W w' := h1.mono fun _ _ ⟨v, q1, q2, q3⟩ => ⟨v, q1, strs_of_owns q2, q3⟩
  clear h1 e h
  generalize Lh.hups l = ys at *
  go_enter Tryd.func43, Tryd.ntmps43
  go_wp2_with fail
  refine h2.mono ?_
  rintro e w1 ⟨v, rfl, hv, hb⟩
  clear h2
  go_wp2
  go_ret
  exact ⟨_, rfl, hv, hb⟩
end
end Go.Proofs.YtkpjecpaejdgaabDoor

/- The landed health: Add. -/
namespace Go.Proofs.YtkpjecpaejdgaabDoor
open Go.RowKit Go.Shelf

theorem good_prev {l : List Lh.Hh} {s : ByteArray} (hn : ∀ x ∈ l, Lh.isNm x.1 = true) (hd : (l.map fun x => x.1).Nodup) : ∀ j, j < l.length → ∀ hj : j < ((l.map fun x => x.1) ++ [s]).length, Good ((l.map fun x => x.1) ++ [s]) j hj := by
  intro j hj hj'
  have hjn : j < (l.map fun x => x.1).length := by simpa using hj
  have e1 : ((l.map fun x => x.1) ++ [s])[j] = (l.map fun x => x.1)[j] := List.getElem_append_left hjn
  have e2 : ((l.map fun x => x.1) ++ [s]).take j = (l.map fun x => x.1).take j := List.take_append_of_le_length (by omega)
  unfold Good
  rw [e1, e2]
  refine ⟨?_, Lh.mem_false fun h => ?_⟩
  · rw [List.getElem_map]
    exact hn _ (List.getElem_mem _)
  · rw [List.mem_take_iff_getElem] at h
    obtain ⟨i, hi, e⟩ := h
    exact List.pairwise_iff_getElem.1 hd i j (by omega) hjn (by omega) e
theorem hix_mem {l : List Lh.Hh} {s : ByteArray} : Lh.hix l s < l.length ↔ s ∈ l.map fun x => x.1 := by
  rw [Lh.hix_lt]
  simp
theorem add_fault {l : List Lh.Hh} {s : ByteArray} {k : Nat} (hn : ∀ x ∈ l, Lh.isNm x.1 = true) (hd : (l.map fun x => x.1).Nodup) (h : AddFault l s k) : ∃ pl, IsFault ((l.map fun x => x.1) ++ [s]) (k + 1) pl := by
  have hlen : ((l.map fun x => x.1) ++ [s]).length = l.length + 1 := by simp
  rcases h with ⟨h1, rfl⟩ | ⟨h1, h2, rfl⟩ | ⟨h1, h2, h3, rfl⟩
  · exact ⟨-1, Or.inl ⟨by rw [hlen]; omega, rfl, rfl⟩⟩
  · refine ⟨_, Or.inr (Or.inl ⟨by rw [hlen]; omega, l.length, by rw [hlen]; omega, good_prev hn hd, rfl, Or.inl ⟨?_, rfl⟩⟩)⟩
    have e : ((l.map fun x => x.1) ++ [s])[l.length]'(by rw [hlen]; omega) = s := by simp
    rw [e]
    exact h2
  · refine ⟨_, Or.inr (Or.inl ⟨by rw [hlen]; omega, l.length, by rw [hlen]; omega, good_prev hn hd, rfl, Or.inr ⟨?_, ?_, rfl⟩⟩)⟩
    · have e : ((l.map fun x => x.1) ++ [s])[l.length]'(by rw [hlen]; omega) = s := by simp
      rw [e]
      exact h2
    · have e : ((l.map fun x => x.1) ++ [s])[l.length]'(by rw [hlen]; omega) = s := by simp
      have e2 : ((l.map fun x => x.1) ++ [s]).take l.length = l.map fun x => x.1 := by simp
      rw [e, e2]
      exact Lh.mem_true (hix_mem.1 h3)
theorem add_fine {l : List Lh.Hh} {s : ByteArray} (hn : ∀ x ∈ l, Lh.isNm x.1 = true) (hd : (l.map fun x => x.1).Nodup) (h1 : l.length < 12) (h2 : Lh.isNm s = true) (h3 : ¬ Lh.hix l s < l.length) : IsFault ((l.map fun x => x.1) ++ [s]) 0 (-1) := by
  refine fault_of (by simp; omega) (fun t ht => ?_) ?_
  · rcases List.mem_append.1 ht with ht | ht
    · obtain ⟨x, hx, rfl⟩ := List.mem_map.1 ht
      exact hn x hx
    · simp at ht
      subst ht
      exact h2
  · rw [List.nodup_append]
    refine ⟨hd, by simp, fun x hx y hy e => ?_⟩
    simp at hy
    subst hy
    subst e
    exact h3 (hix_mem.2 hx)

set_option maxHeartbeats 2000000 in
theorem bareS_fault (pb : Nat) (ai : Addr) (W : World) (hg : W.cell? ⟨9, 0, none⟩ = some (.iface 181 (.agg #[.pointer (some ⟨10, 26, none⟩)]))) (h1 : W.cell? ⟨pb, 1, none⟩ = some (.iface 203 (.pointer (some ai)))) :
    Calls Tryd.prog 72 #[.iface 128 (.pointer (some ⟨pb, 0, none⟩))] W fun e w' => e = .returned (.iface 203 (.pointer (some ai))) ∧ Below W.heap.size W w' := by
  have hAs : Calls Tryd.prog 78 #[.iface 128 (.pointer (some ⟨pb, 0, none⟩)), .iface 130 (.pointer (some ⟨W.heap.size, 0, none⟩))] (W.alloc (.cells #[.pointer none] 128)) fun e w' => e = .returned (.bool true) ∧ Below W.heap.size W w' ∧ w'.cell? ⟨W.heap.size, 0, none⟩ = some (.pointer (some ⟨pb, 0, none⟩)) := by
    refine (as_hit ⟨pb, 0, none⟩ ⟨W.heap.size, 0, none⟩ (.pointer none) (W.alloc (.cells #[.pointer none] 128)) (below_cell ((Below.refl _ _).alloc (Nat.le_refl _) _) hg) (by simp) (by simp)).mono ?_
    rintro ev w' ⟨rfl, rfl⟩
    refine ⟨rfl, (((((Below.refl _ _).alloc (Nat.le_refl _) _).alloc (by simp) _).alloc (by simp; omega) _).alloc (by simp; omega) _).alloc (by simp; omega) _ |>.setCell (Nat.le_refl _) _, ?_⟩
    exact World.cell?_setCell_same' _ _ _ (by
      rw [World.cell?_alloc_lt _ _ _ (by simp; omega), World.cell?_alloc_lt _ _ _ (by simp; omega), World.cell?_alloc_lt _ _ _ (by simp; omega), World.cell?_alloc_lt _ _ _ (by simp)]; simp)
  clear hg
  go_enter Tryd.func72, Tryd.ntmps72
  go_wp2_with fail
  refine hAs.mono ?_
  rintro e w1 ⟨rfl, hb1, hc⟩
  have h1' := below_cell hb1 h1
  clear hAs h1
  go_wp2
  go_ret
  exact ⟨rfl, hb1⟩

set_option maxHeartbeats 2000000 in
theorem bareS_sent (ai : Addr) (W : World) (hg : W.cell? ⟨9, 0, none⟩ = some (.iface 181 (.agg #[.pointer (some ⟨10, 26, none⟩)]))) :
    Calls Tryd.prog 72 #[.iface 203 (.pointer (some ai))] W fun e w' => e = .returned (.iface 203 (.pointer (some ai))) ∧ Below W.heap.size W w' := by
  have hAs : Calls Tryd.prog 78 #[.iface 203 (.pointer (some ai)), .iface 130 (.pointer (some ⟨W.heap.size, 0, none⟩))] (W.alloc (.cells #[.pointer none] 128)) fun e w' => e = .returned (.bool false) ∧ Below W.heap.size W w' := by
    refine (as_miss ai ⟨W.heap.size, 0, none⟩ (W.alloc (.cells #[.pointer none] 128)) (below_cell ((Below.refl _ _).alloc (Nat.le_refl _) _) hg)).mono ?_
    rintro ev w' ⟨rfl, rfl⟩
    exact ⟨rfl, ((((Below.refl _ _).alloc (Nat.le_refl _) _).alloc (by simp) _).alloc (by simp; omega) _).alloc (by simp; omega) _⟩
  clear hg
  go_enter Tryd.func72, Tryd.ntmps72
  go_wp2_with fail
  refine hAs.mono ?_
  rintro e w1 ⟨rfl, hb1⟩
  clear hAs
  go_wp2
  go_ret
  exact ⟨rfl, hb1⟩
/-- bare. -/
theorem bareS_any {a : Nat → Addr} {W : World} {k : Nat} {pl : Int} {ev : Value} (he : Errs a W) (h : ErrIs a W (k + 1) pl ev) :
    Calls Tryd.prog 72 #[ev] W fun e w' => e = .returned (.iface 203 (.pointer (some (a k)))) ∧ Below W.heap.size W w' := by
  rcases h with ⟨h0, _⟩ | ⟨i, _, hc, ⟨_, rfl⟩ | ⟨b, rfl, _, h1⟩⟩
  · omega
  · obtain rfl : i = k := by omega
    exact bareS_sent _ W he.handle
  · obtain rfl : i = k := by omega
    exact bareS_fault b _ W he.handle h1
section
variable {W : World} {p f r : Nat} {l : List Lh.Hh} {bs : List Nat} {lv : Value}

set_option maxRecDepth 100000 in
set_option maxHeartbeats 2000000 in
theorem addS_bad (a : Nat → Addr) (he : Errs a W) (h : HR W p f r l bs lv) (hk : Lh.HOk f r l) (hn : ∀ x ∈ l, Lh.isNm x.1 = true) (s : ByteArray) (hs : s.size ≤ 300) (k : Nat) (hf : AddFault l s k) :
    Calls Tryd.prog 36 #[.pointer (some ⟨p, 0, none⟩), .string s] W fun e w' => e = .returned (.iface 203 (.pointer (some (a k)))) ∧ Below W.heap.size W w' := by
  obtain ⟨i, hi, hz0, hz1, hz2⟩ := info_parts infoS
  have hall := all_any h hk.len
  obtain ⟨pl, hpl⟩ := add_fault hn hk.nodup hf
  have hln : (l.map fun x => x.1).length = l.length := by simp
  have hsz : ∀ t ∈ (l.map fun x => x.1) ++ [s], t.size ≤ 300 := fun t ht => by
    rcases List.mem_append.1 ht with ht | ht
    · obtain ⟨x, hx, rfl⟩ := List.mem_map.1 ht
      exact hk.size x hx
    · simp at ht
      subst ht
      exact hs
  have h12 := hk.len
  have HCK : Hid (∀ W' v, Below W.heap.size W W' → Strs W' v ((l.map fun x => x.1) ++ [s]) → Calls Tryd.prog 58 #[v] W' fun e w' => ∃ ev, e = .returned ev ∧ ErrIs a w' (k + 1) pl ev ∧ Below W'.heap.size W' w') := fun W' v hB hv => check_any4 a v _ W' (k + 1) pl (he.later hB).four hv hpl (fun j hj => Nat.le_trans (hsz _ (List.getElem_mem hj)) (by decide)) (by simp; omega)
  have HE : Hid (Errs a W) := he
  rw [← hln] at hall h12
  clear hpl hf hn hk hsz he h hs hln
  generalize (l.map fun x => x.1) = ns at *
  go_enter Tryd.func36, Tryd.ntmps36
  go_wp2_with fail
  refine hall.mono ?_
  rintro e w1 ⟨v1, rfl, hown, hb1⟩
  clear hall
  have hown3 := hown.alloc (.cells #[.string s] 9)
  have hnews := cells_one (w := w1) (t := 9) s
  have hbw3 : Below W.heap.size W (w1.alloc (.cells #[.string s] 9)) := hb1.alloc hb1.size _
  have hmax : ns.length + 1 ≤ maxLen := by unfold maxLen; omega
  clear hown
  go_wp2_with (at_builtin; refine wpList_append_own _ rfl _ _ 41 rfl W.heap.size 9 i _ 1 16 Tryd.underlying41 hi hz0 hz1 hz2 rfl (by decide) v1 ns.length (ns.map Value.string) rfl hown3 ⟨w1.heap.size, 0, none⟩ 1 1 [.string s] rfl rfl hnews (fun u hu => by simp at hu; subst hu; rfl) hmax (by omega) hbw3.size ?_)
  intro v' w4 hown4 hg4 _
  have hlo := hown3.lt
  have hb4 : Below W.heap.size W w4 := hbw3.grown hg4 hbw3.size (fun k hk => (hlo k hk).1)
  have hst : Strs w4 v' (ns ++ [s]) := (strs_of_owns (owns_snoc hown4)).strs
  have hck := HCK.out w4 v' hb4 hst
  clear hown3 hnews hlo hg4 hbw3 hmax hown4 hst HCK
  go_wp2_with fail
  refine hck.mono ?_
  rintro e w5 ⟨ev, rfl, hev, hb5⟩
  have hb6 := below_then hb4 hb5
  have hbare := bareS_any (HE.out.later hb6) hev
  obtain ⟨t, z, rfl⟩ := errPos hev (by omega)
  clear hck hb5 hb4 hev
  go_wp2_with fail
  refine hbare.mono ?_
  rintro e w7 ⟨rfl, hb7⟩
  have hb8 := below_then hb6 hb7
  clear hbare hb7 hb6
  go_wp2
  go_ret
  exact ⟨rfl, hb8⟩
end
end Go.Proofs.YtkpjecpaejdgaabDoor

/- The landed health: Add, where nothing is wrong. -/
namespace Go.Proofs.YtkpjecpaejdgaabDoor
open Go.RowKit Go.Shelf
section
variable {W : World} {p f r : Nat} {l : List Lh.Hh} {bs : List Nat} {lv : Value}

set_option maxRecDepth 100000 in
set_option maxHeartbeats 2000000 in
theorem addS_good (a : Nat → Addr) (he : Errs a W) (h : HR W p f r l bs lv) (hk : Lh.HOk f r l) (hn : ∀ x ∈ l, Lh.isNm x.1 = true) (s : ByteArray) (hs : s.size ≤ 300) (g1 : l.length < 12) (g2 : Lh.isNm s = true) (g3 : ¬ Lh.hix l s < l.length) :
    Calls Tryd.prog 36 #[.pointer (some ⟨p, 0, none⟩), .string s] W fun e w' => e = .returned .nilIface ∧ ∃ bs' lv', HR w' p f r (l ++ [(s, false, 0)]) bs' lv' ∧ Tur (HFoot p bs lv) W w' ∧ ∀ b, HFoot p bs' lv' b → HFoot p bs lv b ∨ W.heap.size ≤ b := by
  obtain ⟨i, hi, hz0, hz1, hz2⟩ := info_parts infoS
  have hall := all_any h hk.len
  have hpl := add_fine hn hk.nodup g1 g2 g3
  have hln : (l.map fun x => x.1).length = l.length := by simp
  have hsz : ∀ t ∈ (l.map fun x => x.1) ++ [s], t.size ≤ 300 := fun t ht => by
    rcases List.mem_append.1 ht with ht | ht
    · obtain ⟨x, hx, rfl⟩ := List.mem_map.1 ht
      exact hk.size x hx
    · simp at ht
      subst ht
      exact hs
  have h12 := hk.len
  have HCK : Hid (∀ W' v, Below W.heap.size W W' → Strs W' v ((l.map fun x => x.1) ++ [s]) → Calls Tryd.prog 58 #[v] W' fun e w' => ∃ ev, e = .returned ev ∧ ErrIs a w' 0 (-1) ev ∧ Below W'.heap.size W' w') := fun W' v hB hv => check_any4 a v _ W' 0 (-1) (he.later hB).four hv hpl (fun j hj => Nat.le_trans (hsz _ (List.getElem_mem hj)) (by decide)) (by simp; omega)
  have HH : Hid (HR W p f r l bs lv) := h
  rw [← hln] at hall h12
  clear hpl hn hk hsz he h hs hln g2 g3
  generalize (l.map fun x => x.1) = ns at *
  go_enter Tryd.func36, Tryd.ntmps36
  go_wp2_with fail
  refine hall.mono ?_
  rintro e w1 ⟨v1, rfl, hown, hb1⟩
  clear hall
  have hown3 := hown.alloc (.cells #[.string s] 9)
  have hnews := cells_one (w := w1) (t := 9) s
  have hbw3 : Below W.heap.size W (w1.alloc (.cells #[.string s] 9)) := hb1.alloc hb1.size _
  have hmax : ns.length + 1 ≤ maxLen := by unfold maxLen; omega
  clear hown
  go_wp2_with (at_builtin; refine wpList_append_own _ rfl _ _ 41 rfl W.heap.size 9 i _ 1 16 Tryd.underlying41 hi hz0 hz1 hz2 rfl (by decide) v1 ns.length (ns.map Value.string) rfl hown3 ⟨w1.heap.size, 0, none⟩ 1 1 [.string s] rfl rfl hnews (fun u hu => by simp at hu; subst hu; rfl) hmax (by omega) hbw3.size ?_)
  intro v' w4 hown4 hg4 _
  have hlo := hown3.lt
  have hb4 : Below W.heap.size W w4 := hbw3.grown hg4 hbw3.size (fun k hk => (hlo k hk).1)
  have hst : Strs w4 v' (ns ++ [s]) := (strs_of_owns (owns_snoc hown4)).strs
  have hck := HCK.out w4 v' hb4 hst
  clear hown3 hnews hlo hg4 hbw3 hmax hown4 hst HCK
  go_wp2_with fail
  refine hck.mono ?_
  rintro e w5 ⟨ev, rfl, hev, hb5⟩
  have hb6 := below_then hb4 hb5
  obtain rfl := err0 hev
  clear hck hb5 hb4 hev hb1
  have hR := HH.out.later hb6
  have c2 := hR.c2
  have f2 := hR.fz 2
  have hp := hR.plt
  have hlen : l.length ≤ 208 := by omega
  obtain ⟨hB2, hS2, hq2⟩ := laid2 w5 s false
  have HR2 : Hid (HR w5 p f r l bs lv) := hR
  have HB2 : Hid _ := hB2
  have HS2 : Hid _ := hS2
  have HQ2 : Hid _ := hq2
  have HOW : Hid _ := ownsRow_below hR.own hB2
  have c2' := below_cell hB2 c2
  have hpl : p < ((w5.alloc (.cells #[.string s, .bool false, .int .i64 0] 113)).alloc (.cells #[.pointer (some ⟨w5.heap.size, 0, none⟩)] 111)).heap.size := Nat.lt_of_lt_of_le hp hB2.size
  have HPL : Hid _ := hpl
  clear hR hB2 hS2 hq2 hpl
  go_wp2_with (at_builtin; refine wpList_append_s p (w5.heap.size + 1) w5.heap.size rfl _ _ rfl lv bs l.length rfl rfl HOW.out hlen HPL.out HQ2.out ?_)
  intro g cp w6 hown hgr hat
  have hown' : w6.ownsRow (p + 1) 111 1 (.slice (some ⟨g, 0, none⟩) (l.length + 1) cp) (l.length + 1) ((bs ++ [w5.heap.size]).map ptrS) := by rw [List.map_append]; exact hown
  have HN : Hid _ := HR2.out.added (s, false, 0) rfl HB2.out HS2.out hown' hgr (by simpa using hat)
  obtain ⟨d2, g2⟩ := HR2.out.grown HB2.out hgr
  clear hown hown' hgr hat c2 f2 HB2 HS2 HQ2 HOW HPL c2' HR2
  go_wp2
  go_ret
  refine ⟨rfl, _, _, HN.out.1, (Tur.of_below hb6).trans HN.out.2.1 (fun b hb => Or.inl hb), fun b hb => ?_⟩
  rcases HN.out.2.2 b hb with h1 | h1
  · exact Or.inl h1
  · exact Or.inr (Nat.le_trans hb6.size h1)
end
end Go.Proofs.YtkpjecpaejdgaabDoor
