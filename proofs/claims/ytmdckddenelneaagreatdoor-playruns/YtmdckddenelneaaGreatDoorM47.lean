/- The model's balance: Drain, Export, NewBalance. -/
import Derived.Test.YtmdckddenelneaaGreatDoorM45
import Derived.Test.YtmdckddenelneaaGreatDoorM24
import Derived.Test.YtmdckddenelneaaGreatDoorM8
import Derived.Test.YtmdckddenelneaaGreatDoorM46
import Derived.Test.YtmdckddenelneaaGreatDoorCaRef7
import Derived.Test.YtmdckddenelneaaGreatDoorM35
namespace Go.Proofs.YtmdckddenelneaaGreatDoor
open Go.RowKit

section
variable {W W' : World} {m hm fm : Nat} {L : List Mh} {lv fv dv : Value} {B : Nat} {S : Lh.Bl}
/-- what a drain of the model leaves -/
def DPost (m hm fm : Nat) (L : List Mh) (lv fv dv : Value) (B : Nat) (W : World) (S' : Lh.Bl) (w' : World) : Prop := ∃ dv', MB w' m hm fm L lv fv dv' B S' ∧ Tur (MBt m hm fm L lv fv dv) W w' ∧ ∀ b, MBt m hm fm L lv fv dv' b → MBt m hm fm L lv fv dv b ∨ W.heap.size ≤ b
set_option maxHeartbeats 1000000 in
theorem mdrain_none (h : MB W m hm fm L lv fv dv B S) (hk : Lh.BOk S) (s : ByteArray) (is : Bool) (hx : ¬ Lh.hix S.hs s < S.hs.length) :
    Calls Tryz.prog 61 #[.pointer (some ⟨m, 0, none⟩), .string s, .bool is] W fun e w' => e = .returned (.int .i64 5) ∧ w' = W := by
  have hfd := find_any h.h (by have := hk.h.len; rw [← h.hs, hst_length] at this; exact this) s
  have e1 : fi (hst L) s = -1 := by unfold fi; rw [h.hs, if_neg hx]
  rw [e1] at hfd
  have c0 := h.c0
  clear h hk hx e1
  go_enter Tryz.func61, Tryz.ntmps61
  go_wp2_with fail
  refine hfd.mono ?_
  rintro e w1 ⟨rfl, rfl⟩
  clear hfd
  go_wp2
  go_ret
  exact ⟨rfl, rfl⟩

set_option maxRecDepth 100000 in
set_option maxHeartbeats 4000000 in
theorem mdrain_good (h : MB W m hm fm L lv fv dv B S) (hk : Lh.BOk S) (s : ByteArray) (is : Bool) (hx : Lh.hix S.hs s < S.hs.length) :
    Calls Tryz.prog 61 #[.pointer (some ⟨m, 0, none⟩), .string s, .bool is] W fun e w' => e = .returned (.int .i64 0) ∧ DPost m hm fm L lv fv dv B W { S with dr := Lh.bdrain S.dr s is } w' := by
  obtain ⟨iS, hiS, hz0, hz1, hz2⟩ := info_parts infoS
  have hfd := find_any h.h (by have := hk.h.len; rw [← h.hs, hst_length] at this; exact this) s
  have e1 : fi (hst L) s = (Lh.hix S.hs s : Nat) := by unfold fi; rw [h.hs, if_pos hx]
  rw [e1] at hfd
  have c0 := h.c0
  have hdl := h.drLen hk.h.len
  have HH : Hid (MB W m hm fm L lv fv dv B S) := h
  have HX : Hid (Lh.hix S.hs s < S.hs.length) := hx
  obtain ⟨pd, cd, hdv⟩ : ∃ p c, dv = .slice p S.dr.length c := fown_shape h.d
  have HD : Hid (∀ w', Below W.heap.size W w' → w'.cell? ⟨m, 3, none⟩ = some (.slice pd S.dr.length cd) ∧ Strs1 w' (.slice pd S.dr.length cd) S.dr) := fun w' hb => by
    rw [← hdv]
    exact ⟨(h.later hb).c3, strs_of_owns (h.later hb).d⟩
  have HEND : Hid (∀ w' v, Below W.heap.size W w' → w'.ownsRow W.heap.size 9 1 v (Lh.bdrain S.dr s is).length ((Lh.bdrain S.dr s is).map Value.string) → DPost m hm fm L lv fv dv B W { S with dr := Lh.bdrain S.dr s is } (w'.setCell ⟨m, 3, none⟩ v)) := fun w' v hb hown => by
    have hv : ∀ b, v.ownBlock = some b → W.heap.size ≤ b := fun b e => (hown.lt b e).1
    obtain ⟨q1, q2⟩ := (h.later hb).drained (fown_mono hown (Nat.zero_le _)) (bdrain_nodup h.dn s is) (fun z hz => by
      rcases bdrain_mem.1 hz with ⟨h1, _⟩ | ⟨_, rfl⟩
      · exact h.dh z h1
      · exact hx) (fun b e hq => by have h1 := hv b e; have h2 := h.lt b hq; omega)
    refine ⟨v, q1, (Tur.of_below hb).trans q2 fun b hb => Or.inl hb, fun b hq => ?_⟩
    rcases hq with rfl | hq | hq | hq
    · exact Or.inl (Or.inl rfl)
    · exact Or.inl (Or.inr (Or.inl hq))
    · exact Or.inl (Or.inr (Or.inr (Or.inl hq)))
    · exact Or.inr (hv b hq)
  have hmf : ∀ w', Below W.heap.size W w' → w'.frozen? ⟨m, 3, none⟩ = false := fun w' hb => (h.later hb).fz 3
  have HMF : Hid (∀ w', Below W.heap.size W w' → w'.frozen? ⟨m, 3, none⟩ = false) := hmf
  have d0 : decide (((Lh.hix S.hs s : Nat) : Int) < 0) = false := by simp
  clear h hk hx e1 hmf
  generalize ((Lh.hix S.hs s : Nat) : Int) = zi at *
  go_enter Tryz.func61, Tryz.ntmps61
  go_wp2_with fail
  refine hfd.mono ?_
  rintro e w1 ⟨rfl, rfl⟩
  clear hfd c0
  go_wp2_with fail
  go_loopw [7, 8] (fun uo ui W' => Below w1.heap.size w1 W' ∧ ∃ i : Nat, i ≤ S.dr.length ∧ ui = .int .i64 (i : Nat) ∧ W'.ownsRow w1.heap.size 9 1 uo (fl (fun x => decide (x = s)) (S.dr.take i)).length ((fl (fun x => decide (x = s)) (S.dr.take i)).map Value.string)) (fun _ ui _ => S.dr.length - (intOf ui).toNat)
  case atStart => exact ⟨Below.refl _ _, 0, Nat.zero_le _, rfl, by simpa [fl] using World.ownsRow_nil _ _ _ _⟩
  case round =>
    obtain ⟨hbr, i, hi, rfl, hown⟩ := hrel
    obtain ⟨wo, hwo⟩ : ∃ wo, wo = wr := ⟨_, rfl⟩
    subst hwo
    obtain ⟨c3, hsd⟩ := HD.out wo hbr
    obtain ⟨vo, hvo⟩ : ∃ vo, vo = u7 := ⟨_, rfl⟩
    subst hvo
    by_cases hlt : i < S.dr.length
    · have hki : (i : Int) < (S.dr.length : Int) := by omega
      obtain ⟨gb, go, rfl, cx⟩ := hsd.cell1 hlt
      obtain ⟨x, hx⟩ : ∃ x, S.dr[i]'hlt = x := ⟨_, rfl⟩
      rw [hx] at cx
      have hfl := fl_le (fun x => decide (x = s)) S.dr i
      by_cases hq : x = s
      · have HS : Hid (fl (fun x => decide (x = s)) (S.dr.take (i + 1)) = fl (fun x => decide (x = s)) (S.dr.take i)) := fl_gone hlt hx (by simpa using hq)
        have HOWN : Hid (wo.ownsRow w1.heap.size 9 1 vo (fl (fun x => decide (x = s)) (S.dr.take i)).length ((fl (fun x => decide (x = s)) (S.dr.take i)).map Value.string)) := hown
        have hbq := bytes_same hq
        clear hown hq hx hsd hfl
        go_wp2_with fail
        go_roundw
        case rel => exact ⟨hbr, i + 1, by omega, by go_num, by rw [HS.out]; exact HOWN.out⟩
        case measure => simp [intOf]; omega
      · have HS : Hid (fl (fun x => decide (x = s)) (S.dr.take (i + 1)) = fl (fun x => decide (x = s)) (S.dr.take i) ++ [x]) := fl_keep hlt hx (by simpa using hq)
        have hbq := bytes_parts hq
        generalize fl (fun x => decide (x = s)) (S.dr.take i) = out at *
        have hown3 := hown.alloc (.cells #[.string x] 9)
        have hnews := cells_one (w := wo) (t := 9) x
        have hbw3 : Below w1.heap.size w1 (wo.alloc (.cells #[.string x] 9)) := hbr.alloc hbr.size _
        have hmax : out.length + 1 ≤ maxLen := by unfold maxLen; omega
        clear hown hq hx hsd
        go_wp2_with (at_builtin; refine wpList_append_own _ rfl _ _ 22 rfl w1.heap.size 9 iS _ 1 16 Tryz.underlying22 hiS hz0 hz1 hz2 rfl (by decide) vo out.length (out.map Value.string) rfl hown3 ⟨_, 0, none⟩ 1 1 [.string x] rfl rfl hnews (fun u hu => by simp at hu; subst hu; rfl) hmax (by omega) hbw3.size ?_)
        intro v' w4 hown4 hg4 _
        have hlo := hown3.lt
        have hb4 : Below w1.heap.size w1 w4 := hbw3.grown hg4 hbw3.size (fun k hk => (hlo k hk).1)
        have hown5 := owns_snoc hown4
        have HOUT : Hid (w4.ownsRow w1.heap.size 9 1 v' (out ++ [x]).length ((out ++ [x]).map Value.string)) := by rw [List.length_append]; exact hown5
        clear hown3 hnews hlo hg4 hbw3 hmax hown4 hown5
        go_wp2
        exact ⟨⟨hb4, i + 1, by omega, by go_num, by rw [HS.out]; exact HOUT.out⟩, by simp [intOf]; omega⟩
    · have hki : decide ((i : Int) < (S.dr.length : Int)) = false := by simp; omega
      have hfin : wo.ownsRow w1.heap.size 9 1 vo (S.dr.filter fun x => !decide (x = s)).length ((S.dr.filter fun x => !decide (x = s)).map Value.string) := by
        have e : fl (fun x => decide (x = s)) (S.dr.take i) = S.dr.filter fun x => !decide (x = s) := by rw [List.take_of_length_le (by omega)]; rfl
        rw [e] at hown
        exact hown
      have f3 := HMF.out wo hbr
      clear hown hsd
      cases is with
      | false =>
        have HP : Hid (DPost m hm fm L lv fv dv B w1 { S with dr := Lh.bdrain S.dr s false } (wo.setCell ⟨m, 3, none⟩ vo)) := HEND.out wo vo hbr (by unfold Lh.bdrain; simpa using hfin)
        obtain ⟨pq, cq, rfl⟩ := fown_shape hfin
        clear hfin
        go_wp2
        go_ret
        exact ⟨rfl, HP.out⟩
      | true =>
        have HEQ : Hid (Lh.bdrain S.dr s true = (S.dr.filter fun x => !decide (x = s)) ++ [s]) := rfl
        have hfl : (S.dr.filter fun x => !decide (x = s)).length ≤ 12 := Nat.le_trans (List.length_filter_le _ _) hdl
        generalize (S.dr.filter fun x => !decide (x = s)) = out at *
        have hown3 := hfin.alloc (.cells #[.string s] 9)
        have hnews := cells_one (w := wo) (t := 9) s
        have hbw3 : Below w1.heap.size w1 (wo.alloc (.cells #[.string s] 9)) := hbr.alloc hbr.size _
        have hmax : out.length + 1 ≤ maxLen := by unfold maxLen; omega
        clear hfin f3
        go_wp2_with (at_builtin; refine wpList_append_own _ rfl _ _ 22 rfl w1.heap.size 9 iS _ 1 16 Tryz.underlying22 hiS hz0 hz1 hz2 rfl (by decide) vo out.length (out.map Value.string) rfl hown3 ⟨_, 0, none⟩ 1 1 [.string s] rfl rfl hnews (fun u hu => by simp at hu; subst hu; rfl) hmax (by omega) hbw3.size ?_)
        intro v' w4 hown4 hg4 _
        have hlo := hown3.lt
        have hb4 : Below w1.heap.size w1 w4 := hbw3.grown hg4 hbw3.size (fun k hk => (hlo k hk).1)
        have hown5 := owns_snoc hown4
        have c34 := (HD.out w4 hb4).1
        have f34 := HMF.out w4 hb4
        have HP : Hid (DPost m hm fm L lv fv dv B w1 { S with dr := Lh.bdrain S.dr s true } (w4.setCell ⟨m, 3, none⟩ v')) := HEND.out w4 v' hb4 (by rw [HEQ.out, List.length_append]; exact hown5)
        obtain ⟨pq, cq, rfl⟩ := fown_shape hown5
        clear hown3 hnews hlo hg4 hbw3 hmax hown4 hown5
        go_wp2
        go_ret
        exact ⟨rfl, HP.out⟩

theorem canT_of (hk : Lh.BOk S) : CanT S.L := fun x hx => by
  have h1 := hk.ok.key x hx
  have h2 := hk.ok.lo x hx
  have h3 := hk.hi x hx
  have h4 := (nm_word (hk.host x hx)).2.2.2
  exact ⟨h1, by omega, h2, by omega⟩
theorem MF.flows1 {t : Nat} {la : Int} {M : List Lh.Fl} (h : MF W fm t la M fv) : Flows1 W fv M := by
  obtain ⟨p, cap, rfl, hr⟩ := h.row
  exact (flows_of_owns h.own).1
set_option maxHeartbeats 4000000 in
/-- Export. -/
theorem mexport (h : MB W m hm fm L lv fv dv B S) (hk : Lh.BOk S) (hep : S.ep < 1099511627776) :
    Calls Tryz.prog 63 #[.pointer (some ⟨m, 0, none⟩)] W fun e w' => e = .returned (.string (Lh.bt (Lh.textL (S.ep + 1).toNat S.L))) ∧ MB w' m hm fm L lv fv dv B { S with ep := S.ep + 1 } ∧ Tur (MBt m hm fm L lv fv dv) W w' := by
  have h0 := hk.ep0
  obtain ⟨q1, q2⟩ := h.epoch (S.ep + 1)
  have c4 := h.c4
  have f4 := h.fz 4
  have hw : IntKind.i64.wrap (S.ep + 1) = S.ep + 1 := by simp [IntKind.wrap, IntKind.signed, IntKind.bits]; omega
  have hcast : (((S.ep + 1).toNat : Nat) : Int) = S.ep + 1 := by omega
  have HTX : Hid (∀ w', Below (W.setCell ⟨m, 4, none⟩ (.int .i64 (S.ep + 1))).heap.size (W.setCell ⟨m, 4, none⟩ (.int .i64 (S.ep + 1))) w' → Calls Tryz.prog 99 #[.int .i64 (S.ep + 1), fv] w' fun r w'' => r = .returned (.string (Lh.bt (Lh.textL (S.ep + 1).toNat S.L))) ∧ Below (W.setCell ⟨m, 4, none⟩ (.int .i64 (S.ep + 1))).heap.size (W.setCell ⟨m, 4, none⟩ (.int .i64 (S.ep + 1))) w'') := fun w' hb => by
    have := textM_any (S.ep + 1).toNat (by omega) fv S.L w' (q1.f.flows1.later hb) (by have := hk.ok.len; omega) (canT_of hk)
    rw [hcast] at this
    exact this.mono fun _ _ ⟨r1, r2⟩ => ⟨r1, below_then hb r2⟩
  have HCE : Hid (∀ w', Below (W.setCell ⟨m, 4, none⟩ (.int .i64 (S.ep + 1))).heap.size (W.setCell ⟨m, 4, none⟩ (.int .i64 (S.ep + 1))) w' → w'.cell? ⟨m, 4, none⟩ = some (.int .i64 (S.ep + 1)) ∧ w'.cell? ⟨m, 1, none⟩ = some (.pointer (some ⟨fm, 0, none⟩)) ∧ w'.cell? ⟨fm, 2, none⟩ = some fv) := fun w' hb => ⟨(q1.later hb).c4, (q1.later hb).c1, (q1.later hb).f.c2⟩
  have HB : Hid (MB (W.setCell ⟨m, 4, none⟩ (.int .i64 (S.ep + 1))) m hm fm L lv fv dv B { S with ep := S.ep + 1 }) := q1
  have HT : Hid (Tur (MBt m hm fm L lv fv dv) W (W.setCell ⟨m, 4, none⟩ (.int .i64 (S.ep + 1)))) := q2
  clear h hk q1 q2 hcast
  generalize Lh.bt (Lh.textL (S.ep + 1).toNat S.L) = tx at *
  go_enter Tryz.func63, Tryz.ntmps63
  go_wp2_with fail
  generalize W.setCell ⟨m, 4, none⟩ (.int .i64 (S.ep + 1)) = W5 at *
  obtain ⟨a0, a1, a2⟩ := HCE.out W5 (Below.refl _ _)
  go_region_held3 (fun w' => Below W5.heap.size W5 w' ∧ w'.cell? ⟨m, 4, none⟩ = some (.int .i64 (S.ep + 1)) ∧ w'.cell? ⟨m, 1, none⟩ = some (.pointer (some ⟨fm, 0, none⟩)) ∧ w'.cell? ⟨fm, 2, none⟩ = some fv)
    (first | exact ⟨by assumption, HCE.out _ (by assumption)⟩ | exact ⟨below_drewN (Below.refl _ _) 1, HCE.out _ (below_drewN (Below.refl _ _) 1)⟩)
    (first
      | (go_at_call 99; refine (HTX.out _ (by first | assumption | exact below_drewN (Below.refl _ _) 1)).mono ?_; rintro e w1 ⟨rfl, hb1⟩))
  all_goals
    go_wp2
    go_ret
    exact ⟨rfl, HB.out.later hb1, HT.out.behind hb1⟩
end
end Go.Proofs.YtmdckddenelneaaGreatDoor

/- The model's balance: Import. -/
namespace Go.Proofs.YtmdckddenelneaaGreatDoor
open Go.RowKit

section
variable {W W' : World} {m hm fm : Nat} {L : List Mh} {lv fv dv : Value} {B : Nat} {S : Lh.Bl}
theorem MPost.same (h : MB W m hm fm L lv fv dv B S) (hb : Below W.heap.size W W') : MPost m hm fm L lv fv dv B W S W' := ⟨fv, h.later hb, Tur.of_below hb, fun _ hb => Or.inl hb⟩
/-- a cell of a block that is new is turned -/
theorem MPost.put {w : World} (h : MPost m hm fm L lv fv dv B W S w) {x : Nat} (hx : W.heap.size ≤ x) (hn : ∀ fv', MB w m hm fm L lv fv' dv B S → ¬ MBt m hm fm L lv fv' dv x) (k : Nat) (v : Value) : MPost m hm fm L lv fv dv B W S (w.setCell ⟨x, k, none⟩ v) := by
  obtain ⟨fv', h1, h2, h3⟩ := h
  refine ⟨fv', h1.stay fun b hb => Below.heap_setCell _ _ _ b fun e => hn fv' h1 (by have e' : b = x := e; rw [← e']; exact hb), h2.setCell k (Or.inr hx) v, h3⟩
theorem upF_gone {l : List Lh.Fl} {i : Nat} (hi : i < l.length) {x : Lh.Fl} (hx : l[i] = x) (hu : Lh.hup S.hs x.2.1 = false) : upF S (l.take (i + 1)) = upF S (l.take i) := by
  unfold upF
  rw [List.take_succ_eq_append_getElem hi, List.filter_append, hx]
  simp [hu]
theorem upF_more {l : List Lh.Fl} {i : Nat} (hi : i < l.length) {x : Lh.Fl} (hx : l[i] = x) (hu : Lh.hup S.hs x.2.1 = true) : upF S (l.take (i + 1)) = upF S (l.take i) ++ [x] := by
  unfold upF
  rw [List.take_succ_eq_append_getElem hi, List.filter_append, hx]
  simp [hu]
theorem upF_le (l : List Lh.Fl) (i : Nat) : (upF S (l.take i)).length ≤ i := Nat.le_trans (List.length_filter_le _ _) (by rw [List.length_take]; exact Nat.min_le_left _ _)

set_option maxRecDepth 100000 in
set_option maxHeartbeats 4000000 in
/-- a text that is none, or one that is too old -/
theorem mimport_bad (h : MB W m hm fm L lv fv dv B S) (s : List UInt8) (hs : s.length ≤ 30000) (now : Int) {n : Int} {l : List Lh.Fl} {c : Nat} {pl : Int} (hrf : ReadF s n l c pl) (hc : c ≠ 0) :
    Calls Tryz.prog 62 #[.pointer (some ⟨m, 0, none⟩), .string (Lh.bt s), .int .i64 now] W fun e w' => e = .returned (.tuple #[.int .i64 0, .agg #[.int .i64 ((c : Nat) : Int), .int .i64 pl]]) ∧ MPost m hm fm L lv fv dv B W S w' := by
  have HH : Hid (MB W m hm fm L lv fv dv B S) := h
  have HRF : Hid (ReadF s n l c pl) := hrf
  have hb1 : Below W.heap.size W (W.alloc (.cells #[.int .i64 0, .int .i64 0] 37)) := (Below.refl _ _).alloc (Nat.le_refl _) _
  have hR := RB.made W 0 0 37
  have hrd := carryOf_any s (by omega) (W.alloc (.cells #[.int .i64 0, .int .i64 0] 37))
  have hc0 : 0 < c := by omega
  clear h hrf hs
  go_enter Tryz.func62, Tryz.ntmps62
  go_wp2_with fail
  refine hrd.mono ?_
  rintro r w2 ⟨n', v, l', c', pl', rfl, hrf', hfl, hb2⟩
  obtain ⟨rfl, rfl, rfl, rfl⟩ := readF_one HRF.out hrf'
  obtain ⟨p9, c9, rfl⟩ := hfl.shape
  have hb3 : Below w2.heap.size w2 (w2.alloc (.cells #[.int .i64 (c : Nat), .int .i64 pl] 37)) := (Below.refl _ _).alloc (Nat.le_refl _) _
  have hbW := below_then hb1 (below_then hb2 hb3)
  obtain ⟨q0, q1, g0, g1⟩ := hR.later (below_then hb2 hb3)
  have HBW : Hid (Below W.heap.size W (w2.alloc (.cells #[.int .i64 (c : Nat), .int .i64 pl] 37))) := hbW
  clear hrd hrf' hfl hb1 hb2 hb3 hbW hR HRF
  dsimp only
  go_wp2
  go_region
  all_goals
    go_wp2
    exact bodyPost_ret (v := .tuple #[.int .i64 0, .agg #[.int .i64 ((c : Nat) : Int), .int .i64 pl]]) (by simp [results, Tryz.results62, go_sem, q0, q1]) rfl ⟨rfl, MPost.same HH.out ((HBW.out.drew.setCell (Nat.le_refl _) _).setCell (Nat.le_refl _) _)⟩

set_option maxRecDepth 100000 in
set_option maxHeartbeats 4000000 in
theorem mimport_old (h : MB W m hm fm L lv fv dv B S) (s : List UInt8) (hs : s.length ≤ 30000) (now : Int) {n : Int} {l : List Lh.Fl} {pl : Int} (hrf : ReadF s n l 0 pl) (hold : n < S.ep) :
    Calls Tryz.prog 62 #[.pointer (some ⟨m, 0, none⟩), .string (Lh.bt s), .int .i64 now] W fun e w' => e = .returned (.tuple #[.int .i64 0, .agg #[.int .i64 8, .int .i64 (-1)]]) ∧ MPost m hm fm L lv fv dv B W S w' := by
  have HH : Hid (MB W m hm fm L lv fv dv B S) := h
  have HRF : Hid (ReadF s n l 0 pl) := hrf
  have hb1 : Below W.heap.size W (W.alloc (.cells #[.int .i64 0, .int .i64 0] 37)) := (Below.refl _ _).alloc (Nat.le_refl _) _
  have hR := RB.made W 0 0 37
  have hrd := carryOf_any s (by omega) (W.alloc (.cells #[.int .i64 0, .int .i64 0] 37))
  have d : decide (n < S.ep) = true := by simpa using hold
  clear h hrf hs hold
  go_enter Tryz.func62, Tryz.ntmps62
  go_wp2_with fail
  refine hrd.mono ?_
  rintro r w2 ⟨n', v, l', c', pl', rfl, hrf', hfl, hb2⟩
  obtain ⟨rfl, rfl, rfl, rfl⟩ := readF_one HRF.out hrf'
  obtain ⟨p9, c9, rfl⟩ := hfl.shape
  have hb3 : Below w2.heap.size w2 (w2.alloc (.cells #[.int .i64 0, .int .i64 pl] 37)) := (Below.refl _ _).alloc (Nat.le_refl _) _
  have hbW := below_then hb1 (below_then hb2 hb3)
  have hRB := hR.later (below_then hb2 hb3)
  have c4 := (HH.out.later hbW).c4
  have HBW : Hid (Below W.heap.size W (w2.alloc (.cells #[.int .i64 0, .int .i64 pl] 37))) := hbW
  have HRB : Hid (RB (w2.alloc (.cells #[.int .i64 0, .int .i64 pl] 37)) W.heap.size 0 0) := hRB
  clear hrd hrf' hfl hb1 hb2 hb3 hbW hR HRF hRB
  dsimp only
  go_wp2_with fail
  refine (bare_any _ _).mono ?_
  rintro e w4 ⟨rfl, hb4⟩
  obtain ⟨q0, q1, g0, g1⟩ := HRB.out.later hb4
  have HB4 : Hid (Below W.heap.size W w4) := below_then HBW.out hb4
  clear hb4 c4 HBW HRB
  go_wp2
  exact bodyPost_ret (v := .tuple #[.int .i64 0, .agg #[.int .i64 8, .int .i64 (-1)]]) (by simp [results, Tryz.results62, go_sem, q0, q1]) rfl ⟨rfl, MPost.same HH.out ((HB4.out.setCell (Nat.le_refl _) _).setCell (Nat.le_refl _) _)⟩
end
end Go.Proofs.YtmdckddenelneaaGreatDoor

/- The model's balance: Import of a right text. -/
namespace Go.Proofs.YtmdckddenelneaaGreatDoor
open Go.RowKit

section
variable {W W' : World} {m hm fm : Nat} {L : List Mh} {lv fv dv : Value} {B : Nat} {S : Lh.Bl}
theorem MB.out (h : MB W m hm fm L lv fv dv B S) {x : Nat} (hx : ¬ MBt m hm fm L lv fv dv x) (k : Nat) (v : Value) : MB (W.setCell ⟨x, k, none⟩ v) m hm fm L lv fv dv B S :=
  h.stay fun b hb => Below.heap_setCell _ _ _ b fun e => hx (by have e' : b = x := e; rw [← e']; exact hb)
theorem RB.far {w w' : World} {b : Nat} {x y : Int} {F : Nat → Prop} (h : RB w b x y) (hT : Tur F w w') (hF : ¬ F b) : RB w' b x y := h.same (hT.block b h.lt hF)
theorem RB.put {w : World} {b : Nat} {x y : Int} (h : RB w b x y) {c : Nat} (hc : c ≠ b) (k : Nat) (v : Value) : RB (w.setCell ⟨c, k, none⟩ v) b x y := h.same (Below.heap_setCell _ _ _ b fun e => hc (by have e' : b = c := e; exact e'.symm))

set_option maxRecDepth 100000 in
set_option maxHeartbeats 8000000 in
theorem mimport_good (h : MB W m hm fm L lv fv dv B S) (hk : Lh.BOk S) (s : List UInt8) (hs : s.length ≤ 30000) (now : Int) {n : Int} {l : List Lh.Fl} {pl : Int} (hrf : ReadF s n l 0 pl) (hold : ¬ n < S.ep) :
    Calls Tryz.prog 62 #[.pointer (some ⟨m, 0, none⟩), .string (Lh.bt s), .int .i64 now] W fun e w' => (∃ j, TickF S.la now j ∧ e = .returned (.tuple #[.int .i64 0, .agg #[.int .i64 ((j + 1 : Nat) : Int), .int .i64 (-1)]]) ∧ MPost m hm fm L lv fv dv B W S w') ∨
      (TickOk S.la now ∧ e = .returned (.tuple #[.int .i64 (((Lh.fadd now S.L (upF S l)).length - S.L.length : Nat) : Int), .agg #[.int .i64 0, .int .i64 (-1)]]) ∧ MPost m hm fm L lv fv dv B W { S with ep := n, la := now, L := Lh.fadd now S.L (upF S l) } w') := by
  obtain ⟨iF, hiF, hz0, hz1, hz2⟩ := info_parts infoFl
  have HH : Hid (MB W m hm fm L lv fv dv B S) := h
  have HK : Hid (Lh.BOk S) := hk
  have HRF : Hid (ReadF s n l 0 pl) := hrf
  obtain ⟨-, hcf, hki, -⟩ := read_good hrf
  obtain ⟨⟨hn0, hn1, hl2⟩, hgood, hpl⟩ := caF_good hcf
  have HIN : Hid (FlIn (upF S l) ∧ (∀ x ∈ upF S l, Lh.isNm x.2.1 = true) ∧ (upF S l).length ≤ 201) := by
    refine ⟨fun x hx => ?_, fun x hx => ?_, Nat.le_trans (List.length_filter_le _ _) (by omega)⟩
    · have hm := (List.mem_filter.1 hx).1
      obtain ⟨j, hj, rfl⟩ := List.getElem_of_mem hm
      obtain ⟨g1, g2, g3, _⟩ := hgood j hj
      have := (nm_word g1).2.2.2
      exact ⟨hki _ hm, by omega, by omega, by omega⟩
    · obtain ⟨j, hj, rfl⟩ := List.getElem_of_mem (List.mem_filter.1 hx).1
      exact (hgood j hj).1
  have hb1 : Below W.heap.size W (W.alloc (.cells #[.int .i64 0, .int .i64 0] 37)) := (Below.refl _ _).alloc (Nat.le_refl _) _
  have hR := RB.made W 0 0 37
  have hsz1 : (W.alloc (.cells #[.int .i64 0, .int .i64 0] 37)).heap.size = W.heap.size + 1 := by simp
  have hrd := carryOf_any s (by omega) (W.alloc (.cells #[.int .i64 0, .int .i64 0] 37))
  have d : decide (n < S.ep) = false := by simpa using hold
  clear h hk hrf hs hold hcf hki hgood
  subst hpl
  go_enter Tryz.func62, Tryz.ntmps62
  go_wp2_with fail
  refine hrd.mono ?_
  rintro r w2 ⟨n', v, l', c', pl', rfl, hrf', hfl, hb2⟩
  obtain ⟨rfl, rfl, rfl, rfl⟩ := readF_one HRF.out hrf'
  obtain ⟨p9, c9, rfl, hcl⟩ := hfl.cells
  have hb3 : Below w2.heap.size w2 (w2.alloc (.cells #[.int .i64 0, .int .i64 (-1)] 37)) := (Below.refl _ _).alloc (Nat.le_refl _) _
  have hRl := RB.made w2 0 (-1) 37
  have hbW := below_then hb1 (below_then hb2 hb3)
  have hRr := hR.later (below_then hb2 hb3)
  have hs2 := hb2.size
  have hs3 := hb3.size
  have c4 := (HH.out.later hbW).c4
  have HCL : Hid (∀ w', Below (w2.alloc (.cells #[.int .i64 0, .int .i64 (-1)] 37)).heap.size (w2.alloc (.cells #[.int .i64 0, .int .i64 (-1)] 37)) w' → ∀ i (hi : i < l.length), ∃ b o, p9 = some ⟨b, o, none⟩ ∧ w'.cell? ⟨b, o + i * 3, none⟩ = some (.int .u64 (l[i].1 : Nat)) ∧ w'.cell? ⟨b, o + i * 3 + 1, none⟩ = some (.string l[i].2.1) ∧ w'.cell? ⟨b, o + i * 3 + 2, none⟩ = some (.int .i64 l[i].2.2)) := fun w' hb i hi => by
    obtain ⟨b, o, e, x0, x1, x2⟩ := hcl i hi
    have hbb := below_then hb3 hb
    exact ⟨b, o, e, below_cell hbb x0, below_cell hbb x1, below_cell hbb x2⟩
  have HRl : Hid (RB (w2.alloc (.cells #[.int .i64 0, .int .i64 (-1)] 37)) w2.heap.size 0 (-1)) := hRl
  have HRr : Hid (RB (w2.alloc (.cells #[.int .i64 0, .int .i64 (-1)] 37)) W.heap.size 0 0) := hRr
  have HBW : Hid (Below W.heap.size W (w2.alloc (.cells #[.int .i64 0, .int .i64 (-1)] 37))) := hbW
  have HS : Hid (W.heap.size < w2.heap.size ∧ w2.heap.size < (w2.alloc (.cells #[.int .i64 0, .int .i64 (-1)] 37)).heap.size) := ⟨by omega, by simp⟩
  clear hrd hrf' hfl hcl hb1 hb2 hb3 hbW hR HRF hRr hRl hsz1 hs2 hs3
  dsimp only
  rw [show ((0 : Nat) : Int) = 0 from rfl]
  go_wp2_with fail
  generalize w2.alloc (.cells #[.int .i64 0, .int .i64 (-1)] 37) = W3 at *
  obtain ⟨lb, hlb⟩ : ∃ lb, w2.heap.size = lb := ⟨_, rfl⟩
  rw [hlb] at HRl HS ⊢
  clear hlb c4
  go_loopw [11, 12] (fun uo ui W' => Below W3.heap.size W3 W' ∧ ∃ i : Nat, i ≤ l.length ∧ ui = .int .i64 (i : Nat) ∧ W'.ownsRow W3.heap.size 82 3 uo (upF S (l.take i)).length (flatF (upF S (l.take i)))) (fun _ ui _ => l.length - (intOf ui).toNat)
  case atStart => exact ⟨Below.refl _ _, 0, Nat.zero_le _, rfl, by simpa [upF, flatF] using World.ownsRow_nil _ _ _ _⟩
  case round =>
    obtain ⟨hbr, i, hi, rfl, hown⟩ := hrel
    obtain ⟨wo, hwo⟩ : ∃ wo, wo = wr := ⟨_, rfl⟩
    subst hwo
    obtain ⟨vo, hvo⟩ : ∃ vo, vo = u11 := ⟨_, rfl⟩
    subst hvo
    have hBo := HH.out.later (below_then HBW.out hbr)
    have c0 := hBo.c0
    by_cases hlt : i < l.length
    · have hki : (i : Int) < (l.length : Int) := by omega
      obtain ⟨gb, go, rfl, x0, x1, x2⟩ := HCL.out wo hbr i hlt
      obtain ⟨x, hx⟩ : ∃ x, l[i]'hlt = x := ⟨_, rfl⟩
      rw [hx] at x0 x1 x2
      have hfl := upF_le (S := S) l i
      have hup : ∀ w', Below wo.heap.size wo w' → Calls Tryz.prog 94 #[.pointer (some ⟨hm, 0, none⟩), .string x.2.1] w' fun e w'' => e = .returned (.bool (Lh.hup S.hs x.2.1)) ∧ Below wo.heap.size wo w'' := fun w' hb => by
        have h1 := isUp_any (hBo.later hb).h (hBo.hok HK.out) x.2.1
        rw [hBo.hs] at h1
        exact h1.mono fun _ _ ⟨q1, q2⟩ => ⟨q1, by rw [q2]; exact hb⟩
      have hC : ∀ w', Below wo.heap.size wo w' → w'.cell? ⟨m, 0, none⟩ = some (.pointer (some ⟨hm, 0, none⟩)) ∧ w'.cell? ⟨gb, go + i * 3, none⟩ = some (.int .u64 (x.1 : Nat)) ∧ w'.cell? ⟨gb, go + i * 3 + 1, none⟩ = some (.string x.2.1) ∧ w'.cell? ⟨gb, go + i * 3 + 2, none⟩ = some (.int .i64 x.2.2) := fun w' hb => ⟨below_cell hb c0, below_cell hb x0, below_cell hb x1, below_cell hb x2⟩
      have HOWN : Hid (wo.ownsRow W3.heap.size 82 3 vo (upF S (l.take i)).length (flatF (upF S (l.take i)))) := hown
      have HUG : Hid (Lh.hup S.hs x.2.1 = false → upF S (l.take (i + 1)) = upF S (l.take i)) := upF_gone hlt hx
      have HUM : Hid (Lh.hup S.hs x.2.1 = true → upF S (l.take (i + 1)) = upF S (l.take i) ++ [x]) := upF_more hlt hx
      clear hown hx hBo
      cases hu : Lh.hup S.hs x.2.1 with
      | false =>
        rw [hu] at hup
        have HU : Hid (upF S (l.take (i + 1)) = upF S (l.take i)) := HUG.out hu
        clear hu HUG HUM
        go_wp2_with fail
        go_region_held3 (fun w' => Below wo.heap.size wo w' ∧ w'.cell? ⟨m, 0, none⟩ = some (.pointer (some ⟨hm, 0, none⟩)) ∧ w'.cell? ⟨gb, go + i * 3, none⟩ = some (.int .u64 (x.1 : Nat)) ∧ w'.cell? ⟨gb, go + i * 3 + 1, none⟩ = some (.string x.2.1) ∧ w'.cell? ⟨gb, go + i * 3 + 2, none⟩ = some (.int .i64 x.2.2))
          (first | exact ⟨by assumption, hC _ (by assumption)⟩ | exact ⟨below_drewN (Below.refl _ _) 1, hC _ (below_drewN (Below.refl _ _) 1)⟩)
          (first
            | (go_at_call 94; refine (hup _ (by first | assumption | exact below_drewN (Below.refl _ _) 1)).mono ?_; rintro e w5 ⟨rfl, hb5⟩))
        all_goals
          clear hup hC
          go_wp2_with fail
          go_roundw
          case rel => exact ⟨below_then hbr hb5, i + 1, by omega, by go_num, by rw [HU.out]; exact ownsRow_below HOWN.out hb5⟩
          case measure => simp [intOf]; omega
      | true =>
        rw [hu] at hup
        have HU : Hid (upF S (l.take (i + 1)) = upF S (l.take i) ++ [x]) := HUM.out hu
        clear hu HUG HUM
        generalize upF S (l.take i) = out at *
        have hmax : out.length + 1 ≤ maxLen := by unfold maxLen; omega
        go_wp2_with fail
        go_region_held3 (fun w' => Below wo.heap.size wo w' ∧ w'.cell? ⟨m, 0, none⟩ = some (.pointer (some ⟨hm, 0, none⟩)) ∧ w'.cell? ⟨gb, go + i * 3, none⟩ = some (.int .u64 (x.1 : Nat)) ∧ w'.cell? ⟨gb, go + i * 3 + 1, none⟩ = some (.string x.2.1) ∧ w'.cell? ⟨gb, go + i * 3 + 2, none⟩ = some (.int .i64 x.2.2))
          (first | exact ⟨by assumption, hC _ (by assumption)⟩ | exact ⟨below_drewN (Below.refl _ _) 1, hC _ (below_drewN (Below.refl _ _) 1)⟩)
          (first
            | (go_at_call 94; refine (hup _ (by first | assumption | exact below_drewN (Below.refl _ _) 1)).mono ?_; rintro e w5 ⟨rfl, hb5⟩))
        all_goals
          obtain ⟨_, y0, y1, y2⟩ := hC w5 hb5
          have hown4 := (ownsRow_below HOWN.out hb5).alloc (.cells #[.int .u64 (x.1 : Nat), .string x.2.1, .int .i64 x.2.2] 82)
          have hnews := cellsX (w := w5) (t := 82) x
          have hb35 := below_then hbr hb5
          have hbw4 : Below W3.heap.size W3 (w5.alloc (.cells #[.int .u64 (x.1 : Nat), .string x.2.1, .int .i64 x.2.2] 82)) := hb35.alloc hb35.size _
          clear hup hC
          go_wp2_with (at_builtin; refine wpList_append_own _ rfl _ _ 48 rfl W3.heap.size 82 iF _ 3 32 Tryz.underlying48 hiF hz0 hz1 hz2 rfl (by decide) vo out.length (flatF out) rfl hown4 ⟨w5.heap.size, 0, none⟩ 1 1 (encF x) rfl rfl hnews (encF_one _) hmax (by omega) hbw4.size ?_)
          intro v6 w6 hown6 hg6 _
          have hb6 : Below W3.heap.size W3 w6 := hbw4.grown hg6 hbw4.size (fun k h => (hown4.lt k h).1)
          have HOUT : Hid (w6.ownsRow W3.heap.size 82 3 v6 (out ++ [x]).length (flatF (out ++ [x]))) := by
            show World.ownsRow _ _ _ _ _ _ _
            have e1 : flatF [x] = encF x := by simp [flatF]
            rw [List.length_append, flatF_append, e1]
            exact hown6
          clear hown4 hnews hbw4 hmax hg6 hown6
          go_wp2
          exact ⟨⟨hb6, i + 1, by omega, by go_num, by rw [HU.out]; exact HOUT.out⟩, by simp [intOf]; omega⟩
    · have hki : decide ((i : Int) < (l.length : Int)) = false := by simp; omega
      have hfin : wo.ownsRow W3.heap.size 82 3 vo (upF S l).length (flatF (upF S l)) := by
        rw [List.take_of_length_le (by omega)] at hown
        exact hown
      obtain ⟨hf1, hf2⟩ := flows_of_owns hfin
      have c1 := hBo.c1
      have hso := hbr.size
      have hsW := HBW.out.size
      have hadd := faddM_any hBo.f HK.out.ok vo (upF S l) hf1 (fun _ b o n' c' e hq => by
        have h1 := hf2 b o n' c' e
        have h2 := (HH.out.f.lt b hq).1
        omega) HIN.out.2.2 HIN.out.1 now
      have HBo : Hid (MB wo m hm fm L lv fv dv B S) := hBo
      have HTo : Hid (Tur (MBt m hm fm L lv fv dv) W wo) := Tur.of_below (below_then HBW.out hbr)
      have hRl := HRl.out.later hbr
      have hRr := HRr.out.later hbr
      have HRl2 : Hid (RB wo lb 0 (-1)) := hRl
      have HRr2 : Hid (RB wo W.heap.size 0 0) := hRr
      have HLE : Hid (∀ b, FFoot fm fv b → b < W.heap.size) := fun b hq => (HH.out.f.lt b hq).1
      obtain ⟨pq, cq, rfl⟩ := fown_shape hfin
      clear hown hfin hf1 hf2 hBo c0 HCL hRl hRr
      go_wp2_with fail
      refine hadd.mono ?_
      rintro e w7 ⟨fv7, hT7, hN7, hcase⟩
      have hfl1 : ¬ FFoot fm fv lb := fun hq => by have h1 := HLE.out _ hq; have h2 := HS.out.1; omega
      have hfW : ¬ FFoot fm fv W.heap.size := fun hq => by have h1 := HLE.out _ hq; omega
      obtain ⟨l0, l1, lf0, lf1⟩ := HRl2.out.far hT7 hfl1
      have HRr7 : Hid (RB w7 W.heap.size 0 0) := HRr2.out.far hT7 hfW
      have HRl7 : Hid (RB w7 lb 0 (-1)) := HRl2.out.far hT7 hfl1
      have hlbo : lb < wo.heap.size := HRl2.out.lt
      have hWo : W.heap.size < wo.heap.size := HRr2.out.lt
      have hlW : ¬ W.heap.size = lb := by have := HS.out.1; omega
      rcases hcase with ⟨hok, _, rfl, hF7⟩ | ⟨k, _, hk, _⟩ | ⟨j, hf, rfl, hF7⟩
      · obtain ⟨q1, q2, q3⟩ := HBo.out.flows hT7 hF7 hN7
        have hnot : ∀ x, W.heap.size ≤ x → x < wo.heap.size → ¬ MBt m hm fm L lv fv7 dv x := fun x h1 h2 hq => by
          rcases q3 x hq with h | h
          · have := HH.out.lt x h
            omega
          · omega
        have hmW := HH.out.mlt
        have hl2 := HS.out.1
        have hml : ¬ m = lb := by omega
        have hlm : ¬ lb = m := by omega
        have hmw : ¬ m = W.heap.size := by omega
        have hwm : ¬ W.heap.size = m := by omega
        have hwl : ¬ W.heap.size = lb := by omega
        have hlw : ¬ lb = W.heap.size := by omega
        obtain ⟨r0, r1, rf0, rf1⟩ := HRr7.out
        have c4 := q1.c4
        have f4 := q1.fz 4
        have HFOOT : Hid (∀ b, MBt m hm fm L lv fv7 dv b → MBt m hm fm L lv fv dv b ∨ W.heap.size ≤ b) := fun b hb => by
          rcases q3 b hb with h | h
          · exact Or.inl h
          · exact Or.inr (by omega)
        have HP : Hid (MPost m hm fm L lv fv dv B W { S with ep := n, la := now, L := Lh.fadd now S.L (upF S l) } (((((w7.setCell ⟨lb, 0, none⟩ (.int .i64 0)).setCell ⟨lb, 1, none⟩ (.int .i64 (-1))).setCell ⟨m, 4, none⟩ (.int .i64 n)).drew.setCell ⟨W.heap.size, 0, none⟩ (.int .i64 0)).setCell ⟨W.heap.size, 1, none⟩ (.int .i64 (-1)))) := by
          have e1 := (q1.out (hnot lb (by omega) hlbo) 0 (.int .i64 0)).out (hnot lb (by omega) hlbo) 1 (.int .i64 (-1))
          have e3 := ((e1.epoch n).1).later (Below.refl _ _).drew
          refine ⟨fv7, (e3.out (hnot W.heap.size (Nat.le_refl _) hWo) 0 (.int .i64 0)).out (hnot W.heap.size (Nat.le_refl _) hWo) 1 (.int .i64 (-1)), ?_, HFOOT.out⟩
          exact ((((((HTo.out.trans q2 fun b hb => Or.inl hb).setCell 0 (Or.inr (by omega)) _).setCell 1 (Or.inr (by omega)) _).setCell 4 (Or.inl (Or.inl rfl)) _).drew).setCell 0 (Or.inr (Nat.le_refl _)) _).setCell 1 (Or.inr (Nat.le_refl _)) _
        have HOK : Hid (TickOk S.la now) := hok
        clear hok hF7 hT7 hN7 q1 q2 q3 hnot hadd HFOOT
        obtain ⟨zn, hzn⟩ : ∃ zn, (Lh.fadd now S.L (upF S l)).length - S.L.length = zn := ⟨_, rfl⟩
        have HZN : Hid ((Lh.fadd now S.L (upF S l)).length - S.L.length = zn) := hzn
        rw [hzn]
        clear hzn
        dsimp only
        go_wp2
        go_region
        all_goals
          go_wp2
          exact bodyPost_ret (v := .tuple #[.int .i64 ((zn : Nat) : Int), .agg #[.int .i64 0, .int .i64 (-1)]]) (by simp [results, Tryz.results62, go_sem, r0, r1]) rfl (Or.inr ⟨HOK.out, by rw [HZN.out], HP.out⟩)
      · obtain ⟨h1, h2, _⟩ := hk
        rw [HIN.out.2.1 _ (List.getElem_mem h1)] at h2
        cases h2
      · obtain ⟨q1, q2, q3⟩ := HBo.out.flows hT7 hF7 hN7
        have hnot : ∀ x, W.heap.size ≤ x → x < wo.heap.size → ¬ MBt m hm fm L lv fv7 dv x := fun x h1 h2 hq => by
          rcases q3 x hq with h | h
          · have := HH.out.lt x h
            omega
          · omega
        have hmW := HH.out.mlt
        have hl2 := HS.out.1
        have hml : ¬ m = lb := by omega
        have hlm : ¬ lb = m := by omega
        have hmw : ¬ m = W.heap.size := by omega
        have hwm : ¬ W.heap.size = m := by omega
        have hwl : ¬ W.heap.size = lb := by omega
        have hlw : ¬ lb = W.heap.size := by omega
        obtain ⟨r0, r1, rf0, rf1⟩ := HRr7.out
        have c4 := q1.c4
        have f4 := q1.fz 4
        have HFOOT : Hid (∀ b, MBt m hm fm L lv fv7 dv b → MBt m hm fm L lv fv dv b ∨ W.heap.size ≤ b) := fun b hb => by
          rcases q3 b hb with h | h
          · exact Or.inl h
          · exact Or.inr (by omega)
        have HP : Hid (∀ z : Int, MPost m hm fm L lv fv dv B W S ((((w7.setCell ⟨lb, 0, none⟩ (.int .i64 z)).setCell ⟨lb, 1, none⟩ (.int .i64 (-1))).drew.setCell ⟨W.heap.size, 0, none⟩ (.int .i64 z)).setCell ⟨W.heap.size, 1, none⟩ (.int .i64 (-1)))) := fun z => by
          have e1 := (q1.out (hnot lb (by omega) hlbo) 0 (.int .i64 z)).out (hnot lb (by omega) hlbo) 1 (.int .i64 (-1))
          have e3 := e1.later (Below.refl _ _).drew
          refine ⟨fv7, (e3.out (hnot W.heap.size (Nat.le_refl _) hWo) 0 (.int .i64 z)).out (hnot W.heap.size (Nat.le_refl _) hWo) 1 (.int .i64 (-1)), ?_, HFOOT.out⟩
          exact (((((HTo.out.trans q2 fun b hb => Or.inl hb).setCell 0 (Or.inr (by omega)) _).setCell 1 (Or.inr (by omega)) _).drew).setCell 0 (Or.inr (Nat.le_refl _)) _).setCell 1 (Or.inr (Nat.le_refl _)) _
        have HF : Hid (TickF S.la now j) := hf
        have hz : ¬ ((j + 1 : Nat) : Int) = 0 := by omega
        clear hf hF7 hT7 hN7 q1 q2 q3 hnot hadd HFOOT c4 f4
        obtain ⟨z, hzz⟩ : ∃ z, ((j + 1 : Nat) : Int) = z := ⟨_, rfl⟩
        have HZ : Hid (((j + 1 : Nat) : Int) = z) := hzz
        rw [hzz] at hz ⊢
        clear hzz
        dsimp only
        go_wp2
        go_region
        all_goals
          go_wp2
          exact bodyPost_ret (v := .tuple #[.int .i64 0, .agg #[.int .i64 z, .int .i64 (-1)]]) (by simp [results, Tryz.results62, go_sem, r0, r1]) rfl (Or.inl ⟨j, HF.out, by rw [HZ.out], HP.out z⟩)
end
end Go.Proofs.YtmdckddenelneaaGreatDoor
