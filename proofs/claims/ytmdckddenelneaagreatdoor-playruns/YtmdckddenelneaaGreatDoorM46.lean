/- The model's balance: Pick. -/
import Derived.Test.YtmdckddenelneaaGreatDoorM45
import Derived.Test.YtmdckddenelneaaGreatDoorM44
import Derived.Test.YtmdckddenelneaaGreatDoorM12
import Derived.Test.YtmdckddenelneaaGreatDoorM2
import Derived.Test.YtmdckddenelneaaGreatDoorM15
import Derived.Test.YtmdckddenelneaaGreatDoorM8
import Derived.Test.YtmdckddenelneaaGreatDoorM24
namespace Go.Proofs.YtmdckddenelneaaGreatDoor
open Go.RowKit

section
variable {W W' : World} {m hm fm : Nat} {L : List Mh} {lv fv dv : Value} {B : Nat} {S : Lh.Bl}
/-- Get, where the tick is right -/
theorem mget_ok {t : Nat} {la : Int} {M : List Lh.Fl} (h : MF W fm t la M fv) (hl : M.length ≤ 200) (k : Nat) {now : Int} (ht : TickOk la now) :
    Calls Tryz.prog 100 #[.pointer (some ⟨fm, 0, none⟩), .int .u64 (k : Nat), .int .i64 now] W fun e w' => ∃ s kept, e = .returned (.tuple #[.string s, .bool kept, .int .i64 0]) ∧ ((kept = true ∧ ∃ h : Lh.fix M k < M.length, now < (M[Lh.fix M k]).2.2 ∧ s = (M[Lh.fix M k]).2.1) ∨ (kept = false ∧ s = ByteArray.empty ∧ ∀ h : Lh.fix M k < M.length, (M[Lh.fix M k]).2.2 ≤ now)) ∧ MF w' fm t now M fv ∧ Tur (FFoot fm fv) W w' := by
  by_cases hx : Lh.fix M k < M.length
  · refine (fget_there h hl k ht hx).mono ?_
    rintro e w' ⟨⟨h1, rfl⟩ | ⟨h1, rfl⟩, h2, h3⟩
    · exact ⟨_, true, rfl, Or.inl ⟨rfl, hx, h1, rfl⟩, h2, h3⟩
    · exact ⟨_, false, rfl, Or.inr ⟨rfl, rfl, fun _ => h1⟩, h2, h3⟩
  · refine (fget_none h hl k ht hx).mono ?_
    rintro e w' ⟨rfl, h2, h3⟩
    exact ⟨_, false, rfl, Or.inr ⟨rfl, rfl, fun h => absurd h hx⟩, h2, h3⟩
/-- Put of a right name at a right tick -/
theorem mput_ok {t : Nat} {la : Int} {M : List Lh.Fl} (h : MF W fm t la M fv) (hk : Lh.FlOk M) (htt : t ≤ 1000) (k : Nat) (s : ByteArray) (hs : s.size ≤ 300) (hn : Lh.isNm s = true) {now : Int} (ht : TickOk la now) :
    Calls Tryz.prog 101 #[.pointer (some ⟨fm, 0, none⟩), .int .u64 (k : Nat), .string s, .int .i64 now] W fun e w' => ∃ fv', e = .returned (.int .i64 0) ∧ MF w' fm t now (Lh.fput t M k s now) fv' ∧ Tur (FFoot fm fv) W w' ∧ ∀ b, FFoot fm fv' b → FFoot fm fv b ∨ W.heap.size ≤ b := by
  refine (fputM_any h hk htt k s hs now).mono ?_
  rintro e w' ⟨fv', hT, hF, ⟨_, _, rfl, h1⟩ | ⟨j, hj, _⟩⟩
  · exact ⟨fv', rfl, h1, hT, hF⟩
  · rcases hj with h1 | ⟨_, h1, _⟩
    · exact (ht.not h1).elim
    · rw [hn] at h1
      cases h1
theorem MB.hok (h : MB W m hm fm L lv fv dv B S) (hk : Lh.BOk S) : Lh.HOk S.f S.r (hst L) := by rw [h.hs]; exact hk.h
theorem MB.ticked (h : MB W m hm fm L lv fv dv B S) (hT : Tur (FFoot fm fv) W W') {now : Int} (hF : MF W' fm S.t now S.L fv) : MB W' m hm fm L lv fv dv B { S with la := now } := (h.flows hT hF fun _ hb => Or.inl hb).1
/-- what a pick of the model does -/
def MPost (m hm fm : Nat) (L : List Mh) (lv fv dv : Value) (B : Nat) (W : World) (S' : Lh.Bl) (w' : World) : Prop := ∃ fv', MB w' m hm fm L lv fv' dv B S' ∧ Tur (MBt m hm fm L lv fv dv) W w' ∧ ∀ b, MBt m hm fm L lv fv' dv b → MBt m hm fm L lv fv dv b ∨ W.heap.size ≤ b
theorem MPost.two {W1 W2 : World} {S1 S2 : Lh.Bl} {fv' : Value} (_h : MB W1 m hm fm L lv fv dv B S1) (hT : Tur (FFoot fm fv) W W1) (_hW : MB W m hm fm L lv fv dv B S) (h2 : MB W2 m hm fm L lv fv' dv B S2) (hT2 : Tur (MBt m hm fm L lv fv dv) W1 W2) (hN : ∀ b, MBt m hm fm L lv fv' dv b → MBt m hm fm L lv fv dv b ∨ W1.heap.size ≤ b) : MPost m hm fm L lv fv dv B W S2 W2 :=
  ⟨fv', h2, (hT.wide fun _ hb => Or.inr (Or.inr (Or.inl hb))).trans hT2 fun b hb => Or.inl hb, fun b hb => by
    rcases hN b hb with h1 | h1
    · exact Or.inl h1
    · exact Or.inr (Nat.le_trans hT.size h1)⟩

set_option maxHeartbeats 1000000 in
theorem mpick_tick (h : MB W m hm fm L lv fv dv B S) (k : Nat) (now : Int) (j : Nat) (hf : TickF S.la now j) :
    Calls Tryz.prog 64 #[.pointer (some ⟨m, 0, none⟩), .int .u64 (k : Nat), .int .i64 now] W fun e w' => e = .returned (.tuple #[.string ByteArray.empty, .bool false, .int .i64 ((j + 1 : Nat) : Int)]) ∧ w' = W := by
  have hget := fget_tick h.f k hf
  have c1 := h.c1
  have d1 : decide ((0 : Int) < ((j + 1 : Nat) : Int)) = true := decide_eq_true (by omega)
  clear h hf
  generalize ((j + 1 : Nat) : Int) = z at *
  go_enter Tryz.func64, Tryz.ntmps64
  go_wp2_with fail
  refine hget.mono ?_
  rintro e w1 ⟨rfl, rfl⟩
  clear hget
  go_wp2
  go_ret3
  exact ⟨rfl, rfl⟩

set_option maxHeartbeats 2000000 in
theorem mpick_keep (h : MB W m hm fm L lv fv dv B S) (hk : Lh.BOk S) (k : Nat) (now : Int) (hok : TickOk S.la now) (s : ByteArray) (hks : Lh.BKeeps S k now s) :
    Calls Tryz.prog 64 #[.pointer (some ⟨m, 0, none⟩), .int .u64 (k : Nat), .int .i64 now] W fun e w' => e = .returned (.tuple #[.string s, .bool true, .int .i64 0]) ∧ MPost m hm fm L lv fv dv B W { S with la := now, L := Lh.fput S.t S.L k s now } w' := by
  have hget := mget_ok h.f hk.ok.len k hok
  have c1 := h.c1
  have HH : Hid (MB W m hm fm L lv fv dv B S) := h
  have HK : Hid (Lh.BOk S) := hk
  have HOK : Hid (TickOk S.la now) := hok
  obtain ⟨hix, hlt, hsx, hup⟩ := hks
  have HUP : Hid (Lh.hup S.hs s = true) := hup
  have HKP : Hid (∃ hix : Lh.fix S.L k < S.L.length, now < (S.L[Lh.fix S.L k]).2.2 ∧ (S.L[Lh.fix S.L k]).2.1 = s) := ⟨hix, hlt, hsx⟩
  clear h hk hok hlt hsx hup hix
  go_enter Tryz.func64, Tryz.ntmps64
  go_wp2_with fail
  refine hget.mono ?_
  rintro e w1 ⟨z, kept, rfl, hcase, hF1, hT1⟩
  obtain ⟨rfl, rfl⟩ : kept = true ∧ z = s := by
    obtain ⟨q1, q2, q3⟩ := HKP.out
    rcases hcase with ⟨rfl, q4, _, rfl⟩ | ⟨_, _, q4⟩
    · exact ⟨rfl, q3⟩
    · have := q4 q1
      omega
  have hB1 := HH.out.ticked hT1 hF1
  have c0 := hB1.c0
  have c1' := hB1.c1
  have his := isUp_any hB1.h (hB1.hok (HK.out.tick HOK.out.1 HOK.out.2.1)) z
  rw [show Lh.hup (hst L) z = true by rw [hB1.hs]; exact HUP.out] at his
  obtain ⟨hn, hsz⟩ := Lh.hup_nm HK.out HUP.out
  have HN : Hid (Lh.isNm z = true ∧ z.size ≤ 300) := ⟨hn, hsz⟩
  have HB1 : Hid (MB w1 m hm fm L lv fv dv B { S with la := now }) := hB1
  have HF1 : Hid (MF w1 fm S.t now S.L fv) := hF1
  have HT1 : Hid (Tur (FFoot fm fv) W w1) := hT1
  clear hget hcase hF1 hT1 hB1 c1 hn hsz
  go_wp2_with fail
  refine his.mono ?_
  rintro e w2 ⟨rfl, rfl⟩
  have hpt := mput_ok HF1.out HK.out.ok HK.out.t2 k z HN.out.2 HN.out.1 (la := now) ⟨HOK.out.1, HOK.out.2.1, Int.le_refl _⟩
  clear his c0
  go_wp2_with fail
  refine hpt.mono ?_
  rintro e w3 ⟨fv', rfl, hF3, hT3, hN3⟩
  obtain ⟨q1, q2, q3⟩ := HB1.out.flows hT3 hF3 hN3
  have HP : Hid (MPost m hm fm L lv fv dv B W { S with la := now, L := Lh.fput S.t S.L k z now } w3) := MPost.two HB1.out HT1.out HH.out q1 q2 q3
  clear hpt hF3 hT3 hN3 q1 q2 q3 c1'
  go_wp2
  go_ret3
  exact ⟨rfl, HP.out⟩
end
end Go.Proofs.YtmdckddenelneaaGreatDoor

/- The model's balance: Pick of a new key, where none is open. -/
namespace Go.Proofs.YtmdckddenelneaaGreatDoor
open Go.RowKit

section
variable {W W' : World} {m hm fm : Nat} {L : List Mh} {lv fv dv : Value} {B : Nat} {S : Lh.Bl}

set_option maxRecDepth 100000 in
set_option maxHeartbeats 8000000 in
theorem mpick_none (h : MB W m hm fm L lv fv dv B S) (hk : Lh.BOk S) (k : Nat) (ho : Lh.bopen S = []) (now : Int) (hok : TickOk S.la now) (hks : ∀ z, ¬ Lh.BKeeps S k now z) :
    Calls Tryz.prog 64 #[.pointer (some ⟨m, 0, none⟩), .int .u64 (k : Nat), .int .i64 now] W fun e w' => e = .returned (.tuple #[.string ByteArray.empty, .bool false, .int .i64 5]) ∧ MPost m hm fm L lv fv dv B W { S with la := now } w' := by
  obtain ⟨iS, hiS, hz0, hz1, hz2⟩ := info_parts infoS
  have hget := mget_ok h.f hk.ok.len k hok
  have c1 := h.c1
  have HH : Hid (MB W m hm fm L lv fv dv B S) := h
  have HK : Hid (Lh.BOk S) := hk
  have HOK : Hid (TickOk S.la now) := hok
  have HKS : Hid (∀ z, ¬ Lh.BKeeps S k now z) := hks
  have hul : (Lh.hups S.hs).length ≤ 12 := by
    unfold Lh.hups
    rw [List.length_map]
    exact Nat.le_trans (List.length_filter_le _ _) hk.h.len
  have hdl : S.dr.length ≤ 12 := h.drLen hk.h.len
  clear h hk hok hks
  go_enter Tryz.func64, Tryz.ntmps64
  go_wp2_with fail
  refine hget.mono ?_
  rintro e w1 ⟨z, kept, rfl, hcase, hF1, hT1⟩
  have hB1 := HH.out.ticked hT1 hF1
  have c0 := hB1.c0
  have his := isUp_any hB1.h (hB1.hok (HK.out.tick HOK.out.1 HOK.out.2.1)) z
  have hku : (kept = true ∧ Lh.hup (hst L) z = false) ∨ kept = false := by
    rcases hcase with ⟨rfl, q4, q5, rfl⟩ | ⟨rfl, _⟩
    · cases hu : Lh.hup (hst L) (S.L[Lh.fix S.L k]).2.1 with
      | false => exact Or.inl ⟨rfl, rfl⟩
      | true => exact absurd ⟨q4, q5, rfl, by rw [← hB1.hs]; exact hu⟩ (HKS.out _)
    · exact Or.inr rfl
  have HB1 : Hid (MB w1 m hm fm L lv fv dv B { S with la := now }) := hB1
  have HF1 : Hid (MF w1 fm S.t now S.L fv) := hF1
  have HT1 : Hid (Tur (FFoot fm fv) W w1) := hT1
  have hups := ups_any hB1.h (by have := HK.out.h.len; rw [← hB1.hs, hst_length] at this; exact this)
  rw [show Lh.hups (hst L) = Lh.hups S.hs by rw [hB1.hs]] at hups
  have HD : Hid (∀ w', Below w1.heap.size w1 w' → w'.cell? ⟨m, 3, none⟩ = some dv ∧ Strs1 w' dv S.dr) := fun w' hb => ⟨(HB1.out.later hb).c3, strs_of_owns (HB1.out.later hb).d⟩
  obtain ⟨pd, cd, hdv⟩ : ∃ p c, dv = .slice p S.dr.length c := fown_shape hB1.d
  clear hget hcase hF1 hT1 hB1 c1
  go_wp2_with fail
  refine his.mono ?_
  rintro e w2 ⟨rfl, rfl⟩
  generalize Lh.hup (hst L) z = u at *
  clear his
  rcases hku with ⟨rfl, rfl⟩ | rfl
  all_goals
    go_wp2_with fail
    refine hups.mono ?_
    rintro e w3 ⟨v, rfl, hv, hb3⟩
    have HV : Hid (Strs1 w3 v (Lh.hups S.hs)) := hv
    obtain ⟨pv, cv, rfl⟩ : ∃ p c, v = .slice p (Lh.hups S.hs).length c := hv.shape1
    clear hups hv c0
    go_wp2_with fail
    go_loopw [13, 15] (fun uo ui W' => Below w2.heap.size w2 W' ∧ Below w3.heap.size w3 W' ∧ ∃ i : Nat, i ≤ (Lh.hups S.hs).length ∧ ui = .int .i64 (i : Nat) ∧ W'.ownsRow w3.heap.size 9 1 uo (fl (drq S) ((Lh.hups S.hs).take i)).length ((fl (drq S) ((Lh.hups S.hs).take i)).map Value.string)) (fun _ ui _ => (Lh.hups S.hs).length - (intOf ui).toNat)
    case atStart => exact ⟨hb3, Below.refl _ _, 0, Nat.zero_le _, rfl, by simpa [fl] using World.ownsRow_nil _ _ _ _⟩
    case round =>
      obtain ⟨hbr, hb3r, i, hi, rfl, hown⟩ := hrel
      obtain ⟨wo, hwo⟩ : ∃ wo, wo = wr := ⟨_, rfl⟩
      subst hwo
      obtain ⟨c3, hsd⟩ := HD.out wo hbr
      by_cases hlt : i < (Lh.hups S.hs).length
      · have hki : (i : Int) < ((Lh.hups S.hs).length : Int) := by omega
        obtain ⟨gb, go, rfl, cx⟩ := (HV.out.later hb3r).cell1 hlt
        obtain ⟨x, hx⟩ : ∃ x, (Lh.hups S.hs)[i]'hlt = x := ⟨_, rfl⟩
        rw [hx] at cx
        have hfl := fl_le (drq S) (Lh.hups S.hs) i
        have hidx : ∀ w', Below wo.heap.size wo w' → Calls Tryz.prog 35 #[.slice pd S.dr.length cd, .string x] w' fun e w'' => (∃ j : Int, e = .returned (.int .i64 j) ∧ decide (j < 0) = !drq S x) ∧ Below wo.heap.size wo w'' := fun w' hb => by
          have h1 := idx_any dv S.dr x w' (HD.out w' (below_then hbr hb)).2 (by omega)
          rw [hdv, drq_mem] at h1
          exact h1.mono fun _ _ ⟨q1, q2⟩ => ⟨q1, by rw [q2]; exact hb⟩
        rw [hdv] at c3
        have hC : ∀ w', Below wo.heap.size wo w' → w'.cell? ⟨m, 3, none⟩ = some (.slice pd S.dr.length cd) ∧ w'.cell? ⟨gb, go + i, none⟩ = some (.string x) := fun w' hb => ⟨below_cell hb c3, below_cell hb cx⟩
        cases hqx : drq S x with
        | true =>
          have HS : Hid (fl (drq S) ((Lh.hups S.hs).take (i + 1)) = fl (drq S) ((Lh.hups S.hs).take i)) := fl_gone hlt hx hqx
          have HOWN : Hid (wo.ownsRow w3.heap.size 9 1 u13 (fl (drq S) ((Lh.hups S.hs).take i)).length ((fl (drq S) ((Lh.hups S.hs).take i)).map Value.string)) := hown
          rw [hqx] at hidx
          simp only [Bool.not_true] at hidx
          clear hown hqx hx hsd hfl
          go_wp2_with fail
          go_region_held3 (fun w' => Below wo.heap.size wo w' ∧ w'.cell? ⟨m, 3, none⟩ = some (.slice pd S.dr.length cd) ∧ w'.cell? ⟨gb, go + i, none⟩ = some (.string x))
            (first | exact ⟨by assumption, hC _ (by assumption)⟩ | exact ⟨below_drewN (Below.refl _ _) 1, hC _ (below_drewN (Below.refl _ _) 1)⟩)
            (first
              | (go_at_call 35; refine (hidx _ (by first | assumption | exact below_drewN (Below.refl _ _) 1)).mono ?_; rintro e w5 ⟨⟨j, rfl, hj⟩, hb5⟩))
          all_goals
            clear hidx hC
            go_wp2_with fail
            go_roundw
            case rel => exact ⟨below_then hbr hb5, below_then hb3r hb5, i + 1, by omega, by go_num, by rw [HS.out]; exact ownsRow_below HOWN.out hb5⟩
            case measure => simp [intOf]; omega
        | false =>
          have HS : Hid (fl (drq S) ((Lh.hups S.hs).take (i + 1)) = fl (drq S) ((Lh.hups S.hs).take i) ++ [x]) := fl_keep hlt hx hqx
          rw [hqx] at hidx
          simp only [Bool.not_false] at hidx
          obtain ⟨vo, hvo⟩ : ∃ vo, vo = u13 := ⟨_, rfl⟩
          subst hvo
          generalize fl (drq S) ((Lh.hups S.hs).take i) = out at *
          have HOWN : Hid (wo.ownsRow w3.heap.size 9 1 vo out.length (out.map Value.string)) := hown
          have hmax : out.length + 1 ≤ maxLen := by unfold maxLen; omega
          have hw23 : w2.heap.size ≤ w3.heap.size := hb3.size
          clear hown hqx hx hsd
          go_wp2_with fail
          go_region_held3 (fun w' => Below wo.heap.size wo w' ∧ w'.cell? ⟨m, 3, none⟩ = some (.slice pd S.dr.length cd) ∧ w'.cell? ⟨gb, go + i, none⟩ = some (.string x))
            (first | exact ⟨by assumption, hC _ (by assumption)⟩ | exact ⟨below_drewN (Below.refl _ _) 1, hC _ (below_drewN (Below.refl _ _) 1)⟩)
            (first
              | (go_at_call 35; refine (hidx _ (by first | assumption | exact below_drewN (Below.refl _ _) 1)).mono ?_; rintro e w5 ⟨⟨j, rfl, hj⟩, hb5⟩))
          all_goals
            have cx5 := (hC w5 hb5).2
            have hown3 := (ownsRow_below HOWN.out hb5).alloc (.cells #[.string x] 9)
            have hnews := cells_one (w := w5) (t := 9) x
            have hb35 := below_then hb3r hb5
            have hb25 := below_then hbr hb5
            have hbw3 : Below w3.heap.size w3 (w5.alloc (.cells #[.string x] 9)) := hb35.alloc hb35.size _
            have hbw2 : Below w2.heap.size w2 (w5.alloc (.cells #[.string x] 9)) := hb25.alloc hb25.size _
            clear hidx hC
            go_wp2_with (at_builtin; refine wpList_append_own _ rfl _ _ 22 rfl w3.heap.size 9 iS _ 1 16 Tryz.underlying22 hiS hz0 hz1 hz2 rfl (by decide) vo out.length (out.map Value.string) rfl hown3 ⟨_, 0, none⟩ 1 1 [.string x] rfl rfl hnews (fun u hu => by simp at hu; subst hu; rfl) hmax (by omega) hbw3.size ?_)
            intro v' w4 hown4 hg4 _
            have hlo := hown3.lt
            have hb4 : Below w3.heap.size w3 w4 := hbw3.grown hg4 hbw3.size (fun k hk => (hlo k hk).1)
            have hb42 : Below w2.heap.size w2 w4 := hbw2.grown hg4 hbw2.size (fun k hk => Nat.le_trans hw23 (hlo k hk).1)
            have hown5 := owns_snoc hown4
            have HOUT : Hid (w4.ownsRow w3.heap.size 9 1 v' (out ++ [x]).length ((out ++ [x]).map Value.string)) := by rw [List.length_append]; exact hown5
            clear hown3 hnews hlo hg4 hbw3 hbw2 hmax hown4 hown5
            go_wp2
            exact ⟨⟨hb42, hb4, i + 1, by omega, by go_num, by rw [HS.out]; exact HOUT.out⟩, by simp [intOf]; omega⟩
      · have hki : decide ((i : Int) < ((Lh.hups S.hs).length : Int)) = false := by simp; omega
        have hopn : wo.ownsRow w3.heap.size 9 1 u13 (Lh.bopen S).length ((Lh.bopen S).map Value.string) := by
          have e : fl (drq S) ((Lh.hups S.hs).take i) = Lh.bopen S := by
            rw [List.take_of_length_le (by omega)]
            exact drq_open S
          rw [e] at hown
          exact hown
        have HB4 : Hid (MB wo m hm fm L lv fv dv B { S with la := now }) := HB1.out.later hbr
        have HF4 : Hid (MF wo fm S.t now S.L fv) := HF1.out.later hbr
        have HT4 : Hid (Tur (FFoot fm fv) W wo) := HT1.out.behind hbr
        clear hown c3 hsd HD HV
        rw [ho] at hopn
        obtain ⟨p4, c4, rfl⟩ : ∃ p c, u13 = .slice p 0 c := fown_shape hopn
        have HP : Hid (MPost m hm fm L lv fv dv B W { S with la := now } wo) := ⟨fv, HB4.out, HT4.out.wide fun _ hb => Or.inr (Or.inr (Or.inl hb)), fun b hb => Or.inl hb⟩
        clear hopn
        go_wp2
        go_ret3
        exact ⟨rfl, HP.out⟩
end
end Go.Proofs.YtmdckddenelneaaGreatDoor

/- The model's balance: Pick of a new key, where some are open. -/
namespace Go.Proofs.YtmdckddenelneaaGreatDoor
open Go.RowKit

section
variable {W W' : World} {m hm fm : Nat} {L : List Mh} {lv fv dv : Value} {B : Nat} {S : Lh.Bl}
theorem rem_cast (a b : Nat) : ((a : Nat) : Int).tmod (b : Int) = ((a % b : Nat) : Int) := rfl
theorem wrap_u (n : Nat) (h : n ≤ 503) : IntKind.u64.wrap (n : Int) = (n : Int) := by simp [IntKind.wrap, IntKind.signed, IntKind.bits]; omega
theorem wrap_i (n : Nat) (h : n ≤ 503) : IntKind.i64.wrap (n : Int) = (n : Int) := by simp [IntKind.wrap, IntKind.signed, IntKind.bits]; omega
theorem row_at {w : World} {g : Nat} {xs : List Int} {q i : Nat} (h : IntRow w g xs) (hq : q < xs.length) (hi : xs.getD q 0 = (i : Nat)) : w.cell? ⟨g, q, none⟩ = some (.int .i64 (i : Nat)) := by
  rw [h.cell hq]
  rw [List.getD_eq_getElem?_getD, List.getElem?_eq_getElem hq] at hi
  simp at hi
  rw [hi]

set_option maxRecDepth 100000 in
set_option maxHeartbeats 8000000 in
theorem mpick_new (h : MB W m hm fm L lv fv dv B S) (hk : Lh.BOk S) (k : Nat) (ho : Lh.bopen S ≠ []) (now : Int) (hok : TickOk S.la now) (hks : ∀ z, ¬ Lh.BKeeps S k now z) :
    Calls Tryz.prog 64 #[.pointer (some ⟨m, 0, none⟩), .int .u64 (k : Nat), .int .i64 now] W fun e w' => e = .returned (.tuple #[.string (nwB (Lh.bopen S) S.size k), .bool false, .int .i64 0]) ∧ MPost m hm fm L lv fv dv B W { S with la := now, L := Lh.fput S.t S.L k (nwB (Lh.bopen S) S.size k) now } w' := by
  obtain ⟨iS, hiS, hz0, hz1, hz2⟩ := info_parts infoS
  have hget := mget_ok h.f hk.ok.len k hok
  have c1 := h.c1
  have HH : Hid (MB W m hm fm L lv fv dv B S) := h
  have HK : Hid (Lh.BOk S) := hk
  have HOK : Hid (TickOk S.la now) := hok
  have HKS : Hid (∀ z, ¬ Lh.BKeeps S k now z) := hks
  have hul : (Lh.hups S.hs).length ≤ 12 := by
    unfold Lh.hups
    rw [List.length_map]
    exact Nat.le_trans (List.length_filter_le _ _) hk.h.len
  have hdl : S.dr.length ≤ 12 := h.drLen hk.h.len
  clear h hk hok hks
  go_enter Tryz.func64, Tryz.ntmps64
  go_wp2_with fail
  refine hget.mono ?_
  rintro e w1 ⟨z, kept, rfl, hcase, hF1, hT1⟩
  have hB1 := HH.out.ticked hT1 hF1
  have c0 := hB1.c0
  have his := isUp_any hB1.h (hB1.hok (HK.out.tick HOK.out.1 HOK.out.2.1)) z
  have hku : (kept = true ∧ Lh.hup (hst L) z = false) ∨ kept = false := by
    rcases hcase with ⟨rfl, q4, q5, rfl⟩ | ⟨rfl, _⟩
    · cases hu : Lh.hup (hst L) (S.L[Lh.fix S.L k]).2.1 with
      | false => exact Or.inl ⟨rfl, rfl⟩
      | true => exact absurd ⟨q4, q5, rfl, by rw [← hB1.hs]; exact hu⟩ (HKS.out _)
    · exact Or.inr rfl
  have HB1 : Hid (MB w1 m hm fm L lv fv dv B { S with la := now }) := hB1
  have HF1 : Hid (MF w1 fm S.t now S.L fv) := hF1
  have HT1 : Hid (Tur (FFoot fm fv) W w1) := hT1
  have hups := ups_any hB1.h (by have := HK.out.h.len; rw [← hB1.hs, hst_length] at this; exact this)
  rw [show Lh.hups (hst L) = Lh.hups S.hs by rw [hB1.hs]] at hups
  have HD : Hid (∀ w', Below w1.heap.size w1 w' → w'.cell? ⟨m, 3, none⟩ = some dv ∧ Strs1 w' dv S.dr) := fun w' hb => ⟨(HB1.out.later hb).c3, strs_of_owns (HB1.out.later hb).d⟩
  obtain ⟨pd, cd, hdv⟩ : ∃ p c, dv = .slice p S.dr.length c := fown_shape hB1.d
  clear hget hcase hF1 hT1 hB1 c1
  go_wp2_with fail
  refine his.mono ?_
  rintro e w2 ⟨rfl, rfl⟩
  generalize Lh.hup (hst L) z = u at *
  clear his
  rcases hku with ⟨rfl, rfl⟩ | rfl
  all_goals
    go_wp2_with fail
    refine hups.mono ?_
    rintro e w3 ⟨v, rfl, hv, hb3⟩
    have HV : Hid (Strs1 w3 v (Lh.hups S.hs)) := hv
    obtain ⟨pv, cv, rfl⟩ : ∃ p c, v = .slice p (Lh.hups S.hs).length c := hv.shape1
    clear hups hv c0
    go_wp2_with fail
    go_loopw [13, 15] (fun uo ui W' => Below w2.heap.size w2 W' ∧ Below w3.heap.size w3 W' ∧ ∃ i : Nat, i ≤ (Lh.hups S.hs).length ∧ ui = .int .i64 (i : Nat) ∧ W'.ownsRow w3.heap.size 9 1 uo (fl (drq S) ((Lh.hups S.hs).take i)).length ((fl (drq S) ((Lh.hups S.hs).take i)).map Value.string)) (fun _ ui _ => (Lh.hups S.hs).length - (intOf ui).toNat)
    case atStart => exact ⟨hb3, Below.refl _ _, 0, Nat.zero_le _, rfl, by simpa [fl] using World.ownsRow_nil _ _ _ _⟩
    case round =>
      obtain ⟨hbr, hb3r, i, hi, rfl, hown⟩ := hrel
      obtain ⟨wo, hwo⟩ : ∃ wo, wo = wr := ⟨_, rfl⟩
      subst hwo
      obtain ⟨c3, hsd⟩ := HD.out wo hbr
      by_cases hlt : i < (Lh.hups S.hs).length
      · have hki : (i : Int) < ((Lh.hups S.hs).length : Int) := by omega
        obtain ⟨gb, go, rfl, cx⟩ := (HV.out.later hb3r).cell1 hlt
        obtain ⟨x, hx⟩ : ∃ x, (Lh.hups S.hs)[i]'hlt = x := ⟨_, rfl⟩
        rw [hx] at cx
        have hfl := fl_le (drq S) (Lh.hups S.hs) i
        have hidx : ∀ w', Below wo.heap.size wo w' → Calls Tryz.prog 35 #[.slice pd S.dr.length cd, .string x] w' fun e w'' => (∃ j : Int, e = .returned (.int .i64 j) ∧ decide (j < 0) = !drq S x) ∧ Below wo.heap.size wo w'' := fun w' hb => by
          have h1 := idx_any dv S.dr x w' (HD.out w' (below_then hbr hb)).2 (by omega)
          rw [hdv, drq_mem] at h1
          exact h1.mono fun _ _ ⟨q1, q2⟩ => ⟨q1, by rw [q2]; exact hb⟩
        rw [hdv] at c3
        have hC : ∀ w', Below wo.heap.size wo w' → w'.cell? ⟨m, 3, none⟩ = some (.slice pd S.dr.length cd) ∧ w'.cell? ⟨gb, go + i, none⟩ = some (.string x) := fun w' hb => ⟨below_cell hb c3, below_cell hb cx⟩
        cases hqx : drq S x with
        | true =>
          have HS : Hid (fl (drq S) ((Lh.hups S.hs).take (i + 1)) = fl (drq S) ((Lh.hups S.hs).take i)) := fl_gone hlt hx hqx
          have HOWN : Hid (wo.ownsRow w3.heap.size 9 1 u13 (fl (drq S) ((Lh.hups S.hs).take i)).length ((fl (drq S) ((Lh.hups S.hs).take i)).map Value.string)) := hown
          rw [hqx] at hidx
          simp only [Bool.not_true] at hidx
          clear hown hqx hx hsd hfl
          go_wp2_with fail
          go_region_held3 (fun w' => Below wo.heap.size wo w' ∧ w'.cell? ⟨m, 3, none⟩ = some (.slice pd S.dr.length cd) ∧ w'.cell? ⟨gb, go + i, none⟩ = some (.string x))
            (first | exact ⟨by assumption, hC _ (by assumption)⟩ | exact ⟨below_drewN (Below.refl _ _) 1, hC _ (below_drewN (Below.refl _ _) 1)⟩)
            (first
              | (go_at_call 35; refine (hidx _ (by first | assumption | exact below_drewN (Below.refl _ _) 1)).mono ?_; rintro e w5 ⟨⟨j, rfl, hj⟩, hb5⟩))
          all_goals
            clear hidx hC
            go_wp2_with fail
            go_roundw
            case rel => exact ⟨below_then hbr hb5, below_then hb3r hb5, i + 1, by omega, by go_num, by rw [HS.out]; exact ownsRow_below HOWN.out hb5⟩
            case measure => simp [intOf]; omega
        | false =>
          have HS : Hid (fl (drq S) ((Lh.hups S.hs).take (i + 1)) = fl (drq S) ((Lh.hups S.hs).take i) ++ [x]) := fl_keep hlt hx hqx
          rw [hqx] at hidx
          simp only [Bool.not_false] at hidx
          obtain ⟨vo, hvo⟩ : ∃ vo, vo = u13 := ⟨_, rfl⟩
          subst hvo
          generalize fl (drq S) ((Lh.hups S.hs).take i) = out at *
          have HOWN : Hid (wo.ownsRow w3.heap.size 9 1 vo out.length (out.map Value.string)) := hown
          have hmax : out.length + 1 ≤ maxLen := by unfold maxLen; omega
          have hw23 : w2.heap.size ≤ w3.heap.size := hb3.size
          clear hown hqx hx hsd
          go_wp2_with fail
          go_region_held3 (fun w' => Below wo.heap.size wo w' ∧ w'.cell? ⟨m, 3, none⟩ = some (.slice pd S.dr.length cd) ∧ w'.cell? ⟨gb, go + i, none⟩ = some (.string x))
            (first | exact ⟨by assumption, hC _ (by assumption)⟩ | exact ⟨below_drewN (Below.refl _ _) 1, hC _ (below_drewN (Below.refl _ _) 1)⟩)
            (first
              | (go_at_call 35; refine (hidx _ (by first | assumption | exact below_drewN (Below.refl _ _) 1)).mono ?_; rintro e w5 ⟨⟨j, rfl, hj⟩, hb5⟩))
          all_goals
            have cx5 := (hC w5 hb5).2
            have hown3 := (ownsRow_below HOWN.out hb5).alloc (.cells #[.string x] 9)
            have hnews := cells_one (w := w5) (t := 9) x
            have hb35 := below_then hb3r hb5
            have hb25 := below_then hbr hb5
            have hbw3 : Below w3.heap.size w3 (w5.alloc (.cells #[.string x] 9)) := hb35.alloc hb35.size _
            have hbw2 : Below w2.heap.size w2 (w5.alloc (.cells #[.string x] 9)) := hb25.alloc hb25.size _
            clear hidx hC
            go_wp2_with (at_builtin; refine wpList_append_own _ rfl _ _ 22 rfl w3.heap.size 9 iS _ 1 16 Tryz.underlying22 hiS hz0 hz1 hz2 rfl (by decide) vo out.length (out.map Value.string) rfl hown3 ⟨_, 0, none⟩ 1 1 [.string x] rfl rfl hnews (fun u hu => by simp at hu; subst hu; rfl) hmax (by omega) hbw3.size ?_)
            intro v' w4 hown4 hg4 _
            have hlo := hown3.lt
            have hb4 : Below w3.heap.size w3 w4 := hbw3.grown hg4 hbw3.size (fun k hk => (hlo k hk).1)
            have hb42 : Below w2.heap.size w2 w4 := hbw2.grown hg4 hbw2.size (fun k hk => Nat.le_trans hw23 (hlo k hk).1)
            have hown5 := owns_snoc hown4
            have HOUT : Hid (w4.ownsRow w3.heap.size 9 1 v' (out ++ [x]).length ((out ++ [x]).map Value.string)) := by rw [List.length_append]; exact hown5
            clear hown3 hnews hlo hg4 hbw3 hbw2 hmax hown4 hown5
            go_wp2
            exact ⟨⟨hb42, hb4, i + 1, by omega, by go_num, by rw [HS.out]; exact HOUT.out⟩, by simp [intOf]; omega⟩
      · have hki : decide ((i : Int) < ((Lh.hups S.hs).length : Int)) = false := by simp; omega
        have hopn : wo.ownsRow w3.heap.size 9 1 u13 (Lh.bopen S).length ((Lh.bopen S).map Value.string) := by
          have e : fl (drq S) ((Lh.hups S.hs).take i) = Lh.bopen S := by
            rw [List.take_of_length_le (by omega)]
            exact drq_open S
          rw [e] at hown
          exact hown
        have HB4 : Hid (MB wo m hm fm L lv fv dv B { S with la := now }) := HB1.out.later hbr
        have HF4 : Hid (MF wo fm S.t now S.L fv) := HF1.out.later hbr
        have HT4 : Hid (Tur (FFoot fm fv) W wo) := HT1.out.behind hbr
        clear hown c3 hsd HD HV
        obtain ⟨hl12, hnd, hnm⟩ := bopen_facts HK.out
        have h0 : 0 < (Lh.bopen S).length := by
          rcases Nat.eq_zero_or_pos (Lh.bopen S).length with h | h
          · exact absurd (List.length_eq_zero_iff.1 h) ho
          · exact h
        have hprm := HK.out.prm
        have h2 : 2 ≤ S.size := hprm.1
        have h5 := HK.out.s5
        obtain ⟨g4, c4, rfl, hg4, _, hcap, _, hcell, _⟩ := strRow_of hopn h0
        have htab := tableOf_any g4 0 c4 (Lh.bopen S) S.size wo (fun k h => by rw [Nat.zero_add]; exact hcell k h) h0 hl12 (fun k h => (hnm _ (List.getElem_mem h)).2) hcap hprm h5
        obtain ⟨i4, hi4, hti⟩ := Lh.tab_full hprm h0 (x := Lh.turn k % S.size) (Nat.mod_lt _ (by omega))
        have HNW : Hid (nwB (Lh.bopen S) S.size k = (Lh.bopen S)[i4]) := by
          show _ = _
          unfold nwB
          rw [hti, dif_pos (by simpa using hi4)]
          simp
        obtain ⟨zt, hzt⟩ : ∃ zt, Lh.turn k = zt := ⟨_, rfl⟩
        have HZT : Hid (Lh.turn k = zt) := hzt
        rw [hzt] at hti
        have hrem := rem_cast zt S.size
        have hmod : zt % S.size < S.size := Nat.mod_lt _ (by omega)
        obtain ⟨q, hq⟩ : ∃ q, zt % S.size = q := ⟨_, rfl⟩
        rw [hq] at hti hrem hmod
        clear hq hzt
        have HNM : Hid (Lh.isNm (Lh.bopen S)[i4] = true ∧ ((Lh.bopen S)[i4]).size ≤ 300) := hnm _ (List.getElem_mem hi4)
        have cx := hcell i4 hi4
        have c2' := HB4.out.c2
        have hl0 : ¬ (Lh.bopen S).length = 0 := by omega
        have HTL : Hid ((Lh.tab (Lh.bopen S) S.size S.size).length = S.size) := Lh.tab_length _ _ _
        clear hopn hcell hnm hnd hprm
        go_wp2_with fail
        refine htab.mono ?_
        rintro e w6 ⟨g6, rfl, hg6, hrow, hb6⟩
        have cs : w6.cell? ⟨g6, q, none⟩ = some (.int .i64 (i4 : Nat)) := row_at hrow (by rw [HTL.out]; exact hmod) hti
        have hB6 := HB4.out.later hb6
        have c26 := hB6.c2
        have c16 := hB6.c1
        have cx6 := below_cell hb6 cx
        have HB6 : Hid (MB w6 m hm fm L lv fv dv B { S with la := now }) := hB6
        have HT6 : Hid (Tur (FFoot fm fv) W w6) := HT4.out.behind hb6
        have HF6 : Hid (MF w6 fm S.t now S.L fv) := HF4.out.later hb6
        have hw1 := wrap_u S.size h5
        have hw2 := wrap_i q (by omega)
        have hn0 : ¬ S.size = 0 := by omega
        have hml : (q : Int) < (S.size : Int) := by omega
        have hil : (i4 : Int) < ((Lh.bopen S).length : Int) := by omega
        obtain ⟨s, hs⟩ : ∃ s, (Lh.bopen S)[i4]'hi4 = s := ⟨_, rfl⟩
        have HSX : Hid (nwB (Lh.bopen S) S.size k = s) := by rw [HNW.out]; exact hs
        have HSN : Hid (Lh.isNm s = true ∧ s.size ≤ 300) := by rw [← hs]; exact HNM.out
        rw [hs] at cx6
        have hst : ∀ w', Below w6.heap.size w6 w' → Calls Tryz.prog 9 #[.int .u64 k] w' fun e w'' => e = .returned (.int .u64 (zt : Nat)) ∧ Below w6.heap.size w6 w'' := fun w' hb => by
          rw [← HZT.out]
          exact (turnOf_any k w').mono fun _ _ ⟨q1, q2⟩ => ⟨q1, by rw [q2]; exact hb⟩
        have hC : ∀ w', Below w6.heap.size w6 w' → w'.cell? ⟨m, 2, none⟩ = some (.int .i64 (S.size : Nat)) ∧ w'.cell? ⟨g6, q, none⟩ = some (.int .i64 (i4 : Nat)) ∧ w'.cell? ⟨g4, i4, none⟩ = some (.string s) := fun w' hb => ⟨below_cell hb c26, below_cell hb cs, below_cell hb cx6⟩
        clear htab hrow hti HTL hb6 cx c2' hs hB6 HNW HNM hmod HB4 HF4 HT4 hbr hb3r hg4 hcap hl12 h2 h5 hg6
        go_wp2_with fail
        go_region_held3 (fun w' => Below w6.heap.size w6 w' ∧ w'.cell? ⟨m, 2, none⟩ = some (.int .i64 (S.size : Nat)) ∧ w'.cell? ⟨g6, q, none⟩ = some (.int .i64 (i4 : Nat)) ∧ w'.cell? ⟨g4, i4, none⟩ = some (.string s))
          (first | exact ⟨by assumption, hC _ (by assumption)⟩ | exact ⟨below_drewN (Below.refl _ _) 1, hC _ (below_drewN (Below.refl _ _) 1)⟩)
          (first
            | (go_at_call 9; refine (hst _ (by first | assumption | exact below_drewN (Below.refl _ _) 1)).mono ?_; rintro e w8 ⟨rfl, hb8⟩))
        all_goals
          have c18 := below_cell hb8 c16
          have HB8 : Hid (MB w8 m hm fm L lv fv dv B { S with la := now }) := HB6.out.later hb8
          have HT8 : Hid (Tur (FFoot fm fv) W w8) := HT6.out.behind hb8
          have hpt := mput_ok (HF6.out.later hb8) HK.out.ok HK.out.t2 k s HSN.out.2 HSN.out.1 (la := now) ⟨HOK.out.1, HOK.out.2.1, Int.le_refl _⟩
          clear hst hC cs cx6 c26 c16 hrem hw1 hw2 hn0 hml hil
          go_wp2_with fail
          refine hpt.mono ?_
          rintro e w9 ⟨fv', rfl, hF9, hT9, hN9⟩
          obtain ⟨q1, q2, q3⟩ := HB8.out.flows hT9 hF9 hN9
          have HP : Hid (MPost m hm fm L lv fv dv B W { S with la := now, L := Lh.fput S.t S.L k s now } w9) := MPost.two HB8.out HT8.out HH.out q1 q2 q3
          clear hpt hF9 hT9 hN9 q1 q2 q3 c18
          go_wp2
          go_ret3
          exact ⟨by rw [HSX.out]; rfl, by rw [HSX.out]; exact HP.out⟩
end
end Go.Proofs.YtmdckddenelneaaGreatDoor
