/- The model of flows: Get, Expire and Drop. -/
import Derived.Test.YtijdaaghomclmabGreatDoorFsM
import Derived.OwnWalk
namespace Go.Proofs.YtijdaaghomclmabGreatDoor
open Go.RowKit

/-- from the end down to j they have been looked at -/
def swp (keep : Lh.Fl → Bool) (L : List Lh.Fl) (j : Nat) : List Lh.Fl := L.take j ++ (L.drop j).filter keep
theorem swp_all (keep : Lh.Fl → Bool) (L : List Lh.Fl) : swp keep L L.length = L := by simp [swp]
theorem swp_zero (keep : Lh.Fl → Bool) (L : List Lh.Fl) : swp keep L 0 = L.filter keep := by simp [swp]
theorem swp_lt (keep : Lh.Fl → Bool) (L : List Lh.Fl) {j : Nat} (h : j < L.length) : j < (swp keep L (j + 1)).length := by
  unfold swp
  rw [List.length_append, List.length_take]
  omega
theorem swp_get (keep : Lh.Fl → Bool) (L : List Lh.Fl) {j : Nat} (h : j < L.length) (h2 : j < (swp keep L (j + 1)).length) : (swp keep L (j + 1))[j] = L[j] := by
  have h1 : (swp keep L (j + 1))[j]? = some L[j] := by
    unfold swp
    rw [List.getElem?_append_left (by rw [List.length_take]; omega), List.getElem?_take_of_lt (by omega), List.getElem?_eq_getElem h]
  rw [List.getElem?_eq_getElem h2] at h1
  exact Option.some.inj h1
theorem swp_keep {keep : Lh.Fl → Bool} {L : List Lh.Fl} {j : Nat} (h : j < L.length) (hk : keep L[j] = true) : swp keep L (j + 1) = swp keep L j := by
  unfold swp
  rw [List.take_succ_eq_append_getElem h, List.drop_eq_getElem_cons h, List.filter_cons_of_pos hk, List.append_assoc]
  rfl
theorem swp_gone {keep : Lh.Fl → Bool} {L : List Lh.Fl} {j : Nat} (h : j < L.length) (hk : keep L[j] = false) : (swp keep L (j + 1)).eraseIdx j = swp keep L j := by
  unfold swp
  rw [List.take_succ_eq_append_getElem h, List.drop_eq_getElem_cons (i := j) h, List.filter_cons_of_neg (by simp [hk]), List.append_assoc, List.eraseIdx_append_of_length_le (by rw [List.length_take]; omega)]
  rw [List.length_take, show j - min j L.length = 0 by omega]
  rfl
theorem swp_le (keep : Lh.Fl → Bool) (L : List Lh.Fl) (j : Nat) : (swp keep L j).length ≤ L.length := by
  unfold swp
  have h1 := List.length_filter_le keep (L.drop j)
  rw [List.length_append, List.length_take]
  rw [List.length_drop] at h1
  omega
section
variable {W : World} {m t : Nat} {la : Int} {L : List Lh.Fl} {lv : Value}

set_option maxHeartbeats 1000000 in
theorem fget_tick (h : MF W m t la L lv) (k : Nat) {now : Int} {j : Nat} (ht : TickF la now j) :
    Calls Tryz.prog 11 #[.pointer (some ⟨m, 0, none⟩), .int .u64 (k : Nat), .int .i64 now] W fun e w' => e = .returned (.tuple #[.string ByteArray.empty, .bool false, .int .i64 ((j + 1 : Nat) : Int)]) ∧ w' = W := by
  have h1 := ftick_bad h ht
  have hj := ht.num
  clear h ht
  rcases hj with rfl | rfl
  all_goals
    go_enter Tryz.func11, Tryz.ntmps11
    go_wp2_with fail
    refine h1.mono ?_
    rintro e w1 ⟨rfl, rfl⟩
    clear h1
    go_wp2
    go_ret3
    exact ⟨rfl, rfl⟩

set_option maxHeartbeats 1000000 in
theorem fget_none (h : MF W m t la L lv) (hl : L.length ≤ 200) (k : Nat) {now : Int} (ht : TickOk la now) (hx : ¬ Lh.fix L k < L.length) :
    Calls Tryz.prog 11 #[.pointer (some ⟨m, 0, none⟩), .int .u64 (k : Nat), .int .i64 now] W fun e w' => e = .returned (.tuple #[.string ByteArray.empty, .bool false, .int .i64 0]) ∧ MF w' m t now L lv ∧ Tur (FFoot m lv) W w' := by
  have h1 := ftick_ok h ht
  obtain ⟨hM, hT⟩ := h.tick now
  have h3 := ffind_any hM (by omega) k
  have e1 : ffi L k = -1 := by unfold ffi; rw [if_neg hx]
  rw [e1] at h3
  have c1 := h.c1
  have f1 := h.fz 1
  have HT : Hid _ := hT
  have HM : Hid _ := hM
  clear h hM hT e1 hx ht
  go_enter Tryz.func11, Tryz.ntmps11
  go_wp2_with fail
  refine h1.mono ?_
  rintro e w1 ⟨rfl, rfl⟩
  clear h1
  go_wp2_with fail
  generalize w1.setCell ⟨m, 1, none⟩ (.int .i64 now) = w2 at *
  refine h3.mono ?_
  rintro e w3 ⟨rfl, rfl⟩
  clear h3
  go_wp2
  go_ret3
  exact ⟨rfl, HM.out, HT.out⟩

set_option maxHeartbeats 1000000 in
theorem fget_there (h : MF W m t la L lv) (hl : L.length ≤ 200) (k : Nat) {now : Int} (ht : TickOk la now) (hx : Lh.fix L k < L.length) :
    Calls Tryz.prog 11 #[.pointer (some ⟨m, 0, none⟩), .int .u64 (k : Nat), .int .i64 now] W fun e w' => ((now < (L[Lh.fix L k]).2.2 ∧ e = .returned (.tuple #[.string (L[Lh.fix L k]).2.1, .bool true, .int .i64 0])) ∨ ((L[Lh.fix L k]).2.2 ≤ now ∧ e = .returned (.tuple #[.string ByteArray.empty, .bool false, .int .i64 0]))) ∧ MF w' m t now L lv ∧ Tur (FFoot m lv) W w' := by
  have h1 := ftick_ok h ht
  obtain ⟨hM, hT⟩ := h.tick now
  have h3 := ffind_any hM (by omega) k
  have e1 : ffi L k = (Lh.fix L k : Nat) := by unfold ffi; rw [if_pos hx]
  rw [e1] at h3
  have c1 := h.c1
  have f1 := h.fz 1
  obtain ⟨p, cap, rfl, hr⟩ := hM.row
  obtain ⟨g, rfl, _, ch, cu⟩ := hr _ hx
  have c2 := hM.c2
  have HT : Hid _ := hT
  have HM : Hid _ := hM
  have hqi : ((Lh.fix L k : Nat) : Int) < (L.length : Int) := by omega
  clear h hM hT e1 ht hr
  generalize (L[Lh.fix L k]).2.2 = y at *
  generalize (L[Lh.fix L k]).2.1 = z at *
  generalize Lh.fix L k = q at *
  have d0 : decide ((q : Int) < 0) = false := by simp
  by_cases hy : y ≤ now
  · have d : decide (y ≤ now) = true := decide_eq_true hy
    have HY : Hid (y ≤ now) := hy
    clear hy
    go_enter Tryz.func11, Tryz.ntmps11
    go_wp2_with fail
    refine h1.mono ?_
    rintro e w1 ⟨rfl, rfl⟩
    clear h1
    go_wp2_with fail
    generalize w1.setCell ⟨m, 1, none⟩ (.int .i64 now) = w2 at *
    refine h3.mono ?_
    rintro e w3 ⟨rfl, rfl⟩
    clear h3
    go_wp2
    go_ret3
    exact ⟨Or.inr ⟨HY.out, rfl⟩, HM.out, HT.out⟩
  · have d : decide (y ≤ now) = false := decide_eq_false hy
    have HY : Hid (now < y) := by show now < y; omega
    clear hy
    go_enter Tryz.func11, Tryz.ntmps11
    go_wp2_with fail
    refine h1.mono ?_
    rintro e w1 ⟨rfl, rfl⟩
    clear h1
    go_wp2_with fail
    generalize w1.setCell ⟨m, 1, none⟩ (.int .i64 now) = w2 at *
    refine h3.mono ?_
    rintro e w3 ⟨rfl, rfl⟩
    clear h3
    go_wp2
    go_ret3
    exact ⟨Or.inl ⟨HY.out, rfl⟩, HM.out, HT.out⟩

set_option maxHeartbeats 1000000 in
theorem fexp_tick (h : MF W m t la L lv) {now : Int} {j : Nat} (ht : TickF la now j) :
    Calls Tryz.prog 13 #[.pointer (some ⟨m, 0, none⟩), .int .i64 now] W fun e w' => e = .returned (.tuple #[.int .i64 0, .int .i64 ((j + 1 : Nat) : Int)]) ∧ w' = W := by
  have h1 := ftick_bad h ht
  have hj := ht.num
  clear h ht
  rcases hj with rfl | rfl
  all_goals
    go_enter Tryz.func13, Tryz.ntmps13
    go_wp2_with fail
    refine h1.mono ?_
    rintro e w1 ⟨rfl, rfl⟩
    clear h1
    go_wp2
    go_ret2
    exact ⟨rfl, rfl⟩

set_option maxRecDepth 100000 in
set_option maxHeartbeats 2000000 in
theorem fexp_good (h : MF W m t la L lv) (hl : L.length ≤ 200) {now : Int} (ht : TickOk la now) :
    Calls Tryz.prog 13 #[.pointer (some ⟨m, 0, none⟩), .int .i64 now] W fun e w' => e = .returned (.tuple #[.int .i64 ((L.length - (Lh.fexp L now).length : Nat) : Int), .int .i64 0]) ∧ ∃ lv', MF w' m t now (Lh.fexp L now) lv' ∧ Tur (FFoot m lv) W w' ∧ ∀ b, FFoot m lv' b → FFoot m lv b ∨ W.heap.size ≤ b := by
  have h1 := ftick_ok h ht
  obtain ⟨hM, hT⟩ := h.tick now
  have c1 := h.c1
  have f1 := h.fz 1
  obtain ⟨p, cap, rfl, hr⟩ := hM.row
  have c2 := hM.c2
  have HT : Hid _ := hT
  have HM : Hid _ := hM
  clear h hM hT ht hr
  go_enter Tryz.func13, Tryz.ntmps13
  go_wp2_with fail
  refine h1.mono ?_
  rintro e w1 ⟨rfl, rfl⟩
  clear h1
  go_wp2_with fail
  have HFE : Hid (Lh.fexp L now = swp (fun x => decide (now < x.2.2)) L 0) := (swp_zero _ _).symm
  have hsw := swp_all (fun x => decide (now < x.2.2)) L
  obtain ⟨keep, hkp⟩ : ∃ keep : Lh.Fl → Bool, keep = (fun x => decide (now < x.2.2)) := ⟨_, rfl⟩
  rw [← hkp] at hsw HFE
  have HKP : Hid (keep = (fun x => decide (now < x.2.2))) := hkp
  clear hkp
  have HM0 : Hid (MF (w1.setCell ⟨m, 1, none⟩ (.int .i64 now)) m t now (swp keep L L.length) (.slice p L.length cap)) := by rw [hsw]; exact HM.out
  have HN0 : Hid (L.length - (swp keep L L.length).length = 0) := by show _ - _ = 0; rw [hsw]; omega
  clear HM c2 c1 f1 hsw
  generalize w1.setCell ⟨m, 1, none⟩ (.int .i64 now) = w2 at *
  go_loopw [7, 8] (fun u v w' => ∃ (j : Nat) (i : Int), j ≤ L.length ∧ i + 1 = (j : Int) ∧ v = .int .i64 i ∧ u = .int .i64 ((L.length - (swp keep L j).length : Nat) : Int) ∧ ∃ lv', MF w' m t now (swp keep L j) lv' ∧ Tur (FFoot m (.slice p L.length cap)) w1 w' ∧ ∀ b, FFoot m lv' b → FFoot m (.slice p L.length cap) b ∨ w1.heap.size ≤ b) (fun _ v _ => (intOf v + 1).toNat)
  case atStart => exact ⟨L.length, (L.length : Int) - 1, Nat.le_refl _, by omega, rfl, by rw [HN0.out]; rfl, _, HM0.out, HT.out, fun b hb => Or.inl hb⟩
  case round =>
    obtain ⟨j, i, hj, hij, rfl, rfl, lv', hM, hT, hF⟩ := hrel
    have HM1 : Hid (MF wr m t now (swp keep L j) lv') := hM
    have HT1 : Hid (Tur (FFoot m (.slice p L.length cap)) w1 wr) := hT
    have HF1 : Hid (∀ b, FFoot m lv' b → FFoot m (.slice p L.length cap) b ∨ w1.heap.size ≤ b) := hF
    have hsl := swp_le keep L j
    clear hT hF
    match j, hj, hij, HM1, hM, hsl with
    | 0, hj, hij, HM1, hM, hsl =>
      obtain rfl : i = -1 := by omega
      clear hM hij
      have HN : Hid (swp keep L 0 = Lh.fexp L now) := HFE.out.symm
      generalize swp keep L 0 = M at *
      go_wp2
      go_ret2
      refine ⟨by rw [← HN.out]; rfl, lv', by rw [← HN.out]; exact HM1.out, HT1.out, HF1.out⟩
    | j + 1, hj, hij, HM1, hM, hsl =>
      obtain rfl : i = (j : Int) := by omega
      have hlt : j < L.length := by omega
      have hml := swp_lt keep L hlt
      have hget := swp_get keep L hlt hml
      obtain ⟨p1, cap1, hlv, hr⟩ := hM.row
      subst hlv
      obtain ⟨g, rfl, _, _, cu⟩ := hr j hml
      have c2 := hM.c2
      rw [hget] at cu
      have hji : (j : Int) < ((swp keep L (j + 1)).length : Int) := by omega
      have d0 : decide (0 ≤ (j : Int)) = true := by simp
      have hdr := fdropAt_any hM (by omega) j hml
      have HG : Hid (keep L[j] = false → (swp keep L (j + 1)).eraseIdx j = swp keep L j) := fun h => swp_gone hlt h
      have HKE : Hid (keep L[j] = true → swp keep L (j + 1) = swp keep L j) := fun h => swp_keep hlt h
      have HKV : Hid (keep L[j] = decide (now < (L[j]).2.2)) := by show keep L[j] = _; rw [HKP.out]
      clear hM hget hr hij
      generalize (L[j]).2.2 = y at *
      by_cases hy : y ≤ now
      · have d : decide (y ≤ now) = true := decide_eq_true hy
        have e1 : (swp keep L (j + 1)).eraseIdx j = swp keep L j := HG.out (by rw [HKV.out]; exact decide_eq_false (by omega))
        have HEL : Hid ((swp keep L (j + 1)).length = (swp keep L j).length + 1) := by
          show _ = _
          rw [← e1, List.length_eraseIdx_of_lt hml]
          omega
        rw [e1] at hdr
        have HLE : Hid ((swp keep L (j + 1)).length ≤ L.length) := hsl
        clear e1 hsl HG HKE HKV hy
        go_wp2_with fail
        refine hdr.mono ?_
        rintro e w4 ⟨lv4, rfl, hM4, hT4, hF4⟩
        have HM4 : Hid _ := hM4
        have HT4 : Hid _ := hT4
        have HF4 : Hid _ := hF4
        clear hdr hM4 hT4 hF4 cu c2
        go_wp2
        refine ⟨⟨j, (j : Int) - 1, by omega, by omega, by go_num, ?_, lv4, HM4.out, HT1.out.trans HT4.out HF1.out, fun b hb => ?_⟩, by first | (simp [intOf]; done) | (simp [intOf]; omega)⟩
        · have h1 := HEL.out
          have h2 := HLE.out
          congr 1
          omega
        · rcases HF4.out b hb with h | h
          · exact HF1.out b h
          · exact Or.inr (Nat.le_trans HT1.out.size h)
      · have d : decide (y ≤ now) = false := decide_eq_false hy
        have e1 : swp keep L (j + 1) = swp keep L j := HKE.out (by rw [HKV.out]; exact decide_eq_true (by omega))
        have HE : Hid (swp keep L (j + 1) = swp keep L j) := e1
        clear e1 HG HKE HKV hdr hy
        go_wp2
        refine ⟨⟨j, (j : Int) - 1, by omega, by omega, by go_num, by rw [HE.out], _, by rw [← HE.out]; exact HM1.out, HT1.out, HF1.out⟩, by first | (simp [intOf]; done) | (simp [intOf]; omega)⟩

set_option maxRecDepth 100000 in
set_option maxHeartbeats 2000000 in
/-- Drop. -/
theorem fdropM_any {w1 : World} (h : MF w1 m t la L lv) (hl : L.length ≤ 200) (s : ByteArray) :
    Calls Tryz.prog 15 #[.pointer (some ⟨m, 0, none⟩), .string s] w1 fun e w' => e = .returned (.int .i64 ((L.length - (Lh.fdrop L s).length : Nat) : Int)) ∧ ∃ lv', MF w' m t la (Lh.fdrop L s) lv' ∧ Tur (FFoot m lv) w1 w' ∧ ∀ b, FFoot m lv' b → FFoot m lv b ∨ w1.heap.size ≤ b := by
  obtain ⟨p, cap, rfl, hr⟩ := h.row
  have c2 := h.c2
  have HM : Hid _ := h
  clear h hr
  go_enter Tryz.func15, Tryz.ntmps15
  go_wp2_with fail
  have HFE : Hid (Lh.fdrop L s = swp (fun x => !decide (x.2.1 = s)) L 0) := (swp_zero _ _).symm
  have hsw := swp_all (fun x => !decide (x.2.1 = s)) L
  obtain ⟨keep, hkp⟩ : ∃ keep : Lh.Fl → Bool, keep = (fun x => !decide (x.2.1 = s)) := ⟨_, rfl⟩
  rw [← hkp] at hsw HFE
  have HKP : Hid (keep = (fun x => !decide (x.2.1 = s))) := hkp
  clear hkp
  have HM0 : Hid (MF w1 m t la (swp keep L L.length) (.slice p L.length cap)) := by rw [hsw]; exact HM.out
  have HN0 : Hid (L.length - (swp keep L L.length).length = 0) := by show _ - _ = 0; rw [hsw]; omega
  clear HM c2 hsw
  go_loopw [5, 6] (fun u v w' => ∃ (j : Nat) (i : Int), j ≤ L.length ∧ i + 1 = (j : Int) ∧ v = .int .i64 i ∧ u = .int .i64 ((L.length - (swp keep L j).length : Nat) : Int) ∧ ∃ lv', MF w' m t la (swp keep L j) lv' ∧ Tur (FFoot m (.slice p L.length cap)) w1 w' ∧ ∀ b, FFoot m lv' b → FFoot m (.slice p L.length cap) b ∨ w1.heap.size ≤ b) (fun _ v _ => (intOf v + 1).toNat)
  case atStart => exact ⟨L.length, (L.length : Int) - 1, Nat.le_refl _, by omega, rfl, by rw [HN0.out]; rfl, _, HM0.out, Tur.of_below (Below.refl _ _), fun b hb => Or.inl hb⟩
  case round =>
    obtain ⟨j, i, hj, hij, rfl, rfl, lv', hM, hT, hF⟩ := hrel
    have HM1 : Hid (MF wr m t la (swp keep L j) lv') := hM
    have HT1 : Hid (Tur (FFoot m (.slice p L.length cap)) w1 wr) := hT
    have HF1 : Hid (∀ b, FFoot m lv' b → FFoot m (.slice p L.length cap) b ∨ w1.heap.size ≤ b) := hF
    have hsl := swp_le keep L j
    clear hT hF
    match j, hj, hij, HM1, hM, hsl with
    | 0, hj, hij, HM1, hM, hsl =>
      obtain rfl : i = -1 := by omega
      clear hM hij
      have HN : Hid (swp keep L 0 = Lh.fdrop L s) := HFE.out.symm
      generalize swp keep L 0 = M at *
      go_wp2
      go_ret
      refine ⟨by rw [← HN.out]; rfl, lv', by rw [← HN.out]; exact HM1.out, HT1.out, HF1.out⟩
    | j + 1, hj, hij, HM1, hM, hsl =>
      obtain rfl : i = (j : Int) := by omega
      have hlt : j < L.length := by omega
      have hml := swp_lt keep L hlt
      have hget := swp_get keep L hlt hml
      obtain ⟨p1, cap1, hlv, hr⟩ := hM.row
      subst hlv
      obtain ⟨g, rfl, _, cu, _⟩ := hr j hml
      have c2 := hM.c2
      rw [hget] at cu
      have hji : (j : Int) < ((swp keep L (j + 1)).length : Int) := by omega
      have d0 : decide (0 ≤ (j : Int)) = true := by simp
      have hdr := fdropAt_any hM (by omega) j hml
      have HG : Hid (keep L[j] = false → (swp keep L (j + 1)).eraseIdx j = swp keep L j) := fun h => swp_gone hlt h
      have HKE : Hid (keep L[j] = true → swp keep L (j + 1) = swp keep L j) := fun h => swp_keep hlt h
      have HKV : Hid (keep L[j] = !decide ((L[j]).2.1 = s)) := by show keep L[j] = _; rw [HKP.out]
      clear hM hget hr hij
      generalize (L[j]).2.1 = y at *
      by_cases hy : y = s
      · have d : (y.toList == s.toList) = true := bytes_same hy
        have e1 : (swp keep L (j + 1)).eraseIdx j = swp keep L j := HG.out (by rw [HKV.out]; simp [hy])
        have HEL : Hid ((swp keep L (j + 1)).length = (swp keep L j).length + 1) := by
          show _ = _
          rw [← e1, List.length_eraseIdx_of_lt hml]
          omega
        rw [e1] at hdr
        have HLE : Hid ((swp keep L (j + 1)).length ≤ L.length) := hsl
        clear e1 hsl HG HKE HKV hy
        go_wp2_with fail
        refine hdr.mono ?_
        rintro e w4 ⟨lv4, rfl, hM4, hT4, hF4⟩
        have HM4 : Hid _ := hM4
        have HT4 : Hid _ := hT4
        have HF4 : Hid _ := hF4
        clear hdr hM4 hT4 hF4 cu c2
        go_wp2
        refine ⟨⟨j, (j : Int) - 1, by omega, by omega, by go_num, ?_, lv4, HM4.out, HT1.out.trans HT4.out HF1.out, fun b hb => ?_⟩, by first | (simp [intOf]; done) | (simp [intOf]; omega)⟩
        · have h1 := HEL.out
          have h2 := HLE.out
          congr 1
          omega
        · rcases HF4.out b hb with h | h
          · exact HF1.out b h
          · exact Or.inr (Nat.le_trans HT1.out.size h)
      · have d : (y.toList == s.toList) = false := bytes_parts hy
        have e1 : swp keep L (j + 1) = swp keep L j := HKE.out (by rw [HKV.out]; simp [hy])
        have HE : Hid (swp keep L (j + 1) = swp keep L j) := e1
        clear e1 HG HKE HKV hdr hy
        go_wp2
        refine ⟨⟨j, (j : Int) - 1, by omega, by omega, by go_num, by rw [HE.out], _, by rw [← HE.out]; exact HM1.out, HT1.out, HF1.out⟩, by first | (simp [intOf]; done) | (simp [intOf]; omega)⟩
end
end Go.Proofs.YtijdaaghomclmabGreatDoor
