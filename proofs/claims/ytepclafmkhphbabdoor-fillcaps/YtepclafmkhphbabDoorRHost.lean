/- The landed Host and Next. -/
import Derived.Test.YtepclafmkhphbabDoorRStart
namespace Go.Proofs.YtepclafmkhphbabDoor
open Go.RowKit Go.Sort Go.Shelf Go.Lib
set_option maxHeartbeats 2000000 in
theorem host_any (rb blk cap : Nat) (P : List Lh.Pt) (z : Nat) (W : World) (hR : RingBlk W rb blk cap P) (hs : P.Pairwise (Lh.leF 0)) (hl : P.length < 1000000) (h0 : 0 < P.length) :
    Calls Tryd.prog 25 #[.pointer (some ⟨rb, 0, none⟩), .int .u64 (z : Nat)] W fun e w' => ∃ s, e = .returned (.string s) ∧ (Lh.hostsF (Lh.turn z) P)[0]? = some s ∧ Below W.heap.size W w' := by
  have hst : ∀ W', Below W.heap.size W W' → Calls Tryd.prog 46 #[.pointer (some ⟨rb, 0, none⟩), .int .u64 (z : Nat)] W' fun e w' => e = .returned (.int .i64 (Lh.start (Lh.turn z) P : Nat)) ∧ Below W.heap.size W w' := fun W' hb =>
    (start_any rb blk cap P z W' (hR.later hb) hs hl).mono fun e w' ⟨h1, h2⟩ => ⟨h1, below_then hb h2⟩
  have HH : Hid ((Lh.hostsF (Lh.turn z) P)[0]? = some (P[Lh.start (Lh.turn z) P]'(Lh.start_lt h0)).2) := Lh.hosts_head hs h0
  have hlt := Lh.start_lt (f := Lh.turn z) h0
  have hc := fun W' (hb : Below W.heap.size W W') => below_cell hb (hR.2 _ hlt).2
  have hcr := fun W' (hb : Below W.heap.size W W') => below_cell hb hR.1
  generalize (P[Lh.start (Lh.turn z) P]'(Lh.start_lt h0)).2 = s at *
  generalize Lh.hostsF (Lh.turn z) P = D at *
  generalize Lh.start (Lh.turn z) P = st at *
  clear hR hs
  generalize P.length = n at *
  have c0 := hcr W (Below.refl _ _)
  have hli : (st : Int) < (n : Int) := by omega
  have hne : ((n : Int) == 0) = false := by rw [beq_eq_false_iff_ne]; omega
  go_enter Tryd.func25, Tryd.ntmps25
  go_wp2_with fail
  go_region_held3 (fun w' => Below W.heap.size W w' ∧ w'.cell? ⟨rb, 0, none⟩ = some (.slice (some ⟨blk, 0, none⟩) n cap) ∧ w'.cell? ⟨blk, st * 2 + 1, none⟩ = some (.string s))
    (first | exact ⟨by assumption, hcr _ (by assumption), hc _ (by assumption)⟩ | exact ⟨below_drewN (Below.refl _ _) 1, hcr _ (below_drewN (Below.refl _ _) 1), hc _ (below_drewN (Below.refl _ _) 1)⟩)
    (first
      | (go_at_call 46; refine (hst _ (by first | assumption | exact below_drewN (Below.refl _ _) 1)).mono ?_; rintro e w' ⟨rfl, hbn⟩))
  all_goals
    go_wp2
    go_ret
    exact ⟨s, rfl, HH.out, by assumption⟩

theorem rem_nat (a b : Nat) : ((a : Int) + (b : Int)) = ((a + b : Nat) : Int) := by simp
set_option maxRecDepth 100000 in
set_option maxHeartbeats 4000000 in
theorem next_core (rb blk cap : Nat) (P : List Lh.Pt) (z m : Nat) (hm : 0 < m) (hm2 : m ≤ 9223372036854775807) (W : World) (hR : RingBlk W rb blk cap P) (hs : P.Pairwise (Lh.leF 0)) (hl : P.length < 1000000) (h0 : 0 < P.length) :
    Calls Tryd.prog 33 #[.pointer (some ⟨rb, 0, none⟩), .int .u64 (z : Nat), .int .i64 (m : Nat)] W fun e w' => ∃ v, e = .returned v ∧ Strs1 w' v ((Lh.hostsF (Lh.turn z) P).take m) ∧ Below W.heap.size W w' := by
  obtain ⟨ii, hi, hz0, hz1, hz2⟩ := info_parts infoS
  have hst := start_any rb blk cap P z W hR hs hl
  have HRT : Hid (∀ i (hi : i < P.length), (Lh.rot (Lh.turn z) P)[i]? = some (P[(Lh.start (Lh.turn z) P + i) % P.length]'(Nat.mod_lt _ h0))) := fun i hi => by
    rw [← Lh.rot_at hs hi]
    exact List.getElem?_eq_getElem _
  have HRL : Hid ((Lh.rot (Lh.turn z) P).length = P.length) := Lh.rot_length _ _
  have hlt := Lh.start_lt (f := Lh.turn z) h0
  have HC : Hid (∀ W', Below W.heap.size W W' → ∀ i (hi : i < P.length), W'.cell? ⟨blk, i * 2 + 1, none⟩ = some (.string P[i].2)) := fun W' hb i hi => below_cell hb (hR.2 i hi).2
  have HCR : Hid (∀ W', Below W.heap.size W W' → W'.cell? ⟨rb, 0, none⟩ = some (.slice (some ⟨blk, 0, none⟩) P.length cap)) := fun W' hb => below_cell hb hR.1
  unfold Lh.hostsF
  generalize Lh.rot (Lh.turn z) P = R at *
  generalize Lh.start (Lh.turn z) P = st at *
  clear hR hs
  have hd : decide ((m : Int) ≤ 0) = false := by simp; omega
  go_enter Tryd.func33, Tryd.ntmps33
  go_wp2_with fail
  refine hst.mono ?_
  rintro e w1 ⟨rfl, hb1⟩
  have c1 := HCR.out w1 hb1
  clear hst
  go_wp2_with fail
  go_loopw [7, 25] (fun v t W' => Below W.heap.size W W' ∧ ∃ i : Nat, i ≤ P.length ∧ t = .int .i64 i ∧ (Lh.dd [] (R.take i)).length < m ∧ W'.ownsRow W.heap.size 9 1 v (Lh.dd [] (R.take i)).length ((Lh.dd [] (R.take i)).map Value.string)) (fun _ t _ => P.length - (intOf t).toNat)
  case atStart => exact ⟨hb1, 0, Nat.zero_le _, rfl, by simpa [Lh.dd] using hm, by simpa [Lh.dd] using owns_nil w1 _ _⟩
  case round =>
    obtain ⟨hb, i, hi', rfl, hlm, hown⟩ := hrel
    by_cases hlti : i < P.length
    · have c2 := HCR.out wr hb
      have hq : (st + i) % P.length < P.length := Nat.mod_lt _ h0
      have ch := HC.out wr hb _ hq
      have hlR : i < R.length := by rw [HRL.out]; exact hlti
      have hE : (R[i]).2 = P[(st + i) % P.length].2 := by
        have := HRT.out i hlti
        rw [List.getElem?_eq_getElem hlR] at this
        rw [Option.some.inj this]
      have hll : (Lh.dd [] (R.take i)).length < 1000000 := by
        have := Lh.dd_length_le (R.take i) []
        rw [List.length_take] at this
        simp at this
        omega
      have HIN : Hid (P[(st + i) % P.length].2 ∈ Lh.dd [] (R.take i) → Lh.dd [] (R.take (i + 1)) = Lh.dd [] (R.take i)) := by rw [← hE]; exact Lh.dd_take_in hlR
      have HNEW : Hid (¬ P[(st + i) % P.length].2 ∈ Lh.dd [] (R.take i) → Lh.dd [] (R.take (i + 1)) = Lh.dd [] (R.take i) ++ [P[(st + i) % P.length].2]) := by rw [← hE]; exact Lh.dd_take_new hlR
      have HDONE : Hid ((Lh.dd [] (R.take (i + 1))).length = m → (Lh.dd [] R).take m = Lh.dd [] (R.take (i + 1))) := Lh.dd_take_done
      have hcon := fun W' (hb' : Below wr.heap.size wr W') => contains_any u7 (Lh.dd [] (R.take i)) P[(st + i) % P.length].2 W' ((strs_of_owns hown).later hb').strs hll
      clear hE hlR
      generalize P[(st + i) % P.length].2 = s at *
      generalize Lh.dd [] (R.take i) = out at *
      have hrem : ((st : Int) + (i : Int)).tmod (P.length : Int) = (((st + i) % P.length : Nat) : Int) := by
        rw [rem_nat]; rfl
      have hqi : (((st + i) % P.length : Nat) : Int) < (P.length : Int) := by omega
      generalize (st + i) % P.length = q at *
      go_wp2_with fail
      go_quiet (fail)
      go_wp2_with fail
      refine (hcon _ (below_drewN (Below.refl _ _) nq)).mono ?_
      rintro e w2 ⟨rfl, rfl⟩
      have hownd : (wr.drewN nq).ownsRow W.heap.size 9 1 u7 out.length (out.map Value.string) := hown
      have hbd : Below W.heap.size W (wr.drewN nq) := below_drewN hb nq
      clear hcon hown ch c2 hb hrem hqi
      generalize wr.drewN nq = w2 at *
      by_cases hme : s ∈ out
      · rw [Lh.mem_true hme]
        have HD : Hid (Lh.dd [] (R.take (i + 1)) = out) := HIN.out hme
        clear hme
        go_wp2
        refine ⟨⟨hbd, i + 1, by omega, by go_num, ?_, ?_⟩, by simp [intOf]; omega⟩
        · rw [HD.out]; exact hlm
        · rw [HD.out]; exact hownd
      · rw [Lh.mem_false hme]
        have HD : Hid (Lh.dd [] (R.take (i + 1)) = out ++ [s]) := HNEW.out hme
        clear hme
        have hown3 := hownd.alloc (.cells #[.string s] 9)
        have hnews := cells_one (w := w2) (t := 9) s
        have hbw3 : Below W.heap.size W (w2.alloc (.cells #[.string s] 9)) := hbd.alloc hbd.size _
        have hmax : out.length + 1 ≤ maxLen := by unfold maxLen; omega
        clear hownd
        go_wp2_with (at_builtin; refine wpList_append_own _ rfl _ _ 41 rfl W.heap.size 9 ii _ 1 16 Tryd.underlying41 hi hz0 hz1 hz2 rfl (by decide) u7 out.length (out.map Value.string) rfl hown3 ⟨w2.heap.size, 0, none⟩ 1 1 [.string s] rfl rfl hnews (fun u hu => by simp at hu; subst hu; rfl) hmax (by omega) hbw3.size ?_)
        intro v' w4 hown4 hg4 _
        have hlo := hown3.lt
        have hb4 : Below W.heap.size W w4 := hbw3.grown hg4 hbw3.size (fun k hk => (hlo k hk).1)
        clear hown3 hnews hlo hg4 hbw3 hmax
        have hown5 := owns_snoc hown4
        have HOUT : Hid (w4.ownsRow W.heap.size 9 1 v' (out ++ [s]).length ((out ++ [s]).map Value.string)) := by rw [List.length_append]; exact hown5
        obtain ⟨_, ⟨_, hbad⟩ | ⟨g, cp, cur, rfl, _⟩⟩ := hown4
        · omega
        clear hown5
        have hL : (out ++ [s]).length = out.length + 1 := by simp
        have HL : Hid ((out ++ [s]).length = out.length + 1) := hL
        clear hL
        have hle1 : out.length + 1 ≤ m := hlm
        generalize out.length + 1 = k1 at *
        by_cases hk : k1 = m
        · have hke : ((k1 : Int) == (m : Int)) = true := by simp [hk]
          have HF : Hid ((Lh.dd [] R).take m = out ++ [s]) := by rw [← HD.out]; exact HDONE.out (by rw [HD.out, HL.out]; exact hk)
          clear hk
          go_wp2
          go_ret
          refine ⟨_, rfl, ?_, hb4⟩
          rw [HF.out]
          exact strs_of_owns HOUT.out
        · have hke : ((k1 : Int) == (m : Int)) = false := by rw [beq_eq_false_iff_ne]; omega
          go_wp2
          refine ⟨⟨hb4, i + 1, by omega, by go_num, ?_, ?_⟩, by simp [intOf]; omega⟩
          · rw [HD.out, HL.out]; omega
          · rw [HD.out]; exact HOUT.out
    · go_wp2
      go_ret
      have hii : i = P.length := by omega
      rw [hii, ← HRL.out, List.take_length] at hown hlm
      refine ⟨_, rfl, ?_, hb⟩
      rw [List.take_of_length_le (by omega)]
      exact strs_of_owns hown
set_option maxHeartbeats 1000000 in
theorem next_none (rb : Nat) (z : Nat) (many : Int) (hm : many ≤ 0) (W : World) :
    Calls Tryd.prog 33 #[.pointer (some ⟨rb, 0, none⟩), .int .u64 (z : Nat), .int .i64 many] W fun e w' => e = .returned (.slice none 0 0) ∧ w' = W := by
  have hd : decide (many ≤ 0) = true := by simpa using hm
  go_enter Tryd.func33, Tryd.ntmps33
  go_wp2
  go_ret
  exact ⟨rfl, rfl⟩
/-- Next of any key, any number. -/
theorem next_any (rb blk cap : Nat) (P : List Lh.Pt) (z : Nat) (many : Int) (hm2 : many ≤ 9223372036854775807) (W : World) (hR : RingBlk W rb blk cap P) (hs : P.Pairwise (Lh.leF 0)) (hl : P.length < 1000000) (h0 : 0 < P.length) :
    Calls Tryd.prog 33 #[.pointer (some ⟨rb, 0, none⟩), .int .u64 (z : Nat), .int .i64 many] W fun e w' => ∃ v, e = .returned v ∧ Strs1 w' v ((Lh.hostsF (Lh.turn z) P).take many.toNat) ∧ Below W.heap.size W w' := by
  by_cases hm : many ≤ 0
  · refine (next_none rb z many hm W).mono fun e w' ⟨h1, h2⟩ => ⟨_, h1, ?_, by rw [h2]; exact Below.refl _ _⟩
    rw [Int.toNat_eq_zero.2 hm]
    exact Or.inl ⟨rfl, Or.inl rfl⟩
  · obtain ⟨m, rfl⟩ := Int.eq_ofNat_of_zero_le (show 0 ≤ many by omega)
    exact next_core rb blk cap P z m (by omega) (by omega) W hR hs hl h0
end Go.Proofs.YtepclafmkhphbabDoor
