/- The landed script: a key picked. -/
import Derived.Test.YtfhmfjcpggddkaaGreatDoorM32
import Derived.Test.YtfhmfjcpggddkaaGreatDoorM17
import Derived.Test.YtfhmfjcpggddkaaGreatDoorM23
namespace Go.Proofs.YtfhmfjcpggddkaaGreatDoor
open Go.RowKit Lh

theorem bt_sum (s z : ByteArray) : s ++ z = bt (tx s ++ tx z) := by
  apply ByteArray.ext
  simp [tx, bt]
theorem pickR_size {S S' : Bl} {k : Nat} {now : Int} {s : ByteArray} {kept : Bool} {c : Nat} (hok : BOk S) (h : PickR nwB S k now S' s kept c) : s.size ≤ 300 := by
  rcases h with ⟨j, _, _, rfl, _⟩ | ⟨_, ⟨_, _, _, hu⟩, _⟩ | ⟨_, _, _, rfl, _⟩ | ⟨_, _, ho, rfl, _⟩
  · decide
  · exact (hup_nm hok hu).2
  · decide
  · exact ((bopen_facts hok).2.2 _ (nwB_in k ho)).2
theorem pickR_told {S S' : Bl} {k : Nat} {now : Int} {s : ByteArray} {kept : Bool} {c : Nat} (h : PickR nwB S k now S' s kept c) : c ≠ 7 ∧ c ≠ 9 := by
  rcases h with ⟨j, hf, _, _, _, rfl⟩ | ⟨_, _, _, rfl, _⟩ | ⟨_, _, _, _, _, rfl, _⟩ | ⟨_, _, _, _, _, rfl, _⟩
  · rcases hf with ⟨_, rfl⟩ | ⟨_, _, _, rfl⟩ <;> decide
  all_goals decide
set_option maxHeartbeats 4000000 in
set_option maxRecDepth 100000 in
/-- player.pick -/
theorem pickP_any (a : Nat → Addr) (p : Nat) (F : Nat → Prop) (S : Sc) (r g cap k : Nat) (W : World) (he : EB a W) (hY : PlY S F p r g cap W) (hpF : ¬ F p) (hok : BOk S.b) (hk : k < 18446744073709551616) :
    Calls Tryz.prog 46 #[.pointer (some ⟨p, 0, none⟩), .int .u64 (k : Nat)] W fun e W' => ∃ F' b' s kept c ev, e = .returned (.tuple #[.string (bt (tx s ++ (if kept then tKept else tNew))), ev]) ∧ (∀ b, F' b → F b ∨ W.heap.size ≤ b) ∧ Tur F W W' ∧ EvOf a c ev ∧ PickR nwB S.b k S.now b' s kept c ∧ RepB b' F' r W' := by
  have c0 := hY.c0
  have c2 := hY.c2
  have hbd : Below W.heap.size W W.drew := below_drewN (Below.refl _ _) 1
  have HC : Hid (∀ w', Tur F W w' → w'.cell? ⟨p, 0, none⟩ = some (.pointer (some ⟨r, 0, none⟩)) ∧ w'.cell? ⟨p, 2, none⟩ = some (.int .i64 S.now)) := fun w' hT => ⟨tur_cell hT hpF c0, tur_cell hT hpF c2⟩
  have ht0 : Tur F W W.drew := Tur.of_below hbd
  have hcal : ∀ w', Below W.heap.size W w' → Calls Tryz.prog 97 #[.pointer (some ⟨r, 0, none⟩), .int .u64 (k : Nat), .int .i64 S.now] w' fun e w'' => ∃ s kept ev, e = .returned (.tuple #[.string s, .bool kept, ev]) ∧ (s.size ≤ 300 ∧ ∃ F' b' c, (∀ b, F' b → F b ∨ W.heap.size ≤ b) ∧ Tur F W w'' ∧ EvOf a c ev ∧ PickR nwB S.b k S.now b' s kept c ∧ RepB b' F' r w'') ∧ Tur F W w'' := fun w' hbl => (pick_bal a S.b F r k S.now w' (he.later hbl) (hY.rep.stay fun b hf => hbl.block b (hY.rep.lt b hf)) hok hk).mono fun _ _ ⟨F', S', s, kept, c, ev, q1, q2, q3, q4, q5, q6⟩ => by
    have hT : Tur F W _ := (Tur.of_below hbl).trans q2 fun b hb => Or.inl hb
    refine ⟨s, kept, ev, q3, ⟨pickR_size hok q5, F', S', c, fun b hb => ?_, hT, q4, q5, q6⟩, hT⟩
    rcases q1 b hb with q | q
    · exact Or.inl q
    · exact Or.inr (Nat.le_trans hbl.size q)
  clear hY
  go_enter Tryz.func46, Tryz.ntmps46
  go_wp2_with fail
  go_region_held3 (fun w' => w'.cell? ⟨p, 0, none⟩ = some (.pointer (some ⟨r, 0, none⟩)) ∧ w'.cell? ⟨p, 2, none⟩ = some (.int .i64 S.now))
    (first | exact HC.out _ (by assumption))
    (first
      | (go_at_call 97; refine (hcal _ (by assumption)).mono ?_; rintro e w1 ⟨s, kept, ev, rfl, hP1, ht1⟩))
  obtain ⟨hsz, F', b', c, r1, r2, r3, r4, r5⟩ := hP1
  have HP : Hid ((∀ b, F' b → F b ∨ W.heap.size ≤ b) ∧ Tur F W w1 ∧ EvOf a c ev ∧ PickR nwB S.b k S.now b' s kept c ∧ RepB b' F' r w1) := ⟨r1, r2, r3, r4, r5⟩
  have hei := either_any kept ⟨#[32, 107, 101, 112, 116]⟩ ⟨#[32, 110, 101, 119]⟩ w1
  clear r1 r2 r3 r4 r5 hcal ht0 ht1 c0 c2 hbd HC
  have hadd : (tx s ++ (if kept then tKept else tNew)).length ≤ 1000 := by
    have h5 := hsz
    rw [Lib.size_eq] at h5
    cases kept <;> (rw [List.length_append]; simp only [tx, tKept, tNew] at *; simp; omega)
  obtain ⟨z, hz, hzs, hzz⟩ : ∃ z : ByteArray, (if kept then (⟨#[32, 107, 101, 112, 116]⟩ : ByteArray) else ⟨#[32, 110, 101, 119]⟩) = z ∧ z.size ≤ 10 ∧ tx z = (if kept then tKept else tNew) := by
    cases kept
    · exact ⟨_, rfl, by decide, rfl⟩
    · exact ⟨_, rfl, by decide, rfl⟩
  rw [hz] at hei
  have hsum : ∀ w, (Op.stringOp .add s z).run Tryz.prog w = .ok (.string (s ++ z)) w := fun w => run_string_add_sum w s z (by omega)
  have HR : Hid (s ++ z = bt (tx s ++ (if kept then tKept else tNew))) := by
    show _ = _
    rw [← hzz]
    exact bt_sum s z
  clear hz hzz
  go_wp2_with fail
  refine hei.mono ?_
  rintro e w2 ⟨rfl, rfl⟩
  clear hei
  go_wp2
  go_ret2
  obtain ⟨q1, q2, q3, q4, q5⟩ := HP.out
  exact ⟨F', b', s, kept, c, ev, by rw [HR.out]; rfl, q1, q2, q3, q4, q5⟩
set_option maxHeartbeats 4000000 in
set_option maxRecDepth 100000 in
theorem cl_pick (w0 W : World) (a : Nat → Addr) (p q m : Nat) (F : Nat → Prop) (S : Sc) (r g cap j : Nat) (hP : PlC w0 a p q m F W) (hY : PlY S F p r g cap W) (hS : SB S j) (nb cn k : Nat) (vh : Value) (hk : W.cell? ⟨nb, 0, none⟩ = some (.int .i64 (k : Nat))) (hk9 : k ≤ 9999999) (hnF : ¬ F nb) (hvh : ∃ x n c, vh = .slice x n c) :
    Calls Tryz.prog 45 #[.agg #[.slice (some ⟨nb, 0, none⟩) 1 cn, vh], .pointer (some ⟨q, 0, none⟩)] W (CmdE w0 a p q m F (some S) ⟨wPick, [], [k]⟩ W) := by
  obtain ⟨vx, vl, vc, rfl⟩ := hvh
  have hn := hS.ok.ne
  have hpF : ¬ F p := fun h => (hP.F0 p h).2.1 rfl
  obtain ⟨wa, hwa⟩ : ∃ wa, wa = W.alloc (.cells #[.slice (some ⟨nb, 0, none⟩) 1 cn, .slice vx vl vc] 83) := ⟨_, rfl⟩
  have hba : Below W.heap.size W wa := by rw [hwa]; exact (Below.refl _ _).alloc (Nat.le_refl _) _
  have hPa := hP.later hba
  have hYa := hY.later hpF hn hba
  have HBA : Hid (Below W.heap.size W wa) := hba
  have k0 : wa.cell? ⟨W.heap.size, 0, none⟩ = some (.slice (some ⟨nb, 0, none⟩) 1 cn) := by rw [hwa]; simp
  have k1 : wa.cell? ⟨W.heap.size, 1, none⟩ = some (.slice vx vl vc) := by rw [hwa]; simp
  have kq := hPa.q0
  have c0 := hYa.c0
  have c1 := hYa.c1
  have c2 := hYa.c2
  have hbd : Below wa.heap.size wa wa.drew := below_drewN (Below.refl _ _) 1
  have hlF : ¬ F W.heap.size := fun h => absurd (hY.rep.lt _ h) (Nat.lt_irrefl _)
  have hqF : ¬ F q := fun h => (hP.F0 q h).2.2.1 rfl
  have nk := below_cell hba hk
  have hwr : IntKind.u64.wrap (k : Int) = (k : Int) := by
    rw [IntKind.wrap_u64]
    omega
  have HC : Hid (∀ w', Tur F wa w' → w'.cell? ⟨q, 0, none⟩ = some (.pointer (some ⟨p, 0, none⟩)) ∧ w'.cell? ⟨W.heap.size, 0, none⟩ = some (.slice (some ⟨nb, 0, none⟩) 1 cn) ∧ w'.cell? ⟨nb, 0, none⟩ = some (.int .i64 (k : Nat))) := fun w' hT => ⟨tur_cell hT hqF kq, tur_cell hT hlF k0, tur_cell hT hnF nk⟩
  have ht0 : Tur F wa wa.drew := Tur.of_below hbd
  have hcal : ∀ w', Below wa.heap.size wa w' → Calls Tryz.prog 46 #[.pointer (some ⟨p, 0, none⟩), .int .u64 (k : Nat)] w' fun e w'' => ∃ tv ev, e = .returned (.tuple #[.string tv, ev]) ∧ CmdE w0 a p q m F (some S) ⟨wPick, [], [k]⟩ W (.returned (.tuple #[.string tv, ev])) w'' ∧ Tur F wa w'' := fun w' hbl => (pickP_any a p F S r g cap k w' (hPa.ea.b.later hbl) (hYa.later hpF hn hbl) hpF hS.ok.ok (by omega)).mono fun _ w'' ⟨F', b', s, kept, c, ev, q1, q2, q3, q4, q5, q6⟩ => by
    have hT : Tur F wa w'' := (Tur.of_below hbl).trans q3 fun b hb => Or.inl hb
    obtain ⟨z1, z2, z3, z4⟩ := cmd_turned hP hY hn (below_then hba hbl) q3 q2 q6
    obtain ⟨y7, y9⟩ := pickR_told q5
    exact ⟨_, _, q1, ⟨_, F', _, Or.inr (Or.inr (Or.inr ⟨show wPick ≠ wHosts by decide, show wPick ≠ wJump by decide, S, rfl, Or.inl ⟨_, Or.inl ⟨rfl, k, b', s, kept, c, rfl, q5, rfl, rfl⟩, rfl⟩⟩)), ansE_ev q4 (pickR_c q5) y7 y9 (fun _ => rfl), z1, z2, z3, z4⟩, hT⟩
  clear hP hY hPa hYa hS hba hk hlF hqF hnF c0 c1 c2
  go_enter Tryz.func45, Tryz.ntmps45
  go_wp2_with fail
  rw [← hwa]
  clear hwa
  go_region_held3 (fun w' => w'.cell? ⟨q, 0, none⟩ = some (.pointer (some ⟨p, 0, none⟩)) ∧ w'.cell? ⟨W.heap.size, 0, none⟩ = some (.slice (some ⟨nb, 0, none⟩) 1 cn) ∧ w'.cell? ⟨nb, 0, none⟩ = some (.int .i64 (k : Nat)))
    (first | exact HC.out _ (by assumption))
    (first
      | (go_at_call 46; refine (hcal _ (by assumption)).mono ?_; rintro e w1 ⟨tv, ev, rfl, hE1, ht1⟩))
  have HE1 : Hid (CmdE w0 a p q m F (some S) ⟨wPick, [], [k]⟩ W (.returned (.tuple #[.string tv, ev])) w1) := hE1
  clear hE1 hcal HC
  go_wp2
  go_ret2
  exact HE1.out
end Go.Proofs.YtfhmfjcpggddkaaGreatDoor

/- The landed script: a host looked at, and drained. -/
namespace Go.Proofs.YtfhmfjcpggddkaaGreatDoor
open Go.RowKit Lh

set_option maxHeartbeats 4000000 in
set_option maxRecDepth 100000 in
theorem cl_look (w0 W : World) (a : Nat → Addr) (p q m : Nat) (F : Nat → Prop) (S : Sc) (r g cap j : Nat) (hP : PlC w0 a p q m F W) (hY : PlY S F p r g cap W) (hS : SB S j) (nb cn hb ch k : Nat) (h : ByteArray) (hk : W.cell? ⟨nb, 0, none⟩ = some (.int .i64 (k : Nat))) (hh : W.cell? ⟨hb, 0, none⟩ = some (.string h)) (hnF : ¬ F nb) (hhF : ¬ F hb) :
    Calls Tryz.prog 47 #[.agg #[.slice (some ⟨nb, 0, none⟩) 1 cn, .slice (some ⟨hb, 0, none⟩) 1 ch], .pointer (some ⟨q, 0, none⟩)] W (CmdE w0 a p q m F (some S) ⟨wLook, [h], [k]⟩ W) := by
  have hn := hS.ok.ne
  have hpF : ¬ F p := fun h => (hP.F0 p h).2.1 rfl
  obtain ⟨wa, hwa⟩ : ∃ wa, wa = W.alloc (.cells #[.slice (some ⟨nb, 0, none⟩) 1 cn, .slice (some ⟨hb, 0, none⟩) 1 ch] 83) := ⟨_, rfl⟩
  have hba : Below W.heap.size W wa := by rw [hwa]; exact (Below.refl _ _).alloc (Nat.le_refl _) _
  have hPa := hP.later hba
  have hYa := hY.later hpF hn hba
  have HBA : Hid (Below W.heap.size W wa) := hba
  have k0 : wa.cell? ⟨W.heap.size, 0, none⟩ = some (.slice (some ⟨nb, 0, none⟩) 1 cn) := by rw [hwa]; simp
  have k1 : wa.cell? ⟨W.heap.size, 1, none⟩ = some (.slice (some ⟨hb, 0, none⟩) 1 ch) := by rw [hwa]; simp
  have kq := hPa.q0
  have c0 := hYa.c0
  have c1 := hYa.c1
  have c2 := hYa.c2
  have hbd : Below wa.heap.size wa wa.drew := below_drewN (Below.refl _ _) 1
  have hlF : ¬ F W.heap.size := fun h => absurd (hY.rep.lt _ h) (Nat.lt_irrefl _)
  have hqF : ¬ F q := fun h => (hP.F0 q h).2.2.1 rfl
  have nk := below_cell hba hk
  have nh := below_cell hba hh
  have hk1 : ((k : Int) == 1) = decide (k = 1) := by
    by_cases q : k = 1
    · subst q; rfl
    · rw [decide_eq_false q, beq_eq_false_iff_ne]; omega
  have HC : Hid (∀ w', Tur F wa w' → w'.cell? ⟨q, 0, none⟩ = some (.pointer (some ⟨p, 0, none⟩)) ∧ w'.cell? ⟨p, 0, none⟩ = some (.pointer (some ⟨r, 0, none⟩)) ∧ w'.cell? ⟨W.heap.size, 0, none⟩ = some (.slice (some ⟨nb, 0, none⟩) 1 cn) ∧ w'.cell? ⟨W.heap.size, 1, none⟩ = some (.slice (some ⟨hb, 0, none⟩) 1 ch) ∧ w'.cell? ⟨nb, 0, none⟩ = some (.int .i64 (k : Nat)) ∧ w'.cell? ⟨hb, 0, none⟩ = some (.string h)) := fun w' hT => ⟨tur_cell hT hqF kq, tur_cell hT hpF c0, tur_cell hT hlF k0, tur_cell hT hlF k1, tur_cell hT hnF nk, tur_cell hT hhF nh⟩
  have ht0 : Tur F wa wa.drew := Tur.of_below hbd
  have hcal : ∀ w', Below wa.heap.size wa w' → Calls Tryz.prog 48 #[.pointer (some ⟨r, 0, none⟩), .string h, .bool (decide (k = 1))] w' fun e w'' => ∃ t ev, e = .returned (.tuple #[.bool t, ev]) ∧ CmdE w0 a p q m F (some S) ⟨wLook, [h], [k]⟩ W (.returned (.tuple #[.string (if t then ⟨#[116, 117, 114, 110, 101, 100]⟩ else ⟨#[115, 97, 109, 101]⟩), ev])) w'' ∧ Tur F wa w'' := fun w' hbl => (look_bal a S.b F r h (decide (k = 1)) w' (hPa.ea.b.later hbl) (hYa.later hpF hn hbl).rep hS.ok.ok).mono fun _ w'' ⟨F', b', t, c, ev, q1, q2, q3, q4, q5, q6⟩ => by
    have hT : Tur F wa w'' := (Tur.of_below hbl).trans q2 fun b hb => Or.inl hb
    obtain ⟨z1, z2, z3, z4⟩ := cmd_turned hP hY hn (below_then hba hbl) q2 q1 q6
    have y : c ≠ 7 ∧ c ≠ 9 := by rcases q5 with ⟨_, _, rfl, _⟩ | ⟨_, _, rfl, _⟩ <;> decide
    exact ⟨_, _, q3, ⟨_, F', _, Or.inr (Or.inr (Or.inr ⟨show wLook ≠ wHosts by decide, show wLook ≠ wJump by decide, S, rfl, Or.inl ⟨_, Or.inr (Or.inl ⟨rfl, h, k, b', t, c, rfl, rfl, q5, rfl, rfl⟩), rfl⟩⟩)), ansE_ev q4 (lookR_c q5) y.1 y.2 (fun _ => by cases t <;> rfl), z1, z2, z3, z4⟩, hT⟩
  generalize decide (k = 1) = is1 at *
  clear hP hY hPa hYa hS hba hk hh hlF hqF hnF hhF c1 c2
  go_enter Tryz.func47, Tryz.ntmps47
  go_wp2_with fail
  rw [← hwa]
  clear hwa
  go_region_held3 (fun w' => w'.cell? ⟨q, 0, none⟩ = some (.pointer (some ⟨p, 0, none⟩)) ∧ w'.cell? ⟨p, 0, none⟩ = some (.pointer (some ⟨r, 0, none⟩)) ∧ w'.cell? ⟨W.heap.size, 0, none⟩ = some (.slice (some ⟨nb, 0, none⟩) 1 cn) ∧ w'.cell? ⟨W.heap.size, 1, none⟩ = some (.slice (some ⟨hb, 0, none⟩) 1 ch) ∧ w'.cell? ⟨nb, 0, none⟩ = some (.int .i64 (k : Nat)) ∧ w'.cell? ⟨hb, 0, none⟩ = some (.string h))
    (first | exact HC.out _ (by assumption))
    (first
      | (go_at_call 48; refine (hcal _ (by assumption)).mono ?_; rintro e w1 ⟨t, ev, rfl, hE1, ht1⟩))
  have hei := either_any t ⟨#[116, 117, 114, 110, 101, 100]⟩ ⟨#[115, 97, 109, 101]⟩ w1
  have HE1 : Hid (CmdE w0 a p q m F (some S) ⟨wLook, [h], [k]⟩ W (.returned (.tuple #[.string (if t then ⟨#[116, 117, 114, 110, 101, 100]⟩ else ⟨#[115, 97, 109, 101]⟩), ev])) w1) := hE1
  clear hE1 hcal HC
  generalize (if t then (⟨#[116, 117, 114, 110, 101, 100]⟩ : ByteArray) else ⟨#[115, 97, 109, 101]⟩) = z at *
  go_wp2_with fail
  refine hei.mono ?_
  rintro e w2 ⟨rfl, rfl⟩
  clear hei
  go_wp2
  go_ret2
  exact HE1.out

set_option maxHeartbeats 4000000 in
set_option maxRecDepth 100000 in
theorem cl_drain (w0 W : World) (a : Nat → Addr) (p q m : Nat) (F : Nat → Prop) (S : Sc) (r g cap j : Nat) (hP : PlC w0 a p q m F W) (hY : PlY S F p r g cap W) (hS : SB S j) (nb cn hb ch k : Nat) (h : ByteArray) (hk : W.cell? ⟨nb, 0, none⟩ = some (.int .i64 (k : Nat))) (hh : W.cell? ⟨hb, 0, none⟩ = some (.string h)) (hnF : ¬ F nb) (hhF : ¬ F hb) :
    Calls Tryz.prog 50 #[.agg #[.slice (some ⟨nb, 0, none⟩) 1 cn, .slice (some ⟨hb, 0, none⟩) 1 ch], .pointer (some ⟨q, 0, none⟩)] W (CmdE w0 a p q m F (some S) ⟨wDrain, [h], [k]⟩ W) := by
  have hn := hS.ok.ne
  have hpF : ¬ F p := fun h => (hP.F0 p h).2.1 rfl
  obtain ⟨wa, hwa⟩ : ∃ wa, wa = W.alloc (.cells #[.slice (some ⟨nb, 0, none⟩) 1 cn, .slice (some ⟨hb, 0, none⟩) 1 ch] 83) := ⟨_, rfl⟩
  have hba : Below W.heap.size W wa := by rw [hwa]; exact (Below.refl _ _).alloc (Nat.le_refl _) _
  have hPa := hP.later hba
  have hYa := hY.later hpF hn hba
  have HBA : Hid (Below W.heap.size W wa) := hba
  have k0 : wa.cell? ⟨W.heap.size, 0, none⟩ = some (.slice (some ⟨nb, 0, none⟩) 1 cn) := by rw [hwa]; simp
  have k1 : wa.cell? ⟨W.heap.size, 1, none⟩ = some (.slice (some ⟨hb, 0, none⟩) 1 ch) := by rw [hwa]; simp
  have kq := hPa.q0
  have c0 := hYa.c0
  have c1 := hYa.c1
  have c2 := hYa.c2
  have hbd : Below wa.heap.size wa wa.drew := below_drewN (Below.refl _ _) 1
  have hlF : ¬ F W.heap.size := fun h => absurd (hY.rep.lt _ h) (Nat.lt_irrefl _)
  have hqF : ¬ F q := fun h => (hP.F0 q h).2.2.1 rfl
  have nk := below_cell hba hk
  have nh := below_cell hba hh
  have hk1 : ((k : Int) == 1) = decide (k = 1) := by
    by_cases q : k = 1
    · subst q; rfl
    · rw [decide_eq_false q, beq_eq_false_iff_ne]; omega
  have HC : Hid (∀ w', Tur F wa w' → w'.cell? ⟨q, 0, none⟩ = some (.pointer (some ⟨p, 0, none⟩)) ∧ w'.cell? ⟨p, 0, none⟩ = some (.pointer (some ⟨r, 0, none⟩)) ∧ w'.cell? ⟨W.heap.size, 0, none⟩ = some (.slice (some ⟨nb, 0, none⟩) 1 cn) ∧ w'.cell? ⟨W.heap.size, 1, none⟩ = some (.slice (some ⟨hb, 0, none⟩) 1 ch) ∧ w'.cell? ⟨nb, 0, none⟩ = some (.int .i64 (k : Nat)) ∧ w'.cell? ⟨hb, 0, none⟩ = some (.string h)) := fun w' hT => ⟨tur_cell hT hqF kq, tur_cell hT hpF c0, tur_cell hT hlF k0, tur_cell hT hlF k1, tur_cell hT hnF nk, tur_cell hT hhF nh⟩
  have ht0 : Tur F wa wa.drew := Tur.of_below hbd
  have hcal : ∀ w', Below wa.heap.size wa w' → Calls Tryz.prog 51 #[.pointer (some ⟨r, 0, none⟩), .string h, .bool (decide (k = 1))] w' fun e w'' => ∃ ev, e = .returned ev ∧ CmdE w0 a p q m F (some S) ⟨wDrain, [h], [k]⟩ W (.returned (.tuple #[.string ⟨#[111, 107]⟩, ev])) w'' ∧ Tur F wa w'' := fun w' hbl => (drain_bal a S.b F r h (decide (k = 1)) w' (hPa.ea.b.later hbl) (hYa.later hpF hn hbl).rep hS.ok.ok).mono fun _ w'' ⟨F', b', c, ev, q1, q2, q3, q4, q5, q6⟩ => by
    have hT : Tur F wa w'' := (Tur.of_below hbl).trans q2 fun b hb => Or.inl hb
    obtain ⟨z1, z2, z3, z4⟩ := cmd_turned hP hY hn (below_then hba hbl) q2 q1 q6
    have y : c ≠ 7 ∧ c ≠ 9 := by rcases q5 with ⟨_, rfl, _⟩ | ⟨_, rfl, _⟩ <;> decide
    exact ⟨_, q3, ⟨_, F', _, Or.inr (Or.inr (Or.inr ⟨show wDrain ≠ wHosts by decide, show wDrain ≠ wJump by decide, S, rfl, Or.inl ⟨_, Or.inr (Or.inr (Or.inl ⟨rfl, h, k, b', c, rfl, rfl, q5, rfl, rfl⟩)), rfl⟩⟩)), ansE_ev q4 (drainR_c q5) y.1 y.2 (fun _ => rfl), z1, z2, z3, z4⟩, hT⟩
  generalize decide (k = 1) = is1 at *
  clear hP hY hPa hYa hS hba hk hh hlF hqF hnF hhF c1 c2
  go_enter Tryz.func50, Tryz.ntmps50
  go_wp2_with fail
  rw [← hwa]
  clear hwa
  go_region_held3 (fun w' => w'.cell? ⟨q, 0, none⟩ = some (.pointer (some ⟨p, 0, none⟩)) ∧ w'.cell? ⟨p, 0, none⟩ = some (.pointer (some ⟨r, 0, none⟩)) ∧ w'.cell? ⟨W.heap.size, 0, none⟩ = some (.slice (some ⟨nb, 0, none⟩) 1 cn) ∧ w'.cell? ⟨W.heap.size, 1, none⟩ = some (.slice (some ⟨hb, 0, none⟩) 1 ch) ∧ w'.cell? ⟨nb, 0, none⟩ = some (.int .i64 (k : Nat)) ∧ w'.cell? ⟨hb, 0, none⟩ = some (.string h))
    (first | exact HC.out _ (by assumption))
    (first
      | (go_at_call 51; refine (hcal _ (by assumption)).mono ?_; rintro e w1 ⟨ev, rfl, hE1, ht1⟩))
  have HE1 : Hid (CmdE w0 a p q m F (some S) ⟨wDrain, [h], [k]⟩ W (.returned (.tuple #[.string ⟨#[111, 107]⟩, ev])) w1) := hE1
  clear hE1 hcal HC
  go_wp2
  go_ret2
  exact HE1.out
end Go.Proofs.YtfhmfjcpggddkaaGreatDoor

/- The landed script: hosts that are spoken of. -/
namespace Go.Proofs.YtfhmfjcpggddkaaGreatDoor
open Go.RowKit Lh

theorem isFault_told {xs : List ByteArray} {c : Nat} {pl : Int} (h : IsFault xs c pl) : c ≠ 7 ∧ c ≠ 9 := by
  rcases h with ⟨_, rfl, _⟩ | ⟨_, i, hi, _, _, ⟨_, rfl⟩ | ⟨_, _, rfl⟩⟩ | ⟨_, _, rfl, _⟩ <;> decide
theorem isFault_pl {xs : List ByteArray} {pl : Int} (h : IsFault xs 0 pl) : pl = -1 := by
  rcases h with ⟨_, q, _⟩ | ⟨_, i, hi, _, _, ⟨_, q⟩ | ⟨_, _, q⟩⟩ | ⟨_, _, _, q⟩
  · cases q
  · cases q
  · cases q
  · exact q
set_option maxHeartbeats 2000000 in
theorem newS_bad (a : Nat → Addr) (v : Value) (xs : List ByteArray) (x y : Int) (w : World) (c : Nat) (pl : Int) (he : Errs4 a w) (hv : Strs1 w v xs) (hc : c ≠ 0) (hf : IsFault xs c pl) (hs : ∀ s ∈ xs, s.size ≤ 300) (hl : xs.length < 1000000) :
    Calls Tryz.prog 130 #[v, .int .i64 x, .int .i64 y] w fun e w' => ∃ ev, e = .returned (.tuple #[.pointer none, ev]) ∧ ErrIs a w' c pl ev ∧ Below w.heap.size w w' := by
  have hck := check_any4 a v xs w c pl he hv.strs hf (fun k h => Nat.le_trans (hs _ (List.getElem_mem h)) (by decide)) hl
  clear hs hf he hv
  go_enter Tryz.func130, Tryz.ntmps130
  go_wp2_with fail
  refine hck.mono ?_
  rintro e w1 ⟨ev, rfl, hev, hb1⟩
  have HEV : Hid (ErrIs a w1 c pl ev) := hev
  obtain ⟨t, z, rfl⟩ := errPos hev hc
  clear hev hck
  go_wp2
  go_ret2
  exact ⟨_, rfl, HEV.out, hb1⟩
set_option maxHeartbeats 2000000 in
theorem new_bad_bal (a : Nat → Addr) (v : Value) (xs : List ByteArray) (w : World) (c : Nat) (pl : Int) (he : Errs4 a w) (hv : Strs1 w v xs) (h0 : 0 < xs.length) (hc : c ≠ 0) (hf : IsFault xs c pl) (hs : ∀ s ∈ xs, s.size ≤ 300) (hl : xs.length < 1000000) :
    Calls Tryz.prog 85 #[v, .int .i64 31, .int .i64 20, .int .i64 2, .int .i64 2] w fun e w' => ∃ ev, e = .returned (.tuple #[.pointer none, ev]) ∧ ErrIs a w' c pl ev ∧ Below w.heap.size w w' := by
  have hck := newS_bad a v xs 2 2 w c pl he hv hc hf hs hl
  obtain ⟨b, o, cp, rfl, _⟩ := strs1_pos hv h0
  have hl0 : ((xs.length : Int) == 0) = false := by rw [beq_eq_false_iff_ne]; omega
  have hl1 : ¬ xs.length = 0 := by omega
  clear hs hf he hv
  go_enter Tryz.func85, Tryz.ntmps85
  go_wp2_with fail
  refine hck.mono ?_
  rintro e w1 ⟨ev, rfl, hev, hb1⟩
  have HEV : Hid (ErrIs a w1 c pl ev) := hev
  obtain ⟨t, z, rfl⟩ := errPos hev hc
  clear hev hck
  go_wp2
  go_ret2
  exact ⟨_, rfl, HEV.out, hb1⟩
theorem PlIs.later {st : Option Sc} {F : Nat → Prop} {p : Nat} {W W' : World} (h : PlIs st F p W) (hp : ¬ F p) (hn : ∀ S, st = some S → S.hosts ≠ []) (hb : Below W.heap.size W W') : PlIs st F p W' := by
  rcases h with ⟨h1, h2⟩ | ⟨S, r, g, cap, rfl, h2⟩
  · exact Or.inl ⟨h1, h2.later hb⟩
  · exact Or.inr ⟨S, r, g, cap, rfl, h2.later hp (hn S rfl) hb⟩
theorem PlIs.cells {st : Option Sc} {F : Nat → Prop} {p : Nat} {W : World} (h : PlIs st F p W) : ∃ x0 x1 x2, W.cell? ⟨p, 0, none⟩ = some (.pointer x0) ∧ W.cell? ⟨p, 1, none⟩ = some x1 ∧ W.cell? ⟨p, 2, none⟩ = some (.int .i64 x2) := by
  rcases h with ⟨_, h⟩ | ⟨S, r, g, cap, _, h⟩
  · exact ⟨_, _, _, h.c0, h.c1, h.c2⟩
  · exact ⟨_, _, _, h.c0, h.c1, h.c2⟩
set_option maxHeartbeats 4000000 in
set_option maxRecDepth 100000 in
/-- begin: hosts that are right -/
theorem begin_good (w0 : World) (a : Nat → Addr) (p q m : Nat) (F : Nat → Prop) (st : Option Sc) (H : List ByteArray) (hb ch : Nat) (W : World) (hP : PlC w0 a p q m F W) (hI : PlIs st F p W) (hh : ∀ i (hi : i < H.length), W.cell? ⟨hb, i, none⟩ = some (.string H[i])) (hc : H.length ≤ ch) (h0 : 0 < H.length) (hf : IsFault H 0 (-1)) (hbl3 : p + 3 < hb) :
    Calls Tryz.prog 32 #[.pointer (some ⟨p, 0, none⟩), .slice (some ⟨hb, 0, none⟩) H.length ch] W fun e W' => ∃ F', e = .returned .nilIface ∧ PlC w0 a p q m F' W' ∧ PlIs (some ⟨H, newB H, 0⟩) F' p W' ∧ (∀ b, F' b → W.heap.size ≤ b) ∧ Tur (fun b => F b ∨ b = p) W W' := by
  have hbp : hb ≠ p := by omega
  obtain ⟨x0, x1, x2, c0, c1, c2⟩ := hI.cells
  have hv : Strs1 W (.slice (some ⟨hb, 0, none⟩) H.length ch) H := Or.inr ⟨hb, 0, ch, rfl, hc, fun k hk => by rw [Nat.zero_add]; exact hh k hk⟩
  have hnew := newG_bal a (.slice (some ⟨hb, 0, none⟩) H.length ch) H 31 20 2 2 W hP.ea.b hv h0 hf (fault_facts hf).2.2.2 prm31 (by decide) (by decide) (by decide) (by decide) (by decide) (by decide) (by decide)
  have fz := hP.fz
  have HP : Hid (PlC w0 a p q m F W) := hP
  have HH : Hid (∀ i (hi : i < H.length), W.cell? ⟨hb, i, none⟩ = some (.string H[i])) := hh
  have hpl := hP.pl
  clear hP hI hv hf hh
  go_enter Tryz.func32, Tryz.ntmps32
  go_wp2_with fail
  refine hnew.mono ?_
  rintro e w1 ⟨r, F', rfl, hR, hF, hb1⟩
  have HR : Hid (RepB (newB H) F' r w1) := hR
  have HF : Hid (∀ b, F' b → W.heap.size ≤ b) := hF
  have HB : Hid (Below W.heap.size W w1) := hb1
  have d0 := below_cell hb1 c0
  have d1 := below_cell hb1 c1
  have d2 := below_cell hb1 c2
  have e0 : w1.frozen? ⟨p, 0, none⟩ = false := (World.frozen?_of_block (w := W) (w' := w1) (a := ⟨p, 0, none⟩) (hb1.block p hpl)).trans (fz 0)
  have e1 : w1.frozen? ⟨p, 1, none⟩ = false := (World.frozen?_of_block (w := W) (w' := w1) (a := ⟨p, 1, none⟩) (hb1.block p hpl)).trans (fz 1)
  have e2 : w1.frozen? ⟨p, 2, none⟩ = false := (World.frozen?_of_block (w := W) (w' := w1) (a := ⟨p, 2, none⟩) (hb1.block p hpl)).trans (fz 2)
  clear hnew hR hF hb1 c0 c1 c2 fz
  go_wp2
  go_ret
  have hT : Tur (fun b => b = p) w1 (((w1.setCell ⟨p, 0, none⟩ (.pointer (some ⟨r, 0, none⟩))).setCell ⟨p, 1, none⟩ (.slice (some ⟨hb, 0, none⟩) H.length ch)).setCell ⟨p, 2, none⟩ (.int .i64 0)) := ((tur_setP _ p 0 _).trans (tur_setP _ p 1 _) fun b hb => Or.inl hb).trans (tur_setP _ p 2 _) fun b hb => Or.inl hb
  have hT2 : Tur (fun b => F b ∨ b = p) w1 (((w1.setCell ⟨p, 0, none⟩ (.pointer (some ⟨r, 0, none⟩))).setCell ⟨p, 1, none⟩ (.slice (some ⟨hb, 0, none⟩) H.length ch)).setCell ⟨p, 2, none⟩ (.int .i64 0)) := hT.wideP fun b hb => Or.inr hb
  have hP1 := HP.out.later HB.out
  have hFT : Tur (fun b => F b ∨ b = p) W (((w1.setCell ⟨p, 0, none⟩ (.pointer (some ⟨r, 0, none⟩))).setCell ⟨p, 1, none⟩ (.slice (some ⟨hb, 0, none⟩) H.length ch)).setCell ⟨p, 2, none⟩ (.int .i64 0)) := (Tur.of_below HB.out).trans hT2 fun b hb => Or.inl hb
  have hbl : hb < W.heap.size := World.block_lt_of_cell? W _ (HH.out 0 h0)
  have hpF' : ¬ F' p := fun h => by have := HF.out p h; omega
  refine ⟨F', rfl, HP.out.tur hFT (fun b h => Or.inr (HF.out b h)) (fun k => ?_), Or.inr ⟨_, r, hb, ch, rfl, ?_⟩, HF.out, hFT⟩
  · rw [World.frozen?_setCell, World.frozen?_setCell, World.frozen?_setCell]
    exact hP1.fz k
  · refine ⟨?_, ?_, ?_, HR.out.stay fun b hf => hT.block b (HR.out.lt b hf) fun e => hpF' (e ▸ hf), fun i hi => foot_cellS hT hbp (below_cell HB.out (HH.out i hi)), hc, fun h => by have := HF.out hb h; omega, hbp, hbl3⟩
    · rw [World.cell?_setCell_other _ _ _ _ (by simp), World.cell?_setCell_other _ _ _ _ (by simp)]
      exact World.cell?_setCell_same' _ _ _ (by rw [d0]; rfl)
    · rw [World.cell?_setCell_other _ _ _ _ (by simp)]
      exact World.cell?_setCell_same' _ _ _ (by rw [World.cell?_setCell_other _ _ _ _ (by simp), d1]; rfl)
    · exact World.cell?_setCell_same' _ _ _ (by rw [World.cell?_setCell_other _ _ _ _ (by simp), World.cell?_setCell_other _ _ _ _ (by simp), d2]; rfl)
set_option maxHeartbeats 4000000 in
theorem begin_bad (a : Nat → Addr) (p : Nat) (H : List ByteArray) (hb ch : Nat) (W : World) (he : Errs4 a W) (hh : ∀ i (hi : i < H.length), W.cell? ⟨hb, i, none⟩ = some (.string H[i])) (hc : H.length ≤ ch) (h0 : 0 < H.length) (hl : H.length < 1000000) (hs : ∀ s ∈ H, s.size ≤ 300) (c : Nat) (pl : Int) (hf : IsFault H c pl) (hc0 : c ≠ 0) :
    Calls Tryz.prog 32 #[.pointer (some ⟨p, 0, none⟩), .slice (some ⟨hb, 0, none⟩) H.length ch] W fun e W' => ∃ ev, e = .returned ev ∧ ErrIs a W' c pl ev ∧ Below W.heap.size W W' := by
  have hv : Strs1 W (.slice (some ⟨hb, 0, none⟩) H.length ch) H := Or.inr ⟨hb, 0, ch, rfl, hc, fun k hk => by rw [Nat.zero_add]; exact hh k hk⟩
  have hnew := new_bad_bal a _ H W c pl he hv h0 hc0 hf hs hl
  clear hv hf hh hs
  go_enter Tryz.func32, Tryz.ntmps32
  go_wp2_with fail
  refine hnew.mono ?_
  rintro e w1 ⟨ev, rfl, hev, hb1⟩
  have HEV : Hid (ErrIs a w1 c pl ev) := hev
  obtain ⟨t, z, rfl⟩ := errPos hev hc0
  clear hev hnew
  go_wp2
  go_ret
  exact ⟨_, rfl, HEV.out, hb1⟩
set_option maxHeartbeats 4000000 in
set_option maxRecDepth 100000 in
theorem cl_hosts (w0 : World) (a : Nat → Addr) (p q m : Nat) (F : Nat → Prop) (st : Option Sc) (H : List ByteArray) (vn : Value) (hb ch : Nat) (W : World) (hP : PlC w0 a p q m F W) (hI : PlIs st F p W) (hst : ∀ S, st = some S → S.hosts ≠ []) (hvn : ∃ x n c, vn = .slice x n c) (hh : ∀ i (hi : i < H.length), W.cell? ⟨hb, i, none⟩ = some (.string H[i])) (hc : H.length ≤ ch) (h0 : 0 < H.length) (hl : H.length < 1000000) (hs : ∀ s ∈ H, s.size ≤ 300) (hbl3 : p + 3 < hb) :
    Calls Tryz.prog 31 #[.agg #[vn, .slice (some ⟨hb, 0, none⟩) H.length ch], .pointer (some ⟨q, 0, none⟩)] W (CmdE w0 a p q m F st ⟨wHosts, H, []⟩ W) := by
  obtain ⟨ux, ul, uc, rfl⟩ := hvn
  obtain ⟨c, pl, hf⟩ := isFault_ex H
  have hpF : ¬ F p := fun h => (hP.F0 p h).2.1 rfl
  obtain ⟨wa, hwa⟩ : ∃ wa, wa = W.alloc (.cells #[.slice ux ul uc, .slice (some ⟨hb, 0, none⟩) H.length ch] 83) := ⟨_, rfl⟩
  have hba : Below W.heap.size W wa := by rw [hwa]; exact (Below.refl _ _).alloc (Nat.le_refl _) _
  have hPa := hP.later hba
  have hIa := hI.later hpF hst hba
  have kqW := hPa.q0
  rw [hwa] at kqW
  have hha : ∀ i (hi : i < H.length), wa.cell? ⟨hb, i, none⟩ = some (.string H[i]) := fun i hi => below_cell hba (hh i hi)
  by_cases hc0 : c = 0
  · subst hc0
    obtain rfl := isFault_pl hf
    have hbg := begin_good w0 a p q m F st H hb ch wa hPa hIa hha hc h0 hf hbl3
    have HEND : Hid (∀ F' w', PlC w0 a p q m F' w' → PlIs (some ⟨H, newB H, 0⟩) F' p w' → (∀ b, F' b → wa.heap.size ≤ b) → Tur (fun b => F b ∨ b = p) wa w' → CmdE w0 a p q m F st ⟨wHosts, H, []⟩ W (.returned (.tuple #[.string ⟨#[111, 107]⟩, .nilIface])) w') := fun F' w' q1 q2 q3 q4 =>
      ⟨_, F', tOk, Or.inl ⟨rfl, 0, -1, hf, Or.inr ⟨rfl, rfl, rfl⟩⟩, ansE_ok rfl, q1, q2, fun b hb => Or.inr (Nat.le_trans hba.size (q3 b hb)), (Tur.of_below hba).trans q4 fun b hb => Or.inl hb⟩
    clear hP hI hPa hIa hh hha hf hs hba
    go_enter Tryz.func31, Tryz.ntmps31
    go_wp2_with fail
    rw [← hwa]
    clear hwa kqW
    refine hbg.mono ?_
    rintro e w1 ⟨F', rfl, q1, q2, q3, q4⟩
    have HE := HEND.out F' w1 q1 q2 q3 q4
    have HE1 : Hid (CmdE w0 a p q m F st ⟨wHosts, H, []⟩ W (.returned (.tuple #[.string ⟨#[111, 107]⟩, .nilIface])) w1) := HE
    clear hbg HEND q1 q2 q3 q4 HE
    go_wp2
    go_ret2
    exact HE1.out
  · have hbg := begin_bad a p H hb ch wa hPa.ea.e4 hha hc h0 hl hs c pl hf hc0
    have HEND : Hid (∀ ev w', ErrIs a w' c pl ev → Below wa.heap.size wa w' → CmdE w0 a p q m F st ⟨wHosts, H, []⟩ W (.returned (.tuple #[.string ⟨#[111, 107]⟩, ev])) w') := fun ev w' q1 q2 => by
      obtain ⟨y7, y9⟩ := isFault_told hf
      exact ⟨st, F, _, Or.inl ⟨rfl, c, pl, hf, Or.inl ⟨hc0, rfl, rfl⟩⟩, ansE_err q1 hc0 (errTold (isFault_le hf) y7 y9), hPa.later q2, hIa.later hpF hst q2, fun b h => Or.inl h, Tur.of_below (below_then hba q2)⟩
    clear hP hI hPa hIa hh hha hf hs hba
    go_enter Tryz.func31, Tryz.ntmps31
    go_wp2_with fail
    rw [← hwa]
    clear hwa kqW
    refine hbg.mono ?_
    rintro e w1 ⟨ev, rfl, q1, q2⟩
    have HE1 : Hid (CmdE w0 a p q m F st ⟨wHosts, H, []⟩ W (.returned (.tuple #[.string ⟨#[111, 107]⟩, ev])) w1) := HEND.out ev w1 q1 q2
    clear hbg HEND q1 q2
    go_wp2
    go_ret2
    exact HE1.out
end Go.Proofs.YtfhmfjcpggddkaaGreatDoor

/- table.Moves, where five errors alone are known. -/
namespace Go.Proofs.YtfhmfjcpggddkaaGreatDoor
open Go.RowKit

set_option maxHeartbeats 1000000 in
theorem moves_bad15 (a : Nat → Addr) (va vb : Value) (xs : List ByteArray) (n : Int) (w : World) (c : Nat) (pl : Int) (he : Errs5 a w) (hv : Strs1 w va xs) (hf : TabFault xs n c pl) (hc : c ≠ 0) (hn : -9223372036854775808 ≤ n ∧ n ≤ 9223372036854775807) (hsz : ∀ k (h : k < xs.length), (xs[k]).size ≤ 1000000) (hm : xs.length < 1000000) :
    Calls Tryz.prog 37 #[va, vb, .int .i64 n] w fun e w' => ∃ ev, e = .returned (.tuple #[.int .i64 0, ev]) ∧ ErrIs a w' c pl ev ∧ Below w.heap.size w w' := by
  have hmk := make_bad5 a va xs n w c pl he hv hf hc hn hsz hm
  clear he hv hf hsz
  go_enter Tryz.func37, Tryz.ntmps37
  go_wp2_with fail
  refine hmk.mono ?_
  rintro e w1 ⟨ev, rfl, hev, hb1⟩
  have HEV : Hid (ErrIs a w1 c pl ev) := hev
  obtain ⟨t, x, rfl⟩ := errIs_pos hev hc
  clear hev hmk
  go_wp2
  go_ret2
  exact ⟨_, rfl, HEV.out, hb1⟩

set_option maxHeartbeats 1000000 in
theorem moves_bad25 (a : Nat → Addr) (va vb : Value) (xs ys : List ByteArray) (n : Nat) (w : World) (c : Nat) (pl : Int) (he : Errs5 a w) (hv : Strs1 w va xs) (hv2 : Strs1 w vb ys) (h0 : 0 < xs.length) (hf1 : IsFault xs 0 (-1)) (hp : Lh.Prm n) (h5 : n ≤ 503) (hsz1 : ∀ k (h : k < xs.length), (xs[k]).size ≤ 300) (hf : TabFault ys n c pl) (hc : c ≠ 0) (hsz : ∀ k (h : k < ys.length), (ys[k]).size ≤ 1000000) (hm : ys.length < 1000000) :
    Calls Tryz.prog 37 #[va, vb, .int .i64 n] w fun e w' => ∃ ev, e = .returned (.tuple #[.int .i64 0, ev]) ∧ ErrIs a w' c pl ev ∧ Below w.heap.size w w' := by
  have hmk := make_good5 a va xs n w he hv h0 hf1 hsz1 hp h5
  have HMK2 : Hid (∀ W, Below w.heap.size w W → Calls Tryz.prog 86 #[vb, .int .i64 n] W fun e w' => ∃ ev, e = .returned (.tuple #[.slice none 0 0, ev]) ∧ ErrIs a w' c pl ev ∧ Below W.heap.size W w') := fun W hW => make_bad5 a vb ys n W c pl (he.later hW) (hv2.later hW) hf hc (by omega) hsz hm
  clear he hv hv2 hf hsz hf1 hsz1 hp
  go_enter Tryz.func37, Tryz.ntmps37
  go_wp2_with fail
  refine hmk.mono ?_
  rintro e w1 ⟨g1, rfl, hg1, hr1, hb1⟩
  clear hr1 hmk
  go_wp2_with fail
  refine (HMK2.out w1 hb1).mono ?_
  rintro e w2 ⟨ev, rfl, hev, hb2⟩
  have HEV : Hid (ErrIs a w2 c pl ev) := hev
  obtain ⟨t, x, rfl⟩ := errIs_pos hev hc
  clear hev
  go_wp2
  go_ret2
  exact ⟨_, rfl, HEV.out, below_then hb1 hb2⟩

set_option maxRecDepth 100000 in
set_option maxHeartbeats 2000000 in
theorem moves_good5 (a : Nat → Addr) (va vb : Value) (xs ys : List ByteArray) (n : Nat) (w : World) (he : Errs5 a w) (hv : Strs1 w va xs) (hv2 : Strs1 w vb ys) (h0 : 0 < xs.length) (h0' : 0 < ys.length) (hf1 : IsFault xs 0 (-1)) (hf2 : IsFault ys 0 (-1)) (hp : Lh.Prm n) (h5 : n ≤ 503) (hsz1 : ∀ k (h : k < xs.length), (xs[k]).size ≤ 300) (hsz2 : ∀ k (h : k < ys.length), (ys[k]).size ≤ 300) :
    Calls Tryz.prog 37 #[va, vb, .int .i64 n] w fun e w' => e = .returned (.tuple #[.int .i64 (mv xs ys n n : Nat), .nilIface]) ∧ Below w.heap.size w w' := by
  have hmk := make_good5 a va xs n w he hv h0 hf1 hsz1 hp h5
  have HMK2 : Hid (∀ W, Below w.heap.size w W → Calls Tryz.prog 86 #[vb, .int .i64 n] W fun e w' => ∃ g, e = .returned (.tuple #[.slice (some ⟨g, 0, none⟩) n n, .nilIface]) ∧ W.heap.size ≤ g ∧ IntRow w' g (Lh.tab ys n n) ∧ Below W.heap.size W w') := fun W hW => make_good5 a vb ys n W (he.later hW) (hv2.later hW) h0' hf2 hsz2 hp h5
  have HP : Hid (Lh.Prm n) := hp
  obtain ⟨_, h12, _⟩ := fault_zero hf1
  obtain ⟨_, h12', _⟩ := fault_zero hf2
  obtain ⟨b1, o1, c1, rfl, hx⟩ := strs1_pos hv h0
  obtain ⟨b2, o2, c2, rfl, hy⟩ := strs1_pos hv2 h0'
  have HX : Hid (∀ k (h : k < xs.length), w.cell? ⟨b1, o1 + k, none⟩ = some (.string xs[k])) := hx
  have HY : Hid (∀ k (h : k < ys.length), w.cell? ⟨b2, o2 + k, none⟩ = some (.string ys[k])) := hy
  clear he hv hv2 hf1 hf2 hsz1 hsz2 hp hx hy
  go_enter Tryz.func37, Tryz.ntmps37
  go_wp2_with fail
  refine hmk.mono ?_
  rintro e w1 ⟨g1, rfl, hg1, hr1, hb1⟩
  have HR1 : Hid (IntRow w1 g1 (Lh.tab xs n n)) := hr1
  clear hr1 hmk
  go_wp2_with fail
  refine (HMK2.out w1 hb1).mono ?_
  rintro e w2 ⟨g2, rfl, hg2, hr2, hb2⟩
  have HS1 : Hid (∀ W, Below w2.heap.size w2 W → ∀ i, i < n → ∃ j, ∃ hj : j < xs.length, W.cell? ⟨g1, i, none⟩ = some (.int .i64 (j : Nat)) ∧ xs[j] = owner xs n i) := fun W hW i hi => slot_of HP.out h0 ((HR1.out.later hb2).later hW) hi
  have HS2 : Hid (∀ W, Below w2.heap.size w2 W → ∀ i, i < n → ∃ j, ∃ hj : j < ys.length, W.cell? ⟨g2, i, none⟩ = some (.int .i64 (j : Nat)) ∧ ys[j] = owner ys n i) := fun W hW i hi => slot_of HP.out h0' (hr2.later hW) hi
  have HB : Hid (Below w.heap.size w w2) := below_then hb1 hb2
  clear hr2 HMK2 HR1 hb1 hb2
  go_wp2_with fail
  go_loopw [11, 32] (fun vm t W => Below w2.heap.size w2 W ∧ ∃ i : Nat, i ≤ n ∧ t = .int .i64 i ∧ vm = .int .i64 (mv xs ys n i : Nat)) (fun _ t _ => n - (intOf t).toNat)
  case atStart => exact ⟨Below.refl _ _, 0, Nat.zero_le _, rfl, rfl⟩
  case round =>
    obtain ⟨hb, i, hi, rfl, rfl⟩ := hrel
    by_cases hlt : i < n
    · obtain ⟨j1, hj1, c1', e1⟩ := HS1.out wr hb i hlt
      obtain ⟨j2, hj2, c2', e2⟩ := HS2.out wr hb i hlt
      have d1 := below_cell (below_then HB.out hb) (HX.out j1 hj1)
      have d2 := below_cell (below_then HB.out hb) (HY.out j2 hj2)
      have hii : (i : Int) < (n : Int) := by omega
      have hj1i : (j1 : Int) < (xs.length : Int) := by omega
      have hj2i : (j2 : Int) < (ys.length : Int) := by omega
      have hmle := mv_le xs ys n i
      have hd : decide ((i : Int) < (n : Int)) = true := by simp; omega
      rw [e1] at d1
      rw [e2] at d2
      by_cases heq : owner xs n i = owner ys n i
      · have HM : Hid (mv xs ys n (i + 1) = mv xs ys n i) := mv_same heq
        have hne : ((owner xs n i).toList != (owner ys n i).toList) = false := by rw [heq]; simp
        have hne2 : ((owner xs n i).toList == (owner ys n i).toList) = true := bytes_same heq
        clear heq e1 e2
        generalize owner xs n i = s1 at *
        generalize owner ys n i = s2 at *
        generalize mv xs ys n i = q at *
        go_wp2_with fail
        go_quiet (fail)
        go_wp2_with fail
        go_roundw
        case rel => exact ⟨below_drewN hb nq, i + 1, by omega, by go_num, by rw [HM.out]⟩
        case measure => simp [intOf]; omega
      · have HM : Hid (mv xs ys n (i + 1) = mv xs ys n i + 1) := mv_other heq
        have hne2 : ((owner xs n i).toList == (owner ys n i).toList) = false := bytes_parts heq
        have hne : ((owner xs n i).toList != (owner ys n i).toList) = true := by unfold bne; rw [hne2]; rfl
        clear heq e1 e2
        generalize owner xs n i = s1 at *
        generalize owner ys n i = s2 at *
        generalize mv xs ys n i = q at *
        go_wp2_with fail
        go_quiet (fail)
        go_wp2_with fail
        go_roundw
        case rel => exact ⟨below_drewN hb nq, i + 1, by omega, by go_num, by rw [HM.out]; rfl⟩
        case measure => simp [intOf]; omega
    · have hd : decide ((i : Int) < (n : Int)) = false := by simp; omega
      have hie : i = n := by omega
      subst hie
      go_wp2
      go_ret2
      exact ⟨rfl, below_then HB.out hb⟩
end Go.Proofs.YtfhmfjcpggddkaaGreatDoor
