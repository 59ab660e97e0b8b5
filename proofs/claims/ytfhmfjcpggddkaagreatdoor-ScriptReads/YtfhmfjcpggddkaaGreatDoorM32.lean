/- The landed script: commands, tick and up. -/
import Derived.Test.YtfhmfjcpggddkaaGreatDoorM31
namespace Go.Proofs.YtfhmfjcpggddkaaGreatDoor
open Go.RowKit Lh

set_option maxHeartbeats 4000000 in
set_option maxRecDepth 100000 in
theorem cl_tick (w0 W : World) (a : Nat → Addr) (p q m : Nat) (F : Nat → Prop) (S : Sc) (r g cap j : Nat) (hP : PlC w0 a p q m F W) (hY : PlY S F p r g cap W) (hS : SB S j) (hj : j ≤ 100) (nb cn k : Nat) (vh : Value) (hk : W.cell? ⟨nb, 0, none⟩ = some (.int .i64 (k : Nat))) (hk9 : k ≤ 9999999) (hvh : ∃ x n c, vh = .slice x n c) :
    Calls Tryz.prog 52 #[.agg #[.slice (some ⟨nb, 0, none⟩) 1 cn, vh], .pointer (some ⟨q, 0, none⟩)] W (CmdE w0 a p q m F (some S) ⟨wTick, [], [k]⟩ W) := by
  obtain ⟨vx, vl, vc, rfl⟩ := hvh
  have hn := hS.ok.ne
  have hpF : ¬ F p := fun h => (hP.F0 p h).2.1 rfl
  obtain ⟨wa, hwa⟩ : ∃ wa, wa = W.alloc (.cells #[.slice (some ⟨nb, 0, none⟩) 1 cn, .slice vx vl vc] 83) := ⟨_, rfl⟩
  have hba : Below W.heap.size W wa := by rw [hwa]; exact (Below.refl _ _).alloc (Nat.le_refl _) _
  have hPa := hP.later hba
  have hYa := hY.later hpF hn hba
  have HBA : Hid (Below W.heap.size W wa) := hba
  have k0 : wa.cell? ⟨W.heap.size, 0, none⟩ = some (.slice (some ⟨nb, 0, none⟩) 1 cn) := by rw [hwa]; simp
  have k1 : wa.cell? ⟨W.heap.size, 1, none⟩ = some (.slice vx vl vc) := by rw [hwa]; simp
  have kq := hPa.q0
  have c0 := hYa.c0
  have c1 := hYa.c1
  have c2 := hYa.c2
  have nk := below_cell hba hk
  have fz := hPa.fz 2
  have h0 := hS.n0
  have h9 := hS.n9
  have hwr : IntKind.i64.wrap (S.now + (k : Int)) = S.now + (k : Int) := by
    rw [IntKind.wrap_i64]
    omega
  have HEND : Hid (CmdE w0 a p q m F (some S) ⟨wTick, [], [k]⟩ W (.returned (.tuple #[.string ⟨#[111, 107]⟩, .nilIface])) (wa.drew.setCell ⟨p, 2, none⟩ (.int .i64 (S.now + (k : Int))))) := by
    have hbd : Below wa.heap.size wa wa.drew := below_drewN (Below.refl _ _) 1
    have hPd := hPa.later hbd
    have hYd := hYa.later hpF hn hbd
    have hT : Tur (fun b => b = p) wa.drew (wa.drew.setCell ⟨p, 2, none⟩ (.int .i64 (S.now + (k : Int)))) := tur_setP _ p 2 _
    have hT2 : Tur (fun b => F b ∨ b = p) wa.drew (wa.drew.setCell ⟨p, 2, none⟩ (.int .i64 (S.now + (k : Int)))) := hT.wideP fun b hb => Or.inr hb
    have hgl := hYd.glt hn
    refine ⟨some { S with now := S.now + (k : Nat) }, F, tOk, Or.inr (Or.inr (Or.inr ⟨show wTick ≠ wHosts by decide, show wTick ≠ wJump by decide, S, rfl, Or.inl ⟨_, Or.inr (Or.inr (Or.inr (Or.inl ⟨rfl, k, rfl, rfl, rfl⟩))), rfl⟩⟩)), ansE_ok rfl, hPd.tur hT2 (fun _ h => Or.inl h) (fun i => by rw [World.frozen?_setCell]; exact hPd.fz i), Or.inr ⟨_, r, g, cap, rfl, ?_⟩, fun _ h => Or.inl h, (Tur.of_below (below_then hba hbd)).trans hT2 fun b hb => Or.inl hb⟩
    refine ⟨?_, ?_, World.cell?_setCell_same' _ _ _ (by rw [hYd.c2]; rfl), hYd.rep.stay fun b hf => hT.block b (hYd.rep.lt b hf) fun e => hpF (e ▸ hf), fun i hi => ?_, hYd.cp, hYd.gF, hYd.gp, hYd.gl⟩
    · rw [World.cell?_setCell_other _ _ _ _ (by simp)]
      exact hYd.c0
    · rw [World.cell?_setCell_other _ _ _ _ (by simp)]
      exact hYd.c1
    · exact foot_cellS hT hYd.gp (hYd.hst i hi)
  clear hP hY hPa hYa hS hba hk
  go_enter Tryz.func52, Tryz.ntmps52
  go_wp2_with fail
  rw [← hwa]
  clear hwa
  go_region
  go_wp2
  go_ret2
  exact HEND.out

set_option maxHeartbeats 4000000 in
set_option maxRecDepth 100000 in
theorem cl_up (w0 W : World) (a : Nat → Addr) (p q m : Nat) (F : Nat → Prop) (S : Sc) (r g cap j : Nat) (hP : PlC w0 a p q m F W) (hY : PlY S F p r g cap W) (hS : SB S j) (vn vh : Value) (hvn : ∃ x n c, vn = .slice x n c) (hvh : ∃ x n c, vh = .slice x n c) :
    Calls Tryz.prog 53 #[.agg #[vn, vh], .pointer (some ⟨q, 0, none⟩)] W (CmdE w0 a p q m F (some S) ⟨wUp, [], []⟩ W) := by
  obtain ⟨ux, ul, uc, rfl⟩ := hvn
  obtain ⟨vx, vl, vc, rfl⟩ := hvh
  have hn := hS.ok.ne
  have hpF : ¬ F p := fun h => (hP.F0 p h).2.1 rfl
  obtain ⟨wa, hwa⟩ : ∃ wa, wa = W.alloc (.cells #[.slice ux ul uc, .slice vx vl vc] 83) := ⟨_, rfl⟩
  have hba : Below W.heap.size W wa := by rw [hwa]; exact (Below.refl _ _).alloc (Nat.le_refl _) _
  have hPa := hP.later hba
  have hYa := hY.later hpF hn hba
  have HBA : Hid (Below W.heap.size W wa) := hba
  have k0 : wa.cell? ⟨W.heap.size, 0, none⟩ = some (.slice ux ul uc) := by rw [hwa]; simp
  have k1 : wa.cell? ⟨W.heap.size, 1, none⟩ = some (.slice vx vl vc) := by rw [hwa]; simp
  have kq := hPa.q0
  have c0 := hYa.c0
  have c1 := hYa.c1
  have c2 := hYa.c2
  have hu := up_bal S.b F r wa hYa.rep hS.ok.ok
  have hpm : ∀ s ∈ hups S.b.hs, s.size ≤ 1000 := fun s hs => by
    obtain ⟨x, hx, rfl⟩ : ∃ x ∈ S.b.hs, x.1 = s := by
      unfold hups at hs
      obtain ⟨x, hx, e⟩ := List.mem_map.1 hs
      exact ⟨x, (List.mem_filter.1 hx).1, e⟩
    have := (nm_word (hS.ok.ok.nm x hx)).2.2.2
    omega
  have hul : (hups S.b.hs).length ≤ 1000 := by
    have h1 := List.length_filter_le (fun x : Hh => x.2.1) S.b.hs
    have h2 := hS.ok.ok.h.len
    have h3 : (hups S.b.hs).length ≤ S.b.hs.length := by simpa [hups] using h1
    omega
  have HJ : Hid (∀ w' v, Strs1 w' v (hups S.b.hs) → Calls Tryz.prog 54 #[v, .string ⟨#[32]⟩] w' fun r w'' => r = .returned (.string (bt (joinedS [32] ((hups S.b.hs).map tx)))) ∧ Below w'.heap.size w' w'') := fun w' v hv => listed_any v _ ⟨#[32]⟩ w' hv hul hpm (by decide)
  have HEND : Hid (∀ w', Below wa.heap.size wa w' → CmdE w0 a p q m F (some S) ⟨wUp, [], []⟩ W (.returned (.tuple #[.string (bt (joinedS [32] ((hups S.b.hs).map tx))), .nilIface])) w') := fun w' hb => by
    obtain ⟨q1, q2, q3, q4⟩ := cmd_below hP hY hn (below_then hba hb)
    exact ⟨some S, F, _, Or.inr (Or.inr (Or.inr ⟨by decide, by decide, S, rfl, Or.inl ⟨_, Or.inr (Or.inr (Or.inr (Or.inr (Or.inl ⟨rfl, rfl, rfl⟩)))), rfl⟩⟩)), ansE_ok rfl, q1, q2, q3, q4⟩
  generalize bt (joinedS [32] ((hups S.b.hs).map tx)) = ans at *
  generalize hups S.b.hs = us at *
  clear hP hY hPa hYa hS hba hpm hul
  have kqW := kq
  have c0W := c0
  rw [hwa] at kqW c0W
  go_enter Tryz.func53, Tryz.ntmps53
  go_wp2_with fail
  rw [← hwa]
  clear hwa kqW c0W
  refine hu.mono ?_
  rintro e w1 ⟨v, rfl, hv, hb1⟩
  have hli := HJ.out w1 v hv
  obtain ⟨pv, cv, rfl, _⟩ := strs1_sl hv
  have HB1 : Hid (Below wa.heap.size wa w1) := hb1
  clear hu hv hb1
  go_wp2_with fail
  refine hli.mono ?_
  rintro e w2 ⟨rfl, hb2⟩
  have HB2 : Hid (Below w1.heap.size w1 w2) := hb2
  clear hli hb2
  go_wp2
  go_ret2
  exact HEND.out _ (below_then HB1.out HB2.out)
end Go.Proofs.YtfhmfjcpggddkaaGreatDoor

/- The landed script: a key picked. -/
namespace Go.Proofs.YtfhmfjcpggddkaaGreatDoor
open Go.RowKit Lh

theorem bt_sum (s z : ByteArray) : s ++ z = bt (tx s ++ tx z) := by
  apply ByteArray.ext
  simp [tx, bt]
theorem pickR_size {S S' : Bl} {k : Nat} {now : Int} {s : ByteArray} {kept : Bool} {c : Nat} (hok : BOk S) (h : PickR nwB S k now S' s kept c) : s.size ≤ 300 := by
  rcases h with ⟨j, _, _, rfl, _⟩ | ⟨_, ⟨_, _, _, hu⟩, _⟩ | ⟨_, _, _, rfl, _⟩ | ⟨_, _, ho, rfl, _⟩
  · decide
  · exact (hup_nm hok hu).2
  · decide
  · exact ((bopen_facts hok).2.2 _ (nwB_in k ho)).2
theorem pickR_told {S S' : Bl} {k : Nat} {now : Int} {s : ByteArray} {kept : Bool} {c : Nat} (h : PickR nwB S k now S' s kept c) : c ≠ 7 ∧ c ≠ 9 := by
  rcases h with ⟨j, hf, _, _, _, rfl⟩ | ⟨_, _, _, rfl, _⟩ | ⟨_, _, _, _, _, rfl, _⟩ | ⟨_, _, _, _, _, rfl, _⟩
  · rcases hf with ⟨_, rfl⟩ | ⟨_, _, _, rfl⟩ <;> decide
  all_goals decide
set_option maxHeartbeats 4000000 in
set_option maxRecDepth 100000 in
/-- player.pick -/
theorem pickP_any (a : Nat → Addr) (p : Nat) (F : Nat → Prop) (S : Sc) (r g cap k : Nat) (W : World) (he : EB a W) (hY : PlY S F p r g cap W) (hpF : ¬ F p) (hok : BOk S.b) (hk : k < 18446744073709551616) :
    Calls Tryz.prog 46 #[.pointer (some ⟨p, 0, none⟩), .int .u64 (k : Nat)] W fun e W' => ∃ F' b' s kept c ev, e = .returned (.tuple #[.string (bt (tx s ++ (if kept then tKept else tNew))), ev]) ∧ (∀ b, F' b → F b ∨ W.heap.size ≤ b) ∧ Tur F W W' ∧ EvOf a c ev ∧ PickR nwB S.b k S.now b' s kept c ∧ RepB b' F' r W' := by
  have c0 := hY.c0
  have c2 := hY.c2
  have hbd : Below W.heap.size W W.drew := below_drewN (Below.refl _ _) 1
  have HC : Hid (∀ w', Tur F W w' → w'.cell? ⟨p, 0, none⟩ = some (.pointer (some ⟨r, 0, none⟩)) ∧ w'.cell? ⟨p, 2, none⟩ = some (.int .i64 S.now)) := fun w' hT => ⟨tur_cell hT hpF c0, tur_cell hT hpF c2⟩
  have ht0 : Tur F W W.drew := Tur.of_below hbd
  have hcal : ∀ w', Below W.heap.size W w' → Calls Tryz.prog 97 #[.pointer (some ⟨r, 0, none⟩), .int .u64 (k : Nat), .int .i64 S.now] w' fun e w'' => ∃ s kept ev, e = .returned (.tuple #[.string s, .bool kept, ev]) ∧ (s.size ≤ 300 ∧ ∃ F' b' c, (∀ b, F' b → F b ∨ W.heap.size ≤ b) ∧ Tur F W w'' ∧ EvOf a c ev ∧ PickR nwB S.b k S.now b' s kept c ∧ RepB b' F' r w'') ∧ Tur F W w'' := fun w' hbl => (pick_bal a S.b F r k S.now w' (he.later hbl) (hY.rep.stay fun b hf => hbl.block b (hY.rep.lt b hf)) hok hk).mono fun _ _ ⟨F', S', s, kept, c, ev, q1, q2, q3, q4, q5, q6⟩ => by
    have hT : Tur F W _ := (Tur.of_below hbl).trans q2 fun b hb => Or.inl hb
    refine ⟨s, kept, ev, q3, ⟨pickR_size hok q5, F', S', c, fun b hb => ?_, hT, q4, q5, q6⟩, hT⟩
    rcases q1 b hb with q | q
    · exact Or.inl q
    · exact Or.inr (Nat.le_trans hbl.size q)
  clear hY
  go_enter Tryz.func46, Tryz.ntmps46
  go_wp2_with fail
  go_region_held3 (fun w' => w'.cell? ⟨p, 0, none⟩ = some (.pointer (some ⟨r, 0, none⟩)) ∧ w'.cell? ⟨p, 2, none⟩ = some (.int .i64 S.now))
    (first | exact HC.out _ (by assumption))
    (first
      | (go_at_call 97; refine (hcal _ (by assumption)).mono ?_; rintro e w1 ⟨s, kept, ev, rfl, hP1, ht1⟩))
  obtain ⟨hsz, F', b', c, r1, r2, r3, r4, r5⟩ := hP1
  have HP : Hid ((∀ b, F' b → F b ∨ W.heap.size ≤ b) ∧ Tur F W w1 ∧ EvOf a c ev ∧ PickR nwB S.b k S.now b' s kept c ∧ RepB b' F' r w1) := ⟨r1, r2, r3, r4, r5⟩
  have hei := either_any kept ⟨#[32, 107, 101, 112, 116]⟩ ⟨#[32, 110, 101, 119]⟩ w1
  clear r1 r2 r3 r4 r5 hcal ht0 ht1 c0 c2 hbd HC
  have hadd : (tx s ++ (if kept then tKept else tNew)).length ≤ 1000 := by
    have h5 := hsz
    rw [Lib.size_eq] at h5
    cases kept <;> (rw [List.length_append]; simp only [tx, tKept, tNew] at *; simp; omega)
  obtain ⟨z, hz, hzs, hzz⟩ : ∃ z : ByteArray, (if kept then (⟨#[32, 107, 101, 112, 116]⟩ : ByteArray) else ⟨#[32, 110, 101, 119]⟩) = z ∧ z.size ≤ 10 ∧ tx z = (if kept then tKept else tNew) := by
    cases kept
    · exact ⟨_, rfl, by decide, rfl⟩
    · exact ⟨_, rfl, by decide, rfl⟩
  rw [hz] at hei
  have hsum : ∀ w, (Op.stringOp .add s z).run Tryz.prog w = .ok (.string (s ++ z)) w := fun w => run_string_add_sum w s z (by omega)
  have HR : Hid (s ++ z = bt (tx s ++ (if kept then tKept else tNew))) := by
    show _ = _
    rw [← hzz]
    exact bt_sum s z
  clear hz hzz
  go_wp2_with fail
  refine hei.mono ?_
  rintro e w2 ⟨rfl, rfl⟩
  clear hei
  go_wp2
  go_ret2
  obtain ⟨q1, q2, q3, q4, q5⟩ := HP.out
  exact ⟨F', b', s, kept, c, ev, by rw [HR.out]; rfl, q1, q2, q3, q4, q5⟩
set_option maxHeartbeats 4000000 in
set_option maxRecDepth 100000 in
theorem cl_pick (w0 W : World) (a : Nat → Addr) (p q m : Nat) (F : Nat → Prop) (S : Sc) (r g cap j : Nat) (hP : PlC w0 a p q m F W) (hY : PlY S F p r g cap W) (hS : SB S j) (nb cn k : Nat) (vh : Value) (hk : W.cell? ⟨nb, 0, none⟩ = some (.int .i64 (k : Nat))) (hk9 : k ≤ 9999999) (hnF : ¬ F nb) (hvh : ∃ x n c, vh = .slice x n c) :
    Calls Tryz.prog 45 #[.agg #[.slice (some ⟨nb, 0, none⟩) 1 cn, vh], .pointer (some ⟨q, 0, none⟩)] W (CmdE w0 a p q m F (some S) ⟨wPick, [], [k]⟩ W) := by
  obtain ⟨vx, vl, vc, rfl⟩ := hvh
  have hn := hS.ok.ne
  have hpF : ¬ F p := fun h => (hP.F0 p h).2.1 rfl
  obtain ⟨wa, hwa⟩ : ∃ wa, wa = W.alloc (.cells #[.slice (some ⟨nb, 0, none⟩) 1 cn, .slice vx vl vc] 83) := ⟨_, rfl⟩
  have hba : Below W.heap.size W wa := by rw [hwa]; exact (Below.refl _ _).alloc (Nat.le_refl _) _
  have hPa := hP.later hba
  have hYa := hY.later hpF hn hba
  have HBA : Hid (Below W.heap.size W wa) := hba
  have k0 : wa.cell? ⟨W.heap.size, 0, none⟩ = some (.slice (some ⟨nb, 0, none⟩) 1 cn) := by rw [hwa]; simp
  have k1 : wa.cell? ⟨W.heap.size, 1, none⟩ = some (.slice vx vl vc) := by rw [hwa]; simp
  have kq := hPa.q0
  have c0 := hYa.c0
  have c1 := hYa.c1
  have c2 := hYa.c2
  have hbd : Below wa.heap.size wa wa.drew := below_drewN (Below.refl _ _) 1
  have hlF : ¬ F W.heap.size := fun h => absurd (hY.rep.lt _ h) (Nat.lt_irrefl _)
  have hqF : ¬ F q := fun h => (hP.F0 q h).2.2.1 rfl
  have nk := below_cell hba hk
  have hwr : IntKind.u64.wrap (k : Int) = (k : Int) := by
    rw [IntKind.wrap_u64]
    omega
  have HC : Hid (∀ w', Tur F wa w' → w'.cell? ⟨q, 0, none⟩ = some (.pointer (some ⟨p, 0, none⟩)) ∧ w'.cell? ⟨W.heap.size, 0, none⟩ = some (.slice (some ⟨nb, 0, none⟩) 1 cn) ∧ w'.cell? ⟨nb, 0, none⟩ = some (.int .i64 (k : Nat))) := fun w' hT => ⟨tur_cell hT hqF kq, tur_cell hT hlF k0, tur_cell hT hnF nk⟩
  have ht0 : Tur F wa wa.drew := Tur.of_below hbd
  have hcal : ∀ w', Below wa.heap.size wa w' → Calls Tryz.prog 46 #[.pointer (some ⟨p, 0, none⟩), .int .u64 (k : Nat)] w' fun e w'' => ∃ tv ev, e = .returned (.tuple #[.string tv, ev]) ∧ CmdE w0 a p q m F (some S) ⟨wPick, [], [k]⟩ W (.returned (.tuple #[.string tv, ev])) w'' ∧ Tur F wa w'' := fun w' hbl => (pickP_any a p F S r g cap k w' (hPa.ea.b.later hbl) (hYa.later hpF hn hbl) hpF hS.ok.ok (by omega)).mono fun _ w'' ⟨F', b', s, kept, c, ev, q1, q2, q3, q4, q5, q6⟩ => by
    have hT : Tur F wa w'' := (Tur.of_below hbl).trans q3 fun b hb => Or.inl hb
    obtain ⟨z1, z2, z3, z4⟩ := cmd_turned hP hY hn (below_then hba hbl) q3 q2 q6
    obtain ⟨y7, y9⟩ := pickR_told q5
    exact ⟨_, _, q1, ⟨_, F', _, Or.inr (Or.inr (Or.inr ⟨show wPick ≠ wHosts by decide, show wPick ≠ wJump by decide, S, rfl, Or.inl ⟨_, Or.inl ⟨rfl, k, b', s, kept, c, rfl, q5, rfl, rfl⟩, rfl⟩⟩)), ansE_ev q4 (pickR_c q5) y7 y9 (fun _ => rfl), z1, z2, z3, z4⟩, hT⟩
  clear hP hY hPa hYa hS hba hk hlF hqF hnF c0 c1 c2
  go_enter Tryz.func45, Tryz.ntmps45
  go_wp2_with fail
  rw [← hwa]
  clear hwa
  go_region_held3 (fun w' => w'.cell? ⟨q, 0, none⟩ = some (.pointer (some ⟨p, 0, none⟩)) ∧ w'.cell? ⟨W.heap.size, 0, none⟩ = some (.slice (some ⟨nb, 0, none⟩) 1 cn) ∧ w'.cell? ⟨nb, 0, none⟩ = some (.int .i64 (k : Nat)))
    (first | exact HC.out _ (by assumption))
    (first
      | (go_at_call 46; refine (hcal _ (by assumption)).mono ?_; rintro e w1 ⟨tv, ev, rfl, hE1, ht1⟩))
  have HE1 : Hid (CmdE w0 a p q m F (some S) ⟨wPick, [], [k]⟩ W (.returned (.tuple #[.string tv, ev])) w1) := hE1
  clear hE1 hcal HC
  go_wp2
  go_ret2
  exact HE1.out
end Go.Proofs.YtfhmfjcpggddkaaGreatDoor

/- The landed script: a host looked at, and drained. -/
namespace Go.Proofs.YtfhmfjcpggddkaaGreatDoor
open Go.RowKit Lh

set_option maxHeartbeats 4000000 in
set_option maxRecDepth 100000 in
theorem cl_look (w0 W : World) (a : Nat → Addr) (p q m : Nat) (F : Nat → Prop) (S : Sc) (r g cap j : Nat) (hP : PlC w0 a p q m F W) (hY : PlY S F p r g cap W) (hS : SB S j) (nb cn hb ch k : Nat) (h : ByteArray) (hk : W.cell? ⟨nb, 0, none⟩ = some (.int .i64 (k : Nat))) (hh : W.cell? ⟨hb, 0, none⟩ = some (.string h)) (hnF : ¬ F nb) (hhF : ¬ F hb) :
    Calls Tryz.prog 47 #[.agg #[.slice (some ⟨nb, 0, none⟩) 1 cn, .slice (some ⟨hb, 0, none⟩) 1 ch], .pointer (some ⟨q, 0, none⟩)] W (CmdE w0 a p q m F (some S) ⟨wLook, [h], [k]⟩ W) := by
  have hn := hS.ok.ne
  have hpF : ¬ F p := fun h => (hP.F0 p h).2.1 rfl
  obtain ⟨wa, hwa⟩ : ∃ wa, wa = W.alloc (.cells #[.slice (some ⟨nb, 0, none⟩) 1 cn, .slice (some ⟨hb, 0, none⟩) 1 ch] 83) := ⟨_, rfl⟩
  have hba : Below W.heap.size W wa := by rw [hwa]; exact (Below.refl _ _).alloc (Nat.le_refl _) _
  have hPa := hP.later hba
  have hYa := hY.later hpF hn hba
  have HBA : Hid (Below W.heap.size W wa) := hba
  have k0 : wa.cell? ⟨W.heap.size, 0, none⟩ = some (.slice (some ⟨nb, 0, none⟩) 1 cn) := by rw [hwa]; simp
  have k1 : wa.cell? ⟨W.heap.size, 1, none⟩ = some (.slice (some ⟨hb, 0, none⟩) 1 ch) := by rw [hwa]; simp
  have kq := hPa.q0
  have c0 := hYa.c0
  have c1 := hYa.c1
  have c2 := hYa.c2
  have hbd : Below wa.heap.size wa wa.drew := below_drewN (Below.refl _ _) 1
  have hlF : ¬ F W.heap.size := fun h => absurd (hY.rep.lt _ h) (Nat.lt_irrefl _)
  have hqF : ¬ F q := fun h => (hP.F0 q h).2.2.1 rfl
  have nk := below_cell hba hk
  have nh := below_cell hba hh
  have hk1 : ((k : Int) == 1) = decide (k = 1) := by
    by_cases q : k = 1
    · subst q; rfl
    · rw [decide_eq_false q, beq_eq_false_iff_ne]; omega
  have HC : Hid (∀ w', Tur F wa w' → w'.cell? ⟨q, 0, none⟩ = some (.pointer (some ⟨p, 0, none⟩)) ∧ w'.cell? ⟨p, 0, none⟩ = some (.pointer (some ⟨r, 0, none⟩)) ∧ w'.cell? ⟨W.heap.size, 0, none⟩ = some (.slice (some ⟨nb, 0, none⟩) 1 cn) ∧ w'.cell? ⟨W.heap.size, 1, none⟩ = some (.slice (some ⟨hb, 0, none⟩) 1 ch) ∧ w'.cell? ⟨nb, 0, none⟩ = some (.int .i64 (k : Nat)) ∧ w'.cell? ⟨hb, 0, none⟩ = some (.string h)) := fun w' hT => ⟨tur_cell hT hqF kq, tur_cell hT hpF c0, tur_cell hT hlF k0, tur_cell hT hlF k1, tur_cell hT hnF nk, tur_cell hT hhF nh⟩
  have ht0 : Tur F wa wa.drew := Tur.of_below hbd
  have hcal : ∀ w', Below wa.heap.size wa w' → Calls Tryz.prog 48 #[.pointer (some ⟨r, 0, none⟩), .string h, .bool (decide (k = 1))] w' fun e w'' => ∃ t ev, e = .returned (.tuple #[.bool t, ev]) ∧ CmdE w0 a p q m F (some S) ⟨wLook, [h], [k]⟩ W (.returned (.tuple #[.string (if t then ⟨#[116, 117, 114, 110, 101, 100]⟩ else ⟨#[115, 97, 109, 101]⟩), ev])) w'' ∧ Tur F wa w'' := fun w' hbl => (look_bal a S.b F r h (decide (k = 1)) w' (hPa.ea.b.later hbl) (hYa.later hpF hn hbl).rep hS.ok.ok).mono fun _ w'' ⟨F', b', t, c, ev, q1, q2, q3, q4, q5, q6⟩ => by
    have hT : Tur F wa w'' := (Tur.of_below hbl).trans q2 fun b hb => Or.inl hb
    obtain ⟨z1, z2, z3, z4⟩ := cmd_turned hP hY hn (below_then hba hbl) q2 q1 q6
    have y : c ≠ 7 ∧ c ≠ 9 := by rcases q5 with ⟨_, _, rfl, _⟩ | ⟨_, _, rfl, _⟩ <;> decide
    exact ⟨_, _, q3, ⟨_, F', _, Or.inr (Or.inr (Or.inr ⟨show wLook ≠ wHosts by decide, show wLook ≠ wJump by decide, S, rfl, Or.inl ⟨_, Or.inr (Or.inl ⟨rfl, h, k, b', t, c, rfl, rfl, q5, rfl, rfl⟩), rfl⟩⟩)), ansE_ev q4 (lookR_c q5) y.1 y.2 (fun _ => by cases t <;> rfl), z1, z2, z3, z4⟩, hT⟩
  generalize decide (k = 1) = is1 at *
  clear hP hY hPa hYa hS hba hk hh hlF hqF hnF hhF c1 c2
  go_enter Tryz.func47, Tryz.ntmps47
  go_wp2_with fail
  rw [← hwa]
  clear hwa
  go_region_held3 (fun w' => w'.cell? ⟨q, 0, none⟩ = some (.pointer (some ⟨p, 0, none⟩)) ∧ w'.cell? ⟨p, 0, none⟩ = some (.pointer (some ⟨r, 0, none⟩)) ∧ w'.cell? ⟨W.heap.size, 0, none⟩ = some (.slice (some ⟨nb, 0, none⟩) 1 cn) ∧ w'.cell? ⟨W.heap.size, 1, none⟩ = some (.slice (some ⟨hb, 0, none⟩) 1 ch) ∧ w'.cell? ⟨nb, 0, none⟩ = some (.int .i64 (k : Nat)) ∧ w'.cell? ⟨hb, 0, none⟩ = some (.string h))
    (first | exact HC.out _ (by assumption))
    (first
      | (go_at_call 48; refine (hcal _ (by assumption)).mono ?_; rintro e w1 ⟨t, ev, rfl, hE1, ht1⟩))
  have hei := either_any t ⟨#[116, 117, 114, 110, 101, 100]⟩ ⟨#[115, 97, 109, 101]⟩ w1
  have HE1 : Hid (CmdE w0 a p q m F (some S) ⟨wLook, [h], [k]⟩ W (.returned (.tuple #[.string (if t then ⟨#[116, 117, 114, 110, 101, 100]⟩ else ⟨#[115, 97, 109, 101]⟩), ev])) w1) := hE1
  clear hE1 hcal HC
  generalize (if t then (⟨#[116, 117, 114, 110, 101, 100]⟩ : ByteArray) else ⟨#[115, 97, 109, 101]⟩) = z at *
  go_wp2_with fail
  refine hei.mono ?_
  rintro e w2 ⟨rfl, rfl⟩
  clear hei
  go_wp2
  go_ret2
  exact HE1.out

set_option maxHeartbeats 4000000 in
set_option maxRecDepth 100000 in
theorem cl_drain (w0 W : World) (a : Nat → Addr) (p q m : Nat) (F : Nat → Prop) (S : Sc) (r g cap j : Nat) (hP : PlC w0 a p q m F W) (hY : PlY S F p r g cap W) (hS : SB S j) (nb cn hb ch k : Nat) (h : ByteArray) (hk : W.cell? ⟨nb, 0, none⟩ = some (.int .i64 (k : Nat))) (hh : W.cell? ⟨hb, 0, none⟩ = some (.string h)) (hnF : ¬ F nb) (hhF : ¬ F hb) :
    Calls Tryz.prog 50 #[.agg #[.slice (some ⟨nb, 0, none⟩) 1 cn, .slice (some ⟨hb, 0, none⟩) 1 ch], .pointer (some ⟨q, 0, none⟩)] W (CmdE w0 a p q m F (some S) ⟨wDrain, [h], [k]⟩ W) := by
  have hn := hS.ok.ne
  have hpF : ¬ F p := fun h => (hP.F0 p h).2.1 rfl
  obtain ⟨wa, hwa⟩ : ∃ wa, wa = W.alloc (.cells #[.slice (some ⟨nb, 0, none⟩) 1 cn, .slice (some ⟨hb, 0, none⟩) 1 ch] 83) := ⟨_, rfl⟩
  have hba : Below W.heap.size W wa := by rw [hwa]; exact (Below.refl _ _).alloc (Nat.le_refl _) _
  have hPa := hP.later hba
  have hYa := hY.later hpF hn hba
  have HBA : Hid (Below W.heap.size W wa) := hba
  have k0 : wa.cell? ⟨W.heap.size, 0, none⟩ = some (.slice (some ⟨nb, 0, none⟩) 1 cn) := by rw [hwa]; simp
  have k1 : wa.cell? ⟨W.heap.size, 1, none⟩ = some (.slice (some ⟨hb, 0, none⟩) 1 ch) := by rw [hwa]; simp
  have kq := hPa.q0
  have c0 := hYa.c0
  have c1 := hYa.c1
  have c2 := hYa.c2
  have hbd : Below wa.heap.size wa wa.drew := below_drewN (Below.refl _ _) 1
  have hlF : ¬ F W.heap.size := fun h => absurd (hY.rep.lt _ h) (Nat.lt_irrefl _)
  have hqF : ¬ F q := fun h => (hP.F0 q h).2.2.1 rfl
  have nk := below_cell hba hk
  have nh := below_cell hba hh
  have hk1 : ((k : Int) == 1) = decide (k = 1) := by
    by_cases q : k = 1
    · subst q; rfl
    · rw [decide_eq_false q, beq_eq_false_iff_ne]; omega
  have HC : Hid (∀ w', Tur F wa w' → w'.cell? ⟨q, 0, none⟩ = some (.pointer (some ⟨p, 0, none⟩)) ∧ w'.cell? ⟨p, 0, none⟩ = some (.pointer (some ⟨r, 0, none⟩)) ∧ w'.cell? ⟨W.heap.size, 0, none⟩ = some (.slice (some ⟨nb, 0, none⟩) 1 cn) ∧ w'.cell? ⟨W.heap.size, 1, none⟩ = some (.slice (some ⟨hb, 0, none⟩) 1 ch) ∧ w'.cell? ⟨nb, 0, none⟩ = some (.int .i64 (k : Nat)) ∧ w'.cell? ⟨hb, 0, none⟩ = some (.string h)) := fun w' hT => ⟨tur_cell hT hqF kq, tur_cell hT hpF c0, tur_cell hT hlF k0, tur_cell hT hlF k1, tur_cell hT hnF nk, tur_cell hT hhF nh⟩
  have ht0 : Tur F wa wa.drew := Tur.of_below hbd
  have hcal : ∀ w', Below wa.heap.size wa w' → Calls Tryz.prog 51 #[.pointer (some ⟨r, 0, none⟩), .string h, .bool (decide (k = 1))] w' fun e w'' => ∃ ev, e = .returned ev ∧ CmdE w0 a p q m F (some S) ⟨wDrain, [h], [k]⟩ W (.returned (.tuple #[.string ⟨#[111, 107]⟩, ev])) w'' ∧ Tur F wa w'' := fun w' hbl => (drain_bal a S.b F r h (decide (k = 1)) w' (hPa.ea.b.later hbl) (hYa.later hpF hn hbl).rep hS.ok.ok).mono fun _ w'' ⟨F', b', c, ev, q1, q2, q3, q4, q5, q6⟩ => by
    have hT : Tur F wa w'' := (Tur.of_below hbl).trans q2 fun b hb => Or.inl hb
    obtain ⟨z1, z2, z3, z4⟩ := cmd_turned hP hY hn (below_then hba hbl) q2 q1 q6
    have y : c ≠ 7 ∧ c ≠ 9 := by rcases q5 with ⟨_, rfl, _⟩ | ⟨_, rfl, _⟩ <;> decide
    exact ⟨_, q3, ⟨_, F', _, Or.inr (Or.inr (Or.inr ⟨show wDrain ≠ wHosts by decide, show wDrain ≠ wJump by decide, S, rfl, Or.inl ⟨_, Or.inr (Or.inr (Or.inl ⟨rfl, h, k, b', c, rfl, rfl, q5, rfl, rfl⟩)), rfl⟩⟩)), ansE_ev q4 (drainR_c q5) y.1 y.2 (fun _ => rfl), z1, z2, z3, z4⟩, hT⟩
  generalize decide (k = 1) = is1 at *
  clear hP hY hPa hYa hS hba hk hh hlF hqF hnF hhF c1 c2
  go_enter Tryz.func50, Tryz.ntmps50
  go_wp2_with fail
  rw [← hwa]
  clear hwa
  go_region_held3 (fun w' => w'.cell? ⟨q, 0, none⟩ = some (.pointer (some ⟨p, 0, none⟩)) ∧ w'.cell? ⟨p, 0, none⟩ = some (.pointer (some ⟨r, 0, none⟩)) ∧ w'.cell? ⟨W.heap.size, 0, none⟩ = some (.slice (some ⟨nb, 0, none⟩) 1 cn) ∧ w'.cell? ⟨W.heap.size, 1, none⟩ = some (.slice (some ⟨hb, 0, none⟩) 1 ch) ∧ w'.cell? ⟨nb, 0, none⟩ = some (.int .i64 (k : Nat)) ∧ w'.cell? ⟨hb, 0, none⟩ = some (.string h))
    (first | exact HC.out _ (by assumption))
    (first
      | (go_at_call 51; refine (hcal _ (by assumption)).mono ?_; rintro e w1 ⟨ev, rfl, hE1, ht1⟩))
  have HE1 : Hid (CmdE w0 a p q m F (some S) ⟨wDrain, [h], [k]⟩ W (.returned (.tuple #[.string ⟨#[111, 107]⟩, ev])) w1) := hE1
  clear hE1 hcal HC
  go_wp2
  go_ret2
  exact HE1.out
end Go.Proofs.YtfhmfjcpggddkaaGreatDoor
