/- The law's model of a script: a table. -/
import Derived.Test.YtfhmfjcpggddkaaGreatDoorM32
import Derived.Test.YtfhmfjcpggddkaaGreatDoorM16
import Derived.Test.YtfhmfjcpggddkaaGreatDoorM15
import Derived.Deep.RegionLaw
namespace Go.Proofs.YtfhmfjcpggddkaaGreatDoor
open Go.RowKit Lh

/-- 'out = append(out, s)' of a row of texts of one's own, in a region that draws. -/
theorem step_append_tx {ops : Array Oper} {o : Oper} {a : Act} {K : Act → World → Prop} {Q : Exit → Act → World → Prop} {E : Prop} {W : World} (w2 : World) (s : ByteArray) (base : Nat) (hgd : o.guard = none) (so xo : Operand)
    (ho : o.op = .call { callee := .builtin .append, args := #[so, xo], argTypes := #[22, 22] }) (hW : W = w2.alloc (.cells #[.string s] 9))
    (v : Value) (ls : List ByteArray) (n : Nat) (hn : ls.length = n) (hs : a.eval so = v) (hx : a.eval xo = .slice (some ⟨w2.heap.size, 0, none⟩) 1 1) (hown : w2.ownsRow base 9 1 v n (ls.map Value.string)) (hl : n ≤ 100000) (hd : base ≤ w2.heap.size)
    (h : ∀ g cap w', w'.ownsRow base 9 1 (.slice (some ⟨g, 0, none⟩) (n + 1) cap) (n + 1) ((ls ++ [s]).map Value.string) → W.grownBy w' v.ownBlock → (v.ownBlock = some g ∨ g = w2.heap.size + 1) → K (a.put o.dst (.slice (some ⟨g, 0, none⟩) (n + 1) cap)) w') :
    if Region.wanted o (yielded ops a.tmps) = true then Oper.wp Tryz.prog o a W K Q else E := by
  subst hn
  obtain ⟨i, hi, hz0, hz1, hz2⟩ := info_parts infoS
  have hsz : W.heap.size = w2.heap.size + 1 := by rw [hW]; simp
  have hnews : ∀ j u, [Value.string s][j]? = some u → W.cell? ((⟨w2.heap.size, 0, none⟩ : Addr).add j) = some u := fun j u hu => by
    match j with
    | 0 => simp at hu; subst hu; rw [hW]; simp [Addr.add]
    | j + 1 => simp at hu
  refine step_append_lies W hgd so xo 22 ho base 9 i _ 1 16 Tryz.underlying22 hi hz0 hz1 hz2 rfl (by decide) v ls.length (ls.map Value.string) hs (by rw [hW]; exact hown.alloc _) ⟨w2.heap.size, 0, none⟩ 1 1 [.string s] hx rfl hnews (fun u hu => by simp at hu; subst hu; rfl) (by decide) (by unfold maxLen; omega) (by omega) (by omega) (w2.heap.size + 1) hsz ?_
  intro g cp w1 hown1 hgr hat _
  exact h g cp w1 (by rw [List.map_append]; exact hown1) hgr hat
/-- the names of a table's slots -/
def slotsT (xs : List ByteArray) (n : Nat) : List ByteArray := (tab xs n n).map fun i => nameAt xs i.toNat
theorem slotsT_tx (xs : List ByteArray) (n : Nat) : (slotsT xs n).map tx = (tab xs n n).map fun i => tx (nameAt xs i.toNat) := by simp [slotsT]
theorem slotsT_len (xs : List ByteArray) (n : Nat) : (slotsT xs n).length = n := by simp [slotsT, tab_length]
theorem slotsT_get {xs : List ByteArray} {n j k : Nat} (hk : k < (slotsT xs n).length) (hj : j < xs.length) (h : (tab xs n n).getD k 0 = (j : Nat)) : (slotsT xs n)[k] = xs[j] := by
  have hk' : k < (tab xs n n).length := by simpa [slotsT] using hk
  have h1 : (tab xs n n)[k] = (j : Nat) := by
    rw [List.getD_eq_getElem?_getD, List.getElem?_eq_getElem hk', Option.getD_some] at h
    exact h
  simp only [slotsT, List.getElem_map, h1]
  rw [← nameAt_lt hj]
  rfl
set_option maxRecDepth 100000 in
set_option maxHeartbeats 2000000 in
theorem asked_table1 (m b o c : Nat) (xs : List ByteArray) (w : ByteArray) (hp : Option Addr) (hn hc nb no nc : Nat) (n : Nat) (W : World) (hH : Hst W m b o c xs) (hw : tx w = wTable) (hk : W.cell? ⟨nb, no, none⟩ = some (.int .i64 (n : Nat))) (hn7 : n ≤ 9999999)
    (e : Nat) (pl : Int) (hf : TabFault xs (n : Nat) e pl) (h1 : e ≠ 0) (h9 : e ≤ 9) :
    Calls Tryz.prog 30 #[.pointer (some ⟨m, 0, none⟩), .agg #[.string w, .slice hp hn hc, .slice (some ⟨nb, no, none⟩) 1 nc]] W fun r w' => r = .returned (.string (bt (errT e))) ∧ Below W.heap.size W w' := by
  have q1 := word_is (s := w) (w := wTable) hw
  unfold wTable at q1
  clear hw
  obtain ⟨wa, hwa⟩ : ∃ wa, wa = W.alloc (.cells #[.string w, .slice hp hn hc, .slice (some ⟨nb, no, none⟩) 1 nc] 36) := ⟨_, rfl⟩
  have hba : Below W.heap.size W wa := by rw [hwa]; exact (Below.refl _ _).alloc (Nat.le_refl _) _
  have k0 : wa.cell? ⟨W.heap.size, 0, none⟩ = some (.string w) := by rw [hwa]; simp
  have k2 : wa.cell? ⟨W.heap.size, 2, none⟩ = some (.slice (some ⟨nb, no, none⟩) 1 nc) := by rw [hwa]; simp
  have hka := below_cell hba hk
  have hH' := hH.later hba
  have hm1 := hH'.cell
  have HBA : Hid (Below W.heap.size W wa) := hba
  have HC : Hid (∀ w', Below wa.heap.size wa w' → w'.cell? ⟨m, 1, none⟩ = some (.slice (some ⟨b, o, none⟩) xs.length c) ∧ w'.cell? ⟨W.heap.size, 2, none⟩ = some (.slice (some ⟨nb, no, none⟩) 1 nc) ∧ w'.cell? ⟨nb, no, none⟩ = some (.int .i64 (n : Nat))) := fun w' hb => ⟨below_cell hb hm1, below_cell hb k2, below_cell hb hka⟩
  have hb0 : Below wa.heap.size wa wa.drew := below_drewN (Below.refl _ _) 1
  have HH : Hid (Hst wa m b o c xs) := hH'
  have hcal : ∀ w', Below wa.heap.size wa w' → Calls Tryz.prog 66 #[.slice (some ⟨b, o, none⟩) xs.length c, .int .i64 (n : Nat)] w' fun r w'' => r = .returned (.agg #[.int .i64 (e : Nat), .int .i64 pl]) ∧ Below w'.heap.size w' w'' ∧ Below wa.heap.size wa w'' := fun w' hb => (tableFault_any _ xs (n : Nat) w' e pl ((HH.out.later hb).strs) hf (by omega) HH.out.sBig (by have := HH.out.le; omega)).mono fun _ _ ⟨r1, r2⟩ => ⟨r1, r2, below_then hb r2⟩
  have d0 : 0 < e := by omega
  have HET : Hid (∀ w', Calls Tryz.prog 10 #[.int .i64 (e : Nat)] w' fun r w'' => r = .returned (.string (bt (errT e))) ∧ Below w'.heap.size w' w'') := fun w' => errorText_any e (by omega) h9 w'
  generalize bt (errT e) = et at *
  clear hH hH' hba hk hf h1 h9
  go_enter Tryz.func30, Tryz.ntmps30
  go_wp2_with fail
  rw [← hwa]
  clear hwa
  go_region_held3 (fun w' => w'.cell? ⟨m, 1, none⟩ = some (.slice (some ⟨b, o, none⟩) xs.length c) ∧ w'.cell? ⟨W.heap.size, 2, none⟩ = some (.slice (some ⟨nb, no, none⟩) 1 nc) ∧ w'.cell? ⟨nb, no, none⟩ = some (.int .i64 (n : Nat)))
    (first | exact HC.out _ (by first | assumption | exact below_al (by assumption) _ | exact below_ald _ | exact ((by assumption : Below wa.heap.size wa w1).setCell (Nat.le_refl _) _).setCell (Nat.le_refl _) _))
    (first
      | (go_at_call 66; refine (hcal _ (by first | assumption | exact below_ald _)).mono ?_; rintro e w1 ⟨rfl, hb1, hb1'⟩; try (have hcf := al_cells hb1; obtain ⟨c0, c1, f0, f1⟩ := hcf)))
  · have kf : (w1.alloc (.cells #[.int .i64 (e : Nat), .int .i64 pl] 59)).cell? ⟨w1.heap.size, 0, none⟩ = some (.int .i64 (e : Nat)) := by simp
    have hb2 := below_al hb1' (.cells #[.int .i64 (e : Nat), .int .i64 pl] 59)
    generalize (w1.alloc (.cells #[.int .i64 (e : Nat), .int .i64 pl] 59)) = w2 at *
    have HB2 : Hid (Below wa.heap.size wa w2) := hb2
    have het := HET.out w2
    clear hb1 hb1' hb2 hb0 hcal
    go_wp2_with fail
    refine het.mono ?_
    rintro r w3 ⟨rfl, hb3⟩
    clear het
    go_wp2
    go_ret
    exact ⟨rfl, below_then HBA.out (below_then HB2.out hb3)⟩
  · have kf : ((w1.setCell ⟨wa.heap.size, 0, none⟩ (.int .i64 (e : Nat))).setCell ⟨wa.heap.size, 1, none⟩ (.int .i64 pl)).cell? ⟨wa.heap.size, 0, none⟩ = some (.int .i64 (e : Nat)) := by simp [go_sem, c0]
    have hb2 : Below wa.heap.size wa ((w1.setCell ⟨wa.heap.size, 0, none⟩ (.int .i64 (e : Nat))).setCell ⟨wa.heap.size, 1, none⟩ (.int .i64 pl)) := (hb1'.setCell (Nat.le_refl _) _).setCell (Nat.le_refl _) _
    generalize ((w1.setCell ⟨wa.heap.size, 0, none⟩ (.int .i64 (e : Nat))).setCell ⟨wa.heap.size, 1, none⟩ (.int .i64 pl)) = w2 at *
    have HB2 : Hid (Below wa.heap.size wa w2) := hb2
    have het := HET.out w2
    clear hb1 hb1' hb2 hb0 hcal
    go_wp2_with fail
    refine het.mono ?_
    rintro r w3 ⟨rfl, hb3⟩
    clear het
    go_wp2
    go_ret
    exact ⟨rfl, below_then HBA.out (below_then HB2.out hb3)⟩
/-- what a loop over a table has made -/
structure TabL (wa W : World) (v : Value) (k : Nat) (ns : List ByteArray) : Prop where
  b : Below wa.heap.size wa W
  own : W.ownsRow wa.heap.size 9 1 v k ((ns.take k).map Value.string)
set_option maxRecDepth 100000 in
set_option maxHeartbeats 4000000 in
theorem asked_table2 (m b o c : Nat) (xs : List ByteArray) (w : ByteArray) (hp : Option Addr) (hn hc nb no nc : Nat) (n : Nat) (W : World) (hH : Hst W m b o c xs) (hw : tx w = wTable) (hk : W.cell? ⟨nb, no, none⟩ = some (.int .i64 (n : Nat)))
    (hf : TabFault xs (n : Nat) 0 (-1)) :
    Calls Tryz.prog 30 #[.pointer (some ⟨m, 0, none⟩), .agg #[.string w, .slice hp hn hc, .slice (some ⟨nb, no, none⟩) 1 nc]] W fun r w' => r = .returned (.string (bt (joinL 32 ((tab xs n n).map fun i => tx (nameAt xs i.toNat))))) ∧ Below W.heap.size W w' := by
  obtain ⟨hpr, h5⟩ : Prm n ∧ n ≤ 503 := by
    rcases hf with ⟨_, q, _⟩ | ⟨_, _, q⟩ | ⟨_, _, q, _⟩
    · cases q
    · exact absurd rfl q
    · rcases q with ⟨_, q⟩ | ⟨k, hk, _, h5, ⟨_, q⟩ | ⟨q, _⟩⟩
      · cases q
      · cases q
      · have : n = k := by omega
        subst this
        exact ⟨q, h5⟩
  have h2 : 2 ≤ n := hpr.1
  have q1 := word_is (s := w) (w := wTable) hw
  unfold wTable at q1
  clear hw
  obtain ⟨wa, hwa⟩ : ∃ wa, wa = W.alloc (.cells #[.string w, .slice hp hn hc, .slice (some ⟨nb, no, none⟩) 1 nc] 36) := ⟨_, rfl⟩
  have hba : Below W.heap.size W wa := by rw [hwa]; exact (Below.refl _ _).alloc (Nat.le_refl _) _
  have k0 : wa.cell? ⟨W.heap.size, 0, none⟩ = some (.string w) := by rw [hwa]; simp
  have k2 : wa.cell? ⟨W.heap.size, 2, none⟩ = some (.slice (some ⟨nb, no, none⟩) 1 nc) := by rw [hwa]; simp
  have hka := below_cell hba hk
  have hH' := hH.later hba
  have hm1 := hH'.cell
  have HBA : Hid (Below W.heap.size W wa) := hba
  have HC : Hid (∀ w', Below wa.heap.size wa w' → w'.cell? ⟨m, 1, none⟩ = some (.slice (some ⟨b, o, none⟩) xs.length c) ∧ w'.cell? ⟨W.heap.size, 2, none⟩ = some (.slice (some ⟨nb, no, none⟩) 1 nc) ∧ w'.cell? ⟨nb, no, none⟩ = some (.int .i64 (n : Nat))) := fun w' hb => ⟨below_cell hb hm1, below_cell hb k2, below_cell hb hka⟩
  have hb0 : Below wa.heap.size wa wa.drew := below_drewN (Below.refl _ _) 1
  have HH : Hid (Hst wa m b o c xs) := hH'
  have hpos := hH'.pos
  have hcal : ∀ w', Below wa.heap.size wa w' → Calls Tryz.prog 66 #[.slice (some ⟨b, o, none⟩) xs.length c, .int .i64 (n : Nat)] w' fun r w'' => r = .returned (.agg #[.int .i64 0, .int .i64 (-1)]) ∧ Below w'.heap.size w' w'' ∧ Below wa.heap.size wa w'' := fun w' hb => (tableFault_any _ xs (n : Nat) w' 0 (-1) ((HH.out.later hb).strs) hf (by omega) HH.out.sBig (by have := HH.out.le; omega)).mono fun _ _ ⟨r1, r2⟩ => ⟨r1, r2, below_then hb r2⟩
  have HTO : Hid (∀ w', Below wa.heap.size wa w' → Calls Tryz.prog 74 #[.slice (some ⟨b, o, none⟩) xs.length c, .int .i64 (n : Nat)] w' fun r w'' => ∃ g, r = .returned (.slice (some ⟨g, 0, none⟩) n n) ∧ (∀ k, k < n → ∃ j, ∃ hj : j < xs.length, w''.cell? ⟨g, k, none⟩ = some (.int .i64 (j : Nat)) ∧ ∀ h : k < (slotsT xs n).length, (slotsT xs n)[k] = xs[j]) ∧ Below wa.heap.size wa w'') := fun w' hb => (tableOf_any b o c xs n w' (HH.out.later hb).at_ HH.out.pos HH.out.le HH.out.s300 HH.out.cap hpr h5).mono fun _ _ ⟨g, r1, _, r3, r4⟩ => ⟨g, r1, fun k hk => by
    obtain ⟨j, hj, e⟩ := tab_full hpr hpos hk
    refine ⟨j, hj, ?_, fun h => slotsT_get h hj e⟩
    have hkl : k < (tab xs n n).length := by rw [tab_length]; exact hk
    have := r3.cell (k := k) hkl
    rw [List.getD_eq_getElem?_getD, List.getElem?_eq_getElem hkl, Option.getD_some] at e
    rw [this, e], below_then hb r4⟩
  have HHX : Hid (∀ w', Below wa.heap.size wa w' → ∀ k (h : k < xs.length), w'.cell? ⟨b, o + k, none⟩ = some (.string xs[k])) := fun w' hb => (HH.out.later hb).at_
  have HJ : Hid (∀ w' v, Strs1 w' v (slotsT xs n) → Calls Tryz.prog 27 #[v, .string ⟨#[32]⟩] w' fun r w'' => r = .returned (.string (bt (joinL 32 ((tab xs n n).map fun i => tx (nameAt xs i.toNat))))) ∧ Below w'.heap.size w' w'') := fun w' v hv => by
    have e : joinL 32 ((tab xs n n).map fun i => tx (nameAt xs i.toNat)) = joinedS (tx ⟨#[32]⟩) ((slotsT xs n).map tx) := by
      rw [slotsT_tx, joinL_joinS]
      unfold joinedS
      rw [if_neg]
      · rfl
      · intro e
        have h1 := congrArg List.length e
        rw [List.length_map, tab_length, List.length_nil] at h1
        omega
    rw [e]
    refine joined_any v (slotsT xs n) ⟨#[32]⟩ w' hv (by rw [slotsT_len]; omega) (fun s hs => ?_) (by decide)
    obtain ⟨k, hk, rfl⟩ := List.getElem_of_mem hs
    obtain ⟨j, hj, e⟩ := tab_full hpr hpos (show k < n by rw [slotsT_len] at hk; exact hk)
    rw [slotsT_get hk hj e]
    have := HH.out.sz _ (List.getElem_mem hj)
    omega
  have HNL : Hid ((slotsT xs n).length = n) := slotsT_len xs n
  generalize bt (joinL 32 ((tab xs n n).map fun i => tx (nameAt xs i.toNat))) = ans at *
  generalize slotsT xs n = ns at *
  clear hH hH' hba hk hf hpr
  go_enter Tryz.func30, Tryz.ntmps30
  go_wp2_with fail
  rw [← hwa]
  clear hwa
  go_region_held3 (fun w' => w'.cell? ⟨m, 1, none⟩ = some (.slice (some ⟨b, o, none⟩) xs.length c) ∧ w'.cell? ⟨W.heap.size, 2, none⟩ = some (.slice (some ⟨nb, no, none⟩) 1 nc) ∧ w'.cell? ⟨nb, no, none⟩ = some (.int .i64 (n : Nat)))
    (first | exact HC.out _ (by first | assumption | exact below_al (by assumption) _ | exact below_ald _ | exact ((by assumption : Below wa.heap.size wa w1).setCell (Nat.le_refl _) _).setCell (Nat.le_refl _) _))
    (first
      | (go_at_call 66; refine (hcal _ (by first | assumption | exact below_ald _)).mono ?_; rintro e w1 ⟨rfl, hb1, hb1'⟩; try (have hcf := al_cells hb1; obtain ⟨c0, c1, f0, f1⟩ := hcf)))
  rotate_left
  · have kf : ((w1.setCell ⟨wa.heap.size, 0, none⟩ (.int .i64 0)).setCell ⟨wa.heap.size, 1, none⟩ (.int .i64 (-1))).cell? ⟨wa.heap.size, 0, none⟩ = some (.int .i64 0) := by simp [go_sem, c0]
    have hb2 : Below wa.heap.size wa ((w1.setCell ⟨wa.heap.size, 0, none⟩ (.int .i64 0)).setCell ⟨wa.heap.size, 1, none⟩ (.int .i64 (-1))) := (hb1'.setCell (Nat.le_refl _) _).setCell (Nat.le_refl _) _
    generalize ((w1.setCell ⟨wa.heap.size, 0, none⟩ (.int .i64 0)).setCell ⟨wa.heap.size, 1, none⟩ (.int .i64 (-1))) = w2 at *
    have HB2 : Hid (Below wa.heap.size wa w2) := hb2
    obtain ⟨j1, j2, j3⟩ := HC.out w2 hb2
    have hb2d : Below wa.heap.size wa w2.drew := below_drewN hb2 1
    clear hb1 hb1' hb2 hb0 k0 k2 hka hm1 hcal
    go_wp2_with fail
    go_region_held3 (fun w' => w'.cell? ⟨m, 1, none⟩ = some (.slice (some ⟨b, o, none⟩) xs.length c) ∧ w'.cell? ⟨W.heap.size, 2, none⟩ = some (.slice (some ⟨nb, no, none⟩) 1 nc) ∧ w'.cell? ⟨nb, no, none⟩ = some (.int .i64 (n : Nat)))
      (first | exact HC.out _ (by assumption))
      (first
        | (go_at_call 74; refine (HTO.out _ (by assumption)).mono ?_; rintro r w3 ⟨g, rfl, hrow, hb3⟩))
    have HB3 : Hid (Below wa.heap.size wa w3) := hb3
    have HROW : Hid (∀ k, k < n → ∃ j, ∃ hj : j < xs.length, w3.cell? ⟨g, k, none⟩ = some (.int .i64 (j : Nat)) ∧ ∀ h : k < ns.length, ns[k] = xs[j]) := hrow
    have hb3d : Below w3.heap.size w3 w3 := Below.refl _ _
    clear hb3 hrow kf j1 j2 j3 hb2d
    go_wp2_with fail
    go_loopw [7, 8] (fun u7 u8 W' => ∃ k : Nat, k ≤ n ∧ u8 = .int .i64 (k : Nat) ∧ TabL w3 W' u7 k ns) (fun _ u8 _ => n - (intOf u8).toNat)
    case atStart => exact ⟨0, Nat.zero_le _, rfl, Below.refl _ _, by rw [List.take_zero]; exact owns_nil _ _ _⟩
    case round =>
      obtain ⟨k, hk, rfl, hT⟩ := hrel
      have HT : Hid (TabL w3 wr u7 k ns) := hT
      have hbwr := below_then HB3.out hT.b
      have hbd : w3.heap.size ≤ wr.heap.size := hT.b.size
      by_cases hlt : k < n
      · obtain ⟨j, hj, ct, hnm⟩ := HROW.out k hlt
        have hki : (k : Int) < (n : Int) := by omega
        have hji : (j : Int) < (xs.length : Int) := by omega
        have ct' := below_cell hT.b ct
        have cm' := (HC.out _ hbwr).1
        have cx' := HHX.out _ hbwr j hj
        have hkl : k < ns.length := by rw [HNL.out]; exact hlt
        have HNM : Hid (ns[k]'hkl = xs[j]) := hnm hkl
        have HTK : Hid ((ns.take k).length = k) := by show _ = _; rw [List.length_take, HNL.out]; omega
        have hlen : k ≤ 100000 := by omega
        have hnk := HTK.out
        have hown := hT.own
        obtain ⟨lp, lc, rfl⟩ : ∃ lp lc, u7 = .slice lp k lc := by
          rcases hown.2 with ⟨rfl, hz⟩ | ⟨q, cap, cur, rfl, _⟩
          · exact ⟨none, 0, by rw [hz]⟩
          · exact ⟨_, _, rfl⟩
        have own1 : wr.drew.ownsRow w3.heap.size 9 1 (.slice lp k lc) k ((ns.take k).map Value.string) := hown
        have HO1 : Hid (wr.drew.ownsRow w3.heap.size 9 1 (.slice lp k lc) k ((ns.take k).map Value.string)) := own1
        have hbd' : w3.heap.size ≤ wr.drew.heap.size := hbd
        generalize xs[j]'hj = s at *
        clear hT hown own1 ct hnm hbd
        go_wp2_with fail
        go_region_law (first
          | (refine step_append_tx wr.drew s w3.heap.size rfl _ _ rfl rfl (.slice lp k lc) (ns.take k) k hnk rfl rfl HO1.out hlen hbd' ?_
             intro g5 cp w5 hown5 hgr5 hor5))
        all_goals
          go_wp2
          refine ⟨⟨k + 1, by omega, by go_num, ?_, ?_⟩, by simp [intOf]; omega⟩
          · exact (HT.out.b.trans (below_drewN ((Below.refl _ _).alloc HT.out.b.size _) 1)).grown hgr5 (Nat.le_trans hbd' (by simp)) fun q hq => (HO1.out.lt q hq).1
          · rw [List.take_succ_eq_append_getElem hkl, HNM.out]
            exact hown5
      · obtain rfl : k = n := by omega
        have hd8 : decide ((k : Int) < (k : Int)) = false := by simp
        have hst : Strs1 wr u7 ns := by
          have := hT.own
          rw [List.take_of_length_le (by rw [HNL.out]; exact Nat.le_refl _), ← HNL.out] at this
          exact strs_of_owns this
        obtain ⟨lp, lc, hu, _⟩ := strs1_sl hst
        rw [HNL.out] at hu
        subst hu
        have hjo := HJ.out wr _ hst
        have HBW : Hid (Below wa.heap.size wa wr) := hbwr
        clear hT hst hbwr
        go_wp2_with fail
        refine hjo.mono ?_
        rintro r w6 ⟨rfl, hb6⟩
        clear hjo
        go_wp2
        go_ret
        exact ⟨rfl, below_then HBA.out (below_then HBW.out hb6)⟩
  · have kf : (w1.alloc (.cells #[.int .i64 0, .int .i64 (-1)] 59)).cell? ⟨w1.heap.size, 0, none⟩ = some (.int .i64 0) := by simp
    have hb2 := below_al hb1' (.cells #[.int .i64 0, .int .i64 (-1)] 59)
    generalize (w1.alloc (.cells #[.int .i64 0, .int .i64 (-1)] 59)) = w2 at *
    have HB2 : Hid (Below wa.heap.size wa w2) := hb2
    obtain ⟨j1, j2, j3⟩ := HC.out w2 hb2
    have hb2d : Below wa.heap.size wa w2.drew := below_drewN hb2 1
    clear hb1 hb1' hb2 hb0 k0 k2 hka hm1 hcal
    go_wp2_with fail
    go_region_held3 (fun w' => w'.cell? ⟨m, 1, none⟩ = some (.slice (some ⟨b, o, none⟩) xs.length c) ∧ w'.cell? ⟨W.heap.size, 2, none⟩ = some (.slice (some ⟨nb, no, none⟩) 1 nc) ∧ w'.cell? ⟨nb, no, none⟩ = some (.int .i64 (n : Nat)))
      (first | exact HC.out _ (by assumption))
      (first
        | (go_at_call 74; refine (HTO.out _ (by assumption)).mono ?_; rintro r w3 ⟨g, rfl, hrow, hb3⟩))
    have HB3 : Hid (Below wa.heap.size wa w3) := hb3
    have HROW : Hid (∀ k, k < n → ∃ j, ∃ hj : j < xs.length, w3.cell? ⟨g, k, none⟩ = some (.int .i64 (j : Nat)) ∧ ∀ h : k < ns.length, ns[k] = xs[j]) := hrow
    have hb3d : Below w3.heap.size w3 w3 := Below.refl _ _
    clear hb3 hrow kf j1 j2 j3 hb2d
    go_wp2_with fail
    go_loopw [7, 8] (fun u7 u8 W' => ∃ k : Nat, k ≤ n ∧ u8 = .int .i64 (k : Nat) ∧ TabL w3 W' u7 k ns) (fun _ u8 _ => n - (intOf u8).toNat)
    case atStart => exact ⟨0, Nat.zero_le _, rfl, Below.refl _ _, by rw [List.take_zero]; exact owns_nil _ _ _⟩
    case round =>
      obtain ⟨k, hk, rfl, hT⟩ := hrel
      have HT : Hid (TabL w3 wr u7 k ns) := hT
      have hbwr := below_then HB3.out hT.b
      have hbd : w3.heap.size ≤ wr.heap.size := hT.b.size
      by_cases hlt : k < n
      · obtain ⟨j, hj, ct, hnm⟩ := HROW.out k hlt
        have hki : (k : Int) < (n : Int) := by omega
        have hji : (j : Int) < (xs.length : Int) := by omega
        have ct' := below_cell hT.b ct
        have cm' := (HC.out _ hbwr).1
        have cx' := HHX.out _ hbwr j hj
        have hkl : k < ns.length := by rw [HNL.out]; exact hlt
        have HNM : Hid (ns[k]'hkl = xs[j]) := hnm hkl
        have HTK : Hid ((ns.take k).length = k) := by show _ = _; rw [List.length_take, HNL.out]; omega
        have hlen : k ≤ 100000 := by omega
        have hnk := HTK.out
        have hown := hT.own
        obtain ⟨lp, lc, rfl⟩ : ∃ lp lc, u7 = .slice lp k lc := by
          rcases hown.2 with ⟨rfl, hz⟩ | ⟨q, cap, cur, rfl, _⟩
          · exact ⟨none, 0, by rw [hz]⟩
          · exact ⟨_, _, rfl⟩
        have own1 : wr.drew.ownsRow w3.heap.size 9 1 (.slice lp k lc) k ((ns.take k).map Value.string) := hown
        have HO1 : Hid (wr.drew.ownsRow w3.heap.size 9 1 (.slice lp k lc) k ((ns.take k).map Value.string)) := own1
        have hbd' : w3.heap.size ≤ wr.drew.heap.size := hbd
        generalize xs[j]'hj = s at *
        clear hT hown own1 ct hnm hbd
        go_wp2_with fail
        go_region_law (first
          | (refine step_append_tx wr.drew s w3.heap.size rfl _ _ rfl rfl (.slice lp k lc) (ns.take k) k hnk rfl rfl HO1.out hlen hbd' ?_
             intro g5 cp w5 hown5 hgr5 hor5))
        all_goals
          go_wp2
          refine ⟨⟨k + 1, by omega, by go_num, ?_, ?_⟩, by simp [intOf]; omega⟩
          · exact (HT.out.b.trans (below_drewN ((Below.refl _ _).alloc HT.out.b.size _) 1)).grown hgr5 (Nat.le_trans hbd' (by simp)) fun q hq => (HO1.out.lt q hq).1
          · rw [List.take_succ_eq_append_getElem hkl, HNM.out]
            exact hown5
      · obtain rfl : k = n := by omega
        have hd8 : decide ((k : Int) < (k : Int)) = false := by simp
        have hst : Strs1 wr u7 ns := by
          have := hT.own
          rw [List.take_of_length_le (by rw [HNL.out]; exact Nat.le_refl _), ← HNL.out] at this
          exact strs_of_owns this
        obtain ⟨lp, lc, hu, _⟩ := strs1_sl hst
        rw [HNL.out] at hu
        subst hu
        have hjo := HJ.out wr _ hst
        have HBW : Hid (Below wa.heap.size wa wr) := hbwr
        clear hT hst hbwr
        go_wp2_with fail
        refine hjo.mono ?_
        rintro r w6 ⟨rfl, hb6⟩
        clear hjo
        go_wp2
        go_ret
        exact ⟨rfl, below_then HBA.out (below_then HBW.out hb6)⟩
end Go.Proofs.YtfhmfjcpggddkaaGreatDoor

/- The law's model of a script: how many slots move. -/
namespace Go.Proofs.YtfhmfjcpggddkaaGreatDoor
open Go.RowKit Lh

set_option maxRecDepth 100000 in
set_option maxHeartbeats 2000000 in
theorem asked_moves1 (m b o c : Nat) (xs ys : List ByteArray) (w : ByteArray) (hp : Option Addr) (hc nb no nc : Nat) (n : Nat) (W : World) (hH : Hst W m b o c xs) (hw : tx w = wMoves) (hY : Strs1 W (.slice hp ys.length hc) ys) (hyl : ys.length ≤ 30) (hk : W.cell? ⟨nb, no, none⟩ = some (.int .i64 (n : Nat))) (hn7 : n ≤ 9999999)
    (e1 : Nat) (p1 : Int) (hf1 : TabFault xs (n : Nat) e1 p1) (h1 : e1 ≠ 0) (h19 : e1 ≤ 9)
    (hM : ∀ w', Below W.heap.size W w' → ∀ va vb, Strs1 w' va xs → Strs1 w' vb ys → Calls Tryz.prog 37 #[va, vb, .int .i64 (n : Nat)] w' fun e w'' => ∃ t x, e = .returned (.tuple #[.int .i64 0, .iface t x]) ∧ Below w'.heap.size w' w'') :
    Calls Tryz.prog 30 #[.pointer (some ⟨m, 0, none⟩), .agg #[.string w, .slice hp ys.length hc, .slice (some ⟨nb, no, none⟩) 1 nc]] W fun e w' => e = .returned (.string (bt (errT e1))) ∧ Below W.heap.size W w' := by
  have q1 := word_not (s := w) (w := wTable) (by rw [hw]; decide)
  have q2 := word_is (s := w) (w := wMoves) hw
  unfold wTable at q1
  unfold wMoves at q2
  clear hw
  obtain ⟨wa, hwa⟩ : ∃ wa, wa = W.alloc (.cells #[.string w, .slice hp ys.length hc, .slice (some ⟨nb, no, none⟩) 1 nc] 36) := ⟨_, rfl⟩
  have hba : Below W.heap.size W wa := by rw [hwa]; exact (Below.refl _ _).alloc (Nat.le_refl _) _
  have k0 : wa.cell? ⟨W.heap.size, 0, none⟩ = some (.string w) := by rw [hwa]; simp
  have k1 : wa.cell? ⟨W.heap.size, 1, none⟩ = some (.slice hp ys.length hc) := by rw [hwa]; simp
  have k2 : wa.cell? ⟨W.heap.size, 2, none⟩ = some (.slice (some ⟨nb, no, none⟩) 1 nc) := by rw [hwa]; simp
  have hka := below_cell hba hk
  have hH' := hH.later hba
  have hm1 := hH'.cell
  have HBA : Hid (Below W.heap.size W wa) := hba
  have HC : Hid (∀ w', Below wa.heap.size wa w' → w'.cell? ⟨m, 1, none⟩ = some (.slice (some ⟨b, o, none⟩) xs.length c) ∧ w'.cell? ⟨W.heap.size, 1, none⟩ = some (.slice hp ys.length hc) ∧ w'.cell? ⟨W.heap.size, 2, none⟩ = some (.slice (some ⟨nb, no, none⟩) 1 nc) ∧ w'.cell? ⟨nb, no, none⟩ = some (.int .i64 (n : Nat))) := fun w' hb => ⟨below_cell hb hm1, below_cell hb k1, below_cell hb k2, below_cell hb hka⟩
  have hb0 : Below wa.heap.size wa wa.drew := below_drewN (Below.refl _ _) 1
  have HH : Hid (Hst wa m b o c xs) := hH'
  have HY : Hid (Strs1 wa (.slice hp ys.length hc) ys) := hY.later hba
  have HO1 : Hid (∀ w', Below wa.heap.size wa w' → Calls Tryz.prog 80 #[.slice (some ⟨b, o, none⟩) xs.length c] w' fun e w'' => ∃ v', e = .returned v' ∧ (∀ w2, Below w''.heap.size w'' w2 → Strs1 w2 v' xs) ∧ Below wa.heap.size wa w'') := fun w' hb => (ownTexts_any _ xs w' ((HH.out.later hb).strs) (by have := HH.out.le; omega)).mono fun _ _ ⟨v', r1, r2, r3⟩ => ⟨v', r1, fun w2 hb2 => r2.later hb2, below_then hb r3⟩
  have HO2 : Hid (∀ w', Below wa.heap.size wa w' → Calls Tryz.prog 80 #[.slice hp ys.length hc] w' fun e w'' => ∃ v', e = .returned v' ∧ Strs1 w'' v' ys ∧ Below w'.heap.size w' w'' ∧ Below wa.heap.size wa w'') := fun w' hb => (ownTexts_any _ ys w' (HY.out.later hb) (by omega)).mono fun _ _ ⟨v', r1, r2, r3⟩ => ⟨v', r1, r2, r3, below_then hb r3⟩
  have HM : Hid (∀ w', Below wa.heap.size wa w' → ∀ va vb, Strs1 w' va xs → Strs1 w' vb ys → Calls Tryz.prog 37 #[va, vb, .int .i64 (n : Nat)] w' fun e w'' => ∃ t x, e = .returned (.tuple #[.int .i64 0, .iface t x]) ∧ Below wa.heap.size wa w'') := fun w' hb va vb ha hb' => (hM w' (below_then hba hb) va vb ha hb').mono fun _ _ ⟨t, x, r1, r2⟩ => ⟨t, x, r1, below_then hb r2⟩
  have HTF : Hid (∀ w', Below wa.heap.size wa w' → Calls Tryz.prog 66 #[.slice (some ⟨b, o, none⟩) xs.length c, .int .i64 (n : Nat)] w' fun r w'' => r = .returned (.agg #[.int .i64 (e1 : Nat), .int .i64 p1]) ∧ Below w'.heap.size w' w'' ∧ Below wa.heap.size wa w'') := fun w' hb => (tableFault_any _ xs (n : Nat) w' e1 p1 ((HH.out.later hb).strs) hf1 (by omega) HH.out.sBig (by have := HH.out.le; omega)).mono fun _ _ ⟨r1, r2⟩ => ⟨r1, r2, below_then hb r2⟩
  have HET : Hid (∀ w0 w' s, Below w0.heap.size w0 w' → Calls Tryz.prog 23 #[.int .i64 (e1 : Nat), .string s] w' fun r w'' => r = .returned (.string (bt (errT e1))) ∧ Below w0.heap.size w0 w'') := fun w0 w' s hb => (orElse_any e1 h19 s w').mono fun _ _ ⟨r1, r2⟩ => ⟨by rw [r1, if_neg h1], below_then hb r2⟩
  have HDE : Hid (∀ w0 w' : World, Below w0.heap.size w0 w' → Calls Tryz.prog 19 #[.int .i64 0] w' fun r w'' => ∃ s, r = .returned (.string s) ∧ Below w0.heap.size w0 w'') := fun w0 w' hb => (decimalM_any 0 (by decide) w').mono fun _ _ ⟨r1, r2⟩ => ⟨_, r1, below_then hb r2⟩
  have d1 : ((e1 : Int) == 0) = false := by rw [beq_eq_false_iff_ne]; omega
  generalize bt (errT e1) = et at *
  clear hH hH' hba hk hY hM hf1 h1 h19
  go_enter Tryz.func30, Tryz.ntmps30
  go_wp2_with fail
  rw [← hwa]
  clear hwa
  go_region_held3 (fun w' => w'.cell? ⟨m, 1, none⟩ = some (.slice (some ⟨b, o, none⟩) xs.length c) ∧ w'.cell? ⟨W.heap.size, 1, none⟩ = some (.slice hp ys.length hc) ∧ w'.cell? ⟨W.heap.size, 2, none⟩ = some (.slice (some ⟨nb, no, none⟩) 1 nc) ∧ w'.cell? ⟨nb, no, none⟩ = some (.int .i64 (n : Nat)))
    (first | exact HC.out _ (by assumption))
    (first
      | (go_at_call 80; refine (HO1.out _ (by assumption)).mono ?_; rintro e w1 ⟨v1, rfl, hv1, hb1⟩)
      | (go_at_call 80; refine (HO2.out _ (by assumption)).mono ?_; rintro e w2 ⟨v2, rfl, hv2, hb2, hb2'⟩)
      | (go_at_call 37; refine (HM.out _ (by assumption) _ _ (hv1 _ (by assumption)) (by assumption)).mono ?_; rintro e w3 ⟨t3, x3, rfl, hb3⟩))
  have HB3 : Hid (Below wa.heap.size wa w3) := hb3
  obtain ⟨j1, j2, j3, j4⟩ := HC.out w3 hb3
  have hb3d : Below wa.heap.size wa w3.drew := below_drewN hb3 1
  have HAD : Hid (∀ ob, Below wa.heap.size wa (w3.alloc ob).drew) := fun ob => below_drewN (below_al hb3 ob) 1
  clear hb1 hb2 hb2' hv1 hv2 hb0 k0 k1 k2 hka hm1 HO1 HO2 HM
  go_wp2_with fail
  go_region_held3 (fun w' => w'.cell? ⟨m, 1, none⟩ = some (.slice (some ⟨b, o, none⟩) xs.length c) ∧ w'.cell? ⟨W.heap.size, 1, none⟩ = some (.slice hp ys.length hc) ∧ w'.cell? ⟨W.heap.size, 2, none⟩ = some (.slice (some ⟨nb, no, none⟩) 1 nc) ∧ w'.cell? ⟨nb, no, none⟩ = some (.int .i64 (n : Nat)))
    (first | exact HC.out _ (by first | assumption | exact below_al (by assumption) _ | exact HAD.out _ | exact ((by assumption : Below wa.heap.size wa w4).setCell HB3.out.size _).setCell HB3.out.size _))
    (first
      | (go_at_call 66; refine (HTF.out _ (by first | assumption | exact HAD.out _)).mono ?_; rintro e w4 ⟨rfl, hb4, hb4'⟩; try (have hcf := al_cells hb4; obtain ⟨c0, c1, f0, f1⟩ := hcf)))
  · have kf : (w4.alloc (.cells #[.int .i64 (e1 : Nat), .int .i64 p1] 59)).cell? ⟨w4.heap.size, 0, none⟩ = some (.int .i64 (e1 : Nat)) := by simp
    have hb5 := below_al hb4' (.cells #[.int .i64 (e1 : Nat), .int .i64 p1] 59)
    generalize (w4.alloc (.cells #[.int .i64 (e1 : Nat), .int .i64 p1] 59)) = w5 at *
    generalize w4.heap.size = fb at *
    have HB5 : Hid (∀ w', Below w5.heap.size w5 w' → Below wa.heap.size wa w') := fun w' hb => below_then hb5 hb
    have HF5 : Hid (∀ w', Below w5.heap.size w5 w' → w'.cell? ⟨fb, 0, none⟩ = some (.int .i64 (e1 : Nat))) := fun w' hb => below_cell hb kf
    have hd5 : Below w5.heap.size w5 w5.drew := below_drewN (Below.refl _ _) 1
    clear hb4 hb4' hb5 hb3d HAD HC HTF HB3 j1 j2 j3 j4 hb3
    go_wp2_with fail
    go_region_held3 (fun w' => w'.cell? ⟨fb, 0, none⟩ = some (.int .i64 (e1 : Nat)))
      (first | exact HF5.out _ (by assumption))
      (first
        | (go_at_call 19; refine (HDE.out w5 _ (by assumption)).mono ?_; rintro e w6 ⟨s6, rfl, hb6⟩)
        | (go_at_call 23; refine (HET.out w5 _ _ (by assumption)).mono ?_; rintro e w7 ⟨rfl, hb7⟩))
    all_goals
      go_wp2
      go_ret
      exact ⟨rfl, below_then HBA.out (HB5.out _ (by assumption))⟩
  · have kf : ((w4.setCell ⟨w3.heap.size, 0, none⟩ (.int .i64 (e1 : Nat))).setCell ⟨w3.heap.size, 1, none⟩ (.int .i64 p1)).cell? ⟨w3.heap.size, 0, none⟩ = some (.int .i64 (e1 : Nat)) := by simp [go_sem, c0]
    have hb5 : Below wa.heap.size wa ((w4.setCell ⟨w3.heap.size, 0, none⟩ (.int .i64 (e1 : Nat))).setCell ⟨w3.heap.size, 1, none⟩ (.int .i64 p1)) := (hb4'.setCell HB3.out.size _).setCell HB3.out.size _
    generalize ((w4.setCell ⟨w3.heap.size, 0, none⟩ (.int .i64 (e1 : Nat))).setCell ⟨w3.heap.size, 1, none⟩ (.int .i64 p1)) = w5 at *
    generalize w3.heap.size = fb at *
    have HB5 : Hid (∀ w', Below w5.heap.size w5 w' → Below wa.heap.size wa w') := fun w' hb => below_then hb5 hb
    have HF5 : Hid (∀ w', Below w5.heap.size w5 w' → w'.cell? ⟨fb, 0, none⟩ = some (.int .i64 (e1 : Nat))) := fun w' hb => below_cell hb kf
    have hd5 : Below w5.heap.size w5 w5.drew := below_drewN (Below.refl _ _) 1
    clear hb4 hb4' hb5 hb3d HAD HC HTF HB3 j1 j2 j3 j4 hb3
    go_wp2_with fail
    go_region_held3 (fun w' => w'.cell? ⟨fb, 0, none⟩ = some (.int .i64 (e1 : Nat)))
      (first | exact HF5.out _ (by assumption))
      (first
        | (go_at_call 19; refine (HDE.out w5 _ (by assumption)).mono ?_; rintro e w6 ⟨s6, rfl, hb6⟩)
        | (go_at_call 23; refine (HET.out w5 _ _ (by assumption)).mono ?_; rintro e w7 ⟨rfl, hb7⟩))
    all_goals
      go_wp2
      go_ret
      exact ⟨rfl, below_then HBA.out (HB5.out _ (by assumption))⟩
set_option maxRecDepth 100000 in
set_option maxHeartbeats 2000000 in
theorem asked_moves2 (m b o c : Nat) (xs ys : List ByteArray) (w : ByteArray) (hp : Option Addr) (hc nb no nc : Nat) (n : Nat) (W : World) (hH : Hst W m b o c xs) (hw : tx w = wMoves) (hY : Strs1 W (.slice hp ys.length hc) ys) (hyl : ys.length ≤ 30) (hk : W.cell? ⟨nb, no, none⟩ = some (.int .i64 (n : Nat))) (hn7 : n ≤ 9999999)
    (hys : ∀ k (h : k < ys.length), (ys[k]).size ≤ 1000000) (hf1 : TabFault xs (n : Nat) 0 (-1)) (e2 : Nat) (p2 : Int) (hf2 : TabFault ys (n : Nat) e2 p2) (h2 : e2 ≠ 0) (h29 : e2 ≤ 9)
    (hM : ∀ w', Below W.heap.size W w' → ∀ va vb, Strs1 w' va xs → Strs1 w' vb ys → Calls Tryz.prog 37 #[va, vb, .int .i64 (n : Nat)] w' fun e w'' => ∃ t x, e = .returned (.tuple #[.int .i64 0, .iface t x]) ∧ Below w'.heap.size w' w'') :
    Calls Tryz.prog 30 #[.pointer (some ⟨m, 0, none⟩), .agg #[.string w, .slice hp ys.length hc, .slice (some ⟨nb, no, none⟩) 1 nc]] W fun e w' => e = .returned (.string (bt (errT e2))) ∧ Below W.heap.size W w' := by
  have q1 := word_not (s := w) (w := wTable) (by rw [hw]; decide)
  have q2 := word_is (s := w) (w := wMoves) hw
  unfold wTable at q1
  unfold wMoves at q2
  clear hw
  obtain ⟨wa, hwa⟩ : ∃ wa, wa = W.alloc (.cells #[.string w, .slice hp ys.length hc, .slice (some ⟨nb, no, none⟩) 1 nc] 36) := ⟨_, rfl⟩
  have hba : Below W.heap.size W wa := by rw [hwa]; exact (Below.refl _ _).alloc (Nat.le_refl _) _
  have k0 : wa.cell? ⟨W.heap.size, 0, none⟩ = some (.string w) := by rw [hwa]; simp
  have k1 : wa.cell? ⟨W.heap.size, 1, none⟩ = some (.slice hp ys.length hc) := by rw [hwa]; simp
  have k2 : wa.cell? ⟨W.heap.size, 2, none⟩ = some (.slice (some ⟨nb, no, none⟩) 1 nc) := by rw [hwa]; simp
  have hka := below_cell hba hk
  have hH' := hH.later hba
  have hm1 := hH'.cell
  have HBA : Hid (Below W.heap.size W wa) := hba
  have HC : Hid (∀ w', Below wa.heap.size wa w' → w'.cell? ⟨m, 1, none⟩ = some (.slice (some ⟨b, o, none⟩) xs.length c) ∧ w'.cell? ⟨W.heap.size, 1, none⟩ = some (.slice hp ys.length hc) ∧ w'.cell? ⟨W.heap.size, 2, none⟩ = some (.slice (some ⟨nb, no, none⟩) 1 nc) ∧ w'.cell? ⟨nb, no, none⟩ = some (.int .i64 (n : Nat))) := fun w' hb => ⟨below_cell hb hm1, below_cell hb k1, below_cell hb k2, below_cell hb hka⟩
  have hb0 : Below wa.heap.size wa wa.drew := below_drewN (Below.refl _ _) 1
  have HH : Hid (Hst wa m b o c xs) := hH'
  have HY : Hid (Strs1 wa (.slice hp ys.length hc) ys) := hY.later hba
  have HO1 : Hid (∀ w', Below wa.heap.size wa w' → Calls Tryz.prog 80 #[.slice (some ⟨b, o, none⟩) xs.length c] w' fun e w'' => ∃ v', e = .returned v' ∧ (∀ w2, Below w''.heap.size w'' w2 → Strs1 w2 v' xs) ∧ Below wa.heap.size wa w'') := fun w' hb => (ownTexts_any _ xs w' ((HH.out.later hb).strs) (by have := HH.out.le; omega)).mono fun _ _ ⟨v', r1, r2, r3⟩ => ⟨v', r1, fun w2 hb2 => r2.later hb2, below_then hb r3⟩
  have HO2 : Hid (∀ w', Below wa.heap.size wa w' → Calls Tryz.prog 80 #[.slice hp ys.length hc] w' fun e w'' => ∃ v', e = .returned v' ∧ Strs1 w'' v' ys ∧ Below w'.heap.size w' w'' ∧ Below wa.heap.size wa w'') := fun w' hb => (ownTexts_any _ ys w' (HY.out.later hb) (by omega)).mono fun _ _ ⟨v', r1, r2, r3⟩ => ⟨v', r1, r2, r3, below_then hb r3⟩
  have HM : Hid (∀ w', Below wa.heap.size wa w' → ∀ va vb, Strs1 w' va xs → Strs1 w' vb ys → Calls Tryz.prog 37 #[va, vb, .int .i64 (n : Nat)] w' fun e w'' => ∃ t x, e = .returned (.tuple #[.int .i64 0, .iface t x]) ∧ Below wa.heap.size wa w'') := fun w' hb va vb ha hb' => (hM w' (below_then hba hb) va vb ha hb').mono fun _ _ ⟨t, x, r1, r2⟩ => ⟨t, x, r1, below_then hb r2⟩
  have HTF : Hid (∀ w', Below wa.heap.size wa w' → Calls Tryz.prog 66 #[.slice (some ⟨b, o, none⟩) xs.length c, .int .i64 (n : Nat)] w' fun r w'' => r = .returned (.agg #[.int .i64 0, .int .i64 (-1)]) ∧ Below w'.heap.size w' w'' ∧ Below wa.heap.size wa w'') := fun w' hb => (tableFault_any _ xs (n : Nat) w' 0 (-1) ((HH.out.later hb).strs) hf1 (by omega) HH.out.sBig (by have := HH.out.le; omega)).mono fun _ _ ⟨r1, r2⟩ => ⟨r1, r2, below_then hb r2⟩
  have HET : Hid (∀ w0 w' s, Below w0.heap.size w0 w' → Calls Tryz.prog 23 #[.int .i64 (e2 : Nat), .string s] w' fun r w'' => r = .returned (.string (bt (errT e2))) ∧ Below w0.heap.size w0 w'') := fun w0 w' s hb => (orElse_any e2 h29 s w').mono fun _ _ ⟨r1, r2⟩ => ⟨by rw [r1, if_neg h2], below_then hb r2⟩
  have HDE : Hid (∀ w0 w' : World, Below w0.heap.size w0 w' → Calls Tryz.prog 19 #[.int .i64 0] w' fun r w'' => ∃ s, r = .returned (.string s) ∧ Below w0.heap.size w0 w'') := fun w0 w' hb => (decimalM_any 0 (by decide) w').mono fun _ _ ⟨r1, r2⟩ => ⟨_, r1, below_then hb r2⟩
  have d1 : ((e2 : Int) == 0) = false := by rw [beq_eq_false_iff_ne]; omega
  have HTG : Hid (∀ w', Below wa.heap.size wa w' → Calls Tryz.prog 66 #[.slice hp ys.length hc, .int .i64 (n : Nat)] w' fun r w'' => r = .returned (.agg #[.int .i64 (e2 : Nat), .int .i64 p2]) ∧ Below w'.heap.size w' w'' ∧ Below wa.heap.size wa w'') := fun w' hb => (tableFault_any _ ys (n : Nat) w' e2 p2 (HY.out.later hb) hf2 (by omega) hys (by omega)).mono fun _ _ ⟨r1, r2⟩ => ⟨r1, r2, below_then hb r2⟩
  generalize bt (errT e2) = et at *
  clear hH hH' hba hk hY hM hf1 hf2 h2 h29
  go_enter Tryz.func30, Tryz.ntmps30
  go_wp2_with fail
  rw [← hwa]
  clear hwa
  go_region_held3 (fun w' => w'.cell? ⟨m, 1, none⟩ = some (.slice (some ⟨b, o, none⟩) xs.length c) ∧ w'.cell? ⟨W.heap.size, 1, none⟩ = some (.slice hp ys.length hc) ∧ w'.cell? ⟨W.heap.size, 2, none⟩ = some (.slice (some ⟨nb, no, none⟩) 1 nc) ∧ w'.cell? ⟨nb, no, none⟩ = some (.int .i64 (n : Nat)))
    (first | exact HC.out _ (by assumption))
    (first
      | (go_at_call 80; refine (HO1.out _ (by assumption)).mono ?_; rintro e w1 ⟨v1, rfl, hv1, hb1⟩)
      | (go_at_call 80; refine (HO2.out _ (by assumption)).mono ?_; rintro e w2 ⟨v2, rfl, hv2, hb2, hb2'⟩)
      | (go_at_call 37; refine (HM.out _ (by assumption) _ _ (hv1 _ (by assumption)) (by assumption)).mono ?_; rintro e w3 ⟨t3, x3, rfl, hb3⟩))
  have HB3 : Hid (Below wa.heap.size wa w3) := hb3
  obtain ⟨j1, j2, j3, j4⟩ := HC.out w3 hb3
  have hb3d : Below wa.heap.size wa w3.drew := below_drewN hb3 1
  have HAD : Hid (∀ ob, Below wa.heap.size wa (w3.alloc ob).drew) := fun ob => below_drewN (below_al hb3 ob) 1
  clear hb1 hb2 hb2' hv1 hv2 hb0 k0 k1 k2 hka hm1 HO1 HO2 HM
  go_wp2_with fail
  go_region_held3 (fun w' => w'.cell? ⟨m, 1, none⟩ = some (.slice (some ⟨b, o, none⟩) xs.length c) ∧ w'.cell? ⟨W.heap.size, 1, none⟩ = some (.slice hp ys.length hc) ∧ w'.cell? ⟨W.heap.size, 2, none⟩ = some (.slice (some ⟨nb, no, none⟩) 1 nc) ∧ w'.cell? ⟨nb, no, none⟩ = some (.int .i64 (n : Nat)))
    (first | exact HC.out _ (by first | assumption | exact below_al (by assumption) _ | exact HAD.out _ | exact ((by assumption : Below wa.heap.size wa w4).setCell HB3.out.size _).setCell HB3.out.size _))
    (first
      | (go_at_call 66; refine (HTF.out _ (by first | assumption | exact HAD.out _)).mono ?_; rintro e w4 ⟨rfl, hb4, hb4'⟩; try (have hcf := al_cells hb4; obtain ⟨c0, c1, f0, f1⟩ := hcf)))
  · have kf : (w4.alloc (.cells #[.int .i64 0, .int .i64 (-1)] 59)).cell? ⟨w4.heap.size, 0, none⟩ = some (.int .i64 0) := by simp
    have hb5 := below_al hb4' (.cells #[.int .i64 0, .int .i64 (-1)] 59)
    have kg : (w4.alloc (.cells #[.int .i64 0, .int .i64 (-1)] 59)).cell? ⟨w4.heap.size, 1, none⟩ = some (.int .i64 (-1)) := by simp
    have fz0 : (w4.alloc (.cells #[.int .i64 0, .int .i64 (-1)] 59)).frozen? ⟨w4.heap.size, 0, none⟩ = false := by simp
    have fz1 : (w4.alloc (.cells #[.int .i64 0, .int .i64 (-1)] 59)).frozen? ⟨w4.heap.size, 1, none⟩ = false := by simp
    have hfl : w4.heap.size < (w4.alloc (.cells #[.int .i64 0, .int .i64 (-1)] 59)).heap.size := by simp
    have hfb := hb4'.size
    generalize (w4.alloc (.cells #[.int .i64 0, .int .i64 (-1)] 59)) = w5 at *
    generalize w4.heap.size = fb at *
    have HB5 : Hid (Below wa.heap.size wa w5) := hb5
    have HFB : Hid (wa.heap.size ≤ fb) := hfb
    have HCE : Hid (∀ w', Below wa.heap.size wa w' → w'.cell? ⟨W.heap.size, 1, none⟩ = some (.slice hp ys.length hc) ∧ w'.cell? ⟨W.heap.size, 2, none⟩ = some (.slice (some ⟨nb, no, none⟩) 1 nc) ∧ w'.cell? ⟨nb, no, none⟩ = some (.int .i64 (n : Nat))) := fun w' hb => (HC.out w' hb).2
    have HF5 : Hid (∀ w', Below w5.drew.heap.size w5.drew w' → w'.cell? ⟨fb, 0, none⟩ = some (.int .i64 0) ∧ w'.cell? ⟨fb, 1, none⟩ = some (.int .i64 (-1)) ∧ w'.frozen? ⟨fb, 0, none⟩ = false ∧ w'.frozen? ⟨fb, 1, none⟩ = false) := fun w' hb => ⟨below_cell (below_of_drew hb) kf, below_cell (below_of_drew hb) kg, by rw [(below_of_drew hb).frozen hfl]; exact fz0, by rw [(below_of_drew hb).frozen hfl]; exact fz1⟩
    have hd5 : Below wa.heap.size wa w5.drew := below_drewN hb5 1
    obtain ⟨i1, i2, i3⟩ := HCE.out w5 hb5
    clear hb4 hb4' hb5 hb3d HAD HC HTF HB3 j1 j2 j3 j4 hb3 kg hfl fz0 fz1 hfb
    go_wp2_with fail
    go_region_held3 (fun w' => w'.cell? ⟨W.heap.size, 1, none⟩ = some (.slice hp ys.length hc) ∧ w'.cell? ⟨W.heap.size, 2, none⟩ = some (.slice (some ⟨nb, no, none⟩) 1 nc) ∧ w'.cell? ⟨nb, no, none⟩ = some (.int .i64 (n : Nat)))
      (first | exact HCE.out _ (by first | assumption | exact ((by assumption : Below wa.heap.size wa w6).setCell HFB.out _).setCell HFB.out _))
      (first
        | (go_at_call 66; refine (HTG.out _ (by assumption)).mono ?_; rintro e w6 ⟨rfl, hb6, hb6'⟩; obtain ⟨c0, c1, f0, f1⟩ := HF5.out _ hb6))
    have kh : ((w6.setCell ⟨fb, 0, none⟩ (.int .i64 (e2 : Nat))).setCell ⟨fb, 1, none⟩ (.int .i64 p2)).cell? ⟨fb, 0, none⟩ = some (.int .i64 (e2 : Nat)) := by simp [go_sem, c0]
    have hb7 : Below wa.heap.size wa ((w6.setCell ⟨fb, 0, none⟩ (.int .i64 (e2 : Nat))).setCell ⟨fb, 1, none⟩ (.int .i64 p2)) := (hb6'.setCell HFB.out _).setCell HFB.out _
    generalize ((w6.setCell ⟨fb, 0, none⟩ (.int .i64 (e2 : Nat))).setCell ⟨fb, 1, none⟩ (.int .i64 p2)) = w7 at *
    have HB7 : Hid (∀ w', Below w7.heap.size w7 w' → Below wa.heap.size wa w') := fun w' hb => below_then hb7 hb
    have HF7 : Hid (∀ w', Below w7.heap.size w7 w' → w'.cell? ⟨fb, 0, none⟩ = some (.int .i64 (e2 : Nat))) := fun w' hb => below_cell hb kh
    have hd7 : Below w7.heap.size w7 w7.drew := below_drewN (Below.refl _ _) 1
    clear hb6 hb6' c0 c1 f0 f1 hb7 HB5 hd5 i1 i2 i3 kf HCE HTG HF5
    go_wp2_with fail
    go_region_held3 (fun w' => w'.cell? ⟨fb, 0, none⟩ = some (.int .i64 (e2 : Nat)))
      (first | exact HF7.out _ (by assumption))
      (first
        | (go_at_call 19; refine (HDE.out w7 _ (by assumption)).mono ?_; rintro e w8 ⟨s8, rfl, hb8⟩)
        | (go_at_call 23; refine (HET.out w7 _ _ (by assumption)).mono ?_; rintro e w9 ⟨rfl, hb9⟩))
    all_goals
      go_wp2
      go_ret
      exact ⟨rfl, below_then HBA.out (HB7.out _ (by assumption))⟩
  · have kf : ((w4.setCell ⟨w3.heap.size, 0, none⟩ (.int .i64 0)).setCell ⟨w3.heap.size, 1, none⟩ (.int .i64 (-1))).cell? ⟨w3.heap.size, 0, none⟩ = some (.int .i64 0) := by simp [go_sem, c0]
    have hb5 : Below wa.heap.size wa ((w4.setCell ⟨w3.heap.size, 0, none⟩ (.int .i64 0)).setCell ⟨w3.heap.size, 1, none⟩ (.int .i64 (-1))) := (hb4'.setCell HB3.out.size _).setCell HB3.out.size _
    have kg : ((w4.setCell ⟨w3.heap.size, 0, none⟩ (.int .i64 0)).setCell ⟨w3.heap.size, 1, none⟩ (.int .i64 (-1))).cell? ⟨w3.heap.size, 1, none⟩ = some (.int .i64 (-1)) := by simp [go_sem, c1]
    have fz0 : ((w4.setCell ⟨w3.heap.size, 0, none⟩ (.int .i64 0)).setCell ⟨w3.heap.size, 1, none⟩ (.int .i64 (-1))).frozen? ⟨w3.heap.size, 0, none⟩ = false := by simp [World.frozen?_setCell, f0]
    have fz1 : ((w4.setCell ⟨w3.heap.size, 0, none⟩ (.int .i64 0)).setCell ⟨w3.heap.size, 1, none⟩ (.int .i64 (-1))).frozen? ⟨w3.heap.size, 1, none⟩ = false := by simp [World.frozen?_setCell, f1]
    have hfl : w3.heap.size < ((w4.setCell ⟨w3.heap.size, 0, none⟩ (.int .i64 0)).setCell ⟨w3.heap.size, 1, none⟩ (.int .i64 (-1))).heap.size := by simpa using World.block_lt_of_cell? w4 ⟨w3.heap.size, 0, none⟩ c0
    have hfb := HB3.out.size
    generalize ((w4.setCell ⟨w3.heap.size, 0, none⟩ (.int .i64 0)).setCell ⟨w3.heap.size, 1, none⟩ (.int .i64 (-1))) = w5 at *
    generalize w3.heap.size = fb at *
    have HB5 : Hid (Below wa.heap.size wa w5) := hb5
    have HFB : Hid (wa.heap.size ≤ fb) := hfb
    have HCE : Hid (∀ w', Below wa.heap.size wa w' → w'.cell? ⟨W.heap.size, 1, none⟩ = some (.slice hp ys.length hc) ∧ w'.cell? ⟨W.heap.size, 2, none⟩ = some (.slice (some ⟨nb, no, none⟩) 1 nc) ∧ w'.cell? ⟨nb, no, none⟩ = some (.int .i64 (n : Nat))) := fun w' hb => (HC.out w' hb).2
    have HF5 : Hid (∀ w', Below w5.drew.heap.size w5.drew w' → w'.cell? ⟨fb, 0, none⟩ = some (.int .i64 0) ∧ w'.cell? ⟨fb, 1, none⟩ = some (.int .i64 (-1)) ∧ w'.frozen? ⟨fb, 0, none⟩ = false ∧ w'.frozen? ⟨fb, 1, none⟩ = false) := fun w' hb => ⟨below_cell (below_of_drew hb) kf, below_cell (below_of_drew hb) kg, by rw [(below_of_drew hb).frozen hfl]; exact fz0, by rw [(below_of_drew hb).frozen hfl]; exact fz1⟩
    have hd5 : Below wa.heap.size wa w5.drew := below_drewN hb5 1
    obtain ⟨i1, i2, i3⟩ := HCE.out w5 hb5
    clear hb4 hb4' hb5 hb3d HAD HC HTF HB3 j1 j2 j3 j4 hb3 kg hfl fz0 fz1 hfb
    go_wp2_with fail
    go_region_held3 (fun w' => w'.cell? ⟨W.heap.size, 1, none⟩ = some (.slice hp ys.length hc) ∧ w'.cell? ⟨W.heap.size, 2, none⟩ = some (.slice (some ⟨nb, no, none⟩) 1 nc) ∧ w'.cell? ⟨nb, no, none⟩ = some (.int .i64 (n : Nat)))
      (first | exact HCE.out _ (by first | assumption | exact ((by assumption : Below wa.heap.size wa w6).setCell HFB.out _).setCell HFB.out _))
      (first
        | (go_at_call 66; refine (HTG.out _ (by assumption)).mono ?_; rintro e w6 ⟨rfl, hb6, hb6'⟩; obtain ⟨c0, c1, f0, f1⟩ := HF5.out _ hb6))
    have kh : ((w6.setCell ⟨fb, 0, none⟩ (.int .i64 (e2 : Nat))).setCell ⟨fb, 1, none⟩ (.int .i64 p2)).cell? ⟨fb, 0, none⟩ = some (.int .i64 (e2 : Nat)) := by simp [go_sem, c0]
    have hb7 : Below wa.heap.size wa ((w6.setCell ⟨fb, 0, none⟩ (.int .i64 (e2 : Nat))).setCell ⟨fb, 1, none⟩ (.int .i64 p2)) := (hb6'.setCell HFB.out _).setCell HFB.out _
    generalize ((w6.setCell ⟨fb, 0, none⟩ (.int .i64 (e2 : Nat))).setCell ⟨fb, 1, none⟩ (.int .i64 p2)) = w7 at *
    have HB7 : Hid (∀ w', Below w7.heap.size w7 w' → Below wa.heap.size wa w') := fun w' hb => below_then hb7 hb
    have HF7 : Hid (∀ w', Below w7.heap.size w7 w' → w'.cell? ⟨fb, 0, none⟩ = some (.int .i64 (e2 : Nat))) := fun w' hb => below_cell hb kh
    have hd7 : Below w7.heap.size w7 w7.drew := below_drewN (Below.refl _ _) 1
    clear hb6 hb6' c0 c1 f0 f1 hb7 HB5 hd5 i1 i2 i3 kf HCE HTG HF5
    go_wp2_with fail
    go_region_held3 (fun w' => w'.cell? ⟨fb, 0, none⟩ = some (.int .i64 (e2 : Nat)))
      (first | exact HF7.out _ (by assumption))
      (first
        | (go_at_call 19; refine (HDE.out w7 _ (by assumption)).mono ?_; rintro e w8 ⟨s8, rfl, hb8⟩)
        | (go_at_call 23; refine (HET.out w7 _ _ (by assumption)).mono ?_; rintro e w9 ⟨rfl, hb9⟩))
    all_goals
      go_wp2
      go_ret
      exact ⟨rfl, below_then HBA.out (HB7.out _ (by assumption))⟩
set_option maxRecDepth 100000 in
set_option maxHeartbeats 2000000 in
theorem asked_moves3 (m b o c : Nat) (xs ys : List ByteArray) (w : ByteArray) (hp : Option Addr) (hc nb no nc : Nat) (n : Nat) (W : World) (hH : Hst W m b o c xs) (hw : tx w = wMoves) (hY : Strs1 W (.slice hp ys.length hc) ys) (hyl : ys.length ≤ 30) (hk : W.cell? ⟨nb, no, none⟩ = some (.int .i64 (n : Nat))) (hn7 : n ≤ 9999999)
    (hys : ∀ k (h : k < ys.length), (ys[k]).size ≤ 1000000) (hf1 : TabFault xs (n : Nat) 0 (-1)) (hf2 : TabFault ys (n : Nat) 0 (-1)) (r : Nat) (hr : r ≤ 9999999)
    (hM : ∀ w', Below W.heap.size W w' → ∀ va vb, Strs1 w' va xs → Strs1 w' vb ys → Calls Tryz.prog 37 #[va, vb, .int .i64 (n : Nat)] w' fun e w'' => e = .returned (.tuple #[.int .i64 (r : Nat), .nilIface]) ∧ Below w'.heap.size w' w'') :
    Calls Tryz.prog 30 #[.pointer (some ⟨m, 0, none⟩), .agg #[.string w, .slice hp ys.length hc, .slice (some ⟨nb, no, none⟩) 1 nc]] W fun e w' => e = .returned (.string (bt (decL r))) ∧ Below W.heap.size W w' := by
  have q1 := word_not (s := w) (w := wTable) (by rw [hw]; decide)
  have q2 := word_is (s := w) (w := wMoves) hw
  unfold wTable at q1
  unfold wMoves at q2
  clear hw
  obtain ⟨wa, hwa⟩ : ∃ wa, wa = W.alloc (.cells #[.string w, .slice hp ys.length hc, .slice (some ⟨nb, no, none⟩) 1 nc] 36) := ⟨_, rfl⟩
  have hba : Below W.heap.size W wa := by rw [hwa]; exact (Below.refl _ _).alloc (Nat.le_refl _) _
  have k0 : wa.cell? ⟨W.heap.size, 0, none⟩ = some (.string w) := by rw [hwa]; simp
  have k1 : wa.cell? ⟨W.heap.size, 1, none⟩ = some (.slice hp ys.length hc) := by rw [hwa]; simp
  have k2 : wa.cell? ⟨W.heap.size, 2, none⟩ = some (.slice (some ⟨nb, no, none⟩) 1 nc) := by rw [hwa]; simp
  have hka := below_cell hba hk
  have hH' := hH.later hba
  have hm1 := hH'.cell
  have HBA : Hid (Below W.heap.size W wa) := hba
  have HC : Hid (∀ w', Below wa.heap.size wa w' → w'.cell? ⟨m, 1, none⟩ = some (.slice (some ⟨b, o, none⟩) xs.length c) ∧ w'.cell? ⟨W.heap.size, 1, none⟩ = some (.slice hp ys.length hc) ∧ w'.cell? ⟨W.heap.size, 2, none⟩ = some (.slice (some ⟨nb, no, none⟩) 1 nc) ∧ w'.cell? ⟨nb, no, none⟩ = some (.int .i64 (n : Nat))) := fun w' hb => ⟨below_cell hb hm1, below_cell hb k1, below_cell hb k2, below_cell hb hka⟩
  have hb0 : Below wa.heap.size wa wa.drew := below_drewN (Below.refl _ _) 1
  have HH : Hid (Hst wa m b o c xs) := hH'
  have HY : Hid (Strs1 wa (.slice hp ys.length hc) ys) := hY.later hba
  have HO1 : Hid (∀ w', Below wa.heap.size wa w' → Calls Tryz.prog 80 #[.slice (some ⟨b, o, none⟩) xs.length c] w' fun e w'' => ∃ v', e = .returned v' ∧ (∀ w2, Below w''.heap.size w'' w2 → Strs1 w2 v' xs) ∧ Below wa.heap.size wa w'') := fun w' hb => (ownTexts_any _ xs w' ((HH.out.later hb).strs) (by have := HH.out.le; omega)).mono fun _ _ ⟨v', r1, r2, r3⟩ => ⟨v', r1, fun w2 hb2 => r2.later hb2, below_then hb r3⟩
  have HO2 : Hid (∀ w', Below wa.heap.size wa w' → Calls Tryz.prog 80 #[.slice hp ys.length hc] w' fun e w'' => ∃ v', e = .returned v' ∧ Strs1 w'' v' ys ∧ Below w'.heap.size w' w'' ∧ Below wa.heap.size wa w'') := fun w' hb => (ownTexts_any _ ys w' (HY.out.later hb) (by omega)).mono fun _ _ ⟨v', r1, r2, r3⟩ => ⟨v', r1, r2, r3, below_then hb r3⟩
  have HM : Hid (∀ w', Below wa.heap.size wa w' → ∀ va vb, Strs1 w' va xs → Strs1 w' vb ys → Calls Tryz.prog 37 #[va, vb, .int .i64 (n : Nat)] w' fun e w'' => e = .returned (.tuple #[.int .i64 (r : Nat), .nilIface]) ∧ Below wa.heap.size wa w'') := fun w' hb va vb ha hb' => (hM w' (below_then hba hb) va vb ha hb').mono fun _ _ ⟨r1, r2⟩ => ⟨r1, below_then hb r2⟩
  have HTF : Hid (∀ w', Below wa.heap.size wa w' → Calls Tryz.prog 66 #[.slice (some ⟨b, o, none⟩) xs.length c, .int .i64 (n : Nat)] w' fun r w'' => r = .returned (.agg #[.int .i64 0, .int .i64 (-1)]) ∧ Below w'.heap.size w' w'' ∧ Below wa.heap.size wa w'') := fun w' hb => (tableFault_any _ xs (n : Nat) w' 0 (-1) ((HH.out.later hb).strs) hf1 (by omega) HH.out.sBig (by have := HH.out.le; omega)).mono fun _ _ ⟨r1, r2⟩ => ⟨r1, r2, below_then hb r2⟩
  have HET : Hid (∀ w0 w' s, Below w0.heap.size w0 w' → Calls Tryz.prog 23 #[.int .i64 0, .string s] w' fun r w'' => r = .returned (.string s) ∧ Below w0.heap.size w0 w'') := fun w0 w' s hb => (orElse_any 0 (by decide) s w').mono fun _ _ ⟨r1, r2⟩ => ⟨by rw [r1, if_pos rfl], below_then hb r2⟩
  have HDE : Hid (∀ w0 w' : World, Below w0.heap.size w0 w' → Calls Tryz.prog 19 #[.int .i64 (r : Nat)] w' fun q w'' => q = .returned (.string (bt (decL r))) ∧ Below w0.heap.size w0 w'') := fun w0 w' hb => (decimalM_any r (by omega) w').mono fun _ _ ⟨r1, r2⟩ => ⟨r1, below_then hb r2⟩
  have HTG : Hid (∀ w', Below wa.heap.size wa w' → Calls Tryz.prog 66 #[.slice hp ys.length hc, .int .i64 (n : Nat)] w' fun r w'' => r = .returned (.agg #[.int .i64 0, .int .i64 (-1)]) ∧ Below w'.heap.size w' w'' ∧ Below wa.heap.size wa w'') := fun w' hb => (tableFault_any _ ys (n : Nat) w' 0 (-1) (HY.out.later hb) hf2 (by omega) hys (by omega)).mono fun _ _ ⟨r1, r2⟩ => ⟨r1, r2, below_then hb r2⟩
  generalize bt (decL r) = et at *
  clear hH hH' hba hk hY hM hf1 hf2
  go_enter Tryz.func30, Tryz.ntmps30
  go_wp2_with fail
  rw [← hwa]
  clear hwa
  go_region_held3 (fun w' => w'.cell? ⟨m, 1, none⟩ = some (.slice (some ⟨b, o, none⟩) xs.length c) ∧ w'.cell? ⟨W.heap.size, 1, none⟩ = some (.slice hp ys.length hc) ∧ w'.cell? ⟨W.heap.size, 2, none⟩ = some (.slice (some ⟨nb, no, none⟩) 1 nc) ∧ w'.cell? ⟨nb, no, none⟩ = some (.int .i64 (n : Nat)))
    (first | exact HC.out _ (by assumption))
    (first
      | (go_at_call 80; refine (HO1.out _ (by assumption)).mono ?_; rintro e w1 ⟨v1, rfl, hv1, hb1⟩)
      | (go_at_call 80; refine (HO2.out _ (by assumption)).mono ?_; rintro e w2 ⟨v2, rfl, hv2, hb2, hb2'⟩)
      | (go_at_call 37; refine (HM.out _ (by assumption) _ _ (hv1 _ (by assumption)) (by assumption)).mono ?_; rintro e w3 ⟨rfl, hb3⟩))
  have HB3 : Hid (Below wa.heap.size wa w3) := hb3
  obtain ⟨j1, j2, j3, j4⟩ := HC.out w3 hb3
  have hb3d : Below wa.heap.size wa w3.drew := below_drewN hb3 1
  have HAD : Hid (∀ ob, Below wa.heap.size wa (w3.alloc ob).drew) := fun ob => below_drewN (below_al hb3 ob) 1
  clear hb1 hb2 hb2' hv1 hv2 hb0 k0 k1 k2 hka hm1 HO1 HO2 HM
  go_wp2_with fail
  go_region_held3 (fun w' => w'.cell? ⟨m, 1, none⟩ = some (.slice (some ⟨b, o, none⟩) xs.length c) ∧ w'.cell? ⟨W.heap.size, 1, none⟩ = some (.slice hp ys.length hc) ∧ w'.cell? ⟨W.heap.size, 2, none⟩ = some (.slice (some ⟨nb, no, none⟩) 1 nc) ∧ w'.cell? ⟨nb, no, none⟩ = some (.int .i64 (n : Nat)))
    (first | exact HC.out _ (by first | assumption | exact below_al (by assumption) _ | exact HAD.out _ | exact ((by assumption : Below wa.heap.size wa w4).setCell HB3.out.size _).setCell HB3.out.size _))
    (first
      | (go_at_call 66; refine (HTF.out _ (by first | assumption | exact HAD.out _)).mono ?_; rintro e w4 ⟨rfl, hb4, hb4'⟩; try (have hcf := al_cells hb4; obtain ⟨c0, c1, f0, f1⟩ := hcf)))
  · have kf : (w4.alloc (.cells #[.int .i64 0, .int .i64 (-1)] 59)).cell? ⟨w4.heap.size, 0, none⟩ = some (.int .i64 0) := by simp
    have hb5 := below_al hb4' (.cells #[.int .i64 0, .int .i64 (-1)] 59)
    have kg : (w4.alloc (.cells #[.int .i64 0, .int .i64 (-1)] 59)).cell? ⟨w4.heap.size, 1, none⟩ = some (.int .i64 (-1)) := by simp
    have fz0 : (w4.alloc (.cells #[.int .i64 0, .int .i64 (-1)] 59)).frozen? ⟨w4.heap.size, 0, none⟩ = false := by simp
    have fz1 : (w4.alloc (.cells #[.int .i64 0, .int .i64 (-1)] 59)).frozen? ⟨w4.heap.size, 1, none⟩ = false := by simp
    have hfl : w4.heap.size < (w4.alloc (.cells #[.int .i64 0, .int .i64 (-1)] 59)).heap.size := by simp
    have hfb := hb4'.size
    generalize (w4.alloc (.cells #[.int .i64 0, .int .i64 (-1)] 59)) = w5 at *
    generalize w4.heap.size = fb at *
    have HB5 : Hid (Below wa.heap.size wa w5) := hb5
    have HFB : Hid (wa.heap.size ≤ fb) := hfb
    have HCE : Hid (∀ w', Below wa.heap.size wa w' → w'.cell? ⟨W.heap.size, 1, none⟩ = some (.slice hp ys.length hc) ∧ w'.cell? ⟨W.heap.size, 2, none⟩ = some (.slice (some ⟨nb, no, none⟩) 1 nc) ∧ w'.cell? ⟨nb, no, none⟩ = some (.int .i64 (n : Nat))) := fun w' hb => (HC.out w' hb).2
    have HF5 : Hid (∀ w', Below w5.drew.heap.size w5.drew w' → w'.cell? ⟨fb, 0, none⟩ = some (.int .i64 0) ∧ w'.cell? ⟨fb, 1, none⟩ = some (.int .i64 (-1)) ∧ w'.frozen? ⟨fb, 0, none⟩ = false ∧ w'.frozen? ⟨fb, 1, none⟩ = false) := fun w' hb => ⟨below_cell (below_of_drew hb) kf, below_cell (below_of_drew hb) kg, by rw [(below_of_drew hb).frozen hfl]; exact fz0, by rw [(below_of_drew hb).frozen hfl]; exact fz1⟩
    have hd5 : Below wa.heap.size wa w5.drew := below_drewN hb5 1
    obtain ⟨i1, i2, i3⟩ := HCE.out w5 hb5
    clear hb4 hb4' hb5 hb3d HAD HC HTF HB3 j1 j2 j3 j4 hb3 kg hfl fz0 fz1 hfb
    go_wp2_with fail
    go_region_held3 (fun w' => w'.cell? ⟨W.heap.size, 1, none⟩ = some (.slice hp ys.length hc) ∧ w'.cell? ⟨W.heap.size, 2, none⟩ = some (.slice (some ⟨nb, no, none⟩) 1 nc) ∧ w'.cell? ⟨nb, no, none⟩ = some (.int .i64 (n : Nat)))
      (first | exact HCE.out _ (by first | assumption | exact ((by assumption : Below wa.heap.size wa w6).setCell HFB.out _).setCell HFB.out _))
      (first
        | (go_at_call 66; refine (HTG.out _ (by assumption)).mono ?_; rintro e w6 ⟨rfl, hb6, hb6'⟩; obtain ⟨c0, c1, f0, f1⟩ := HF5.out _ hb6))
    have kh : ((w6.setCell ⟨fb, 0, none⟩ (.int .i64 0)).setCell ⟨fb, 1, none⟩ (.int .i64 (-1))).cell? ⟨fb, 0, none⟩ = some (.int .i64 0) := by simp [go_sem, c0]
    have hb7 : Below wa.heap.size wa ((w6.setCell ⟨fb, 0, none⟩ (.int .i64 0)).setCell ⟨fb, 1, none⟩ (.int .i64 (-1))) := (hb6'.setCell HFB.out _).setCell HFB.out _
    generalize ((w6.setCell ⟨fb, 0, none⟩ (.int .i64 0)).setCell ⟨fb, 1, none⟩ (.int .i64 (-1))) = w7 at *
    have HB7 : Hid (∀ w', Below w7.heap.size w7 w' → Below wa.heap.size wa w') := fun w' hb => below_then hb7 hb
    have HF7 : Hid (∀ w', Below w7.heap.size w7 w' → w'.cell? ⟨fb, 0, none⟩ = some (.int .i64 0)) := fun w' hb => below_cell hb kh
    have hd7 : Below w7.heap.size w7 w7.drew := below_drewN (Below.refl _ _) 1
    clear hb6 hb6' c0 c1 f0 f1 hb7 HB5 hd5 i1 i2 i3 kf HCE HTG HF5
    go_wp2_with fail
    go_region_held3 (fun w' => w'.cell? ⟨fb, 0, none⟩ = some (.int .i64 0))
      (first | exact HF7.out _ (by assumption))
      (first
        | (go_at_call 19; refine (HDE.out w7 _ (by assumption)).mono ?_; rintro e w8 ⟨rfl, hb8⟩)
        | (go_at_call 23; refine (HET.out w7 _ _ (by assumption)).mono ?_; rintro e w9 ⟨rfl, hb9⟩))
    all_goals
      go_wp2
      go_ret
      exact ⟨rfl, below_then HBA.out (HB7.out _ (by assumption))⟩
  · have kf : ((w4.setCell ⟨w3.heap.size, 0, none⟩ (.int .i64 0)).setCell ⟨w3.heap.size, 1, none⟩ (.int .i64 (-1))).cell? ⟨w3.heap.size, 0, none⟩ = some (.int .i64 0) := by simp [go_sem, c0]
    have hb5 : Below wa.heap.size wa ((w4.setCell ⟨w3.heap.size, 0, none⟩ (.int .i64 0)).setCell ⟨w3.heap.size, 1, none⟩ (.int .i64 (-1))) := (hb4'.setCell HB3.out.size _).setCell HB3.out.size _
    have kg : ((w4.setCell ⟨w3.heap.size, 0, none⟩ (.int .i64 0)).setCell ⟨w3.heap.size, 1, none⟩ (.int .i64 (-1))).cell? ⟨w3.heap.size, 1, none⟩ = some (.int .i64 (-1)) := by simp [go_sem, c1]
    have fz0 : ((w4.setCell ⟨w3.heap.size, 0, none⟩ (.int .i64 0)).setCell ⟨w3.heap.size, 1, none⟩ (.int .i64 (-1))).frozen? ⟨w3.heap.size, 0, none⟩ = false := by simp [World.frozen?_setCell, f0]
    have fz1 : ((w4.setCell ⟨w3.heap.size, 0, none⟩ (.int .i64 0)).setCell ⟨w3.heap.size, 1, none⟩ (.int .i64 (-1))).frozen? ⟨w3.heap.size, 1, none⟩ = false := by simp [World.frozen?_setCell, f1]
    have hfl : w3.heap.size < ((w4.setCell ⟨w3.heap.size, 0, none⟩ (.int .i64 0)).setCell ⟨w3.heap.size, 1, none⟩ (.int .i64 (-1))).heap.size := by simpa using World.block_lt_of_cell? w4 ⟨w3.heap.size, 0, none⟩ c0
    have hfb := HB3.out.size
    generalize ((w4.setCell ⟨w3.heap.size, 0, none⟩ (.int .i64 0)).setCell ⟨w3.heap.size, 1, none⟩ (.int .i64 (-1))) = w5 at *
    generalize w3.heap.size = fb at *
    have HB5 : Hid (Below wa.heap.size wa w5) := hb5
    have HFB : Hid (wa.heap.size ≤ fb) := hfb
    have HCE : Hid (∀ w', Below wa.heap.size wa w' → w'.cell? ⟨W.heap.size, 1, none⟩ = some (.slice hp ys.length hc) ∧ w'.cell? ⟨W.heap.size, 2, none⟩ = some (.slice (some ⟨nb, no, none⟩) 1 nc) ∧ w'.cell? ⟨nb, no, none⟩ = some (.int .i64 (n : Nat))) := fun w' hb => (HC.out w' hb).2
    have HF5 : Hid (∀ w', Below w5.drew.heap.size w5.drew w' → w'.cell? ⟨fb, 0, none⟩ = some (.int .i64 0) ∧ w'.cell? ⟨fb, 1, none⟩ = some (.int .i64 (-1)) ∧ w'.frozen? ⟨fb, 0, none⟩ = false ∧ w'.frozen? ⟨fb, 1, none⟩ = false) := fun w' hb => ⟨below_cell (below_of_drew hb) kf, below_cell (below_of_drew hb) kg, by rw [(below_of_drew hb).frozen hfl]; exact fz0, by rw [(below_of_drew hb).frozen hfl]; exact fz1⟩
    have hd5 : Below wa.heap.size wa w5.drew := below_drewN hb5 1
    obtain ⟨i1, i2, i3⟩ := HCE.out w5 hb5
    clear hb4 hb4' hb5 hb3d HAD HC HTF HB3 j1 j2 j3 j4 hb3 kg hfl fz0 fz1 hfb
    go_wp2_with fail
    go_region_held3 (fun w' => w'.cell? ⟨W.heap.size, 1, none⟩ = some (.slice hp ys.length hc) ∧ w'.cell? ⟨W.heap.size, 2, none⟩ = some (.slice (some ⟨nb, no, none⟩) 1 nc) ∧ w'.cell? ⟨nb, no, none⟩ = some (.int .i64 (n : Nat)))
      (first | exact HCE.out _ (by first | assumption | exact ((by assumption : Below wa.heap.size wa w6).setCell HFB.out _).setCell HFB.out _))
      (first
        | (go_at_call 66; refine (HTG.out _ (by assumption)).mono ?_; rintro e w6 ⟨rfl, hb6, hb6'⟩; obtain ⟨c0, c1, f0, f1⟩ := HF5.out _ hb6))
    have kh : ((w6.setCell ⟨fb, 0, none⟩ (.int .i64 0)).setCell ⟨fb, 1, none⟩ (.int .i64 (-1))).cell? ⟨fb, 0, none⟩ = some (.int .i64 0) := by simp [go_sem, c0]
    have hb7 : Below wa.heap.size wa ((w6.setCell ⟨fb, 0, none⟩ (.int .i64 0)).setCell ⟨fb, 1, none⟩ (.int .i64 (-1))) := (hb6'.setCell HFB.out _).setCell HFB.out _
    generalize ((w6.setCell ⟨fb, 0, none⟩ (.int .i64 0)).setCell ⟨fb, 1, none⟩ (.int .i64 (-1))) = w7 at *
    have HB7 : Hid (∀ w', Below w7.heap.size w7 w' → Below wa.heap.size wa w') := fun w' hb => below_then hb7 hb
    have HF7 : Hid (∀ w', Below w7.heap.size w7 w' → w'.cell? ⟨fb, 0, none⟩ = some (.int .i64 0)) := fun w' hb => below_cell hb kh
    have hd7 : Below w7.heap.size w7 w7.drew := below_drewN (Below.refl _ _) 1
    clear hb6 hb6' c0 c1 f0 f1 hb7 HB5 hd5 i1 i2 i3 kf HCE HTG HF5
    go_wp2_with fail
    go_region_held3 (fun w' => w'.cell? ⟨fb, 0, none⟩ = some (.int .i64 0))
      (first | exact HF7.out _ (by assumption))
      (first
        | (go_at_call 19; refine (HDE.out w7 _ (by assumption)).mono ?_; rintro e w8 ⟨rfl, hb8⟩)
        | (go_at_call 23; refine (HET.out w7 _ _ (by assumption)).mono ?_; rintro e w9 ⟨rfl, hb9⟩))
    all_goals
      go_wp2
      go_ret
      exact ⟨rfl, below_then HBA.out (HB7.out _ (by assumption))⟩
end Go.Proofs.YtfhmfjcpggddkaaGreatDoor
