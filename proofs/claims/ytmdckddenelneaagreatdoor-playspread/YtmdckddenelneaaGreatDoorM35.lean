/- The landed Text. -/
import Derived.Test.YtmdckddenelneaaGreatDoorCbChk
import Derived.Test.YtmdckddenelneaaGreatDoorM33
import Derived.Test.YtmdckddenelneaaGreatDoorM34
import Derived.Deep.RegionHeld3
import Derived.Test.YtmdckddenelneaaGreatDoorM24
import Derived.Test.YtmdckddenelneaaGreatDoorM29
import Derived.Test.YtmdckddenelneaaGreatDoorFlL4
import Derived.Test.YtmdckddenelneaaGreatDoorM25
namespace Go.Proofs.YtmdckddenelneaaGreatDoor
open Go.RowKit
theorem ErrIs.zero {a : Nat → Addr} {W : World} {pl : Int} {v : Value} (h : ErrIs a W 0 pl v) : v = .nilIface := by
  rcases h with ⟨_, _, h⟩ | ⟨i, _, h, _⟩
  · exact h
  · exact absurd h (by omega)
theorem ErrIs.box {a : Nat → Addr} {W : World} {c : Nat} {pl : Int} {v : Value} (h : ErrIs a W c pl v) (hc : c ≠ 0) : ∃ t p, v = .iface t p := by
  rcases h with ⟨h, _⟩ | ⟨i, _, _, ⟨_, h⟩ | ⟨b, h, _⟩⟩
  · exact absurd h hc
  · exact ⟨_, _, h⟩
  · exact ⟨_, _, h⟩
/-- one line more -/
theorem line_step {l : List Lh.Fl} {i : Nat} (hil : i < l.length) (hg : GoodF l i hil) (hin : FlIn l) : ∃ (k : Nat) (s : ByteArray) (q : Nat), (l[i]).1 = k ∧ (l[i]).2.1 = s ∧ (l[i]).2.2 = (q : Int) ∧ k < 18446744073709551616 ∧ q < 100000000000000 ∧ (Lh.joinL 32 [Lh.hexL 16 k, s.data.toList, Lh.decL q]).length ≤ 92 ∧
    ∀ H : List UInt8, H ++ Lh.rowsB (l.take (i + 1)) = H ++ Lh.rowsB (l.take i) ++ (Lh.joinL 32 [Lh.hexL 16 k, s.data.toList, Lh.decL q] ++ [10]) := by
  obtain ⟨g1, g2, g3, _⟩ := hg
  have hnm := (nm_word g1).2.2.2
  have hx := (hin _ (List.getElem_mem hil)).1
  have hl := Lh.lineF_len (x := l[i]) (by omega) (by omega)
  have hr := Lh.rowsB_take hil
  obtain ⟨x, ex⟩ : ∃ x, l[i]'hil = x := ⟨_, rfl⟩
  rw [ex] at g1 g2 g3 hx hl hr
  rw [ex]
  clear ex hnm
  obtain ⟨k, s, u⟩ := x
  obtain ⟨q, rfl⟩ : ∃ q : Nat, u = (q : Int) := ⟨u.toNat, by simp only at g2; omega⟩
  refine ⟨k, s, q, rfl, rfl, rfl, hx, by simp only at g3; omega, ?_, fun H => ?_⟩
  · simpa [Lh.lineF] using hl
  · rw [hr, ← List.append_assoc]
    simp [Lh.lineF]
set_option maxRecDepth 100000 in
set_option maxHeartbeats 2000000 in
theorem text_carry {a : Nat → Addr} (e : Int) (v : Value) (l : List Lh.Fl) (W : World) (he : EC a W) (hv : Flows1 W v l) (hl : l.length ≤ 201) (hin : FlIn l) :
    Calls Tryz.prog 157 #[.int .i64 e, v] W fun r w' => ∃ c pl, CaF e l c pl ∧ Below W.heap.size W w' ∧
      ((c = 0 ∧ r = .returned (.tuple #[.string (Lh.bt (Lh.textL e.toNat l)), .nilIface])) ∨
       (c ≠ 0 ∧ ∃ ev, r = .returned (.tuple #[.string ByteArray.empty, ev]) ∧ ErrIs a w' c pl ev ∧ ev ≠ .nilIface)) := by
  have hck := check_carry e v l W he hv (by omega) (fun x hx => ⟨(hin x hx).1, by have := (hin x hx).2.1; omega, (hin x hx).2.2⟩)
  obtain ⟨p, cp, rfl, hc⟩ := hv.cells
  have HC : Hid _ := hc
  have HE : Hid (EC a W) := he
  have HI : Hid (FlIn l) := hin
  clear hc hv he hin
  go_enter Tryz.func157, Tryz.ntmps157
  go_wp2_with fail
  refine hck.mono ?_
  rintro r w1 ⟨c, pl, ev, rfl, hcf, herr, hnil, hb1⟩
  clear hck
  by_cases h0 : c = 0
  case neg =>
    obtain ⟨t, q, rfl⟩ := herr.box h0
    have HF : Hid (CaF e l c pl) := hcf
    have HR : Hid (ErrIs a w1 c pl (.iface t q)) := herr
    clear hcf herr hnil
    go_wp2
    go_ret2
    exact ⟨c, pl, HF.out, hb1, Or.inr ⟨h0, _, rfl, HR.out, by simp⟩⟩
  subst h0
  obtain rfl := herr.zero
  have HF : Hid (CaF e l 0 pl) := hcf
  obtain ⟨⟨he0, he1, hl2⟩, hgood, rfl⟩ := caF_good hcf
  obtain ⟨n, rfl⟩ := Int.eq_ofNat_of_zero_le he0
  have HGD : Hid (∀ j, ∀ hj : j < l.length, GoodF l j hj) := hgood
  clear hcf herr hnil hgood he0
  have hlen : ∀ i, (Lh.headL n l.length ++ [10] ++ Lh.rowsB (l.take i)).length ≤ 19000 := fun i => by
    have h1 := Lh.headL_len (e := n) (n := l.length) (by omega) (by omega)
    have h2 := Lh.rowsB_len (l := l.take i) (fun x hx => by
      obtain ⟨j, hj, rfl⟩ := List.getElem_of_mem (List.mem_of_mem_take hx)
      obtain ⟨g1, g2, g3, _⟩ := HGD.out j hj
      have := (nm_word g1).2.2.2
      exact ⟨by omega, by omega⟩)
    have h3 : (l.take i).length ≤ 200 := by rw [List.length_take]; omega
    simp only [List.length_append, List.length_cons, List.length_nil]
    omega
  have HLEN : Hid (∀ i, (Lh.headL n l.length ++ [10] ++ Lh.rowsB (l.take i)).length ≤ 19000) := hlen
  clear hlen
  obtain ⟨B, hB⟩ : ∃ B, B = w1.heap.size := ⟨_, rfl⟩
  have hWB : W.heap.size ≤ B := by rw [hB]; exact hb1.size
  go_wp2_with fail
  have hp2 := Pg.made w1
  have hb2 : Below W.heap.size W (w1.alloc (.cells #[.pointer none, .slice none 0 0] 265)) := hb1.alloc hb1.size _
  have hB2 : B ≤ (w1.alloc (.cells #[.pointer none, .slice none 0 0] 265)).heap.size := by rw [hB]; simp
  rw [← hB] at hp2 ⊢
  generalize w1.alloc (.cells #[.pointer none, .slice none 0 0] 265) = w2 at *
  clear hb1 hB
  refine (itoa_any n (by omega) w2 (HE.out.later hb2)).mono ?_
  rintro r w3 ⟨rfl, hb3⟩
  dsimp only
  go_wp2_with fail
  refine (itoa_any l.length (by omega) w3 (HE.out.later (below_then hb2 hb3))).mono ?_
  rintro r w4 ⟨rfl, hb4⟩
  dsimp only
  have hb24 := below_then hb3 hb4
  have hp4 := hp2.later hb24
  have hbW4 := below_then hb2 hb24
  have hB4 : B ≤ w4.heap.size := Nat.le_trans hB2 hb24.size
  clear hb3 hb4 hb24 hp2 hb2 hB2
  go_wp2_with fail
  refine (line3_any B B [] Lh.flowsW (Lh.decL n) (Lh.decL l.length) w4 hp4 hB4 (by simp) (by
    have := Lh.headL_len (e := n) (n := l.length) (by omega) (by omega)
    have e1 : (Lh.joinL 32 [Lh.flowsW, Lh.decL n, Lh.decL l.length]).length = (Lh.headL n l.length).length := rfl
    omega)).mono ?_
  rintro r w5 ⟨rfl, hp5, hb5, _⟩
  have hbW5 : Below W.heap.size W w5 := hbW4.trans (hb5.mono hWB)
  have hB5 : B ≤ w5.heap.size := Nat.le_trans hB4 hb5.size
  have hp5' : Pg B B (Lh.headL n l.length ++ [10] ++ Lh.rowsB (l.take 0)) w5 := by
    have e1 : Lh.headL n l.length ++ [10] ++ Lh.rowsB (l.take 0) = [] ++ (Lh.joinL 32 [Lh.flowsW, Lh.decL n, Lh.decL l.length] ++ [10]) := by simp [Lh.headL, Lh.rowsB]
    rw [e1]
    exact hp5
  clear hp5 hb5 hbW4 hB4 hp4
  dsimp only
  go_wp2_with fail
  go_loopw [28] (fun u28 w' => Below W.heap.size W w' ∧ B ≤ w'.heap.size ∧ ∃ i : Nat, i ≤ l.length ∧ u28 = .int .i64 (i : Nat) ∧ Pg B B (Lh.headL n l.length ++ [10] ++ Lh.rowsB (l.take i)) w') (fun u28 _ => l.length - (intOf u28).toNat)
  case atStart => exact ⟨hbW5, hB5, 0, Nat.zero_le _, rfl, hp5'⟩
  case round =>
    obtain ⟨hb, hBr, i, hi, rfl, hpg⟩ := hrel
    have HPG : Hid (Pg B B (Lh.headL n l.length ++ [10] ++ Lh.rowsB (l.take i)) wr) := hpg
    clear hpg hbW5 hB5 hp5'
    by_cases hil : i < l.length
    · have hii : (i : Int) < (l.length : Int) := by omega
      obtain ⟨b, o, rfl, x0, x1, x2⟩ := HC.out i hil
      have x0' := below_cell hb x0
      have x1' := below_cell hb x1
      have x2' := below_cell hb x2
      obtain ⟨k, s, q, hk, hs, hq, hk64, hqb, hll, hrw⟩ := line_step hil (HGD.out i hil) HI.out
      rw [hk] at x0'
      rw [hs] at x1'
      rw [hq] at x2'
      have HRW : Hid (∀ H : List UInt8, H ++ Lh.rowsB (l.take (i + 1)) = H ++ Lh.rowsB (l.take i) ++ (Lh.joinL 32 [Lh.hexL 16 k, s.data.toList, Lh.decL q] ++ [10])) := hrw
      have HLL : Hid ((Lh.joinL 32 [Lh.hexL 16 k, s.data.toList, Lh.decL q]).length ≤ 92) := hll
      clear x0 x1 x2 hrw hll hq hk hs
      go_wp2_with fail
      have hb0 := (Below.refl wr.heap.size wr).alloc (Nat.le_refl _) (.cells #[.int .u64 (k : Nat), .string s, .int .i64 (q : Nat)] 82)
      have hh0 := heap_newC wr (.cells #[.int .u64 (k : Nat), .string s, .int .i64 (q : Nat)] 82)
      have hfb : B ≠ wr.heap.size := by have := HPG.out.base; omega
      generalize wr.alloc (.cells #[.int .u64 (k : Nat), .string s, .int .i64 (q : Nat)] 82) = wb at *
      have hbb : Below W.heap.size W wb := below_then hb hb0
      have hBb : B ≤ wb.heap.size := Nat.le_trans hBr hb0.size
      have hpb := HPG.out.later hb0
      have HCL : Hid (∀ W' : World, W'.heap[wr.heap.size]? = some (.cells #[.int .u64 (k : Nat), .string s, .int .i64 (q : Nat)] 82) → W'.cell? ⟨wr.heap.size, 0, none⟩ = some (.int .u64 (k : Nat)) ∧ W'.cell? ⟨wr.heap.size, 1, none⟩ = some (.string s) ∧ W'.cell? ⟨wr.heap.size, 2, none⟩ = some (.int .i64 (q : Nat))) := fun W' h => ⟨by rw [Lib.cell_of_heap h]; rfl, by rw [Lib.cell_of_heap h]; rfl, by rw [Lib.cell_of_heap h]; rfl⟩
      have HKC : Hid (∀ W' : World, Below wb.heap.size wb W' → W'.cell? ⟨wr.heap.size, 0, none⟩ = some (.int .u64 (k : Nat)) ∧ W'.cell? ⟨wr.heap.size, 1, none⟩ = some (.string s) ∧ W'.cell? ⟨wr.heap.size, 2, none⟩ = some (.int .i64 (q : Nat))) := fun W' h => HCL.out W' ((h.block _ (block_lt hh0)).trans hh0)
      have HXW : Hid (∀ W' : World, Below wb.heap.size wb W' → Calls Tryz.prog 185 #[.int .u64 (k : Nat), .int .i64 16] W' fun e w' => e = .returned (.string (Lh.bt (Lh.hexL 16 k))) ∧ Below wb.heap.size wb w') := fun W' h => (hexT_any k 16 (by decide) (by decide) (by omega) W' (HE.out.later (below_then hbb h))).mono fun _ _ ⟨q1, q2⟩ => ⟨q1, below_then h q2⟩
      have HDW : Hid (∀ W' : World, Below wb.heap.size wb W' → Calls Tryz.prog 184 #[.int .i64 (q : Nat)] W' fun e w' => e = .returned (.string (Lh.bt (Lh.decL q))) ∧ Below wb.heap.size wb w') := fun W' h => (itoa_any q (by omega) W' (HE.out.later (below_then hbb h))).mono fun _ _ ⟨q1, q2⟩ => ⟨q1, below_then h q2⟩
      have HLN : Hid (∀ W' : World, Below wb.heap.size wb W' → Calls Tryz.prog 183 #[.pointer (some ⟨B, 0, none⟩), .slice (some ⟨W'.heap.size, 0, none⟩) 3 3] (W'.alloc (.cells #[.string (Lh.bt (Lh.hexL 16 k)), .string s, .string (Lh.bt (Lh.decL q))] 9)) fun e w' => e = .returned (.tuple #[]) ∧ Pg B B (Lh.headL n l.length ++ [10] ++ Lh.rowsB (l.take (i + 1))) w' ∧ Below W.heap.size W w' ∧ B ≤ w'.heap.size ∧ (w'.cell? ⟨wr.heap.size, 0, none⟩ = some (.int .u64 (k : Nat)) ∧ w'.cell? ⟨wr.heap.size, 1, none⟩ = some (.string s) ∧ w'.cell? ⟨wr.heap.size, 2, none⟩ = some (.int .i64 (q : Nat)))) := fun W' h =>
        (line3_any B B _ (Lh.hexL 16 k) s.data.toList (Lh.decL q) W' (hpb.later h) (Nat.le_trans hBb h.size) (by have := HLEN.out i; omega) (by have := HLL.out; omega)).mono fun _ w' ⟨q1, q2, q3, q4⟩ => ⟨q1, by rw [HRW.out]; exact q2, (below_then hbb h).trans (q3.mono hWB), Nat.le_trans (Nat.le_trans hBb h.size) q3.size, HCL.out w' (q4 _ _ ((h.block _ (block_lt hh0)).trans hh0) (fun e => hfb (Option.some.inj e).symm) (fun c fz e => by cases e))⟩
      clear hpb hh0 hb0 hbb hBb HPG x0' x1' x2'
      go_region_held3 (fun w' => w'.cell? ⟨wr.heap.size, 0, none⟩ = some (.int .u64 (k : Nat)) ∧ w'.cell? ⟨wr.heap.size, 1, none⟩ = some (.string s) ∧ w'.cell? ⟨wr.heap.size, 2, none⟩ = some (.int .i64 (q : Nat)))
        (first | assumption | exact HKC.out _ (by assumption) | exact HKC.out _ (Below.refl _ _) | exact HKC.out _ (below_drewN (Below.refl _ _) 1) | exact HKC.out _ (Below.alloc (by assumption) (Below.size (by assumption)) _))
        (first
          | (go_at_call 185; refine (HXW.out _ (by first | assumption | exact Below.refl _ _ | exact below_drewN (Below.refl _ _) 1)).mono ?_; rintro e w7 ⟨rfl, hb7⟩)
          | (go_at_call 184; refine (HDW.out _ (by first | assumption | exact Below.refl _ _ | exact below_drewN (Below.refl _ _) 1)).mono ?_; rintro e w8 ⟨rfl, hb8⟩)
          | (go_at_call 183; refine (HLN.out _ (by assumption)).mono ?_; rintro e w9 ⟨rfl, hp9, hb9, hB9, hS9⟩))
      all_goals
        go_wp2
        exact ⟨⟨hb9, hB9, i + 1, by omega, by go_num, hp9⟩, by simp [intOf]; omega⟩
    · have hii : decide ((i : Int) < (l.length : Int)) = false := by simp; omega
      have hie : l.take i = l := List.take_of_length_le (by omega)
      have hpg : Pg B B (Lh.bodyL n l) wr := by
        have := HPG.out
        rw [hie] at this
        rw [Lh.body_rows]
        exact this
      have hbl : (Lh.bodyL n l).length ≤ 19000 := by
        have := HLEN.out i
        rw [hie] at this
        rw [Lh.body_rows]
        exact this
      have hne : Lh.bodyL n l ≠ [] := by
        rw [Lh.body_rows]
        simp
      have HTX : Hid (Lh.textL n l = Lh.bodyL n l ++ (Lh.joinL 32 [Lh.sumW, Lh.hexL 8 (Lh.crcL (Lh.bodyL n l))] ++ [10])) := by
        have e1 : Lh.textL n l = Lh.bodyL n l ++ (Lh.joinL 32 [Lh.sumW, Lh.hexL 8 (Lh.crcL (Lh.bodyL n l))] ++ [10]) := by
          rw [← List.append_assoc]
          rfl
        exact e1
      have hjl : (Lh.joinL 32 [Lh.sumW, Lh.hexL 8 (Lh.crcL (Lh.bodyL n l))]).length ≤ 100 := by
        have := Lh.hexL_len 8 (Lh.crcL (Lh.bodyL n l))
        simp [Lh.joinL, Lh.sumW, this]
      have hcr := Lh.crcL_lt (Lh.bodyL n l)
      clear HPG hie
      generalize Lh.bodyL n l = T at *
      generalize hcv : Lh.crcL T = cv at *
      have hst := pgString B B T wr hpg hne
      go_wp2_with fail
      refine hst.mono ?_
      rintro r w6 ⟨rfl, hp6, hb6⟩
      have hbW6 : Below W.heap.size W w6 := hb.trans (hb6.mono hWB)
      have hB6 : B ≤ w6.heap.size := Nat.le_trans hBr hb6.size
      clear hst hpg hb6
      dsimp only
      have hsm := sumOf_any T (by omega) w6
      rw [hcv] at hsm
      go_wp2_with fail
      refine hsm.mono ?_
      rintro r w7 ⟨rfl, rfl⟩
      clear hsm
      dsimp only
      have hcw : IntKind.u64.wrap (cv : Int) = (cv : Int) := by rw [IntKind.wrap_u64]; omega
      have hht := hexT_any cv 8 (by decide) (by decide) (by omega) w7 (HE.out.later hbW6)
      go_wp2_with fail
      refine hht.mono ?_
      rintro r w8 ⟨rfl, hb8⟩
      have hp8 := hp6.later hb8
      have hbW8 := below_then hbW6 hb8
      have hB8 : B ≤ w8.heap.size := Nat.le_trans hB6 hb8.size
      clear hht hp6 hbW6 hb8 hB6
      dsimp only
      have hln := line2_any B B T Lh.sumW (Lh.hexL 8 cv) w8 hp8 hB8 (by omega) (by omega)
      go_wp2_with fail
      refine hln.mono ?_
      rintro r w9 ⟨rfl, hp9, hb9, _⟩
      have hbW9 : Below W.heap.size W w9 := hbW8.trans (hb9.mono hWB)
      rw [← HTX.out] at hp9
      have hst2 := pgString B B (Lh.textL n l) w9 hp9 (by rw [HTX.out]; simp)
      clear hln hp8 hbW8 hb9 hB8 hp9
      dsimp only
      go_wp2_with fail
      refine hst2.mono ?_
      rintro r w10 ⟨rfl, hp10, hb10⟩
      have hbW10 : Below W.heap.size W w10 := hbW9.trans (hb10.mono hWB)
      clear hst2 hp10 hb10 hbW9
      dsimp only
      go_wp2
      go_ret2
      exact ⟨0, -1, HF.out, hbW10, Or.inl ⟨rfl, rfl⟩⟩
end Go.Proofs.YtmdckddenelneaaGreatDoor

/- The landed balance: Export. -/
namespace Go.Proofs.YtmdckddenelneaaGreatDoor
open Go.RowKit Go.Shelf Go.Maps Go.ChangeMaps

theorem flIn_of {S : Lh.Bl} (h : Lh.BOk S) : FlIn S.L := fun x hx => by
  have h1 := h.ok.key x hx
  have h2 := h.ok.lo x hx
  have h3 := h.hi x hx
  have h4 := (nm_word (h.host x hx)).2.2.2
  exact ⟨h1, by omega, by omega, by omega⟩
set_option maxHeartbeats 1000000 in
theorem check_bound {a : Nat → Addr} (e : Int) (p : Option Addr) (n c : Nat) (w : World) (he : EC a w) (h2 : 1099511627776 < e) :
    Calls Tryz.prog 182 #[.int .i64 e, .slice p n c] w fun r w' => r = .returned (.iface 331 (.pointer (some (a 1)))) ∧ w' = w := by
  have s1 := he.s1
  have d1 : decide (e < 0) = false := by simp; omega
  clear he
  go_enter Tryz.func182, Tryz.ntmps182
  go_wp2
  go_ret
  exact ⟨rfl, rfl⟩
set_option maxHeartbeats 1000000 in
theorem text_bound {a : Nat → Addr} (e : Int) (p : Option Addr) (n c : Nat) (w : World) (he : EC a w) (h2 : 1099511627776 < e) :
    Calls Tryz.prog 157 #[.int .i64 e, .slice p n c] w fun r w' => r = .returned (.tuple #[.string ByteArray.empty, .iface 331 (.pointer (some (a 1)))]) ∧ w' = w := by
  have hck := check_bound e p n c w he h2
  clear he h2
  go_enter Tryz.func157, Tryz.ntmps157
  go_wp2_with fail
  refine hck.mono ?_
  rintro r w1 ⟨rfl, rfl⟩
  clear hck
  go_wp2
  go_ret2
  exact ⟨rfl, rfl⟩
section
variable {W W' : World} {p hp fp fm db : Nat} {bs : List Nat} {lv : Value} {S : Lh.Bl}
set_option maxRecDepth 100000 in
set_option maxHeartbeats 4000000 in
/-- Export, at an epoch that can be told. -/
theorem export_good (a : Nat → Addr) (he : EC a W) (h : BR W p hp fp fm db bs lv S) (hk : Lh.BOk S) (hep : S.ep < 1099511627776) :
    Calls Tryz.prog 114 #[.pointer (some ⟨p, 0, none⟩)] W fun e w' => e = .returned (.tuple #[.string (Lh.bt (Lh.textL (S.ep + 1).toNat S.L)), .nilIface]) ∧ BR w' p hp fp fm db bs lv { S with ep := S.ep + 1 } ∧ Tur (BFt p hp fp fm db bs lv) W w' := by
  have HH : Hid (BR W p hp fp fm db bs lv S) := h
  have h0 := hk.ep0
  have hlen : S.L.length ≤ 200 := hk.ok.len
  have HLI : Hid (∀ w', Below W.heap.size W w' → Calls Tryz.prog 38 #[.pointer (some ⟨fp, 0, none⟩)] w' fun e w'' => ∃ v, e = .returned v ∧ Flows1 w'' v S.L ∧ Below W.heap.size W w'') := fun w' hb => (listF_flows (h.later hb).f hk.ok.rise (by omega)).mono fun _ _ ⟨v, q1, q2, q3⟩ => ⟨v, q1, q2, below_then hb q3⟩
  have HTX : Hid (∀ w' v, Below W.heap.size W w' → Flows1 w' v S.L → Calls Tryz.prog 157 #[.int .i64 (S.ep + 1), v] w' fun r w'' => r = .returned (.tuple #[.string (Lh.bt (Lh.textL (S.ep + 1).toNat S.L)), .nilIface]) ∧ Below W.heap.size W w'') := fun w' v hb hv => (text_carry (S.ep + 1) v S.L w' (he.later hb) hv (by omega) (flIn_of hk)).mono fun _ _ ⟨c, pl, q1, q2, q3⟩ => by
    obtain ⟨rfl, rfl⟩ := caF_one q1 (caF_of hk (by omega) (by omega))
    rcases q3 with ⟨_, rfl⟩ | ⟨h, _⟩
    · exact ⟨rfl, below_then hb q2⟩
    · exact absurd rfl h
  have hw : IntKind.i64.wrap (S.ep + 1) = S.ep + 1 := by simp [IntKind.wrap, IntKind.signed, IntKind.bits]; omega
  have H2 : Hid (∀ w', Below W.heap.size W w' → w'.cell? ⟨p, 2, none⟩ = some (.pointer (some ⟨fp, 0, none⟩))) := fun w' hb => (h.later hb).c2
  have H4 : Hid (∀ w', Below W.heap.size W w' → w'.cell? ⟨p, 4, none⟩ = some (.int .i64 S.ep)) := fun w' hb => (h.later hb).c4
  have hp4 : W.frozen? ⟨p, 4, none⟩ = false := h.fz 4
  have hpl := h.plt
  clear he h hk
  generalize Lh.bt (Lh.textL (S.ep + 1).toNat S.L) = tx at *
  go_enter Tryz.func114, Tryz.ntmps114
  go_wp2_with fail
  go_region_held3 (fun w' => Below W.heap.size W w' ∧ w'.cell? ⟨p, 2, none⟩ = some (.pointer (some ⟨fp, 0, none⟩)) ∧ w'.cell? ⟨p, 4, none⟩ = some (.int .i64 S.ep))
    (first | exact ⟨by assumption, H2.out _ (by assumption), H4.out _ (by assumption)⟩ | exact ⟨below_drewN (Below.refl _ _) 1, H2.out _ (below_drewN (Below.refl _ _) 1), H4.out _ (below_drewN (Below.refl _ _) 1)⟩)
    (first
      | (go_at_call 38; refine (HLI.out _ (by first | assumption | exact below_drewN (Below.refl _ _) 1)).mono ?_; rintro e w1 ⟨v, rfl, hv, hb1⟩)
      | (go_at_call 157; refine (HTX.out _ _ (by assumption) (by assumption)).mono ?_; rintro e w2 ⟨rfl, hb2⟩))
  all_goals
    have hB := HH.out.later hb2
    have HB : Hid (BR w2 p hp fp fm db bs lv S) := hB
    have c4 := hB.c4
    have f4 := hB.fz 4
    have HB2 : Hid (Below W.heap.size W w2) := hb2
    clear hB
    go_wp2
    go_ret2
    exact ⟨rfl, HB.out.epoch _, (Tur.of_below HB2.out).setCell _ (Or.inl (Or.inl rfl)) _⟩

set_option maxRecDepth 100000 in
set_option maxHeartbeats 4000000 in
/-- Export, at the last epoch. -/
theorem export_bad (a : Nat → Addr) (he : EC a W) (h : BR W p hp fp fm db bs lv S) (hk : Lh.BOk S) (hep : ¬ S.ep < 1099511627776) :
    Calls Tryz.prog 114 #[.pointer (some ⟨p, 0, none⟩)] W fun e w' => e = .returned (.tuple #[.string ByteArray.empty, .iface 331 (.pointer (some (a 1)))]) ∧ Below W.heap.size W w' := by
  have h1 := hk.ep1
  have hlen : S.L.length ≤ 200 := hk.ok.len
  have HLI : Hid (∀ w', Below W.heap.size W w' → Calls Tryz.prog 38 #[.pointer (some ⟨fp, 0, none⟩)] w' fun e w'' => ∃ q c, e = .returned (.slice q S.L.length c) ∧ Below W.heap.size W w'') := fun w' hb => (listF_flows (h.later hb).f hk.ok.rise (by omega)).mono fun _ _ ⟨v, q1, q2, q3⟩ => by
    obtain ⟨q, c, rfl⟩ := q2.shape
    exact ⟨q, c, q1, below_then hb q3⟩
  have HTX : Hid (∀ w' q c, Below W.heap.size W w' → Calls Tryz.prog 157 #[.int .i64 (S.ep + 1), .slice q S.L.length c] w' fun r w'' => r = .returned (.tuple #[.string ByteArray.empty, .iface 331 (.pointer (some (a 1)))]) ∧ Below W.heap.size W w'') := fun w' q c hb => (text_bound (S.ep + 1) q _ c w' (he.later hb) (by omega)).mono fun _ _ ⟨q1, q2⟩ => by
    subst q2
    exact ⟨q1, hb⟩
  have hw : IntKind.i64.wrap (S.ep + 1) = S.ep + 1 := by simp [IntKind.wrap, IntKind.signed, IntKind.bits]; omega
  have H2 : Hid (∀ w', Below W.heap.size W w' → w'.cell? ⟨p, 2, none⟩ = some (.pointer (some ⟨fp, 0, none⟩))) := fun w' hb => (h.later hb).c2
  have H4 : Hid (∀ w', Below W.heap.size W w' → w'.cell? ⟨p, 4, none⟩ = some (.int .i64 S.ep)) := fun w' hb => (h.later hb).c4
  clear he h hk
  go_enter Tryz.func114, Tryz.ntmps114
  go_wp2_with fail
  go_region_held3 (fun w' => Below W.heap.size W w' ∧ w'.cell? ⟨p, 2, none⟩ = some (.pointer (some ⟨fp, 0, none⟩)) ∧ w'.cell? ⟨p, 4, none⟩ = some (.int .i64 S.ep))
    (first | exact ⟨by assumption, H2.out _ (by assumption), H4.out _ (by assumption)⟩ | exact ⟨below_drewN (Below.refl _ _) 1, H2.out _ (below_drewN (Below.refl _ _) 1), H4.out _ (below_drewN (Below.refl _ _) 1)⟩)
    (first
      | (go_at_call 38; refine (HLI.out _ (by first | assumption | exact below_drewN (Below.refl _ _) 1)).mono ?_; rintro e w1 ⟨q, c, rfl, hb1⟩)
      | (go_at_call 157; refine (HTX.out _ _ _ (by assumption)).mono ?_; rintro e w2 ⟨rfl, hb2⟩))
  all_goals
    go_wp2
    go_ret2
    exact ⟨rfl, hb2⟩
end
end Go.Proofs.YtmdckddenelneaaGreatDoor

/- The landed flows: slices.IndexFunc of the first whose host is no name. -/
namespace Go.Proofs.YtmdckddenelneaaGreatDoor
open Go.RowKit Go.Maps Go.ChangeMaps Go.Shelf
section
variable {W W' : World} {p mb t : Nat} {la : Int} {L : List Lh.Fl}

set_option maxHeartbeats 2000000 in
theorem addC (a : Nat → Addr) (he : EF a W) (x : Lh.Fl) (hs : x.2.1.size ≤ 300) :
    Calls Tryz.prog 191 #[.agg #[.int .u64 (x.1 : Nat), .string x.2.1, .int .i64 x.2.2]] W fun e W' => e = .returned (.bool (!Lh.isNm x.2.1)) ∧ Below W.heap.size W W' := by
  have hb0 : Below W.heap.size W (W.alloc (.cells #[.int .u64 (x.1 : Nat), .string x.2.1, .int .i64 x.2.2] 82)) := (Below.refl _ _).alloc (Nat.le_refl _) _
  have hnm := isNameF_any a (he.later hb0) x.2.1 hs
  clear he
  generalize Lh.isNm x.2.1 = q at *
  go_enter Tryz.func191, Tryz.ntmps191
  go_wp2_with fail
  refine hnm.mono ?_
  rintro e w1 ⟨rfl, hb1⟩
  clear hnm
  go_wp2
  go_ret
  exact ⟨rfl, below_then hb0 hb1⟩

set_option maxRecDepth 100000 in
set_option maxHeartbeats 4000000 in
theorem indexF (a : Nat → Addr) (he : EF a W) (pv : Option Addr) (c : Nat) (l : List Lh.Fl) (hl : l.length ≤ 1000) (hin : ∀ x ∈ l, x.2.1.size ≤ 300)
    (hc : ∀ i (hi : i < l.length), ∃ b o, pv = some ⟨b, o, none⟩ ∧ W.cell? ⟨b, o + i * 3, none⟩ = some (.int .u64 (l[i].1 : Nat)) ∧ W.cell? ⟨b, o + i * 3 + 1, none⟩ = some (.string l[i].2.1) ∧ W.cell? ⟨b, o + i * 3 + 2, none⟩ = some (.int .i64 l[i].2.2)) :
    Calls Tryz.prog 190 #[.slice pv l.length c, .func (.func 191) #[] #[]] W fun e W' => Below W.heap.size W W' ∧ (((∀ x ∈ l, Lh.isNm x.2.1 = true) ∧ e = .returned (.int .i64 (-1))) ∨ ∃ i, NmAt l i ∧ e = .returned (.int .i64 (i : Nat))) := by
  have HC : Hid (∀ i (hi : i < l.length), ∃ b o, pv = some ⟨b, o, none⟩ ∧ W.cell? ⟨b, o + i * 3, none⟩ = some (.int .u64 (l[i].1 : Nat)) ∧ W.cell? ⟨b, o + i * 3 + 1, none⟩ = some (.string l[i].2.1) ∧ W.cell? ⟨b, o + i * 3 + 2, none⟩ = some (.int .i64 l[i].2.2)) := hc
  have HE : Hid (EF a W) := he
  have HI : Hid (∀ x ∈ l, x.2.1.size ≤ 300) := hin
  have eg := enters_of Tryz.func191 (by kernel_rfl) rfl
  clear hc he hin
  go_enter Tryz.func190, Tryz.ntmps190
  go_wp2_with fail
  go_loopw [5, 8] (fun _ u wr => Below W.heap.size W wr ∧ ∃ k : Nat, k ≤ l.length ∧ u = .int .i64 (k : Nat) ∧ ∀ j (hj : j < l.length), j < k → Lh.isNm (l[j]).2.1 = true) (fun _ u _ => l.length - (intOf u).toNat)
  case atStart => exact ⟨Below.refl _ _, 0, Nat.zero_le _, rfl, fun j _ h => absurd h (by omega)⟩
  case round =>
    obtain ⟨hb, k, hk, rfl, hp⟩ := hrel
    have HP : Hid (∀ j (hj : j < l.length), j < k → Lh.isNm (l[j]).2.1 = true) := hp
    clear hp
    by_cases hlt : k < l.length
    · have hki : (k : Int) < (l.length : Int) := by omega
      obtain ⟨b, o, rfl, x0, x1, x2⟩ := HC.out k hlt
      replace x0 := below_cell hb x0
      replace x1 := below_cell hb x1
      replace x2 := below_cell hb x2
      have hsz := HI.out _ (List.getElem_mem hlt)
      obtain ⟨x, hx⟩ : ∃ x, l[k] = x := ⟨_, rfl⟩
      rw [hx] at x0 x1 x2 hsz
      have HX : Hid (l[k] = x) := hx
      have hcall := addC a (HE.out.later hb) x hsz
      clear hx hsz
      cases hn : Lh.isNm x.2.1 with
      | true =>
        rw [hn] at hcall
        simp only [Bool.not_true] at hcall
        have HN : Hid (∀ j (hj : j < l.length), j < k + 1 → Lh.isNm (l[j]).2.1 = true) := fun j hj h => by
          by_cases e : j = k
          · subst e; rw [HX.out]; exact hn
          · exact HP.out j hj (by omega)
        clear hn
        go_wp2_with fail
        refine hcall.mono ?_
        rintro e w1 ⟨rfl, hb1⟩
        have hbW : Below W.heap.size W w1 := below_then hb hb1
        clear hcall hb1 x0 x1 x2
        go_wp2
        exact ⟨⟨hbW, k + 1, by omega, by go_num, HN.out⟩, by simp [intOf]; omega⟩
      | false =>
        rw [hn] at hcall
        simp only [Bool.not_false] at hcall
        have HN : Hid (NmAt l k) := ⟨hlt, by rw [HX.out]; exact hn, fun j hj h => HP.out j hj h⟩
        clear hn
        go_wp2_with fail
        refine hcall.mono ?_
        rintro e w1 ⟨rfl, hb1⟩
        have hbW : Below W.heap.size W w1 := below_then hb hb1
        clear hcall hb1 x0 x1 x2
        go_wp2
        go_ret
        exact ⟨hbW, Or.inr ⟨k, HN.out, rfl⟩⟩
    · obtain rfl : k = l.length := by omega
      have HA : Hid (∀ x ∈ l, Lh.isNm x.2.1 = true) := fun x hx => by
        obtain ⟨j, hj, rfl⟩ := List.getElem_of_mem hx
        exact HP.out j hj hj
      go_wp2
      go_ret
      exact ⟨hb, Or.inl ⟨HA.out, rfl⟩⟩
set_option maxHeartbeats 2000000 in
theorem addF_bad (a : Nat → Addr) (he : EF a W) (h : FR W p mb t la L) (pv : Option Addr) (n c : Nat) (now : Int) (j : Nat) (hf : TickF la now j) :
    Calls Tryz.prog 161 #[.pointer (some ⟨p, 0, none⟩), .slice pv n c, .int .i64 now] W fun e W' => e = .returned (.tuple #[.int .i64 0, .iface 331 (.pointer (some (a j)))]) ∧ Below W.heap.size W W' := by
  have hchk := checkF_bad a he h now j hf
  clear h he
  go_enter Tryz.func161, Tryz.ntmps161
  go_wp2_with fail
  refine hchk.mono ?_
  rintro e w1 ⟨rfl, hb1⟩
  clear hchk
  go_wp2
  go_ret2
  exact ⟨rfl, hb1⟩

end
end Go.Proofs.YtmdckddenelneaaGreatDoor
