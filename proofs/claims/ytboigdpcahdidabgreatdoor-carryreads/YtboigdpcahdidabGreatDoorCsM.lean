/- The model's small functions of texts: Decimal, Seal. -/
import Derived.Test.YtboigdpcahdidabGreatDoorCrM
import Derived.Test.YtboigdpcahdidabGreatDoorMbM
import Derived.Test.YtboigdpcahdidabGreatDoorFcM
import Derived.Deep.RegionHeld3
import Derived.BigQuiet
import Derived.Deep.QuietTactic
import Derived.Test.YtboigdpcahdidabGreatDoorMaM
namespace Go.Proofs.YtboigdpcahdidabGreatDoor
open Go.RowKit

set_option maxRecDepth 100000 in
set_option maxHeartbeats 1000000 in
theorem belowM_any (n : Nat) : ∀ (_h : n < 1000000000000000) (W : World),
    Calls Tryz.prog 94 #[.int .i64 (-(n : Int))] W fun e w' => e = .returned (.string (Lh.bt (Lh.decL n))) ∧ Below W.heap.size W w' := by
  induction n using Nat.strongRecOn with
  | ind n ih =>
    intro h W
    go_enter Tryz.func94, Tryz.ntmps94
    by_cases hs : n < 10
    · have hd : decide (-(n : Int) > -10) = true := by simp; omega
      have HB : ∀ W, Calls Tryz.prog 126 #[.int .i64 (48 + (n : Int))] W fun e w' => e = .returned (.string (Lh.bt [UInt8.ofNat (48 + n)])) ∧ Below W.heap.size W w' := by
        intro W
        have e : ((48 + n : Nat) : Int) = 48 + (n : Int) := by omega
        rw [← e]
        exact byteM_any _ (by omega) W
      have HD : Hid (Lh.bt (Lh.decL n) = Lh.bt [UInt8.ofNat (48 + n)]) := by
        show _ = _
        rw [Lh.decL_small hs]
        rfl
      go_wp2_with fail
      refine (HB W).mono ?_
      rintro e w' ⟨rfl, hb⟩
      dsimp only
      go_wp2
      go_ret
      exact ⟨by rw [HD.out]; rfl, hb⟩
    · have hd : decide (-(n : Int) > -10) = false := by simp; omega
      have hd2 : decide ((n : Int) < 10) = false := by simp; omega
      have HI : ∀ W, Calls Tryz.prog 94 #[.int .i64 (-((n / 10 : Nat) : Int))] W fun e w' => e = .returned (.string (Lh.bt (Lh.decL (n / 10)))) ∧ Below W.heap.size W w' := fun W => ih (n / 10) (by omega) (by omega) W
      have HB : ∀ W, Calls Tryz.prog 126 #[.int .i64 (48 + ((n % 10 : Nat) : Int))] W fun e w' => e = .returned (.string (Lh.bt [UInt8.ofNat (48 + n % 10)])) ∧ Below W.heap.size W w' := by
        intro W
        have e : ((48 + n % 10 : Nat) : Int) = 48 + ((n % 10 : Nat) : Int) := by omega
        rw [← e]
        exact byteM_any _ (by omega) W
      have HD : Hid (Lh.bt (Lh.decL n) = Lh.bt (Lh.decL (n / 10)) ++ Lh.bt [UInt8.ofNat (48 + n % 10)]) := by
        show _ = _
        rw [Lh.decL_big hs, Lh.bt_append]
        rfl
      have hl : (Lh.decL (n / 10)).length ≤ 15 := Lh.decL_len (by decide) (by omega)
      have hsz1 : (Lh.bt (Lh.decL (n / 10))).size ≤ 15 := by rw [Lh.bt_size]; exact hl
      have hsz2 : (Lh.bt [UInt8.ofNat (48 + n % 10)]).size = 1 := Lh.bt_size _
      clear hl
      have HI2 : ∀ W, Calls Tryz.prog 94 #[.int .i64 (-((n : Int) / 10))] W fun e w' => e = .returned (.string (Lh.bt (Lh.decL (n / 10)))) ∧ Below W.heap.size W w' := HI
      have HB2 : ∀ W, Calls Tryz.prog 126 #[.int .i64 (48 + (n : Int) % 10)] W fun e w' => e = .returned (.string (Lh.bt [UInt8.ofNat (48 + n % 10)])) ∧ Below W.heap.size W w' := HB
      have hq : (-(n : Int)).tdiv 10 = -((n / 10 : Nat) : Int) := by
        rw [Int.neg_tdiv]; rfl
      have hr : (-(n : Int)).tmod 10 = -((n % 10 : Nat) : Int) := by
        rw [Int.neg_tmod]; rfl
      generalize Lh.bt (Lh.decL (n / 10)) = y at *
      generalize Lh.bt [UInt8.ofNat (48 + n % 10)] = x at *
      have hnd : n / 10 < 1000000000000000 := by omega
      have hnm : n % 10 < 10 := by omega
      go_wp2_with fail
      refine (HI2 W).mono ?_
      rintro e w1 ⟨rfl, hb1⟩
      dsimp only
      go_wp2_with fail
      refine (HB2 w1).mono ?_
      rintro e w2 ⟨rfl, hb2⟩
      dsimp only
      go_wp2
      go_ret
      exact ⟨by rw [HD.out]; rfl, below_then hb1 hb2⟩
theorem decimalM_any (n : Nat) (h : n < 1000000000000000) (W : World) :
    Calls Tryz.prog 62 #[.int .i64 (n : Nat)] W fun e w' => e = .returned (.string (Lh.bt (Lh.decL n))) ∧ Below W.heap.size W w' := by
  go_enter Tryz.func62, Tryz.ntmps62
  have hd : decide ((n : Int) < 0) = false := by simp
  go_wp2_with fail
  refine (belowM_any n h W).mono ?_
  rintro e w1 ⟨rfl, hb1⟩
  dsimp only
  go_wp2
  go_ret
  exact ⟨rfl, hb1⟩
set_option maxHeartbeats 1000000 in
theorem sealM_any (s : List UInt8) (hs : s.length ≤ 100000) (W : World) :
    Calls Tryz.prog 29 #[.string (Lh.bt s)] W fun e w' => e = .returned (.string (Lh.bt (s ++ Lh.sumL s ++ [10]))) ∧ w' = W := by
  go_enter Tryz.func29, Tryz.ntmps29
  have hsz := Lh.bt_size s
  have hc := Lh.crcL_lt s
  have hsz2 := Lh.bt_size (Lh.hexL 8 (Lh.crcL s))
  have hl := Lh.hexL_len 8 (Lh.crcL s)
  go_wp2_with fail
  refine (crcM_any s hs W).mono ?_
  rintro e w1 ⟨rfl, rfl⟩
  dsimp only
  go_wp2_with fail
  refine (hexM_any (Lh.crcL s) 8 (by omega) (by decide) _).mono ?_
  rintro e w1 ⟨rfl, rfl⟩
  dsimp only
  go_wp2
  go_ret
  have E : Lh.bt s ++ Lh.bt [115, 117, 109, 32] ++ Lh.bt (Lh.hexL 8 (Lh.crcL s)) ++ Lh.bt [10] = Lh.bt (s ++ Lh.sumL s ++ [10]) := by
    rw [Lh.bt_append, Lh.bt_append, Lh.bt_append]
    congr 1
    simp [Lh.sumL, Lh.joinL, Lh.sumW]
  exact ⟨congrArg (fun x => Ending.returned (.string x)) E, rfl⟩
end Go.Proofs.YtboigdpcahdidabGreatDoor

/- The model's text of flows. -/
namespace Go.Proofs.YtboigdpcahdidabGreatDoor
open Go.RowKit

namespace Lh
theorem line_bt (p : List UInt8) (x : Fl) : bt p ++ bt (hexL 16 x.1) ++ bt [32] ++ x.2.1 ++ bt [32] ++ bt (decL x.2.2.toNat) ++ bt [10] = bt (p ++ (lineF x ++ [10])) := by
  have e : x.2.1 = bt x.2.1.data.toList := rfl
  rw [e]
  rw [bt_append, bt_append, bt_append, bt_append, bt_append, bt_append]
  congr 1
  simp [lineF, joinL]
theorem head_bt (e n : Nat) : bt [102, 108, 111, 119, 115, 32] ++ bt (decL e) ++ bt [32] ++ bt (decL n) ++ bt [10] = bt (headL e n ++ [10]) := by
  rw [bt_append, bt_append, bt_append, bt_append]
  congr 1
  simp [headL, joinL, flowsW]
end Lh
/-- Flows that a text can hold. -/
def CanT (L : List Lh.Fl) : Prop := ∀ x ∈ L, x.1 < 18446744073709551616 ∧ x.2.1.size ≤ 60 ∧ 0 ≤ x.2.2 ∧ x.2.2.toNat < 100000000000000

set_option maxRecDepth 100000 in
set_option maxHeartbeats 2000000 in
theorem textM_any (e : Nat) (he : e < 100000000000000) (v : Value) (L : List Lh.Fl) (W : World) (hv : Flows1 W v L) (hl : L.length ≤ 201) (hs : CanT L) :
    Calls Tryz.prog 28 #[.int .i64 (e : Nat), v] W fun r w' => r = .returned (.string (Lh.bt (Lh.textL e L))) ∧ Below W.heap.size W w' := by
  obtain ⟨p, c, rfl, hc⟩ := hv.cells
  have HC : Hid _ := hc
  have HS : Hid (CanT L) := hs
  have HD1 := decimalM_any e (by omega)
  have HD2 := decimalM_any L.length (by omega)
  have HHD : Hid (Lh.bt [102, 108, 111, 119, 115, 32] ++ Lh.bt (Lh.decL e) ++ Lh.bt [32] ++ Lh.bt (Lh.decL L.length) ++ Lh.bt [10] = Lh.bt (Lh.headL e L.length ++ [10])) := Lh.head_bt _ _
  have hs1 : (Lh.bt (Lh.decL e)).size ≤ 15 := by rw [Lh.bt_size]; exact Lh.decL_len (by decide) (by omega)
  have hs2 : (Lh.bt (Lh.decL L.length)).size ≤ 15 := by rw [Lh.bt_size]; exact Lh.decL_len (by decide) (by omega)
  have HHL : Hid ((Lh.headL e L.length).length ≤ 35) := Lh.headL_len he (by omega)
  have HBR : Hid (Lh.textL e L = (Lh.headL e L.length ++ [10] ++ Lh.rowsB L) ++ Lh.sumL (Lh.headL e L.length ++ [10] ++ Lh.rowsB L) ++ [10]) := by
    show _ = _
    rw [← Lh.body_rows]
    rfl
  have HRL : Hid (∀ i, (Lh.rowsB (L.take i)).length ≤ 18693) := fun i => by
    have h1 := Lh.rowsB_len (l := L.take i) fun x hx => ⟨(hs x (List.mem_of_mem_take hx)).2.1, (hs x (List.mem_of_mem_take hx)).2.2.2⟩
    have h2 : (L.take i).length ≤ 201 := by rw [List.length_take]; omega
    omega
  clear hv hc hs
  generalize Lh.bt (Lh.decL e) = b1 at *
  generalize Lh.bt (Lh.decL L.length) = b2 at *
  go_enter Tryz.func28, Tryz.ntmps28
  go_wp2_with fail
  refine (HD1 W).mono ?_
  rintro r w1 ⟨rfl, hb1⟩
  dsimp only
  go_wp2_with fail
  refine (HD2 w1).mono ?_
  rintro r w2 ⟨rfl, hb2⟩
  dsimp only
  have hbb := below_then hb1 hb2
  clear hb1 hb2 HD1 HD2
  go_wp2_with fail
  go_loopw [5, 6] (fun u5 u6 w' => Below W.heap.size W w' ∧ ∃ i : Nat, i ≤ L.length ∧ u6 = .int .i64 (i : Nat) ∧ u5 = .string (Lh.bt (Lh.headL e L.length ++ [10] ++ Lh.rowsB (L.take i)))) (fun _ u6 _ => L.length - (intOf u6).toNat)
  case atStart =>
    refine ⟨hbb, 0, Nat.zero_le _, rfl, ?_⟩
    have : Lh.headL e L.length ++ [10] ++ Lh.rowsB (L.take 0) = Lh.headL e L.length ++ [10] := by simp [Lh.rowsB]
    rw [this]
    exact congrArg Value.string HHD.out
  case round =>
    obtain ⟨hb, i, hi, rfl, rfl⟩ := hrel
    obtain ⟨wo, hwo⟩ : ∃ wo, wo = wr := ⟨_, rfl⟩
    subst hwo
    by_cases hil : i < L.length
    · have hii : (i : Int) < (L.length : Int) := by omega
      obtain ⟨b, o, rfl, a0, a1, a2⟩ := HC.out i hil
      have a0' := below_cell hb a0
      have a1' := below_cell hb a1
      have a2' := below_cell hb a2
      obtain ⟨q1, q2, q3, q4⟩ := HS.out _ (List.getElem_mem hil)
      have hsP : (Lh.bt (Lh.headL e L.length ++ [10] ++ Lh.rowsB (L.take i))).size ≤ 19000 := by
        have h1 := HHL.out
        have h2 := HRL.out i
        rw [Lh.bt_size]
        simp only [List.length_append, List.length_cons, List.length_nil]
        omega
      have HL := Lh.line_bt (Lh.headL e L.length ++ [10] ++ Lh.rowsB (L.take i)) L[i]
      have HN : Lh.headL e L.length ++ [10] ++ Lh.rowsB (L.take (i + 1)) = Lh.headL e L.length ++ [10] ++ Lh.rowsB (L.take i) ++ (Lh.lineF L[i] ++ [10]) := by
        rw [Lh.rowsB_take hil, ← List.append_assoc]
      have HE : Hid (Lh.bt (Lh.headL e L.length ++ [10] ++ Lh.rowsB (L.take i)) ++ Lh.bt (Lh.hexL 16 (L[i]).1) ++ Lh.bt [32] ++ (L[i]).2.1 ++ Lh.bt [32] ++ Lh.bt (Lh.decL (L[i]).2.2.toNat) ++ Lh.bt [10] = Lh.bt (Lh.headL e L.length ++ [10] ++ Lh.rowsB (L.take (i + 1)))) := by
        show _ = _
        rw [HL, HN]
      clear HL HN a0 a1 a2
      have hs3 : (Lh.bt (Lh.hexL 16 (L[i]).1)).size = 16 := by rw [Lh.bt_size]; exact Lh.hexL_len _ _
      have hs4 : (Lh.bt (Lh.decL (L[i]).2.2.toNat)).size ≤ 14 := by rw [Lh.bt_size]; exact Lh.decL_len (by decide) (by omega)
      have HX := hexM_any (L[i]).1 16 q1 (by decide)
      have HD := decimalM_any (L[i]).2.2.toNat (by omega)
      have hcast : (((L[i]).2.2.toNat : Nat) : Int) = (L[i]).2.2 := by omega
      rw [hcast] at HD
      clear hcast q1 q3 q4
      generalize Lh.bt (Lh.headL e L.length ++ [10] ++ Lh.rowsB (L.take i)) = P at *
      generalize Lh.bt (Lh.hexL 16 (L[i]).1) = X at *
      generalize Lh.bt (Lh.decL (L[i]).2.2.toNat) = D at *
      generalize (L[i]).1 = k at *
      generalize (L[i]).2.1 = s at *
      generalize (L[i]).2.2 = u at *
      have HXW : Hid (∀ W, Below wo.heap.size wo W → Calls Tryz.prog 63 #[.int .u64 (k : Nat), .int .i64 16] W fun e w' => e = .returned (.string X) ∧ Below wo.heap.size wo w') := fun W hW => (HX W).mono fun _ _ ⟨h1, h2⟩ => ⟨h1, by rw [h2]; exact hW⟩
      have HDW : Hid (∀ W, Below wo.heap.size wo W → Calls Tryz.prog 62 #[.int .i64 u] W fun e w' => e = .returned (.string D) ∧ Below wo.heap.size wo w') := fun W hW => (HD W).mono fun _ _ ⟨h1, h2⟩ => ⟨h1, below_then hW h2⟩
      have HKC : Hid (∀ W, Below wo.heap.size wo W → Below wo.heap.size wo W ∧ W.cell? ⟨b, o + i * 3, none⟩ = some (.int .u64 (k : Nat)) ∧ W.cell? ⟨b, o + i * 3 + 1, none⟩ = some (.string s) ∧ W.cell? ⟨b, o + i * 3 + 2, none⟩ = some (.int .i64 u)) := fun W hW => ⟨hW, below_cell hW a0', below_cell hW a1', below_cell hW a2'⟩
      clear HX HD
      have n0 : ∀ w, (Op.stringOp .add (P) (X : ByteArray)).run Tryz.prog w = .ok (.string (P ++ X)) w := fun w => run_string_add_sum w _ _ (by have z1 : (ByteArray.mk #[32]).size = 1 := rfl; have z2 : (ByteArray.mk #[10]).size = 1 := rfl; (first | omega | (simp only [ByteArray.size_append']; omega)))
      have n1 : ∀ w, (Op.stringOp .add (P ++ X) ({ data := #[32] } : ByteArray)).run Tryz.prog w = .ok (.string (P ++ X ++ { data := #[32] })) w := fun w => run_string_add_sum w _ _ (by have z1 : (ByteArray.mk #[32]).size = 1 := rfl; have z2 : (ByteArray.mk #[10]).size = 1 := rfl; (first | omega | (simp only [ByteArray.size_append']; omega)))
      have n2 : ∀ w, (Op.stringOp .add (P ++ X ++ { data := #[32] }) (s : ByteArray)).run Tryz.prog w = .ok (.string (P ++ X ++ { data := #[32] } ++ s)) w := fun w => run_string_add_sum w _ _ (by have z1 : (ByteArray.mk #[32]).size = 1 := rfl; have z2 : (ByteArray.mk #[10]).size = 1 := rfl; (first | omega | (simp only [ByteArray.size_append']; omega)))
      have n3 : ∀ w, (Op.stringOp .add (P ++ X ++ { data := #[32] } ++ s) ({ data := #[32] } : ByteArray)).run Tryz.prog w = .ok (.string (P ++ X ++ { data := #[32] } ++ s ++ { data := #[32] })) w := fun w => run_string_add_sum w _ _ (by have z1 : (ByteArray.mk #[32]).size = 1 := rfl; have z2 : (ByteArray.mk #[10]).size = 1 := rfl; (first | omega | (simp only [ByteArray.size_append']; omega)))
      have n4 : ∀ w, (Op.stringOp .add (P ++ X ++ { data := #[32] } ++ s ++ { data := #[32] }) (D : ByteArray)).run Tryz.prog w = .ok (.string (P ++ X ++ { data := #[32] } ++ s ++ { data := #[32] } ++ D)) w := fun w => run_string_add_sum w _ _ (by have z1 : (ByteArray.mk #[32]).size = 1 := rfl; have z2 : (ByteArray.mk #[10]).size = 1 := rfl; (first | omega | (simp only [ByteArray.size_append']; omega)))
      have n5 : ∀ w, (Op.stringOp .add (P ++ X ++ { data := #[32] } ++ s ++ { data := #[32] } ++ D) ({ data := #[10] } : ByteArray)).run Tryz.prog w = .ok (.string (P ++ X ++ { data := #[32] } ++ s ++ { data := #[32] } ++ D ++ { data := #[10] })) w := fun w => run_string_add_sum w _ _ (by have z1 : (ByteArray.mk #[32]).size = 1 := rfl; have z2 : (ByteArray.mk #[10]).size = 1 := rfl; (first | omega | (simp only [ByteArray.size_append']; omega)))
      go_wp2_with fail
      go_region_held3 (fun w' => Below wo.heap.size wo w' ∧ w'.cell? ⟨b, o + i * 3, none⟩ = some (.int .u64 (k : Nat)) ∧ w'.cell? ⟨b, o + i * 3 + 1, none⟩ = some (.string s) ∧ w'.cell? ⟨b, o + i * 3 + 2, none⟩ = some (.int .i64 u))
        (first | exact HKC.out _ (by assumption) | exact HKC.out _ (below_drewN (Below.refl _ _) 1))
        (first
          | (go_at_call 63; refine (HXW.out _ (by first | assumption | exact below_drewN (Below.refl _ _) 1)).mono ?_; rintro e w7 ⟨rfl, hb7⟩)
          | (go_at_call 62; refine (HDW.out _ (by first | assumption | exact below_drewN (Below.refl _ _) 1)).mono ?_; rintro e w8 ⟨rfl, hb8⟩))
      all_goals
        go_wp2
        refine ⟨⟨below_then hb hb8, i + 1, by omega, by go_num, ?_⟩, by simp [intOf]; omega⟩
        exact congrArg Value.string HE.out
    · have hii : decide ((i : Int) < (L.length : Int)) = false := by simp; omega
      have hie : L.take i = L := List.take_of_length_le (by omega)
      rw [hie]
      have hlen : (Lh.headL e L.length ++ [10] ++ Lh.rowsB L).length ≤ 19000 := by
        have h1 := HHL.out
        have h2 := HRL.out i
        rw [hie] at h2
        simp only [List.length_append, List.length_cons, List.length_nil]
        omega
      have HSl := sealM_any (Lh.headL e L.length ++ [10] ++ Lh.rowsB L) (by omega)
      have HT := HBR.out
      rw [← HT] at HSl
      clear HT
      generalize Lh.headL e L.length ++ [10] ++ Lh.rowsB L = P at *
      go_wp2_with fail
      refine (HSl _).mono ?_
      rintro r w3 ⟨rfl, rfl⟩
      dsimp only
      go_wp2
      go_ret
      exact ⟨rfl, hb⟩
end Go.Proofs.YtboigdpcahdidabGreatDoor

/- What is carried over: a text that is cut off is none. -/
namespace Go.Proofs.YtboigdpcahdidabGreatDoor
namespace Lh

theorem count_join {y : UInt8} : ∀ {ws : List (List UInt8)}, ws ≠ [] → (∀ w ∈ ws, y ∉ w) → (joinL y ws).count y + 1 = ws.length
  | [w], _, h => by
    show w.count y + 1 = 1
    rw [List.count_eq_zero.2 (h w (by simp))]
  | w :: v :: ws, _, h => by
    have ih := count_join (y := y) (ws := v :: ws) (by simp) fun u hu => h u (by simp [hu])
    show (w ++ y :: joinL y (v :: ws)).count y + 1 = _
    rw [List.count_append, List.count_eq_zero.2 (h w (by simp)), List.count_cons_self, List.length_cons]
    omega
theorem text_count {e : Nat} {l : List Fl} (h : WordF l) : (textL e l).count 10 = l.length + 2 := by
  have h1 := count_join (y := 10) (ws := (headL e l.length :: l.map lineF) ++ [sumL (bodyL e l)] ++ [[]]) (by simp) fun w hw => by
    simp only [List.mem_append, List.mem_cons, List.mem_map, List.not_mem_nil, or_false] at hw
    rcases hw with ((rfl | ⟨x, hx, rfl⟩) | rfl) | rfl
    · exact headL_no _ _
    · exact lineF_no h hx
    · exact sum_no _
    · simp
  rw [← text_lines] at h1
  simp at h1
  omega
theorem text_head (e : Nat) (l : List Fl) : ∃ r, textL e l = headL e l.length ++ 10 :: r := by
  unfold textL bodyL
  cases hl : l.map lineF with
  | nil => exact ⟨sumL (joinL 10 [headL e l.length] ++ [10]) ++ [10], by simp [joinL]⟩
  | cons w ws => exact ⟨joinL 10 (w :: ws) ++ [10] ++ sumL (joinL 10 (headL e l.length :: w :: ws) ++ [10]) ++ [10], by simp [joinL]⟩
/-- A text of flows of which some is cut off is no text of flows. -/
theorem text_prefix {e e' : Nat} {l l' : List Fl} (he : e < 100000000000000) (he' : e' < 100000000000000) (hl : l.length < 100000000000000) (hl' : l'.length < 100000000000000) (h : WordF l) (h' : WordF l') {t : List UInt8} (ht : t ≠ []) (hp : textL e l = textL e' l' ++ t) : False := by
  obtain ⟨r, hr⟩ := text_head e l
  obtain ⟨r', hr'⟩ := text_head e' l'
  have c1 : cutL 10 (textL e l) = headL e l.length :: cutL 10 r := by rw [hr]; exact cutL_app r (headL_no _ _)
  have c2 : cutL 10 (textL e l) = headL e' l'.length :: cutL 10 (r' ++ t) := by rw [hp, hr', List.append_assoc]; exact cutL_app (r' ++ t) (headL_no _ _)
  rw [c1] at c2
  have hh := (List.cons.inj c2).1
  have f1 := head_back he hl
  have f2 := head_back he' hl'
  rw [hh] at f1
  have f3 := Option.some.inj (f1.symm.trans f2)
  have hn : l.length = l'.length := congrArg Prod.snd f3
  have k1 := text_count (e := e) h
  have k2 := text_count (e := e') h'
  rw [hp, List.count_append] at k1
  have k3 : t.count 10 = 0 := by omega
  have hlast : ∃ u, textL e l = u ++ [10] := ⟨_, rfl⟩
  obtain ⟨u, hu⟩ := hlast
  obtain ⟨m, c, hm⟩ : ∃ m c, t = m ++ [c] := ⟨t.dropLast, t.getLast ht, (List.dropLast_concat_getLast ht).symm⟩
  have hc : c = 10 := by
    rw [hm, ← List.append_assoc] at hp
    have := List.append_inj_right' (hu.symm.trans hp) rfl
    simpa using this.symm
  rw [hm, hc, List.count_append] at k3
  simp at k3
end Lh
end Go.Proofs.YtboigdpcahdidabGreatDoor
