/- The model's small functions of texts: Decimal, Seal. -/
import Derived.Test.YtmdckddenelneaaGreatDoorM19
import Derived.Test.YtmdckddenelneaaGreatDoorM21
import Derived.Test.YtmdckddenelneaaGreatDoorM20
import Derived.Deep.RegionHeld3
import Derived.BigQuiet
import Derived.Deep.QuietTactic
import Derived.Test.YtmdckddenelneaaGreatDoorCaRef7
import Derived.Test.YtmdckddenelneaaGreatDoorM8
import Derived.Test.YtmdckddenelneaaGreatDoorM6
namespace Go.Proofs.YtmdckddenelneaaGreatDoor
open Go.RowKit

set_option maxRecDepth 100000 in
set_option maxHeartbeats 1000000 in
theorem belowM_any (n : Nat) : ∀ (_h : n < 1000000000000000) (W : World),
    Calls Tryz.prog 173 #[.int .i64 (-(n : Int))] W fun e w' => e = .returned (.string (Lh.bt (Lh.decL n))) ∧ Below W.heap.size W w' := by
  induction n using Nat.strongRecOn with
  | ind n ih =>
    intro h W
    go_enter Tryz.func173, Tryz.ntmps173
    by_cases hs : n < 10
    · have hd : decide (-(n : Int) > -10) = true := by simp; omega
      have HB : ∀ W, Calls Tryz.prog 198 #[.int .i64 (48 + (n : Int))] W fun e w' => e = .returned (.string (Lh.bt [UInt8.ofNat (48 + n)])) ∧ Below W.heap.size W w' := by
        intro W
        have e : ((48 + n : Nat) : Int) = 48 + (n : Int) := by omega
        rw [← e]
        exact byteM_any _ (by omega) W
      have HD : Hid (Lh.bt (Lh.decL n) = Lh.bt [UInt8.ofNat (48 + n)]) := by
        show _ = _
        rw [Lh.decL_small hs]
        rfl
      go_wp2_with fail
      refine (HB W).mono ?_
      rintro e w' ⟨rfl, hb⟩
      dsimp only
      go_wp2
      go_ret
      exact ⟨by rw [HD.out]; rfl, hb⟩
    · have hd : decide (-(n : Int) > -10) = false := by simp; omega
      have hd2 : decide ((n : Int) < 10) = false := by simp; omega
      have HI : ∀ W, Calls Tryz.prog 173 #[.int .i64 (-((n / 10 : Nat) : Int))] W fun e w' => e = .returned (.string (Lh.bt (Lh.decL (n / 10)))) ∧ Below W.heap.size W w' := fun W => ih (n / 10) (by omega) (by omega) W
      have HB : ∀ W, Calls Tryz.prog 198 #[.int .i64 (48 + ((n % 10 : Nat) : Int))] W fun e w' => e = .returned (.string (Lh.bt [UInt8.ofNat (48 + n % 10)])) ∧ Below W.heap.size W w' := by
        intro W
        have e : ((48 + n % 10 : Nat) : Int) = 48 + ((n % 10 : Nat) : Int) := by omega
        rw [← e]
        exact byteM_any _ (by omega) W
      have HD : Hid (Lh.bt (Lh.decL n) = Lh.bt (Lh.decL (n / 10)) ++ Lh.bt [UInt8.ofNat (48 + n % 10)]) := by
        show _ = _
        rw [Lh.decL_big hs, Lh.bt_append]
        rfl
      have hl : (Lh.decL (n / 10)).length ≤ 15 := Lh.decL_len (by decide) (by omega)
      have hsz1 : (Lh.bt (Lh.decL (n / 10))).size ≤ 15 := by rw [Lh.bt_size]; exact hl
      have hsz2 : (Lh.bt [UInt8.ofNat (48 + n % 10)]).size = 1 := Lh.bt_size _
      clear hl
      have HI2 : ∀ W, Calls Tryz.prog 173 #[.int .i64 (-((n : Int) / 10))] W fun e w' => e = .returned (.string (Lh.bt (Lh.decL (n / 10)))) ∧ Below W.heap.size W w' := HI
      have HB2 : ∀ W, Calls Tryz.prog 198 #[.int .i64 (48 + (n : Int) % 10)] W fun e w' => e = .returned (.string (Lh.bt [UInt8.ofNat (48 + n % 10)])) ∧ Below W.heap.size W w' := HB
      have hq : (-(n : Int)).tdiv 10 = -((n / 10 : Nat) : Int) := by
        rw [Int.neg_tdiv]; rfl
      have hr : (-(n : Int)).tmod 10 = -((n % 10 : Nat) : Int) := by
        rw [Int.neg_tmod]; rfl
      generalize Lh.bt (Lh.decL (n / 10)) = y at *
      generalize Lh.bt [UInt8.ofNat (48 + n % 10)] = x at *
      have hnd : n / 10 < 1000000000000000 := by omega
      have hnm : n % 10 < 10 := by omega
      go_wp2_with fail
      refine (HI2 W).mono ?_
      rintro e w1 ⟨rfl, hb1⟩
      dsimp only
      go_wp2_with fail
      refine (HB2 w1).mono ?_
      rintro e w2 ⟨rfl, hb2⟩
      dsimp only
      go_wp2
      go_ret
      exact ⟨by rw [HD.out]; rfl, below_then hb1 hb2⟩
theorem decimalM_any (n : Nat) (h : n < 1000000000000000) (W : World) :
    Calls Tryz.prog 138 #[.int .i64 (n : Nat)] W fun e w' => e = .returned (.string (Lh.bt (Lh.decL n))) ∧ Below W.heap.size W w' := by
  go_enter Tryz.func138, Tryz.ntmps138
  have hd : decide ((n : Int) < 0) = false := by simp
  go_wp2_with fail
  refine (belowM_any n h W).mono ?_
  rintro e w1 ⟨rfl, hb1⟩
  dsimp only
  go_wp2
  go_ret
  exact ⟨rfl, hb1⟩
set_option maxHeartbeats 1000000 in
theorem sealM_any (s : List UInt8) (hs : s.length ≤ 100000) (W : World) :
    Calls Tryz.prog 140 #[.string (Lh.bt s)] W fun e w' => e = .returned (.string (Lh.bt (s ++ Lh.sumL s ++ [10]))) ∧ w' = W := by
  go_enter Tryz.func140, Tryz.ntmps140
  have hsz := Lh.bt_size s
  have hc := Lh.crcL_lt s
  have hsz2 := Lh.bt_size (Lh.hexL 8 (Lh.crcL s))
  have hl := Lh.hexL_len 8 (Lh.crcL s)
  go_wp2_with fail
  refine (crcM_any s hs W).mono ?_
  rintro e w1 ⟨rfl, rfl⟩
  dsimp only
  go_wp2_with fail
  refine (hexM_any (Lh.crcL s) 8 (by omega) (by decide) _).mono ?_
  rintro e w1 ⟨rfl, rfl⟩
  dsimp only
  go_wp2
  go_ret
  have E : Lh.bt s ++ Lh.bt [115, 117, 109, 32] ++ Lh.bt (Lh.hexL 8 (Lh.crcL s)) ++ Lh.bt [10] = Lh.bt (s ++ Lh.sumL s ++ [10]) := by
    rw [Lh.bt_append, Lh.bt_append, Lh.bt_append]
    congr 1
    simp [Lh.sumL, Lh.joinL, Lh.sumW]
  exact ⟨congrArg (fun x => Ending.returned (.string x)) E, rfl⟩
end Go.Proofs.YtmdckddenelneaaGreatDoor

/- The model's text of flows. -/
namespace Go.Proofs.YtmdckddenelneaaGreatDoor
open Go.RowKit

namespace Lh
theorem line_bt (p : List UInt8) (x : Fl) : bt p ++ bt (hexL 16 x.1) ++ bt [32] ++ x.2.1 ++ bt [32] ++ bt (decL x.2.2.toNat) ++ bt [10] = bt (p ++ (lineF x ++ [10])) := by
  have e : x.2.1 = bt x.2.1.data.toList := rfl
  rw [e]
  rw [bt_append, bt_append, bt_append, bt_append, bt_append, bt_append]
  congr 1
  simp [lineF, joinL]
theorem head_bt (e n : Nat) : bt [102, 108, 111, 119, 115, 32] ++ bt (decL e) ++ bt [32] ++ bt (decL n) ++ bt [10] = bt (headL e n ++ [10]) := by
  rw [bt_append, bt_append, bt_append, bt_append]
  congr 1
  simp [headL, joinL, flowsW]
end Lh
/-- Flows that a text can hold. -/
def CanT (L : List Lh.Fl) : Prop := ∀ x ∈ L, x.1 < 18446744073709551616 ∧ x.2.1.size ≤ 60 ∧ 0 ≤ x.2.2 ∧ x.2.2.toNat < 100000000000000

set_option maxRecDepth 100000 in
set_option maxHeartbeats 2000000 in
theorem textM_any (e : Nat) (he : e < 100000000000000) (v : Value) (L : List Lh.Fl) (W : World) (hv : Flows1 W v L) (hl : L.length ≤ 201) (hs : CanT L) :
    Calls Tryz.prog 99 #[.int .i64 (e : Nat), v] W fun r w' => r = .returned (.string (Lh.bt (Lh.textL e L))) ∧ Below W.heap.size W w' := by
  obtain ⟨p, c, rfl, hc⟩ := hv.cells
  have HC : Hid _ := hc
  have HS : Hid (CanT L) := hs
  have HD1 := decimalM_any e (by omega)
  have HD2 := decimalM_any L.length (by omega)
  have HHD : Hid (Lh.bt [102, 108, 111, 119, 115, 32] ++ Lh.bt (Lh.decL e) ++ Lh.bt [32] ++ Lh.bt (Lh.decL L.length) ++ Lh.bt [10] = Lh.bt (Lh.headL e L.length ++ [10])) := Lh.head_bt _ _
  have hs1 : (Lh.bt (Lh.decL e)).size ≤ 15 := by rw [Lh.bt_size]; exact Lh.decL_len (by decide) (by omega)
  have hs2 : (Lh.bt (Lh.decL L.length)).size ≤ 15 := by rw [Lh.bt_size]; exact Lh.decL_len (by decide) (by omega)
  have HHL : Hid ((Lh.headL e L.length).length ≤ 35) := Lh.headL_len he (by omega)
  have HBR : Hid (Lh.textL e L = (Lh.headL e L.length ++ [10] ++ Lh.rowsB L) ++ Lh.sumL (Lh.headL e L.length ++ [10] ++ Lh.rowsB L) ++ [10]) := by
    show _ = _
    rw [← Lh.body_rows]
    rfl
  have HRL : Hid (∀ i, (Lh.rowsB (L.take i)).length ≤ 18693) := fun i => by
    have h1 := Lh.rowsB_len (l := L.take i) fun x hx => ⟨(hs x (List.mem_of_mem_take hx)).2.1, (hs x (List.mem_of_mem_take hx)).2.2.2⟩
    have h2 : (L.take i).length ≤ 201 := by rw [List.length_take]; omega
    omega
  clear hv hc hs
  generalize Lh.bt (Lh.decL e) = b1 at *
  generalize Lh.bt (Lh.decL L.length) = b2 at *
  go_enter Tryz.func99, Tryz.ntmps99
  go_wp2_with fail
  refine (HD1 W).mono ?_
  rintro r w1 ⟨rfl, hb1⟩
  dsimp only
  go_wp2_with fail
  refine (HD2 w1).mono ?_
  rintro r w2 ⟨rfl, hb2⟩
  dsimp only
  have hbb := below_then hb1 hb2
  clear hb1 hb2 HD1 HD2
  go_wp2_with fail
  go_loopw [5, 6] (fun u5 u6 w' => Below W.heap.size W w' ∧ ∃ i : Nat, i ≤ L.length ∧ u6 = .int .i64 (i : Nat) ∧ u5 = .string (Lh.bt (Lh.headL e L.length ++ [10] ++ Lh.rowsB (L.take i)))) (fun _ u6 _ => L.length - (intOf u6).toNat)
  case atStart =>
    refine ⟨hbb, 0, Nat.zero_le _, rfl, ?_⟩
    have : Lh.headL e L.length ++ [10] ++ Lh.rowsB (L.take 0) = Lh.headL e L.length ++ [10] := by simp [Lh.rowsB]
    rw [this]
    exact congrArg Value.string HHD.out
  case round =>
    obtain ⟨hb, i, hi, rfl, rfl⟩ := hrel
    obtain ⟨wo, hwo⟩ : ∃ wo, wo = wr := ⟨_, rfl⟩
    subst hwo
    by_cases hil : i < L.length
    · have hii : (i : Int) < (L.length : Int) := by omega
      obtain ⟨b, o, rfl, a0, a1, a2⟩ := HC.out i hil
      have a0' := below_cell hb a0
      have a1' := below_cell hb a1
      have a2' := below_cell hb a2
      obtain ⟨q1, q2, q3, q4⟩ := HS.out _ (List.getElem_mem hil)
      have hsP : (Lh.bt (Lh.headL e L.length ++ [10] ++ Lh.rowsB (L.take i))).size ≤ 19000 := by
        have h1 := HHL.out
        have h2 := HRL.out i
        rw [Lh.bt_size]
        simp only [List.length_append, List.length_cons, List.length_nil]
        omega
      have HL := Lh.line_bt (Lh.headL e L.length ++ [10] ++ Lh.rowsB (L.take i)) L[i]
      have HN : Lh.headL e L.length ++ [10] ++ Lh.rowsB (L.take (i + 1)) = Lh.headL e L.length ++ [10] ++ Lh.rowsB (L.take i) ++ (Lh.lineF L[i] ++ [10]) := by
        rw [Lh.rowsB_take hil, ← List.append_assoc]
      have HE : Hid (Lh.bt (Lh.headL e L.length ++ [10] ++ Lh.rowsB (L.take i)) ++ Lh.bt (Lh.hexL 16 (L[i]).1) ++ Lh.bt [32] ++ (L[i]).2.1 ++ Lh.bt [32] ++ Lh.bt (Lh.decL (L[i]).2.2.toNat) ++ Lh.bt [10] = Lh.bt (Lh.headL e L.length ++ [10] ++ Lh.rowsB (L.take (i + 1)))) := by
        show _ = _
        rw [HL, HN]
      clear HL HN a0 a1 a2
      have hs3 : (Lh.bt (Lh.hexL 16 (L[i]).1)).size = 16 := by rw [Lh.bt_size]; exact Lh.hexL_len _ _
      have hs4 : (Lh.bt (Lh.decL (L[i]).2.2.toNat)).size ≤ 14 := by rw [Lh.bt_size]; exact Lh.decL_len (by decide) (by omega)
      have HX := hexM_any (L[i]).1 16 q1 (by decide)
      have HD := decimalM_any (L[i]).2.2.toNat (by omega)
      have hcast : (((L[i]).2.2.toNat : Nat) : Int) = (L[i]).2.2 := by omega
      rw [hcast] at HD
      clear hcast q1 q3 q4
      generalize Lh.bt (Lh.headL e L.length ++ [10] ++ Lh.rowsB (L.take i)) = P at *
      generalize Lh.bt (Lh.hexL 16 (L[i]).1) = X at *
      generalize Lh.bt (Lh.decL (L[i]).2.2.toNat) = D at *
      generalize (L[i]).1 = k at *
      generalize (L[i]).2.1 = s at *
      generalize (L[i]).2.2 = u at *
      have HXW : Hid (∀ W, Below wo.heap.size wo W → Calls Tryz.prog 139 #[.int .u64 (k : Nat), .int .i64 16] W fun e w' => e = .returned (.string X) ∧ Below wo.heap.size wo w') := fun W hW => (HX W).mono fun _ _ ⟨h1, h2⟩ => ⟨h1, by rw [h2]; exact hW⟩
      have HDW : Hid (∀ W, Below wo.heap.size wo W → Calls Tryz.prog 138 #[.int .i64 u] W fun e w' => e = .returned (.string D) ∧ Below wo.heap.size wo w') := fun W hW => (HD W).mono fun _ _ ⟨h1, h2⟩ => ⟨h1, below_then hW h2⟩
      have HKC : Hid (∀ W, Below wo.heap.size wo W → Below wo.heap.size wo W ∧ W.cell? ⟨b, o + i * 3, none⟩ = some (.int .u64 (k : Nat)) ∧ W.cell? ⟨b, o + i * 3 + 1, none⟩ = some (.string s) ∧ W.cell? ⟨b, o + i * 3 + 2, none⟩ = some (.int .i64 u)) := fun W hW => ⟨hW, below_cell hW a0', below_cell hW a1', below_cell hW a2'⟩
      clear HX HD
      have n0 : ∀ w, (Op.stringOp .add (P) (X : ByteArray)).run Tryz.prog w = .ok (.string (P ++ X)) w := fun w => run_string_add_sum w _ _ (by have z1 : (ByteArray.mk #[32]).size = 1 := rfl; have z2 : (ByteArray.mk #[10]).size = 1 := rfl; (first | omega | (simp only [ByteArray.size_append']; omega)))
      have n1 : ∀ w, (Op.stringOp .add (P ++ X) ({ data := #[32] } : ByteArray)).run Tryz.prog w = .ok (.string (P ++ X ++ { data := #[32] })) w := fun w => run_string_add_sum w _ _ (by have z1 : (ByteArray.mk #[32]).size = 1 := rfl; have z2 : (ByteArray.mk #[10]).size = 1 := rfl; (first | omega | (simp only [ByteArray.size_append']; omega)))
      have n2 : ∀ w, (Op.stringOp .add (P ++ X ++ { data := #[32] }) (s : ByteArray)).run Tryz.prog w = .ok (.string (P ++ X ++ { data := #[32] } ++ s)) w := fun w => run_string_add_sum w _ _ (by have z1 : (ByteArray.mk #[32]).size = 1 := rfl; have z2 : (ByteArray.mk #[10]).size = 1 := rfl; (first | omega | (simp only [ByteArray.size_append']; omega)))
      have n3 : ∀ w, (Op.stringOp .add (P ++ X ++ { data := #[32] } ++ s) ({ data := #[32] } : ByteArray)).run Tryz.prog w = .ok (.string (P ++ X ++ { data := #[32] } ++ s ++ { data := #[32] })) w := fun w => run_string_add_sum w _ _ (by have z1 : (ByteArray.mk #[32]).size = 1 := rfl; have z2 : (ByteArray.mk #[10]).size = 1 := rfl; (first | omega | (simp only [ByteArray.size_append']; omega)))
      have n4 : ∀ w, (Op.stringOp .add (P ++ X ++ { data := #[32] } ++ s ++ { data := #[32] }) (D : ByteArray)).run Tryz.prog w = .ok (.string (P ++ X ++ { data := #[32] } ++ s ++ { data := #[32] } ++ D)) w := fun w => run_string_add_sum w _ _ (by have z1 : (ByteArray.mk #[32]).size = 1 := rfl; have z2 : (ByteArray.mk #[10]).size = 1 := rfl; (first | omega | (simp only [ByteArray.size_append']; omega)))
      have n5 : ∀ w, (Op.stringOp .add (P ++ X ++ { data := #[32] } ++ s ++ { data := #[32] } ++ D) ({ data := #[10] } : ByteArray)).run Tryz.prog w = .ok (.string (P ++ X ++ { data := #[32] } ++ s ++ { data := #[32] } ++ D ++ { data := #[10] })) w := fun w => run_string_add_sum w _ _ (by have z1 : (ByteArray.mk #[32]).size = 1 := rfl; have z2 : (ByteArray.mk #[10]).size = 1 := rfl; (first | omega | (simp only [ByteArray.size_append']; omega)))
      go_wp2_with fail
      go_region_held3 (fun w' => Below wo.heap.size wo w' ∧ w'.cell? ⟨b, o + i * 3, none⟩ = some (.int .u64 (k : Nat)) ∧ w'.cell? ⟨b, o + i * 3 + 1, none⟩ = some (.string s) ∧ w'.cell? ⟨b, o + i * 3 + 2, none⟩ = some (.int .i64 u))
        (first | exact HKC.out _ (by assumption) | exact HKC.out _ (below_drewN (Below.refl _ _) 1))
        (first
          | (go_at_call 139; refine (HXW.out _ (by first | assumption | exact below_drewN (Below.refl _ _) 1)).mono ?_; rintro e w7 ⟨rfl, hb7⟩)
          | (go_at_call 138; refine (HDW.out _ (by first | assumption | exact below_drewN (Below.refl _ _) 1)).mono ?_; rintro e w8 ⟨rfl, hb8⟩))
      all_goals
        go_wp2
        refine ⟨⟨below_then hb hb8, i + 1, by omega, by go_num, ?_⟩, by simp [intOf]; omega⟩
        exact congrArg Value.string HE.out
    · have hii : decide ((i : Int) < (L.length : Int)) = false := by simp; omega
      have hie : L.take i = L := List.take_of_length_le (by omega)
      rw [hie]
      have hlen : (Lh.headL e L.length ++ [10] ++ Lh.rowsB L).length ≤ 19000 := by
        have h1 := HHL.out
        have h2 := HRL.out i
        rw [hie] at h2
        simp only [List.length_append, List.length_cons, List.length_nil]
        omega
      have HSl := sealM_any (Lh.headL e L.length ++ [10] ++ Lh.rowsB L) (by omega)
      have HT := HBR.out
      rw [← HT] at HSl
      clear HT
      generalize Lh.headL e L.length ++ [10] ++ Lh.rowsB L = P at *
      go_wp2_with fail
      refine (HSl _).mono ?_
      rintro r w3 ⟨rfl, rfl⟩
      dsimp only
      go_wp2
      go_ret
      exact ⟨rfl, hb⟩
end Go.Proofs.YtmdckddenelneaaGreatDoor

/- What texts of flows say: one answer; the round trip; a text that is read is the text of what it says. -/
namespace Go.Proofs.YtmdckddenelneaaGreatDoor

/-- Keys that a machine has. -/
def KeyIn (l : List Lh.Fl) : Prop := ∀ x ∈ l, x.1 < 18446744073709551616
theorem nm_word {s : ByteArray} (h : Lh.isNm s = true) : s.data.toList ≠ [] ∧ (32 : UInt8) ∉ s.data.toList ∧ (10 : UInt8) ∉ s.data.toList ∧ s.size ≤ 12 := by
  simp only [Lh.isNm, Bool.and_eq_true, decide_eq_true_eq] at h
  obtain ⟨⟨⟨h1, h2⟩, _⟩, h4⟩ := h
  have hl : s.data.toList.length = s.size := rfl
  refine ⟨fun e => ?_, fun hm => ?_, fun hm => ?_, h2⟩
  · rw [e] at hl; simp at hl; omega
  · have := List.all_eq_true.1 h4 _ hm
    revert this
    decide
  · have := List.all_eq_true.1 h4 _ hm
    revert this
    decide
theorem caF_good {e : Int} {l : List Lh.Fl} {pl : Int} (h : CaF e l 0 pl) : (0 ≤ e ∧ e ≤ 1099511627776 ∧ l.length ≤ 200) ∧ (∀ j, ∀ hj : j < l.length, GoodF l j hj) ∧ pl = -1 := by
  rcases h with ⟨_, h, _⟩ | ⟨h1, i, hi, _, _, h3⟩ | ⟨h1, h2, _, h3⟩
  · cases h
  · rcases h3 with ⟨_, h⟩ | ⟨_, _, h⟩ | ⟨_, _, _, _, h⟩ <;> cases h
  · exact ⟨h1, h2, h3⟩
theorem caF_word {e : Int} {l : List Lh.Fl} {pl : Int} (h : CaF e l 0 pl) (hk : KeyIn l) : Lh.WordF l ∧ CanT l ∧ e.toNat < 100000000000000 ∧ (e.toNat : Int) = e := by
  obtain ⟨⟨h1, h2, h3⟩, hg, _⟩ := caF_good h
  refine ⟨fun x hx => ?_, fun x hx => ?_, by omega, by omega⟩
  · obtain ⟨j, hj, rfl⟩ := List.getElem_of_mem hx
    obtain ⟨g1, g2, g3, _⟩ := hg j hj
    obtain ⟨n1, n2, n3, n4⟩ := nm_word g1
    exact ⟨hk _ hx, g2, by omega, n1, n2, n3⟩
  · obtain ⟨j, hj, rfl⟩ := List.getElem_of_mem hx
    obtain ⟨g1, g2, g3, _⟩ := hg j hj
    obtain ⟨n1, n2, n3, n4⟩ := nm_word g1
    exact ⟨hk _ hx, by omega, g2, by omega⟩
theorem text_len {e : Int} {l : List Lh.Fl} {pl : Int} (h : CaF e l 0 pl) (hk : KeyIn l) : (Lh.textL e.toNat l).length ≤ 20000 := by
  obtain ⟨_, hc, he, _⟩ := caF_word h hk
  obtain ⟨⟨_, _, h3⟩, _, _⟩ := caF_good h
  have h1 := Lh.headL_len (e := e.toNat) (n := l.length) he (by omega)
  have h2 := Lh.rowsB_len (l := l) fun x hx => ⟨(hc x hx).2.1, (hc x hx).2.2.2⟩
  have h4 : (Lh.sumL (Lh.bodyL e.toNat l)).length = 12 := by
    simp [Lh.sumL, Lh.joinL, Lh.sumW, Lh.hexL_len]
  unfold Lh.textL
  rw [List.length_append, List.length_append, h4, Lh.body_rows]
  simp only [List.length_append, List.length_cons, List.length_nil]
  omega
theorem read_text {e : Int} {l : List Lh.Fl} {pl : Int} (h : CaF e l 0 pl) (hk : KeyIn l) : ReadF (Lh.bt (Lh.textL e.toNat l)).data.toList e l 0 (-1) := by
  obtain ⟨hw, hc, he, hee⟩ := caF_word h hk
  obtain ⟨⟨_, _, h3⟩, _, hpl⟩ := caF_good h
  have hb := Lh.text_back he (by omega) hw
  refine Or.inr (Or.inr ⟨text_len h hk, _, _, _, _, hb, Or.inr ⟨rfl, ?_, Or.inr ⟨rfl, hee.symm, rfl⟩⟩⟩)
  rw [hee]
  rw [hpl] at h
  exact h
theorem readF_one {s : List UInt8} {n n' : Int} {l l' : List Lh.Fl} {c c' : Nat} {pl pl' : Int} (h : ReadF s n l c pl) (h' : ReadF s n' l' c' pl') : n = n' ∧ l = l' ∧ c = c' ∧ pl = pl' := by
  rcases h with ⟨h1, rfl, rfl, rfl, rfl⟩ | ⟨h1, hp, rfl, rfl, rfl, rfl⟩ | ⟨h1, e, L, k, ps, hp, h2⟩ <;> rcases h' with ⟨g1, rfl, rfl, rfl, rfl⟩ | ⟨g1, gp, rfl, rfl, rfl, rfl⟩ | ⟨g1, e', L', k', ps', gp, g2⟩
  · exact ⟨rfl, rfl, rfl, rfl⟩
  · omega
  · omega
  · omega
  · exact ⟨rfl, rfl, rfl, rfl⟩
  · rw [hp] at gp; cases gp
  · omega
  · rw [hp] at gp; cases gp
  · rw [hp] at gp
    cases gp
    rcases h2 with ⟨h2, rfl, rfl, rfl, rfl⟩ | ⟨h2, h3, h4⟩ <;> rcases g2 with ⟨g2, rfl, rfl, rfl, rfl⟩ | ⟨g2, g3, g4⟩
    · exact ⟨rfl, rfl, rfl, rfl⟩
    · exact absurd g2 h2
    · exact absurd h2 g2
    · obtain ⟨rfl, rfl⟩ := caF_one h3 g3
      rcases h4 with ⟨h4, rfl, rfl⟩ | ⟨h4, rfl, rfl⟩ <;> rcases g4 with ⟨g4, rfl, rfl⟩ | ⟨g4, rfl, rfl⟩
      · exact ⟨rfl, rfl, rfl, rfl⟩
      · exact absurd g4 h4
      · exact absurd h4 g4
      · exact ⟨rfl, rfl, rfl, rfl⟩
theorem rows_key : ∀ {ws : List (List UInt8)} {l : List Lh.Fl}, Lh.rowsL ws = some l → KeyIn l
  | [], l, h, x, hx => by cases h; cases hx
  | w :: ws, l, h, x, hx => by
    simp only [Lh.rowsL] at h
    split at h
    · rename_i y l' h1 h2
      cases h
      rcases List.mem_cons.1 hx with rfl | hx
      · exact (Lh.lineV_key h1).1
      · exact rows_key h2 x hx
    · cases h
theorem parts_key {ls : List (List UInt8)} {e k : Nat} {l : List Lh.Fl} {ps : List (List UInt8)} (h : Lh.partsL ls = some (e, l, k, ps)) : KeyIn l := by
  unfold Lh.partsL at h
  split at h
  · cases h
  · split at h
    · rename_i h1 h2 h3
      split at h
      · cases h
      · cases h
        exact rows_key h2
    · cases h
theorem read_good {s : List UInt8} {n : Int} {l : List Lh.Fl} {pl : Int} (h : ReadF s n l 0 pl) : s = Lh.textL n.toNat l ∧ CaF n l 0 pl ∧ KeyIn l ∧ s.length ≤ 20000 := by
  rcases h with ⟨_, _, _, h, _⟩ | ⟨_, _, _, _, h, _⟩ | ⟨h1, e, L, k, ps, hp, h2⟩
  · cases h
  · cases h
  · rcases h2 with ⟨_, _, _, h, _⟩ | ⟨h3, h4, h5⟩
    · cases h
    · rcases h5 with ⟨h, _⟩ | ⟨_, rfl, rfl⟩
      · exact absurd rfl h
      · obtain ⟨p1, p2, _⟩ := Lh.parts_text hp
        rw [p1] at h3
        exact ⟨by simpa using p2 h3, h4, parts_key hp, h1⟩
end Go.Proofs.YtmdckddenelneaaGreatDoor

/- What the laws of a balance ask of the landed package. -/
namespace Go.Proofs.YtmdckddenelneaaGreatDoor
open Go.RowKit

/-- an error: none, or the one of a number -/
def EvOf (a : Nat → Addr) (c : Nat) (ev : Value) : Prop := (c = 0 ∧ ev = .nilIface) ∨ ∃ j, c = j + 1 ∧ ev = .iface 331 (.pointer (some (a j)))
/-- what Pick does: nw says which of those that are open a new key goes to -/
def PickR (nw : List ByteArray → Nat → Nat → ByteArray) (S : Lh.Bl) (k : Nat) (now : Int) (S' : Lh.Bl) (s : ByteArray) (kept : Bool) (c : Nat) : Prop :=
  (∃ j, TickF S.la now j ∧ S' = S ∧ s = ByteArray.empty ∧ kept = false ∧ c = j + 1) ∨
  (TickOk S.la now ∧ Lh.BKeeps S k now s ∧ kept = true ∧ c = 0 ∧ S' = { S with la := now, L := Lh.fput S.t S.L k s now }) ∨
  (TickOk S.la now ∧ (∀ z, ¬ Lh.BKeeps S k now z) ∧ Lh.bopen S = [] ∧ s = ByteArray.empty ∧ kept = false ∧ c = 5 ∧ S' = { S with la := now }) ∨
  (TickOk S.la now ∧ (∀ z, ¬ Lh.BKeeps S k now z) ∧ Lh.bopen S ≠ [] ∧ s = nw (Lh.bopen S) S.size k ∧ kept = false ∧ c = 0 ∧ S' = { S with la := now, L := Lh.fput S.t S.L k s now })
def LookR (S : Lh.Bl) (s : ByteArray) (well : Bool) (S' : Lh.Bl) (turned : Bool) (c : Nat) : Prop :=
  (∃ h : Lh.hix S.hs s < S.hs.length, turned = (Lh.hlook S.f S.r S.hs[Lh.hix S.hs s] well).2 ∧ c = 0 ∧ S' = Lh.blook S s well S.hs[Lh.hix S.hs s]) ∨
  (¬ Lh.hix S.hs s < S.hs.length ∧ turned = false ∧ c = 5 ∧ S' = S)
def DrainR (S : Lh.Bl) (s : ByteArray) (is : Bool) (S' : Lh.Bl) (c : Nat) : Prop :=
  (Lh.hix S.hs s < S.hs.length ∧ c = 0 ∧ S' = { S with dr := Lh.bdrain S.dr s is }) ∨ (¬ Lh.hix S.hs s < S.hs.length ∧ c = 5 ∧ S' = S)
def ExportR (S : Lh.Bl) (S' : Lh.Bl) (s : ByteArray) (c : Nat) : Prop :=
  (S.ep < 1099511627776 ∧ s = Lh.bt (Lh.textL (S.ep + 1).toNat S.L) ∧ c = 0 ∧ S' = { S with ep := S.ep + 1 }) ∨ (¬ S.ep < 1099511627776 ∧ s = ByteArray.empty ∧ c = 2 ∧ S' = S)
/-- what Import does: c, pl: an error's number and place -/
def ImportR (S : Lh.Bl) (s : List UInt8) (now : Int) (S' : Lh.Bl) (n : Nat) (c : Nat) (pl : Int) : Prop :=
  ∃ e l c0 pl0, ReadF s e l c0 pl0 ∧
    ((c0 ≠ 0 ∧ S' = S ∧ n = 0 ∧ c = c0 ∧ pl = pl0) ∨
     (c0 = 0 ∧ e < S.ep ∧ S' = S ∧ n = 0 ∧ c = 8 ∧ pl = -1) ∨
     (c0 = 0 ∧ ¬ e < S.ep ∧ ∃ j, TickF S.la now j ∧ S' = S ∧ n = 0 ∧ c = j + 1 ∧ pl = -1) ∨
     (c0 = 0 ∧ ¬ e < S.ep ∧ TickOk S.la now ∧ n = (Lh.fadd now S.L (l.filter fun x => Lh.hup S.hs x.2.1)).length - S.L.length ∧ c = 0 ∧ pl = -1 ∧ S' = { S with ep := e, la := now, L := Lh.fadd now S.L (l.filter fun x => Lh.hup S.hs x.2.1) }))
/-- The landed package's contracts, over what it says that a *Balance is (Rep), and what it asks of the package variables (E; of those for texts: X). -/
structure BalanceC where
  E : (Nat → Addr) → World → Prop
  eLater : ∀ {a : Nat → Addr} {W W' : World}, E a W → Below W.heap.size W W' → E a W'
  X : (Nat → Addr) → World → Prop
  xLater : ∀ {a : Nat → Addr} {W W' : World}, X a W → Below W.heap.size W W' → X a W'
  nw : List ByteArray → Nat → Nat → ByteArray
  nwIn : ∀ {xs : List ByteArray} {n : Nat} (k : Nat), xs ≠ [] → Lh.Prm n → nw xs n k ∈ xs
  Rep : Lh.Bl → (Nat → Prop) → Nat → World → Prop
  lt : ∀ {S : Lh.Bl} {F : Nat → Prop} {p : Nat} {W : World}, Rep S F p W → ∀ b, F b → b < W.heap.size
  stay : ∀ {S : Lh.Bl} {F : Nat → Prop} {p : Nat} {W W' : World}, Rep S F p W → W.heap.size ≤ W'.heap.size → (∀ b, F b → W'.heap[b]? = W.heap[b]?) → Rep S F p W'
  newG : ∀ (a : Nat → Addr) (v : Value) (xs : List ByteArray) (n t f r : Nat) (W : World), E a W → Strs1 W v xs → 0 < xs.length → IsFault xs 0 (-1) → (∀ s ∈ xs, s.size ≤ 300) → Lh.Prm n → n ≤ 503 → 1 ≤ t → t ≤ 1000 → 1 ≤ f → f ≤ 10 → 1 ≤ r → r ≤ 10 →
    Calls Tryz.prog 51 #[v, .int .i64 (n : Nat), .int .i64 (t : Nat), .int .i64 (f : Nat), .int .i64 (r : Nat)] W fun e W' => ∃ p F, e = .returned (.tuple #[.pointer (some ⟨p, 0, none⟩), .nilIface]) ∧ Rep ⟨f, r, n, t, Lh.hnew xs, [], 0, 0, []⟩ F p W' ∧ (∀ b, F b → W.heap.size ≤ b) ∧ Below W.heap.size W W'
  pick : ∀ (a : Nat → Addr) (S : Lh.Bl) (F : Nat → Prop) (p k : Nat) (now : Int) (W : World), E a W → Rep S F p W → Lh.BOk S → k < 18446744073709551616 →
    Calls Tryz.prog 87 #[.pointer (some ⟨p, 0, none⟩), .int .u64 (k : Nat), .int .i64 now] W fun e W' => ∃ F' S' s kept c ev, (∀ b, F' b → F b ∨ W.heap.size ≤ b) ∧ Tur F W W' ∧ e = .returned (.tuple #[.string s, .bool kept, ev]) ∧ EvOf a c ev ∧ PickR nw S k now S' s kept c ∧ Rep S' F' p W'
  look : ∀ (a : Nat → Addr) (S : Lh.Bl) (F : Nat → Prop) (p : Nat) (s : ByteArray) (well : Bool) (W : World), E a W → Rep S F p W → Lh.BOk S → s.size ≤ maxLen →
    Calls Tryz.prog 81 #[.pointer (some ⟨p, 0, none⟩), .string s, .bool well] W fun e W' => ∃ F' S' turned c ev, (∀ b, F' b → F b ∨ W.heap.size ≤ b) ∧ Tur F W W' ∧ e = .returned (.tuple #[.bool turned, ev]) ∧ EvOf a c ev ∧ LookR S s well S' turned c ∧ Rep S' F' p W'
  drain : ∀ (a : Nat → Addr) (S : Lh.Bl) (F : Nat → Prop) (p : Nat) (s : ByteArray) (is : Bool) (W : World), E a W → Rep S F p W → Lh.BOk S → s.size ≤ maxLen →
    Calls Tryz.prog 84 #[.pointer (some ⟨p, 0, none⟩), .string s, .bool is] W fun e W' => ∃ F' S' c ev, (∀ b, F' b → F b ∨ W.heap.size ≤ b) ∧ Tur F W W' ∧ e = .returned ev ∧ EvOf a c ev ∧ DrainR S s is S' c ∧ Rep S' F' p W'
  up : ∀ (S : Lh.Bl) (F : Nat → Prop) (p : Nat) (W : World), Rep S F p W → Lh.BOk S →
    Calls Tryz.prog 26 #[.pointer (some ⟨p, 0, none⟩)] W fun e W' => ∃ v, e = .returned v ∧ Strs1 W' v (Lh.hups S.hs) ∧ Below W.heap.size W W'
  flows : ∀ (S : Lh.Bl) (F : Nat → Prop) (p : Nat) (W : World), Rep S F p W → Lh.BOk S →
    Calls Tryz.prog 21 #[.pointer (some ⟨p, 0, none⟩)] W fun e W' => ∃ v, e = .returned v ∧ FlowsNew W.heap.size W' v S.L ∧ Below W.heap.size W W'
  epoch : ∀ (S : Lh.Bl) (F : Nat → Prop) (p : Nat) (W : World), Rep S F p W →
    Calls Tryz.prog 24 #[.pointer (some ⟨p, 0, none⟩)] W fun e W' => e = .returned (.int .i64 S.ep) ∧ Below W.heap.size W W'
  export_ : ∀ (a : Nat → Addr) (S : Lh.Bl) (F : Nat → Prop) (p : Nat) (W : World), E a W → X a W → Rep S F p W → Lh.BOk S →
    Calls Tryz.prog 114 #[.pointer (some ⟨p, 0, none⟩)] W fun e W' => ∃ F' S' s c ev, (∀ b, F' b → F b ∨ W.heap.size ≤ b) ∧ Tur F W W' ∧ e = .returned (.tuple #[.string s, ev]) ∧ EvOf a c ev ∧ ExportR S S' s c ∧ Rep S' F' p W'
  import_ : ∀ (a : Nat → Addr) (S : Lh.Bl) (F : Nat → Prop) (p : Nat) (s : List UInt8) (now : Int) (W : World), E a W → X a W → Rep S F p W → Lh.BOk S → s.length ≤ 30000 →
    Calls Tryz.prog 115 #[.pointer (some ⟨p, 0, none⟩), .string (Lh.bt s), .int .i64 now] W fun e W' => ∃ F' S' n c pl ev, (∀ b, F' b → F b ∨ W.heap.size ≤ b) ∧ Tur F W W' ∧ e = .returned (.tuple #[.int .i64 ((n : Nat) : Int), ev]) ∧ ErrIs a W' c pl ev ∧ ImportR S s now S' n c pl ∧ Rep S' F' p W'
theorem BalanceC.later (hC : BalanceC) {S : Lh.Bl} {F : Nat → Prop} {p : Nat} {W W' : World} (h : hC.Rep S F p W) (hb : Below W.heap.size W W') : hC.Rep S F p W' :=
  hC.stay h hb.size fun b hf => hb.block b (hC.lt h b hf)
theorem evOf_nil {a : Nat → Addr} {ev : Value} (h : EvOf a 0 ev) : ev = .nilIface := by
  rcases h with ⟨_, h⟩ | ⟨j, h, _⟩
  · exact h
  · omega
end Go.Proofs.YtmdckddenelneaaGreatDoor
