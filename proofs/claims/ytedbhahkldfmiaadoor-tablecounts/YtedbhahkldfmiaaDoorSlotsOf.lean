/- The landed slotsOf. -/
import Derived.Test.YtedbhahkldfmiaaDoorRowOf
namespace Go.Proofs.YtedbhahkldfmiaaDoor
open Go.RowKit
theorem row_skip (o j : Int) (k : Int) : o + j * (1 + k) = o + j * (k + 1) := by rw [Int.add_comm 1 k]

theorem made_ints2 (n : Nat) : (madeCells #[Value.int .i64 0] n).toList = (List.replicate n (0 : Int)).map (Value.int .i64) := by
  rw [toList_madeCells_one]
  simp
theorem take_set_snoc {α : Type} {xs : List α} {j : Nat} (h : j < xs.length) (v : α) : (xs.set j v).take (j + 1) = xs.take j ++ [v] := by
  rw [List.take_succ_eq_append_getElem (by simpa using h)]
  have e : (xs.take j).set j v = xs.take j := List.set_eq_of_length_le (by simp; omega)
  simp [List.take_set, e]
set_option maxRecDepth 100000 in
set_option maxHeartbeats 2000000 in
theorem slotsOf_any (s : ByteArray) (n : Nat) (w : World) (hs : s.size ≤ 300) (h2 : 2 ≤ n) (h5 : n ≤ 503) :
    Calls Tryd.prog 59 #[.string s, .int .i64 n] w fun e w' => ∃ g, e = .returned (.slice (some ⟨g, 0, none⟩) n n) ∧ w.heap.size ≤ g ∧ IntRow w' g (Lh.rowL s n) ∧ Below w.heap.size w w' := by
  obtain ⟨i, hi, hz0, hz1, hz2⟩ := info_parts infoI
  have hA := num_lt s 1
  have hB := num_lt s 2
  obtain ⟨o, k, ho, hk, hc1, hc2, hrow⟩ := row_parts s n h2 h5
  have HROW : Hid (∀ j : Nat, j < n → 0 ≤ (j : Int) * ((k : Int) + 1) ∧ (j : Int) * ((k : Int) + 1) ≤ 300000 ∧ ((o : Int) + (j : Int) * ((k : Int) + 1)) % (n : Int) = ((Lh.rowN s n j : Nat) : Int)) := hrow
  clear hrow
  have hn0 : ((n : Int) == 0) = false := by simp; omega
  have hn1 : ((n : Int) - 1 == 0) = false := by rw [beq_eq_false_iff_ne]; omega
  have hbyt : i.bytes * n ≤ 281474976710656 := by rw [hz2]; omega
  have hmax : n ≤ maxLen := by unfold maxLen; omega
  go_enter Tryd.func59, Tryd.ntmps59
  go_wp2_with fail
  refine (of_any s 1 _ hs).mono ?_
  rintro e w1 ⟨rfl, hb1⟩
  go_wp2_with fail
  refine (of_any s 2 _ hs).mono ?_
  rintro e w2 ⟨rfl, hb2⟩
  have hbA := below_then hb1 hb2
  clear hb1 hb2
  go_wp2_with (at_make; refine wpList_make_full w2 rfl _ _ 22 rfl w2.heap.size 3 i _ 1 Tryd.underlying22 hi hz0 hz1 _ _ _ _ n rfl rfl rfl rfl hbyt hmax (Nat.le_refl _) ?_)
  intro w3 hown hgrow
  have hb3 : Below w.heap.size w w3 := hbA.trans ((below_grown hgrow (fun k h => by cases h)).mono hbA.size)
  rw [made_ints2] at hown
  have hrow0 := IntRow.of_owns hown
  have hgb := hbA.size
  clear hown hgrow hbA
  generalize w2.heap.size = g at *
  go_wp2_with fail
  try rw [hc2]
  clear hc1 hc2
  go_loopw [27] (fun t W => Below w.heap.size w W ∧ ∃ j : Nat, j ≤ n ∧ t = .int .i64 j ∧ ∃ xs : List Int, xs.length = n ∧ xs.take j = (Lh.rowL s n).take j ∧ IntRow W g xs) (fun t _ => n - (intOf t).toNat)
  case atStart => exact ⟨hb3, 0, Nat.zero_le _, rfl, _, by simp, by simp, hrow0⟩
  case round =>
    obtain ⟨hb, j, hj, rfl, xs, hlen, htake, hrow⟩ := hrel
    have HT : Hid (xs.take j = (Lh.rowL s n).take j) := htake
    have HLEN : Hid (xs.length = n) := hlen
    have HR : Hid (IntRow wr g xs) := hrow
    have HR0 : Hid (IntRow w3 g (List.replicate n 0)) := hrow0
    clear htake
    by_cases hlt : j < n
    · obtain ⟨hj0, hj1, hj2⟩ := HROW.out j hlt
      rw [show (k : Int) + 1 = 1 + (k : Int) from Int.add_comm _ _] at hj0 hj1 hj2
      obtain ⟨x0, c0⟩ : ∃ x, wr.cell? ⟨g, j, none⟩ = some (.int .i64 x) := ⟨_, hrow.cell (k := j) (by omega)⟩
      have f0 := hrow.frozen j
      have hd : decide ((j : Int) < (n : Int)) = true := by simp; omega
      clear hrow hlen hrow0
      go_wp2_with fail
      go_roundw
      case rel =>
        refine ⟨hb.setCell hgb _, j + 1, by omega, by go_num, xs.set j (Lh.rowN s n j : Nat), by simp [HLEN.out], ?_, HR.out.set _ _⟩
        rw [take_set_snoc (by rw [HLEN.out]; exact hlt), HT.out, rowL_snoc s n j hlt]
      case measure => simp [intOf]; omega
    · have hd : decide ((j : Int) < (n : Int)) = false := by simp; omega
      have hfin : IntRow wr g (Lh.rowL s n) := by
        have h1 := HT.out
        rw [List.take_of_length_le (by rw [HLEN.out]; omega), List.take_of_length_le (by rw [Lh.rowL_length]; omega)] at h1
        rw [← h1]
        exact hrow
      have HF : Hid (IntRow wr g (Lh.rowL s n)) := hfin
      clear hfin hrow hrow0 hlen
      go_wp2
      go_ret
      exact ⟨g, rfl, hgb, HF.out, hb⟩
end Go.Proofs.YtedbhahkldfmiaaDoor
