/- Rows: the reference's RowOf, the landed slotsOf. -/
import Derived.Test.YtedbhahkldfmiaaDoorBlk
import Derived.Test.YtedbhahkldfmiaaDoorTNames
import Derived.Test.YtedbhahkldfmiaaDoorSize
namespace Go.Proofs.YtedbhahkldfmiaaDoor
open Go.RowKit

theorem num_lt (s : ByteArray) (k : Nat) : Lh.num s k < 18446744073709551616 := Lh.turn_lt _
theorem rem_small (a n : Nat) (hn : 0 < n) : a % n < n := Nat.mod_lt _ hn
/-- one number of a row, as the program reckons it -/
theorem row_num (s : ByteArray) (n j : Nat) : ((Lh.num s 1 % n + j * (Lh.num s 2 % (n - 1) + 1)) % n : Nat) = Lh.rowN s n j := rfl

theorem rowL_snoc (s : ByteArray) (n j : Nat) (h : j < n) : (Lh.rowL s n).take j ++ [((Lh.rowN s n j : Nat) : Int)] = (Lh.rowL s n).take (j + 1) := by
  rw [List.take_succ_eq_append_getElem (by rw [Lh.rowL_length]; exact h), Lh.rowL_get]
theorem ints_oneCell1 (x : Int) : ∀ u ∈ [Value.int .i64 x], u.oneCell' = true := by
  intro u hu
  simp at hu
  subst hu
  rfl
theorem ints_of_owns {w : World} {base n : Nat} {v : Value} {xs : List Int} (h : w.ownsRow base 3 1 v n (xs.map (Value.int .i64))) : Ints w v xs := by
  have hl : xs.length = n := by simpa using h.1
  rcases h.2 with ⟨rfl, rfl⟩ | ⟨g, cap, cur, rfl, _⟩
  · exact Or.inl ⟨List.length_eq_zero_iff.1 hl, _, _, rfl⟩
  · refine Or.inr ⟨g, 0, cap, by rw [hl], fun k hk => ?_⟩
    rw [Nat.zero_add, h.cellAt k (by omega)]
    simp [hk]

/-- offset and skip, as the program reckons them -/
theorem row_parts (s : ByteArray) (n : Nat) (h2 : 2 ≤ n) (h5 : n ≤ 503) : ∃ o k : Nat, o < n ∧ k + 1 < n ∧ (Lh.num s 1 : Int) % (n : Int) = (o : Int) ∧ (Lh.num s 2 : Int) % ((n : Int) - 1) = (k : Int) ∧
    ∀ j : Nat, j < n → 0 ≤ (j : Int) * ((k : Int) + 1) ∧ (j : Int) * ((k : Int) + 1) ≤ 300000 ∧ ((o : Int) + (j : Int) * ((k : Int) + 1)) % (n : Int) = ((Lh.rowN s n j : Nat) : Int) := by
  refine ⟨Lh.num s 1 % n, Lh.num s 2 % (n - 1), rem_small _ _ (by omega), ?_, by simp, ?_, fun j hj => ?_⟩
  · have := rem_small (Lh.num s 2) (n - 1) (by omega)
    omega
  · rw [Int.natCast_emod, Int.natCast_sub (by omega)]; rfl
  · have hk := rem_small (Lh.num s 2) (n - 1) (by omega)
    have hb : j * (Lh.num s 2 % (n - 1) + 1) ≤ 503 * 503 := Nat.mul_le_mul (by omega) (by omega)
    have e : (j : Int) * (((Lh.num s 2 % (n - 1) : Nat) : Int) + 1) = ((j * (Lh.num s 2 % (n - 1) + 1) : Nat) : Int) := by rw [Int.natCast_mul, Int.natCast_add]; rfl
    refine ⟨by omega, by omega, ?_⟩
    rw [e, ← Int.natCast_add, ← Int.natCast_emod]
    rfl

set_option maxRecDepth 100000 in
set_option maxHeartbeats 2000000 in
theorem rowOf_own (s : ByteArray) (n : Nat) (w : World) (hs : s.size ≤ 300) (h2 : 2 ≤ n) (h5 : n ≤ 503) :
    Calls Tryd.prog 37 #[.string s, .int .i64 n] w fun e w' => ∃ v, e = .returned v ∧ w'.ownsRow w.heap.size 3 1 v n ((Lh.rowL s n).map (Value.int .i64)) ∧ Below w.heap.size w w' := by
  obtain ⟨i, hi, hz0, hz1, hz2⟩ := info_parts infoI
  have hA := num_lt s 1
  have hB := num_lt s 2
  obtain ⟨o, k, ho, hk, hc1, hc2, hrow⟩ := row_parts s n h2 h5
  have HROW : Hid (∀ j : Nat, j < n → 0 ≤ (j : Int) * ((k : Int) + 1) ∧ (j : Int) * ((k : Int) + 1) ≤ 300000 ∧ ((o : Int) + (j : Int) * ((k : Int) + 1)) % (n : Int) = ((Lh.rowN s n j : Nat) : Int)) := hrow
  clear hrow
  have hn0 : ((n : Int) == 0) = false := by simp; omega
  have hn1 : ((n : Int) - 1 == 0) = false := by rw [beq_eq_false_iff_ne]; omega
  go_enter Tryd.func37, Tryd.ntmps37
  go_wp2_with fail
  refine (numberOf_any s 1 _ hs).mono ?_
  rintro e w1 ⟨rfl, rfl⟩
  go_wp2_with fail
  refine (numberOf_any s 2 _ hs).mono ?_
  rintro e w2 ⟨rfl, rfl⟩
  go_wp2_with fail
  have LEN : Hid ((Lh.rowL s n).length = n) := Lh.rowL_length s n
  rw [hc2]
  clear hc1 hc2
  go_loopw [7, 8] (fun vo t W => Below w2.heap.size w2 W ∧ ∃ j : Nat, j ≤ n ∧ t = .int .i64 j ∧ W.ownsRow w2.heap.size 3 1 vo j (((Lh.rowL s n).take j).map (Value.int .i64))) (fun _ t _ => n - (intOf t).toNat)
  case atStart => exact ⟨Below.refl _ _, 0, Nat.zero_le _, rfl, by simpa using World.ownsRow_nil _ _ _ _⟩
  case round =>
    obtain ⟨hb, j, hj, rfl, hown⟩ := hrel
    by_cases hlt : j < n
    · obtain ⟨hj0, hj1, hj2⟩ := HROW.out j hlt
      have hd : decide ((j : Int) < (n : Int)) = true := by simp; omega
      have hmx : j + 1 ≤ maxLen := by unfold maxLen; omega
      have hbs : ∀ q, w2.heap.size ≤ (wr.alloc q).heap.size := fun q => by
        have h1 : (wr.alloc q).heap.size = wr.heap.size + 1 := by simp
        have := hb.size
        omega
      have hnew := cell_one_new wr (.int .i64 (Lh.rowN s n j : Nat)) 3
      go_wp2_with (at_builtin; refine wpList_append_own _ rfl _ _ 22 rfl w2.heap.size 3 i _ 1 8 Tryd.underlying22 hi hz0 hz1 hz2 rfl (by decide) _ j _ rfl (hown.alloc _) ⟨wr.heap.size, 0, none⟩ 1 1 [.int .i64 (Lh.rowN s n j : Nat)] rfl rfl hnew (ints_oneCell1 _) hmx (by omega) (hbs _) ?_; intro v2 w3 hown2 hg2 hnil2)
      go_roundw
      case rel =>
        refine ⟨(hb.alloc hb.size _).grown hg2 (hbs _) (fun k h => (hown.lt k h).1), j + 1, by omega, by go_num, ?_⟩
        rw [← rowL_snoc s n j hlt, List.map_append]
        exact hown2
      case measure => simp [intOf]; omega
    · have hd : decide ((j : Int) < (n : Int)) = false := by simp; omega
      have hjn : j = n := by omega
      have hfin := hown
      rw [List.take_of_length_le (by rw [LEN.out]; omega), hjn] at hfin
      have HF : Hid _ := hfin
      clear hfin hown hjn
      go_wp2
      go_ret
      exact ⟨_, rfl, HF.out, hb⟩
theorem rowOf_any (s : ByteArray) (n : Nat) (w : World) (hs : s.size ≤ 300) (h2 : 2 ≤ n) (h5 : n ≤ 503) :
    Calls Tryd.prog 37 #[.string s, .int .i64 n] w fun e w' => ∃ v, e = .returned v ∧ Ints w' v (Lh.rowL s n) ∧ Below w.heap.size w w' :=
  (rowOf_own s n w hs h2 h5).mono fun _ _ ⟨v, h1, h2, h3⟩ => ⟨v, h1, ints_of_owns h2, h3⟩
theorem rowOf_at (s : ByteArray) (n : Nat) (w : World) (hs : s.size ≤ 300) (h2 : 2 ≤ n) (h5 : n ≤ 503) :
    Calls Tryd.prog 37 #[.string s, .int .i64 n] w fun e w' => ∃ g c, e = .returned (.slice (some ⟨g, 0, none⟩) n c) ∧ w.heap.size ≤ g ∧ (∀ j, j < n → w'.cell? ⟨g, j, none⟩ = some (.int .i64 (Lh.rowN s n j : Nat))) ∧ Below w.heap.size w w' :=
  (rowOf_own s n w hs h2 h5).mono fun _ _ ⟨v, h1, ho, h3⟩ => by
    have ho' := ho
    rcases ho.2 with ⟨_, hn⟩ | ⟨g, cap, cur, rfl, hg, _⟩
    · omega
    · refine ⟨g, cap, h1, hg, fun j hj => ?_, h3⟩
      rw [ho'.cellAt j (by omega)]
      have hl : j < (Lh.rowL s n).length := by rw [Lh.rowL_length]; exact hj
      simp [hl, Lh.rowL_get]
end Go.Proofs.YtedbhahkldfmiaaDoor
