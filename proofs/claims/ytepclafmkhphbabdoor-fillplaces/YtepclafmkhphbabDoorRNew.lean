/- The landed pointsOf. -/
import Derived.Test.YtepclafmkhphbabDoorRPts
import Derived.Test.YtepclafmkhphbabDoorRCmp
import Derived.Test.YtepclafmkhphbabDoorRSrt
import Derived.Test.YtepclafmkhphbabDoorFew
namespace Go.Proofs.YtepclafmkhphbabDoor
open Go.RowKit Go.Sort Go.Shelf Go.Lib

theorem infoP : (Tryd.prog.info? 79).map (fun i => (i.zero, i.size, i.bytes)) = some (some (.agg #[.int .u64 0, .string ByteArray.empty]), 2, 24) := by kernel_rfl
theorem pts_snoc (c : Nat) (xs : List ByteArray) (k : Nat) (h : k < xs.length) : Lh.pts c (xs.take (k + 1)) = Lh.pts c (xs.take k) ++ Lh.pts1 c xs[k] := by
  unfold Lh.pts
  rw [List.take_succ_eq_append_getElem h, List.flatMap_append]
  simp
theorem pts1_snoc (c j : Nat) (s : ByteArray) (h : j < c) : (Lh.pts1 c s).take (j + 1) = (Lh.pts1 c s).take j ++ [(Lh.num s (1000 + j), s)] := by
  have hl : j < (Lh.pts1 c s).length := by rw [Lh.pts1_length]; exact h
  rw [List.take_succ_eq_append_getElem hl]
  simp [Lh.pts1]
theorem cells_encP {w : World} {t : TypeId} (p : Lh.Pt) : ∀ j u, (encP p)[j]? = some u → (w.alloc (.cells #[.int .u64 (p.1 : Nat), .string p.2] t)).cell? ((⟨w.heap.size, 0, none⟩ : Addr).add j) = some u := by
  intro j u hu
  match j, hu with
  | 0, hu => simp [encP] at hu; subst hu; simp [Addr.add]
  | 1, hu => simp [encP] at hu; subst hu; simp [Addr.add]
  | j + 2, hu => simp [encP] at hu
theorem mul_bound {a b : Nat} (ha : a ≤ 12) (hb : b ≤ 16) : a * b ≤ 192 := Nat.mul_le_mul ha hb
set_option maxRecDepth 100000 in
set_option maxHeartbeats 2000000 in
theorem pointsOf_any (b o cap : Nat) (xs : List ByteArray) (c : Nat) (w : World) (hx : ∀ k (h : k < xs.length), w.cell? ⟨b, o + k, none⟩ = some (.string xs[k])) (hl : xs.length ≤ 12) (hc1 : 1 ≤ c) (hc : c ≤ 16) (hs : ∀ k (h : k < xs.length), (xs[k]).size ≤ 300) :
    Calls Tryd.prog 40 #[.slice (some ⟨b, o, none⟩) xs.length cap, .int .i64 (c : Nat)] w fun e w' => ∃ v, e = .returned v ∧ w'.ownsRow w.heap.size 79 2 v (Lh.pts c xs).length (flatP (Lh.pts c xs)) ∧ Below w.heap.size w w' := by
  obtain ⟨i, hi, hz0, hz1, hz2⟩ := info_parts infoP
  have hmb := mul_bound hl hc
  have hmi : ((xs.length : Int) * (c : Int)) = ((xs.length * c : Nat) : Int) := by simp
  have hbyt : i.bytes * (xs.length * c) ≤ 281474976710656 := by rw [hz2]; omega
  have hmax : xs.length * c ≤ maxLen := by unfold maxLen; omega
  have HX : Hid (∀ k (h : k < xs.length), w.cell? ⟨b, o + k, none⟩ = some (.string xs[k])) := hx
  have HS : Hid (∀ k (h : k < xs.length), (xs[k]).size ≤ 300) := hs
  have HMB : Hid (xs.length * c ≤ 192) := hmb
  clear hx hs
  generalize hn : xs.length * c = n at *
  have HN : Hid (xs.length * c = n) := hn
  clear hn
  go_enter Tryd.func40, Tryd.ntmps40
  go_wp2_with (at_make; refine wpList_make_own _ rfl _ _ 75 rfl w.heap.size 79 i _ 2 Tryd.underlying75 hi hz0 hz1 _ _ _ n rfl rfl ?_ hbyt hmax (Nat.le_refl _) ?_)
  · rfl
  intro w1 hown hgrow
  have hb1 : Below w.heap.size w w1 := below_grown hgrow (fun k h => by cases h)
  clear hgrow hmi hbyt hmax
  go_wp2_with fail
  go_loopw [5, 16] (fun v t W => Below w.heap.size w W ∧ ∃ k : Nat, k ≤ xs.length ∧ t = .int .i64 k ∧ W.ownsRow w.heap.size 79 2 v (Lh.pts c (xs.take k)).length (flatP (Lh.pts c (xs.take k)))) (fun _ t _ => xs.length - (intOf t).toNat)
  case atStart => exact ⟨hb1, 0, Nat.zero_le _, rfl, hown⟩
  case round =>
    obtain ⟨hb, k, hk, rfl, hown⟩ := hrel
    by_cases hlt : k < xs.length
    · have cx := below_cell hb (HX.out k hlt)
      have hsz := HS.out k hlt
      have HP : Hid (Lh.pts c (xs.take (k + 1)) = Lh.pts c (xs.take k) ++ Lh.pts1 c xs[k]) := pts_snoc c xs k hlt
      have hlen : (Lh.pts c (xs.take k)).length ≤ 192 := by
        rw [Lh.pts_length, List.length_take]
        exact mul_bound (by omega) hc
      generalize Lh.pts c (xs.take k) = P0 at *
      generalize xs[k] = s at *
      have HSZ : Hid (s.size ≤ 300) := hsz
      clear hsz
      go_wp2_with fail
      go_loopw [5, 22] (fun v t W => Below w.heap.size w W ∧ ∃ j : Nat, j ≤ c ∧ t = .int .u64 j ∧ W.ownsRow w.heap.size 79 2 v (P0 ++ (Lh.pts1 c s).take j).length (flatP (P0 ++ (Lh.pts1 c s).take j))) (fun _ t _ => c - (intOf t).toNat)
      case atStart => exact ⟨hb, 0, Nat.zero_le _, rfl, by simpa using hown⟩
      case round =>
        clear hown hb
        obtain ⟨hb, j, hj, rfl, hown⟩ := hrel
        by_cases hjc : j < c
        · have HP1 : Hid ((Lh.pts1 c s).take (j + 1) = (Lh.pts1 c s).take j ++ [(Lh.num s (1000 + j), s)]) := pts1_snoc c j s hjc
          have hlj : (P0 ++ (Lh.pts1 c s).take j).length ≤ 208 := by
            rw [List.length_append, List.length_take]
            omega
          have hap : P0 ++ (Lh.pts1 c s).take (j + 1) = (P0 ++ (Lh.pts1 c s).take j) ++ [(Lh.num s (1000 + j), s)] := by
            rw [HP1.out, List.append_assoc]
          have HAP : Hid (P0 ++ (Lh.pts1 c s).take (j + 1) = (P0 ++ (Lh.pts1 c s).take j) ++ [(Lh.num s (1000 + j), s)]) := hap
          clear hap
          generalize P0 ++ (Lh.pts1 c s).take j = P1 at *
          have hof := fun W' => of_any s (1000 + j) W' HSZ.out
          rw [show ((1000 + j : Nat) : Int) = 1000 + (j : Int) by omega] at hof
          generalize Lh.num s (1000 + j) = at1 at *
          go_wp2_with fail
          refine (hof _).mono ?_
          rintro e w2 ⟨rfl, hb2⟩
          have hown2 := ownsRow_below hown hb2
          have hown3 := hown2.alloc (.cells #[.int .u64 (at1 : Nat), .string s] 79)
          have hnews := cells_encP (w := w2) (t := 79) (at1, s)
          have hbw2 : Below w.heap.size w w2 := below_then hb hb2
          have hbw3 : Below w.heap.size w (w2.alloc (.cells #[.int .u64 (at1 : Nat), .string s] 79)) := hbw2.alloc hbw2.size _
          have hmax : P1.length + 1 ≤ maxLen := by unfold maxLen; omega
          clear hown hown2 hb2 hb
          go_wp2_with (at_builtin; refine wpList_append_own _ rfl _ _ 75 rfl w.heap.size 79 i _ 2 24 Tryd.underlying75 hi hz0 hz1 hz2 rfl (by decide) u5 P1.length (flatP P1) rfl hown3 ⟨w2.heap.size, 0, none⟩ 1 1 (encP (at1, s)) rfl rfl hnews (encP_one _) hmax (by omega) hbw3.size ?_)
          intro v' w4 hown4 hg4 _
          have hlo := hown3.lt
          have hb4 : Below w.heap.size w w4 := hbw3.grown hg4 hbw3.size (fun k hk => (hlo k hk).1)
          clear hown3 hnews hlo hg4
          rw [← flatP_snoc] at hown4
          go_wp2
          refine ⟨⟨hb4, j + 1, by omega, by go_num, ?_⟩, by simp [intOf]; omega⟩
          rw [HAP.out, List.length_append]
          exact hown4
        · go_wp2
          have hjj : j = c := by omega
          subst hjj
          rw [List.take_of_length_le (by rw [Lh.pts1_length]; exact Nat.le_refl _), ← HP.out] at hown
          exact ⟨⟨hb, k + 1, by omega, by go_num, hown⟩, by simp [intOf]; omega⟩
    · go_wp2
      go_ret
      have hkk : k = xs.length := by omega
      subst hkk
      rw [List.take_length] at hown
      exact ⟨_, rfl, hown, hb⟩
end Go.Proofs.YtepclafmkhphbabDoor
