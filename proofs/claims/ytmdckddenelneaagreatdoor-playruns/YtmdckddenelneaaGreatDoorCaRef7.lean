/- The model's CarryOf. -/
import Derived.Test.YtmdckddenelneaaGreatDoorM19
import Derived.Test.YtmdckddenelneaaGreatDoorM20
import Derived.Test.YtmdckddenelneaaGreatDoorM21
import Derived.Test.YtmdckddenelneaaGreatDoorM22
namespace Go.Proofs.YtmdckddenelneaaGreatDoor
open Go.RowKit

/-- What a text says: epoch, flows, an error. -/
def ReadF (s : List UInt8) (n : Int) (l : List Lh.Fl) (c : Nat) (pl : Int) : Prop :=
  (20000 < s.length ∧ n = 0 ∧ l = [] ∧ c = 2 ∧ pl = -1) ∨
  (s.length ≤ 20000 ∧ Lh.partsL (Lh.cutL 10 s) = none ∧ n = 0 ∧ l = [] ∧ c = 1 ∧ pl = -1) ∨
  (s.length ≤ 20000 ∧ ∃ e L k ps, Lh.partsL (Lh.cutL 10 s) = some (e, L, k, ps) ∧
    ((k ≠ Lh.crcL (Lh.joinL 10 ps ++ [10]) ∧ n = 0 ∧ l = [] ∧ c = 9 ∧ pl = -1) ∨
     (k = Lh.crcL (Lh.joinL 10 ps ++ [10]) ∧ CaF e L c pl ∧ ((c ≠ 0 ∧ n = 0 ∧ l = []) ∨ (c = 0 ∧ n = e ∧ l = L)))))

theorem words_of {w : World} {base : Nat} {v : Value} {ws : List (List UInt8)} (h : w.ownsRow base 9 1 v ws.length (wordsV ws)) (hne : ws ≠ []) : ∃ g cap, v = .slice (some ⟨g, 0, none⟩) ws.length cap ∧ base ≤ g ∧ ∀ j (hj : j < ws.length), w.cell? ⟨g, j, none⟩ = some (.string (Lh.bt ws[j])) := by
  obtain ⟨hl, ⟨rfl, h0⟩ | ⟨g, cap, cur, rfl, hbase, hb, hn, hm, hsz, ht⟩⟩ := h
  · exact absurd (List.eq_nil_of_length_eq_zero h0) hne
  · refine ⟨g, cap, rfl, hbase, fun k hk => ?_⟩
    have hk' : (cur.toList.take (ws.length * 1))[k]? = some (.string (Lh.bt ws[k])) := by rw [ht]; simp [wordsV, hk]
    rw [List.getElem?_take_of_lt (by omega)] at hk'
    simp only [World.cell?, hb]
    simpa using hk'
theorem owns_setCellF {w : World} {base : Nat} {e : TypeId} {size : Nat} {v : Value} {n : Nat} {xs : List Value} (h : w.ownsRow base e size v n xs) {x k : Nat} (hx : x < base) (u : Value) : (w.setCell ⟨x, k, none⟩ u).ownsRow base e size v n xs := by
  refine h.kept (row := some x) ⟨rfl, rfl, rfl, by simp [World.setCell], fun j _ hne => heap_setCell_other w ⟨x, k, none⟩ j u (fun e => hne (by rw [e]))⟩ ?_
  cases hv : v.ownBlock with
  | none => exact Or.inl rfl
  | some g =>
    have := (h.lt g hv).1
    exact Or.inr (fun e => by cases e; omega)
theorem len3 {α : Type} {ws : List α} (h : ws.length = 3) : ∃ a b c, ws = [a, b, c] := by
  match ws, h with
  | [a, b, c], _ => exact ⟨a, b, c, rfl⟩
theorem len2 {α : Type} {ws : List α} (h : ws.length = 2) : ∃ a b, ws = [a, b] := by
  match ws, h with
  | [a, b], _ => exact ⟨a, b, rfl⟩
namespace Lh
theorem parts_short {ls : List (List UInt8)} (h : ls.length < 3 ∨ ls.getD (ls.length - 1) [] ≠ []) : partsL ls = none := by
  unfold partsL
  rw [if_pos h]
theorem parts_first {ls : List (List UInt8)} (h : firstL (ls.getD 0 []) = none) : partsL ls = none := by
  unfold partsL
  split
  · rfl
  · rw [h]
theorem parts_rows {ls : List (List UInt8)} (h : rowsL ((ls.drop 1).take (ls.length - 3)) = none) : partsL ls = none := by
  unfold partsL
  split
  · rfl
  · rw [h]
    split <;> simp_all
theorem parts_last {ls : List (List UInt8)} (h : lastL (ls.getD (ls.length - 2) []) = none) : partsL ls = none := by
  unfold partsL
  split
  · rfl
  · rw [h]
    split <;> simp_all
theorem parts_many {ls : List (List UInt8)} {e n : Nat} (h : firstL (ls.getD 0 []) = some (e, n)) (hn : n + 3 ≠ ls.length) : partsL ls = none := by
  unfold partsL
  split
  · rfl
  · rw [h]
    split
    · rename_i h1 h2 h3
      cases h1
      rw [if_pos hn]
    · rfl
theorem parts_some {ls : List (List UInt8)} {e n k : Nat} {l : List Fl} (h0 : ¬ (ls.length < 3 ∨ ls.getD (ls.length - 1) [] ≠ [])) (h1 : firstL (ls.getD 0 []) = some (e, n)) (h2 : n + 3 = ls.length) (h3 : rowsL ((ls.drop 1).take (ls.length - 3)) = some l) (h4 : lastL (ls.getD (ls.length - 2) []) = some k) : partsL ls = some (e, l, k, ls.take (ls.length - 2)) := by
  unfold partsL
  rw [if_neg h0, h1, h3, h4]
  simp only
  rw [if_neg (by omega)]
theorem cut_len (y : UInt8) : ∀ l : List UInt8, (cutL y l).length ≤ l.length + 1
  | [] => by simp [cutL]
  | c :: l => by
    have := cut_len y l
    obtain ⟨x, xs, e⟩ := cutL_some y l
    rw [cutL_cons]
    rw [e] at this ⊢
    split
    · simp at this ⊢; omega
    · simp at this ⊢; omega
theorem cut_word (y : UInt8) : ∀ (l w : List UInt8), w ∈ cutL y l → w.length ≤ l.length
  | [], w, h => by simp [cutL] at h; subst h; simp
  | c :: l, w, h => by
    have ih := cut_word y l
    obtain ⟨x, xs, e⟩ := cutL_some y l
    rw [cutL_cons] at h
    rw [e] at h ih
    split at h
    · rcases List.mem_cons.1 h with rfl | h
      · simp
      · have := ih w h; simp; omega
    · rcases List.mem_cons.1 h with rfl | h
      · have := ih x (List.mem_cons_self ..); simp; omega
      · have := ih w (List.mem_cons_of_mem _ h); simp; omega
end Lh

set_option maxRecDepth 100000 in
set_option maxHeartbeats 4000000 in
theorem carryOf_any (s : List UInt8) (hs : s.length ≤ 100000) (W : World) :
    Calls Tryz.prog 97 #[.string (Lh.bt s)] W fun r w' => ∃ n v l c pl, r = .returned (.tuple #[.int .i64 n, v, .agg #[.int .i64 (c : Nat), .int .i64 pl]]) ∧ ReadF s n l c pl ∧ Flows1 w' v l ∧ Below W.heap.size W w' := by
  obtain ⟨iF, hiF, hz0, hz1, hz2⟩ := info_parts infoFl
  have hsz := Lh.bt_size s
  have hbW := (Below.refl W.heap.size W).alloc (Nat.le_refl _) (.cells #[.int .i64 0, .int .i64 0] 37)
  have HR0 : Hid (∀ w', Below (W.alloc (.cells #[.int .i64 0, .int .i64 0] 37)).heap.size (W.alloc (.cells #[.int .i64 0, .int .i64 0] 37)) w' → w'.cell? ⟨W.heap.size, 0, none⟩ = some (.int .i64 0) ∧ w'.cell? ⟨W.heap.size, 1, none⟩ = some (.int .i64 0) ∧ w'.frozen? ⟨W.heap.size, 0, none⟩ = false ∧ w'.frozen? ⟨W.heap.size, 1, none⟩ = false ∧ Below W.heap.size W w') := fun w' hb => ⟨below_cell hb (by simp), below_cell hb (by simp), by rw [hb.frozen (by simp)]; simp, by rw [hb.frozen (by simp)]; simp, below_then hbW hb⟩
  have HBARE : Hid (∀ (n : Int) W, Calls Tryz.prog 14 #[.int .i64 n] W fun e w' => e = .returned (.agg #[.int .i64 n, .int .i64 (-1)]) ∧ Below W.heap.size W w') := bare_any
  clear hbW
  go_enter Tryz.func97, Tryz.ntmps97
  by_cases h20 : 20000 < s.length
  · have d0 : decide (20000 < (s.length : Int)) = true := by simp; omega
    have HF : Hid (ReadF s 0 [] 2 (-1)) := Or.inl ⟨h20, rfl, rfl, rfl, rfl⟩
    go_wp2_with fail
    generalize W.alloc (.cells #[.int .i64 0, .int .i64 0] 37) = W0 at *
    refine (HBARE.out _ _).mono ?_
    rintro r w1 ⟨rfl, hb1⟩
    obtain ⟨c0, c1, f0, f1, hbz⟩ := HR0.out _ hb1
    dsimp only
    go_wp2
    exact bodyPost_ret (v := .tuple #[.int .i64 0, .slice none 0 0, .agg #[.int .i64 2, .int .i64 (-1)]]) (by simp [results, Tryz.results97, go_sem, c0, c1]) rfl ⟨0, _, [], 2, -1, rfl, HF.out, Or.inl ⟨rfl, Or.inl rfl⟩, (hbz.setCell (Nat.le_refl _) _).setCell (Nat.le_refl _) _⟩
  have d0 : decide (20000 < (s.length : Int)) = false := by simp; omega
  have HNO : Hid (Lh.partsL (Lh.cutL 10 s) = none → ReadF s 0 [] 1 (-1)) := fun h => Or.inr (Or.inl ⟨by omega, h, rfl, rfl, rfl, rfl⟩)
  have hs2 : s.length ≤ 20000 := by omega
  clear h20 hs
  have HLL : Hid (∀ w ∈ Lh.cutL 10 s, w.length ≤ 20000) := fun w hw => Nat.le_trans (Lh.cut_word 10 s w hw) hs2
  have hll := Lh.cut_len 10 s
  have hlne := Lh.cutL_ne 10 s
  have HCUT0 := cutM_any s (by omega) 10
  have HJ : Hid (Lh.joinL 10 (Lh.cutL 10 s) = s) := Lh.cut_join 10 s
  obtain ⟨ls, hcs⟩ : ∃ ls, Lh.cutL 10 s = ls := ⟨_, rfl⟩
  rw [hcs] at HNO HLL hll hlne HCUT0 HJ
  have HCS : Hid (Lh.cutL 10 s = ls) := hcs
  clear hcs
  go_wp2_with fail
  generalize W.alloc (.cells #[.int .i64 0, .int .i64 0] 37) = W0 at *
  refine (HCUT0 _).mono ?_
  rintro r w1 ⟨v5, rfl, hown1, hb1⟩
  obtain ⟨g, cap, rfl, hg, hcell⟩ := words_of hown1 hlne
  have HCELL : Hid (∀ w', Below w1.heap.size w1 w' → ∀ j (hj : j < ls.length), w'.cell? ⟨g, j, none⟩ = some (.string (Lh.bt ls[j]))) := fun w' hb j hj => below_cell hb (hcell j hj)
  clear hcell hown1 HCUT0
  dsimp only
  have hlen : ls.length ≤ 20001 := by omega
  clear hll
  by_cases hb3 : ls.length < 3
  · have d1 : decide ((ls.length : Int) < 3) = true := by simp; omega
    have HF : Hid (ReadF s 0 [] 1 (-1)) := HNO.out (Lh.parts_short (Or.inl hb3))
    go_wp2_with fail
    refine (HBARE.out _ _).mono ?_
    rintro r w9 ⟨rfl, hb9⟩
    obtain ⟨c0, c1, f0, f1, hbz⟩ := HR0.out _ (below_then hb1 hb9)
    dsimp only
    go_wp2
    exact bodyPost_ret (v := .tuple #[.int .i64 0, .slice none 0 0, .agg #[.int .i64 1, .int .i64 (-1)]]) (by simp [results, Tryz.results97, go_sem, c0, c1]) rfl ⟨0, _, [], 1, -1, rfl, HF.out, Or.inl ⟨rfl, Or.inl rfl⟩, (hbz.setCell (Nat.le_refl _) _).setCell (Nat.le_refl _) _⟩
  have d1 : decide ((ls.length : Int) < 3) = false := by simp; omega
  have hl1 : ls.length - 1 < ls.length := by omega
  have hcL := HCELL.out w1 (Below.refl _ _) (ls.length - 1) hl1
  have hix : ((ls.length : Int) - 1) = ((ls.length - 1 : Nat) : Int) := by omega
  have hgd : ls.getD (ls.length - 1) [] = ls[ls.length - 1] := by rw [List.getD_eq_getElem?_getD, List.getElem?_eq_getElem hl1]; rfl
  by_cases hlast : ls[ls.length - 1] = []
  case neg =>
    have d2 : (Lh.bt ls[ls.length - 1]).toList.isEmpty = false := Lh.bt_some hlast
    have HF : Hid (ReadF s 0 [] 1 (-1)) := HNO.out (Lh.parts_short (Or.inr (by rw [hgd]; exact hlast)))
    clear hlast hgd
    go_wp2_with fail
    refine (HBARE.out _ _).mono ?_
    rintro r w9 ⟨rfl, hb9⟩
    obtain ⟨c0, c1, f0, f1, hbz⟩ := HR0.out _ (below_then hb1 hb9)
    dsimp only
    go_wp2
    exact bodyPost_ret (v := .tuple #[.int .i64 0, .slice none 0 0, .agg #[.int .i64 1, .int .i64 (-1)]]) (by simp [results, Tryz.results97, go_sem, c0, c1]) rfl ⟨0, _, [], 1, -1, rfl, HF.out, Or.inl ⟨rfl, Or.inl rfl⟩, (hbz.setCell (Nat.le_refl _) _).setCell (Nat.le_refl _) _⟩
  have d2 : (Lh.bt ls[ls.length - 1]).toList.isEmpty = true := Lh.bt_void hlast
  have HSH : Hid (¬ (ls.length < 3 ∨ ls.getD (ls.length - 1) [] ≠ [])) := by
    show ¬ _
    rw [hgd]
    rintro (h | h)
    · exact hb3 h
    · exact h hlast
  clear hlast hgd
  have hl0 : 0 < ls.length := by omega
  have hcF := HCELL.out w1 (Below.refl _ _) 0 hl0
  have hgd0 : ls.getD 0 [] = ls[0] := by rw [List.getD_eq_getElem?_getD, List.getElem?_eq_getElem hl0]; rfl
  have HCUT1 := cutM_any ls[0] (by have := HLL.out _ (List.getElem_mem hl0); omega) 32
  have HL0 : Hid (ls[0].length ≤ 20000) := HLL.out _ (List.getElem_mem hl0)
  have hw32 : ∀ w ∈ Lh.cutL 32 ls[0], w.length ≤ 20000 := fun w hw => Nat.le_trans (Lh.cut_word 32 _ w hw) HL0.out
  go_wp2_with fail
  refine (HCUT1 _).mono ?_
  rintro r w2 ⟨v7, rfl, hown2, hb2⟩
  obtain ⟨g2, cap2, rfl, hg2, hcell2⟩ := words_of hown2 (Lh.cutL_ne _ _)
  dsimp only
  have hb12 := below_then hb1 hb2
  clear hown2 HCUT1
  by_cases h3 : (Lh.cutL 32 ls[0]).length = 3
  case neg =>
    have d3 : (((Lh.cutL 32 ls[0]).length : Int) != 3) = true := by simp; omega
    have HF : Hid (ReadF s 0 [] 1 (-1)) := HNO.out (Lh.parts_first (by rw [hgd0]; exact Lh.first_len h3))
    have hcl := Lh.cut_len 32 ls[0]
    have hcl2 : (Lh.cutL 32 ls[0]).length ≤ 20001 := by have := HL0.out; omega
    clear hcl h3 hw32 hcell2
    generalize Lh.cutL 32 ls[0] = hd at *
    go_wp2_with fail
    refine (HBARE.out _ _).mono ?_
    rintro r w9 ⟨rfl, hb9⟩
    obtain ⟨c0, c1, f0, f1, hbz⟩ := HR0.out _ (below_then hb12 hb9)
    dsimp only
    go_wp2
    exact bodyPost_ret (v := .tuple #[.int .i64 0, .slice none 0 0, .agg #[.int .i64 1, .int .i64 (-1)]]) (by simp [results, Tryz.results97, go_sem, c0, c1]) rfl ⟨0, _, [], 1, -1, rfl, HF.out, Or.inl ⟨rfl, Or.inl rfl⟩, (hbz.setCell (Nat.le_refl _) _).setCell (Nat.le_refl _) _⟩
  obtain ⟨a, b, c, e3⟩ := len3 h3
  have HE3 : Hid (Lh.cutL 32 ls[0] = [a, b, c]) := e3
  rw [e3] at hcell2 hw32
  rw [e3, show ([a, b, c] : List (List UInt8)).length = 3 from rfl]
  clear h3 e3
  have ca := hcell2 0 (by simp)
  have cb := hcell2 1 (by simp)
  have cc := hcell2 2 (by simp)
  simp only [List.getElem_cons_zero, List.getElem_cons_succ] at ca cb cc
  clear hcell2
  by_cases hfl : a = Lh.flowsW
  case neg =>
    have d4 : ((Lh.bt a).toList == [102, 108, 111, 119, 115]) = false := Lh.bt_not hfl
    have HF : Hid (ReadF s 0 [] 1 (-1)) := HNO.out (Lh.parts_first (by rw [hgd0]; exact Lh.first_word HE3.out hfl))
    clear hfl hw32
    go_wp2_with fail
    refine (HBARE.out _ _).mono ?_
    rintro r w9 ⟨rfl, hb9⟩
    obtain ⟨c0, c1, f0, f1, hbz⟩ := HR0.out _ (below_then hb12 hb9)
    dsimp only
    go_wp2
    exact bodyPost_ret (v := .tuple #[.int .i64 0, .slice none 0 0, .agg #[.int .i64 1, .int .i64 (-1)]]) (by simp [results, Tryz.results97, go_sem, c0, c1]) rfl ⟨0, _, [], 1, -1, rfl, HF.out, Or.inl ⟨rfl, Or.inl rfl⟩, (hbz.setCell (Nat.le_refl _) _).setCell (Nat.le_refl _) _⟩
  have d4 : ((Lh.bt a).toList == [102, 108, 111, 119, 115]) = true := Lh.bt_is hfl
  have HNB := numberM_any b (by have := hw32 b (by simp); omega)
  have HNC := numberM_any c (by have := hw32 c (by simp); omega)
  have HFL : Hid (a = Lh.flowsW) := hfl
  clear hfl hw32
  go_wp2_with fail
  refine (HNB _).mono ?_
  rintro r w3 ⟨rfl, rfl⟩
  dsimp only
  go_wp2_with fail
  refine (HNC _).mono ?_
  rintro r w3 ⟨rfl, rfl⟩
  dsimp only
  clear HNB HNC
  rcases Lh.num_ex b with hnb | ⟨m1, hnb⟩
  · have hbi : Lh.numI b = -1 := by unfold Lh.numI; rw [hnb]
    have HF : Hid (ReadF s 0 [] 1 (-1)) := HNO.out (Lh.parts_first (by rw [hgd0]; exact Lh.first_num HE3.out (Or.inl hnb)))
    rw [hbi]
    clear hnb hbi
    go_wp2_with fail
    refine (HBARE.out _ _).mono ?_
    rintro r w9 ⟨rfl, hb9⟩
    obtain ⟨c0, c1, f0, f1, hbz⟩ := HR0.out _ (below_then hb12 hb9)
    dsimp only
    go_wp2
    exact bodyPost_ret (v := .tuple #[.int .i64 0, .slice none 0 0, .agg #[.int .i64 1, .int .i64 (-1)]]) (by simp [results, Tryz.results97, go_sem, c0, c1]) rfl ⟨0, _, [], 1, -1, rfl, HF.out, Or.inl ⟨rfl, Or.inl rfl⟩, (hbz.setCell (Nat.le_refl _) _).setCell (Nat.le_refl _) _⟩
  have hbi : Lh.numI b = (m1 : Int) := by unfold Lh.numI; rw [hnb]
  rw [hbi]
  clear hbi
  rcases Lh.num_ex c with hnc | ⟨m2, hnc⟩
  · have hci : Lh.numI c = -1 := by unfold Lh.numI; rw [hnc]
    have HF : Hid (ReadF s 0 [] 1 (-1)) := HNO.out (Lh.parts_first (by rw [hgd0]; exact Lh.first_num HE3.out (Or.inr hnc)))
    rw [hci]
    clear hnb hnc hci
    go_wp2_with fail
    refine (HBARE.out _ _).mono ?_
    rintro r w9 ⟨rfl, hb9⟩
    obtain ⟨c0, c1, f0, f1, hbz⟩ := HR0.out _ (below_then hb12 hb9)
    dsimp only
    go_wp2
    exact bodyPost_ret (v := .tuple #[.int .i64 0, .slice none 0 0, .agg #[.int .i64 1, .int .i64 (-1)]]) (by simp [results, Tryz.results97, go_sem, c0, c1]) rfl ⟨0, _, [], 1, -1, rfl, HF.out, Or.inl ⟨rfl, Or.inl rfl⟩, (hbz.setCell (Nat.le_refl _) _).setCell (Nat.le_refl _) _⟩
  have hci : Lh.numI c = (m2 : Int) := by unfold Lh.numI; rw [hnc]
  rw [hci]
  clear hci
  have HFS : Hid (Lh.firstL (ls.getD 0 []) = some (m1, m2)) := by
    show _ = _
    rw [hgd0]
    exact Lh.first_some HE3.out HFL.out hnb hnc
  have hix3 : ((ls.length : Int) - 3) = ((ls.length - 3 : Nat) : Int) := by omega
  have hix2 : ((ls.length : Int) - 2) = ((ls.length - 2 : Nat) : Int) := by omega
  clear hnb hnc hgd0
  have e5 : decide ((m1 : Int) < 0) = false := by simp
  have e6 : decide ((m2 : Int) < 0) = false := by simp
  by_cases hm : m2 + 3 = ls.length
  case neg =>
    have d7 : ((m2 : Int) != ((ls.length - 3 : Nat) : Int)) = true := by simp; omega
    have HF : Hid (ReadF s 0 [] 1 (-1)) := HNO.out (Lh.parts_many HFS.out hm)
    clear hm
    go_wp2_with fail
    refine (HBARE.out _ _).mono ?_
    rintro r w9 ⟨rfl, hb9⟩
    obtain ⟨c0, c1, f0, f1, hbz⟩ := HR0.out _ (below_then hb12 hb9)
    dsimp only
    go_wp2
    exact bodyPost_ret (v := .tuple #[.int .i64 0, .slice none 0 0, .agg #[.int .i64 1, .int .i64 (-1)]]) (by simp [results, Tryz.results97, go_sem, c0, c1]) rfl ⟨0, _, [], 1, -1, rfl, HF.out, Or.inl ⟨rfl, Or.inl rfl⟩, (hbz.setCell (Nat.le_refl _) _).setCell (Nat.le_refl _) _⟩
  have d7 : ((m2 : Int) != ((ls.length - 3 : Nat) : Int)) = false := by simp; omega
  have HM : Hid (m2 + 3 = ls.length) := hm
  have hcF3 := HCELL.out w3 hb2 0 hl0
  have hsz0 := Lh.bt_size ls[0]
  have hl00 := HL0.out
  have hu64 : (Lh.bt ls[0]).size ≤ 20000 := by omega
  clear hm hcF hcL ca cb cc
  go_wp2_with fail
  go_loopw [10, 11, 12, 13, 14, 15, 16] (fun u10 u11 u12 _ _ _ _ w' => Below w3.heap.size w3 w' ∧ ∃ (i : Nat) (L : List Lh.Fl), 1 ≤ i ∧ i + 2 ≤ ls.length ∧ L.length + 1 = i ∧ u12 = .int .i64 (i : Nat) ∧ u11 = .int .i64 (((Lh.joinL 10 (ls.take i)).length + 1 : Nat) : Int) ∧ w'.ownsRow w3.heap.size 82 3 u10 L.length (flatF L) ∧ Lh.rowsL ((ls.drop 1).take (i - 1)) = some L ∧ ∀ x ∈ L, x.2.1.size ≤ 20000) (fun _ _ u12 _ _ _ _ _ => ls.length - (intOf u12).toNat)
  case atStart =>
    refine ⟨Below.refl _ _, 1, [], Nat.le_refl _, by omega, rfl, rfl, ?_, World.ownsRow_nil _ _ _ _, rfl, fun x hx => by cases hx⟩
    have ht1 : Lh.joinL 10 (ls.take 1) = ls[0] := by
      cases ls with
      | nil => simp at hl0
      | cons x xs => simp [Lh.joinL]
    rw [ht1]
    congr 1
  case round =>
    obtain ⟨hb, i, L, h1i, hi2, hLi, rfl, rfl, hown, hrow, hLs⟩ := hrel
    obtain ⟨wo, hwo⟩ : ∃ wo, wo = wr := ⟨_, rfl⟩
    subst hwo
    have hbX := below_then hb12 hb
    have hb1X := below_then hb2 hb
    have HLS : Hid (∀ x ∈ L, x.2.1.size ≤ 20000) := hLs
    have HROW : Hid (Lh.rowsL ((ls.drop 1).take (i - 1)) = some L) := hrow
    have HAH := Lh.join_ahead (ls := ls) (i := i) (by omega) (by omega)
    rw [HJ.out] at HAH
    have hA : (Lh.joinL 10 (ls.take i)).length + 1 ≤ 20000 := by have := HAH.2; omega
    clear hLs hrow hcF3 hsz0 hu64 hl00
    by_cases hil : i + 2 < ls.length
    · have dI : decide ((i : Int) < ((ls.length - 2 : Nat) : Int)) = true := by simp; omega
      have hii : (i : Int) < (ls.length : Int) := by omega
      have hil0 : i < ls.length := by omega
      have hci := HCELL.out wo hb1X i hil0
      have hli : ls[i].length ≤ 20000 := HLL.out _ (List.getElem_mem hil0)
      have hszi := Lh.bt_size ls[i]
      have HJT : Hid ((Lh.joinL 10 (ls.take (i + 1))).length = (Lh.joinL 10 (ls.take i)).length + ls[i].length + 1) := Lh.join_take (by omega) hil0
      have HBADR : Hid (Lh.lineV ls[i] = none → ReadF s 0 [] 1 (-1)) := fun h => HNO.out (Lh.parts_rows (Lh.rows_bad (Lh.mem_mid (by omega) hil) h))
      have HSTEP : Hid (∀ x, Lh.lineV ls[i] = some x → Lh.rowsL ((ls.drop 1).take (i + 1 - 1)) = some (L ++ [x])) := fun x hx => by
        rw [Lh.mid_step (by omega) hil0]
        exact Lh.rows_snoc HROW.out hx
      have HCUTi := cutM_any ls[i] (by omega) 32
      have hw32 : ∀ w ∈ Lh.cutL 32 ls[i], w.length ≤ 20000 := fun w hw => Nat.le_trans (Lh.cut_word 32 _ w hw) hli
      have hcl : (Lh.cutL 32 ls[i]).length ≤ 20001 := by have := Lh.cut_len 32 ls[i]; omega
      have hcne := Lh.cutL_ne 32 ls[i]
      have HLEN : Hid ((Lh.cutL 32 ls[i]).length ≠ 3 → Lh.lineV ls[i] = none) := Lh.line_len
      have HWRD : Hid (∀ a b c, Lh.cutL 32 ls[i] = [a, b, c] → b = [] ∨ a.length ≠ 16 → Lh.lineV ls[i] = none) := fun a b c => Lh.line_word
      have HNUM : Hid (∀ a b c, Lh.cutL 32 ls[i] = [a, b, c] → Lh.hexV a = none ∨ Lh.numL c = none → Lh.lineV ls[i] = none) := fun a b c => Lh.line_num
      have HSOM : Hid (∀ a b c, Lh.cutL 32 ls[i] = [a, b, c] → b ≠ [] → a.length = 16 → ∀ k u, Lh.hexV a = some k → Lh.numL c = some u → Lh.lineV ls[i] = some (k, Lh.bt b, (u : Int))) := fun a b c e h1 h2 k u => Lh.line_some e h1 h2
      generalize Lh.lineV ls[i] = LV at *
      generalize hAA : (Lh.joinL 10 (ls.take i)).length = AA at *
      generalize ls[i] = li at *
      go_wp2_with fail
      refine (HCUTi _).mono ?_
      rintro r w4 ⟨v13, rfl, hown4, hb4⟩
      obtain ⟨g4, cap4, rfl, hg4, hcell4⟩ := words_of hown4 hcne
      dsimp only
      have hbX4 := below_then hbX hb4
      have hown' := ownsRow_below hown hb4
      clear hown4 HCUTi hci hown
      by_cases h3 : (Lh.cutL 32 li).length = 3
      case neg =>
        have d3 : (((Lh.cutL 32 li).length : Int) != 3) = true := by simp; omega
        have HF : Hid (ReadF s 0 [] 1 (-1)) := HBADR.out (HLEN.out h3)
        clear h3 hw32 hcell4 hcne
        generalize Lh.cutL 32 li = hd at *
        go_wp2_with fail
        refine (HBARE.out _ _).mono ?_
        rintro r w9 ⟨rfl, hb9⟩
        obtain ⟨c0, c1, f0, f1, hbz⟩ := HR0.out _ (below_then hbX4 hb9)
        dsimp only
        go_wp2
        exact bodyPost_ret (v := .tuple #[.int .i64 0, .slice none 0 0, .agg #[.int .i64 1, .int .i64 (-1)]]) (by simp [results, Tryz.results97, go_sem, c0, c1]) rfl ⟨0, _, [], 1, -1, rfl, HF.out, Or.inl ⟨rfl, Or.inl rfl⟩, (hbz.setCell (Nat.le_refl _) _).setCell (Nat.le_refl _) _⟩
      obtain ⟨a4, b4, c4, e3⟩ := len3 h3
      have HW4 := HWRD.out a4 b4 c4 e3
      have HN4 := HNUM.out a4 b4 c4 e3
      have HS4 := HSOM.out a4 b4 c4 e3
      rw [e3] at hcell4 hw32
      rw [e3]
      clear h3 e3 HWRD HNUM HSOM HLEN hcl hcne
      have ka := hcell4 0 (by simp)
      have kb := hcell4 1 (by simp)
      have kc := hcell4 2 (by simp)
      simp only [List.getElem_cons_zero, List.getElem_cons_succ] at ka kb kc
      clear hcell4
      by_cases hb4e : b4 = []
      · have d4x : (Lh.bt b4).toList.isEmpty = true := Lh.bt_void hb4e
        have HF : Hid (ReadF s 0 [] 1 (-1)) := HBADR.out (HW4 (Or.inl hb4e))
        clear hb4e hw32 HW4 HN4 HS4
        go_wp2_with fail
        refine (HBARE.out _ _).mono ?_
        rintro r w9 ⟨rfl, hb9⟩
        obtain ⟨c0, c1, f0, f1, hbz⟩ := HR0.out _ (below_then hbX4 hb9)
        dsimp only
        go_wp2
        exact bodyPost_ret (v := .tuple #[.int .i64 0, .slice none 0 0, .agg #[.int .i64 1, .int .i64 (-1)]]) (by simp [results, Tryz.results97, go_sem, c0, c1]) rfl ⟨0, _, [], 1, -1, rfl, HF.out, Or.inl ⟨rfl, Or.inl rfl⟩, (hbz.setCell (Nat.le_refl _) _).setCell (Nat.le_refl _) _⟩
      have d4x : (Lh.bt b4).toList.isEmpty = false := Lh.bt_some hb4e
      have HXA := hexOfM_any a4 16 (by decide) (by have := hw32 a4 (by simp); omega)
      have HNC4 := numberM_any c4 (by have := hw32 c4 (by simp); omega)
      have HSB : Hid ((Lh.bt b4).size ≤ 20000) := by
        show _ ≤ _
        rw [Lh.bt_size]
        exact hw32 b4 (by simp)
      have HB4 : Hid (b4 ≠ []) := hb4e
      have HW4' : Hid (b4 = [] ∨ a4.length ≠ 16 → LV = none) := HW4
      have HN4' : Hid (Lh.hexV a4 = none ∨ Lh.numL c4 = none → LV = none) := HN4
      have HS4' : Hid (b4 ≠ [] → a4.length = 16 → ∀ k u, Lh.hexV a4 = some k → Lh.numL c4 = some u → LV = some (k, Lh.bt b4, (u : Int))) := HS4
      clear hb4e hw32 HW4 HN4 HS4
      go_wp2_with fail
      refine (HXA _).mono ?_
      rintro r w5 ⟨hcase, rfl⟩
      rcases hcase with ⟨hx16, kx, hkx, rfl⟩ | ⟨hxbad, rfl⟩
      case inr =>
        have HF : Hid (ReadF s 0 [] 1 (-1)) := HBADR.out (by
          rcases hxbad with h | h
          · exact HW4'.out (Or.inr h)
          · exact HN4'.out (Or.inl h))
        clear hxbad
        dsimp only
        go_wp2_with fail
        refine (HNC4 _).mono ?_
        rintro r w5 ⟨rfl, rfl⟩
        dsimp only
        go_wp2_with fail
        refine (HBARE.out _ _).mono ?_
        rintro r w9 ⟨rfl, hb9⟩
        obtain ⟨c0, c1, f0, f1, hbz⟩ := HR0.out _ (below_then hbX4 hb9)
        dsimp only
        go_wp2
        exact bodyPost_ret (v := .tuple #[.int .i64 0, .slice none 0 0, .agg #[.int .i64 1, .int .i64 (-1)]]) (by simp [results, Tryz.results97, go_sem, c0, c1]) rfl ⟨0, _, [], 1, -1, rfl, HF.out, Or.inl ⟨rfl, Or.inl rfl⟩, (hbz.setCell (Nat.le_refl _) _).setCell (Nat.le_refl _) _⟩
      have HKX : Hid (Lh.hexV a4 = some kx) := hkx
      have HX16 : Hid (a4.length = 16) := hx16
      clear hx16 hkx
      dsimp only
      go_wp2_with fail
      refine (HNC4 _).mono ?_
      rintro r w5 ⟨rfl, rfl⟩
      dsimp only
      clear HXA HNC4
      rcases Lh.num_ex c4 with hnc | ⟨u4, hnc⟩
      · have hci : Lh.numI c4 = -1 := by unfold Lh.numI; rw [hnc]
        have HF : Hid (ReadF s 0 [] 1 (-1)) := HBADR.out (HN4'.out (Or.inr hnc))
        rw [hci]
        clear hnc hci
        go_wp2_with fail
        refine (HBARE.out _ _).mono ?_
        rintro r w9 ⟨rfl, hb9⟩
        obtain ⟨c0, c1, f0, f1, hbz⟩ := HR0.out _ (below_then hbX4 hb9)
        dsimp only
        go_wp2
        exact bodyPost_ret (v := .tuple #[.int .i64 0, .slice none 0 0, .agg #[.int .i64 1, .int .i64 (-1)]]) (by simp [results, Tryz.results97, go_sem, c0, c1]) rfl ⟨0, _, [], 1, -1, rfl, HF.out, Or.inl ⟨rfl, Or.inl rfl⟩, (hbz.setCell (Nat.le_refl _) _).setCell (Nat.le_refl _) _⟩
      have hci : Lh.numI c4 = (u4 : Int) := by unfold Lh.numI; rw [hnc]
      have HLV : Hid (LV = some (kx, Lh.bt b4, (u4 : Int))) := HS4'.out HB4.out HX16.out kx u4 HKX.out hnc
      rw [hci]
      clear hnc hci
      have e4 : decide ((u4 : Int) < 0) = false := by simp
      have hb35 := below_then hb hb4
      have hown3 := hown'.alloc (.cells #[.int .u64 (kx : Nat), .string (Lh.bt b4), .int .i64 (u4 : Int)] 82)
      have hnews : ∀ j u, (encF (kx, Lh.bt b4, (u4 : Int)))[j]? = some u → (w5.alloc (.cells #[.int .u64 (kx : Nat), .string (Lh.bt b4), .int .i64 (u4 : Int)] 82)).cell? ((⟨w5.heap.size, 0, none⟩ : Addr).add j) = some u := cellsX (kx, Lh.bt b4, (u4 : Int))
      have hbw3 : Below w3.heap.size w3 (w5.alloc (.cells #[.int .u64 (kx : Nat), .string (Lh.bt b4), .int .i64 (u4 : Int)] 82)) := hb35.alloc hb35.size _
      have hmax : L.length + 1 ≤ maxLen := by unfold maxLen; omega
      obtain ⟨vo, hvo⟩ : ∃ vo, vo = u10 := ⟨_, rfl⟩
      subst hvo
      clear hown' hbX4 hb4
      go_wp2_with (at_builtin; refine wpList_append_own _ rfl _ _ 48 rfl w3.heap.size 82 iF _ 3 32 Tryz.underlying48 hiF hz0 hz1 hz2 rfl (by decide) vo L.length (flatF L) rfl hown3 ⟨w5.heap.size, 0, none⟩ 1 1 (encF (kx, Lh.bt b4, (u4 : Int))) rfl rfl hnews (encF_one _) hmax (by omega) hbw3.size ?_)
      intro v6 w6 hown6 hg6 _
      have hb6 : Below w3.heap.size w3 w6 := hbw3.grown hg6 hbw3.size (fun k h => (hown3.lt k h).1)
      have HOUT : Hid (w6.ownsRow w3.heap.size 82 3 v6 (L ++ [(kx, Lh.bt b4, (u4 : Int))]).length (flatF (L ++ [(kx, Lh.bt b4, (u4 : Int))]))) := by
        show World.ownsRow _ _ _ _ _ _ _
        rw [List.length_append, show L.length + [(kx, Lh.bt b4, (u4 : Int))].length = i from hLi, flatF_append]
        have e1 : flatF [(kx, Lh.bt b4, (u4 : Int))] = encF (kx, Lh.bt b4, (u4 : Int)) := by simp [flatF]
        rw [e1]
        exact hown6
      have HLN : Hid (∀ x ∈ L ++ [(kx, Lh.bt b4, (u4 : Int))], x.2.1.size ≤ 20000) := fun x hx => by
        rcases List.mem_append.1 hx with h | h
        · exact HLS.out x h
        · simp at h
          subst h
          exact HSB.out
      clear hown3 hnews hbw3 hmax hg6 hown6 ka kb kc
      go_wp2
      refine ⟨⟨hb6, i + 1, L ++ [(kx, Lh.bt b4, (u4 : Int))], by omega, by omega, by rw [List.length_append]; simp; omega, by go_num, ?_, HOUT.out, HSTEP.out _ HLV.out, HLN.out⟩, by simp [intOf]; omega⟩
      rw [HJT.out]
      congr 1
      omega
    · have dI : decide ((i : Int) < ((ls.length - 2 : Nat) : Int)) = false := by simp; omega
      have hie : i = ls.length - 2 := by omega
      have hil0 : ls.length - 2 < ls.length := by omega
      have hci := HCELL.out wo hb1X (ls.length - 2) hil0
      have hgdl : ls.getD (ls.length - 2) [] = ls[ls.length - 2] := by rw [List.getD_eq_getElem?_getD, List.getElem?_eq_getElem hil0]; rfl
      have hli : ls[ls.length - 2].length ≤ 20000 := HLL.out _ (List.getElem_mem hil0)
      have HROW2 : Hid (Lh.rowsL ((ls.drop 1).take (ls.length - 3)) = some L) := by
        have := HROW.out
        rw [show i - 1 = ls.length - 3 by omega] at this
        exact this
      have HT : Hid (ls.take i = ls.take (ls.length - 2)) := by show _ = _; rw [hie]
      have HBADL : Hid (Lh.lastL ls[ls.length - 2] = none → ReadF s 0 [] 1 (-1)) := fun h => HNO.out (Lh.parts_last (by rw [hgdl]; exact h))
      have HGOOD : Hid (∀ k, Lh.lastL ls[ls.length - 2] = some k → Lh.partsL ls = some (m1, L, k, ls.take (ls.length - 2))) := fun k hk => Lh.parts_some HSH.out HFS.out HM.out HROW2.out (by rw [hgdl]; exact hk)
      have HCUTi := cutM_any ls[ls.length - 2] (by omega) 32
      have hw32 : ∀ w ∈ Lh.cutL 32 ls[ls.length - 2], w.length ≤ 20000 := fun w hw => Nat.le_trans (Lh.cut_word 32 _ w hw) hli
      have hcl : (Lh.cutL 32 ls[ls.length - 2]).length ≤ 20001 := by have := Lh.cut_len 32 ls[ls.length - 2]; omega
      have hcne := Lh.cutL_ne 32 ls[ls.length - 2]
      have HLEN : Hid ((Lh.cutL 32 ls[ls.length - 2]).length ≠ 2 → Lh.lastL ls[ls.length - 2] = none) := Lh.last_len
      have HWRD : Hid (∀ a b, Lh.cutL 32 ls[ls.length - 2] = [a, b] → a ≠ Lh.sumW ∨ b.length ≠ 8 → Lh.lastL ls[ls.length - 2] = none) := fun a b => Lh.last_word
      have HNUM : Hid (∀ a b, Lh.cutL 32 ls[ls.length - 2] = [a, b] → Lh.hexV b = none → Lh.lastL ls[ls.length - 2] = none) := fun a b => Lh.last_none
      have HSOM : Hid (∀ a b, Lh.cutL 32 ls[ls.length - 2] = [a, b] → a = Lh.sumW → b.length = 8 → Lh.lastL ls[ls.length - 2] = Lh.hexV b) := fun a b => Lh.last_hex
      have hlt2 : ((ls.length - 2 : Nat) : Int) < (ls.length : Int) := by omega
      clear hgdl hie
      generalize Lh.lastL ls[ls.length - 2] = LV at *
      generalize ls[ls.length - 2] = li at *
      go_wp2_with fail
      refine (HCUTi _).mono ?_
      rintro r w4 ⟨v17, rfl, hown4, hb4⟩
      obtain ⟨g4, cap4, rfl, hg4, hcell4⟩ := words_of hown4 hcne
      dsimp only
      have hbX4 := below_then hbX hb4
      have hown' := ownsRow_below hown hb4
      clear hown4 HCUTi hci hown
      by_cases h3 : (Lh.cutL 32 li).length = 2
      case neg =>
        have d3 : (((Lh.cutL 32 li).length : Int) != 2) = true := by simp; omega
        have HF : Hid (ReadF s 0 [] 1 (-1)) := HBADL.out (HLEN.out h3)
        clear h3 hw32 hcell4 hcne
        generalize Lh.cutL 32 li = hd at *
        go_wp2_with fail
        refine (HBARE.out _ _).mono ?_
        rintro r w9 ⟨rfl, hb9⟩
        obtain ⟨c0, c1, f0, f1, hbz⟩ := HR0.out _ (below_then hbX4 hb9)
        dsimp only
        go_wp2
        exact bodyPost_ret (v := .tuple #[.int .i64 0, .slice none 0 0, .agg #[.int .i64 1, .int .i64 (-1)]]) (by simp [results, Tryz.results97, go_sem, c0, c1]) rfl ⟨0, _, [], 1, -1, rfl, HF.out, Or.inl ⟨rfl, Or.inl rfl⟩, (hbz.setCell (Nat.le_refl _) _).setCell (Nat.le_refl _) _⟩
      obtain ⟨a4, b4, e3⟩ := len2 h3
      have HW4 : Hid (a4 ≠ Lh.sumW ∨ b4.length ≠ 8 → LV = none) := HWRD.out a4 b4 e3
      have HN4 : Hid (Lh.hexV b4 = none → LV = none) := HNUM.out a4 b4 e3
      have HS4 : Hid (a4 = Lh.sumW → b4.length = 8 → LV = Lh.hexV b4) := HSOM.out a4 b4 e3
      rw [e3] at hcell4 hw32
      rw [e3]
      clear h3 e3 HWRD HNUM HSOM HLEN hcl hcne
      have ka := hcell4 0 (by simp)
      have kb := hcell4 1 (by simp)
      simp only [List.getElem_cons_zero, List.getElem_cons_succ] at ka kb
      clear hcell4
      by_cases hsum : a4 = Lh.sumW
      case neg =>
        have d4x : ((Lh.bt a4).toList == [115, 117, 109]) = false := Lh.bt_not hsum
        have HF : Hid (ReadF s 0 [] 1 (-1)) := HBADL.out (HW4.out (Or.inl hsum))
        clear hsum hw32
        go_wp2_with fail
        refine (HBARE.out _ _).mono ?_
        rintro r w9 ⟨rfl, hb9⟩
        obtain ⟨c0, c1, f0, f1, hbz⟩ := HR0.out _ (below_then hbX4 hb9)
        dsimp only
        go_wp2
        exact bodyPost_ret (v := .tuple #[.int .i64 0, .slice none 0 0, .agg #[.int .i64 1, .int .i64 (-1)]]) (by simp [results, Tryz.results97, go_sem, c0, c1]) rfl ⟨0, _, [], 1, -1, rfl, HF.out, Or.inl ⟨rfl, Or.inl rfl⟩, (hbz.setCell (Nat.le_refl _) _).setCell (Nat.le_refl _) _⟩
      have d4x : ((Lh.bt a4).toList == [115, 117, 109]) = true := Lh.bt_is hsum
      have HXA := hexOfM_any b4 8 (by decide) (by have := hw32 b4 (by simp); omega)
      have HSUM : Hid (a4 = Lh.sumW) := hsum
      clear hsum hw32
      go_wp2_with fail
      refine (HXA _).mono ?_
      rintro r w5 ⟨hcase, rfl⟩
      rcases hcase with ⟨hx8, kx, hkx, rfl⟩ | ⟨hxbad, rfl⟩
      case inr =>
        have HF : Hid (ReadF s 0 [] 1 (-1)) := HBADL.out (by
          rcases hxbad with h | h
          · exact HW4.out (Or.inr h)
          · exact HN4.out h)
        clear hxbad
        dsimp only
        go_wp2_with fail
        refine (HBARE.out _ _).mono ?_
        rintro r w9 ⟨rfl, hb9⟩
        obtain ⟨c0, c1, f0, f1, hbz⟩ := HR0.out _ (below_then hbX4 hb9)
        dsimp only
        go_wp2
        exact bodyPost_ret (v := .tuple #[.int .i64 0, .slice none 0 0, .agg #[.int .i64 1, .int .i64 (-1)]]) (by simp [results, Tryz.results97, go_sem, c0, c1]) rfl ⟨0, _, [], 1, -1, rfl, HF.out, Or.inl ⟨rfl, Or.inl rfl⟩, (hbz.setCell (Nat.le_refl _) _).setCell (Nat.le_refl _) _⟩
      have HPART : Hid (Lh.partsL ls = some (m1, L, kx, ls.take (ls.length - 2))) := HGOOD.out kx (by rw [HS4.out HSUM.out hx8, hkx])
      clear hx8 hkx HXA
      dsimp only
      obtain ⟨T, hT⟩ : ∃ T, Lh.joinL 10 (ls.take i) ++ [10] = T := ⟨_, rfl⟩
      have hext : (Lh.bt s).extract 0 ((Lh.joinL 10 (ls.take i)).length + 1) = Lh.bt T := by
        rw [Lh.bt_extract, List.drop_zero, Nat.sub_zero, HAH.1, hT]
      have hTl : T.length ≤ 20000 := by rw [← hT, List.length_append]; simpa using hA
      have HTT : Hid (Lh.joinL 10 (ls.take (ls.length - 2)) ++ [10] = T) := by
        show _ = _
        rw [← HT.out]
        exact hT
      have hAs := HAH.2
      have HCRC := crcM_any T (by omega)
      clear hT HAH
      generalize (Lh.joinL 10 (ls.take i)).length = AA at *
      have hcrc := Lh.crcL_lt T
      have hAi : ((AA + 1 : Nat) : Int) ≤ (s.length : Int) := by omega
      by_cases hck : kx = Lh.crcL T
      case neg =>
        have d8 : ((kx : Int) != ((Lh.crcL T : Nat) : Int)) = true := by simp; omega
        have HF : Hid (ReadF s 0 [] 9 (-1)) := Or.inr (Or.inr ⟨hs2, m1, L, kx, _, by rw [HCS.out]; exact HPART.out, Or.inl ⟨by rw [HTT.out]; exact hck, rfl, rfl, rfl, rfl⟩⟩)
        clear hck
        go_wp2_with fail
        refine (HCRC _).mono ?_
        rintro r w6 ⟨rfl, rfl⟩
        dsimp only
        go_wp2_with fail
        refine (HBARE.out _ _).mono ?_
        rintro r w9 ⟨rfl, hb9⟩
        obtain ⟨c0, c1, f0, f1, hbz⟩ := HR0.out _ (below_then hbX4 hb9)
        dsimp only
        go_wp2
        exact bodyPost_ret (v := .tuple #[.int .i64 0, .slice none 0 0, .agg #[.int .i64 9, .int .i64 (-1)]]) (by simp [results, Tryz.results97, go_sem, c0, c1]) rfl ⟨0, _, [], 9, -1, rfl, HF.out, Or.inl ⟨rfl, Or.inl rfl⟩, (hbz.setCell (Nat.le_refl _) _).setCell (Nat.le_refl _) _⟩
      have d8 : ((kx : Int) != ((Lh.crcL T : Nat) : Int)) = false := by simp; omega
      have HREAD : Hid (∀ (c : Nat) (pl n : Int) (l : List Lh.Fl), CaF (m1 : Int) L c pl → ((c ≠ 0 ∧ n = 0 ∧ l = []) ∨ (c = 0 ∧ n = (m1 : Int) ∧ l = L)) → ReadF s n l c pl) := fun c pl n l h1 h2 => Or.inr (Or.inr ⟨hs2, m1, L, kx, _, by rw [HCS.out]; exact HPART.out, Or.inr ⟨by rw [HTT.out]; exact hck, h1, h2⟩⟩)
      have HLFL : L.length ≤ 100000 := by omega
      have HCAF : Hid (∀ W, Below w5.heap.size w5 W → Calls Tryz.prog 134 #[.int .i64 (m1 : Int), u10] W fun r w' => ∃ c pl, r = .returned (.agg #[.int .i64 (c : Nat), .int .i64 pl]) ∧ CaF m1 L c pl ∧ Below W.heap.size W w') := fun W hW => caFaultM_any (m1 : Int) u10 L W (flows_of_owns (ownsRow_below hown' hW)).1 HLFL (fun x hx => by have := HLS.out x hx; omega)
      obtain ⟨vo, hvo⟩ : ∃ vo, vo = u10 := ⟨_, rfl⟩
      subst hvo
      clear hck
      go_wp2_with fail
      refine (HCRC _).mono ?_
      rintro r w6 ⟨rfl, rfl⟩
      dsimp only
      go_wp2_with fail
      refine (HCAF.out _ (Below.refl _ _)).mono ?_
      rintro r w7 ⟨c9, pl9, rfl, hcaf, hb7⟩
      dsimp only
      have hown7 := ownsRow_below hown' hb7
      have hb07 := below_then hbX4 hb7
      have hbA : Below w7.heap.size w7 (w7.alloc (.cells #[.int .i64 (c9 : Nat), .int .i64 pl9] 37)) := (Below.refl _ _).alloc (Nat.le_refl _) _
      have hown8 := ownsRow_below hown7 hbA
      have hb08 := below_then hb07 hbA
      obtain ⟨q0, q1, f0, f1, hbz⟩ := HR0.out _ hb08
      have p0 : (w7.alloc (.cells #[.int .i64 (c9 : Nat), .int .i64 pl9] 37)).cell? ⟨w7.heap.size, 0, none⟩ = some (.int .i64 (c9 : Nat)) := by simp
      have p1 : (w7.alloc (.cells #[.int .i64 (c9 : Nat), .int .i64 pl9] 37)).cell? ⟨w7.heap.size, 1, none⟩ = some (.int .i64 pl9) := by simp
      have hwr : W.heap.size < w3.heap.size := World.block_lt_of_cell? w3 ⟨W.heap.size, 0, none⟩ (HR0.out _ hb12).1
      clear hb7 hown' hown7 hbA hb07 hb08 HCRC
      by_cases hc0 : c9 = 0
      · subst hc0
        have HF : Hid (ReadF s m1 L 0 pl9) := HREAD.out _ _ _ _ hcaf (Or.inr ⟨rfl, rfl, rfl⟩)
        clear hcaf
        simp only [Int.cast_ofNat_Int] at p0 p1 hown8 q0 q1 f0 f1 hbz ⊢
        go_wp2_with fail
        generalize w7.alloc (.cells #[.int .i64 0, .int .i64 pl9] 37) = w8 at *
        generalize w7.heap.size = fb at *
        go_region
        all_goals
          go_wp2
          refine bodyPost_ret (v := .tuple #[.int .i64 m1, vo, .agg #[.int .i64 0, .int .i64 pl9]]) (by simp [results, Tryz.results97, go_sem, q0, q1]) rfl ⟨m1, vo, L, 0, pl9, rfl, HF.out, ?_, (hbz.drew.setCell (Nat.le_refl _) _).setCell (Nat.le_refl _) _⟩
          exact (flows_of_owns (owns_setCellF (owns_setCellF (w := w8.drew) hown8 hwr _) hwr _)).1
      · have dC : decide (0 < (c9 : Int)) = true := by simp; omega
        have dC2 : 0 < c9 := by omega
        have HF : Hid (ReadF s 0 [] c9 pl9) := HREAD.out _ _ _ _ hcaf (Or.inl ⟨hc0, rfl, rfl⟩)
        clear hcaf hc0
        go_wp2_with fail
        generalize w7.alloc (.cells #[.int .i64 (c9 : Nat), .int .i64 pl9] 37) = w8 at *
        generalize w7.heap.size = fb at *
        go_region
        all_goals
          go_wp2
          exact bodyPost_ret (v := .tuple #[.int .i64 0, .slice none 0 0, .agg #[.int .i64 c9, .int .i64 pl9]]) (by simp [results, Tryz.results97, go_sem, q0, q1]) rfl ⟨0, _, [], c9, pl9, rfl, HF.out, Or.inl ⟨rfl, Or.inl rfl⟩, (hbz.drew.setCell (Nat.le_refl _) _).setCell (Nat.le_refl _) _⟩
end Go.Proofs.YtmdckddenelneaaGreatDoor
