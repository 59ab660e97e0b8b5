/- What is carried over: it comes back; what is cut off, and a byte that is turned, are seen. -/
import Derived.Test.YtmdckddenelneaaGreatDoorM19
import Derived.Laws.Strings
import Derived.Test.YtmdckddenelneaaGreatDoorM6
import Derived.Test.YtmdckddenelneaaGreatDoorM17
import Derived.Deep.AppendLies
namespace Go.Proofs.YtmdckddenelneaaGreatDoor
namespace Lh

theorem dig_not {c y : UInt8} (h : isDg c = true) (hy : y.toNat < 48) : c ≠ y := by
  intro e
  subst e
  unfold isDg at h
  simp at h
  omega
theorem decL_no (n : Nat) {y : UInt8} (hy : y.toNat < 48) : y ∉ decL n := fun h => dig_not (List.all_eq_true.1 (decL_dig n) y h) hy rfl
theorem hexL_no (k n : Nat) {y : UInt8} (hy : y.toNat < 48) : y ∉ hexL k n := by
  induction k generalizing n with
  | zero => simp [hexL]
  | succ k ih =>
    show y ∉ hexL k (n / 16) ++ [hxU (n % 16)]
    rw [List.mem_append, not_or]
    refine ⟨ih _, fun h => ?_⟩
    have e : y = hxU (n % 16) := by simpa using h
    have := hxU_nat (Nat.mod_lt n (show 0 < 16 by decide))
    rw [← e] at this
    split at this <;> omega
theorem join3_no {y z : UInt8} {a b c : List UInt8} (hyz : y ≠ z) (ha : y ∉ a) (hb : y ∉ b) (hc : y ∉ c) : y ∉ joinL z [a, b, c] := by
  show y ∉ a ++ z :: (b ++ z :: c)
  simp [ha, hb, hc, hyz]
/-- flows that may be carried: keys and ticks in bounds, hosts that are words -/
def WordF (l : List Fl) : Prop := ∀ x ∈ l, x.1 < 18446744073709551616 ∧ 0 ≤ x.2.2 ∧ x.2.2 < 100000000000000 ∧ x.2.1.data.toList ≠ [] ∧ (32 : UInt8) ∉ x.2.1.data.toList ∧ (10 : UInt8) ∉ x.2.1.data.toList
theorem lineF_no {l : List Fl} (h : WordF l) {x : Fl} (hx : x ∈ l) : (10 : UInt8) ∉ lineF x := by
  obtain ⟨_, _, _, _, _, h6⟩ := h x hx
  exact join3_no (by decide) (hexL_no _ _ (by decide)) h6 (decL_no _ (by decide))
theorem lineF_row {l : List Fl} (h : WordF l) {x : Fl} (hx : x ∈ l) : lineV (lineF x) = some x := by
  obtain ⟨h1, h2, h3, h4, h5, _⟩ := h x hx
  have hc : cutL 32 (lineF x) = [hexL 16 x.1, x.2.1.data.toList, decL x.2.2.toNat] := join_cut (by simp) fun w hw => by
    simp at hw
    rcases hw with rfl | rfl | rfl
    · exact hexL_no _ _ (by decide)
    · exact h5
    · exact decL_no _ (by decide)
  unfold lineV
  rw [hc]
  dsimp only
  rw [if_neg (by rw [hexL_len]; simp [h4]), hexV_hexL 16 _ (by simpa using h1), numL_dec (by omega)]
  show some (x.1, bt x.2.1.data.toList, ((x.2.2.toNat : Nat) : Int)) = some x
  rw [bt_eta, Int.toNat_of_nonneg h2]
theorem rows_back {l : List Fl} (h : WordF l) : rowsL (l.map lineF) = some l := by
  induction l with
  | nil => rfl
  | cons x l ih =>
    have h1 := lineF_row h (x := x) (by simp)
    have h2 := ih (fun y hy => h y (by simp [hy]))
    rw [List.map_cons]
    simp only [rowsL, h1, h2]
theorem headL_no (e n : Nat) : (10 : UInt8) ∉ headL e n := join3_no (by decide) (by decide) (decL_no _ (by decide)) (decL_no _ (by decide))
theorem head_back {e n : Nat} (he : e < 100000000000000) (hn : n < 100000000000000) : firstL (headL e n) = some (e, n) := by
  have hc : cutL 32 (headL e n) = [flowsW, decL e, decL n] := join_cut (by simp) fun w hw => by
    simp at hw
    rcases hw with rfl | rfl | rfl
    · decide
    · exact decL_no _ (by decide)
    · exact decL_no _ (by decide)
  unfold firstL
  rw [hc]
  dsimp only
  rw [if_neg (by simp), numL_dec (by omega), numL_dec (by omega)]
theorem sum_no (k : Nat) : (10 : UInt8) ∉ joinL 32 [sumW, hexL 8 k] := by
  show (10 : UInt8) ∉ sumW ++ 32 :: hexL 8 k
  have := hexL_no 8 k (y := 10) (by decide)
  simp [sumW, this]
theorem sum_back {k : Nat} (hk : k < 2 ^ 32) : lastL (joinL 32 [sumW, hexL 8 k]) = some k := by
  have hc : cutL 32 (joinL 32 [sumW, hexL 8 k]) = [sumW, hexL 8 k] := join_cut (by simp) fun w hw => by
    simp at hw
    rcases hw with rfl | rfl
    · decide
    · exact hexL_no _ _ (by decide)
  unfold lastL
  rw [hc]
  dsimp only
  rw [if_neg (by simp [hexL_len]), hexV_hexL 8 k (by simpa using hk)]
theorem text_lines (e : Nat) (l : List Fl) : textL e l = joinL 10 ((headL e l.length :: l.map lineF) ++ [sumL (bodyL e l)] ++ [[]]) := by
  rw [joinL_snoc _ _ _ (by simp), joinL_snoc _ _ _ (by simp)]
  show (joinL 10 (headL e l.length :: l.map lineF) ++ [10]) ++ sumL (bodyL e l) ++ [10] = _
  simp
theorem text_cut {e : Nat} {l : List Fl} (h : WordF l) : cutL 10 (textL e l) = (headL e l.length :: l.map lineF) ++ [sumL (bodyL e l)] ++ [[]] := by
  rw [text_lines]
  refine join_cut (by simp) fun w hw => ?_
  simp only [List.mem_append, List.mem_cons, List.mem_map, List.not_mem_nil, or_false] at hw
  rcases hw with ((rfl | ⟨x, hx, rfl⟩) | rfl) | rfl
  · exact headL_no _ _
  · exact lineF_no h hx
  · exact sum_no _
  · simp
/-- The text of flows is read as these flows. -/
theorem text_back {e : Nat} {l : List Fl} (he : e < 100000000000000) (hl : l.length < 100000000000000) (h : WordF l) : partsL (cutL 10 (textL e l)) = some (e, l, crcL (bodyL e l), headL e l.length :: l.map lineF) := by
  rw [text_cut h]
  have hlen : ((headL e l.length :: l.map lineF) ++ [sumL (bodyL e l)] ++ [[]]).length = l.length + 3 := by simp
  have g0 : ((headL e l.length :: l.map lineF) ++ [sumL (bodyL e l)] ++ [[]]).getD 0 [] = headL e l.length := rfl
  have g1 : ((headL e l.length :: l.map lineF) ++ [sumL (bodyL e l)] ++ [[]]).getD (l.length + 3 - 1) [] = [] := by
    rw [List.getD_eq_getElem?_getD, List.getElem?_append_right (by simp)]
    simp
  have g2 : ((headL e l.length :: l.map lineF) ++ [sumL (bodyL e l)] ++ [[]]).getD (l.length + 3 - 2) [] = sumL (bodyL e l) := by
    rw [List.getD_eq_getElem?_getD, List.getElem?_append_left (by simp), List.getElem?_append_right (by simp)]
    simp
  have g3 : (((headL e l.length :: l.map lineF) ++ [sumL (bodyL e l)] ++ [[]]).drop 1).take (l.length + 3 - 3) = l.map lineF := by
    show ((l.map lineF ++ [sumL (bodyL e l)]) ++ [[]]).take (l.length + 3 - 3) = _
    rw [List.append_assoc, List.take_append_of_le_length (by simp), List.take_of_length_le (by simp)]
  have g4 : ((headL e l.length :: l.map lineF) ++ [sumL (bodyL e l)] ++ [[]]).take (l.length + 3 - 2) = headL e l.length :: l.map lineF := by
    rw [List.append_assoc, List.take_append_of_le_length (by simp), List.take_of_length_le (by simp)]
  unfold partsL
  rw [hlen, g0, g1, g2, g3, g4, if_neg (by simp), head_back he hl, rows_back h]
  have hs : lastL (sumL (bodyL e l)) = some (crcL (bodyL e l)) := sum_back (crcL_lt _)
  rw [hs]
  dsimp only
  rw [if_neg (by omega)]
end Lh
end Go.Proofs.YtmdckddenelneaaGreatDoor

/- Texts of flows as lists: the body, line by line; how long. -/
namespace Go.Proofs.YtmdckddenelneaaGreatDoor
namespace Lh
def rowsB (l : List Fl) : List UInt8 := l.flatMap fun x => lineF x ++ [10]
theorem join_rows : ∀ (w : List UInt8) (l : List Fl), joinL 10 (w :: l.map lineF) ++ [10] = w ++ [10] ++ rowsB l
  | w, [] => by simp [joinL, rowsB]
  | w, x :: l => by
    have := join_rows (lineF x) l
    simp only [List.map_cons, rowsB, List.flatMap_cons] at this ⊢
    show w ++ 10 :: joinL 10 (lineF x :: l.map lineF) ++ [10] = _
    rw [List.append_assoc, List.cons_append, this]
    simp
theorem body_rows (e : Nat) (l : List Fl) : bodyL e l = headL e l.length ++ [10] ++ rowsB l := join_rows _ _
theorem rowsB_snoc (l : List Fl) (x : Fl) : rowsB (l ++ [x]) = rowsB l ++ (lineF x ++ [10]) := by simp [rowsB]
theorem rowsB_take {l : List Fl} {i : Nat} (h : i < l.length) : rowsB (l.take (i + 1)) = rowsB (l.take i) ++ (lineF l[i] ++ [10]) := by
  rw [List.take_succ_eq_append_getElem h, rowsB_snoc]
theorem lineF_len {x : Fl} (h1 : x.2.1.size ≤ 60) (h2 : x.2.2.toNat < 100000000000000) : (lineF x).length ≤ 92 := by
  have e1 := hexL_len 16 x.1
  have e2 := decL_len (n := x.2.2.toNat) (k := 14) (by decide) (by omega)
  have e3 : x.2.1.data.toList.length = x.2.1.size := rfl
  simp only [lineF, joinL, List.length_append, List.length_cons]
  omega
theorem rowsB_len : ∀ {l : List Fl}, (∀ x ∈ l, x.2.1.size ≤ 60 ∧ x.2.2.toNat < 100000000000000) → (rowsB l).length ≤ 93 * l.length
  | [], _ => by simp [rowsB]
  | x :: l, h => by
    have h1 := rowsB_len (l := l) fun y hy => h y (List.mem_cons_of_mem _ hy)
    have h2 := lineF_len (h x (List.mem_cons_self ..)).1 (h x (List.mem_cons_self ..)).2
    simp only [rowsB, List.flatMap_cons, List.length_append, List.length_cons, List.length_nil] at h1 ⊢
    omega
theorem headL_len {e n : Nat} (he : e < 100000000000000) (hn : n < 100000000000000) : (headL e n).length ≤ 35 := by
  have e1 := decL_len (n := e) (k := 14) (by decide) (by omega)
  have e2 := decL_len (n := n) (k := 14) (by decide) (by omega)
  simp only [headL, joinL, flowsW, List.length_append, List.length_cons, List.length_nil]
  omega
end Lh
end Go.Proofs.YtmdckddenelneaaGreatDoor

/- Texts of flows as lists: what is wrong with a line. -/
namespace Go.Proofs.YtmdckddenelneaaGreatDoor
namespace Lh
theorem bt_list (l : List UInt8) : (bt l).toList = l := by rw [ByteArray.toList_eq]; rfl
theorem bt_void {l : List UInt8} (h : l = []) : (bt l).toList.isEmpty = true := by rw [bt_list, h]; rfl
theorem bt_some {l : List UInt8} (h : l ≠ []) : (bt l).toList.isEmpty = false := by
  rw [bt_list]
  cases l with
  | nil => exact absurd rfl h
  | cons c l => rfl
theorem bt_is {l k : List UInt8} (h : l = k) : ((bt l).toList == k) = true := by rw [bt_list, h]; simp
theorem bt_not {l k : List UInt8} (h : l ≠ k) : ((bt l).toList == k) = false := by
  rw [bt_list, beq_eq_false_iff_ne]
  exact h
theorem num_ex (l : List UInt8) : numL l = none ∨ ∃ n, numL l = some n := by
  cases numL l with
  | none => exact Or.inl rfl
  | some n => exact Or.inr ⟨n, rfl⟩
theorem first_len {w : List UInt8} (h : (cutL 32 w).length ≠ 3) : firstL w = none := by
  unfold firstL
  split
  · rename_i a b c e
    rw [e] at h
    exact absurd rfl h
  · rfl
theorem first_word {w a b c : List UInt8} (e : cutL 32 w = [a, b, c]) (h : a ≠ flowsW) : firstL w = none := by
  unfold firstL
  rw [e]
  simp only
  rw [if_pos h]
theorem first_num {w a b c : List UInt8} (e : cutL 32 w = [a, b, c]) (h : numL b = none ∨ numL c = none) : firstL w = none := by
  unfold firstL
  rw [e]
  simp only
  split
  · rfl
  · rcases h with h | h
    · rw [h]
    · rw [h]; split <;> simp_all
theorem first_some {w a b c : List UInt8} (e : cutL 32 w = [a, b, c]) (h : a = flowsW) {m n : Nat} (hb : numL b = some m) (hc : numL c = some n) : firstL w = some (m, n) := by
  unfold firstL
  rw [e]
  simp only
  rw [if_neg (by simpa using h), hb, hc]
theorem line_len {w : List UInt8} (h : (cutL 32 w).length ≠ 3) : lineV w = none := by
  unfold lineV
  split
  · rename_i a b c e
    rw [e] at h
    exact absurd rfl h
  · rfl
theorem line_word {w a b c : List UInt8} (e : cutL 32 w = [a, b, c]) (h : b = [] ∨ a.length ≠ 16) : lineV w = none := by
  unfold lineV
  rw [e]
  simp only
  rw [if_pos h]
theorem line_num {w a b c : List UInt8} (e : cutL 32 w = [a, b, c]) (h : hexV a = none ∨ numL c = none) : lineV w = none := by
  unfold lineV
  rw [e]
  simp only
  split
  · rfl
  · rcases h with h | h
    · rw [h]
    · rw [h]; split <;> simp_all
theorem line_some {w a b c : List UInt8} (e : cutL 32 w = [a, b, c]) (h1 : b ≠ []) (h2 : a.length = 16) {k u : Nat} (hb : hexV a = some k) (hc : numL c = some u) : lineV w = some (k, bt b, (u : Int)) := by
  unfold lineV
  rw [e]
  simp only
  rw [if_neg (by simp [h1, h2]), hb, hc]
theorem last_len {w : List UInt8} (h : (cutL 32 w).length ≠ 2) : lastL w = none := by
  unfold lastL
  split
  · rename_i a b e
    rw [e] at h
    exact absurd rfl h
  · rfl
theorem last_word {w a b : List UInt8} (e : cutL 32 w = [a, b]) (h : a ≠ sumW ∨ b.length ≠ 8) : lastL w = none := by
  unfold lastL
  rw [e]
  simp only
  rw [if_pos h]
theorem last_hex {w a b : List UInt8} (e : cutL 32 w = [a, b]) (h1 : a = sumW) (h2 : b.length = 8) : lastL w = hexV b := by
  unfold lastL
  rw [e]
  simp only
  rw [if_neg (by simp [h1, h2])]
theorem last_none {w a b : List UInt8} (e : cutL 32 w = [a, b]) (h : hexV b = none) : lastL w = none := by
  unfold lastL
  rw [e]
  simp only
  split
  · rfl
  · exact h
theorem rows_snoc : ∀ {ws : List (List UInt8)} {L : List Fl} {w : List UInt8} {x : Fl}, rowsL ws = some L → lineV w = some x → rowsL (ws ++ [w]) = some (L ++ [x])
  | [], L, w, x, h, hx => by
    cases h
    simp [rowsL, hx]
  | y :: ws, L, w, x, h, hx => by
    simp only [rowsL] at h
    split at h
    · rename_i z l h1 h2
      cases h
      have := rows_snoc h2 hx
      simp only [List.cons_append, rowsL, h1, this]
    · cases h
theorem rows_bad : ∀ {ws : List (List UInt8)} {w : List UInt8}, w ∈ ws → lineV w = none → rowsL ws = none
  | y :: ws, w, h, hx => by
    simp only [rowsL]
    rcases List.mem_cons.1 h with rfl | h
    · rw [hx]
    · rw [rows_bad h hx]
      split <;> simp_all
theorem join_split (y : UInt8) : ∀ (ls : List (List UInt8)) (i : Nat), 0 < i → i < ls.length → joinL y ls = joinL y (ls.take i) ++ y :: joinL y (ls.drop i)
  | [], i, _, h => by simp at h
  | [w], i, h0, h => by simp at h; omega
  | w :: x :: ls, 1, _, _ => rfl
  | w :: x :: ls, i + 2, _, h => by
    have := join_split y (x :: ls) (i + 1) (by omega) (by simpa using h)
    show w ++ y :: joinL y (x :: ls) = w ++ y :: joinL y ((x :: ls).take (i + 1)) ++ y :: joinL y ((x :: ls).drop (i + 1))
    rw [this]
    simp
theorem join_take {ls : List (List UInt8)} {i : Nat} (h0 : 0 < i) (h : i < ls.length) : (joinL 10 (ls.take (i + 1))).length = (joinL 10 (ls.take i)).length + ls[i].length + 1 := by
  rw [List.take_succ_eq_append_getElem h, joinL_snoc]
  · simp; omega
  · intro e
    have := congrArg List.length e
    rw [List.length_take, List.length_nil] at this
    omega
theorem join_ahead {ls : List (List UInt8)} {i : Nat} (h0 : 0 < i) (h : i < ls.length) : (joinL 10 ls).take ((joinL 10 (ls.take i)).length + 1) = joinL 10 (ls.take i) ++ [10] ∧ (joinL 10 (ls.take i)).length + 1 ≤ (joinL 10 ls).length := by
  rw [join_split 10 ls i h0 h]
  constructor
  · rw [List.take_append]
    simp
    exact List.take_of_length_le (by omega)
  · simp
theorem mem_mid {ls : List (List UInt8)} {i : Nat} (h0 : 0 < i) (h : i + 2 < ls.length) : ls[i] ∈ (ls.drop 1).take (ls.length - 3) := by
  rw [List.mem_iff_getElem]
  refine ⟨i - 1, by rw [List.length_take, List.length_drop]; omega, ?_⟩
  rw [List.getElem_take, List.getElem_drop]
  congr 1
  omega
theorem mid_step {ls : List (List UInt8)} {i : Nat} (h0 : 0 < i) (h : i < ls.length) : (ls.drop 1).take (i + 1 - 1) = (ls.drop 1).take (i - 1) ++ [ls[i]] := by
  have hi : i - 1 < (ls.drop 1).length := by rw [List.length_drop]; omega
  have e : i + 1 - 1 = (i - 1) + 1 := by omega
  rw [e, List.take_succ_eq_append_getElem hi, List.getElem_drop]
  congr 2
  congr 1
  omega
end Lh
end Go.Proofs.YtmdckddenelneaaGreatDoor

/- The model of flows in memory; find and TickError. -/
namespace Go.Proofs.YtmdckddenelneaaGreatDoor
open Go.RowKit

/-- Block m is the model. -/
structure MF (W : World) (m t : Nat) (la : Int) (L : List Lh.Fl) (lv : Value) : Prop where
  c0 : W.cell? ⟨m, 0, none⟩ = some (.int .i64 (t : Nat))
  c1 : W.cell? ⟨m, 1, none⟩ = some (.int .i64 la)
  c2 : W.cell? ⟨m, 2, none⟩ = some lv
  fz : ∀ k, W.frozen? ⟨m, k, none⟩ = false
  own : W.ownsRow (m + 1) 82 3 lv L.length (flatF L)
/-- the blocks that it is made of -/
def FFoot (m : Nat) (lv : Value) (b : Nat) : Prop := b = m ∨ lv.ownBlock = some b
theorem fowns_same {w w' : World} {base : Nat} {e : TypeId} {size : Nat} {v : Value} {n : Nat} {xs : List Value} (h : w.ownsRow base e size v n xs) (he : ∀ g, v.ownBlock = some g → w'.heap[g]? = w.heap[g]?) : w'.ownsRow base e size v n xs := by
  obtain ⟨h1, h2 | ⟨g, cap, cur, rfl, e2, e3, e4⟩⟩ := h
  · exact ⟨h1, Or.inl h2⟩
  · exact ⟨h1, Or.inr ⟨g, cap, cur, rfl, e2, (he g rfl).trans e3, e4⟩⟩
theorem fown_shape {w : World} {base : Nat} {e : TypeId} {size n : Nat} {v : Value} {xs : List Value} (h : w.ownsRow base e size v n xs) : ∃ p cap, v = .slice p n cap := by
  obtain ⟨h1, ⟨rfl, rfl⟩ | ⟨g, cap, cur, rfl, _⟩⟩ := h
  · exact ⟨_, _, rfl⟩
  · exact ⟨_, _, rfl⟩
theorem fown_mono {w : World} {base base' : Nat} {e : TypeId} {size n : Nat} {v : Value} {xs : List Value} (h : w.ownsRow base e size v n xs) (hb : base' ≤ base) : w.ownsRow base' e size v n xs := by
  obtain ⟨h1, h2 | ⟨g, cap, cur, e1, e2, e3⟩⟩ := h
  · exact ⟨h1, Or.inl h2⟩
  · exact ⟨h1, Or.inr ⟨g, cap, cur, e1, Nat.le_trans hb e2, e3⟩⟩
theorem frow_cells {w : World} {base : Nat} {e : TypeId} {g n cap : Nat} {xs : List Value} (h : w.ownsRow base e 3 (.slice (some ⟨g, 0, none⟩) n cap) n xs) : ∀ j u, xs[j]? = some u → w.cell? ⟨g, j, none⟩ = some u := fun j u hu => by
  obtain ⟨hl, ⟨e0, _⟩ | ⟨g', cap', cur, e1, _, hb, hn, hm, hsz, ht⟩⟩ := h
  · cases e0
  · cases e1
    have hj : j < xs.length := (List.getElem?_eq_some_iff.1 hu).1
    rw [← ht, List.getElem?_take_of_lt (by omega)] at hu
    simp only [World.cell?, hb]
    simpa using hu
theorem MF.mlt {W : World} {m t : Nat} {la : Int} {L : List Lh.Fl} {lv : Value} (h : MF W m t la L lv) : m < W.heap.size := World.block_lt_of_cell? W ⟨m, 0, none⟩ h.c0
theorem MF.lt {W : World} {m t : Nat} {la : Int} {L : List Lh.Fl} {lv : Value} (h : MF W m t la L lv) : ∀ b, FFoot m lv b → b < W.heap.size ∧ m ≤ b := by
  rintro b (rfl | e)
  · exact ⟨h.mlt, Nat.le_refl _⟩
  · have := h.own.lt b e
    omega
theorem MF.stay {W W' : World} {m t : Nat} {la : Int} {L : List Lh.Fl} {lv : Value} (h : MF W m t la L lv) (hs : ∀ b, FFoot m lv b → W'.heap[b]? = W.heap[b]?) : MF W' m t la L lv := by
  have hm := hs m (Or.inl rfl)
  refine ⟨?_, ?_, ?_, fun k => ?_, fowns_same h.own fun g e => hs g (Or.inr e)⟩
  · rw [World.cell?_of_block (w := W) (w' := W') (a := ⟨m, 0, none⟩) hm]; exact h.c0
  · rw [World.cell?_of_block (w := W) (w' := W') (a := ⟨m, 1, none⟩) hm]; exact h.c1
  · rw [World.cell?_of_block (w := W) (w' := W') (a := ⟨m, 2, none⟩) hm]; exact h.c2
  · rw [World.frozen?_of_block (w := W) (w' := W') (a := ⟨m, k, none⟩) hm]; exact h.fz k
theorem MF.later {W W' : World} {m t : Nat} {la : Int} {L : List Lh.Fl} {lv : Value} (h : MF W m t la L lv) (hb : Below W.heap.size W W') : MF W' m t la L lv := h.stay fun b hf => hb.block b (h.lt b hf).1
/-- the row's cells, as it is read -/
theorem MF.row {W : World} {m t : Nat} {la : Int} {L : List Lh.Fl} {lv : Value} (h : MF W m t la L lv) : ∃ p cap, lv = .slice p L.length cap ∧ ∀ i (hi : i < L.length), ∃ g, p = some ⟨g, 0, none⟩ ∧ W.cell? ⟨g, i * 3, none⟩ = some (.int .u64 (L[i].1 : Nat)) ∧ W.cell? ⟨g, i * 3 + 1, none⟩ = some (.string L[i].2.1) ∧ W.cell? ⟨g, i * 3 + 2, none⟩ = some (.int .i64 L[i].2.2) := by
  rcases h.own with ⟨_, ⟨e, h0⟩ | ⟨g, cap, cur, e, _⟩⟩
  · exact ⟨none, 0, by rw [e, h0], fun i hi => absurd hi (by omega)⟩
  · subst e
    refine ⟨_, _, rfl, fun i hi => ⟨g, rfl, ?_⟩⟩
    obtain ⟨q0, q1, q2⟩ := flatF_get L i hi
    exact ⟨frow_cells h.own _ _ q0, frow_cells h.own _ _ q1, frow_cells h.own _ _ q2⟩
/-- the number that find answers -/
def ffi (L : List Lh.Fl) (k : Nat) : Int := if Lh.fix L k < L.length then ((Lh.fix L k : Nat) : Int) else -1
theorem fix_first {L : List Lh.Fl} {k j : Nat} (hj : j < L.length) (h : j < Lh.fix L k) : (L[j]).1 ≠ k := by
  have := List.not_of_lt_findIdx h
  simpa using this
theorem fix_at {L : List Lh.Fl} {k i : Nat} (hi : i < L.length) (hp : ∀ j (h : j < L.length), j < i → (L[j]).1 ≠ k) (he : (L[i]).1 = k) : Lh.fix L k = i := by
  have h1 : Lh.fix L k < L.length := Lh.fix_lt.2 ⟨_, List.getElem_mem hi, he⟩
  rcases Nat.lt_trichotomy (Lh.fix L k) i with h | h | h
  · exact absurd (Lh.fix_get h1) (hp _ h1 h)
  · exact h
  · exact absurd he (fix_first hi h)
set_option maxRecDepth 100000 in
set_option maxHeartbeats 2000000 in
theorem ffind_any {W : World} {m t : Nat} {la : Int} {L : List Lh.Fl} {lv : Value} (h : MF W m t la L lv) (hl : L.length ≤ 1000) (k : Nat) :
    Calls Tryz.prog 136 #[.pointer (some ⟨m, 0, none⟩), .int .u64 (k : Nat)] W fun e w' => e = .returned (.int .i64 (ffi L k)) ∧ w' = W := by
  obtain ⟨p, cap, rfl, hrow⟩ := h.row
  have c2 := h.c2
  have HC : Hid (∀ i (hi : i < L.length), ∃ g, p = some ⟨g, 0, none⟩ ∧ W.cell? ⟨g, i * 3, none⟩ = some (.int .u64 (L[i].1 : Nat))) := fun i hi => by
    obtain ⟨g, e, h1, _⟩ := hrow i hi
    exact ⟨g, e, h1⟩
  clear h hrow
  go_enter Tryz.func136, Tryz.ntmps136
  go_wp2_with fail
  go_loop [5] (fun u => ∃ i : Nat, i ≤ L.length ∧ u = .int .i64 (i : Nat) ∧ ∀ j (h : j < L.length), j < i → (L[j]).1 ≠ k) (fun u => L.length - (intOf u).toNat)
  case atStart => exact ⟨0, Nat.zero_le _, rfl, fun j _ h => absurd h (by omega)⟩
  case round =>
    obtain ⟨i, hi, rfl, hp⟩ := hrel
    have HP : Hid (∀ j (h : j < L.length), j < i → (L[j]).1 ≠ k) := hp
    clear hp
    by_cases hlt : i < L.length
    · obtain ⟨g, rfl, cx⟩ := HC.out i hlt
      have hii : (i : Int) < (L.length : Int) := by omega
      by_cases he : (L[i]).1 = k
      · have HF : Hid (ffi L k = (i : Nat)) := by
          show ffi L k = (i : Nat)
          unfold ffi
          rw [fix_at hlt HP.out he, if_pos hlt]
        have hq : (((L[i]).1 : Int) == (k : Int)) = true := by simp [he]
        clear he
        generalize (L[i]).1 = z at *
        go_wp2
        go_ret
        exact ⟨by rw [HF.out]; rfl, rfl⟩
      · have HPN : Hid (∀ j (h : j < L.length), j < i + 1 → (L[j]).1 ≠ k) := fun j h hj => by
          by_cases e : j = i
          · subst e; exact he
          · exact HP.out j h (by omega)
        have hq : (((L[i]).1 : Int) == (k : Int)) = false := by rw [beq_eq_false_iff_ne]; omega
        clear he
        generalize (L[i]).1 = z at *
        go_wp2
        go_round
        case rel => exact ⟨i + 1, by omega, by go_num, HPN.out⟩
        case measure => simp [intOf]; omega
    · have hii : decide ((i : Int) < (L.length : Int)) = false := by simp; omega
      have HF : Hid (ffi L k = -1) := by
        show ffi L k = -1
        unfold ffi
        rw [if_neg]
        intro h
        exact HP.out _ h (by omega) (Lh.fix_get h)
      go_wp2
      go_ret
      exact ⟨by rw [HF.out]; rfl, rfl⟩
set_option maxHeartbeats 1000000 in
/-- TickError: what is wrong with a tick. -/
theorem ftick_any {W : World} {m t : Nat} {la : Int} {L : List Lh.Fl} {lv : Value} (h : MF W m t la L lv) (now : Int) :
    Calls Tryz.prog 135 #[.pointer (some ⟨m, 0, none⟩), .int .i64 now] W fun e w' => ((TickOk la now ∧ e = .returned (.int .i64 0)) ∨ ∃ j, TickF la now j ∧ e = .returned (.int .i64 ((j + 1 : Nat) : Int))) ∧ w' = W := by
  have c1 := h.c1
  clear h
  by_cases g1 : now < 0
  · have d1 : decide (now < 0) = true := decide_eq_true g1
    have HT : Hid (TickF la now 1) := Or.inl ⟨Or.inl g1, rfl⟩
    clear g1
    go_enter Tryz.func135, Tryz.ntmps135
    go_wp2
    go_ret
    exact ⟨Or.inr ⟨1, HT.out, rfl⟩, rfl⟩
  · have d1 : decide (now < 0) = false := decide_eq_false g1
    by_cases g2 : 1099511627776 < now
    · have d2 : decide (1099511627776 < now) = true := decide_eq_true g2
      have HT : Hid (TickF la now 1) := Or.inl ⟨Or.inr g2, rfl⟩
      clear g1 g2
      go_enter Tryz.func135, Tryz.ntmps135
      go_wp2
      go_ret
      exact ⟨Or.inr ⟨1, HT.out, rfl⟩, rfl⟩
    · have d2 : decide (1099511627776 < now) = false := decide_eq_false g2
      by_cases g3 : now < la
      · have d3 : decide (now < la) = true := decide_eq_true g3
        have HT : Hid (TickF la now 7) := Or.inr ⟨by omega, by omega, g3, rfl⟩
        clear g1 g2 g3
        go_enter Tryz.func135, Tryz.ntmps135
        go_wp2
        go_ret
        exact ⟨Or.inr ⟨7, HT.out, rfl⟩, rfl⟩
      · have d3 : decide (now < la) = false := decide_eq_false g3
        have HT : Hid (TickOk la now) := ⟨by omega, by omega, by omega⟩
        clear g1 g2 g3
        go_enter Tryz.func135, Tryz.ntmps135
        go_wp2
        go_ret
        exact ⟨Or.inl ⟨HT.out, rfl⟩, rfl⟩
end Go.Proofs.YtmdckddenelneaaGreatDoor

/- The model of flows: drop. -/
namespace Go.Proofs.YtmdckddenelneaaGreatDoor
open Go.RowKit

theorem infoFl : (Tryz.prog.info? 82).map (fun i => (i.zero, i.size, i.bytes)) = some (some (.agg #[.int .u64 0, .string ByteArray.empty, .int .i64 0]), 3, 32) := by kernel_rfl
theorem fowns_setCell {w : World} {base : Nat} {e : TypeId} {size : Nat} {v : Value} {n : Nat} {xs : List Value} (h : w.ownsRow base e size v n xs) {x k : Nat} (hx : x < base) (u : Value) : (w.setCell ⟨x, k, none⟩ u).ownsRow base e size v n xs := by
  refine h.kept (row := some x) ⟨rfl, rfl, rfl, by simp [World.setCell], fun j _ hne => heap_setCell_other w ⟨x, k, none⟩ j u (fun e => hne (by rw [e]))⟩ ?_
  cases hv : v.ownBlock with
  | none => exact Or.inl rfl
  | some g =>
    have := (h.lt g hv).1
    exact Or.inr (fun e => by cases e; omega)
/-- another row is laid in its place -/
theorem MF.laid {W w3 : World} {m t : Nat} {la : Int} {L M : List Lh.Fl} {lv v : Value} (h : MF W m t la L lv) (hB : Below W.heap.size W w3) (hown : w3.ownsRow W.heap.size 82 3 v M.length (flatF M)) :
    MF (w3.setCell ⟨m, 2, none⟩ v) m t la M v ∧ Tur (FFoot m lv) W (w3.setCell ⟨m, 2, none⟩ v) ∧ ∀ b, FFoot m v b → FFoot m lv b ∨ W.heap.size ≤ b := by
  have hm := h.mlt
  have hm3 := hB.block m hm
  have hsame : ∀ b, b ≠ m → (w3.setCell ⟨m, 2, none⟩ v).heap[b]? = w3.heap[b]? := fun b hb => heap_setCell_other w3 ⟨m, 2, none⟩ b _ hb
  refine ⟨⟨?_, ?_, ?_, fun k => ?_, fowns_setCell (fown_mono hown hm) (Nat.lt_succ_self m) _⟩, ⟨hB.os, hB.tape, hB.output, by have := hB.size; simpa [World.setCell] using this, fun b hb hf => (hsame b (fun e => hf (Or.inl e))).trans (hB.block b hb)⟩, fun b hb => ?_⟩
  · have : w3.cell? ⟨m, 0, none⟩ = _ := (World.cell?_of_block (w := W) (w' := w3) (a := ⟨m, 0, none⟩) hm3).trans h.c0
    simp [go_sem, this]
  · have : w3.cell? ⟨m, 1, none⟩ = _ := (World.cell?_of_block (w := W) (w' := w3) (a := ⟨m, 1, none⟩) hm3).trans h.c1
    simp [go_sem, this]
  · have : w3.cell? ⟨m, 2, none⟩ = _ := (World.cell?_of_block (w := W) (w' := w3) (a := ⟨m, 2, none⟩) hm3).trans h.c2
    simp [go_sem, this]
  · have : w3.frozen? ⟨m, k, none⟩ = _ := (World.frozen?_of_block (w := W) (w' := w3) (a := ⟨m, k, none⟩) hm3).trans (h.fz k)
    simp [go_sem, this]
  · rcases hb with rfl | e
    · exact Or.inl (Or.inl rfl)
    · exact Or.inr (hown.lt b e).1

set_option maxRecDepth 100000 in
set_option maxHeartbeats 2000000 in
theorem fdropAt_A {W : World} {m t : Nat} {la : Int} {L : List Lh.Fl} {g : Nat} (k : Nat) (hkl : L.length = k + 1) (h : MF W m t la L (.slice (some ⟨g, 0, none⟩) L.length (k + 1))) (hl : L.length ≤ 1000) (hcm : (k + 1) ≤ maxLen) :
    Calls Tryz.prog 129 #[.pointer (some ⟨m, 0, none⟩), .int .i64 (k : Nat)] W fun e w' => ∃ lv', e = .returned (.tuple #[]) ∧ MF w' m t la (L.eraseIdx k) lv' ∧ Tur (FFoot m (.slice (some ⟨g, 0, none⟩) L.length (k + 1))) W w' ∧ ∀ b, FFoot m lv' b → FFoot m (.slice (some ⟨g, 0, none⟩) L.length (k + 1)) b ∨ W.heap.size ≤ b := by
  obtain ⟨i, hi, hz0, hz1, hz2⟩ := info_parts infoFl
  have c2 := h.c2
  have f2 := h.fz 2
  have hmlt := h.mlt
  obtain ⟨w1, hw1⟩ : ∃ w1, w1 = W := ⟨_, rfl⟩
  subst hw1
  have HM : Hid (MF w1 m t la L (.slice (some ⟨g, 0, none⟩) L.length (k + 1))) := h
  have hki : (k : Int) < (L.length : Int) := by omega
  have hcm' := hcm
  unfold maxLen at hcm'
  clear h
  have hs1 : ∀ j u, (flatF (L.take k))[j]? = some u → w1.cell? ((⟨g, 0, none⟩ : Addr).add j) = some u := fun j u hu => by
    have hj : j < (flatF (L.take k)).length := (List.getElem?_eq_some_iff.1 hu).1
    rw [flatF_length, List.length_take] at hj
    rw [flatF_take, List.getElem?_take_of_lt (by omega)] at hu
    rw [Addr.add_lit, Nat.zero_add]
    exact frow_cells HM.out.own j u hu
  have hl1 : (flatF (L.take k)).length = k * 3 := by rw [flatF_length, List.length_take]; congr 1; omega
  have hm1 : 0 + k ≤ maxLen := by unfold maxLen; omega
  go_enter Tryz.func129, Tryz.ntmps129
  go_wp2_with (at_builtin; refine wpList_append_own _ rfl _ _ 48 rfl w1.heap.size 82 i _ 3 32 Tryz.underlying48 hi hz0 hz1 hz2 rfl (by decide) (.slice none 0 0) 0 [] rfl (World.ownsRow_nil _ _ _ _) ⟨g, 0, none⟩ k (k + 1) (flatF (L.take k)) rfl hl1 hs1 (flatF_one _) hm1 (by omega) (Nat.le_refl _) ?_)
  intro v4 w4 hown4 hg4 _
  have hR4 : Below w1.heap.size w1 w4 := below_grown hg4 (fun k h => by cases h)
  have c4 := below_cell hR4 c2
  clear hs1 hl1 hg4
  have hs2 : ∀ j u, ([] : List Value)[j]? = some u → w4.cell? ((⟨g, 0, none⟩ : Addr).add j) = some u := fun j u hu => by
    simp at hu
  have hl2 : ([] : List Value).length = 0 * 3 := rfl
  have hm2 : k + 0 ≤ maxLen := by unfold maxLen; omega
  go_wp2_with (at_builtin; refine wpList_append_own _ rfl _ _ 48 rfl w1.heap.size 82 i _ 3 32 Tryz.underlying48 hi hz0 hz1 hz2 rfl (by decide) v4 k (flatF (L.take k)) rfl hown4 ⟨g, 0, none⟩ 0 _ [] rfl hl2 hs2 (fun u hu => by cases hu) hm2 (by omega) hR4.size ?_)
  intro v5 w5 hown5 hg5 _
  have hb5 : Below w1.heap.size w1 w5 := hR4.grown hg5 hR4.size (fun k h => (hown4.lt k h).1)
  have hown6 : w5.ownsRow w1.heap.size 82 3 v5 (L.eraseIdx k).length (flatF (L.eraseIdx k)) := by
    have e1 : L.eraseIdx k = L.take k := by rw [List.eraseIdx_eq_take_drop_succ, List.drop_eq_nil_of_le (by omega), List.append_nil]
    have e2 : (L.take k).length = k + 0 := by rw [List.length_take]; omega
    rw [e1, e2]
    simpa using hown5
  obtain ⟨p5, c5, rfl⟩ := fown_shape hown5
  have HE := HM.out.laid hb5 hown6
  have HEH : Hid _ := HE
  have c6 := below_cell hb5 c2
  have f6 : w5.frozen? ⟨m, 2, none⟩ = false := by rw [hb5.frozen hmlt]; exact f2
  clear HE hown4 hown5 hown6 hg5 hs2 hl2 hm2 hm1 hR4 c4 c2 f2
  go_wp2
  go_end0
  exact ⟨_, rfl, HEH.out⟩

set_option maxRecDepth 100000 in
set_option maxHeartbeats 2000000 in
theorem fdropAt_B {W : World} {m t : Nat} {la : Int} {L : List Lh.Fl} {g : Nat} (cap : Nat) (k : Nat) (hkl : k < L.length) (hcc : k + 1 < cap) (_hcap : L.length ≤ cap) (h : MF W m t la L (.slice (some ⟨g, 0, none⟩) L.length cap)) (hl : L.length ≤ 1000) (hcm : cap ≤ maxLen) :
    Calls Tryz.prog 129 #[.pointer (some ⟨m, 0, none⟩), .int .i64 (k : Nat)] W fun e w' => ∃ lv', e = .returned (.tuple #[]) ∧ MF w' m t la (L.eraseIdx k) lv' ∧ Tur (FFoot m (.slice (some ⟨g, 0, none⟩) L.length cap)) W w' ∧ ∀ b, FFoot m lv' b → FFoot m (.slice (some ⟨g, 0, none⟩) L.length cap) b ∨ W.heap.size ≤ b := by
  obtain ⟨i, hi, hz0, hz1, hz2⟩ := info_parts infoFl
  have c2 := h.c2
  have f2 := h.fz 2
  have hmlt := h.mlt
  obtain ⟨w1, hw1⟩ : ∃ w1, w1 = W := ⟨_, rfl⟩
  subst hw1
  have HM : Hid (MF w1 m t la L (.slice (some ⟨g, 0, none⟩) L.length cap)) := h
  have hki : (k : Int) < (L.length : Int) := by omega
  have hcm' := hcm
  unfold maxLen at hcm'
  clear h
  have hs1 : ∀ j u, (flatF (L.take k))[j]? = some u → w1.cell? ((⟨g, 0, none⟩ : Addr).add j) = some u := fun j u hu => by
    have hj : j < (flatF (L.take k)).length := (List.getElem?_eq_some_iff.1 hu).1
    rw [flatF_length, List.length_take] at hj
    rw [flatF_take, List.getElem?_take_of_lt (by omega)] at hu
    rw [Addr.add_lit, Nat.zero_add]
    exact frow_cells HM.out.own j u hu
  have hl1 : (flatF (L.take k)).length = k * 3 := by rw [flatF_length, List.length_take]; congr 1; omega
  have hm1 : 0 + k ≤ maxLen := by unfold maxLen; omega
  go_enter Tryz.func129, Tryz.ntmps129
  go_wp2_with (at_builtin; refine wpList_append_own _ rfl _ _ 48 rfl w1.heap.size 82 i _ 3 32 Tryz.underlying48 hi hz0 hz1 hz2 rfl (by decide) (.slice none 0 0) 0 [] rfl (World.ownsRow_nil _ _ _ _) ⟨g, 0, none⟩ k cap (flatF (L.take k)) rfl hl1 hs1 (flatF_one _) hm1 (by omega) (Nat.le_refl _) ?_)
  intro v4 w4 hown4 hg4 _
  have hR4 : Below w1.heap.size w1 w4 := below_grown hg4 (fun k h => by cases h)
  have c4 := below_cell hR4 c2
  clear hs1 hl1 hg4
  have hs2 : ∀ j u, (flatF (L.drop (k + 1)))[j]? = some u → w4.cell? ((⟨g, (k + 1) * 3, none⟩ : Addr).add j) = some u := fun j u hu => by
    rw [flatF_drop, List.getElem?_drop] at hu
    rw [Addr.add_lit]
    exact below_cell hR4 (frow_cells HM.out.own _ u hu)
  have hl2 : (flatF (L.drop (k + 1))).length = (L.length - (k + 1)) * 3 := by rw [flatF_length, List.length_drop]
  have hm2 : k + (L.length - (k + 1)) ≤ maxLen := by unfold maxLen; omega
  go_wp2_with (at_builtin; refine wpList_append_own _ rfl _ _ 48 rfl w1.heap.size 82 i _ 3 32 Tryz.underlying48 hi hz0 hz1 hz2 rfl (by decide) v4 k (flatF (L.take k)) rfl hown4 ⟨g, (k + 1) * 3, none⟩ (L.length - (k + 1)) _ (flatF (L.drop (k + 1))) rfl hl2 hs2 (flatF_one _) hm2 (by omega) hR4.size ?_)
  intro v5 w5 hown5 hg5 _
  have hb5 : Below w1.heap.size w1 w5 := hR4.grown hg5 hR4.size (fun k h => (hown4.lt k h).1)
  have hown6 : w5.ownsRow w1.heap.size 82 3 v5 (L.eraseIdx k).length (flatF (L.eraseIdx k)) := by
    have e1 : L.eraseIdx k = L.take k ++ L.drop (k + 1) := List.eraseIdx_eq_take_drop_succ _ _
    have e2 : (L.take k ++ L.drop (k + 1)).length = k + (L.length - (k + 1)) := by rw [List.length_append, List.length_take, List.length_drop]; omega
    rw [e1, e2, flatF_append]
    exact hown5
  obtain ⟨p5, c5, rfl⟩ := fown_shape hown5
  have HE := HM.out.laid hb5 hown6
  have HEH : Hid _ := HE
  have c6 := below_cell hb5 c2
  have f6 : w5.frozen? ⟨m, 2, none⟩ = false := by rw [hb5.frozen hmlt]; exact f2
  clear HE hown4 hown5 hown6 hg5 hs2 hl2 hm2 hm1 hR4 c4 c2 f2
  go_wp2
  go_end0
  exact ⟨_, rfl, HEH.out⟩

/-- drop the flow of a number. -/
theorem fdropAt_any {W : World} {m t : Nat} {la : Int} {L : List Lh.Fl} {lv : Value} (h : MF W m t la L lv) (hl : L.length ≤ 1000) (k : Nat) (hk : k < L.length) :
    Calls Tryz.prog 129 #[.pointer (some ⟨m, 0, none⟩), .int .i64 (k : Nat)] W fun e w' => ∃ lv', e = .returned (.tuple #[]) ∧ MF w' m t la (L.eraseIdx k) lv' ∧ Tur (FFoot m lv) W w' ∧ ∀ b, FFoot m lv' b → FFoot m lv b ∨ W.heap.size ≤ b := by
  obtain ⟨_, ⟨_, e0⟩ | ⟨g, cap, cur, rfl, _, _, hcap, hcm, _⟩⟩ := h.own
  · omega
  · by_cases hc : k + 1 < cap
    · exact fdropAt_B cap k hk hc hcap h hl hcm
    · have e2 : cap = k + 1 := by omega
      subst e2
      exact fdropAt_A k (by omega) h hl hcm
end Go.Proofs.YtmdckddenelneaaGreatDoor
