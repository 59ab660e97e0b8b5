/- What is carried over: it comes back; what is cut off, and a byte that is turned, are seen. -/
import Derived.Test.YtmkdpchodeckgaaGreatDoorM25
import Derived.Laws.Strings
namespace Go.Proofs.YtmkdpchodeckgaaGreatDoor
namespace Lh

theorem dig_not {c y : UInt8} (h : isDg c = true) (hy : y.toNat < 48) : c ≠ y := by
  intro e
  subst e
  unfold isDg at h
  simp at h
  omega
theorem decL_no (n : Nat) {y : UInt8} (hy : y.toNat < 48) : y ∉ decL n := fun h => dig_not (List.all_eq_true.1 (decL_dig n) y h) hy rfl
theorem hexL_no (k n : Nat) {y : UInt8} (hy : y.toNat < 48) : y ∉ hexL k n := by
  induction k generalizing n with
  | zero => simp [hexL]
  | succ k ih =>
    show y ∉ hexL k (n / 16) ++ [hxU (n % 16)]
    rw [List.mem_append, not_or]
    refine ⟨ih _, fun h => ?_⟩
    have e : y = hxU (n % 16) := by simpa using h
    have := hxU_nat (Nat.mod_lt n (show 0 < 16 by decide))
    rw [← e] at this
    split at this <;> omega
theorem join3_no {y z : UInt8} {a b c : List UInt8} (hyz : y ≠ z) (ha : y ∉ a) (hb : y ∉ b) (hc : y ∉ c) : y ∉ joinL z [a, b, c] := by
  show y ∉ a ++ z :: (b ++ z :: c)
  simp [ha, hb, hc, hyz]
/-- flows that may be carried: keys and ticks in bounds, hosts that are words -/
def WordF (l : List Fl) : Prop := ∀ x ∈ l, x.1 < 18446744073709551616 ∧ 0 ≤ x.2.2 ∧ x.2.2 < 100000000000000 ∧ x.2.1.data.toList ≠ [] ∧ (32 : UInt8) ∉ x.2.1.data.toList ∧ (10 : UInt8) ∉ x.2.1.data.toList
theorem lineF_no {l : List Fl} (h : WordF l) {x : Fl} (hx : x ∈ l) : (10 : UInt8) ∉ lineF x := by
  obtain ⟨_, _, _, _, _, h6⟩ := h x hx
  exact join3_no (by decide) (hexL_no _ _ (by decide)) h6 (decL_no _ (by decide))
theorem lineF_row {l : List Fl} (h : WordF l) {x : Fl} (hx : x ∈ l) : lineV (lineF x) = some x := by
  obtain ⟨h1, h2, h3, h4, h5, _⟩ := h x hx
  have hc : cutL 32 (lineF x) = [hexL 16 x.1, x.2.1.data.toList, decL x.2.2.toNat] := join_cut (by simp) fun w hw => by
    simp at hw
    rcases hw with rfl | rfl | rfl
    · exact hexL_no _ _ (by decide)
    · exact h5
    · exact decL_no _ (by decide)
  unfold lineV
  rw [hc]
  dsimp only
  rw [if_neg (by rw [hexL_len]; simp [h4]), hexV_hexL 16 _ (by simpa using h1), numL_dec (by omega)]
  show some (x.1, bt x.2.1.data.toList, ((x.2.2.toNat : Nat) : Int)) = some x
  rw [bt_eta, Int.toNat_of_nonneg h2]
theorem rows_back {l : List Fl} (h : WordF l) : rowsL (l.map lineF) = some l := by
  induction l with
  | nil => rfl
  | cons x l ih =>
    have h1 := lineF_row h (x := x) (by simp)
    have h2 := ih (fun y hy => h y (by simp [hy]))
    rw [List.map_cons]
    simp only [rowsL, h1, h2]
theorem headL_no (e n : Nat) : (10 : UInt8) ∉ headL e n := join3_no (by decide) (by decide) (decL_no _ (by decide)) (decL_no _ (by decide))
theorem head_back {e n : Nat} (he : e < 100000000000000) (hn : n < 100000000000000) : firstL (headL e n) = some (e, n) := by
  have hc : cutL 32 (headL e n) = [flowsW, decL e, decL n] := join_cut (by simp) fun w hw => by
    simp at hw
    rcases hw with rfl | rfl | rfl
    · decide
    · exact decL_no _ (by decide)
    · exact decL_no _ (by decide)
  unfold firstL
  rw [hc]
  dsimp only
  rw [if_neg (by simp), numL_dec (by omega), numL_dec (by omega)]
theorem sum_no (k : Nat) : (10 : UInt8) ∉ joinL 32 [sumW, hexL 8 k] := by
  show (10 : UInt8) ∉ sumW ++ 32 :: hexL 8 k
  have := hexL_no 8 k (y := 10) (by decide)
  simp [sumW, this]
theorem sum_back {k : Nat} (hk : k < 2 ^ 32) : lastL (joinL 32 [sumW, hexL 8 k]) = some k := by
  have hc : cutL 32 (joinL 32 [sumW, hexL 8 k]) = [sumW, hexL 8 k] := join_cut (by simp) fun w hw => by
    simp at hw
    rcases hw with rfl | rfl
    · decide
    · exact hexL_no _ _ (by decide)
  unfold lastL
  rw [hc]
  dsimp only
  rw [if_neg (by simp [hexL_len]), hexV_hexL 8 k (by simpa using hk)]
theorem text_lines (e : Nat) (l : List Fl) : textL e l = joinL 10 ((headL e l.length :: l.map lineF) ++ [sumL (bodyL e l)] ++ [[]]) := by
  rw [joinL_snoc _ _ _ (by simp), joinL_snoc _ _ _ (by simp)]
  show (joinL 10 (headL e l.length :: l.map lineF) ++ [10]) ++ sumL (bodyL e l) ++ [10] = _
  simp
theorem text_cut {e : Nat} {l : List Fl} (h : WordF l) : cutL 10 (textL e l) = (headL e l.length :: l.map lineF) ++ [sumL (bodyL e l)] ++ [[]] := by
  rw [text_lines]
  refine join_cut (by simp) fun w hw => ?_
  simp only [List.mem_append, List.mem_cons, List.mem_map, List.not_mem_nil, or_false] at hw
  rcases hw with ((rfl | ⟨x, hx, rfl⟩) | rfl) | rfl
  · exact headL_no _ _
  · exact lineF_no h hx
  · exact sum_no _
  · simp
/-- The text of flows is read as these flows. -/
theorem text_back {e : Nat} {l : List Fl} (he : e < 100000000000000) (hl : l.length < 100000000000000) (h : WordF l) : partsL (cutL 10 (textL e l)) = some (e, l, crcL (bodyL e l), headL e l.length :: l.map lineF) := by
  rw [text_cut h]
  have hlen : ((headL e l.length :: l.map lineF) ++ [sumL (bodyL e l)] ++ [[]]).length = l.length + 3 := by simp
  have g0 : ((headL e l.length :: l.map lineF) ++ [sumL (bodyL e l)] ++ [[]]).getD 0 [] = headL e l.length := rfl
  have g1 : ((headL e l.length :: l.map lineF) ++ [sumL (bodyL e l)] ++ [[]]).getD (l.length + 3 - 1) [] = [] := by
    rw [List.getD_eq_getElem?_getD, List.getElem?_append_right (by simp)]
    simp
  have g2 : ((headL e l.length :: l.map lineF) ++ [sumL (bodyL e l)] ++ [[]]).getD (l.length + 3 - 2) [] = sumL (bodyL e l) := by
    rw [List.getD_eq_getElem?_getD, List.getElem?_append_left (by simp), List.getElem?_append_right (by simp)]
    simp
  have g3 : (((headL e l.length :: l.map lineF) ++ [sumL (bodyL e l)] ++ [[]]).drop 1).take (l.length + 3 - 3) = l.map lineF := by
    show ((l.map lineF ++ [sumL (bodyL e l)]) ++ [[]]).take (l.length + 3 - 3) = _
    rw [List.append_assoc, List.take_append_of_le_length (by simp), List.take_of_length_le (by simp)]
  have g4 : ((headL e l.length :: l.map lineF) ++ [sumL (bodyL e l)] ++ [[]]).take (l.length + 3 - 2) = headL e l.length :: l.map lineF := by
    rw [List.append_assoc, List.take_append_of_le_length (by simp), List.take_of_length_le (by simp)]
  unfold partsL
  rw [hlen, g0, g1, g2, g3, g4, if_neg (by simp), head_back he hl, rows_back h]
  have hs : lastL (sumL (bodyL e l)) = some (crcL (bodyL e l)) := sum_back (crcL_lt _)
  rw [hs]
  dsimp only
  rw [if_neg (by omega)]
/-- Two texts of flows that part at one byte alone: there are none. -/
theorem text_turn {e e' : Nat} {l l' : List Fl} {p q : List UInt8} {b b' : UInt8} (h : textL e l = p ++ b :: q) (h' : textL e' l' = p ++ b' :: q) (hne : b ≠ b') : False := by
  have hlen : ∀ (e : Nat) (l : List Fl), (textL e l).length = (bodyL e l).length + 13 := fun e l => by
    unfold textL sumL
    have := hexL_len 8 (crcL (bodyL e l))
    simp only [List.length_append, List.length_cons, List.length_nil, joinL, sumW, this]
  have hsl : ∀ s, (sumL s ++ [10]).length = 13 := fun s => by
    unfold sumL
    have := hexL_len 8 (crcL s)
    simp only [List.length_append, List.length_cons, List.length_nil, joinL, sumW, this]
  have l1 := congrArg List.length h
  have l2 := congrArg List.length h'
  rw [hlen] at l1 l2
  simp only [List.length_append, List.length_cons] at l1 l2
  have hbl : (bodyL e l).length = (bodyL e' l').length := by omega
  unfold textL at h h'
  rw [List.append_assoc] at h h'
  have sum_inj : ∀ s s', sumL s ++ [10] = sumL s' ++ [10] → crcL s = crcL s' := fun s s' e => by
    have e1 := List.append_cancel_right e
    unfold sumL at e1
    have e2 : sumW ++ 32 :: hexL 8 (crcL s) = sumW ++ 32 :: hexL 8 (crcL s') := e1
    have e3 := List.append_cancel_left e2
    have e4 : hexL 8 (crcL s) = hexL 8 (crcL s') := (List.cons.inj e3).2
    have a1 := hexV_hexL 8 (crcL s) (by simpa using crcL_lt s)
    have a2 := hexV_hexL 8 (crcL s') (by simpa using crcL_lt s')
    rw [e4] at a1
    exact Option.some.inj (a1.symm.trans a2)
  rcases Nat.lt_or_ge p.length (bodyL e l).length with hp | hp
  · -- the byte lies in the body: the rest of both is one, so the sums are
    have t1 := congrArg (List.drop (bodyL e l).length) h
    have t2 := congrArg (List.drop (bodyL e l).length) h'
    rw [List.drop_left] at t1
    rw [hbl, List.drop_left] at t2
    have q1 : ∀ b : UInt8, (p ++ b :: q).drop (bodyL e l).length = q.drop ((bodyL e l).length - p.length - 1) := fun b => by
      rw [List.drop_append, List.drop_eq_nil_of_le (by omega), List.nil_append]
      obtain ⟨m, hm⟩ : ∃ m, (bodyL e l).length - p.length = m + 1 := ⟨(bodyL e l).length - p.length - 1, by omega⟩
      rw [hm, List.drop_succ_cons, Nat.add_sub_cancel]
    rw [q1] at t1
    rw [← hbl, q1] at t2
    have hcr := sum_inj _ _ (t1.trans t2.symm)
    have r1 := congrArg (List.take (bodyL e l).length) h
    have r2 := congrArg (List.take (bodyL e l).length) h'
    rw [List.take_left] at r1
    rw [hbl, List.take_left] at r2
    have q2 : ∀ b : UInt8, (p ++ b :: q).take (bodyL e l).length = p ++ b :: q.take ((bodyL e l).length - p.length - 1) := fun b => by
      rw [List.take_append, List.take_of_length_le (by omega)]
      obtain ⟨m, hm⟩ : ∃ m, (bodyL e l).length - p.length = m + 1 := ⟨(bodyL e l).length - p.length - 1, by omega⟩
      rw [hm, List.take_succ_cons, Nat.add_sub_cancel]
    rw [q2] at r1
    rw [← hbl, q2] at r2
    rw [r1, r2] at hcr
    exact crc_turn _ _ hne hcr
  · -- the byte lies behind the body: the bodies are one, so the texts are
    have r1 := congrArg (List.take (bodyL e l).length) h
    have r2 := congrArg (List.take (bodyL e l).length) h'
    rw [List.take_left, List.take_append_of_le_length hp] at r1
    rw [hbl, List.take_left, ← hbl, List.take_append_of_le_length hp] at r2
    have hb : bodyL e l = bodyL e' l' := r1.trans r2.symm
    rw [hb] at h
    have e1 : p ++ b :: q = p ++ b' :: q := h.symm.trans h'
    have e2 := List.append_cancel_left e1
    exact hne (List.cons.inj e2).1
end Lh
end Go.Proofs.YtmkdpchodeckgaaGreatDoor

/- Texts of flows as lists: the body, line by line; how long. -/
namespace Go.Proofs.YtmkdpchodeckgaaGreatDoor
namespace Lh
def rowsB (l : List Fl) : List UInt8 := l.flatMap fun x => lineF x ++ [10]
theorem join_rows : ∀ (w : List UInt8) (l : List Fl), joinL 10 (w :: l.map lineF) ++ [10] = w ++ [10] ++ rowsB l
  | w, [] => by simp [joinL, rowsB]
  | w, x :: l => by
    have := join_rows (lineF x) l
    simp only [List.map_cons, rowsB, List.flatMap_cons] at this ⊢
    show w ++ 10 :: joinL 10 (lineF x :: l.map lineF) ++ [10] = _
    rw [List.append_assoc, List.cons_append, this]
    simp
theorem body_rows (e : Nat) (l : List Fl) : bodyL e l = headL e l.length ++ [10] ++ rowsB l := join_rows _ _
theorem rowsB_snoc (l : List Fl) (x : Fl) : rowsB (l ++ [x]) = rowsB l ++ (lineF x ++ [10]) := by simp [rowsB]
theorem rowsB_take {l : List Fl} {i : Nat} (h : i < l.length) : rowsB (l.take (i + 1)) = rowsB (l.take i) ++ (lineF l[i] ++ [10]) := by
  rw [List.take_succ_eq_append_getElem h, rowsB_snoc]
theorem lineF_len {x : Fl} (h1 : x.2.1.size ≤ 60) (h2 : x.2.2.toNat < 100000000000000) : (lineF x).length ≤ 92 := by
  have e1 := hexL_len 16 x.1
  have e2 := decL_len (n := x.2.2.toNat) (k := 14) (by decide) (by omega)
  have e3 : x.2.1.data.toList.length = x.2.1.size := rfl
  simp only [lineF, joinL, List.length_append, List.length_cons]
  omega
theorem rowsB_len : ∀ {l : List Fl}, (∀ x ∈ l, x.2.1.size ≤ 60 ∧ x.2.2.toNat < 100000000000000) → (rowsB l).length ≤ 93 * l.length
  | [], _ => by simp [rowsB]
  | x :: l, h => by
    have h1 := rowsB_len (l := l) fun y hy => h y (List.mem_cons_of_mem _ hy)
    have h2 := lineF_len (h x (List.mem_cons_self ..)).1 (h x (List.mem_cons_self ..)).2
    simp only [rowsB, List.flatMap_cons, List.length_append, List.length_cons, List.length_nil] at h1 ⊢
    omega
theorem headL_len {e n : Nat} (he : e < 100000000000000) (hn : n < 100000000000000) : (headL e n).length ≤ 35 := by
  have e1 := decL_len (n := e) (k := 14) (by decide) (by omega)
  have e2 := decL_len (n := n) (k := 14) (by decide) (by omega)
  simp only [headL, joinL, flowsW, List.length_append, List.length_cons, List.length_nil]
  omega
end Lh
end Go.Proofs.YtmkdpchodeckgaaGreatDoor

/- Texts of flows as lists: what is wrong with a line. -/
namespace Go.Proofs.YtmkdpchodeckgaaGreatDoor
namespace Lh
theorem bt_list (l : List UInt8) : (bt l).toList = l := by rw [ByteArray.toList_eq]; rfl
theorem bt_void {l : List UInt8} (h : l = []) : (bt l).toList.isEmpty = true := by rw [bt_list, h]; rfl
theorem bt_some {l : List UInt8} (h : l ≠ []) : (bt l).toList.isEmpty = false := by
  rw [bt_list]
  cases l with
  | nil => exact absurd rfl h
  | cons c l => rfl
theorem bt_is {l k : List UInt8} (h : l = k) : ((bt l).toList == k) = true := by rw [bt_list, h]; simp
theorem bt_not {l k : List UInt8} (h : l ≠ k) : ((bt l).toList == k) = false := by
  rw [bt_list, beq_eq_false_iff_ne]
  exact h
theorem num_ex (l : List UInt8) : numL l = none ∨ ∃ n, numL l = some n := by
  cases numL l with
  | none => exact Or.inl rfl
  | some n => exact Or.inr ⟨n, rfl⟩
theorem first_len {w : List UInt8} (h : (cutL 32 w).length ≠ 3) : firstL w = none := by
  unfold firstL
  split
  · rename_i a b c e
    rw [e] at h
    exact absurd rfl h
  · rfl
theorem first_word {w a b c : List UInt8} (e : cutL 32 w = [a, b, c]) (h : a ≠ flowsW) : firstL w = none := by
  unfold firstL
  rw [e]
  simp only
  rw [if_pos h]
theorem first_num {w a b c : List UInt8} (e : cutL 32 w = [a, b, c]) (h : numL b = none ∨ numL c = none) : firstL w = none := by
  unfold firstL
  rw [e]
  simp only
  split
  · rfl
  · rcases h with h | h
    · rw [h]
    · rw [h]; split <;> simp_all
theorem first_some {w a b c : List UInt8} (e : cutL 32 w = [a, b, c]) (h : a = flowsW) {m n : Nat} (hb : numL b = some m) (hc : numL c = some n) : firstL w = some (m, n) := by
  unfold firstL
  rw [e]
  simp only
  rw [if_neg (by simpa using h), hb, hc]
theorem line_len {w : List UInt8} (h : (cutL 32 w).length ≠ 3) : lineV w = none := by
  unfold lineV
  split
  · rename_i a b c e
    rw [e] at h
    exact absurd rfl h
  · rfl
theorem line_word {w a b c : List UInt8} (e : cutL 32 w = [a, b, c]) (h : b = [] ∨ a.length ≠ 16) : lineV w = none := by
  unfold lineV
  rw [e]
  simp only
  rw [if_pos h]
theorem line_num {w a b c : List UInt8} (e : cutL 32 w = [a, b, c]) (h : hexV a = none ∨ numL c = none) : lineV w = none := by
  unfold lineV
  rw [e]
  simp only
  split
  · rfl
  · rcases h with h | h
    · rw [h]
    · rw [h]; split <;> simp_all
theorem line_some {w a b c : List UInt8} (e : cutL 32 w = [a, b, c]) (h1 : b ≠ []) (h2 : a.length = 16) {k u : Nat} (hb : hexV a = some k) (hc : numL c = some u) : lineV w = some (k, bt b, (u : Int)) := by
  unfold lineV
  rw [e]
  simp only
  rw [if_neg (by simp [h1, h2]), hb, hc]
theorem last_len {w : List UInt8} (h : (cutL 32 w).length ≠ 2) : lastL w = none := by
  unfold lastL
  split
  · rename_i a b e
    rw [e] at h
    exact absurd rfl h
  · rfl
theorem last_word {w a b : List UInt8} (e : cutL 32 w = [a, b]) (h : a ≠ sumW ∨ b.length ≠ 8) : lastL w = none := by
  unfold lastL
  rw [e]
  simp only
  rw [if_pos h]
theorem last_hex {w a b : List UInt8} (e : cutL 32 w = [a, b]) (h1 : a = sumW) (h2 : b.length = 8) : lastL w = hexV b := by
  unfold lastL
  rw [e]
  simp only
  rw [if_neg (by simp [h1, h2])]
theorem last_none {w a b : List UInt8} (e : cutL 32 w = [a, b]) (h : hexV b = none) : lastL w = none := by
  unfold lastL
  rw [e]
  simp only
  split
  · rfl
  · exact h
theorem rows_snoc : ∀ {ws : List (List UInt8)} {L : List Fl} {w : List UInt8} {x : Fl}, rowsL ws = some L → lineV w = some x → rowsL (ws ++ [w]) = some (L ++ [x])
  | [], L, w, x, h, hx => by
    cases h
    simp [rowsL, hx]
  | y :: ws, L, w, x, h, hx => by
    simp only [rowsL] at h
    split at h
    · rename_i z l h1 h2
      cases h
      have := rows_snoc h2 hx
      simp only [List.cons_append, rowsL, h1, this]
    · cases h
theorem rows_bad : ∀ {ws : List (List UInt8)} {w : List UInt8}, w ∈ ws → lineV w = none → rowsL ws = none
  | y :: ws, w, h, hx => by
    simp only [rowsL]
    rcases List.mem_cons.1 h with rfl | h
    · rw [hx]
    · rw [rows_bad h hx]
      split <;> simp_all
theorem join_split (y : UInt8) : ∀ (ls : List (List UInt8)) (i : Nat), 0 < i → i < ls.length → joinL y ls = joinL y (ls.take i) ++ y :: joinL y (ls.drop i)
  | [], i, _, h => by simp at h
  | [w], i, h0, h => by simp at h; omega
  | w :: x :: ls, 1, _, _ => rfl
  | w :: x :: ls, i + 2, _, h => by
    have := join_split y (x :: ls) (i + 1) (by omega) (by simpa using h)
    show w ++ y :: joinL y (x :: ls) = w ++ y :: joinL y ((x :: ls).take (i + 1)) ++ y :: joinL y ((x :: ls).drop (i + 1))
    rw [this]
    simp
theorem join_take {ls : List (List UInt8)} {i : Nat} (h0 : 0 < i) (h : i < ls.length) : (joinL 10 (ls.take (i + 1))).length = (joinL 10 (ls.take i)).length + ls[i].length + 1 := by
  rw [List.take_succ_eq_append_getElem h, joinL_snoc]
  · simp; omega
  · intro e
    have := congrArg List.length e
    rw [List.length_take, List.length_nil] at this
    omega
theorem join_ahead {ls : List (List UInt8)} {i : Nat} (h0 : 0 < i) (h : i < ls.length) : (joinL 10 ls).take ((joinL 10 (ls.take i)).length + 1) = joinL 10 (ls.take i) ++ [10] ∧ (joinL 10 (ls.take i)).length + 1 ≤ (joinL 10 ls).length := by
  rw [join_split 10 ls i h0 h]
  constructor
  · rw [List.take_append]
    simp
    exact List.take_of_length_le (by omega)
  · simp
theorem mem_mid {ls : List (List UInt8)} {i : Nat} (h0 : 0 < i) (h : i + 2 < ls.length) : ls[i] ∈ (ls.drop 1).take (ls.length - 3) := by
  rw [List.mem_iff_getElem]
  refine ⟨i - 1, by rw [List.length_take, List.length_drop]; omega, ?_⟩
  rw [List.getElem_take, List.getElem_drop]
  congr 1
  omega
theorem mid_step {ls : List (List UInt8)} {i : Nat} (h0 : 0 < i) (h : i < ls.length) : (ls.drop 1).take (i + 1 - 1) = (ls.drop 1).take (i - 1) ++ [ls[i]] := by
  have hi : i - 1 < (ls.drop 1).length := by rw [List.length_drop]; omega
  have e : i + 1 - 1 = (i - 1) + 1 := by omega
  rw [e, List.take_succ_eq_append_getElem hi, List.getElem_drop]
  congr 2
  congr 1
  omega
end Lh
end Go.Proofs.YtmkdpchodeckgaaGreatDoor
