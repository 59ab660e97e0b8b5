/- The law ScriptAgain, over the landed package's contract. -/
import Derived.Test.YtfhmfjcpggddkaaGreatDoorM26
import Derived.Test.YtfhmfjcpggddkaaGreatDoorM12
namespace Go.Proofs.YtfhmfjcpggddkaaGreatDoor
open Go.RowKit Lh

/-- a line of the law: its word, its hosts, its numbers -/
structure Ln where
  w : ByteArray
  H : List ByteArray
  N : List Int
def LnsAt (W : World) (p : Option Addr) (l : List Ln) : Prop := ∀ k (h : k < l.length), ∃ b o hv nv, p = some ⟨b, o, none⟩ ∧ W.cell? ⟨b, o + k * 3, none⟩ = some (.string l[k].w) ∧ W.cell? ⟨b, o + k * 3 + 1, none⟩ = some hv ∧ W.cell? ⟨b, o + k * 3 + 2, none⟩ = some nv ∧ Strs1 W hv l[k].H ∧ Ints W nv l[k].N
structure LnOk (x : Ln) : Prop where
  w : x.w.size ≤ maxLen
  hl : x.H.length ≤ maxLen
  hs : ∀ k (h : k < x.H.length), (x.H[k]).size ≤ maxLen
  nl : x.N.length ≤ maxLen
theorem Strs1.cut {w : World} {p : Option Addr} {c n : Nat} {xs : List ByteArray} (h : Strs1 w (.slice p n c) xs) (hn : xs.length = n) {m : Nat} (hm : m ≤ n) : m ≤ c ∧ Strs1 w (.slice p m c) (xs.take m) := by
  subst hn
  rcases h with ⟨rfl, e | ⟨ad, c', e⟩⟩ | ⟨b, o, c', e, hcap, hc⟩
  · injection e with e1 _ e3
    subst e1
    subst e3
    obtain rfl : m = 0 := by simpa using hm
    exact ⟨Nat.le_refl _, Or.inl ⟨rfl, Or.inl rfl⟩⟩
  · injection e with e1 _ e3
    subst e1
    subst e3
    obtain rfl : m = 0 := by simpa using hm
    exact ⟨Nat.zero_le _, Or.inl ⟨rfl, Or.inr ⟨_, _, rfl⟩⟩⟩
  · injection e with e1 _ e3
    subst e1
    subst e3
    refine ⟨by omega, Or.inr ⟨b, o, c, by rw [List.length_take, Nat.min_eq_left hm], by rw [List.length_take]; omega, fun k hk => ?_⟩⟩
    have hk' : k < xs.length := by rw [List.length_take] at hk; omega
    rw [hc k hk', List.getElem_take]
theorem line_size {c : Cm} {hh : Int} {n : Nat} (h : CmOk c hh n) (hw : c.w.length ≤ 60) (hl : c.H.length ≤ 30) (hn : c.N.length ≤ 5) : (bt (lineL c)).size ≤ 5000 := by
  rw [bt_size]
  have h1 : ∀ x ∈ c.H.map tx, x.length ≤ 12 := fun x hx => by
    obtain ⟨s, hs, rfl⟩ := List.mem_map.1 hx
    exact (nm_word (h.nm s hs)).2.2.2
  have h2 : ∀ x ∈ c.N.map decL, x.length ≤ 7 := fun x hx => by
    obtain ⟨k, hk, rfl⟩ := List.mem_map.1 hx
    exact decL_len (by decide) (by have := h.hi k hk; omega)
  have f1 := flatB_len h1
  have f2 := flatB_len h2
  rw [List.length_map] at f1 f2
  have g1 : c.H.length * (12 + 1) ≤ 30 * 13 := Nat.mul_le_mul hl (by decide)
  have g2 : c.N.length * (7 + 1) ≤ 5 * 8 := Nat.mul_le_mul hn (by decide)
  unfold lineL wordsOf
  split
  · rw [join_flat]
    have e : flatB (c.N.map decL ++ c.H.map fun s => s.data.toList) = flatB (c.N.map decL) ++ flatB (c.H.map tx) := by
      unfold flatB
      rw [List.flatMap_append]
      rfl
    rw [e, List.length_append, List.length_append]
    omega
  · rw [join_flat]
    have e : flatB ((c.H.map fun s => s.data.toList) ++ c.N.map decL) = flatB (c.H.map tx) ++ flatB (c.N.map decL) := by
      unfold flatB
      rw [List.flatMap_append]
      rfl
    rw [e, List.length_append, List.length_append]
    omega
end Go.Proofs.YtfhmfjcpggddkaaGreatDoor

/- The law's model of a script: texts put together, an error or a text. -/
namespace Go.Proofs.YtfhmfjcpggddkaaGreatDoor
open Go.RowKit Lh

theorem orElse_any (e : Nat) (he : e ≤ 9) (s : ByteArray) (W : World) : Calls Tryz.prog 23 #[.int .i64 (e : Nat), .string s] W fun r w' => r = .returned (.string (if e = 0 then s else bt (errT e))) ∧ Below W.heap.size W w' := by
  by_cases h : e = 0
  · subst h
    rw [if_pos rfl]
    go_enter Tryz.func23, Tryz.ntmps23
    go_wp2
    go_ret
    exact ⟨rfl, Below.refl _ _⟩
  · rw [if_neg h]
    have d : 0 < e := by omega
    have het := errorText_any e (by omega) he W
    clear h
    generalize bt (errT e) = t at *
    go_enter Tryz.func23, Tryz.ntmps23
    go_wp2_with fail
    refine het.mono ?_
    rintro r w1 ⟨rfl, hb1⟩
    clear het
    go_wp2
    go_ret
    exact ⟨rfl, hb1⟩
theorem joinS_snoc {y : List UInt8} : ∀ {ws : List (List UInt8)}, ws ≠ [] → ∀ x, joinS y (ws ++ [x]) = joinS y ws ++ (y ++ x)
  | [], h, _ => absurd rfl h
  | [w], _, x => rfl
  | u :: v :: ws, _, x => by
    have := joinS_snoc (y := y) (ws := v :: ws) (by simp) x
    show u ++ (y ++ joinS y (v :: (ws ++ [x]))) = u ++ (y ++ joinS y (v :: ws)) ++ (y ++ x)
    have e : v :: (ws ++ [x]) = (v :: ws) ++ [x] := rfl
    rw [e, this]
    simp
theorem joinS_len {y : List UInt8} {m : Nat} : ∀ {ws : List (List UInt8)}, (∀ x ∈ ws, x.length ≤ m) → (joinS y ws).length ≤ ws.length * (m + y.length)
  | [], _ => by simp [joinS]
  | [w], h => by
    have := h w (by simp)
    show w.length ≤ 1 * (m + y.length)
    omega
  | u :: v :: ws, h => by
    have h1 := joinS_len (y := y) (ws := v :: ws) fun z hz => h z (by simp [hz])
    have h2 := h u (by simp)
    have h3 : (joinS y (u :: v :: ws)).length = u.length + (y.length + (joinS y (v :: ws)).length) := by simp [joinS]
    rw [h3, List.length_cons, Nat.succ_mul]
    omega
theorem joinL_joinS (y : UInt8) : ∀ (ws : List (List UInt8)), joinL y ws = joinS [y] ws
  | [] => rfl
  | [w] => rfl
  | u :: v :: ws => by
    have := joinL_joinS y (v :: ws)
    show u ++ y :: joinL y (v :: ws) = u ++ ([y] ++ joinS [y] (v :: ws))
    rw [this]
    rfl
set_option maxRecDepth 100000 in
set_option maxHeartbeats 2000000 in
theorem joined_any (v : Value) (xs : List ByteArray) (y : ByteArray) (W : World) (hv : Strs1 W v xs) (hl : xs.length ≤ 1000) (hs : ∀ s ∈ xs, s.size ≤ 1000) (hy : y.size ≤ 10) :
    Calls Tryz.prog 27 #[v, .string y] W fun r w' => r = .returned (.string (bt (joinedS (tx y) (xs.map tx)))) ∧ Below W.heap.size W w' := by
  obtain ⟨p, c, rfl, hx⟩ := strs1_sl hv
  by_cases h0 : xs = []
  · subst h0
    clear hv hx
    go_enter Tryz.func27, Tryz.ntmps27
    go_wp2
    go_ret
    exact ⟨rfl, Below.refl _ _⟩
  · have hpos : 0 < xs.length := List.length_pos_iff.2 h0
    have HJ : Hid (joinedS (tx y) (xs.map tx) = joinS (tx y) (xs.map tx)) := if_neg (by simpa using h0)
    have HX : Hid (∀ j (h : j < xs.length), ∃ b o, p = some ⟨b, o, none⟩ ∧ W.cell? ⟨b, o + j, none⟩ = some (.string xs[j])) := hx
    have HSZ : Hid (∀ s ∈ xs, s.size ≤ 1000) := hs
    obtain ⟨b, o, rfl, c0⟩ := hx 0 hpos
    rw [Nat.add_zero] at c0
    have hl0 : ((xs.length : Int) == 0) = false := by rw [beq_eq_false_iff_ne]; omega
    have hli : (0 : Int) < (xs.length : Int) := by omega
    have HLEN : Hid (∀ j, (bt (joinS (tx y) ((xs.take j).map tx))).size ≤ 1010000) := fun j => by
      rw [bt_size]
      have h1 := joinS_len (y := tx y) (m := 1000) (ws := (xs.take j).map tx) fun x hx => by
        obtain ⟨s, hs', rfl⟩ := List.mem_map.1 hx
        exact hs s (List.mem_of_mem_take hs')
      rw [List.length_map, List.length_take] at h1
      have h2 : min j xs.length * (1000 + (tx y).length) ≤ 1000 * 1010 := Nat.mul_le_mul (by omega) (by have : (tx y).length = y.size := rfl; omega)
      omega
    have H1 : Hid (xs[0]'hpos = bt (joinS (tx y) ((xs.take 1).map tx))) := by
      show _ = _
      match xs, hpos with
      | s :: l, _ => exact (bt_back s).symm
    rw [HJ.out]
    clear hv hx hs h0
    go_enter Tryz.func27, Tryz.ntmps27
    go_wp2_with fail
    go_loopw [5, 6] (fun u5 u6 W' => W' = W ∧ ∃ j : Nat, 1 ≤ j ∧ j ≤ xs.length ∧ u6 = .int .i64 (j : Nat) ∧ u5 = .string (bt (joinS (tx y) ((xs.take j).map tx)))) (fun _ u6 _ => xs.length - (intOf u6).toNat)
    case atStart => exact ⟨rfl, 1, Nat.le_refl _, hpos, rfl, congrArg Value.string H1.out⟩
    case round =>
      obtain ⟨rfl, j, hj1, hj, rfl, rfl⟩ := hrel
      by_cases hlt : j < xs.length
      · have hji : (j : Int) < (xs.length : Int) := by omega
        obtain ⟨b', o', hp, ck⟩ := HX.out j hlt
        injection hp with hp
        injection hp with hp1 hp2
        subst hp1
        subst hp2
        have hlen := HLEN.out j
        have hs1 := HSZ.out (xs[j]'hlt) (List.getElem_mem hlt)
        have HN : Hid (bt (joinS (tx y) ((xs.take j).map tx)) ++ y ++ xs[j]'hlt = bt (joinS (tx y) ((xs.take (j + 1)).map tx))) := by
          show _ = _
          have e1 : xs[j]'hlt = bt (tx (xs[j]'hlt)) := (bt_back _).symm
          have e2 : y = bt (tx y) := (bt_back _).symm
          rw [List.take_succ_eq_append_getElem hlt, List.map_append, List.map_cons, List.map_nil, joinS_snoc (by
            intro e
            have := congrArg List.length e
            rw [List.length_map, List.length_take, List.length_nil] at this
            omega)]
          conv => lhs; rw [e1]; arg 1; arg 2; rw [e2]
          rw [bt_append, bt_append, List.append_assoc]
        generalize bt (joinS (tx y) ((xs.take j).map tx)) = acc at *
        generalize xs[j]'hlt = s at *
        go_wp2
        exact ⟨⟨by trivial, j + 1, by omega, by omega, by go_num, congrArg Value.string HN.out⟩, by simp [intOf]; omega⟩
      · obtain rfl : j = xs.length := by omega
        have hd : decide ((xs.length : Int) < (xs.length : Int)) = false := by simp
        rw [List.take_length]
        go_wp2
        go_ret
        exact ⟨rfl, Below.refl _ _⟩
end Go.Proofs.YtfhmfjcpggddkaaGreatDoor

/- What the laws of a play ask of the landed package. -/
namespace Go.Proofs.YtfhmfjcpggddkaaGreatDoor
open Go.RowKit

/-- a duo: two balances, their blocks; the block that holds both; where they begin -/
structure DR where
  A : Lh.Bl
  B : Lh.Bl
  FA : Nat → Prop
  FB : Nat → Prop
  d : Nat
  p : Nat
  q : Nat
def DR.F (x : DR) (b : Nat) : Prop := x.FA b ∨ x.FB b ∨ b = x.d
/-- .. in memory -/
structure DR.At (hC : BalanceC) (x : DR) (W : World) : Prop where
  c0 : W.cell? ⟨x.d, 0, none⟩ = some (.pointer (some ⟨x.p, 0, none⟩))
  c1 : W.cell? ⟨x.d, 1, none⟩ = some (.pointer (some ⟨x.q, 0, none⟩))
  ra : hC.Rep x.A x.FA x.p W
  rb : hC.Rep x.B x.FB x.q W
  oka : Lh.BOk x.A
  okb : Lh.BOk x.B
  apart : ∀ b, x.FA b → ¬ x.FB b
  da : ¬ x.FA x.d
  db : ¬ x.FB x.d
section
variable {hC : BalanceC} {x y z x' : DR} {W W' : World}
theorem DR.At.lt (h : x.At hC W) : ∀ b, x.F b → b < W.heap.size := by
  rintro b (hb | hb | rfl)
  · exact hC.lt h.ra b hb
  · exact hC.lt h.rb b hb
  · exact World.block_lt_of_cell? _ _ h.c0
theorem cell_same {W W' : World} {b i : Nat} {v : Value} (h : W'.heap[b]? = W.heap[b]?) (hc : W.cell? ⟨b, i, none⟩ = some v) : W'.cell? ⟨b, i, none⟩ = some v := by
  simp only [World.cell?, h] at hc ⊢
  exact hc
theorem DR.At.stay (h : x.At hC W) (hs : W.heap.size ≤ W'.heap.size) (hb : ∀ b, x.F b → W'.heap[b]? = W.heap[b]?) : x.At hC W' :=
  ⟨cell_same (hb _ (Or.inr (Or.inr rfl))) h.c0, cell_same (hb _ (Or.inr (Or.inr rfl))) h.c1, hC.stay h.ra hs fun b hf => hb b (Or.inl hf), hC.stay h.rb hs fun b hf => hb b (Or.inr (Or.inl hf)), h.oka, h.okb, h.apart, h.da, h.db⟩
theorem DR.At.later (h : x.At hC W) (hb : Below W.heap.size W W') : x.At hC W' := h.stay hb.size fun b hf => hb.block b (h.lt b hf)
end
end Go.Proofs.YtfhmfjcpggddkaaGreatDoor

/- What a play asks of the landed balance besides its contracts. -/
namespace Go.Proofs.YtfhmfjcpggddkaaGreatDoor
open Go.RowKit

/-- all that a balance owns lies behind K, and what it asks of the variables lies ahead of K -/
structure BalP (hC : BalanceC) where
  K : Nat
  low : ∀ {a : Nat → Addr} {W : World}, hC.E a W → K ≤ W.heap.size
  rep : ∀ {S : Lh.Bl} {F : Nat → Prop} {p : Nat} {W : World}, hC.Rep S F p W → ∀ b, F b → K ≤ b
  tur : ∀ {a : Nat → Addr} {F : Nat → Prop} {W W' : World}, hC.E a W → Tur F W W' → (∀ b, F b → K ≤ b) → hC.E a W'
  errs : ∀ {a : Nat → Addr} {W : World}, hC.E a W → Errs a W
  x : ∀ {a : Nat → Addr} {W : World}, hC.E a W → hC.X a W

theorem evOf_is {a : Nat → Addr} {W : World} {c : Nat} {ev : Value} (h : EvOf a c ev) (hc : c ≤ 9) : ErrIs a W c (-1) ev := by
  rcases h with ⟨rfl, rfl⟩ | ⟨j, rfl, rfl⟩
  · exact Or.inl ⟨rfl, rfl, rfl⟩
  · exact Or.inr ⟨j, by omega, rfl, Or.inl ⟨rfl, rfl⟩⟩
theorem pickR_c {nw : List ByteArray → Nat → Nat → ByteArray} {S S' : Lh.Bl} {k : Nat} {now : Int} {s : ByteArray} {kept : Bool} {c : Nat} (h : PickR nw S k now S' s kept c) : c ≤ 9 := by
  rcases h with ⟨j, hf, _, _, _, rfl⟩ | ⟨_, _, _, rfl, _⟩ | ⟨_, _, _, _, _, rfl, _⟩ | ⟨_, _, _, _, _, rfl, _⟩
  · rcases hf with ⟨_, rfl⟩ | ⟨_, _, _, rfl⟩ <;> decide
  all_goals decide
theorem lookR_c {S S' : Lh.Bl} {s : ByteArray} {w t : Bool} {c : Nat} (h : LookR S s w S' t c) : c ≤ 9 := by
  rcases h with ⟨_, _, rfl, _⟩ | ⟨_, _, rfl, _⟩ <;> decide
theorem drainR_c {S S' : Lh.Bl} {s : ByteArray} {w : Bool} {c : Nat} (h : DrainR S s w S' c) : c ≤ 9 := by
  rcases h with ⟨_, rfl, _⟩ | ⟨_, rfl, _⟩ <;> decide
theorem exportR_c {S S' : Lh.Bl} {s : ByteArray} {c : Nat} (h : ExportR S S' s c) : c ≤ 9 := by
  rcases h with ⟨_, _, rfl, _⟩ | ⟨_, _, rfl, _⟩ <;> decide

theorem Tur.wideP {F G : Nat → Prop} {w w1 : World} (h : Tur F w w1) (hG : ∀ b, F b → G b) : Tur G w w1 := ⟨h.os, h.tape, h.output, h.size, fun k hk hf => h.block k hk fun hb => hf (hG k hb)⟩
theorem tur_setP (W : World) (g i : Nat) (v : Value) : Tur (fun b => b = g) W (W.setCell ⟨g, i, none⟩ v) :=
  ⟨rfl, rfl, rfl, by simp [World.setCell], fun j _ hf => heap_setCell_other W ⟨g, i, none⟩ j v fun e => hf e⟩
def DR.ptr (x : DR) (b : Bool) : Nat := if b then x.q else x.p
def DR.put (x : DR) (b : Bool) (S : Lh.Bl) (F : Nat → Prop) : DR := if b then { x with B := S, FB := F } else { x with A := S, FA := F }
section
variable {hC : BalanceC} {hB : BalP hC} {a : Nat → Addr} {g : Nat} {x y z : DR} {now : Int} {W W' W'' : World}
end
end Go.Proofs.YtfhmfjcpggddkaaGreatDoor

/- The landed script: its small functions. -/
namespace Go.Proofs.YtfhmfjcpggddkaaGreatDoor
open Go.RowKit Lh

theorem join_lib (y : List UInt8) : ∀ ws : List (List UInt8), Lib.join ws y = joinS y ws
  | [] => rfl
  | [w] => Lib.join_one w y
  | u :: v :: ws => by
    have h := join_lib y (v :: ws)
    rw [Lib.join_cons] at h ⊢
    show u ++ ((y ++ v) ++ Lib.joinTail y ws) = u ++ (y ++ joinS y (v :: ws))
    rw [← h, List.append_assoc]
theorem tx_bt (l : List UInt8) : tx (bt l) = l := rfl
/-- strings.Join of texts -/
theorem joinT_any (v : Value) (xs : List ByteArray) (y : ByteArray) (W : World) (hv : Strs1 W v xs) (hl : xs.length ≤ 1000) (hs : ∀ s ∈ xs, s.size ≤ 1000) (hy : y.size ≤ 10) :
    Calls Tryz.prog 42 #[v, .string y] W fun r w' => r = .returned (.string (bt (joinS (tx y) (xs.map tx)))) ∧ Below W.heap.size W w' := by
  have hlen : (joinS (tx y) (xs.map tx)).length ≤ 140737488355328 := by
    have h1 : ∀ x ∈ xs.map tx, x.length ≤ 1000 := by
      intro x hx
      obtain ⟨s, hs', rfl⟩ := List.mem_map.1 hx
      have h5 := hs s hs'
      rw [Lib.size_eq] at h5
      exact h5
    have h2 := joinS_len (y := tx y) h1
    have h3 : (tx y).length ≤ 10 := by
      have h5 := hy
      rw [Lib.size_eq] at h5
      exact h5
    rw [List.length_map] at h2
    have h4 : xs.length * (1000 + (tx y).length) ≤ 1000 * 1010 := Nat.mul_le_mul hl (by omega)
    omega
  rcases hv with ⟨rfl, rfl | ⟨ad, c, rfl⟩⟩ | ⟨b, o, c, rfl, hcap, hc⟩
  · exact (Any.strings_Join_none lays156 Builder_Extra_156 none 0 y W).mono fun e w' ⟨he, hw⟩ => ⟨he, hw ▸ Below.refl _ _⟩
  · exact (Any.strings_Join_none lays156 Builder_Extra_156 (some ad) c y W).mono fun e w' ⟨he, hw⟩ => ⟨he, hw ▸ Below.refl _ _⟩
  · by_cases h0 : xs = []
    · subst h0
      exact (Any.strings_Join_none lays156 Builder_Extra_156 (some ⟨b, o, none⟩) c y W).mono fun e w' ⟨he, hw⟩ => ⟨he, hw ▸ Below.refl _ _⟩
    · have e : Lib.join (xs.map (·.data.toList)) y.data.toList = joinS (tx y) (xs.map tx) := join_lib _ _
      have h := Any.strings_Join lays156 Builder_Extra_156 b o c xs y W (fun j s hj => by
        obtain ⟨hj', rfl⟩ := List.getElem?_eq_some_iff.1 hj
        exact hc j hj') (World.block_lt_of_cell? W _ (hc 0 (List.length_pos_iff.2 h0))) (by omega) hcap (by rw [e]; exact hlen)
      rw [e] at h
      exact h
theorem listed_any (v : Value) (xs : List ByteArray) (y : ByteArray) (W : World) (hv : Strs1 W v xs) (hl : xs.length ≤ 1000) (hs : ∀ s ∈ xs, s.size ≤ 1000) (hy : y.size ≤ 10) :
    Calls Tryz.prog 54 #[v, .string y] W fun r w' => r = .returned (.string (bt (joinedS (tx y) (xs.map tx)))) ∧ Below W.heap.size W w' := by
  obtain ⟨p, c, rfl, _⟩ := strs1_sl hv
  have hj := joinT_any _ xs y W hv hl hs hy
  by_cases h0 : xs = []
  · subst h0
    go_enter Tryz.func54, Tryz.ntmps54
    go_wp2
    go_ret
    exact ⟨rfl, Below.refl _ _⟩
  · have hp := List.length_pos_iff.2 h0
    have hne : ((xs.length : Int) == 0) = false := by rw [beq_eq_false_iff_ne]; omega
    have hne2 : ¬ xs.length = 0 := by omega
    have HR : Hid (joinedS (tx y) (xs.map tx) = joinS (tx y) (xs.map tx)) := by
      show _ = _
      unfold joinedS
      rw [if_neg (by simpa using h0)]
    clear h0 hp hs hv
    go_enter Tryz.func54, Tryz.ntmps54
    go_wp2_with fail
    refine hj.mono ?_
    rintro e w' ⟨rfl, hb⟩
    go_wp2
    go_ret
    exact ⟨by rw [HR.out]; rfl, hb⟩
theorem either_any (is : Bool) (x y : ByteArray) (W : World) : Calls Tryz.prog 49 #[.bool is, .string x, .string y] W fun e w' => e = .returned (.string (if is then x else y)) ∧ w' = W := by
  cases is
  · go_enter Tryz.func49, Tryz.ntmps49
    go_wp2
    go_ret
    exact ⟨rfl, rfl⟩
  · go_enter Tryz.func49, Tryz.ntmps49
    go_wp2
    go_ret
    exact ⟨rfl, rfl⟩
theorem digits_any {a : Nat → Addr} (n : Nat) (hn : n ≤ 9223372036854775807) (ev : Value) (w : World) (he : EC a w) : Calls Tryz.prog 36 #[.int .i64 (n : Nat), ev] w fun e w' => e = .returned (.tuple #[.string (bt (decL n)), ev]) ∧ Below w.heap.size w w' := by
  have h := itoa_any n hn w he
  go_enter Tryz.func36, Tryz.ntmps36
  go_wp2_with fail
  refine h.mono ?_
  rintro e w' ⟨rfl, hb⟩
  go_wp2
  go_ret2
  exact ⟨rfl, hb⟩
end Go.Proofs.YtfhmfjcpggddkaaGreatDoor

/- The landed script: what a command leaves. -/
namespace Go.Proofs.YtfhmfjcpggddkaaGreatDoor
open Go.RowKit Lh

/-- a text, or an error -/
def AnsE (a : Nat → Addr) (W' : World) (ans : List UInt8) (e : Ending) : Prop := ∃ tv ev c pl, e = .returned (.tuple #[.string tv, ev]) ∧ ErrIs a W' c pl ev ∧ ((c = 0 ∧ tv = bt ans) ∨ (c ≠ 0 ∧ ans = errT c ∧ Told (c - 1)))
theorem ansE_ok {a : Nat → Addr} {W' : World} {ans : List UInt8} {tv : ByteArray} (h : tv = bt ans) : AnsE a W' ans (.returned (.tuple #[.string tv, .nilIface])) := ⟨tv, .nilIface, 0, -1, rfl, Or.inl ⟨rfl, rfl, rfl⟩, Or.inl ⟨rfl, h⟩⟩
theorem ansE_err {a : Nat → Addr} {W' : World} {c : Nat} {pl : Int} {ev : Value} {tv : ByteArray} (h : ErrIs a W' c pl ev) (h0 : c ≠ 0) (ht : Told (c - 1)) : AnsE a W' (errT c) (.returned (.tuple #[.string tv, ev])) := ⟨tv, ev, c, pl, rfl, h, Or.inr ⟨h0, rfl, ht⟩⟩
theorem ansE_ev {a : Nat → Addr} {W' : World} {c : Nat} {ev : Value} {ans : List UInt8} {tv : ByteArray} (h : EvOf a c ev) (hc : c ≤ 9) (h7 : c ≠ 7) (h9 : c ≠ 9) (ht : c = 0 → tv = bt ans) : AnsE a W' (if c = 0 then ans else errT c) (.returned (.tuple #[.string tv, ev])) := by
  by_cases h0 : c = 0
  · rw [if_pos h0]
    exact ⟨tv, ev, c, -1, rfl, evOf_is h hc, Or.inl ⟨h0, ht h0⟩⟩
  · rw [if_neg h0]
    exact ⟨tv, ev, c, -1, rfl, evOf_is h hc, Or.inr ⟨h0, rfl, errTold hc h7 h9⟩⟩
/-- what a command leaves -/
def CmdE (w0 : World) (a : Nat → Addr) (p q m : Nat) (F : Nat → Prop) (st : Option Sc) (c : Cm) (W : World) (e : Ending) (W' : World) : Prop :=
  ∃ st' F' ans, CmR nwB st c st' ans ∧ AnsE a W' ans e ∧ PlC w0 a p q m F' W' ∧ PlIs st' F' p W' ∧ (∀ b, F' b → F b ∨ W.heap.size ≤ b) ∧ Tur (fun b => F b ∨ b = p) W W'
section
variable {w0 W wa W' : World} {a : Nat → Addr} {p q m r g cap : Nat} {F F' : Nat → Prop} {S : Sc}
theorem cmd_turned (hP : PlC w0 a p q m F W) (hY : PlY S F p r g cap W) (hn : S.hosts ≠ []) (hba : Below W.heap.size W wa) (hT : Tur F wa W') (hF : ∀ b, F' b → F b ∨ wa.heap.size ≤ b) {b' : Bl} (hR : RepB b' F' r W') :
    PlC w0 a p q m F' W' ∧ PlIs (some { S with b := b' }) F' p W' ∧ (∀ b, F' b → F b ∨ W.heap.size ≤ b) ∧ Tur (fun b => F b ∨ b = p) W W' := by
  have hpF : ¬ F p := fun h => (hP.F0 p h).2.1 rfl
  have hPa := hP.later hba
  have hYa := hY.later hpF hn hba
  have hT' : Tur (fun b => F b ∨ b = p) wa W' := hT.wideP fun b hb => Or.inl hb
  refine ⟨hPa.tur hT' hF fun k => (World.frozen?_of_block (w := wa) (w' := W') (a := ⟨p, k, none⟩) (hT.block p hPa.pl hpF)).trans (hPa.fz k), Or.inr ⟨_, r, g, cap, rfl, hYa.turned hpF hn hT hF hR⟩, fun b hb => ?_, (Tur.of_below hba).trans hT' fun b hb => Or.inl hb⟩
  rcases hF b hb with h | h
  · exact Or.inl h
  · exact Or.inr (Nat.le_trans hba.size h)
theorem cmd_below (hP : PlC w0 a p q m F W) (hY : PlY S F p r g cap W) (hn : S.hosts ≠ []) (hb : Below W.heap.size W W') :
    PlC w0 a p q m F W' ∧ PlIs (some S) F p W' ∧ (∀ b, F b → F b ∨ W.heap.size ≤ b) ∧ Tur (fun b => F b ∨ b = p) W W' :=
  ⟨hP.later hb, Or.inr ⟨S, r, g, cap, rfl, hY.later (fun h => (hP.F0 p h).2.1 rfl) hn hb⟩, fun _ h => Or.inl h, Tur.of_below hb⟩
end
theorem nums_at {W : World} {B : Nat} {vn : Value} {N : List Nat} (h : W.ownsRow B 3 1 vn N.length (N.map fun n => .int .i64 (n : Nat))) (hn : 0 < N.length) : ∃ nb cn, vn = .slice (some ⟨nb, 0, none⟩) N.length cn ∧ B ≤ nb ∧ N.length ≤ cn ∧ ∀ i (hi : i < N.length), W.cell? ⟨nb, i, none⟩ = some (.int .i64 (N[i] : Nat)) := by
  have hc := fun g => h.cells (g := g)
  rcases h.2 with ⟨_, h0⟩ | ⟨g, cap, cur, rfl, hb, _, hle, _⟩
  · omega
  · refine ⟨g, cap, rfl, hb, hle, fun i hi => ?_⟩
    have := hc g rfl i (.int .i64 (N[i] : Nat)) (by simp [hi])
    simpa [Lib.add_plain] using this
theorem hosts_at {W : World} {B : Nat} {vh : Value} {H : List ByteArray} (h : W.ownsRow B 9 1 vh H.length (H.map Value.string)) (hn : 0 < H.length) : ∃ hb ch, vh = .slice (some ⟨hb, 0, none⟩) H.length ch ∧ B ≤ hb ∧ H.length ≤ ch ∧ ∀ i (hi : i < H.length), W.cell? ⟨hb, i, none⟩ = some (.string H[i]) := by
  have hc := fun g => h.cells (g := g)
  rcases h.2 with ⟨_, h0⟩ | ⟨g, cap, cur, rfl, hb, _, hle, _⟩
  · omega
  · refine ⟨g, cap, rfl, hb, hle, fun i hi => ?_⟩
    have := hc g rfl i (.string H[i]) (by simp [hi])
    simpa [Lib.add_plain] using this
end Go.Proofs.YtfhmfjcpggddkaaGreatDoor
