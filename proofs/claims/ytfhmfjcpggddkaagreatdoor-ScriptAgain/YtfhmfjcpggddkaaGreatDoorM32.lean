/- The law's model of a script: texts put together, an error or a text. -/
import Derived.Test.YtfhmfjcpggddkaaGreatDoorScAg
import Derived.Test.YtfhmfjcpggddkaaGreatDoorM13
import Derived.Test.YtfhmfjcpggddkaaGreatDoorM29
namespace Go.Proofs.YtfhmfjcpggddkaaGreatDoor
open Go.RowKit Lh

theorem joinS_len {y : List UInt8} {m : Nat} : ∀ {ws : List (List UInt8)}, (∀ x ∈ ws, x.length ≤ m) → (joinS y ws).length ≤ ws.length * (m + y.length)
  | [], _ => by simp [joinS]
  | [w], h => by
    have := h w (by simp)
    show w.length ≤ 1 * (m + y.length)
    omega
  | u :: v :: ws, h => by
    have h1 := joinS_len (y := y) (ws := v :: ws) fun z hz => h z (by simp [hz])
    have h2 := h u (by simp)
    have h3 : (joinS y (u :: v :: ws)).length = u.length + (y.length + (joinS y (v :: ws)).length) := by simp [joinS]
    rw [h3, List.length_cons, Nat.succ_mul]
    omega
theorem joinL_joinS (y : UInt8) : ∀ (ws : List (List UInt8)), joinL y ws = joinS [y] ws
  | [] => rfl
  | [w] => rfl
  | u :: v :: ws => by
    have := joinL_joinS y (v :: ws)
    show u ++ y :: joinL y (v :: ws) = u ++ ([y] ++ joinS [y] (v :: ws))
    rw [this]
    rfl
end Go.Proofs.YtfhmfjcpggddkaaGreatDoor

/- What the laws of a play ask of the landed package. -/
namespace Go.Proofs.YtfhmfjcpggddkaaGreatDoor
open Go.RowKit

/-- a duo: two balances, their blocks; the block that holds both; where they begin -/
structure DR where
  A : Lh.Bl
  B : Lh.Bl
  FA : Nat → Prop
  FB : Nat → Prop
  d : Nat
  p : Nat
  q : Nat
def DR.F (x : DR) (b : Nat) : Prop := x.FA b ∨ x.FB b ∨ b = x.d
section
variable {hC : BalanceC} {x y z x' : DR} {W W' : World}
end
end Go.Proofs.YtfhmfjcpggddkaaGreatDoor

/- What a play asks of the landed balance besides its contracts. -/
namespace Go.Proofs.YtfhmfjcpggddkaaGreatDoor
open Go.RowKit

/-- all that a balance owns lies behind K, and what it asks of the variables lies ahead of K -/
structure BalP (hC : BalanceC) where
  K : Nat
  low : ∀ {a : Nat → Addr} {W : World}, hC.E a W → K ≤ W.heap.size
  rep : ∀ {S : Lh.Bl} {F : Nat → Prop} {p : Nat} {W : World}, hC.Rep S F p W → ∀ b, F b → K ≤ b
  tur : ∀ {a : Nat → Addr} {F : Nat → Prop} {W W' : World}, hC.E a W → Tur F W W' → (∀ b, F b → K ≤ b) → hC.E a W'
  errs : ∀ {a : Nat → Addr} {W : World}, hC.E a W → Errs a W
  x : ∀ {a : Nat → Addr} {W : World}, hC.E a W → hC.X a W

theorem evOf_is {a : Nat → Addr} {W : World} {c : Nat} {ev : Value} (h : EvOf a c ev) (hc : c ≤ 9) : ErrIs a W c (-1) ev := by
  rcases h with ⟨rfl, rfl⟩ | ⟨j, rfl, rfl⟩
  · exact Or.inl ⟨rfl, rfl, rfl⟩
  · exact Or.inr ⟨j, by omega, rfl, Or.inl ⟨rfl, rfl⟩⟩
theorem pickR_c {nw : List ByteArray → Nat → Nat → ByteArray} {S S' : Lh.Bl} {k : Nat} {now : Int} {s : ByteArray} {kept : Bool} {c : Nat} (h : PickR nw S k now S' s kept c) : c ≤ 9 := by
  rcases h with ⟨j, hf, _, _, _, rfl⟩ | ⟨_, _, _, rfl, _⟩ | ⟨_, _, _, _, _, rfl, _⟩ | ⟨_, _, _, _, _, rfl, _⟩
  · rcases hf with ⟨_, rfl⟩ | ⟨_, _, _, rfl⟩ <;> decide
  all_goals decide
theorem lookR_c {S S' : Lh.Bl} {s : ByteArray} {w t : Bool} {c : Nat} (h : LookR S s w S' t c) : c ≤ 9 := by
  rcases h with ⟨_, _, rfl, _⟩ | ⟨_, _, rfl, _⟩ <;> decide
theorem drainR_c {S S' : Lh.Bl} {s : ByteArray} {w : Bool} {c : Nat} (h : DrainR S s w S' c) : c ≤ 9 := by
  rcases h with ⟨_, rfl, _⟩ | ⟨_, rfl, _⟩ <;> decide
theorem exportR_c {S S' : Lh.Bl} {s : ByteArray} {c : Nat} (h : ExportR S S' s c) : c ≤ 9 := by
  rcases h with ⟨_, _, rfl, _⟩ | ⟨_, _, rfl, _⟩ <;> decide

theorem Tur.wideP {F G : Nat → Prop} {w w1 : World} (h : Tur F w w1) (hG : ∀ b, F b → G b) : Tur G w w1 := ⟨h.os, h.tape, h.output, h.size, fun k hk hf => h.block k hk fun hb => hf (hG k hb)⟩
theorem tur_setP (W : World) (g i : Nat) (v : Value) : Tur (fun b => b = g) W (W.setCell ⟨g, i, none⟩ v) :=
  ⟨rfl, rfl, rfl, by simp [World.setCell], fun j _ hf => heap_setCell_other W ⟨g, i, none⟩ j v fun e => hf e⟩
def DR.ptr (x : DR) (b : Bool) : Nat := if b then x.q else x.p
def DR.put (x : DR) (b : Bool) (S : Lh.Bl) (F : Nat → Prop) : DR := if b then { x with B := S, FB := F } else { x with A := S, FA := F }
section
variable {hC : BalanceC} {hB : BalP hC} {a : Nat → Addr} {g : Nat} {x y z : DR} {now : Int} {W W' W'' : World}
end
end Go.Proofs.YtfhmfjcpggddkaaGreatDoor

/- The landed script: its small functions. -/
namespace Go.Proofs.YtfhmfjcpggddkaaGreatDoor
open Go.RowKit Lh

theorem join_lib (y : List UInt8) : ∀ ws : List (List UInt8), Lib.join ws y = joinS y ws
  | [] => rfl
  | [w] => Lib.join_one w y
  | u :: v :: ws => by
    have h := join_lib y (v :: ws)
    rw [Lib.join_cons] at h ⊢
    show u ++ ((y ++ v) ++ Lib.joinTail y ws) = u ++ (y ++ joinS y (v :: ws))
    rw [← h, List.append_assoc]
theorem tx_bt (l : List UInt8) : tx (bt l) = l := rfl
/-- strings.Join of texts -/
theorem joinT_any (v : Value) (xs : List ByteArray) (y : ByteArray) (W : World) (hv : Strs1 W v xs) (hl : xs.length ≤ 1000) (hs : ∀ s ∈ xs, s.size ≤ 1000) (hy : y.size ≤ 10) :
    Calls Tryz.prog 42 #[v, .string y] W fun r w' => r = .returned (.string (bt (joinS (tx y) (xs.map tx)))) ∧ Below W.heap.size W w' := by
  have hlen : (joinS (tx y) (xs.map tx)).length ≤ 140737488355328 := by
    have h1 : ∀ x ∈ xs.map tx, x.length ≤ 1000 := by
      intro x hx
      obtain ⟨s, hs', rfl⟩ := List.mem_map.1 hx
      have h5 := hs s hs'
      rw [Lib.size_eq] at h5
      exact h5
    have h2 := joinS_len (y := tx y) h1
    have h3 : (tx y).length ≤ 10 := by
      have h5 := hy
      rw [Lib.size_eq] at h5
      exact h5
    rw [List.length_map] at h2
    have h4 : xs.length * (1000 + (tx y).length) ≤ 1000 * 1010 := Nat.mul_le_mul hl (by omega)
    omega
  rcases hv with ⟨rfl, rfl | ⟨ad, c, rfl⟩⟩ | ⟨b, o, c, rfl, hcap, hc⟩
  · exact (Any.strings_Join_none lays156 Builder_Extra_156 none 0 y W).mono fun e w' ⟨he, hw⟩ => ⟨he, hw ▸ Below.refl _ _⟩
  · exact (Any.strings_Join_none lays156 Builder_Extra_156 (some ad) c y W).mono fun e w' ⟨he, hw⟩ => ⟨he, hw ▸ Below.refl _ _⟩
  · by_cases h0 : xs = []
    · subst h0
      exact (Any.strings_Join_none lays156 Builder_Extra_156 (some ⟨b, o, none⟩) c y W).mono fun e w' ⟨he, hw⟩ => ⟨he, hw ▸ Below.refl _ _⟩
    · have e : Lib.join (xs.map (·.data.toList)) y.data.toList = joinS (tx y) (xs.map tx) := join_lib _ _
      have h := Any.strings_Join lays156 Builder_Extra_156 b o c xs y W (fun j s hj => by
        obtain ⟨hj', rfl⟩ := List.getElem?_eq_some_iff.1 hj
        exact hc j hj') (World.block_lt_of_cell? W _ (hc 0 (List.length_pos_iff.2 h0))) (by omega) hcap (by rw [e]; exact hlen)
      rw [e] at h
      exact h
theorem listed_any (v : Value) (xs : List ByteArray) (y : ByteArray) (W : World) (hv : Strs1 W v xs) (hl : xs.length ≤ 1000) (hs : ∀ s ∈ xs, s.size ≤ 1000) (hy : y.size ≤ 10) :
    Calls Tryz.prog 54 #[v, .string y] W fun r w' => r = .returned (.string (bt (joinedS (tx y) (xs.map tx)))) ∧ Below W.heap.size W w' := by
  obtain ⟨p, c, rfl, _⟩ := strs1_sl hv
  have hj := joinT_any _ xs y W hv hl hs hy
  by_cases h0 : xs = []
  · subst h0
    go_enter Tryz.func54, Tryz.ntmps54
    go_wp2
    go_ret
    exact ⟨rfl, Below.refl _ _⟩
  · have hp := List.length_pos_iff.2 h0
    have hne : ((xs.length : Int) == 0) = false := by rw [beq_eq_false_iff_ne]; omega
    have hne2 : ¬ xs.length = 0 := by omega
    have HR : Hid (joinedS (tx y) (xs.map tx) = joinS (tx y) (xs.map tx)) := by
      show _ = _
      unfold joinedS
      rw [if_neg (by simpa using h0)]
    clear h0 hp hs hv
    go_enter Tryz.func54, Tryz.ntmps54
    go_wp2_with fail
    refine hj.mono ?_
    rintro e w' ⟨rfl, hb⟩
    go_wp2
    go_ret
    exact ⟨by rw [HR.out]; rfl, hb⟩
theorem either_any (is : Bool) (x y : ByteArray) (W : World) : Calls Tryz.prog 49 #[.bool is, .string x, .string y] W fun e w' => e = .returned (.string (if is then x else y)) ∧ w' = W := by
  cases is
  · go_enter Tryz.func49, Tryz.ntmps49
    go_wp2
    go_ret
    exact ⟨rfl, rfl⟩
  · go_enter Tryz.func49, Tryz.ntmps49
    go_wp2
    go_ret
    exact ⟨rfl, rfl⟩
theorem digits_any {a : Nat → Addr} (n : Nat) (hn : n ≤ 9223372036854775807) (ev : Value) (w : World) (he : EC a w) : Calls Tryz.prog 36 #[.int .i64 (n : Nat), ev] w fun e w' => e = .returned (.tuple #[.string (bt (decL n)), ev]) ∧ Below w.heap.size w w' := by
  have h := itoa_any n hn w he
  go_enter Tryz.func36, Tryz.ntmps36
  go_wp2_with fail
  refine h.mono ?_
  rintro e w' ⟨rfl, hb⟩
  go_wp2
  go_ret2
  exact ⟨rfl, hb⟩
end Go.Proofs.YtfhmfjcpggddkaaGreatDoor

/- The landed script: what a command leaves. -/
namespace Go.Proofs.YtfhmfjcpggddkaaGreatDoor
open Go.RowKit Lh

/-- a text, or an error -/
def AnsE (a : Nat → Addr) (W' : World) (ans : List UInt8) (e : Ending) : Prop := ∃ tv ev c pl, e = .returned (.tuple #[.string tv, ev]) ∧ ErrIs a W' c pl ev ∧ ((c = 0 ∧ tv = bt ans) ∨ (c ≠ 0 ∧ ans = errT c ∧ Told (c - 1)))
theorem ansE_ok {a : Nat → Addr} {W' : World} {ans : List UInt8} {tv : ByteArray} (h : tv = bt ans) : AnsE a W' ans (.returned (.tuple #[.string tv, .nilIface])) := ⟨tv, .nilIface, 0, -1, rfl, Or.inl ⟨rfl, rfl, rfl⟩, Or.inl ⟨rfl, h⟩⟩
theorem ansE_err {a : Nat → Addr} {W' : World} {c : Nat} {pl : Int} {ev : Value} {tv : ByteArray} (h : ErrIs a W' c pl ev) (h0 : c ≠ 0) (ht : Told (c - 1)) : AnsE a W' (errT c) (.returned (.tuple #[.string tv, ev])) := ⟨tv, ev, c, pl, rfl, h, Or.inr ⟨h0, rfl, ht⟩⟩
theorem ansE_ev {a : Nat → Addr} {W' : World} {c : Nat} {ev : Value} {ans : List UInt8} {tv : ByteArray} (h : EvOf a c ev) (hc : c ≤ 9) (h7 : c ≠ 7) (h9 : c ≠ 9) (ht : c = 0 → tv = bt ans) : AnsE a W' (if c = 0 then ans else errT c) (.returned (.tuple #[.string tv, ev])) := by
  by_cases h0 : c = 0
  · rw [if_pos h0]
    exact ⟨tv, ev, c, -1, rfl, evOf_is h hc, Or.inl ⟨h0, ht h0⟩⟩
  · rw [if_neg h0]
    exact ⟨tv, ev, c, -1, rfl, evOf_is h hc, Or.inr ⟨h0, rfl, errTold hc h7 h9⟩⟩
/-- what a command leaves -/
def CmdE (w0 : World) (a : Nat → Addr) (p q m : Nat) (F : Nat → Prop) (st : Option Sc) (c : Cm) (W : World) (e : Ending) (W' : World) : Prop :=
  ∃ st' F' ans, CmR nwB st c st' ans ∧ AnsE a W' ans e ∧ PlC w0 a p q m F' W' ∧ PlIs st' F' p W' ∧ (∀ b, F' b → F b ∨ W.heap.size ≤ b) ∧ Tur (fun b => F b ∨ b = p) W W'
section
variable {w0 W wa W' : World} {a : Nat → Addr} {p q m r g cap : Nat} {F F' : Nat → Prop} {S : Sc}
theorem cmd_turned (hP : PlC w0 a p q m F W) (hY : PlY S F p r g cap W) (hn : S.hosts ≠ []) (hba : Below W.heap.size W wa) (hT : Tur F wa W') (hF : ∀ b, F' b → F b ∨ wa.heap.size ≤ b) {b' : Bl} (hR : RepB b' F' r W') :
    PlC w0 a p q m F' W' ∧ PlIs (some { S with b := b' }) F' p W' ∧ (∀ b, F' b → F b ∨ W.heap.size ≤ b) ∧ Tur (fun b => F b ∨ b = p) W W' := by
  have hpF : ¬ F p := fun h => (hP.F0 p h).2.1 rfl
  have hPa := hP.later hba
  have hYa := hY.later hpF hn hba
  have hT' : Tur (fun b => F b ∨ b = p) wa W' := hT.wideP fun b hb => Or.inl hb
  refine ⟨hPa.tur hT' hF fun k => (World.frozen?_of_block (w := wa) (w' := W') (a := ⟨p, k, none⟩) (hT.block p hPa.pl hpF)).trans (hPa.fz k), Or.inr ⟨_, r, g, cap, rfl, hYa.turned hpF hn hT hF hR⟩, fun b hb => ?_, (Tur.of_below hba).trans hT' fun b hb => Or.inl hb⟩
  rcases hF b hb with h | h
  · exact Or.inl h
  · exact Or.inr (Nat.le_trans hba.size h)
theorem cmd_below (hP : PlC w0 a p q m F W) (hY : PlY S F p r g cap W) (hn : S.hosts ≠ []) (hb : Below W.heap.size W W') :
    PlC w0 a p q m F W' ∧ PlIs (some S) F p W' ∧ (∀ b, F b → F b ∨ W.heap.size ≤ b) ∧ Tur (fun b => F b ∨ b = p) W W' :=
  ⟨hP.later hb, Or.inr ⟨S, r, g, cap, rfl, hY.later (fun h => (hP.F0 p h).2.1 rfl) hn hb⟩, fun _ h => Or.inl h, Tur.of_below hb⟩
end
theorem nums_at {W : World} {B : Nat} {vn : Value} {N : List Nat} (h : W.ownsRow B 3 1 vn N.length (N.map fun n => .int .i64 (n : Nat))) (hn : 0 < N.length) : ∃ nb cn, vn = .slice (some ⟨nb, 0, none⟩) N.length cn ∧ B ≤ nb ∧ N.length ≤ cn ∧ ∀ i (hi : i < N.length), W.cell? ⟨nb, i, none⟩ = some (.int .i64 (N[i] : Nat)) := by
  have hc := fun g => h.cells (g := g)
  rcases h.2 with ⟨_, h0⟩ | ⟨g, cap, cur, rfl, hb, _, hle, _⟩
  · omega
  · refine ⟨g, cap, rfl, hb, hle, fun i hi => ?_⟩
    have := hc g rfl i (.int .i64 (N[i] : Nat)) (by simp [hi])
    simpa [Lib.add_plain] using this
theorem hosts_at {W : World} {B : Nat} {vh : Value} {H : List ByteArray} (h : W.ownsRow B 9 1 vh H.length (H.map Value.string)) (hn : 0 < H.length) : ∃ hb ch, vh = .slice (some ⟨hb, 0, none⟩) H.length ch ∧ B ≤ hb ∧ H.length ≤ ch ∧ ∀ i (hi : i < H.length), W.cell? ⟨hb, i, none⟩ = some (.string H[i]) := by
  have hc := fun g => h.cells (g := g)
  rcases h.2 with ⟨_, h0⟩ | ⟨g, cap, cur, rfl, hb, _, hle, _⟩
  · omega
  · refine ⟨g, cap, rfl, hb, hle, fun i hi => ?_⟩
    have := hc g rfl i (.string H[i]) (by simp [hi])
    simpa [Lib.add_plain] using this
end Go.Proofs.YtfhmfjcpggddkaaGreatDoor

/- The landed script: commands, tick and up. -/
namespace Go.Proofs.YtfhmfjcpggddkaaGreatDoor
open Go.RowKit Lh

set_option maxHeartbeats 4000000 in
set_option maxRecDepth 100000 in
theorem cl_tick (w0 W : World) (a : Nat → Addr) (p q m : Nat) (F : Nat → Prop) (S : Sc) (r g cap j : Nat) (hP : PlC w0 a p q m F W) (hY : PlY S F p r g cap W) (hS : SB S j) (hj : j ≤ 100) (nb cn k : Nat) (vh : Value) (hk : W.cell? ⟨nb, 0, none⟩ = some (.int .i64 (k : Nat))) (hk9 : k ≤ 9999999) (hvh : ∃ x n c, vh = .slice x n c) :
    Calls Tryz.prog 52 #[.agg #[.slice (some ⟨nb, 0, none⟩) 1 cn, vh], .pointer (some ⟨q, 0, none⟩)] W (CmdE w0 a p q m F (some S) ⟨wTick, [], [k]⟩ W) := by
  obtain ⟨vx, vl, vc, rfl⟩ := hvh
  have hn := hS.ok.ne
  have hpF : ¬ F p := fun h => (hP.F0 p h).2.1 rfl
  obtain ⟨wa, hwa⟩ : ∃ wa, wa = W.alloc (.cells #[.slice (some ⟨nb, 0, none⟩) 1 cn, .slice vx vl vc] 83) := ⟨_, rfl⟩
  have hba : Below W.heap.size W wa := by rw [hwa]; exact (Below.refl _ _).alloc (Nat.le_refl _) _
  have hPa := hP.later hba
  have hYa := hY.later hpF hn hba
  have HBA : Hid (Below W.heap.size W wa) := hba
  have k0 : wa.cell? ⟨W.heap.size, 0, none⟩ = some (.slice (some ⟨nb, 0, none⟩) 1 cn) := by rw [hwa]; simp
  have k1 : wa.cell? ⟨W.heap.size, 1, none⟩ = some (.slice vx vl vc) := by rw [hwa]; simp
  have kq := hPa.q0
  have c0 := hYa.c0
  have c1 := hYa.c1
  have c2 := hYa.c2
  have nk := below_cell hba hk
  have fz := hPa.fz 2
  have h0 := hS.n0
  have h9 := hS.n9
  have hwr : IntKind.i64.wrap (S.now + (k : Int)) = S.now + (k : Int) := by
    rw [IntKind.wrap_i64]
    omega
  have HEND : Hid (CmdE w0 a p q m F (some S) ⟨wTick, [], [k]⟩ W (.returned (.tuple #[.string ⟨#[111, 107]⟩, .nilIface])) (wa.drew.setCell ⟨p, 2, none⟩ (.int .i64 (S.now + (k : Int))))) := by
    have hbd : Below wa.heap.size wa wa.drew := below_drewN (Below.refl _ _) 1
    have hPd := hPa.later hbd
    have hYd := hYa.later hpF hn hbd
    have hT : Tur (fun b => b = p) wa.drew (wa.drew.setCell ⟨p, 2, none⟩ (.int .i64 (S.now + (k : Int)))) := tur_setP _ p 2 _
    have hT2 : Tur (fun b => F b ∨ b = p) wa.drew (wa.drew.setCell ⟨p, 2, none⟩ (.int .i64 (S.now + (k : Int)))) := hT.wideP fun b hb => Or.inr hb
    have hgl := hYd.glt hn
    refine ⟨some { S with now := S.now + (k : Nat) }, F, tOk, Or.inr (Or.inr (Or.inr ⟨show wTick ≠ wHosts by decide, show wTick ≠ wJump by decide, S, rfl, Or.inl ⟨_, Or.inr (Or.inr (Or.inr (Or.inl ⟨rfl, k, rfl, rfl, rfl⟩))), rfl⟩⟩)), ansE_ok rfl, hPd.tur hT2 (fun _ h => Or.inl h) (fun i => by rw [World.frozen?_setCell]; exact hPd.fz i), Or.inr ⟨_, r, g, cap, rfl, ?_⟩, fun _ h => Or.inl h, (Tur.of_below (below_then hba hbd)).trans hT2 fun b hb => Or.inl hb⟩
    refine ⟨?_, ?_, World.cell?_setCell_same' _ _ _ (by rw [hYd.c2]; rfl), hYd.rep.stay fun b hf => hT.block b (hYd.rep.lt b hf) fun e => hpF (e ▸ hf), fun i hi => ?_, hYd.cp, hYd.gF, hYd.gp, hYd.gl⟩
    · rw [World.cell?_setCell_other _ _ _ _ (by simp)]
      exact hYd.c0
    · rw [World.cell?_setCell_other _ _ _ _ (by simp)]
      exact hYd.c1
    · exact foot_cellS hT hYd.gp (hYd.hst i hi)
  clear hP hY hPa hYa hS hba hk
  go_enter Tryz.func52, Tryz.ntmps52
  go_wp2_with fail
  rw [← hwa]
  clear hwa
  go_region
  go_wp2
  go_ret2
  exact HEND.out

set_option maxHeartbeats 4000000 in
set_option maxRecDepth 100000 in
theorem cl_up (w0 W : World) (a : Nat → Addr) (p q m : Nat) (F : Nat → Prop) (S : Sc) (r g cap j : Nat) (hP : PlC w0 a p q m F W) (hY : PlY S F p r g cap W) (hS : SB S j) (vn vh : Value) (hvn : ∃ x n c, vn = .slice x n c) (hvh : ∃ x n c, vh = .slice x n c) :
    Calls Tryz.prog 53 #[.agg #[vn, vh], .pointer (some ⟨q, 0, none⟩)] W (CmdE w0 a p q m F (some S) ⟨wUp, [], []⟩ W) := by
  obtain ⟨ux, ul, uc, rfl⟩ := hvn
  obtain ⟨vx, vl, vc, rfl⟩ := hvh
  have hn := hS.ok.ne
  have hpF : ¬ F p := fun h => (hP.F0 p h).2.1 rfl
  obtain ⟨wa, hwa⟩ : ∃ wa, wa = W.alloc (.cells #[.slice ux ul uc, .slice vx vl vc] 83) := ⟨_, rfl⟩
  have hba : Below W.heap.size W wa := by rw [hwa]; exact (Below.refl _ _).alloc (Nat.le_refl _) _
  have hPa := hP.later hba
  have hYa := hY.later hpF hn hba
  have HBA : Hid (Below W.heap.size W wa) := hba
  have k0 : wa.cell? ⟨W.heap.size, 0, none⟩ = some (.slice ux ul uc) := by rw [hwa]; simp
  have k1 : wa.cell? ⟨W.heap.size, 1, none⟩ = some (.slice vx vl vc) := by rw [hwa]; simp
  have kq := hPa.q0
  have c0 := hYa.c0
  have c1 := hYa.c1
  have c2 := hYa.c2
  have hu := up_bal S.b F r wa hYa.rep hS.ok.ok
  have hpm : ∀ s ∈ hups S.b.hs, s.size ≤ 1000 := fun s hs => by
    obtain ⟨x, hx, rfl⟩ : ∃ x ∈ S.b.hs, x.1 = s := by
      unfold hups at hs
      obtain ⟨x, hx, e⟩ := List.mem_map.1 hs
      exact ⟨x, (List.mem_filter.1 hx).1, e⟩
    have := (nm_word (hS.ok.ok.nm x hx)).2.2.2
    omega
  have hul : (hups S.b.hs).length ≤ 1000 := by
    have h1 := List.length_filter_le (fun x : Hh => x.2.1) S.b.hs
    have h2 := hS.ok.ok.h.len
    have h3 : (hups S.b.hs).length ≤ S.b.hs.length := by simpa [hups] using h1
    omega
  have HJ : Hid (∀ w' v, Strs1 w' v (hups S.b.hs) → Calls Tryz.prog 54 #[v, .string ⟨#[32]⟩] w' fun r w'' => r = .returned (.string (bt (joinedS [32] ((hups S.b.hs).map tx)))) ∧ Below w'.heap.size w' w'') := fun w' v hv => listed_any v _ ⟨#[32]⟩ w' hv hul hpm (by decide)
  have HEND : Hid (∀ w', Below wa.heap.size wa w' → CmdE w0 a p q m F (some S) ⟨wUp, [], []⟩ W (.returned (.tuple #[.string (bt (joinedS [32] ((hups S.b.hs).map tx))), .nilIface])) w') := fun w' hb => by
    obtain ⟨q1, q2, q3, q4⟩ := cmd_below hP hY hn (below_then hba hb)
    exact ⟨some S, F, _, Or.inr (Or.inr (Or.inr ⟨by decide, by decide, S, rfl, Or.inl ⟨_, Or.inr (Or.inr (Or.inr (Or.inr (Or.inl ⟨rfl, rfl, rfl⟩)))), rfl⟩⟩)), ansE_ok rfl, q1, q2, q3, q4⟩
  generalize bt (joinedS [32] ((hups S.b.hs).map tx)) = ans at *
  generalize hups S.b.hs = us at *
  clear hP hY hPa hYa hS hba hpm hul
  have kqW := kq
  have c0W := c0
  rw [hwa] at kqW c0W
  go_enter Tryz.func53, Tryz.ntmps53
  go_wp2_with fail
  rw [← hwa]
  clear hwa kqW c0W
  refine hu.mono ?_
  rintro e w1 ⟨v, rfl, hv, hb1⟩
  have hli := HJ.out w1 v hv
  obtain ⟨pv, cv, rfl, _⟩ := strs1_sl hv
  have HB1 : Hid (Below wa.heap.size wa w1) := hb1
  clear hu hv hb1
  go_wp2_with fail
  refine hli.mono ?_
  rintro e w2 ⟨rfl, hb2⟩
  have HB2 : Hid (Below w1.heap.size w1 w2) := hb2
  clear hli hb2
  go_wp2
  go_ret2
  exact HEND.out _ (below_then HB1.out HB2.out)
end Go.Proofs.YtfhmfjcpggddkaaGreatDoor
