/- The landed script: an error's text. -/
import Derived.Test.YtfhmfjcpggddkaaGreatDoorM4
import Derived.Test.YtfhmfjcpggddkaaGreatDoorM11
import Derived.Test.YtfhmfjcpggddkaaGreatDoorM6
import Derived.Test.YtfhmfjcpggddkaaGreatDoorM3
import Derived.Laws.Rows
import Derived.Test.YtfhmfjcpggddkaaGreatDoorM9
import Derived.Test.YtfhmfjcpggddkaaGreatDoorM5
import Derived.Deep.AppendLies
import Derived.Deep.RegionLaw
namespace Go.Proofs.YtfhmfjcpggddkaaGreatDoor
open Go.RowKit Lh

/-- the errors whose texts a script tells -/
def Told (j : Nat) : Prop := j = 0 ∨ j = 1 ∨ j = 2 ∨ j = 3 ∨ j = 4 ∨ j = 5 ∨ j = 7
def ErrT (a : Nat → Addr) (W : World) : Prop := ∀ j, Told j → W.cell? (a j) = some (.string (bt (errT (j + 1))))
theorem ErrT.later {a : Nat → Addr} {W W' : World} (h : ErrT a W) (hb : Below W.heap.size W W') : ErrT a W' := fun j hj => below_cell hb (h j hj)
theorem sent_error (x : Addr) (s : ByteArray) (W : World) (h : W.cell? x = some (.string s)) :
    Calls Tryz.prog 374 #[.pointer (some x)] W fun e W' => e = .returned (.string s) ∧ W' = W := by
  obtain ⟨b, o, pt⟩ := x
  go_enter Tryz.func374, Tryz.ntmps374
  go_wp2
  go_ret
  exact ⟨rfl, rfl⟩
theorem methodE (x : Value) (w : World) : (method 516 378 x "Error").run Tryz.prog w = .ok (374, x) w := by kernel_rfl
theorem methodF (x : Value) (w : World) : (method 516 103 x "Error").run Tryz.prog w = .ok (343, x) w := by kernel_rfl
theorem fault_error (b : Nat) (x : Addr) (s : ByteArray) (W : World) (h1 : W.cell? ⟨b, 1, none⟩ = some (.iface 378 (.pointer (some x)))) (h : W.cell? x = some (.string s)) :
    Calls Tryz.prog 343 #[.pointer (some ⟨b, 0, none⟩)] W fun e W' => e = .returned (.string s) ∧ W' = W := by
  have hs := sent_error x s W h
  have hi := methodE
  go_enter Tryz.func343, Tryz.ntmps343
  go_wp2_with fail
  refine hs.mono ?_
  rintro e w' ⟨rfl, rfl⟩
  go_wp2
  go_ret
  exact ⟨rfl, rfl⟩
theorem errTold {c : Nat} (h : c ≤ 9) (h7 : c ≠ 7) (h9 : c ≠ 9) : Told (c - 1) := by
  unfold Told
  omega
end Go.Proofs.YtfhmfjcpggddkaaGreatDoor

/- The landed script: readNumber. -/
namespace Go.Proofs.YtfhmfjcpggddkaaGreatDoor
open Go.RowKit
theorem Lh.numW_long {s : List UInt8} (h : ¬ s.length ≤ 7) : Lh.numW s = none := by
  unfold Lh.numW
  rw [if_pos (by omega)]
theorem Lh.numW_short {s : List UInt8} (h : s.length ≤ 7) : Lh.numW s = Lh.numL s := by
  unfold Lh.numW
  rw [if_neg (by omega)]
set_option maxHeartbeats 2000000 in
set_option maxRecDepth 100000 in
/-- readNumber: a number as the document has it, or none. -/
theorem readNum_any {a : Nat → Addr} (s : List UInt8) (hs : s.length ≤ 100000) (w : World) (he : EC a w) :
    Calls Tryz.prog 217 #[.string (Lh.bt s)] w fun e w' => Below w.heap.size w w' ∧
      ((∃ m : Nat, Lh.numW s = some m ∧ e = .returned (.tuple #[.int .i64 (m : Nat), .bool true])) ∨ (Lh.numW s = none ∧ ∃ x, e = .returned (.tuple #[.int .i64 x, .bool false]))) := by
  have ha := atoi_any s hs w he
  have HE : Hid (EC a w) := he
  have hsz : (Lh.bt s).size = s.length := by simp [Lh.bt, ByteArray.size]
  clear he
  go_enter Tryz.func217, Tryz.ntmps217
  go_wp2_with fail
  refine ha.mono ?_
  rintro e w1 ⟨hb1, ⟨v, hv, rfl⟩ | ⟨hn, x, t, p, rfl⟩⟩
  case inr =>
    have hnone : Lh.numW s = none := by
      unfold Lh.numW
      split
      · rfl
      · cases h : Lh.numL s with
        | none => rfl
        | some m => exact absurd (Lh.atoi_num h).1 (hn _)
    clear ha hn
    go_wp2
    go_ret2
    exact ⟨hb1, Or.inr ⟨hnone, _, rfl⟩⟩
  clear ha
  by_cases hv0 : 0 ≤ v
  case neg =>
    have hn : Lh.numW s = none := by
      unfold Lh.numW
      split
      · rfl
      · cases h : Lh.numL s with
        | none => rfl
        | some m =>
          have := (Lh.atoi_num h).1
          rw [hv] at this
          injection this with this
          omega
    have hd : decide (0 ≤ v) = false := by simp; omega
    have HN : Hid (Lh.numW s = none) := hn
    clear hv hn
    go_wp2_with fail
    go_ret2
    exact ⟨hb1, Or.inr ⟨HN.out, _, rfl⟩⟩
  by_cases h7 : s.length ≤ 7
  case neg =>
    have HN : Hid (Lh.numW s = none) := Lh.numW_long h7
    have hsl : decide ((s.length : Int) ≤ 7) = false := by simp; omega
    clear hv h7
    go_wp2_with fail
    go_ret2
    exact ⟨hb1, Or.inr ⟨HN.out, _, rfl⟩⟩
  have hns := Lh.numW_short h7
  cases hn : Lh.numL s with
  | some m =>
    have HNS : Hid (Lh.numW s = some m) := hns.trans hn
    obtain ⟨q1, q2, q3, q4⟩ := Lh.atoi_num hn
    obtain rfl : v = (m : Int) := by
      rw [q1] at hv
      cases hv
      rfl
    have hq : Lh.decL m = s := by rw [← Lh.itoa_dec]; exact q3
    have hi := itoa_any m (by omega) w1 (HE.out.later hb1)
    rw [hq] at hi
    have hsl : (s.length : Int) ≤ 7 := by omega
    have heq : ((Lh.bt s).toList == (Lh.bt s).toList) = true := by simp
    clear hv q1 q2 q3 q4 hn hq hns h7 hv0
    go_wp2_with (first | (go_at_call 87; refine hi.mono ?_; rintro e w2 ⟨rfl, hb2⟩))
    go_ret2
    exact ⟨below_then hb1 hb2, Or.inl ⟨m, HNS.out, rfl⟩⟩
  | none =>
    have HNN : Hid (Lh.numW s = none) := hns.trans hn
    have hne := Lh.atoi_none hn hv0 (by omega)
    obtain ⟨n, rfl⟩ := Int.eq_ofNat_of_zero_le hv0
    have hnb : n ≤ 9223372036854775807 := by
      have := Lib.atoiAll_bounds hv
      omega
    rw [Lh.itoa_dec] at hne
    have hi := itoa_any n hnb w1 (HE.out.later hb1)
    have hsl : (s.length : Int) ≤ 7 := by omega
    have heq : ((Lh.bt (Lh.decL n)).toList == (Lh.bt s).toList) = false := by
      rw [Lh.bt_list, Lh.bt_list, beq_eq_false_iff_ne]
      exact hne
    clear hv hn hne hns h7
    go_wp2_with (first | (go_at_call 87; refine hi.mono ?_; rintro e w2 ⟨rfl, hb2⟩))
    go_ret2
    exact ⟨below_then hb1 hb2, Or.inr ⟨HNN.out, _, rfl⟩⟩
end Go.Proofs.YtfhmfjcpggddkaaGreatDoor

/- A block of the call's own that is a row of numbers. -/
namespace Go.Proofs.YtfhmfjcpggddkaaGreatDoor
open Go.RowKit

/-- Block g of w is a row of numbers, whole. -/
def IntRow (w : World) (g : Nat) (xs : List Int) : Prop := w.heap[g]? = some (.cells (xs.map (Value.int .i64)).toArray 3 (0, 0))
section
variable {w w' : World} {g : Nat} {xs : List Int}
theorem IntRow.cell (h : IntRow w g xs) {k : Nat} (hk : k < xs.length) : w.cell? ⟨g, k, none⟩ = some (.int .i64 xs[k]) := by
  rw [cell_of_row w g k _ _ _ h]
  simp [hk]
theorem IntRow.frozen (h : IntRow w g xs) (k : Nat) : w.frozen? ⟨g, k, none⟩ = false := frozen_of_row w g k _ _ h
theorem IntRow.set (h : IntRow w g xs) (k : Nat) (v : Int) : IntRow (w.setCell ⟨g, k, none⟩ (.int .i64 v)) g (xs.set k v) := by
  have := heap_setCell_same w g k _ _ (.int .i64 v) h
  unfold IntRow
  rw [this]
  simp [List.map_set]
theorem IntRow.same (h : IntRow w g xs) (he : w'.heap[g]? = w.heap[g]?) : IntRow w' g xs := by
  unfold IntRow
  rw [he]
  exact h
theorem IntRow.lt (h : IntRow w g xs) : g < w.heap.size := (Array.getElem?_eq_some_iff.1 h).1
theorem IntRow.later (h : IntRow w g xs) (hb : Below w.heap.size w w') : IntRow w' g xs := h.same (hb.block g h.lt)
theorem IntRow.of_owns {base n : Nat} (h : w.ownsRow base 3 1 (.slice (some ⟨g, 0, none⟩) n n) n (xs.map (Value.int .i64))) : IntRow w g xs := by
  rcases h.2 with ⟨h', _⟩ | ⟨g', cap', cur, h', _, hg, _, _, hcs, ht⟩
  · simp at h'
  · simp only [Value.slice.injEq, Option.some.injEq, Addr.mk.injEq, and_true, true_and] at h'
    obtain ⟨rfl, rfl⟩ := h'
    unfold IntRow
    rw [hg, ← ht, List.take_of_length_le (by simp; omega)]
end
theorem infoI : (Tryz.prog.info? 3).map (fun i => (i.zero, i.size, i.bytes)) = some (some (.int .i64 0), 1, 8) := by kernel_rfl
theorem made_ints2 (n : Nat) : (madeCells #[Value.int .i64 0] n).toList = (List.replicate n (0 : Int)).map (Value.int .i64) := by
  rw [toList_madeCells_one]
  simp
end Go.Proofs.YtfhmfjcpggddkaaGreatDoor

/- The model of health in memory; Find and IsUp. -/
namespace Go.Proofs.YtfhmfjcpggddkaaGreatDoor
open Go.RowKit

/-- a host of the model: its name, whether it is up, its looks since it turned, the slice that holds them -/
structure Mh where
  name : ByteArray
  up : Bool
  looks : List Bool
  val : Value
/-- how many of the other kind are at the end -/
def trail (up : Bool) (looks : List Bool) : Nat := (looks.reverse.takeWhile fun b => b != up).length
def Mh.st (x : Mh) : Lh.Hh := (x.name, x.up, trail x.up x.looks)
def hst (L : List Mh) : List Lh.Hh := L.map Mh.st
theorem owns_same {w w' : World} {base : Nat} {e : TypeId} {size : Nat} {v : Value} {n : Nat} {xs : List Value} (h : w.ownsRow base e size v n xs) (he : ∀ g, v.ownBlock = some g → w'.heap[g]? = w.heap[g]?) : w'.ownsRow base e size v n xs := by
  obtain ⟨h1, h2 | ⟨g, cap, cur, rfl, e2, e3, e4⟩⟩ := h
  · exact ⟨h1, Or.inl h2⟩
  · exact ⟨h1, Or.inr ⟨g, cap, cur, rfl, e2, (he g rfl).trans e3, e4⟩⟩
/-- the number that Find answers -/
def fi (l : List Lh.Hh) (s : ByteArray) : Int := if Lh.hix l s < l.length then ((Lh.hix l s : Nat) : Int) else -1
theorem fi_at {l : List Lh.Hh} {s : ByteArray} {k : Nat} (hk : k < l.length) (hp : ∀ j (h : j < l.length), j < k → (l[j]).1 ≠ s) (he : (l[k]).1 = s) : Lh.hix l s = k := by
  have h1 : Lh.hix l s < l.length := Lh.hix_lt.2 ⟨_, List.getElem_mem hk, he⟩
  rcases Nat.lt_trichotomy (Lh.hix l s) k with h | h | h
  · exact absurd (Lh.hix_get h1) (hp _ h1 h)
  · exact h
  · exact absurd he (Lh.hix_first hk h)

end Go.Proofs.YtfhmfjcpggddkaaGreatDoor

/- The model of health: Find, IsUp and Ups. -/
namespace Go.Proofs.YtfhmfjcpggddkaaGreatDoor
open Go.RowKit

theorem hup_at {l : List Lh.Hh} {s : ByteArray} (hn : (l.map fun x => x.1).Nodup) (h : Lh.hix l s < l.length) : Lh.hup l s = (l[Lh.hix l s]).2.1 := by
  have h1 := Lh.hix_get h
  cases e : (l[Lh.hix l s]).2.1 with
  | true =>
    unfold Lh.hup
    rw [List.any_eq_true]
    exact ⟨_, List.getElem_mem h, by simp [h1, e]⟩
  | false =>
    unfold Lh.hup
    rw [List.any_eq_false]
    intro x hx hc
    simp only [Bool.and_eq_true, decide_eq_true_eq] at hc
    obtain ⟨j, hj, rfl⟩ := List.getElem_of_mem hx
    have h2 : j = Lh.hix l s := by
      have h3 : (l.map fun x => x.1)[j]'(by simpa using hj) = (l.map fun x => x.1)[Lh.hix l s]'(by simpa using h) := by
        simp only [List.getElem_map]
        rw [hc.1, h1]
      exact (List.getElem_inj hn).1 h3
    subst h2
    rw [e] at hc
    cases hc.2
theorem hup_none {l : List Lh.Hh} {s : ByteArray} (h : ¬ Lh.hix l s < l.length) : Lh.hup l s = false := by
  unfold Lh.hup
  rw [List.any_eq_false]
  intro x hx hc
  simp only [Bool.and_eq_true, decide_eq_true_eq] at hc
  exact h (Lh.hix_lt.2 ⟨x, hx, hc.1⟩)

end Go.Proofs.YtfhmfjcpggddkaaGreatDoor

/- The model of health: NewHealth. -/
namespace Go.Proofs.YtfhmfjcpggddkaaGreatDoor
open Go.RowKit

theorem howns_setCell {w : World} {base : Nat} {e : TypeId} {size : Nat} {v : Value} {n : Nat} {xs : List Value} (h : w.ownsRow base e size v n xs) {x k : Nat} (hx : x < base) (u : Value) : (w.setCell ⟨x, k, none⟩ u).ownsRow base e size v n xs := by
  refine h.kept (row := some x) ⟨rfl, rfl, rfl, by simp [World.setCell], fun j _ hne => heap_setCell_other w ⟨x, k, none⟩ j u (fun e => hne (by rw [e]))⟩ ?_
  cases hv : v.ownBlock with
  | none => exact Or.inl rfl
  | some g =>
    have := (h.lt g hv).1
    exact Or.inr (fun e => by cases e; omega)
end Go.Proofs.YtfhmfjcpggddkaaGreatDoor

/- The model of health: Remove. -/
namespace Go.Proofs.YtfhmfjcpggddkaaGreatDoor
open Go.RowKit

theorem own_shape {w : World} {base : Nat} {e : TypeId} {size n : Nat} {v : Value} {xs : List Value} (h : w.ownsRow base e size v n xs) : ∃ p cap, v = .slice p n cap := by
  obtain ⟨h1, ⟨rfl, rfl⟩ | ⟨g, cap, cur, rfl, _⟩⟩ := h
  · exact ⟨_, _, rfl⟩
  · exact ⟨_, _, rfl⟩
end Go.Proofs.YtfhmfjcpggddkaaGreatDoor

/- The landed script: words taken, each of its kind. -/
namespace Go.Proofs.YtfhmfjcpggddkaaGreatDoor
open Go.RowKit Lh

/-- words taken so far, in memory: block wb is the struct -/
structure WS (W : World) (wb : Nat) (vn vh : Value) (N : List Nat) (H : List ByteArray) : Prop where
  c0 : W.cell? ⟨wb, 0, none⟩ = some vn
  c1 : W.cell? ⟨wb, 1, none⟩ = some vh
  fz : ∀ k, W.frozen? ⟨wb, k, none⟩ = false
  on : W.ownsRow (wb + 1) 3 1 vn N.length (N.map fun n => .int .i64 (n : Nat))
  oh : W.ownsRow (wb + 1) 9 1 vh H.length (H.map Value.string)
  ap : ∀ g, vn.ownBlock = some g → vh.ownBlock = some g → False
section
variable {W W2 w1 : World} {wb : Nat} {vn vh : Value} {N : List Nat} {H : List ByteArray}
theorem WS.lt (h : WS W wb vn vh N H) : wb < W.heap.size := World.block_lt_of_cell? W _ h.c0
theorem WS.later {W' : World} (h : WS W wb vn vh N H) (hb : Below W.heap.size W W') : WS W' wb vn vh N H :=
  ⟨below_cell hb h.c0, below_cell hb h.c1, fun k => (World.frozen?_of_block (w := W) (w' := W') (a := ⟨wb, k, none⟩) (hb.block wb h.lt)).trans (h.fz k), ownsRow_below h.on hb, ownsRow_below h.oh hb, h.ap⟩
/-- a host more -/
theorem WS.host (h : WS W wb vn vh N H) (s : ByteArray) (hB : Below W.heap.size W W2) {g cap : Nat}
    (hown : w1.ownsRow (wb + 1) 9 1 (.slice (some ⟨g, 0, none⟩) (H.length + 1) cap) (H.length + 1) (H.map Value.string ++ [.string s])) (hgr : W2.grownBy w1 vh.ownBlock) (hat : vh.ownBlock = some g ∨ g = W2.heap.size) :
    WS (w1.setCell ⟨wb, 1, none⟩ (.slice (some ⟨g, 0, none⟩) (H.length + 1) cap)) wb vn (.slice (some ⟨g, 0, none⟩) (H.length + 1) cap) N (H ++ [s]) ∧ Below wb W (w1.setCell ⟨wb, 1, none⟩ (.slice (some ⟨g, 0, none⟩) (H.length + 1) cap)) := by
  have hl := h.lt
  have hs2 := hB.size
  have hnw : ∀ k, k ≤ wb → some k ≠ vh.ownBlock := fun k hk e => by
    have := (h.oh.lt k e.symm).1
    omega
  have hpb : w1.heap[wb]? = W.heap[wb]? := (hgr.block wb (by omega) (hnw wb (Nat.le_refl _))).trans (hB.block wb hl)
  have hon2 := ownsRow_below h.on hB
  have hon1 : w1.ownsRow (wb + 1) 3 1 vn N.length (N.map fun n => .int .i64 (n : Nat)) := hon2.kept hgr (by
    cases hq : vn.ownBlock with
    | none => exact Or.inl rfl
    | some k => exact Or.inr fun e => h.ap k hq e.symm)
  have k0 : w1.cell? ⟨wb, 0, none⟩ = some vn := (World.cell?_of_block (w := W) (w' := w1) (a := ⟨wb, 0, none⟩) hpb).trans h.c0
  have k1 : w1.cell? ⟨wb, 1, none⟩ = some vh := (World.cell?_of_block (w := W) (w' := w1) (a := ⟨wb, 1, none⟩) hpb).trans h.c1
  have hsz : w1.heap.size = (w1.setCell ⟨wb, 1, none⟩ (.slice (some ⟨g, 0, none⟩) (H.length + 1) cap)).heap.size := by simp [World.setCell]
  refine ⟨⟨?_, ?_, fun k => ?_, howns_setCell hon1 (Nat.lt_succ_self _) _, ?_, fun k hk1 hk2 => ?_⟩, ⟨hgr.os.trans hB.os, hgr.tape.trans hB.tape, hgr.output.trans hB.output, by have := hgr.size; omega, fun k hk => ?_⟩⟩
  · rw [World.cell?_setCell_other _ _ _ _ (by simp)]
    exact k0
  · exact World.cell?_setCell_same' _ _ _ (by rw [k1]; rfl)
  · rw [World.frozen?_setCell]
    exact (World.frozen?_of_block (w := W) (w' := w1) (a := ⟨wb, k, none⟩) hpb).trans (h.fz k)
  · have := howns_setCell (k := 1) hown (Nat.lt_succ_self wb) (.slice (some ⟨g, 0, none⟩) (H.length + 1) cap)
    rw [List.length_append, List.map_append]
    exact this
  · have hk2 : g = k := by simpa [Value.ownBlock] using hk2
    subst hk2
    rcases hat with q | q
    · exact h.ap _ hk1 q
    · have := (hon2.lt _ hk1).2
      omega
  · rw [heap_setCell_other w1 ⟨wb, 1, none⟩ k _ (fun e => by simp only at e; omega), hgr.block k (by omega) (hnw k (by omega)), hB.block k (by omega)]
/-- a number more -/
theorem WS.num (h : WS W wb vn vh N H) (x : Nat) (hB : Below W.heap.size W W2) {g cap : Nat}
    (hown : w1.ownsRow (wb + 1) 3 1 (.slice (some ⟨g, 0, none⟩) (N.length + 1) cap) (N.length + 1) ((N.map fun n => Value.int .i64 (n : Nat)) ++ [.int .i64 (x : Nat)])) (hgr : W2.grownBy w1 vn.ownBlock) (hat : vn.ownBlock = some g ∨ g = W2.heap.size) :
    WS (w1.setCell ⟨wb, 0, none⟩ (.slice (some ⟨g, 0, none⟩) (N.length + 1) cap)) wb (.slice (some ⟨g, 0, none⟩) (N.length + 1) cap) vh (N ++ [x]) H ∧ Below wb W (w1.setCell ⟨wb, 0, none⟩ (.slice (some ⟨g, 0, none⟩) (N.length + 1) cap)) := by
  have hl := h.lt
  have hs2 := hB.size
  have hnw : ∀ k, k ≤ wb → some k ≠ vn.ownBlock := fun k hk e => by
    have := (h.on.lt k e.symm).1
    omega
  have hpb : w1.heap[wb]? = W.heap[wb]? := (hgr.block wb (by omega) (hnw wb (Nat.le_refl _))).trans (hB.block wb hl)
  have hon2 := ownsRow_below h.oh hB
  have hon1 : w1.ownsRow (wb + 1) 9 1 vh H.length (H.map Value.string) := hon2.kept hgr (by
    cases hq : vh.ownBlock with
    | none => exact Or.inl rfl
    | some k => exact Or.inr fun e => h.ap k e.symm hq)
  have k0 : w1.cell? ⟨wb, 0, none⟩ = some vn := (World.cell?_of_block (w := W) (w' := w1) (a := ⟨wb, 0, none⟩) hpb).trans h.c0
  have k1 : w1.cell? ⟨wb, 1, none⟩ = some vh := (World.cell?_of_block (w := W) (w' := w1) (a := ⟨wb, 1, none⟩) hpb).trans h.c1
  have hsz : w1.heap.size = (w1.setCell ⟨wb, 0, none⟩ (.slice (some ⟨g, 0, none⟩) (N.length + 1) cap)).heap.size := by simp [World.setCell]
  refine ⟨⟨?_, ?_, fun k => ?_, ?_, howns_setCell hon1 (Nat.lt_succ_self _) _, fun k hk1 hk2 => ?_⟩, ⟨hgr.os.trans hB.os, hgr.tape.trans hB.tape, hgr.output.trans hB.output, by have := hgr.size; omega, fun k hk => ?_⟩⟩
  · exact World.cell?_setCell_same' _ _ _ (by rw [k0]; rfl)
  · rw [World.cell?_setCell_other _ _ _ _ (by simp)]
    exact k1
  · rw [World.frozen?_setCell]
    exact (World.frozen?_of_block (w := W) (w' := w1) (a := ⟨wb, k, none⟩) hpb).trans (h.fz k)
  · have := howns_setCell (k := 0) hown (Nat.lt_succ_self wb) (.slice (some ⟨g, 0, none⟩) (N.length + 1) cap)
    rw [List.length_append, List.map_append]
    exact this
  · have hk1 : g = k := by simpa [Value.ownBlock] using hk1
    subst hk1
    rcases hat with q | q
    · exact h.ap _ q hk2
    · have := (hon2.lt _ hk2).2
      omega
  · rw [heap_setCell_other w1 ⟨wb, 0, none⟩ k _ (fun e => by simp only at e; omega), hgr.block k (by omega) (hnw k (by omega)), hB.block k (by omega)]
end
/-- a word taken, of kind k -/
def stepW (k : Nat) (x : List UInt8) (A : List Nat × List ByteArray) : Option (List Nat × List ByteArray) :=
  if k = 72 then (if isNm (bt x) = true then some (A.1, A.2 ++ [bt x]) else none)
  else match numW x with
    | some n => if k = 78 ∨ n ≤ 1 then some (A.1 ++ [n], A.2) else none
    | none => none
theorem fault_single {s : ByteArray} : (isNm s = true ∧ IsFault [s] 0 (-1)) ∨ (isNm s = false ∧ IsFault [s] 4 0) := by
  cases h : isNm s with
  | true =>
    refine Or.inl ⟨rfl, Or.inr (Or.inr ⟨by simp, fun j hj => ?_, rfl, rfl⟩)⟩
    have : j = 0 := by simpa using hj
    subst this
    exact ⟨h, rfl⟩
  | false => exact Or.inr ⟨rfl, Or.inr (Or.inl ⟨by simp, 0, by simp, fun j hj => absurd hj (by omega), rfl, Or.inl ⟨h, rfl⟩⟩)⟩

theorem cellsW {w : World} {b : Nat} {v : Value} (h : w.cell? ⟨b, 0, none⟩ = some v) : ∀ j u, [v][j]? = some u → w.cell? ((⟨b, 0, none⟩ : Addr).add j) = some u := by
  intro j u hu
  cases j with
  | zero =>
    obtain rfl : v = u := by simpa using hu
    exact h
  | succ j => simp at hu
theorem strs_single (w : World) (b : Nat) (x : ByteArray) (h : w.cell? ⟨b, 0, none⟩ = some (.string x)) : Strs w (.slice (some ⟨b, 0, none⟩) 1 1) [x] := Or.inr ⟨b, 0, 1, rfl, Nat.le_refl _, fun k hk => by
  have : k = 0 := by simpa using hk
  subst this
  exact h⟩
set_option maxHeartbeats 4000000 in
theorem take_host (a : Nat → Addr) {wb : Nat} {vn vh : Value} {N : List Nat} {H : List ByteArray} (x : List UInt8) (hx : x.length ≤ 5000) (W0 W : World) (h4 : Errs4 a W0) (h0 : W0.heap.size ≤ wb) (hb0 : Below W0.heap.size W0 W) (h : WS W wb vn vh N H) (hH : H.length ≤ 10000) :
    Calls Tryz.prog 167 #[.pointer (some ⟨wb, 0, none⟩), .int .u8 72, .string (bt x)] W fun e W' => Below W0.heap.size W0 W' ∧ ((∃ N' H' vn' vh', stepW 72 x (N, H) = some (N', H') ∧ e = .returned (.bool true) ∧ WS W' wb vn' vh' N' H') ∨ (stepW 72 x (N, H) = none ∧ e = .returned (.bool false))) := by
  obtain ⟨i0, hi0, hz0, hz1, hz2⟩ := info_parts infoS
  obtain ⟨pv, cv, rfl⟩ := own_shape h.oh
  have HW : Hid (WS W wb vn (.slice pv H.length cv) N H) := h
  have HE : Hid (Errs4 a W0) := h4
  have HB0 : Hid (Below W0.heap.size W0 W) := hb0
  have c1 := h.c1
  have hl := h.lt
  have hown := h.oh.alloc (.cells #[.string (bt x)] 9)
  have hbA : Below W.heap.size W (W.alloc (.cells #[.string (bt x)] 9)) := (Below.refl _ _).alloc (Nat.le_refl _) _
  have hnews := cellsW (w := W.alloc (.cells #[.string (bt x)] 9)) (b := W.heap.size) (v := .string (bt x)) (by simp)
  have hmax : H.length + 1 ≤ maxLen := by unfold maxLen; omega
  have hszA : (W.alloc (.cells #[.string (bt x)] 9)).heap.size = W.heap.size + 1 := by simp
  have hbs : wb + 1 ≤ (W.alloc (.cells #[.string (bt x)] 9)).heap.size := by rw [hszA]; omega
  clear h h4 hb0
  go_enter Tryz.func167, Tryz.ntmps167
  go_wp2_with (at_builtin; refine wpList_append_lies _ rfl _ _ 22 rfl (wb + 1) 9 i0 _ 1 16 Tryz.underlying22 hi0 hz0 hz1 hz2 rfl (by decide) (.slice pv H.length cv) H.length (H.map Value.string) rfl hown ⟨W.heap.size, 0, none⟩ 1 1 [.string (bt x)] rfl rfl hnews (fun u hu => by simp at hu; subst hu; rfl) (by decide) hmax (by omega) hbs _ rfl ?_)
  intro g cap w1 hown1 hgr hat _
  obtain ⟨hW2, hb2⟩ := HW.out.host (bt x) hbA hown1 hgr (by rw [hszA]; exact hat)
  have hpb : w1.heap[wb]? = W.heap[wb]? := (hgr.block wb (by omega) (fun e => by have := (HW.out.oh.lt wb e.symm).1; omega)).trans (hbA.block wb hl)
  have k1 : w1.cell? ⟨wb, 1, none⟩ = some (.slice pv H.length cv) := (World.cell?_of_block (w := W) (w' := w1) (a := ⟨wb, 1, none⟩) hpb).trans HW.out.c1
  have f1 : w1.frozen? ⟨wb, 1, none⟩ = false := (World.frozen?_of_block (w := W) (w' := w1) (a := ⟨wb, 1, none⟩) hpb).trans (HW.out.fz 1)
  obtain ⟨w2, hw2⟩ : ∃ w2, w2 = w1.setCell ⟨wb, 1, none⟩ (.slice (some ⟨g, 0, none⟩) (H.length + 1) cap) := ⟨_, rfl⟩
  have hs2 : w1.heap.size = w2.heap.size := by rw [hw2]; simp [World.setCell]
  rw [← hw2] at hW2 hb2
  have hb02 : Below W0.heap.size W0 w2 := HB0.out.trans (hb2.mono h0)
  have hck : ∀ c pl, IsFault [bt x] c pl → Calls Tryz.prog 137 #[.slice (some ⟨w2.heap.size, 0, none⟩) 1 1] (w2.alloc (.cells #[.string (bt x)] 9)) fun e w' => ∃ ev, e = .returned ev ∧ ErrIs a w' c pl ev ∧ Below (w2.alloc (.cells #[.string (bt x)] 9)).heap.size (w2.alloc (.cells #[.string (bt x)] 9)) w' := fun c pl hf =>
    check_any4 a _ [bt x] _ c pl ((HE.out.later hb02).later ((Below.refl _ _).alloc (Nat.le_refl _) _)) (strs_single _ _ _ (by simp)) hf (fun k hk => by
      have : k = 0 := by simpa using hk
      subst this
      show (bt x).size ≤ 1000000
      simp [Lh.bt, ByteArray.size]
      omega) (by simp)
  have HCK : Hid (∀ c pl, IsFault [bt x] c pl → Calls Tryz.prog 137 #[.slice (some ⟨w2.heap.size, 0, none⟩) 1 1] (w2.alloc (.cells #[.string (bt x)] 9)) fun e w' => ∃ ev, e = .returned ev ∧ ErrIs a w' c pl ev ∧ Below (w2.alloc (.cells #[.string (bt x)] 9)).heap.size (w2.alloc (.cells #[.string (bt x)] 9)) w') := hck
  have HW2 : Hid (WS w2 wb vn (.slice (some ⟨g, 0, none⟩) (H.length + 1) cap) N (H ++ [bt x])) := hW2
  have HB2 : Hid (Below W0.heap.size W0 w2) := hb02
  have HEQ : Hid (w2 = w1.setCell ⟨wb, 1, none⟩ (.slice (some ⟨g, 0, none⟩) (H.length + 1) cap)) := hw2
  have HS2 : Hid (w1.heap.size = w2.heap.size) := hs2
  clear hck hW2 hb2 hb02 hown1 hgr hat hpb hown hnews hmax hszA hbs hbA c1 hw2 hs2
  go_wp2_with fail
  rw [← HEQ.out, HS2.out]
  have hbA2 : Below w2.heap.size w2 (w2.alloc (.cells #[.string (bt x)] 9)) := (Below.refl _ _).alloc (Nat.le_refl _) _
  rcases fault_single (s := bt x) with ⟨hn, hf⟩ | ⟨hn, hf⟩
  · have HN : Hid (stepW 72 x (N, H) = some (N, H ++ [bt x])) := by
      show _ = _
      unfold stepW
      rw [if_pos rfl, if_pos hn]
    refine (HCK.out _ _ hf).mono ?_
    rintro e w3 ⟨ev, rfl, hev, hb3⟩
    obtain rfl : ev = .nilIface := by
      rcases hev with ⟨_, _, h⟩ | ⟨i, _, h, _⟩
      · exact h
      · omega
    have hbT := below_then hbA2 hb3
    have HB3 : Hid (Below w2.heap.size w2 w3) := hbT
    clear hev hb3 hbT hbA2 hf hn HEQ HS2
    go_wp2
    go_ret
    exact ⟨below_then HB2.out HB3.out, Or.inl ⟨_, _, _, _, HN.out, rfl, HW2.out.later HB3.out⟩⟩
  · have HN : Hid (stepW 72 x (N, H) = none) := by
      show _ = _
      unfold stepW
      rw [if_pos rfl, if_neg (by rw [hn]; decide)]
    refine (HCK.out _ _ hf).mono ?_
    rintro e w3 ⟨ev, rfl, hev, hb3⟩
    obtain ⟨t, z, rfl⟩ := errPos hev (by decide)
    have hbT := below_then hbA2 hb3
    have HB3 : Hid (Below w2.heap.size w2 w3) := hbT
    clear hev hb3 hbT hbA2 hf hn HEQ HS2
    go_wp2
    go_ret
    exact ⟨below_then HB2.out HB3.out, Or.inr ⟨HN.out, rfl⟩⟩
set_option maxHeartbeats 4000000 in
theorem take_num (a : Nat → Addr) {wb : Nat} {vn vh : Value} {N : List Nat} {H : List ByteArray} (k : Nat) (hk : k = 78 ∨ k = 70) (x : List UInt8) (hx : x.length ≤ 5000) (W0 W : World) (he : EC a W0) (h0 : W0.heap.size ≤ wb) (hb0 : Below W0.heap.size W0 W) (h : WS W wb vn vh N H) (hN : N.length ≤ 10000) :
    Calls Tryz.prog 167 #[.pointer (some ⟨wb, 0, none⟩), .int .u8 (k : Nat), .string (bt x)] W fun e W' => Below W0.heap.size W0 W' ∧ ((∃ N' H' vn' vh', stepW k x (N, H) = some (N', H') ∧ e = .returned (.bool true) ∧ WS W' wb vn' vh' N' H') ∨ (stepW k x (N, H) = none ∧ e = .returned (.bool false))) := by
  obtain ⟨i0, hi0, hz0, hz1, hz2⟩ := info_parts infoI
  obtain ⟨pv, cv, rfl⟩ := own_shape h.on
  have hrn := readNum_any x (by omega) W (he.later hb0)
  have HW : Hid (WS W wb (.slice pv N.length cv) vh N H) := h
  have HB0 : Hid (Below W0.heap.size W0 W) := hb0
  have hmax : N.length + 1 ≤ maxLen := by unfold maxLen; omega
  have k72 : ((k : Int) == 72) = false := by rw [beq_eq_false_iff_ne]; omega
  have n72 : ¬ k = 72 := by omega
  have hlW := h.lt
  clear h he hb0
  go_enter Tryz.func167, Tryz.ntmps167
  go_wp2_with fail
  refine hrn.mono ?_
  rintro e w9 ⟨hb9, hres⟩
  have hb09 := below_then HB0.out hb9
  have hW9 := HW.out.later hb9
  obtain ⟨m, okb, rfl, hok⟩ : ∃ (m : Int) (okb : Bool), e = .returned (.tuple #[.int .i64 m, .bool okb]) ∧ ((okb = true ∧ ∃ n : Nat, numW x = some n ∧ m = (n : Nat)) ∨ (okb = false ∧ numW x = none)) := by
    rcases hres with ⟨n, h1, h2⟩ | ⟨h1, z, h2⟩
    · exact ⟨_, _, h2, Or.inl ⟨rfl, n, h1, rfl⟩⟩
    · exact ⟨_, _, h2, Or.inr ⟨rfl, h1⟩⟩
  have HOK : Hid ((okb = true ∧ ∃ n : Nat, numW x = some n ∧ m = (n : Nat)) ∨ (okb = false ∧ numW x = none)) := hok
  have HW9 : Hid (WS w9 wb (.slice pv N.length cv) vh N H) := hW9
  have HB9 : Hid (Below W0.heap.size W0 w9) := hb09
  have hl := hW9.lt
  have c0 := hW9.c0
  have hown := hW9.on.alloc (.cells #[.int .i64 m] 3)
  have hbA : Below w9.heap.size w9 (w9.alloc (.cells #[.int .i64 m] 3)) := (Below.refl _ _).alloc (Nat.le_refl _) _
  have hnews := cellsW (w := w9.alloc (.cells #[.int .i64 m] 3)) (b := w9.heap.size) (v := .int .i64 m) (by simp)
  have hszA : (w9.alloc (.cells #[.int .i64 m] 3)).heap.size = w9.heap.size + 1 := by simp
  have hbs : wb + 1 ≤ (w9.alloc (.cells #[.int .i64 m] 3)).heap.size := by rw [hszA]; omega
  clear hrn hres hok hb9 hb09 hW9
  go_wp2_with (at_builtin; refine wpList_append_lies _ rfl _ _ 34 rfl (wb + 1) 3 i0 _ 1 8 Tryz.underlying34 hi0 hz0 hz1 hz2 rfl (by decide) (.slice pv N.length cv) N.length (N.map fun n => .int .i64 (n : Nat)) rfl hown ⟨w9.heap.size, 0, none⟩ 1 1 [.int .i64 m] rfl rfl hnews (fun u hu => by simp at hu; subst hu; rfl) (by decide) hmax (by omega) hbs _ rfl ?_)
  intro g cap w1 hown1 hgr hat _
  have hpb : w1.heap[wb]? = w9.heap[wb]? := (hgr.block wb (by omega) (fun e => by have := (HW9.out.on.lt wb e.symm).1; omega)).trans (hbA.block wb hl)
  have k0 : w1.cell? ⟨wb, 0, none⟩ = some (.slice pv N.length cv) := (World.cell?_of_block (w := w9) (w' := w1) (a := ⟨wb, 0, none⟩) hpb).trans HW9.out.c0
  have f0 : w1.frozen? ⟨wb, 0, none⟩ = false := (World.frozen?_of_block (w := w9) (w' := w1) (a := ⟨wb, 0, none⟩) hpb).trans (HW9.out.fz 0)
  have hbX : Below W0.heap.size W0 (w1.setCell ⟨wb, 0, none⟩ (.slice (some ⟨g, 0, none⟩) (N.length + 1) cap)) := by
    have hsz : (w1.setCell ⟨wb, 0, none⟩ (.slice (some ⟨g, 0, none⟩) (N.length + 1) cap)).heap.size = w1.heap.size := by simp [World.setCell]
    have hs0 := HB9.out.size
    refine ⟨hgr.os.trans (hbA.os.trans HB9.out.os), hgr.tape.trans (hbA.tape.trans HB9.out.tape), hgr.output.trans (hbA.output.trans HB9.out.output), by have := hgr.size; omega, fun q hq => ?_⟩
    rw [heap_setCell_other w1 ⟨wb, 0, none⟩ q _ (fun e => by simp only at e; omega), hgr.block q (by omega) (fun e => by have := (HW9.out.on.lt q e.symm).1; omega), hbA.block q (by omega), HB9.out.block q hq]
  have HBX : Hid (Below W0.heap.size W0 (w1.setCell ⟨wb, 0, none⟩ (.slice (some ⟨g, 0, none⟩) (N.length + 1) cap))) := hbX
  rcases HOK.out with ⟨rfl, n, hn, rfl⟩ | ⟨rfl, hn⟩
  · obtain ⟨hW2, _⟩ := HW9.out.num n hbA hown1 hgr (by rw [hszA]; exact hat)
    have HW2 : Hid (WS (w1.setCell ⟨wb, 0, none⟩ (.slice (some ⟨g, 0, none⟩) (N.length + 1) cap)) wb (.slice (some ⟨g, 0, none⟩) (N.length + 1) cap) vh (N ++ [n]) H) := hW2
    have hst : stepW k x (N, H) = if k = 78 ∨ n ≤ 1 then some (N ++ [n], H) else none := by
      unfold stepW
      rw [if_neg n72, hn]
    have HST : Hid (stepW k x (N, H) = if k = 78 ∨ n ≤ 1 then some (N ++ [n], H) else none) := hst
    clear hW2 hbX hown1 hgr hat hpb hown hnews hszA hbs hbA c0 hn hst HOK
    have HK : Hid (k = 78 ∨ k = 70) := hk
    clear hk
    by_cases h8 : k = 78
    · have d8 : ((k : Int) == 78) = true := by simp; omega
      have H8 : Hid (k = 78) := h8
      clear h8
      go_wp2
      go_ret
      exact ⟨HBX.out, Or.inl ⟨_, _, _, _, by rw [HST.out, if_pos (Or.inl H8.out)], rfl, HW2.out⟩⟩
    · have d8 : ((k : Int) == 78) = false := by rw [beq_eq_false_iff_ne]; omega
      by_cases h1 : n ≤ 1
      · have d1 : decide ((n : Int) ≤ 1) = true := by simp; omega
        have H1 : Hid (n ≤ 1) := h1
        go_wp2
        go_ret
        exact ⟨HBX.out, Or.inl ⟨_, _, _, _, by rw [HST.out, if_pos (Or.inr H1.out)], rfl, HW2.out⟩⟩
      · have d1 : decide ((n : Int) ≤ 1) = false := by simp; omega
        have H1 : Hid (¬ (k = 78 ∨ n ≤ 1)) := fun h => h.elim h8 h1
        go_wp2
        go_ret
        exact ⟨HBX.out, Or.inr ⟨by rw [HST.out, if_neg H1.out], rfl⟩⟩
  · have HST : Hid (stepW k x (N, H) = none) := by
      show _ = _
      unfold stepW
      rw [if_neg n72, hn]
    clear hbX hown1 hgr hat hpb hown hnews hszA hbs hbA c0 hn HOK
    go_wp2
    go_ret
    exact ⟨HBX.out, Or.inr ⟨HST.out, rfl⟩⟩
end Go.Proofs.YtfhmfjcpggddkaaGreatDoor
