/- TableCounts: lists of numbers as they come in; the law's own loops' facts. -/
import Derived.Test.YtedbhahkldfmiaaDoorTabled
import Derived.Test.YtedbhahkldfmiaaDoorCounts
import Derived.Test.YtedbhahkldfmiaaDoorMoves
namespace Go.Proofs.YtedbhahkldfmiaaDoor
open Go.RowKit

/-- A list of numbers, as a caller hands it over. -/
def Ints1 (w : World) (v : Value) (xs : List Int) : Prop :=
  (xs = [] ∧ v = .slice none 0 0) ∨ ∃ ad c, v = .slice (some ad) xs.length c ∧ (∀ j u, (xs.map (Value.int .i64))[j]? = some u → w.cell? (ad.add j) = some u) ∧ (0 < xs.length → ad.spot = none)
theorem Ints1.later {w w' : World} {v : Value} {xs : List Int} (h : Ints1 w v xs) (hb : Below w.heap.size w w') : Ints1 w' v xs := by
  rcases h with h | ⟨ad, c, rfl, hc, hs⟩
  · exact Or.inl h
  · exact Or.inr ⟨ad, c, rfl, fun j u hu => below_cell hb (hc j u hu), hs⟩
theorem Ints1.src {w : World} {v : Value} {xs : List Int} (h : Ints1 w v xs) : ∃ p c, v = .slice p xs.length c ∧ (0 < xs.length → ∃ b o, p = some ⟨b, o, none⟩ ∧ ∀ k (h : k < xs.length), w.cell? ⟨b, o + k, none⟩ = some (.int .i64 xs[k])) := by
  rcases h with ⟨rfl, rfl⟩ | ⟨ad, c, rfl, hc, hs⟩
  · exact ⟨_, _, rfl, fun h => absurd h (by simp)⟩
  · refine ⟨_, _, rfl, fun h => ?_⟩
    obtain ⟨b, o, sp⟩ := ad
    obtain rfl : sp = none := hs h
    refine ⟨b, o, rfl, fun k hk => ?_⟩
    have := hc k (.int .i64 xs[k]) (by simp [hk])
    rwa [Addr.add_lit] at this
theorem ints_oneCellL (xs : List Int) : ∀ u ∈ xs.map (Value.int .i64), u.oneCell' = true := by
  intro u hu
  obtain ⟨_, _, rfl⟩ := List.mem_map.1 hu
  rfl
/-- 'append(own, l...)' where own is nil, at the operation. -/
theorem wpList_append_ints (w : World) {ops : Array Oper} {rest : List Oper} {o : Oper} {a : Act} {Q : Exit → Act → World → Prop} (hgd : o.guard = none) (s x : Operand)
    (ho : o.op = .call { callee := .builtin .append, args := #[s, x], argTypes := #[22, 22] }) (hs : a.eval s = .slice none 0 0) (v : Value) (xs : List Int) (hx : a.eval x = v) (hv : Ints1 w v xs) (hm : xs.length ≤ 1000000)
    (h : ∀ v' w', w'.ownsRow w.heap.size 3 1 v' xs.length (xs.map (Value.int .i64)) → w.grownBy w' none → wpList Tryd.prog ops Q rest (a.put o.dst v') w') : wpList Tryd.prog ops Q (o :: rest) a w := by
  obtain ⟨i, hi, hz0, hz1, hz2⟩ := info_parts infoI
  rcases hv with ⟨rfl, rfl⟩ | ⟨ad, c, rfl, hc, _⟩
  · exact wpList_append_own_none hgd s x 22 ho w.heap.size 3 i 1 Tryd.underlying22 hi (.slice none 0 0) 0 [] hs (World.ownsRow_nil _ _ _ _) hx (h _ _ (World.ownsRow_nil _ _ _ _) ⟨rfl, rfl, rfl, Nat.le_refl _, fun _ _ _ => rfl⟩)
  · refine wpList_append_own w hgd s x 22 ho w.heap.size 3 i _ 1 8 Tryd.underlying22 hi hz0 hz1 hz2 rfl (by decide) (.slice none 0 0) 0 [] hs (World.ownsRow_nil _ _ _ _) ad xs.length c (xs.map (Value.int .i64)) hx (by simp) hc (ints_oneCellL xs) (by unfold maxLen; omega) (by omega) (Nat.le_refl _) ?_
    intro v' w' h1 h2 _
    refine h v' w' ?_ h2
    simpa using h1
/-- what the law's first loop finds: so far nothing -/
def CntGood (l : List Int) (many : Int) (k : Nat) : Prop := ∀ j, j < k → ∀ hj : j < l.length, 0 ≤ l[j] ∧ l[j] < many
theorem cntGood_zero (l : List Int) (many : Int) : CntGood l many 0 := fun j h => absurd h (by omega)
theorem cntGood_next {l : List Int} {many : Int} {k : Nat} (h : CntGood l many k) (hk : k < l.length) (hg : 0 ≤ l[k] ∧ l[k] < many) : CntGood l many (k + 1) := fun j hj hl => by
  by_cases e : j = k
  · subst e; exact hg
  · exact h j (by omega) hl
theorem cnt_fault_at {l : List Int} {many : Int} {c : Nat} {pl : Int} (hf : CntFault l many c pl) (hm : ¬ (many < 0 ∨ 12 < many)) {k : Nat} (hk : k < l.length) (hp : CntGood l many k) (hb : ¬ (0 ≤ l[k] ∧ l[k] < many)) : c = 2 ∧ pl = k := by
  obtain ⟨m, rfl⟩ := Int.eq_ofNat_of_zero_le (show 0 ≤ many by omega)
  exact cnt_bad_at hf (by omega) hk hp hb
theorem cnt_fault_none {l : List Int} {many : Int} {c : Nat} {pl : Int} (hf : CntFault l many c pl) (hm : ¬ (many < 0 ∨ 12 < many)) (hp : CntGood l many l.length) : c = 0 ∧ pl = -1 := by
  obtain ⟨m, rfl⟩ := Int.eq_ofNat_of_zero_le (show 0 ≤ many by omega)
  exact cnt_none hf (by omega) (fun j hj => hp j hj hj)
theorem cnt_fault_out {l : List Int} {many : Int} {c : Nat} {pl : Int} (hf : CntFault l many c pl) (hm : many < 0 ∨ 12 < many) : c = 2 ∧ pl = -1 := by
  rcases hf with ⟨_, h1, h2⟩ | ⟨m, h1, h2, _⟩ | ⟨m, h1, h2, _⟩
  · exact ⟨h1, h2⟩
  · omega
  · omega
/-- Block fb holds a fault: its number and its place. -/
def FBlk (w : World) (fb : Nat) (x y : Int) : Prop := w.heap[fb]? = some (.cells #[.int .i64 x, .int .i64 y] 42 (0, 0))
section
variable {w w' : World} {fb : Nat} {x y : Int}
theorem FBlk.c0 (h : FBlk w fb x y) : w.cell? ⟨fb, 0, none⟩ = some (.int .i64 x) := by rw [cell_of_row w fb 0 _ _ _ h]; rfl
theorem FBlk.c1 (h : FBlk w fb x y) : w.cell? ⟨fb, 1, none⟩ = some (.int .i64 y) := by rw [cell_of_row w fb 1 _ _ _ h]; rfl
theorem FBlk.frozen (h : FBlk w fb x y) (k : Nat) : w.frozen? ⟨fb, k, none⟩ = false := frozen_of_row w fb k _ _ h
theorem FBlk.lt (h : FBlk w fb x y) : fb < w.heap.size := (Array.getElem?_eq_some_iff.1 h).1
theorem FBlk.same (h : FBlk w fb x y) (he : w'.heap[fb]? = w.heap[fb]?) : FBlk w' fb x y := by
  unfold FBlk
  rw [he]
  exact h
theorem FBlk.later (h : FBlk w fb x y) (hb : Below w.heap.size w w') : FBlk w' fb x y := h.same (hb.block fb h.lt)
theorem FBlk.made (w : World) (x y : Int) : FBlk (w.alloc (.cells #[.int .i64 x, .int .i64 y] 42)) w.heap.size x y := heap_alloc_new w _
theorem FBlk.set (h : FBlk w fb x y) (x' y' : Int) : FBlk ((w.setCell ⟨fb, 0, none⟩ (.int .i64 x')).setCell ⟨fb, 1, none⟩ (.int .i64 y')) fb x' y' := by
  have h1 := heap_setCell_same w fb 0 _ _ (.int .i64 x') h
  have h2 := heap_setCell_same _ fb 1 _ _ (.int .i64 y') h1
  unfold FBlk
  rw [h2]
  rfl
end
/-- An error stays what it is while a fault's block is written. -/
theorem ErrIs.kept2 {a : Nat → Addr} {W : World} {c : Nat} {pl x y : Int} {v : Value} {fb : Nat} (h : ErrIs a W c pl v) (hf : FBlk W fb x y) (u u' : Value) : ErrIs a ((W.setCell ⟨fb, 0, none⟩ u).setCell ⟨fb, 1, none⟩ u') c pl v := by
  rcases h with h | ⟨i, hi, hc, h | ⟨b, hv, h0, h1⟩⟩
  · exact Or.inl h
  · exact Or.inr ⟨i, hi, hc, Or.inl h⟩
  · have hne : b ≠ fb := fun e => by
      subst e
      rw [hf.c1] at h1
      cases h1
    have key : ∀ k : Nat, ((W.setCell ⟨fb, 0, none⟩ u).setCell ⟨fb, 1, none⟩ u').cell? ⟨b, k, none⟩ = W.cell? ⟨b, k, none⟩ := fun k =>
      World.cell?_of_block (a := ⟨b, k, none⟩) ((heap_setCell_other _ ⟨fb, 1, none⟩ b u' hne).trans (heap_setCell_other W ⟨fb, 0, none⟩ b u hne))
    exact Or.inr ⟨i, hi, hc, Or.inr ⟨b, hv, by rw [key]; exact h0, by rw [key]; exact h1⟩⟩
theorem tableOf_val (v : Value) (xs : List ByteArray) (n : Nat) (w : World) (hv : Strs1 w v xs) (h0 : 0 < xs.length) (h12 : xs.length ≤ 12) (hsz : ∀ k (h : k < xs.length), (xs[k]).size ≤ 300) (hp : Lh.Prm n) (h5 : n ≤ 503) :
    Calls Tryd.prog 34 #[v, .int .i64 n] w fun e w' => ∃ g, e = .returned (.slice (some ⟨g, 0, none⟩) n n) ∧ w.heap.size ≤ g ∧ IntRow w' g (Lh.tab xs n n) ∧ Below w.heap.size w w' := by
  rcases hv with ⟨rfl, _⟩ | ⟨b, o, c, rfl, hcap, hc⟩
  · cases h0
  · exact tableOf_any b o c xs n w hc h0 h12 hsz hcap hp h5
end Go.Proofs.YtedbhahkldfmiaaDoor
