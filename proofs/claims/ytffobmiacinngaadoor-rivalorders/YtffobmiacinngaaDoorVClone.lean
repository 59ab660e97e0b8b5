/- slices.Clone of texts; rival.check. -/
import Derived.Test.YtffobmiacinngaaDoorFew
namespace Go.Proofs.YtffobmiacinngaaDoor
open Go.RowKit

theorem owns_empty (w : World) : (w.alloc (.cells #[] 9)).ownsRow w.heap.size 9 1 (.slice (some ⟨w.heap.size, 0, none⟩) 0 0) 0 (([] : List ByteArray).map Value.string) :=
  ⟨rfl, Or.inr ⟨w.heap.size, 0, #[], rfl, Nat.le_refl _, heap_alloc_new w _, Nat.le_refl _, by unfold maxLen; omega, rfl, rfl⟩⟩
set_option maxRecDepth 100000 in
set_option maxHeartbeats 1000000 in
theorem clone_any (b o c : Nat) (xs : List ByteArray) (w : World) (hx : ∀ k (h : k < xs.length), w.cell? ⟨b, o + k, none⟩ = some (.string xs[k])) (hm : xs.length < 1000000) :
    Calls Tryd.prog 98 #[.slice (some ⟨b, o, none⟩) xs.length c] w fun e w' => ∃ v', e = .returned v' ∧ w'.ownsRow w.heap.size 9 1 v' xs.length (xs.map Value.string) ∧ Below w.heap.size w w' := by
  obtain ⟨i, hi, hz0, hz1, hz2⟩ := info_parts infoS
  have hmax : 0 + xs.length ≤ maxLen := by unfold maxLen; omega
  have hbW := (Below.refl w.heap.size w).alloc (Nat.le_refl _) (.cells #[] 9)
  have hnews := cells_strs (fun k h => below_cell hbW (hx k h))
  have hown0 := owns_empty w
  clear hx
  have hnil : ∀ W : World, (binOp .eql 35 (.slice (some ⟨b, o, none⟩) xs.length c) (.slice none 0 0)).run Tryd.prog W = .ok (.bool false) W := fun _ => rfl
  go_enter Tryd.func98, Tryd.ntmps98
  go_wp2_with (at_builtin; refine wpList_append_own _ rfl _ _ 35 rfl w.heap.size 9 i _ 1 16 Tryd.underlying35 hi hz0 hz1 hz2 rfl (by decide) (.slice (some ⟨w.heap.size, 0, none⟩) 0 0) 0 _ rfl hown0 ⟨b, o, none⟩ xs.length c (xs.map Value.string) rfl (by simp) hnews (strs_oneCell xs) hmax (by omega) hbW.size ?_)
  intro v' w' hown hg _
  have hb' : Below w.heap.size w w' := hbW.grown hg hbW.size (fun k hk => (hown0.lt k hk).1)
  have hown' : w'.ownsRow w.heap.size 9 1 v' xs.length (xs.map Value.string) := by simpa using hown
  have HF : Hid (w'.ownsRow w.heap.size 9 1 v' xs.length (xs.map Value.string)) := hown'
  clear hown hown' hg hown0 hnews
  go_wp2
  go_ret
  exact ⟨_, rfl, HF.out, hb'⟩

/-- What is wrong with hosts, of whom there must be some: the error's number, and where. -/
def SFault (xs : List ByteArray) (c : Nat) (pl : Int) : Prop := (xs = [] ∧ c = 5 ∧ pl = -1) ∨ (0 < xs.length ∧ IsFault xs c pl)
theorem sFault_ex (xs : List ByteArray) : ∃ c pl, SFault xs c pl := by
  rcases Nat.eq_zero_or_pos xs.length with h | h
  · exact ⟨5, -1, Or.inl ⟨List.length_eq_zero_iff.1 h, rfl, rfl⟩⟩
  · obtain ⟨c, pl, hf⟩ := isFault_ex xs
    exact ⟨c, pl, Or.inr ⟨h, hf⟩⟩
theorem sFault_zero {xs : List ByteArray} {pl : Int} (h : SFault xs 0 pl) : 0 < xs.length ∧ IsFault xs 0 (-1) ∧ pl = -1 := by
  rcases h with ⟨_, h, _⟩ | ⟨h0, hf⟩
  · cases h
  · obtain ⟨rfl, _, _⟩ := fault0 hf
    exact ⟨h0, hf, rfl⟩
set_option maxHeartbeats 1000000 in
theorem rcheck_none (a : Nat → Addr) (p : Option Addr) (c : Nat) (w : World) (he : Errs4 a w) :
    Calls Tryd.prog 80 #[.slice p 0 c] w fun e w' => e = .returned (.iface 96 (.pointer (some (a 4)))) ∧ Below w.heap.size w w' := by
  have s4 := he.s4
  go_enter Tryd.func80, Tryd.ntmps80
  go_wp2
  go_ret
  exact ⟨rfl, Below.refl _ _⟩
set_option maxHeartbeats 1000000 in
theorem rcheck_some (a : Nat → Addr) (v : Value) (xs : List ByteArray) (w : World) (c : Nat) (pl : Int) (he : Errs4 a w) (hv : Strs1 w v xs) (h0 : 0 < xs.length) (hf : IsFault xs c pl) (hsz : ∀ k (h : k < xs.length), (xs[k]).size ≤ 1000000) (hm : xs.length < 1000000) :
    Calls Tryd.prog 80 #[v] w fun e w' => ∃ ev, e = .returned ev ∧ ErrIs a w' c pl ev ∧ Below w.heap.size w w' := by
  have hchk := check_any4 a v xs w c pl he hv.strs hf hsz hm
  obtain ⟨b, o, cp, rfl, hx⟩ := strsPos hv h0
  clear hv hf hsz hx he
  have hl0 : ((xs.length : Int) == 0) = false := by rw [beq_eq_false_iff_ne]; omega
  go_enter Tryd.func80, Tryd.ntmps80
  go_wp2_with fail
  refine hchk.mono ?_
  rintro e w1 ⟨ev, rfl, hev, hb1⟩
  have HEV : Hid (ErrIs a w1 c pl ev) := hev
  clear hev hchk
  go_wp2
  go_ret
  exact ⟨_, rfl, HEV.out, hb1⟩
/-- rival.check of any list of texts. -/
theorem rcheck_any (a : Nat → Addr) (v : Value) (xs : List ByteArray) (w : World) (c : Nat) (pl : Int) (he : Errs4 a w) (hv : Strs1 w v xs) (hf : SFault xs c pl) (hsz : ∀ k (h : k < xs.length), (xs[k]).size ≤ 1000000) (hm : xs.length < 1000000) :
    Calls Tryd.prog 80 #[v] w fun e w' => ∃ ev, e = .returned ev ∧ ErrIs a w' c pl ev ∧ Below w.heap.size w w' := by
  rcases hf with ⟨rfl, rfl, rfl⟩ | ⟨h0, hf⟩
  · obtain ⟨p, cp, rfl⟩ := hv.strs.slice
    exact (rcheck_none a p cp w he).mono fun e w' ⟨h1, h2⟩ => ⟨_, h1, Or.inr ⟨4, by decide, rfl, Or.inl ⟨rfl, rfl⟩⟩, h2⟩
  · exact rcheck_some a v xs w c pl he hv h0 hf hsz hm
end Go.Proofs.YtffobmiacinngaaDoor
