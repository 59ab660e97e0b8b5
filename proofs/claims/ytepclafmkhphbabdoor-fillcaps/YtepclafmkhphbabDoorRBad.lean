/- The landed New where hosts or copies are wrong; the reference's SomeFault and RingFault. -/
import Derived.Test.YtepclafmkhphbabDoorRNew2
namespace Go.Proofs.YtepclafmkhphbabDoor
open Go.RowKit

set_option maxHeartbeats 1000000 in
theorem new_none (a : Nat → Addr) (p : Option Addr) (c : Nat) (n : Int) (w : World) (he : Errs4 a w) :
    Calls Tryd.prog 24 #[.slice p 0 c, .int .i64 n] w fun e w' => e = .returned (.tuple #[.pointer none, .iface 165 (.pointer (some (a 4)))]) ∧ Below w.heap.size w w' := by
  have s4 := he.s4
  go_enter Tryd.func24, Tryd.ntmps24
  go_wp2_with fail
  go_quiet (fail)
  go_wp2
  go_ret2
  exact ⟨rfl, below_drewN (Below.refl _ _) nq⟩

set_option maxHeartbeats 1000000 in
theorem new_fault (a : Nat → Addr) (v : Value) (xs : List ByteArray) (n : Int) (w : World) (c : Nat) (pl : Int) (he : Errs4 a w) (hv : Strs1 w v xs) (h0 : 0 < xs.length) (hf : IsFault xs c pl) (hc : c ≠ 0) (hsz : ∀ k (h : k < xs.length), (xs[k]).size ≤ 1000000) (hm : xs.length < 1000000) :
    Calls Tryd.prog 24 #[v, .int .i64 n] w fun e w' => ∃ ev, e = .returned (.tuple #[.pointer none, ev]) ∧ ErrIs a w' c pl ev ∧ Below w.heap.size w w' := by
  have hchk := check_any4 a v xs w c pl he hv.strs hf hsz hm
  obtain ⟨b, o, cp, rfl, hx⟩ := strsPos hv h0
  clear hv hf hsz hx he
  have hl0 : ((xs.length : Int) == 0) = false := by rw [beq_eq_false_iff_ne]; omega
  go_enter Tryd.func24, Tryd.ntmps24
  go_wp2_with fail
  refine hchk.mono ?_
  rintro e w1 ⟨ev, rfl, hev, hb1⟩
  have HEV : Hid (ErrIs a w1 c pl ev) := hev
  obtain ⟨t, x, rfl⟩ := errPos hev hc
  clear hev hchk
  go_wp2
  go_ret2
  exact ⟨_, rfl, HEV.out, hb1⟩

set_option maxHeartbeats 1000000 in
theorem new_copies (a : Nat → Addr) (v : Value) (xs : List ByteArray) (n : Int) (w : World) (he : Errs4 a w) (hv : Strs1 w v xs) (h0 : 0 < xs.length) (hf : IsFault xs 0 (-1)) (hn : n < 1 ∨ 16 < n) (hsz : ∀ k (h : k < xs.length), (xs[k]).size ≤ 1000000) (hm : xs.length < 1000000) :
    Calls Tryd.prog 24 #[v, .int .i64 n] w fun e w' => e = .returned (.tuple #[.pointer none, .iface 165 (.pointer (some (a 1)))]) ∧ Below w.heap.size w w' := by
  have hchk := check_any4 a v xs w 0 (-1) he hv.strs hf hsz hm
  obtain ⟨b, o, cp, rfl, hx⟩ := strsPos hv h0
  have HE : Hid (Errs4 a w) := he
  clear hv hf hsz hx he
  have hl0 : ((xs.length : Int) == 0) = false := by rw [beq_eq_false_iff_ne]; omega
  by_cases h1 : n < 1
  · have hd1 : decide (n < 1) = true := by simpa using h1
    clear hn
    go_enter Tryd.func24, Tryd.ntmps24
    go_wp2_with fail
    refine hchk.mono ?_
    rintro e w1 ⟨ev, rfl, hev, hb1⟩
    obtain rfl := err0 hev
    have s1 := (HE.out.later hb1).s1
    clear hev hchk
    go_wp2_with fail
    go_quiet (fail)
    go_wp2
    go_ret2
    exact ⟨rfl, below_drewN hb1 nq⟩
  · have h2 : 16 < n := by omega
    have hd1 : decide (n < 1) = false := by simpa using h1
    have hd2 : decide (16 < n) = true := by simpa using h2
    clear hn
    go_enter Tryd.func24, Tryd.ntmps24
    go_wp2_with fail
    refine hchk.mono ?_
    rintro e w1 ⟨ev, rfl, hev, hb1⟩
    obtain rfl := err0 hev
    have s1 := (HE.out.later hb1).s1
    clear hev hchk
    go_wp2_with fail
    go_quiet (fail)
    go_wp2
    go_ret2
    exact ⟨rfl, below_drewN hb1 nq⟩

/-- What is wrong with copies: the error's number. -/
def CopIs (n : Int) (c : Nat) : Prop := ((n < 1 ∨ 16 < n) ∧ c = 2) ∨ (∃ m : Nat, n = m ∧ 1 ≤ m ∧ m ≤ 16 ∧ c = 0)
/-- What is wrong with hosts and copies: the error's number, and where. -/
def RngFault (xs : List ByteArray) (n : Int) (c : Nat) (pl : Int) : Prop :=
  (xs = [] ∧ c = 5 ∧ pl = -1) ∨ (0 < xs.length ∧ IsFault xs c pl ∧ c ≠ 0) ∨ (0 < xs.length ∧ IsFault xs 0 (-1) ∧ CopIs n c ∧ pl = -1)
theorem rngFault_ex (xs : List ByteArray) (n : Int) : ∃ c pl, RngFault xs n c pl := by
  rcases Nat.eq_zero_or_pos xs.length with h | h
  · exact ⟨5, -1, Or.inl ⟨List.length_eq_zero_iff.1 h, rfl, rfl⟩⟩
  · obtain ⟨c, pl, hf⟩ := isFault_ex xs
    by_cases hc : c = 0
    · subst hc
      obtain ⟨rfl, _, _⟩ := fault0 hf
      by_cases hn : n < 1 ∨ 16 < n
      · exact ⟨2, -1, Or.inr (Or.inr ⟨h, hf, Or.inl ⟨hn, rfl⟩, rfl⟩)⟩
      · obtain ⟨m, hm⟩ := Int.eq_ofNat_of_zero_le (show 0 ≤ n by omega)
        exact ⟨0, -1, Or.inr (Or.inr ⟨h, hf, Or.inr ⟨m, hm, by omega, by omega, rfl⟩, rfl⟩)⟩
    · exact ⟨c, pl, Or.inr (Or.inl ⟨h, hf, hc⟩)⟩
theorem rngFault_zero {xs : List ByteArray} {n : Int} {pl : Int} (h : RngFault xs n 0 pl) : pl = -1 ∧ 0 < xs.length ∧ IsFault xs 0 (-1) ∧ ∃ m : Nat, n = m ∧ 1 ≤ m ∧ m ≤ 16 := by
  rcases h with ⟨_, h, _⟩ | ⟨_, _, h⟩ | ⟨h0, hf, ⟨_, h⟩ | ⟨m, h1, h2, h3, _⟩, hp⟩
  · cases h
  · exact absurd rfl h
  · cases h
  · exact ⟨hp, h0, hf, m, h1, h2, h3⟩
theorem new_bad (a : Nat → Addr) (v : Value) (xs : List ByteArray) (n : Int) (w : World) (c : Nat) (pl : Int) (he : Errs4 a w) (hv : Strs1 w v xs) (hf : RngFault xs n c pl) (hc : c ≠ 0) (hsz : ∀ k (h : k < xs.length), (xs[k]).size ≤ 1000000) (hm : xs.length < 1000000) :
    Calls Tryd.prog 24 #[v, .int .i64 n] w fun e w' => ∃ ev, e = .returned (.tuple #[.pointer none, ev]) ∧ ErrIs a w' c pl ev ∧ Below w.heap.size w w' := by
  rcases hf with ⟨rfl, rfl, rfl⟩ | ⟨h0, hf, _⟩ | ⟨h0, hf, ⟨hn, rfl⟩ | ⟨m, _, _, _, h⟩, rfl⟩
  · obtain ⟨p, cp, rfl⟩ := hv.strs.slice
    exact (new_none a p cp n w he).mono fun e w' ⟨h1, h2⟩ => ⟨_, h1, Or.inr ⟨4, by decide, rfl, Or.inl ⟨rfl, rfl⟩⟩, h2⟩
  · exact new_fault a v xs n w c pl he hv h0 hf hc hsz hm
  · exact (new_copies a v xs n w he hv h0 hf hn hsz hm).mono fun e w' ⟨h1, h2⟩ => ⟨_, h1, Or.inr ⟨1, by decide, rfl, Or.inl ⟨rfl, rfl⟩⟩, h2⟩
  · exact absurd h hc
end Go.Proofs.YtepclafmkhphbabDoor
