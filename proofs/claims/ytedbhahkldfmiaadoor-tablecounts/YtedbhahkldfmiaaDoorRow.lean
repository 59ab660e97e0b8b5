/- The landed Row. -/
import Derived.Test.YtedbhahkldfmiaaDoorMake
namespace Go.Proofs.YtedbhahkldfmiaaDoor
open Go.RowKit

theorem fault_one {s : ByteArray} {c : Nat} {pl : Int} (h : IsFault [s] c pl) : (Lh.isNm s = true ∧ c = 0) ∨ (Lh.isNm s = false ∧ c ≠ 0) := by
  rcases h with ⟨h, _⟩ | ⟨_, i, hi, _, _, hc⟩ | ⟨_, h, hc, _⟩
  · simp at h
  · have : i = 0 := by simp at hi; omega
    subst this
    rcases hc with ⟨h1, h2⟩ | ⟨_, h2, _⟩
    · exact Or.inr ⟨h1, by omega⟩
    · simp [Lh.mem] at h2
  · exact Or.inl ⟨(h 0 (by simp)).1, hc⟩
theorem size_one {s : ByteArray} (hs : s.size ≤ 300) : ∀ k (h : k < [s].length), ([s][k]).size ≤ 1000000 := fun k hk => by
  have : k = 0 := by simp at hk; omega
  subst this
  simp
  omega
theorem strs_one (w : World) (s : ByteArray) (t : TypeId) : Strs (w.alloc (.cells #[.string s] t)) (.slice (some ⟨w.heap.size, 0, none⟩) 1 1) [s] :=
  Or.inr ⟨w.heap.size, 0, 1, rfl, by simp, fun k hk => by
    have : k = 0 := by simp at hk; omega
    subst this
    simp⟩

set_option maxHeartbeats 1000000 in
theorem row_name (a : Nat → Addr) (s : ByteArray) (n : Int) (w : World) (he : Errs a w) (hs : s.size ≤ 300) (hn : Lh.isNm s = false) :
    Calls Tryd.prog 32 #[.string s, .int .i64 n] w fun e w' => e = .returned (.tuple #[.slice none 0 0, .iface 84 (.pointer (some (a 3)))]) ∧ Below w.heap.size w w' := by
  obtain ⟨c, pl, hf⟩ := isFault_ex [s]
  have hc : c ≠ 0 := by
    rcases fault_one hf with ⟨h, _⟩ | ⟨_, h⟩
    · rw [hn] at h; cases h
    · exact h
  have hbW : ∀ q, Below w.heap.size w (w.alloc q) := fun q => (Below.refl _ _).alloc (Nat.le_refl _) _
  have hchk := check_any a (.slice (some ⟨w.heap.size, 0, none⟩) 1 1) [s] _ c pl (he.later (hbW (.cells #[.string s] 9))) (strs_one w s 9) hf (size_one hs) (by simp)
  have HE : Hid (Errs a w) := he
  have hbW' := hbW (.cells #[.string s] 9)
  clear hf he hn hbW
  go_enter Tryd.func32, Tryd.ntmps32
  go_wp2_with fail
  refine hchk.mono ?_
  rintro e w1 ⟨ev, rfl, hev, hb1⟩
  obtain ⟨t, x, rfl⟩ := errIs_pos hev hc
  have hb : Below w.heap.size w w1 := below_then hbW' hb1
  have s3 := (HE.out.later hb).s3
  clear hev hchk hb1 hbW'
  go_wp2_with fail
  go_quiet (fail)
  go_wp2
  go_ret2
  exact ⟨rfl, below_drewN hb nq⟩

set_option maxHeartbeats 1000000 in
theorem row_size (a : Nat → Addr) (s : ByteArray) (n : Int) (w : World) (e0 : Nat) (he : Errs a w) (hs : s.size ≤ 300) (hn : Lh.isNm s = true) (hb64 : -9223372036854775808 ≤ n ∧ n ≤ 9223372036854775807) (hse : Lh.SizeIs n e0) (hc0 : e0 ≠ 0) :
    Calls Tryd.prog 32 #[.string s, .int .i64 n] w fun e w' => ∃ ev, e = .returned (.tuple #[.slice none 0 0, ev]) ∧ ErrIs a w' e0 (-1) ev ∧ Below w.heap.size w w' := by
  obtain ⟨c, pl, hf⟩ := isFault_ex [s]
  have hc : c = 0 := by
    rcases fault_one hf with ⟨_, h⟩ | ⟨h, _⟩
    · exact h
    · rw [hn] at h; cases h
  subst hc
  have hbW : ∀ q, Below w.heap.size w (w.alloc q) := fun q => (Below.refl _ _).alloc (Nat.le_refl _) _
  have hchk := check_any a (.slice (some ⟨w.heap.size, 0, none⟩) 1 1) [s] _ 0 pl (he.later (hbW (.cells #[.string s] 9))) (strs_one w s 9) hf (size_one hs) (by simp)
  have HE : Hid (Errs a w) := he
  have HSE : Hid (Lh.SizeIs n e0) := hse
  have hbW' := hbW (.cells #[.string s] 9)
  clear hf he hn hbW hse
  go_enter Tryd.func32, Tryd.ntmps32
  go_wp2_with fail
  refine hchk.mono ?_
  rintro e w1 ⟨ev, rfl, hev, hb1⟩
  obtain rfl := errIs_zero hev
  have hb : Below w.heap.size w w1 := below_then hbW' hb1
  clear hev hchk hb1 hbW'
  go_wp2_with fail
  refine (checkSize_any a n e0 w1 (HE.out.later hb) hb64 HSE.out).mono ?_
  rintro e w1' ⟨ev, rfl, hev, rfl⟩
  have HEV : Hid (ErrIs a w1' e0 (-1) ev) := hev
  obtain ⟨t, x, rfl⟩ := errIs_pos hev hc0
  clear hev
  go_wp2
  go_ret2
  exact ⟨_, rfl, HEV.out, hb⟩

set_option maxHeartbeats 1000000 in
theorem row_good (a : Nat → Addr) (s : ByteArray) (n : Nat) (w : World) (he : Errs a w) (hs : s.size ≤ 300) (hn : Lh.isNm s = true) (hp : Lh.Prm n) (h5 : n ≤ 503) :
    Calls Tryd.prog 32 #[.string s, .int .i64 n] w fun e w' => ∃ g, e = .returned (.tuple #[.slice (some ⟨g, 0, none⟩) n n, .nilIface]) ∧ w.heap.size ≤ g ∧ IntRow w' g (Lh.rowL s n) ∧ Below w.heap.size w w' := by
  obtain ⟨c, pl, hf⟩ := isFault_ex [s]
  have hc : c = 0 := by
    rcases fault_one hf with ⟨_, h⟩ | ⟨h, _⟩
    · exact h
    · rw [hn] at h; cases h
  subst hc
  have hbW : ∀ q, Below w.heap.size w (w.alloc q) := fun q => (Below.refl _ _).alloc (Nat.le_refl _) _
  have hchk := check_any a (.slice (some ⟨w.heap.size, 0, none⟩) 1 1) [s] _ 0 pl (he.later (hbW (.cells #[.string s] 9))) (strs_one w s 9) hf (size_one hs) (by simp)
  have HE : Hid (Errs a w) := he
  have HP : Hid (Lh.Prm n) := hp
  have h2 : 2 ≤ n := hp.1
  have hbW' := hbW (.cells #[.string s] 9)
  clear hf he hn hbW hp
  go_enter Tryd.func32, Tryd.ntmps32
  go_wp2_with fail
  refine hchk.mono ?_
  rintro e w1 ⟨ev, rfl, hev, hb1⟩
  obtain rfl := errIs_zero hev
  have hb : Below w.heap.size w w1 := below_then hbW' hb1
  clear hev hchk hb1 hbW'
  go_wp2_with fail
  refine (checkSize_in a n 0 w1 (HE.out.later hb) h2 h5 (Or.inr ⟨HP.out, rfl⟩)).mono ?_
  rintro e w1' ⟨ev, rfl, hev, rfl⟩
  obtain rfl := errIs_zero hev
  clear hev
  go_wp2_with fail
  refine (slotsOf_any s n w1' hs h2 h5).mono ?_
  rintro e w2 ⟨g, rfl, hg, hrow, hb2⟩
  have HR : Hid (IntRow w2 g (Lh.rowL s n)) := hrow
  have hsz := hb.size
  clear hrow
  go_wp2
  go_ret2
  exact ⟨g, rfl, by omega, HR.out, below_then hb hb2⟩
end Go.Proofs.YtedbhahkldfmiaaDoor
