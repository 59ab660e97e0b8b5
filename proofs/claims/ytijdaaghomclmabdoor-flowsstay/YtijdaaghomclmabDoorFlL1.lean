/- The landed flows: has, isFull, isName. -/
import Derived.Test.YtijdaaghomclmabDoorFlL0
import Derived.Test.YtijdaaghomclmabDoorFlIt
namespace Go.Proofs.YtijdaaghomclmabDoor
open Go.RowKit Go.Maps Go.ChangeMaps
section
variable {W W' : World} {p mb t : Nat} {la : Int} {L : List Lh.Fl}

theorem zeroFl (w : World) : (zeroValue 88).run Tryd.prog w = .ok (valF (0, ⟨#[]⟩, 0)) w := Tryd.zeroValue88 w
theorem wfK {z : Nat} (h : z < 18446744073709551616) : (Lit.int .u64 (z : Nat)).wf = true := by
  simp [Lit.wf, IntKind.min, IntKind.max, IntKind.signed, IntKind.bits]
  omega
theorem keyK (z : Nat) (h : z < 18446744073709551616) : keyOf Tryd.prog 32 (.int .u64 (z : Nat)) = some (keyF z) := keyOf_int_mk Tryd.underlying32 (wfK h)
/-- 'v, ok := m[k]' -/
theorem FR.look (h : FR W p mb t la L) (k : Nat) (hk : k < 18446744073709551616) : (∃ hx : Lh.fix L k < L.length, (Instr.lookup 139 (.map (some mb)) (.int .u64 (k : Nat)) true).run Tryd.prog W = .ok (.tuple #[.agg #[.int .u64 ((L[Lh.fix L k]).1 : Nat), .string (L[Lh.fix L k]).2.1, .int .i64 (L[Lh.fix L k]).2.2], .bool true]) W) ∨
    (¬ Lh.fix L k < L.length ∧ (Instr.lookup 139 (.map (some mb)) (.int .u64 (k : Nat)) true).run Tryd.prog W = .ok (.tuple #[.agg #[.int .u64 0, .string ⟨#[]⟩, .int .i64 0], .bool false]) W) := by
  obtain ⟨v, ps, hrun, hv⟩ := h.own.look_ok u64Keyed Tryd.underlying139 (zeroFl W) (flElem_mk _) (keyK k hk)
  rw [FD_has] at hrun
  by_cases hx : Lh.fix L k < L.length
  · rw [FD_hit hx] at hv
    obtain rfl := flElem_inv hv
    rw [decide_eq_true hx] at hrun
    exact Or.inl ⟨hx, hrun⟩
  · rw [FD_miss hx] at hv
    obtain rfl := flElem_inv hv
    rw [decide_eq_false hx] at hrun
    exact Or.inr ⟨hx, hrun⟩

set_option maxHeartbeats 2000000 in
theorem hasF_any (h : FR W p mb t la L) (k : Nat) (hk : k < 18446744073709551616) :
    Calls Tryd.prog 88 #[.pointer (some ⟨p, 0, none⟩), .int .u64 (k : Nat)] W fun e W' => e = .returned (.bool (decide (Lh.fix L k < L.length))) ∧ Below W.heap.size W W' := by
  have c2 := h.c2
  rcases h.look k hk with ⟨hx, hrun⟩ | ⟨hx, hrun⟩
  · rw [decide_eq_true hx]
    generalize (L[Lh.fix L k]) = z at hrun
    clear h hx
    go_enter Tryd.func88, Tryd.ntmps88
    go_wp2
    go_ret
    exact ⟨rfl, (Below.refl _ _).alloc (Nat.le_refl _) _⟩
  · rw [decide_eq_false hx]
    clear h hx
    go_enter Tryd.func88, Tryd.ntmps88
    go_wp2
    go_ret
    exact ⟨rfl, (Below.refl _ _).alloc (Nat.le_refl _) _⟩

set_option maxHeartbeats 2000000 in
theorem fullF_any (h : FR W p mb t la L) :
    Calls Tryd.prog 89 #[.pointer (some ⟨p, 0, none⟩)] W fun e W' => e = .returned (.bool (decide (200 ≤ L.length))) ∧ Below W.heap.size W W' := by
  have c2 := h.c2
  have hlen := fun ty => h.own.len Tryd.underlying139 ty
  rw [FD_size] at hlen
  clear h
  have d : decide ((200 : Int) ≤ (L.length : Int)) = decide (200 ≤ L.length) := decide_eq_decide.2 (by omega)
  go_enter Tryd.func89, Tryd.ntmps89
  go_wp2
  go_ret
  exact ⟨rfl, Below.refl _ _⟩

theorem fault_lone {s : ByteArray} {c : Nat} {pl : Int} (h : IsFault [s] c pl) : (Lh.isNm s = true ∧ c = 0) ∨ (Lh.isNm s = false ∧ c ≠ 0) := by
  rcases h with ⟨h, _⟩ | ⟨_, i, hi, _, _, hc⟩ | ⟨_, h, hc, _⟩
  · simp at h
  · have : i = 0 := by simp at hi; omega
    subst this
    rcases hc with ⟨h, rfl⟩ | ⟨_, h, _⟩
    · exact Or.inr ⟨h, by decide⟩
    · simp [Lh.mem] at h
  · exact Or.inl ⟨(h 0 (by simp)).1, hc⟩
set_option maxHeartbeats 2000000 in
theorem isNameF_any (a : Nat → Addr) (he : EF a W) (s : ByteArray) (hs : s.size ≤ 300) :
    Calls Tryd.prog 87 #[.string s] W fun e W' => e = .returned (.bool (Lh.isNm s)) ∧ Below W.heap.size W W' := by
  have hb0 : Below W.heap.size W (W.alloc (.cells #[.string s] 9)) := (Below.refl _ _).alloc (Nat.le_refl _) _
  obtain ⟨c, pl, hf⟩ := isFault_ex [s]
  have hchk := check_any4 a (.slice (some ⟨W.heap.size, 0, none⟩) 1 1) [s] (W.alloc (.cells #[.string s] 9)) c pl (he.e4.later hb0) (Or.inr ⟨_, _, _, rfl, Nat.le_refl _, fun k h => by
    have : k = 0 := by simp at h; omega
    subst this
    simp⟩) hf (fun k h => by
    have : k = 0 := by simp at h; omega
    subst this
    simp; omega) (by simp)
  have HF : Hid ((Lh.isNm s = true ∧ c = 0) ∨ (Lh.isNm s = false ∧ c ≠ 0)) := fault_lone hf
  clear he hf
  go_enter Tryd.func87, Tryd.ntmps87
  go_wp2_with fail
  refine hchk.mono ?_
  rintro e w1 ⟨ev, rfl, hev, hb1⟩
  have hb : Below W.heap.size W w1 := below_then hb0 hb1
  clear hchk
  rcases HF.out with ⟨h1, rfl⟩ | ⟨h1, h2⟩
  · obtain rfl := err0 hev
    have H1 : Hid (_ = _) := h1
    clear hev h1 HF
    go_wp2
    go_ret
    exact ⟨by rw [H1.out]; rfl, hb⟩
  · obtain ⟨t, x, rfl⟩ := errPos hev h2
    have H1 : Hid (_ = _) := h1
    clear hev h1 HF
    go_wp2
    go_ret
    exact ⟨by rw [H1.out]; rfl, hb⟩
end
end Go.Proofs.YtijdaaghomclmabDoor
