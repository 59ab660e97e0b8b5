/- Errors by number and place; the first text of a list. -/
import Derived.Test.YtmdckddenelneaaGreatDoorM2
namespace Go.Proofs.YtmdckddenelneaaGreatDoor
open Go.RowKit

namespace Lh
def mem (s : ByteArray) (xs : List ByteArray) : Bool := xs.any fun x => decide (x = s)
theorem mem_true {s : ByteArray} {xs : List ByteArray} (h : s ∈ xs) : mem s xs = true := by
  unfold mem; rw [List.any_eq_true]; exact ⟨s, h, by simp⟩
theorem mem_false {s : ByteArray} {xs : List ByteArray} (h : ¬ s ∈ xs) : mem s xs = false := by
  unfold mem; rw [List.any_eq_false]; intro x hx; simp only [decide_eq_true_eq]; intro e; subst e; exact h hx
end Lh

/-- The value v is the error of number c (0: none) at the place pl (-1: bare). -/
def ErrIs (a : Nat → Addr) (W : World) (c : Nat) (pl : Int) (v : Value) : Prop :=
  (c = 0 ∧ pl = -1 ∧ v = .nilIface) ∨
  (∃ i, i < 9 ∧ c = i + 1 ∧ ((pl = -1 ∧ v = .iface 331 (.pointer (some (a i)))) ∨
    ∃ b, v = .iface 104 (.pointer (some ⟨b, 0, none⟩)) ∧ W.cell? ⟨b, 0, none⟩ = some (.int .i64 pl) ∧ W.cell? ⟨b, 1, none⟩ = some (.iface 331 (.pointer (some (a i))))))

theorem ErrIs.later {a : Nat → Addr} {W W' : World} {c : Nat} {pl : Int} {v : Value} (h : ErrIs a W c pl v) (hb : Below W.heap.size W W') : ErrIs a W' c pl v := by
  rcases h with h | ⟨i, hi, hc, h | ⟨b, hv, h0, h1⟩⟩
  · exact Or.inl h
  · exact Or.inr ⟨i, hi, hc, Or.inl h⟩
  · exact Or.inr ⟨i, hi, hc, Or.inr ⟨b, hv, below_cell hb h0, below_cell hb h1⟩⟩

theorem code_is {a : Nat → Addr} {W : World} {c : Nat} {pl : Int} {v : Value} (he : Errs a W) (h : ErrIs a W c pl v) :
    Calls Tryz.prog 32 #[v] W fun e w' => e = .returned (.tuple #[.int .i64 c, .int .i64 pl]) ∧ Below W.heap.size W w' := by
  rcases h with ⟨rfl, rfl, rfl⟩ | ⟨i, hi, rfl, ⟨rfl, rfl⟩ | ⟨b, rfl, h0, h1⟩⟩
  · exact (code_nil W).mono fun e w' ⟨h1, h2⟩ => ⟨h1, by rw [h2]; exact Below.refl _ _⟩
  · have := code_sent a i hi W he
    rw [codeNum_lt hi] at this
    exact this
  · have := code_fault a i hi pl b W he h0 h1
    rw [codeNum_lt hi] at this
    exact this

/- the first place of a text in a list -/
set_option maxHeartbeats 1000000 in
theorem contains_core (b o c : Nat) (xs : List ByteArray) (s : ByteArray) (w : World) (hx : ∀ k (h : k < xs.length), w.cell? ⟨b, o + k, none⟩ = some (.string xs[k])) (hm : xs.length < 1000000) :
    Calls Tryz.prog 143 #[.slice (some ⟨b, o, none⟩) xs.length c, .string s] w fun e w' => (∃ j : Int, e = .returned (.int .i64 j) ∧ decide (0 ≤ j) = Lh.mem s xs) ∧ w' = w := by
  have HX : Hid _ := hx
  clear hx
  go_enter Tryz.func143, Tryz.ntmps143
  go_wp2
  go_loop [8] (fun t => ∃ k : Nat, k ≤ xs.length ∧ t = .int .i64 k ∧ ∀ j (h : j < xs.length), j < k → xs[j] ≠ s) (fun t => xs.length - (intOf t).toNat)
  case atStart => exact ⟨0, Nat.zero_le _, rfl, fun j _ h => absurd h (by omega)⟩
  case round =>
    obtain ⟨k, hk, rfl, hpre⟩ := hrel
    have HP : Hid _ := hpre
    clear hpre
    by_cases hlt : k < xs.length
    · have cx := HX.out k hlt
      generalize hxk : xs[k] = xk at *
      have HXK : Hid _ := hxk
      clear hxk
      by_cases heq : s = xk
      · have hne : (s.toList == xk.toList) = true := bytes_same heq
        have HE : Hid _ := heq
        clear heq
        go_wp2
        go_ret
        refine ⟨⟨(k : Int), rfl, ?_⟩, rfl⟩
        rw [decide_eq_true (by omega), Lh.mem_true]
        rw [HE.out, ← HXK.out]
        exact List.getElem_mem _
      · have hne : (s.toList == xk.toList) = false := bytes_parts heq
        have HE : Hid _ := heq
        clear heq
        go_wp2
        go_round
        case rel =>
          refine ⟨k + 1, by omega, by go_num, fun j h hj => ?_⟩
          by_cases hjk : j = k
          · subst hjk; rw [HXK.out]; exact fun e => HE.out e.symm
          · exact HP.out j h (by omega)
        case measure => simp [intOf]; omega
    · go_wp2
      go_ret
      refine ⟨⟨-1, rfl, ?_⟩, rfl⟩
      rw [decide_eq_false (by omega), Lh.mem_false]
      intro hm
      obtain ⟨j, hj, e⟩ := List.getElem_of_mem hm
      exact HP.out j hj (by omega) e

set_option maxHeartbeats 1000000 in
theorem index_zero (p : Option Addr) (c : Nat) (s : ByteArray) (w : World) :
    Calls Tryz.prog 143 #[.slice p 0 c, .string s] w fun e w' => e = .returned (.int .i64 (-1)) ∧ w' = w := by
  go_enter Tryz.func143, Tryz.ntmps143
  go_wp2
  refine wp_loop_rounds 1 ?_
  rw [rounds_succ]
  go_wp2
  go_ret
  exact ⟨rfl, rfl⟩

/-- slices.Contains of a list of texts. -/
theorem contains_any (v : Value) (xs : List ByteArray) (s : ByteArray) (w : World) (hv : Strs w v xs) (hm : xs.length < 1000000) :
    Calls Tryz.prog 103 #[v, .string s] w fun e w' => e = .returned (.bool (Lh.mem s xs)) ∧ w' = w := by
  have key : Calls Tryz.prog 143 #[v, .string s] w fun e w' => (∃ j : Int, e = .returned (.int .i64 j) ∧ decide (0 ≤ j) = Lh.mem s xs) ∧ w' = w := by
    rcases hv with ⟨rfl, p, c, rfl⟩ | ⟨b, o, c, rfl, _, hc⟩
    · exact (index_zero p c s w).mono fun e w' ⟨h1, h2⟩ => ⟨⟨-1, h1, rfl⟩, h2⟩
    · exact contains_core b o c xs s w hc hm
  clear hv
  go_enter Tryz.func103, Tryz.ntmps103
  go_wp2_with fail
  refine key.mono ?_
  rintro e w1 ⟨⟨j, rfl, hj⟩, rfl⟩
  have HJ : Hid _ := hj
  clear hj key
  go_wp2
  go_ret
  exact ⟨ret_bool HJ.out, rfl⟩

set_option maxHeartbeats 1000000 in
/-- Index of the reference, at a text of the list itself: is it ahead? -/
theorem refIndex_any (b o c : Nat) (xs : List ByteArray) (i : Nat) (hi : i < xs.length) (w : World) (hx : ∀ k (h : k < xs.length), w.cell? ⟨b, o + k, none⟩ = some (.string xs[k])) (hm : xs.length < 1000000) :
    Calls Tryz.prog 35 #[.slice (some ⟨b, o, none⟩) xs.length c, .string xs[i]] w fun e w' => (∃ j : Int, e = .returned (.int .i64 j) ∧ decide (j < (i : Int)) = Lh.mem xs[i] (xs.take i)) ∧ w' = w := by
  have HX : Hid _ := hx
  clear hx
  obtain ⟨s, hs⟩ : ∃ s, s = xs[i] := ⟨_, rfl⟩
  rw [← hs]
  have HS : Hid _ := hs
  clear hs
  go_enter Tryz.func35, Tryz.ntmps35
  go_wp2
  go_loop [5] (fun t => ∃ k : Nat, k ≤ i ∧ t = .int .i64 k ∧ ∀ j (h : j < xs.length), j < k → xs[j] ≠ s) (fun t => xs.length - (intOf t).toNat)
  case atStart => exact ⟨0, Nat.zero_le _, rfl, fun j _ h => absurd h (by omega)⟩
  case round =>
    obtain ⟨k, hk, rfl, hpre⟩ := hrel
    have HP : Hid _ := hpre
    clear hpre
    have hlt : k < xs.length := by omega
    have cx := HX.out k hlt
    generalize hxk : xs[k] = xk at *
    have HXK : Hid _ := hxk
    clear hxk
    by_cases heq : xk = s
    · have hne : (xk.toList == s.toList) = true := bytes_same heq
      have HE : Hid _ := heq
      clear heq
      go_wp2
      go_ret
      refine ⟨⟨(k : Int), rfl, ?_⟩, rfl⟩
      by_cases hki : k < i
      · rw [decide_eq_true (by omega), Lh.mem_true]
        rw [List.mem_take_iff_getElem]
        exact ⟨k, by omega, by rw [HXK.out, HE.out]⟩
      · rw [decide_eq_false (by omega), Lh.mem_false]
        intro hmem
        rw [List.mem_take_iff_getElem] at hmem
        obtain ⟨j, hj, e⟩ := hmem
        exact HP.out j (by omega) (by omega) e
    · have hne : (xk.toList == s.toList) = false := bytes_parts heq
      have hki : k < i := by
        rcases Nat.lt_or_ge k i with h | h
        · exact h
        · exfalso
          have : k = i := by omega
          subst this
          exact heq (by rw [← HXK.out, HS.out])
      have HE : Hid _ := heq
      clear heq
      go_wp2
      go_round
      case rel =>
        refine ⟨k + 1, by omega, by go_num, fun j h hj => ?_⟩
        by_cases hjk : j = k
        · subst hjk; rw [HXK.out]; exact HE.out
        · exact HP.out j h (by omega)
      case measure => simp [intOf]; omega
end Go.Proofs.YtmdckddenelneaaGreatDoor

/- mix.Check, and the reference's HostsFault. -/
namespace Go.Proofs.YtmdckddenelneaaGreatDoor
open Go.RowKit

def Good (xs : List ByteArray) (j : Nat) (h : j < xs.length) : Prop := Lh.isNm xs[j] = true ∧ Lh.mem xs[j] (xs.take j) = false
/-- What is wrong with a list of hosts: the error's number (0: nothing), and where. -/
def IsFault (xs : List ByteArray) (c : Nat) (pl : Int) : Prop :=
  (12 < xs.length ∧ c = 2 ∧ pl = -1) ∨
  (¬ 12 < xs.length ∧ ∃ i, ∃ h : i < xs.length, (∀ j, j < i → ∀ hj : j < xs.length, Good xs j hj) ∧ pl = i ∧ ((Lh.isNm xs[i] = false ∧ c = 4) ∨ (Lh.isNm xs[i] = true ∧ Lh.mem xs[i] (xs.take i) = true ∧ c = 6))) ∨
  (¬ 12 < xs.length ∧ (∀ j, ∀ hj : j < xs.length, Good xs j hj) ∧ c = 0 ∧ pl = -1)

theorem fault_scan (xs : List ByteArray) : ∀ n, n ≤ xs.length → (∀ j, j < n → ∀ hj : j < xs.length, Good xs j hj) ∨ ∃ i, ∃ h : i < xs.length, (∀ j, j < i → ∀ hj : j < xs.length, Good xs j hj) ∧ ¬ Good xs i h
  | 0, _ => Or.inl fun j h => absurd h (by omega)
  | n + 1, hn => by
    rcases fault_scan xs n (by omega) with h | h
    · by_cases hg : Good xs n (by omega)
      · refine Or.inl fun j hj hl => ?_
        by_cases e : j = n
        · subst e; exact hg
        · exact h j (by omega) hl
      · exact Or.inr ⟨n, by omega, h, hg⟩
    · exact Or.inr h

theorem isFault_ex (xs : List ByteArray) : ∃ c pl, IsFault xs c pl := by
  by_cases h12 : 12 < xs.length
  · exact ⟨2, -1, Or.inl ⟨h12, rfl, rfl⟩⟩
  · rcases fault_scan xs xs.length (Nat.le_refl _) with h | ⟨i, hi, h, hg⟩
    · exact ⟨0, -1, Or.inr (Or.inr ⟨h12, fun j hj => h j hj hj, rfl, rfl⟩)⟩
    · cases hn : Lh.isNm xs[i] with
      | false => exact ⟨4, i, Or.inr (Or.inl ⟨h12, i, hi, h, rfl, Or.inl ⟨hn, rfl⟩⟩)⟩
      | true =>
        cases hm : Lh.mem xs[i] (xs.take i) with
        | true => exact ⟨6, i, Or.inr (Or.inl ⟨h12, i, hi, h, rfl, Or.inr ⟨hn, hm, rfl⟩⟩)⟩
        | false => exact absurd ⟨hn, hm⟩ hg

/- what the loops find -/
theorem fault_name {xs : List ByteArray} {c : Nat} {pl : Int} (hf : IsFault xs c pl) (h12 : ¬ 12 < xs.length) {k : Nat} (hk : k < xs.length) (hp : ∀ j, j < k → ∀ hj : j < xs.length, Good xs j hj) (hn : Lh.isNm xs[k] = false) : c = 4 ∧ pl = k := by
  rcases hf with ⟨h, _⟩ | ⟨_, i, hi, h, e, hc⟩ | ⟨_, h, _⟩
  · exact absurd h h12
  · have hik : i = k := by
      rcases Nat.lt_trichotomy i k with hlt | rfl | hgt
      · obtain ⟨g1, g2⟩ := hp i hlt hi
        rcases hc with ⟨hc, _⟩ | ⟨_, hc, _⟩
        · rw [g1] at hc; cases hc
        · rw [g2] at hc; cases hc
      · rfl
      · rw [(h k hgt hk).1] at hn; cases hn
    subst hik
    rcases hc with ⟨_, hc⟩ | ⟨hc, _⟩
    · exact ⟨hc, e⟩
    · rw [hn] at hc; cases hc
  · rw [(h k hk).1] at hn; cases hn
theorem fault_exist {xs : List ByteArray} {c : Nat} {pl : Int} (hf : IsFault xs c pl) (h12 : ¬ 12 < xs.length) {k : Nat} (hk : k < xs.length) (hp : ∀ j, j < k → ∀ hj : j < xs.length, Good xs j hj) (hn : Lh.isNm xs[k] = true) (hm : Lh.mem xs[k] (xs.take k) = true) : c = 6 ∧ pl = k := by
  rcases hf with ⟨h, _⟩ | ⟨_, i, hi, h, e, hc⟩ | ⟨_, h, _⟩
  · exact absurd h h12
  · have hik : i = k := by
      rcases Nat.lt_trichotomy i k with hlt | rfl | hgt
      · obtain ⟨g1, g2⟩ := hp i hlt hi
        rcases hc with ⟨hc, _⟩ | ⟨_, hc, _⟩
        · rw [g1] at hc; cases hc
        · rw [g2] at hc; cases hc
      · rfl
      · rw [(h k hgt hk).2] at hm; cases hm
    subst hik
    rcases hc with ⟨hc, _⟩ | ⟨_, _, hc⟩
    · rw [hn] at hc; cases hc
    · exact ⟨hc, e⟩
  · rw [(h k hk).2] at hm; cases hm
theorem fault_none {xs : List ByteArray} {c : Nat} {pl : Int} (hf : IsFault xs c pl) (h12 : ¬ 12 < xs.length) (hp : ∀ j, ∀ hj : j < xs.length, Good xs j hj) : c = 0 ∧ pl = -1 := by
  rcases hf with ⟨h, _⟩ | ⟨_, i, hi, h, e, hc⟩ | ⟨_, _, h⟩
  · exact absurd h h12
  · obtain ⟨g1, g2⟩ := hp i hi
    rcases hc with ⟨hc, _⟩ | ⟨_, hc, _⟩
    · rw [g1] at hc; cases hc
    · rw [g2] at hc; cases hc
  · exact h
theorem fault_long {xs : List ByteArray} {c : Nat} {pl : Int} (hf : IsFault xs c pl) (h12 : 12 < xs.length) : c = 2 ∧ pl = -1 := by
  rcases hf with ⟨_, h⟩ | ⟨h, _⟩ | ⟨h, _⟩
  · exact h
  · exact absurd h12 h
  · exact absurd h12 h

theorem strs_take {w : World} {b o c : Nat} {xs : List ByteArray} (hcap : xs.length ≤ c) (hx : ∀ k (h : k < xs.length), w.cell? ⟨b, o + k, none⟩ = some (.string xs[k])) (k : Nat) (hk : k ≤ xs.length) : Strs w (.slice (some ⟨b, o, none⟩) k c) (xs.take k) := by
  have hl : (xs.take k).length = k := by simp; omega
  refine Or.inr ⟨b, o, c, by rw [hl], by omega, fun j hj => ?_⟩
  rw [hx j (by omega)]
  simp

set_option maxHeartbeats 2000000 in
theorem check_core (a : Nat → Addr) (b o cap : Nat) (xs : List ByteArray) (w : World) (c : Nat) (pl : Int) (he : Errs a w) (hcap : xs.length ≤ cap) (hx : ∀ k (h : k < xs.length), w.cell? ⟨b, o + k, none⟩ = some (.string xs[k]))
    (hf : IsFault xs c pl) (h12 : ¬ 12 < xs.length) (hs : ∀ k (h : k < xs.length), (xs[k]).size ≤ 1000000) :
    Calls Tryz.prog 67 #[.slice (some ⟨b, o, none⟩) xs.length cap] w fun e w' => ∃ ev, e = .returned ev ∧ ErrIs a w' c pl ev ∧ Below w.heap.size w w' := by
  have HX : Hid _ := hx
  have HF : Hid _ := hf
  have HS : Hid _ := hs
  have e12 : decide (12 < (xs.length : Int)) = false := by simp; omega
  have s3 := he.s3
  have s5 := he.s5
  clear hx hf hs
  go_enter Tryz.func67, Tryz.ntmps67
  go_wp2
  go_loopw [11] (fun t W => W = w ∧ ∃ k : Nat, k ≤ xs.length ∧ t = .int .i64 k ∧ ∀ j, j < k → ∀ hj : j < xs.length, Good xs j hj) (fun t _ => xs.length - (intOf t).toNat)
  case atStart => exact ⟨rfl, 0, Nat.zero_le _, rfl, fun j h => absurd h (by omega)⟩
  case round =>
    obtain ⟨rfl, k, hk, rfl, hpre⟩ := hrel
    have HP : Hid _ := hpre
    clear hpre
    by_cases hlt : k < xs.length
    · have cx := HX.out k hlt
      have hsz := HS.out k hlt
      cases hn : Lh.isNm xs[k] with
      | false =>
        have HC : Hid _ := fault_name HF.out h12 hlt HP.out hn
        have HN : Hid _ := hn
        clear hn
        go_wp2_with fail
        refine (isName_any _ _ hsz).mono ?_
        rintro e w1 ⟨rfl, rfl⟩
        rw [HN.out]
        go_wp2
        go_ret
        refine ⟨_, rfl, Or.inr ⟨3, by decide, HC.out.1, Or.inr ⟨w1.heap.size, rfl, by rw [HC.out.2]; simp, by simp⟩⟩, (Below.refl _ _).alloc (Nat.le_refl _) _⟩
      | true =>
        have HN : Hid _ := hn
        have hst := strs_take hcap HX.out k hk
        have HST : Hid _ := hst
        clear hst
        cases hme : Lh.mem xs[k] (xs.take k) with
        | true =>
          have HC : Hid _ := fault_exist HF.out h12 hlt HP.out hn hme
          have HM : Hid _ := hme
          clear hn hme
          go_wp2_with fail
          refine (isName_any _ _ hsz).mono ?_
          rintro e w1 ⟨rfl, rfl⟩
          rw [HN.out]
          go_wp2_with fail
          refine (contains_any _ (xs.take k) _ _ HST.out (by simp; omega)).mono ?_
          rintro e w2 ⟨rfl, rfl⟩
          rw [HM.out]
          go_wp2
          go_ret
          refine ⟨_, rfl, Or.inr ⟨5, by decide, HC.out.1, Or.inr ⟨w2.heap.size, rfl, by rw [HC.out.2]; simp, by simp⟩⟩, (Below.refl _ _).alloc (Nat.le_refl _) _⟩
        | false =>
          have HM : Hid _ := hme
          clear hn hme
          go_wp2_with fail
          refine (isName_any _ _ hsz).mono ?_
          rintro e w1 ⟨rfl, rfl⟩
          rw [HN.out]
          go_wp2_with fail
          refine (contains_any _ (xs.take k) _ _ HST.out (by simp; omega)).mono ?_
          rintro e w2 ⟨rfl, rfl⟩
          rw [HM.out]
          go_wp2
          refine ⟨⟨by trivial, k + 1, by omega, by go_num, fun j hj hl => ?_⟩, by simp [intOf]; omega⟩
          by_cases e : j = k
          · subst e; exact ⟨HN.out, HM.out⟩
          · exact HP.out j (by omega) hl
    · have HC : Hid _ := fault_none HF.out h12 (fun j hj => HP.out j (by omega) hj)
      go_wp2
      go_ret
      refine ⟨_, rfl, Or.inl ⟨HC.out.1, HC.out.2, rfl⟩, Below.refl _ _⟩

set_option maxHeartbeats 1000000 in
theorem check_long (a : Nat → Addr) (p : Option Addr) (n cap : Nat) (w : World) (he : Errs a w) (h12 : 12 < n) (_hm : n < 1000000) :
    Calls Tryz.prog 67 #[.slice p n cap] w fun e w' => e = .returned (.iface 331 (.pointer (some (a 1)))) ∧ w' = w := by
  have e12 : decide (12 < (n : Int)) = true := by simp; omega
  have s1 := he.s1
  go_enter Tryz.func67, Tryz.ntmps67
  go_wp2
  go_ret
  exact ⟨rfl, rfl⟩

set_option maxHeartbeats 1000000 in
theorem check_zero (p : Option Addr) (cap : Nat) (w : World) :
    Calls Tryz.prog 67 #[.slice p 0 cap] w fun e w' => e = .returned .nilIface ∧ w' = w := by
  go_enter Tryz.func67, Tryz.ntmps67
  go_wp2
  refine wp_loop_rounds 1 ?_
  rw [rounds_succ]
  go_wp2
  go_ret
  exact ⟨rfl, rfl⟩

/-- mix.Check of any list of texts. -/
theorem check_any (a : Nat → Addr) (v : Value) (xs : List ByteArray) (w : World) (c : Nat) (pl : Int) (he : Errs a w) (hv : Strs w v xs) (hf : IsFault xs c pl) (hs : ∀ k (h : k < xs.length), (xs[k]).size ≤ 1000000) (hm : xs.length < 1000000) :
    Calls Tryz.prog 67 #[v] w fun e w' => ∃ ev, e = .returned ev ∧ ErrIs a w' c pl ev ∧ Below w.heap.size w w' := by
  by_cases h12 : 12 < xs.length
  · obtain ⟨rfl, rfl⟩ := fault_long hf h12
    obtain ⟨p, cap, rfl⟩ := hv.slice
    exact (check_long a p _ cap w he h12 hm).mono fun e w' ⟨h1, h2⟩ => ⟨_, h1, Or.inr ⟨1, by decide, rfl, Or.inl ⟨rfl, rfl⟩⟩, by rw [h2]; exact Below.refl _ _⟩
  · rcases hv with ⟨rfl, p, cap, rfl⟩ | ⟨b, o, cap, rfl, hcap, hx⟩
    · obtain ⟨rfl, rfl⟩ := fault_none hf h12 (fun j hj => absurd hj (by simp))
      exact (check_zero p cap w).mono fun e w' ⟨h1, h2⟩ => ⟨_, h1, Or.inl ⟨rfl, rfl, rfl⟩, by rw [h2]; exact Below.refl _ _⟩
    · exact check_core a b o cap xs w c pl he hcap hx hf h12 hs
end Go.Proofs.YtmdckddenelneaaGreatDoor

/- mix.Check once more, where only four of the package variables are known. -/
namespace Go.Proofs.YtmdckddenelneaaGreatDoor
open Go.RowKit

/-- ErrBound, ErrName, ErrNone, ErrExist: each holds a pointer. -/
structure Errs4 (a : Nat → Addr) (w : World) : Prop where
  s1 : w.cell? ⟨0, 0, none⟩ = some (.iface 331 (.pointer (some (a 1))))
  s3 : w.cell? ⟨4, 0, none⟩ = some (.iface 331 (.pointer (some (a 3))))
  s4 : w.cell? ⟨1, 0, none⟩ = some (.iface 331 (.pointer (some (a 4))))
  s5 : w.cell? ⟨5, 0, none⟩ = some (.iface 331 (.pointer (some (a 5))))
theorem Errs4.later {a : Nat → Addr} {w w' : World} (h : Errs4 a w) (hb : Below w.heap.size w w') : Errs4 a w' := ⟨below_cell hb h.s1, below_cell hb h.s3, below_cell hb h.s4, below_cell hb h.s5⟩
theorem Errs.four {a : Nat → Addr} {w : World} (h : Errs a w) : Errs4 a w := ⟨h.s1, h.s3, h.s4, h.s5⟩

set_option maxHeartbeats 2000000 in
theorem check_core4 (a : Nat → Addr) (b o cap : Nat) (xs : List ByteArray) (w : World) (c : Nat) (pl : Int) (he : Errs4 a w) (hcap : xs.length ≤ cap) (hx : ∀ k (h : k < xs.length), w.cell? ⟨b, o + k, none⟩ = some (.string xs[k]))
    (hf : IsFault xs c pl) (h12 : ¬ 12 < xs.length) (hs : ∀ k (h : k < xs.length), (xs[k]).size ≤ 1000000) :
    Calls Tryz.prog 67 #[.slice (some ⟨b, o, none⟩) xs.length cap] w fun e w' => ∃ ev, e = .returned ev ∧ ErrIs a w' c pl ev ∧ Below w.heap.size w w' := by
  have HX : Hid _ := hx
  have HF : Hid _ := hf
  have HS : Hid _ := hs
  have e12 : decide (12 < (xs.length : Int)) = false := by simp; omega
  have s3 := he.s3
  have s5 := he.s5
  clear hx hf hs
  go_enter Tryz.func67, Tryz.ntmps67
  go_wp2
  go_loopw [11] (fun t W => W = w ∧ ∃ k : Nat, k ≤ xs.length ∧ t = .int .i64 k ∧ ∀ j, j < k → ∀ hj : j < xs.length, Good xs j hj) (fun t _ => xs.length - (intOf t).toNat)
  case atStart => exact ⟨rfl, 0, Nat.zero_le _, rfl, fun j h => absurd h (by omega)⟩
  case round =>
    obtain ⟨rfl, k, hk, rfl, hpre⟩ := hrel
    have HP : Hid _ := hpre
    clear hpre
    by_cases hlt : k < xs.length
    · have cx := HX.out k hlt
      have hsz := HS.out k hlt
      cases hn : Lh.isNm xs[k] with
      | false =>
        have HC : Hid _ := fault_name HF.out h12 hlt HP.out hn
        have HN : Hid _ := hn
        clear hn
        go_wp2_with fail
        refine (isName_any _ _ hsz).mono ?_
        rintro e w1 ⟨rfl, rfl⟩
        rw [HN.out]
        go_wp2
        go_ret
        refine ⟨_, rfl, Or.inr ⟨3, by decide, HC.out.1, Or.inr ⟨w1.heap.size, rfl, by rw [HC.out.2]; simp, by simp⟩⟩, (Below.refl _ _).alloc (Nat.le_refl _) _⟩
      | true =>
        have HN : Hid _ := hn
        have hst := strs_take hcap HX.out k hk
        have HST : Hid _ := hst
        clear hst
        cases hme : Lh.mem xs[k] (xs.take k) with
        | true =>
          have HC : Hid _ := fault_exist HF.out h12 hlt HP.out hn hme
          have HM : Hid _ := hme
          clear hn hme
          go_wp2_with fail
          refine (isName_any _ _ hsz).mono ?_
          rintro e w1 ⟨rfl, rfl⟩
          rw [HN.out]
          go_wp2_with fail
          refine (contains_any _ (xs.take k) _ _ HST.out (by simp; omega)).mono ?_
          rintro e w2 ⟨rfl, rfl⟩
          rw [HM.out]
          go_wp2
          go_ret
          refine ⟨_, rfl, Or.inr ⟨5, by decide, HC.out.1, Or.inr ⟨w2.heap.size, rfl, by rw [HC.out.2]; simp, by simp⟩⟩, (Below.refl _ _).alloc (Nat.le_refl _) _⟩
        | false =>
          have HM : Hid _ := hme
          clear hn hme
          go_wp2_with fail
          refine (isName_any _ _ hsz).mono ?_
          rintro e w1 ⟨rfl, rfl⟩
          rw [HN.out]
          go_wp2_with fail
          refine (contains_any _ (xs.take k) _ _ HST.out (by simp; omega)).mono ?_
          rintro e w2 ⟨rfl, rfl⟩
          rw [HM.out]
          go_wp2
          refine ⟨⟨by trivial, k + 1, by omega, by go_num, fun j hj hl => ?_⟩, by simp [intOf]; omega⟩
          by_cases e : j = k
          · subst e; exact ⟨HN.out, HM.out⟩
          · exact HP.out j (by omega) hl
    · have HC : Hid _ := fault_none HF.out h12 (fun j hj => HP.out j (by omega) hj)
      go_wp2
      go_ret
      refine ⟨_, rfl, Or.inl ⟨HC.out.1, HC.out.2, rfl⟩, Below.refl _ _⟩

set_option maxHeartbeats 1000000 in
theorem check_long4 (a : Nat → Addr) (p : Option Addr) (n cap : Nat) (w : World) (he : Errs4 a w) (h12 : 12 < n) (_hm : n < 1000000) :
    Calls Tryz.prog 67 #[.slice p n cap] w fun e w' => e = .returned (.iface 331 (.pointer (some (a 1)))) ∧ w' = w := by
  have e12 : decide (12 < (n : Int)) = true := by simp; omega
  have s1 := he.s1
  go_enter Tryz.func67, Tryz.ntmps67
  go_wp2
  go_ret
  exact ⟨rfl, rfl⟩

/-- mix.Check of any list of texts. -/
theorem check_any4 (a : Nat → Addr) (v : Value) (xs : List ByteArray) (w : World) (c : Nat) (pl : Int) (he : Errs4 a w) (hv : Strs w v xs) (hf : IsFault xs c pl) (hs : ∀ k (h : k < xs.length), (xs[k]).size ≤ 1000000) (hm : xs.length < 1000000) :
    Calls Tryz.prog 67 #[v] w fun e w' => ∃ ev, e = .returned ev ∧ ErrIs a w' c pl ev ∧ Below w.heap.size w w' := by
  by_cases h12 : 12 < xs.length
  · obtain ⟨rfl, rfl⟩ := fault_long hf h12
    obtain ⟨p, cap, rfl⟩ := hv.slice
    exact (check_long4 a p _ cap w he h12 hm).mono fun e w' ⟨h1, h2⟩ => ⟨_, h1, Or.inr ⟨1, by decide, rfl, Or.inl ⟨rfl, rfl⟩⟩, by rw [h2]; exact Below.refl _ _⟩
  · rcases hv with ⟨rfl, p, cap, rfl⟩ | ⟨b, o, cap, rfl, hcap, hx⟩
    · obtain ⟨rfl, rfl⟩ := fault_none hf h12 (fun j hj => absurd hj (by simp))
      exact (check_zero p cap w).mono fun e w' ⟨h1, h2⟩ => ⟨_, h1, Or.inl ⟨rfl, rfl, rfl⟩, by rw [h2]; exact Below.refl _ _⟩
    · exact check_core4 a b o cap xs w c pl he hcap hx hf h12 hs
end Go.Proofs.YtmdckddenelneaaGreatDoor
