/- Errors by number and place; the first text of a list. -/
import Derived.Test.YtmkdpchodeckgaaDoorHosts
namespace Go.Proofs.YtmkdpchodeckgaaDoor
open Go.RowKit

namespace Lh
def mem (s : ByteArray) (xs : List ByteArray) : Bool := xs.any fun x => decide (x = s)
theorem mem_true {s : ByteArray} {xs : List ByteArray} (h : s ∈ xs) : mem s xs = true := by
  unfold mem; rw [List.any_eq_true]; exact ⟨s, h, by simp⟩
theorem mem_false {s : ByteArray} {xs : List ByteArray} (h : ¬ s ∈ xs) : mem s xs = false := by
  unfold mem; rw [List.any_eq_false]; intro x hx; simp only [decide_eq_true_eq]; intro e; subst e; exact h hx
end Lh

/-- The value v is the error of number c (0: none) at the place pl (-1: bare). -/
def ErrIs (a : Nat → Addr) (W : World) (c : Nat) (pl : Int) (v : Value) : Prop :=
  (c = 0 ∧ pl = -1 ∧ v = .nilIface) ∨
  (∃ i, i < 9 ∧ c = i + 1 ∧ ((pl = -1 ∧ v = .iface 142 (.pointer (some (a i)))) ∨
    ∃ b, v = .iface 89 (.pointer (some ⟨b, 0, none⟩)) ∧ W.cell? ⟨b, 0, none⟩ = some (.int .i64 pl) ∧ W.cell? ⟨b, 1, none⟩ = some (.iface 142 (.pointer (some (a i))))))

theorem ErrIs.later {a : Nat → Addr} {W W' : World} {c : Nat} {pl : Int} {v : Value} (h : ErrIs a W c pl v) (hb : Below W.heap.size W W') : ErrIs a W' c pl v := by
  rcases h with h | ⟨i, hi, hc, h | ⟨b, hv, h0, h1⟩⟩
  · exact Or.inl h
  · exact Or.inr ⟨i, hi, hc, Or.inl h⟩
  · exact Or.inr ⟨i, hi, hc, Or.inr ⟨b, hv, below_cell hb h0, below_cell hb h1⟩⟩

/- the first place of a text in a list -/
set_option maxHeartbeats 1000000 in
theorem contains_core (b o c : Nat) (xs : List ByteArray) (s : ByteArray) (w : World) (hx : ∀ k (h : k < xs.length), w.cell? ⟨b, o + k, none⟩ = some (.string xs[k])) (hm : xs.length < 1000000) :
    Calls Tryd.prog 61 #[.slice (some ⟨b, o, none⟩) xs.length c, .string s] w fun e w' => (∃ j : Int, e = .returned (.int .i64 j) ∧ decide (0 ≤ j) = Lh.mem s xs) ∧ w' = w := by
  have HX : Hid _ := hx
  clear hx
  go_enter Tryd.func61, Tryd.ntmps61
  go_wp2
  go_loop [8] (fun t => ∃ k : Nat, k ≤ xs.length ∧ t = .int .i64 k ∧ ∀ j (h : j < xs.length), j < k → xs[j] ≠ s) (fun t => xs.length - (intOf t).toNat)
  case atStart => exact ⟨0, Nat.zero_le _, rfl, fun j _ h => absurd h (by omega)⟩
  case round =>
    obtain ⟨k, hk, rfl, hpre⟩ := hrel
    have HP : Hid _ := hpre
    clear hpre
    by_cases hlt : k < xs.length
    · have cx := HX.out k hlt
      generalize hxk : xs[k] = xk at *
      have HXK : Hid _ := hxk
      clear hxk
      by_cases heq : s = xk
      · have hne : (s.toList == xk.toList) = true := bytes_same heq
        have HE : Hid _ := heq
        clear heq
        go_wp2
        go_ret
        refine ⟨⟨(k : Int), rfl, ?_⟩, rfl⟩
        rw [decide_eq_true (by omega), Lh.mem_true]
        rw [HE.out, ← HXK.out]
        exact List.getElem_mem _
      · have hne : (s.toList == xk.toList) = false := bytes_parts heq
        have HE : Hid _ := heq
        clear heq
        go_wp2
        go_round
        case rel =>
          refine ⟨k + 1, by omega, by go_num, fun j h hj => ?_⟩
          by_cases hjk : j = k
          · subst hjk; rw [HXK.out]; exact fun e => HE.out e.symm
          · exact HP.out j h (by omega)
        case measure => simp [intOf]; omega
    · go_wp2
      go_ret
      refine ⟨⟨-1, rfl, ?_⟩, rfl⟩
      rw [decide_eq_false (by omega), Lh.mem_false]
      intro hm
      obtain ⟨j, hj, e⟩ := List.getElem_of_mem hm
      exact HP.out j hj (by omega) e

set_option maxHeartbeats 1000000 in
theorem index_zero (p : Option Addr) (c : Nat) (s : ByteArray) (w : World) :
    Calls Tryd.prog 61 #[.slice p 0 c, .string s] w fun e w' => e = .returned (.int .i64 (-1)) ∧ w' = w := by
  go_enter Tryd.func61, Tryd.ntmps61
  go_wp2
  refine wp_loop_rounds 1 ?_
  rw [rounds_succ]
  go_wp2
  go_ret
  exact ⟨rfl, rfl⟩

/-- slices.Contains of a list of texts. -/
theorem contains_any (v : Value) (xs : List ByteArray) (s : ByteArray) (w : World) (hv : Strs w v xs) (hm : xs.length < 1000000) :
    Calls Tryd.prog 43 #[v, .string s] w fun e w' => e = .returned (.bool (Lh.mem s xs)) ∧ w' = w := by
  have key : Calls Tryd.prog 61 #[v, .string s] w fun e w' => (∃ j : Int, e = .returned (.int .i64 j) ∧ decide (0 ≤ j) = Lh.mem s xs) ∧ w' = w := by
    rcases hv with ⟨rfl, p, c, rfl⟩ | ⟨b, o, c, rfl, _, hc⟩
    · exact (index_zero p c s w).mono fun e w' ⟨h1, h2⟩ => ⟨⟨-1, h1, rfl⟩, h2⟩
    · exact contains_core b o c xs s w hc hm
  clear hv
  go_enter Tryd.func43, Tryd.ntmps43
  go_wp2_with fail
  refine key.mono ?_
  rintro e w1 ⟨⟨j, rfl, hj⟩, rfl⟩
  have HJ : Hid _ := hj
  clear hj key
  go_wp2
  go_ret
  exact ⟨ret_bool HJ.out, rfl⟩

end Go.Proofs.YtmkdpchodeckgaaDoor

/- mix.Check, and the reference's HostsFault. -/
namespace Go.Proofs.YtmkdpchodeckgaaDoor
open Go.RowKit

def Good (xs : List ByteArray) (j : Nat) (h : j < xs.length) : Prop := Lh.isNm xs[j] = true ∧ Lh.mem xs[j] (xs.take j) = false
/-- What is wrong with a list of hosts: the error's number (0: nothing), and where. -/
def IsFault (xs : List ByteArray) (c : Nat) (pl : Int) : Prop :=
  (12 < xs.length ∧ c = 2 ∧ pl = -1) ∨
  (¬ 12 < xs.length ∧ ∃ i, ∃ h : i < xs.length, (∀ j, j < i → ∀ hj : j < xs.length, Good xs j hj) ∧ pl = i ∧ ((Lh.isNm xs[i] = false ∧ c = 4) ∨ (Lh.isNm xs[i] = true ∧ Lh.mem xs[i] (xs.take i) = true ∧ c = 6))) ∨
  (¬ 12 < xs.length ∧ (∀ j, ∀ hj : j < xs.length, Good xs j hj) ∧ c = 0 ∧ pl = -1)

theorem fault_scan (xs : List ByteArray) : ∀ n, n ≤ xs.length → (∀ j, j < n → ∀ hj : j < xs.length, Good xs j hj) ∨ ∃ i, ∃ h : i < xs.length, (∀ j, j < i → ∀ hj : j < xs.length, Good xs j hj) ∧ ¬ Good xs i h
  | 0, _ => Or.inl fun j h => absurd h (by omega)
  | n + 1, hn => by
    rcases fault_scan xs n (by omega) with h | h
    · by_cases hg : Good xs n (by omega)
      · refine Or.inl fun j hj hl => ?_
        by_cases e : j = n
        · subst e; exact hg
        · exact h j (by omega) hl
      · exact Or.inr ⟨n, by omega, h, hg⟩
    · exact Or.inr h

theorem isFault_ex (xs : List ByteArray) : ∃ c pl, IsFault xs c pl := by
  by_cases h12 : 12 < xs.length
  · exact ⟨2, -1, Or.inl ⟨h12, rfl, rfl⟩⟩
  · rcases fault_scan xs xs.length (Nat.le_refl _) with h | ⟨i, hi, h, hg⟩
    · exact ⟨0, -1, Or.inr (Or.inr ⟨h12, fun j hj => h j hj hj, rfl, rfl⟩)⟩
    · cases hn : Lh.isNm xs[i] with
      | false => exact ⟨4, i, Or.inr (Or.inl ⟨h12, i, hi, h, rfl, Or.inl ⟨hn, rfl⟩⟩)⟩
      | true =>
        cases hm : Lh.mem xs[i] (xs.take i) with
        | true => exact ⟨6, i, Or.inr (Or.inl ⟨h12, i, hi, h, rfl, Or.inr ⟨hn, hm, rfl⟩⟩)⟩
        | false => exact absurd ⟨hn, hm⟩ hg

/- what the loops find -/
theorem fault_name {xs : List ByteArray} {c : Nat} {pl : Int} (hf : IsFault xs c pl) (h12 : ¬ 12 < xs.length) {k : Nat} (hk : k < xs.length) (hp : ∀ j, j < k → ∀ hj : j < xs.length, Good xs j hj) (hn : Lh.isNm xs[k] = false) : c = 4 ∧ pl = k := by
  rcases hf with ⟨h, _⟩ | ⟨_, i, hi, h, e, hc⟩ | ⟨_, h, _⟩
  · exact absurd h h12
  · have hik : i = k := by
      rcases Nat.lt_trichotomy i k with hlt | rfl | hgt
      · obtain ⟨g1, g2⟩ := hp i hlt hi
        rcases hc with ⟨hc, _⟩ | ⟨_, hc, _⟩
        · rw [g1] at hc; cases hc
        · rw [g2] at hc; cases hc
      · rfl
      · rw [(h k hgt hk).1] at hn; cases hn
    subst hik
    rcases hc with ⟨_, hc⟩ | ⟨hc, _⟩
    · exact ⟨hc, e⟩
    · rw [hn] at hc; cases hc
  · rw [(h k hk).1] at hn; cases hn
theorem fault_exist {xs : List ByteArray} {c : Nat} {pl : Int} (hf : IsFault xs c pl) (h12 : ¬ 12 < xs.length) {k : Nat} (hk : k < xs.length) (hp : ∀ j, j < k → ∀ hj : j < xs.length, Good xs j hj) (hn : Lh.isNm xs[k] = true) (hm : Lh.mem xs[k] (xs.take k) = true) : c = 6 ∧ pl = k := by
  rcases hf with ⟨h, _⟩ | ⟨_, i, hi, h, e, hc⟩ | ⟨_, h, _⟩
  · exact absurd h h12
  · have hik : i = k := by
      rcases Nat.lt_trichotomy i k with hlt | rfl | hgt
      · obtain ⟨g1, g2⟩ := hp i hlt hi
        rcases hc with ⟨hc, _⟩ | ⟨_, hc, _⟩
        · rw [g1] at hc; cases hc
        · rw [g2] at hc; cases hc
      · rfl
      · rw [(h k hgt hk).2] at hm; cases hm
    subst hik
    rcases hc with ⟨hc, _⟩ | ⟨_, _, hc⟩
    · rw [hn] at hc; cases hc
    · exact ⟨hc, e⟩
  · rw [(h k hk).2] at hm; cases hm
theorem fault_none {xs : List ByteArray} {c : Nat} {pl : Int} (hf : IsFault xs c pl) (h12 : ¬ 12 < xs.length) (hp : ∀ j, ∀ hj : j < xs.length, Good xs j hj) : c = 0 ∧ pl = -1 := by
  rcases hf with ⟨h, _⟩ | ⟨_, i, hi, h, e, hc⟩ | ⟨_, _, h⟩
  · exact absurd h h12
  · obtain ⟨g1, g2⟩ := hp i hi
    rcases hc with ⟨hc, _⟩ | ⟨_, hc, _⟩
    · rw [g1] at hc; cases hc
    · rw [g2] at hc; cases hc
  · exact h
theorem fault_long {xs : List ByteArray} {c : Nat} {pl : Int} (hf : IsFault xs c pl) (h12 : 12 < xs.length) : c = 2 ∧ pl = -1 := by
  rcases hf with ⟨_, h⟩ | ⟨h, _⟩ | ⟨h, _⟩
  · exact h
  · exact absurd h12 h
  · exact absurd h12 h

theorem strs_take {w : World} {b o c : Nat} {xs : List ByteArray} (hcap : xs.length ≤ c) (hx : ∀ k (h : k < xs.length), w.cell? ⟨b, o + k, none⟩ = some (.string xs[k])) (k : Nat) (hk : k ≤ xs.length) : Strs w (.slice (some ⟨b, o, none⟩) k c) (xs.take k) := by
  have hl : (xs.take k).length = k := by simp; omega
  refine Or.inr ⟨b, o, c, by rw [hl], by omega, fun j hj => ?_⟩
  rw [hx j (by omega)]
  simp

set_option maxHeartbeats 1000000 in
theorem check_zero (p : Option Addr) (cap : Nat) (w : World) :
    Calls Tryd.prog 21 #[.slice p 0 cap] w fun e w' => e = .returned .nilIface ∧ w' = w := by
  go_enter Tryd.func21, Tryd.ntmps21
  go_wp2
  refine wp_loop_rounds 1 ?_
  rw [rounds_succ]
  go_wp2
  go_ret
  exact ⟨rfl, rfl⟩

end Go.Proofs.YtmkdpchodeckgaaDoor
