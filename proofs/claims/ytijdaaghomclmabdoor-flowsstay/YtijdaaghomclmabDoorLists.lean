/- Lists of numbers and of texts in memory; the reference's SameInts and SameTexts. -/
import Derived.Test.YtijdaaghomclmabDoorCode
import Derived.Deep.QuietTactic
import Derived.BigQuiet
namespace Go.Proofs.YtijdaaghomclmabDoor
open Go.RowKit

/-- The slice value v reads, in w, as the numbers xs. -/
def Ints (w : World) (v : Value) (xs : List Int) : Prop :=
  (xs = [] ∧ ∃ p c, v = .slice p 0 c) ∨ ∃ b o c, v = .slice (some ⟨b, o, none⟩) xs.length c ∧ ∀ k (h : k < xs.length), w.cell? ⟨b, o + k, none⟩ = some (.int .i64 xs[k])

theorem Ints.later {w w' : World} {v : Value} {xs : List Int} (h : Ints w v xs) (hb : Below w.heap.size w w') : Ints w' v xs := by
  rcases h with h | ⟨b, o, c, rfl, hc⟩
  · exact Or.inl h
  · exact Or.inr ⟨b, o, c, rfl, fun k hk => below_cell hb (hc k hk)⟩

theorem below_drewN {B : Nat} {a w : World} (h : Below B a w) (n : Nat) : Below B a (w.drewN n) := ⟨h.os, h.tape, h.output, h.size, h.block⟩

theorem take_same {α : Type} {xs ys : List α} {k : Nat} (hp : xs.take k = ys.take k) (h1 : k < xs.length) (h2 : k < ys.length) (he : xs[k] = ys[k]) : xs.take (k + 1) = ys.take (k + 1) := by
  rw [List.take_succ_eq_append_getElem h1, List.take_succ_eq_append_getElem h2, hp, he]
theorem take_all {α : Type} {xs ys : List α} {k : Nat} (hp : xs.take k = ys.take k) (h1 : ¬ k < xs.length) (hl : xs.length = ys.length) : xs = ys := by
  rwa [List.take_of_length_le (by omega), List.take_of_length_le (by omega)] at hp
theorem get_parts {α : Type} {xs ys : List α} {k : Nat} (h1 : k < xs.length) (h2 : k < ys.length) (he : xs[k] ≠ ys[k]) : xs ≠ ys := by
  intro e; subst e; exact he rfl
theorem ret_bool {a b : Bool} (h : a = b) : Ending.returned (.bool a) = .returned (.bool b) := by rw [h]

set_option maxHeartbeats 1000000 in
theorem sameInts_core (ba oa ca bb ob cb : Nat) (xs ys : List Int) (w : World) (hx : ∀ k (h : k < xs.length), w.cell? ⟨ba, oa + k, none⟩ = some (.int .i64 xs[k]))
    (hy : ∀ k (h : k < ys.length), w.cell? ⟨bb, ob + k, none⟩ = some (.int .i64 ys[k])) (hl : xs.length = ys.length) (hm : xs.length < 1000000) (r : Bool) (hr : r = decide (xs = ys)) :
    Calls Tryd.prog 18 #[.slice (some ⟨ba, oa, none⟩) xs.length ca, .slice (some ⟨bb, ob, none⟩) ys.length cb] w fun e w' => e = .returned (.bool r) ∧ Below w.heap.size w w' := by
  have hlb : ((xs.length : Int) != (ys.length : Int)) = false := by simp [hl]
  have HL : Hid (xs.length = ys.length) := hl
  have hle : ys.length < 1000000 := by omega
  have HX : Hid _ := hx
  have HY : Hid _ := hy
  have HR : Hid _ := hr
  clear hl hx hy hr
  go_enter Tryd.func18, Tryd.ntmps18
  go_wp2
  go_loopw [5] (fun t W => Below w.heap.size w W ∧ ∃ k : Nat, k ≤ xs.length ∧ t = .int .i64 k ∧ xs.take k = ys.take k) (fun t _ => xs.length - (intOf t).toNat)
  case atStart => exact ⟨Below.refl _ _, 0, Nat.zero_le _, rfl, rfl⟩
  case round =>
    obtain ⟨hb, k, hk, rfl, hpre⟩ := hrel
    have HP : Hid _ := hpre
    clear hpre
    by_cases hlt : k < xs.length
    · have hlt' : k < ys.length := by rw [← HL.out]; exact hlt
      have cx := below_cell hb (HX.out k hlt)
      have cy := below_cell hb (HY.out k hlt')
      have hi1 : (k : Int) < (xs.length : Int) := by omega
      have hi2 : (k : Int) < (ys.length : Int) := by omega
      generalize hxk : xs[k] = xk at *
      generalize hyk : ys[k] = yk at *
      have HXK : Hid _ := hxk
      have HYK : Hid _ := hyk
      clear hxk hyk
      by_cases heq : xk = yk
      · have hne : (xk != yk) = false := by simp [heq]
        have HE : Hid _ := heq
        clear heq
        go_wp2
        go_quiet (fail)
        go_wp2
        exact ⟨⟨below_drewN hb _, k + 1, by omega, by go_num, take_same HP.out hlt hlt' (by rw [HXK.out, HYK.out]; exact HE.out)⟩, by simp [intOf]; omega⟩
      · have hne : (xk != yk) = true := by simp [heq]
        have HE : Hid _ := heq
        clear heq
        go_wp2
        go_quiet (fail)
        go_wp2
        go_ret
        refine ⟨ret_bool ?_, below_drewN hb _⟩
        rw [HR.out]
        exact (decide_eq_false (get_parts hlt hlt' (by rw [HXK.out, HYK.out]; exact HE.out))).symm
    · go_wp2
      go_ret
      refine ⟨ret_bool ?_, hb⟩
      rw [HR.out]
      exact (decide_eq_true (take_all HP.out hlt HL.out)).symm

set_option maxHeartbeats 1000000 in
theorem sameInts_len (pa pb : Option Addr) (na nb ca cb : Nat) (w : World) (h : na ≠ nb) (_hm : na < 1000000) (_hm' : nb < 1000000) :
    Calls Tryd.prog 18 #[.slice pa na ca, .slice pb nb cb] w fun e w' => e = .returned (.bool false) ∧ w' = w := by
  have hlb : ((na : Int) != (nb : Int)) = true := by rw [bne_iff_ne]; omega
  clear h
  go_enter Tryd.func18, Tryd.ntmps18
  go_wp2
  go_ret
  exact ⟨rfl, rfl⟩

set_option maxHeartbeats 1000000 in
theorem sameInts_zero (pa pb : Option Addr) (ca cb : Nat) (w : World) :
    Calls Tryd.prog 18 #[.slice pa 0 ca, .slice pb 0 cb] w fun e w' => e = .returned (.bool true) ∧ w' = w := by
  go_enter Tryd.func18, Tryd.ntmps18
  go_wp2
  refine wp_loop_rounds 1 ?_
  rw [rounds_succ]
  go_wp2
  go_ret
  exact ⟨rfl, rfl⟩

theorem Ints.slice {w : World} {v : Value} {xs : List Int} (h : Ints w v xs) : ∃ p c, v = .slice p xs.length c := by
  rcases h with ⟨rfl, p, c, rfl⟩ | ⟨b, o, c, rfl, _⟩
  · exact ⟨p, c, rfl⟩
  · exact ⟨_, c, rfl⟩

/-- SameInts of lists in memory. -/
theorem sameInts_any (va vb : Value) (xs ys : List Int) (w : World) (hx : Ints w va xs) (hy : Ints w vb ys) (hm : xs.length < 1000000) (hm' : ys.length < 1000000) :
    Calls Tryd.prog 18 #[va, vb] w fun e w' => e = .returned (.bool (decide (xs = ys))) ∧ Below w.heap.size w w' := by
  by_cases hl : xs.length = ys.length
  · rcases hx with ⟨rfl, p, c, rfl⟩ | ⟨b, o, c, rfl, hxc⟩
    · obtain rfl : ys = [] := List.length_eq_zero_iff.1 hl.symm
      obtain ⟨q, d, rfl⟩ := hy.slice
      exact (sameInts_zero p q c d w).mono fun e w' ⟨he, hw⟩ => ⟨by rw [he, decide_eq_true rfl], by rw [hw]; exact Below.refl _ _⟩
    · rcases hy with ⟨rfl, q, d, rfl⟩ | ⟨b', o', c', rfl, hyc⟩
      · obtain rfl : xs = [] := List.length_eq_zero_iff.1 hl
        exact (sameInts_zero _ q c d w).mono fun e w' ⟨he, hw⟩ => ⟨by rw [he, decide_eq_true rfl], by rw [hw]; exact Below.refl _ _⟩
      · exact sameInts_core b o c b' o' c' xs ys w hxc hyc hl hm _ rfl
  · obtain ⟨p, c, rfl⟩ := hx.slice
    obtain ⟨q, d, rfl⟩ := hy.slice
    exact (sameInts_len p q _ _ c d w hl hm hm').mono fun e w' ⟨he, hw⟩ => ⟨by rw [he, decide_eq_false (fun e => hl (by rw [e]))], by rw [hw]; exact Below.refl _ _⟩
end Go.Proofs.YtijdaaghomclmabDoor
