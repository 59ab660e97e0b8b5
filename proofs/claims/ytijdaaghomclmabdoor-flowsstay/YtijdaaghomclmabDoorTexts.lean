/- Lists of texts in memory; the reference's SameTexts. -/
import Derived.Test.YtijdaaghomclmabDoorLists
namespace Go.Proofs.YtijdaaghomclmabDoor
open Go.RowKit

theorem bytes_same {x y : ByteArray} (h : x = y) : (x.toList == y.toList) = true := by subst h; exact beq_self_eq_true _
theorem bytes_parts {x y : ByteArray} (h : x ≠ y) : (x.toList == y.toList) = false := by
  rw [beq_eq_false_iff_ne]
  intro e
  rw [ByteArray.toList_eq, ByteArray.toList_eq] at e
  exact h (ByteArray.ext (Array.toList_inj.1 e))

/-- The slice value v reads, in w, as the texts xs. -/
def Strs (w : World) (v : Value) (xs : List ByteArray) : Prop :=
  (xs = [] ∧ ∃ p c, v = .slice p 0 c) ∨ ∃ b o c, v = .slice (some ⟨b, o, none⟩) xs.length c ∧ xs.length ≤ c ∧ ∀ k (h : k < xs.length), w.cell? ⟨b, o + k, none⟩ = some (.string xs[k])

theorem Strs.later {w w' : World} {v : Value} {xs : List ByteArray} (h : Strs w v xs) (hb : Below w.heap.size w w') : Strs w' v xs := by
  rcases h with h | ⟨b, o, c, rfl, hcap, hc⟩
  · exact Or.inl h
  · exact Or.inr ⟨b, o, c, rfl, hcap, fun k hk => below_cell hb (hc k hk)⟩

set_option maxHeartbeats 1000000 in
theorem sameTexts_core (ba oa ca bb ob cb : Nat) (xs ys : List ByteArray) (w : World) (hx : ∀ k (h : k < xs.length), w.cell? ⟨ba, oa + k, none⟩ = some (.string xs[k]))
    (hy : ∀ k (h : k < ys.length), w.cell? ⟨bb, ob + k, none⟩ = some (.string ys[k])) (hl : xs.length = ys.length) (hm : xs.length < 1000000) (r : Bool) (hr : r = decide (xs = ys)) :
    Calls Tryd.prog 43 #[.slice (some ⟨ba, oa, none⟩) xs.length ca, .slice (some ⟨bb, ob, none⟩) ys.length cb] w fun e w' => e = .returned (.bool r) ∧ Below w.heap.size w w' := by
  have hlb : ((xs.length : Int) != (ys.length : Int)) = false := by simp [hl]
  have HL : Hid (xs.length = ys.length) := hl
  have hle : ys.length < 1000000 := by omega
  have HX : Hid _ := hx
  have HY : Hid _ := hy
  have HR : Hid _ := hr
  clear hl hx hy hr
  go_enter Tryd.func43, Tryd.ntmps43
  go_wp2
  go_loopw [5] (fun t W => Below w.heap.size w W ∧ ∃ k : Nat, k ≤ xs.length ∧ t = .int .i64 k ∧ xs.take k = ys.take k) (fun t _ => xs.length - (intOf t).toNat)
  case atStart => exact ⟨Below.refl _ _, 0, Nat.zero_le _, rfl, rfl⟩
  case round =>
    obtain ⟨hb, k, hk, rfl, hpre⟩ := hrel
    have HP : Hid _ := hpre
    clear hpre
    by_cases hlt : k < xs.length
    · have hlt' : k < ys.length := by rw [← HL.out]; exact hlt
      have cx := below_cell hb (HX.out k hlt)
      have cy := below_cell hb (HY.out k hlt')
      have hi1 : (k : Int) < (xs.length : Int) := by omega
      have hi2 : (k : Int) < (ys.length : Int) := by omega
      generalize hxk : xs[k] = xk at *
      generalize hyk : ys[k] = yk at *
      have HXK : Hid _ := hxk
      have HYK : Hid _ := hyk
      clear hxk hyk
      by_cases heq : xk = yk
      · have hne : (xk.toList == yk.toList) = true := bytes_same heq
        have HE : Hid _ := heq
        clear heq
        go_wp2
        go_quiet (fail)
        go_wp2
        exact ⟨⟨below_drewN hb _, k + 1, by omega, by go_num, take_same HP.out hlt hlt' (by rw [HXK.out, HYK.out]; exact HE.out)⟩, by simp [intOf]; omega⟩
      · have hne : (xk.toList == yk.toList) = false := bytes_parts heq
        have HE : Hid _ := heq
        clear heq
        go_wp2
        go_quiet (fail)
        go_wp2
        go_ret
        refine ⟨ret_bool ?_, below_drewN hb _⟩
        rw [HR.out]
        exact (decide_eq_false (get_parts hlt hlt' (by rw [HXK.out, HYK.out]; exact HE.out))).symm
    · go_wp2
      go_ret
      refine ⟨ret_bool ?_, hb⟩
      rw [HR.out]
      exact (decide_eq_true (take_all HP.out hlt HL.out)).symm

set_option maxHeartbeats 1000000 in
theorem sameTexts_len (pa pb : Option Addr) (na nb ca cb : Nat) (w : World) (h : na ≠ nb) (_hm : na < 1000000) (_hm' : nb < 1000000) :
    Calls Tryd.prog 43 #[.slice pa na ca, .slice pb nb cb] w fun e w' => e = .returned (.bool false) ∧ w' = w := by
  have hlb : ((na : Int) != (nb : Int)) = true := by rw [bne_iff_ne]; omega
  clear h
  go_enter Tryd.func43, Tryd.ntmps43
  go_wp2
  go_ret
  exact ⟨rfl, rfl⟩

set_option maxHeartbeats 1000000 in
theorem sameTexts_zero (pa pb : Option Addr) (ca cb : Nat) (w : World) :
    Calls Tryd.prog 43 #[.slice pa 0 ca, .slice pb 0 cb] w fun e w' => e = .returned (.bool true) ∧ w' = w := by
  go_enter Tryd.func43, Tryd.ntmps43
  go_wp2
  refine wp_loop_rounds 1 ?_
  rw [rounds_succ]
  go_wp2
  go_ret
  exact ⟨rfl, rfl⟩

theorem Strs.slice {w : World} {v : Value} {xs : List ByteArray} (h : Strs w v xs) : ∃ p c, v = .slice p xs.length c := by
  rcases h with ⟨rfl, p, c, rfl⟩ | ⟨b, o, c, rfl, _, _⟩
  · exact ⟨p, c, rfl⟩
  · exact ⟨_, c, rfl⟩

/-- SameTexts of lists in memory. -/
theorem sameTexts_any (va vb : Value) (xs ys : List ByteArray) (w : World) (hx : Strs w va xs) (hy : Strs w vb ys) (hm : xs.length < 1000000) (hm' : ys.length < 1000000) :
    Calls Tryd.prog 43 #[va, vb] w fun e w' => e = .returned (.bool (decide (xs = ys))) ∧ Below w.heap.size w w' := by
  by_cases hl : xs.length = ys.length
  · rcases hx with ⟨rfl, p, c, rfl⟩ | ⟨b, o, c, rfl, _, hxc⟩
    · obtain rfl : ys = [] := List.length_eq_zero_iff.1 hl.symm
      obtain ⟨q, d, rfl⟩ := hy.slice
      exact (sameTexts_zero p q c d w).mono fun e w' ⟨he, hw⟩ => ⟨by rw [he, decide_eq_true rfl], by rw [hw]; exact Below.refl _ _⟩
    · rcases hy with ⟨rfl, q, d, rfl⟩ | ⟨b', o', c', rfl, _, hyc⟩
      · obtain rfl : xs = [] := List.length_eq_zero_iff.1 hl
        exact (sameTexts_zero _ q c d w).mono fun e w' ⟨he, hw⟩ => ⟨by rw [he, decide_eq_true rfl], by rw [hw]; exact Below.refl _ _⟩
      · exact sameTexts_core b o c b' o' c' xs ys w hxc hyc hl hm _ rfl
  · obtain ⟨p, c, rfl⟩ := hx.slice
    obtain ⟨q, d, rfl⟩ := hy.slice
    exact (sameTexts_len p q _ _ c d w hl hm hm').mono fun e w' ⟨he, hw⟩ => ⟨by rw [he, decide_eq_false (fun e => hl (by rw [e]))], by rw [hw]; exact Below.refl _ _⟩
end Go.Proofs.YtijdaaghomclmabDoor
