/- The model of health: Find, IsUp and Ups. -/
import Derived.Test.YtkpjecpaejdgaabDoorHRef0
namespace Go.Proofs.YtkpjecpaejdgaabDoor
open Go.RowKit

set_option maxHeartbeats 1000000 in
theorem find_zero (m : Nat) (p : Option Addr) (cap : Nat) (s : ByteArray) (W : World) (c2 : W.cell? ⟨m, 2, none⟩ = some (.slice p 0 cap)) :
    Calls Tryd.prog 74 #[.pointer (some ⟨m, 0, none⟩), .string s] W fun e w' => e = .returned (.int .i64 (-1)) ∧ w' = W := by
  go_enter Tryd.func74, Tryd.ntmps74
  go_wp2_with fail
  go_loop [5] (fun t => t = .int .i64 0) (fun _ => 0)
  case atStart => rfl
  case round =>
    obtain rfl := hrel
    go_wp2
    go_ret
    exact ⟨rfl, rfl⟩
theorem own_zero {w : World} {base : Nat} {e : TypeId} {size : Nat} {v : Value} {xs : List Value} (h : w.ownsRow base e size v 0 xs) : ∃ p cap, v = .slice p 0 cap := by
  obtain ⟨h1, ⟨rfl, _⟩ | ⟨g, cap, cur, rfl, _⟩⟩ := h
  · exact ⟨_, _, rfl⟩
  · exact ⟨_, _, rfl⟩
/-- Find of any text. -/
theorem find_any {W : World} {m f r : Nat} {L : List Mh} {lv : Value} (h : MH W m f r L lv) (hl : L.length ≤ 12) (s : ByteArray) :
    Calls Tryd.prog 74 #[.pointer (some ⟨m, 0, none⟩), .string s] W fun e w' => e = .returned (.int .i64 (fi (hst L) s)) ∧ w' = W := by
  by_cases h0 : 0 < L.length
  · obtain ⟨g, cap, rfl, _, _, _, hc, _⟩ := row_of_owns3 h.own h0
    exact find_core m g cap L s W hl h.c2 fun i hi => (hc i hi).1
  · obtain rfl : L = [] := List.eq_nil_of_length_eq_zero (by omega)
    obtain ⟨p, cap, rfl⟩ := own_zero h.own
    exact find_zero m p cap s W h.c2
theorem hup_at {l : List Lh.Hh} {s : ByteArray} (hn : (l.map fun x => x.1).Nodup) (h : Lh.hix l s < l.length) : Lh.hup l s = (l[Lh.hix l s]).2.1 := by
  have h1 := Lh.hix_get h
  cases e : (l[Lh.hix l s]).2.1 with
  | true =>
    unfold Lh.hup
    rw [List.any_eq_true]
    exact ⟨_, List.getElem_mem h, by simp [h1, e]⟩
  | false =>
    unfold Lh.hup
    rw [List.any_eq_false]
    intro x hx hc
    simp only [Bool.and_eq_true, decide_eq_true_eq] at hc
    obtain ⟨j, hj, rfl⟩ := List.getElem_of_mem hx
    have h2 : j = Lh.hix l s := by
      have h3 : (l.map fun x => x.1)[j]'(by simpa using hj) = (l.map fun x => x.1)[Lh.hix l s]'(by simpa using h) := by
        simp only [List.getElem_map]
        rw [hc.1, h1]
      exact (List.getElem_inj hn).1 h3
    subst h2
    rw [e] at hc
    cases hc.2
theorem hup_none {l : List Lh.Hh} {s : ByteArray} (h : ¬ Lh.hix l s < l.length) : Lh.hup l s = false := by
  unfold Lh.hup
  rw [List.any_eq_false]
  intro x hx hc
  simp only [Bool.and_eq_true, decide_eq_true_eq] at hc
  exact h (Lh.hix_lt.2 ⟨x, hx, hc.1⟩)

set_option maxHeartbeats 1000000 in
/-- IsUp of any text. -/
theorem isUp_any {W : World} {m f r : Nat} {L : List Mh} {lv : Value} (h : MH W m f r L lv) (hk : Lh.HOk f r (hst L)) (s : ByteArray) :
    Calls Tryd.prog 41 #[.pointer (some ⟨m, 0, none⟩), .string s] W fun e w' => e = .returned (.bool (Lh.hup (hst L) s)) ∧ w' = W := by
  have hl : L.length ≤ 12 := by have := hk.len; rwa [hst_length] at this
  have hfd := find_any h hl s
  by_cases hx : Lh.hix (hst L) s < (hst L).length
  · have HU : Hid (Lh.hup (hst L) s = ((hst L)[Lh.hix (hst L) s]).2.1) := hup_at hk.nodup hx
    have e1 : fi (hst L) s = (Lh.hix (hst L) s : Nat) := by unfold fi; rw [if_pos hx]
    rw [e1] at hfd
    have hx' : Lh.hix (hst L) s < L.length := by rwa [hst_length] at hx
    have e2 : ((hst L)[Lh.hix (hst L) s]).2.1 = (L[Lh.hix (hst L) s]).up := by rw [hst_get]; rfl
    have HU2 : Hid (Lh.hup (hst L) s = (L[Lh.hix (hst L) s]).up) := HU.out.trans e2
    generalize Lh.hix (hst L) s = k at *
    obtain ⟨g, cap, rfl, _, _, _, hc, _⟩ := row_of_owns3 h.own (by omega)
    have c2 := h.c2
    have cu := (hc k hx').2.1
    have hki : (k : Int) < (L.length : Int) := by omega
    clear h hc HU e1 e2 hk hx
    generalize (L[k]).up = u at *
    go_enter Tryd.func41, Tryd.ntmps41
    go_wp2_with fail
    refine hfd.mono ?_
    rintro e w1 ⟨rfl, rfl⟩
    clear hfd
    go_wp2
    go_ret
    exact ⟨by rw [HU2.out]; rfl, rfl⟩
  · have e1 : fi (hst L) s = -1 := by unfold fi; rw [if_neg hx]
    rw [e1] at hfd
    rw [hup_none hx]
    clear h hk hx e1
    go_enter Tryd.func41, Tryd.ntmps41
    go_wp2_with fail
    refine hfd.mono ?_
    rintro e w1 ⟨rfl, rfl⟩
    clear hfd
    go_wp2
    go_ret
    exact ⟨rfl, rfl⟩
def upsN (L : List Mh) (k : Nat) : List ByteArray := Lh.hups (hst (L.take k))
theorem upsN_succ (L : List Mh) {k : Nat} (h : k < L.length) : upsN L (k + 1) = upsN L k ++ (if (L[k]).up then [(L[k]).name] else []) := by
  unfold upsN Lh.hups hst
  rw [List.take_succ_eq_append_getElem h, List.map_append, List.filter_append, List.map_append]
  congr 1
  cases e : (L[k]).up <;> simp [Mh.st, e]
theorem upsN_len (L : List Mh) (k : Nat) (h : k ≤ L.length) : (upsN L k).length ≤ k := by
  unfold upsN Lh.hups hst
  rw [List.length_map]
  refine Nat.le_trans (List.length_filter_le _ _) ?_
  rw [List.length_map, List.length_take]
  omega

set_option maxRecDepth 100000 in
set_option maxHeartbeats 2000000 in
/-- Ups. -/
theorem ups_any {W : World} {m f r : Nat} {L : List Mh} {lv : Value} (h : MH W m f r L lv) (hl : L.length ≤ 12) :
    Calls Tryd.prog 44 #[.pointer (some ⟨m, 0, none⟩)] W fun e w' => ∃ v, e = .returned v ∧ Strs1 w' v (Lh.hups (hst L)) ∧ Below W.heap.size W w' := by
  obtain ⟨i, hi, hz0, hz1, hz2⟩ := info_parts infoS
  obtain ⟨p, cap, hlv⟩ : ∃ p cap, lv = .slice p L.length cap := by
    by_cases h0 : 0 < L.length
    · obtain ⟨g, cap, rfl, _⟩ := row_of_owns3 h.own h0
      exact ⟨_, _, rfl⟩
    · have e0 : L.length = 0 := by omega
      have := h.own
      rw [e0] at this
      rw [e0]
      exact own_zero this
  have HC : Hid (∀ i (hi : i < L.length), ∃ g, p = some ⟨g, 0, none⟩ ∧ W.cell? ⟨g, i * 3, none⟩ = some (.string L[i].name) ∧ W.cell? ⟨g, i * 3 + 1, none⟩ = some (.bool L[i].up)) := fun i hi => by
    obtain ⟨g, cap', e, _, _, _, hc, _⟩ := row_of_owns3 h.own (by omega)
    rw [hlv] at e
    cases e
    exact ⟨g, rfl, (hc i hi).1, (hc i hi).2.1⟩
  have c2 := h.c2
  subst hlv
  clear h
  go_enter Tryd.func44, Tryd.ntmps44
  go_wp2_with fail
  go_loopw [3, 4] (fun v t W' => Below W.heap.size W W' ∧ ∃ k : Nat, k ≤ L.length ∧ t = .int .i64 (k : Nat) ∧ W'.ownsRow W.heap.size 9 1 v (upsN L k).length ((upsN L k).map Value.string)) (fun _ t _ => L.length - (intOf t).toNat)
  case atStart => exact ⟨Below.refl _ _, 0, Nat.zero_le _, rfl, World.ownsRow_nil _ _ _ _⟩
  case round =>
    obtain ⟨hb, k, hk, rfl, hown⟩ := hrel
    obtain ⟨wo, hwo⟩ : ∃ wo, wo = wr := ⟨_, rfl⟩
    subst hwo
    obtain ⟨vo, hvo⟩ : ∃ vo, vo = u3 := ⟨_, rfl⟩
    subst hvo
    have c2' := below_cell hb c2
    by_cases hlt : k < L.length
    · obtain ⟨g, rfl, cn, cu⟩ := HC.out k hlt
      have cn' := below_cell hb cn
      have cu' := below_cell hb cu
      have hki : (k : Int) < (L.length : Int) := by omega
      have hul := upsN_len L k (by omega)
      have hsu := upsN_succ L hlt
      clear cn cu
      generalize (L[k]).name = s at *
      cases hu : (L[k]).up with
      | true =>
        rw [hu] at cu' hsu
        simp only [if_true] at hsu
        have HSU : Hid (upsN L (k + 1) = upsN L k ++ [s]) := hsu
        clear hu hsu
        generalize upsN L k = out at *
        have hown3 := hown.alloc (.cells #[.string s] 9)
        have hnews := cells_one (w := wo) (t := 9) s
        have hbw3 : Below W.heap.size W (wo.alloc (.cells #[.string s] 9)) := hb.alloc hb.size _
        have hmax : out.length + 1 ≤ maxLen := by unfold maxLen; omega
        clear hown
        go_wp2_with (at_builtin; refine wpList_append_own _ rfl _ _ 41 rfl W.heap.size 9 i _ 1 16 Tryd.underlying41 hi hz0 hz1 hz2 rfl (by decide) vo out.length (out.map Value.string) rfl hown3 ⟨wo.heap.size, 0, none⟩ 1 1 [.string s] rfl rfl hnews (fun u hu => by simp at hu; subst hu; rfl) hmax (by omega) hbw3.size ?_)
        intro v' w4 hown4 hg4 _
        have hlo := hown3.lt
        have hb4 : Below W.heap.size W w4 := hbw3.grown hg4 hbw3.size (fun k hk => (hlo k hk).1)
        have hown5 := owns_snoc hown4
        have HOUT : Hid (w4.ownsRow W.heap.size 9 1 v' (out ++ [s]).length ((out ++ [s]).map Value.string)) := by rw [List.length_append]; exact hown5
        clear hown3 hnews hlo hg4 hbw3 hmax hown4 hown5
        go_wp2
        exact ⟨⟨hb4, k + 1, by omega, by go_num, by rw [HSU.out]; exact HOUT.out⟩, by simp [intOf]; omega⟩
      | false =>
        rw [hu] at cu' hsu
        simp only [Bool.false_eq_true, if_false, List.append_nil] at hsu
        have HOUT : Hid (wo.ownsRow W.heap.size 9 1 vo (upsN L (k + 1)).length ((upsN L (k + 1)).map Value.string)) := by rw [hsu]; exact hown
        clear hu hsu hown
        go_wp2
        exact ⟨⟨hb, k + 1, by omega, by go_num, HOUT.out⟩, by simp [intOf]; omega⟩
    · have hki : decide ((k : Int) < (L.length : Int)) = false := by simp; omega
      have HS : Hid (Strs1 wo vo (Lh.hups (hst L))) := by
        have h1 := strs_of_owns hown
        have e : k = L.length := by omega
        unfold upsN at h1
        rw [e, List.take_length] at h1
        exact h1
      clear hown
      go_wp2
      go_ret
      exact ⟨_, rfl, HS.out, hb⟩
end Go.Proofs.YtkpjecpaejdgaabDoor
