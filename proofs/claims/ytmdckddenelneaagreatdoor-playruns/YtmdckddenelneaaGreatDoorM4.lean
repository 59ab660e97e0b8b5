/- The model of health in memory; Find and IsUp. -/
import Derived.Test.YtmdckddenelneaaGreatDoorM0
import Derived.Test.YtmdckddenelneaaGreatDoorM3
import Derived.Shelf.Abstract
import Derived.BigQuiet
import Derived.Deep.RegionHeld3
namespace Go.Proofs.YtmdckddenelneaaGreatDoor
open Go.RowKit

/-- a host of the model: its name, whether it is up, its looks since it turned, the slice that holds them -/
structure Mh where
  name : ByteArray
  up : Bool
  looks : List Bool
  val : Value
/-- how many of the other kind are at the end -/
def trail (up : Bool) (looks : List Bool) : Nat := (looks.reverse.takeWhile fun b => b != up).length
def Mh.st (x : Mh) : Lh.Hh := (x.name, x.up, trail x.up x.looks)
def hst (L : List Mh) : List Lh.Hh := L.map Mh.st
theorem hst_length (L : List Mh) : (hst L).length = L.length := by simp [hst]
theorem hst_get (L : List Mh) {i : Nat} (h : i < (hst L).length) : (hst L)[i] = (L[i]'(by simpa [hst] using h)).st := by simp [hst]
def encH (x : Mh) : List Value := [.string x.name, .bool x.up, x.val]
def flatH (L : List Mh) : List Value := L.flatMap encH
theorem flatH_snoc (L : List Mh) (x : Mh) : flatH (L ++ [x]) = flatH L ++ encH x := by simp [flatH, List.flatMap_append]
theorem flatH_get (L : List Mh) : ∀ i (h : i < L.length), (flatH L)[i * 3]? = some (.string L[i].name) ∧ (flatH L)[i * 3 + 1]? = some (.bool L[i].up) ∧ (flatH L)[i * 3 + 2]? = some L[i].val := by
  induction L with
  | nil => intro i h; cases h
  | cons p P ih =>
    intro i h
    have e : flatH (p :: P) = .string p.name :: .bool p.up :: p.val :: flatH P := rfl
    rw [e]
    match i, h with
    | 0, _ => exact ⟨rfl, rfl, rfl⟩
    | i + 1, h =>
      have := ih i (by simpa using h)
      rw [show (i + 1) * 3 = i * 3 + 1 + 1 + 1 by omega]
      simpa using this
/-- Block m is the model. -/
structure MH (W : World) (m f r : Nat) (L : List Mh) (lv : Value) : Prop where
  c0 : W.cell? ⟨m, 0, none⟩ = some (.int .i64 (f : Nat))
  c1 : W.cell? ⟨m, 1, none⟩ = some (.int .i64 (r : Nat))
  c2 : W.cell? ⟨m, 2, none⟩ = some lv
  fz : ∀ k, W.frozen? ⟨m, k, none⟩ = false
  own : W.ownsRow (m + 1) 94 3 lv L.length (flatH L)
  looks : ∀ x ∈ L, W.ownsRow (m + 1) 4 1 x.val x.looks.length (x.looks.map Value.bool)
  apart : ∀ x ∈ L, x.val.ownBlock = none ∨ x.val.ownBlock ≠ lv.ownBlock
  pair : L.Pairwise fun x y => x.val.ownBlock = none ∨ x.val.ownBlock ≠ y.val.ownBlock
/-- the blocks that it is made of -/
def MFoot (m : Nat) (L : List Mh) (lv : Value) (b : Nat) : Prop := b = m ∨ lv.ownBlock = some b ∨ ∃ x ∈ L, x.val.ownBlock = some b
theorem owns_same {w w' : World} {base : Nat} {e : TypeId} {size : Nat} {v : Value} {n : Nat} {xs : List Value} (h : w.ownsRow base e size v n xs) (he : ∀ g, v.ownBlock = some g → w'.heap[g]? = w.heap[g]?) : w'.ownsRow base e size v n xs := by
  obtain ⟨h1, h2 | ⟨g, cap, cur, rfl, e2, e3, e4⟩⟩ := h
  · exact ⟨h1, Or.inl h2⟩
  · exact ⟨h1, Or.inr ⟨g, cap, cur, rfl, e2, (he g rfl).trans e3, e4⟩⟩
theorem MH.mlt {W : World} {m f r : Nat} {L : List Mh} {lv : Value} (h : MH W m f r L lv) : m < W.heap.size := World.block_lt_of_cell? W ⟨m, 0, none⟩ h.c0
theorem MH.lt {W : World} {m f r : Nat} {L : List Mh} {lv : Value} (h : MH W m f r L lv) : ∀ b, MFoot m L lv b → b < W.heap.size ∧ m ≤ b := by
  rintro b (rfl | e | ⟨x, hx, e⟩)
  · exact ⟨h.mlt, Nat.le_refl _⟩
  · have := h.own.lt b e
    omega
  · have := (h.looks x hx).lt b e
    omega
theorem MH.stay {W W' : World} {m f r : Nat} {L : List Mh} {lv : Value} (h : MH W m f r L lv) (hs : ∀ b, MFoot m L lv b → W'.heap[b]? = W.heap[b]?) : MH W' m f r L lv := by
  have hm := hs m (Or.inl rfl)
  refine ⟨?_, ?_, ?_, fun k => ?_, owns_same h.own fun g e => hs g (Or.inr (Or.inl e)), fun x hx => owns_same (h.looks x hx) fun g e => hs g (Or.inr (Or.inr ⟨x, hx, e⟩)), h.apart, h.pair⟩
  · rw [World.cell?_of_block (w := W) (w' := W') (a := ⟨m, 0, none⟩) hm]; exact h.c0
  · rw [World.cell?_of_block (w := W) (w' := W') (a := ⟨m, 1, none⟩) hm]; exact h.c1
  · rw [World.cell?_of_block (w := W) (w' := W') (a := ⟨m, 2, none⟩) hm]; exact h.c2
  · rw [World.frozen?_of_block (w := W) (w' := W') (a := ⟨m, k, none⟩) hm]; exact h.fz k
theorem MH.later {W W' : World} {m f r : Nat} {L : List Mh} {lv : Value} (h : MH W m f r L lv) (hb : Below W.heap.size W W') : MH W' m f r L lv := h.stay fun b hf => hb.block b (h.lt b hf).1
/-- the row's cells -/
theorem row_of_owns3 {w : World} {base : Nat} {v : Value} {e : TypeId} {L : List Mh} (h : w.ownsRow base e 3 v L.length (flatH L)) (h0 : 0 < L.length) : ∃ g cap, v = .slice (some ⟨g, 0, none⟩) L.length cap ∧ base ≤ g ∧ g < w.heap.size ∧ L.length ≤ cap ∧ (∀ i (h : i < L.length), w.cell? ⟨g, i * 3, none⟩ = some (.string L[i].name) ∧ w.cell? ⟨g, i * 3 + 1, none⟩ = some (.bool L[i].up) ∧ w.cell? ⟨g, i * 3 + 2, none⟩ = some L[i].val) ∧ ∀ k, w.frozen? ⟨g, k, none⟩ = false := by
  obtain ⟨hl, ⟨rfl, h'⟩ | ⟨g, cap, cur, rfl, hbase, hb, hn, hm, hsz, ht⟩⟩ := h
  · omega
  · have hlt : g < w.heap.size := (Array.getElem?_eq_some_iff.1 hb).1
    refine ⟨g, cap, rfl, hbase, hlt, hn, fun i hi => ?_, fun k => by simp [World.frozen?, hb]⟩
    obtain ⟨h1, h2, h3⟩ := flatH_get L i hi
    rw [← ht] at h1 h2 h3
    rw [List.getElem?_take_of_lt (by omega)] at h1 h2 h3
    simp only [World.cell?, hb]
    exact ⟨by simpa using h1, by simpa using h2, by simpa using h3⟩
/-- the number that Find answers -/
def fi (l : List Lh.Hh) (s : ByteArray) : Int := if Lh.hix l s < l.length then ((Lh.hix l s : Nat) : Int) else -1
theorem fi_at {l : List Lh.Hh} {s : ByteArray} {k : Nat} (hk : k < l.length) (hp : ∀ j (h : j < l.length), j < k → (l[j]).1 ≠ s) (he : (l[k]).1 = s) : Lh.hix l s = k := by
  have h1 : Lh.hix l s < l.length := Lh.hix_lt.2 ⟨_, List.getElem_mem hk, he⟩
  rcases Nat.lt_trichotomy (Lh.hix l s) k with h | h | h
  · exact absurd (Lh.hix_get h1) (hp _ h1 h)
  · exact h
  · exact absurd he (Lh.hix_first hk h)

set_option maxRecDepth 100000 in
set_option maxHeartbeats 2000000 in
theorem find_core (m g cap : Nat) (L : List Mh) (s : ByteArray) (W : World) (hl : L.length ≤ 12) (c2 : W.cell? ⟨m, 2, none⟩ = some (.slice (some ⟨g, 0, none⟩) L.length cap)) (hc : ∀ i (h : i < L.length), W.cell? ⟨g, i * 3, none⟩ = some (.string L[i].name)) :
    Calls Tryz.prog 96 #[.pointer (some ⟨m, 0, none⟩), .string s] W fun e w' => e = .returned (.int .i64 (fi (hst L) s)) ∧ w' = W := by
  have HC : Hid (∀ i (h : i < L.length), W.cell? ⟨g, i * 3, none⟩ = some (.string L[i].name)) := hc
  clear hc
  go_enter Tryz.func96, Tryz.ntmps96
  go_wp2_with fail
  go_loop [5] (fun t => ∃ k : Nat, k ≤ L.length ∧ t = .int .i64 (k : Nat) ∧ ∀ j (h : j < (hst L).length), j < k → ((hst L)[j]).1 ≠ s) (fun t => L.length - (intOf t).toNat)
  case atStart => exact ⟨0, Nat.zero_le _, rfl, fun j _ h => absurd h (by omega)⟩
  case round =>
    obtain ⟨k, hk, rfl, hp⟩ := hrel
    have HP : Hid (∀ j (h : j < (hst L).length), j < k → ((hst L)[j]).1 ≠ s) := hp
    clear hp
    by_cases hlt : k < L.length
    · have cx := HC.out k hlt
      have hki : (k : Int) < (L.length : Int) := by omega
      have hkh : k < (hst L).length := by rw [hst_length]; exact hlt
      have hnm : ((hst L)[k]).1 = (L[k]).name := by rw [hst_get]; rfl
      by_cases he : (L[k]).name = s
      · have HF : Hid (fi (hst L) s = (k : Nat)) := by
          have h1 := fi_at hkh HP.out (hnm.trans he)
          show fi (hst L) s = (k : Nat)
          unfold fi
          rw [h1, if_pos hkh]
        have hq := bytes_same he
        clear he hnm
        generalize (L[k]).name = t at *
        go_wp2
        go_ret
        exact ⟨by rw [HF.out]; rfl, rfl⟩
      · have HPN : Hid (∀ j (h : j < (hst L).length), j < k + 1 → ((hst L)[j]).1 ≠ s) := fun j h hj => by
          by_cases e : j = k
          · subst e
            rw [hnm]
            exact he
          · exact HP.out j h (by omega)
        have hq := bytes_parts he
        clear he hnm
        generalize (L[k]).name = t at *
        go_wp2
        go_round
        case rel => exact ⟨k + 1, by omega, by go_num, HPN.out⟩
        case measure => simp [intOf]; omega
    · have hki : decide ((k : Int) < (L.length : Int)) = false := by simp; omega
      have HF : Hid (fi (hst L) s = -1) := by
        show fi (hst L) s = -1
        unfold fi
        rw [if_neg]
        intro h
        exact HP.out _ h (by rw [hst_length] at h; omega) (Lh.hix_get h)
      go_wp2
      go_ret
      exact ⟨by rw [HF.out]; rfl, rfl⟩
end Go.Proofs.YtmdckddenelneaaGreatDoor

/- The model of health: Find, IsUp and Ups. -/
namespace Go.Proofs.YtmdckddenelneaaGreatDoor
open Go.RowKit

set_option maxHeartbeats 1000000 in
theorem find_zero (m : Nat) (p : Option Addr) (cap : Nat) (s : ByteArray) (W : World) (c2 : W.cell? ⟨m, 2, none⟩ = some (.slice p 0 cap)) :
    Calls Tryz.prog 96 #[.pointer (some ⟨m, 0, none⟩), .string s] W fun e w' => e = .returned (.int .i64 (-1)) ∧ w' = W := by
  go_enter Tryz.func96, Tryz.ntmps96
  go_wp2_with fail
  go_loop [5] (fun t => t = .int .i64 0) (fun _ => 0)
  case atStart => rfl
  case round =>
    obtain rfl := hrel
    go_wp2
    go_ret
    exact ⟨rfl, rfl⟩
theorem own_zero {w : World} {base : Nat} {e : TypeId} {size : Nat} {v : Value} {xs : List Value} (h : w.ownsRow base e size v 0 xs) : ∃ p cap, v = .slice p 0 cap := by
  obtain ⟨h1, ⟨rfl, _⟩ | ⟨g, cap, cur, rfl, _⟩⟩ := h
  · exact ⟨_, _, rfl⟩
  · exact ⟨_, _, rfl⟩
/-- Find of any text. -/
theorem find_any {W : World} {m f r : Nat} {L : List Mh} {lv : Value} (h : MH W m f r L lv) (hl : L.length ≤ 12) (s : ByteArray) :
    Calls Tryz.prog 96 #[.pointer (some ⟨m, 0, none⟩), .string s] W fun e w' => e = .returned (.int .i64 (fi (hst L) s)) ∧ w' = W := by
  by_cases h0 : 0 < L.length
  · obtain ⟨g, cap, rfl, _, _, _, hc, _⟩ := row_of_owns3 h.own h0
    exact find_core m g cap L s W hl h.c2 fun i hi => (hc i hi).1
  · obtain rfl : L = [] := List.eq_nil_of_length_eq_zero (by omega)
    obtain ⟨p, cap, rfl⟩ := own_zero h.own
    exact find_zero m p cap s W h.c2
theorem hup_at {l : List Lh.Hh} {s : ByteArray} (hn : (l.map fun x => x.1).Nodup) (h : Lh.hix l s < l.length) : Lh.hup l s = (l[Lh.hix l s]).2.1 := by
  have h1 := Lh.hix_get h
  cases e : (l[Lh.hix l s]).2.1 with
  | true =>
    unfold Lh.hup
    rw [List.any_eq_true]
    exact ⟨_, List.getElem_mem h, by simp [h1, e]⟩
  | false =>
    unfold Lh.hup
    rw [List.any_eq_false]
    intro x hx hc
    simp only [Bool.and_eq_true, decide_eq_true_eq] at hc
    obtain ⟨j, hj, rfl⟩ := List.getElem_of_mem hx
    have h2 : j = Lh.hix l s := by
      have h3 : (l.map fun x => x.1)[j]'(by simpa using hj) = (l.map fun x => x.1)[Lh.hix l s]'(by simpa using h) := by
        simp only [List.getElem_map]
        rw [hc.1, h1]
      exact (List.getElem_inj hn).1 h3
    subst h2
    rw [e] at hc
    cases hc.2
theorem hup_none {l : List Lh.Hh} {s : ByteArray} (h : ¬ Lh.hix l s < l.length) : Lh.hup l s = false := by
  unfold Lh.hup
  rw [List.any_eq_false]
  intro x hx hc
  simp only [Bool.and_eq_true, decide_eq_true_eq] at hc
  exact h (Lh.hix_lt.2 ⟨x, hx, hc.1⟩)

set_option maxHeartbeats 1000000 in
/-- IsUp of any text. -/
theorem isUp_any {W : World} {m f r : Nat} {L : List Mh} {lv : Value} (h : MH W m f r L lv) (hk : Lh.HOk f r (hst L)) (s : ByteArray) :
    Calls Tryz.prog 94 #[.pointer (some ⟨m, 0, none⟩), .string s] W fun e w' => e = .returned (.bool (Lh.hup (hst L) s)) ∧ w' = W := by
  have hl : L.length ≤ 12 := by have := hk.len; rwa [hst_length] at this
  have hfd := find_any h hl s
  by_cases hx : Lh.hix (hst L) s < (hst L).length
  · have HU : Hid (Lh.hup (hst L) s = ((hst L)[Lh.hix (hst L) s]).2.1) := hup_at hk.nodup hx
    have e1 : fi (hst L) s = (Lh.hix (hst L) s : Nat) := by unfold fi; rw [if_pos hx]
    rw [e1] at hfd
    have hx' : Lh.hix (hst L) s < L.length := by rwa [hst_length] at hx
    have e2 : ((hst L)[Lh.hix (hst L) s]).2.1 = (L[Lh.hix (hst L) s]).up := by rw [hst_get]; rfl
    have HU2 : Hid (Lh.hup (hst L) s = (L[Lh.hix (hst L) s]).up) := HU.out.trans e2
    generalize Lh.hix (hst L) s = k at *
    obtain ⟨g, cap, rfl, _, _, _, hc, _⟩ := row_of_owns3 h.own (by omega)
    have c2 := h.c2
    have cu := (hc k hx').2.1
    have hki : (k : Int) < (L.length : Int) := by omega
    clear h hc HU e1 e2 hk hx
    generalize (L[k]).up = u at *
    go_enter Tryz.func94, Tryz.ntmps94
    go_wp2_with fail
    refine hfd.mono ?_
    rintro e w1 ⟨rfl, rfl⟩
    clear hfd
    go_wp2
    go_ret
    exact ⟨by rw [HU2.out]; rfl, rfl⟩
  · have e1 : fi (hst L) s = -1 := by unfold fi; rw [if_neg hx]
    rw [e1] at hfd
    rw [hup_none hx]
    clear h hk hx e1
    go_enter Tryz.func94, Tryz.ntmps94
    go_wp2_with fail
    refine hfd.mono ?_
    rintro e w1 ⟨rfl, rfl⟩
    clear hfd
    go_wp2
    go_ret
    exact ⟨rfl, rfl⟩
def upsN (L : List Mh) (k : Nat) : List ByteArray := Lh.hups (hst (L.take k))
theorem upsN_succ (L : List Mh) {k : Nat} (h : k < L.length) : upsN L (k + 1) = upsN L k ++ (if (L[k]).up then [(L[k]).name] else []) := by
  unfold upsN Lh.hups hst
  rw [List.take_succ_eq_append_getElem h, List.map_append, List.filter_append, List.map_append]
  congr 1
  cases e : (L[k]).up <;> simp [Mh.st, e]
theorem upsN_len (L : List Mh) (k : Nat) (h : k ≤ L.length) : (upsN L k).length ≤ k := by
  unfold upsN Lh.hups hst
  rw [List.length_map]
  refine Nat.le_trans (List.length_filter_le _ _) ?_
  rw [List.length_map, List.length_take]
  omega

set_option maxRecDepth 100000 in
set_option maxHeartbeats 2000000 in
/-- Ups. -/
theorem ups_any {W : World} {m f r : Nat} {L : List Mh} {lv : Value} (h : MH W m f r L lv) (hl : L.length ≤ 12) :
    Calls Tryz.prog 27 #[.pointer (some ⟨m, 0, none⟩)] W fun e w' => ∃ v, e = .returned v ∧ Strs1 w' v (Lh.hups (hst L)) ∧ Below W.heap.size W w' := by
  obtain ⟨i, hi, hz0, hz1, hz2⟩ := info_parts infoS
  obtain ⟨p, cap, hlv⟩ : ∃ p cap, lv = .slice p L.length cap := by
    by_cases h0 : 0 < L.length
    · obtain ⟨g, cap, rfl, _⟩ := row_of_owns3 h.own h0
      exact ⟨_, _, rfl⟩
    · have e0 : L.length = 0 := by omega
      have := h.own
      rw [e0] at this
      rw [e0]
      exact own_zero this
  have HC : Hid (∀ i (hi : i < L.length), ∃ g, p = some ⟨g, 0, none⟩ ∧ W.cell? ⟨g, i * 3, none⟩ = some (.string L[i].name) ∧ W.cell? ⟨g, i * 3 + 1, none⟩ = some (.bool L[i].up)) := fun i hi => by
    obtain ⟨g, cap', e, _, _, _, hc, _⟩ := row_of_owns3 h.own (by omega)
    rw [hlv] at e
    cases e
    exact ⟨g, rfl, (hc i hi).1, (hc i hi).2.1⟩
  have c2 := h.c2
  subst hlv
  clear h
  go_enter Tryz.func27, Tryz.ntmps27
  go_wp2_with fail
  go_loopw [3, 4] (fun v t W' => Below W.heap.size W W' ∧ ∃ k : Nat, k ≤ L.length ∧ t = .int .i64 (k : Nat) ∧ W'.ownsRow W.heap.size 9 1 v (upsN L k).length ((upsN L k).map Value.string)) (fun _ t _ => L.length - (intOf t).toNat)
  case atStart => exact ⟨Below.refl _ _, 0, Nat.zero_le _, rfl, World.ownsRow_nil _ _ _ _⟩
  case round =>
    obtain ⟨hb, k, hk, rfl, hown⟩ := hrel
    obtain ⟨wo, hwo⟩ : ∃ wo, wo = wr := ⟨_, rfl⟩
    subst hwo
    obtain ⟨vo, hvo⟩ : ∃ vo, vo = u3 := ⟨_, rfl⟩
    subst hvo
    have c2' := below_cell hb c2
    by_cases hlt : k < L.length
    · obtain ⟨g, rfl, cn, cu⟩ := HC.out k hlt
      have cn' := below_cell hb cn
      have cu' := below_cell hb cu
      have hki : (k : Int) < (L.length : Int) := by omega
      have hul := upsN_len L k (by omega)
      have hsu := upsN_succ L hlt
      clear cn cu
      generalize (L[k]).name = s at *
      cases hu : (L[k]).up with
      | true =>
        rw [hu] at cu' hsu
        simp only [if_true] at hsu
        have HSU : Hid (upsN L (k + 1) = upsN L k ++ [s]) := hsu
        clear hu hsu
        generalize upsN L k = out at *
        have hown3 := hown.alloc (.cells #[.string s] 9)
        have hnews := cells_one (w := wo) (t := 9) s
        have hbw3 : Below W.heap.size W (wo.alloc (.cells #[.string s] 9)) := hb.alloc hb.size _
        have hmax : out.length + 1 ≤ maxLen := by unfold maxLen; omega
        clear hown
        go_wp2_with (at_builtin; refine wpList_append_own _ rfl _ _ 22 rfl W.heap.size 9 i _ 1 16 Tryz.underlying22 hi hz0 hz1 hz2 rfl (by decide) vo out.length (out.map Value.string) rfl hown3 ⟨wo.heap.size, 0, none⟩ 1 1 [.string s] rfl rfl hnews (fun u hu => by simp at hu; subst hu; rfl) hmax (by omega) hbw3.size ?_)
        intro v' w4 hown4 hg4 _
        have hlo := hown3.lt
        have hb4 : Below W.heap.size W w4 := hbw3.grown hg4 hbw3.size (fun k hk => (hlo k hk).1)
        have hown5 := owns_snoc hown4
        have HOUT : Hid (w4.ownsRow W.heap.size 9 1 v' (out ++ [s]).length ((out ++ [s]).map Value.string)) := by rw [List.length_append]; exact hown5
        clear hown3 hnews hlo hg4 hbw3 hmax hown4 hown5
        go_wp2
        exact ⟨⟨hb4, k + 1, by omega, by go_num, by rw [HSU.out]; exact HOUT.out⟩, by simp [intOf]; omega⟩
      | false =>
        rw [hu] at cu' hsu
        simp only [Bool.false_eq_true, if_false, List.append_nil] at hsu
        have HOUT : Hid (wo.ownsRow W.heap.size 9 1 vo (upsN L (k + 1)).length ((upsN L (k + 1)).map Value.string)) := by rw [hsu]; exact hown
        clear hu hsu hown
        go_wp2
        exact ⟨⟨hb, k + 1, by omega, by go_num, HOUT.out⟩, by simp [intOf]; omega⟩
    · have hki : decide ((k : Int) < (L.length : Int)) = false := by simp; omega
      have HS : Hid (Strs1 wo vo (Lh.hups (hst L))) := by
        have h1 := strs_of_owns hown
        have e : k = L.length := by omega
        unfold upsN at h1
        rw [e, List.take_length] at h1
        exact h1
      clear hown
      go_wp2
      go_ret
      exact ⟨_, rfl, HS.out, hb⟩
end Go.Proofs.YtmdckddenelneaaGreatDoor

/- The landed health in memory: a block, a row of pointers, a block a host; find. -/
namespace Go.Proofs.YtmdckddenelneaaGreatDoor
open Go.RowKit Go.Shelf

def ptrS (b : Nat) : Value := .pointer (some ⟨b, 0, none⟩)
/-- Block b is a host's state. -/
structure HSt (W : World) (b : Nat) (x : Lh.Hh) : Prop where
  c0 : W.cell? ⟨b, 0, none⟩ = some (.string x.1)
  c1 : W.cell? ⟨b, 1, none⟩ = some (.bool x.2.1)
  c2 : W.cell? ⟨b, 2, none⟩ = some (.int .i64 (x.2.2 : Nat))
  fz : ∀ k, W.frozen? ⟨b, k, none⟩ = false
  blk : ∃ cs t, W.heap[b]? = some (.cells cs t (0, 0))
theorem HSt.lt {W : World} {b : Nat} {x : Lh.Hh} (h : HSt W b x) : b < W.heap.size := World.block_lt_of_cell? W ⟨b, 0, none⟩ h.c0
theorem HSt.same {W W' : World} {b : Nat} {x : Lh.Hh} (h : HSt W b x) (e : W'.heap[b]? = W.heap[b]?) : HSt W' b x :=
  ⟨(World.cell?_of_block (w := W) (w' := W') (a := ⟨b, 0, none⟩) e).trans h.c0, (World.cell?_of_block (w := W) (w' := W') (a := ⟨b, 1, none⟩) e).trans h.c1, (World.cell?_of_block (w := W) (w' := W') (a := ⟨b, 2, none⟩) e).trans h.c2, fun k => (World.frozen?_of_block (w := W) (w' := W') (a := ⟨b, k, none⟩) e).trans (h.fz k), by rw [e]; exact h.blk⟩
/-- Block p is the landed health. -/
structure HR (W : World) (p f r : Nat) (l : List Lh.Hh) (bs : List Nat) (lv : Value) : Prop where
  c0 : W.cell? ⟨p, 0, none⟩ = some (.int .i64 (f : Nat))
  c1 : W.cell? ⟨p, 1, none⟩ = some (.int .i64 (r : Nat))
  c2 : W.cell? ⟨p, 2, none⟩ = some lv
  fz : ∀ k, W.frozen? ⟨p, k, none⟩ = false
  own : W.ownsRow (p + 1) 135 1 lv l.length (bs.map ptrS)
  len : bs.length = l.length
  st : ∀ i (h : i < l.length) (h2 : i < bs.length), HSt W bs[i] l[i]
  nd : bs.Nodup
  gt : ∀ b ∈ bs, p < b
  apart : ∀ b ∈ bs, lv.ownBlock ≠ some b
/-- the blocks that it is made of -/
def HFoot (p : Nat) (bs : List Nat) (lv : Value) (b : Nat) : Prop := b = p ∨ lv.ownBlock = some b ∨ b ∈ bs
section
variable {W W' : World} {p f r : Nat} {l : List Lh.Hh} {bs : List Nat} {lv : Value}
theorem HR.plt (h : HR W p f r l bs lv) : p < W.heap.size := World.block_lt_of_cell? W ⟨p, 0, none⟩ h.c0
theorem HR.blt (h : HR W p f r l bs lv) {b : Nat} (hb : b ∈ bs) : b < W.heap.size := by
  obtain ⟨i, hi, rfl⟩ := List.getElem_of_mem hb
  exact (h.st i (by rw [← h.len]; exact hi) hi).lt
theorem HR.lt (h : HR W p f r l bs lv) : ∀ b, HFoot p bs lv b → b < W.heap.size ∧ p ≤ b := by
  rintro b (rfl | e | hb)
  · exact ⟨h.plt, Nat.le_refl _⟩
  · have := h.own.lt b e
    omega
  · exact ⟨h.blt hb, Nat.le_of_lt (h.gt b hb)⟩
theorem HR.stay (h : HR W p f r l bs lv) (hs : ∀ b, HFoot p bs lv b → W'.heap[b]? = W.heap[b]?) : HR W' p f r l bs lv := by
  have hm := hs p (Or.inl rfl)
  refine ⟨?_, ?_, ?_, fun k => ?_, owns_same h.own fun g e => hs g (Or.inr (Or.inl e)), h.len, fun i h1 h2 => (h.st i h1 h2).same (hs _ (Or.inr (Or.inr (List.getElem_mem h2)))), h.nd, h.gt, h.apart⟩
  · rw [World.cell?_of_block (w := W) (w' := W') (a := ⟨p, 0, none⟩) hm]; exact h.c0
  · rw [World.cell?_of_block (w := W) (w' := W') (a := ⟨p, 1, none⟩) hm]; exact h.c1
  · rw [World.cell?_of_block (w := W) (w' := W') (a := ⟨p, 2, none⟩) hm]; exact h.c2
  · rw [World.frozen?_of_block (w := W) (w' := W') (a := ⟨p, k, none⟩) hm]; exact h.fz k
theorem HR.later (h : HR W p f r l bs lv) (hb : Below W.heap.size W W') : HR W' p f r l bs lv := h.stay fun b hf => hb.block b (h.lt b hf).1
/-- the row's cells -/
theorem HR.row (h : HR W p f r l bs lv) (h0 : 0 < l.length) : ∃ g cap, lv = .slice (some ⟨g, 0, none⟩) l.length cap ∧ l.length ≤ cap ∧ cap ≤ maxLen ∧ p < g ∧ (∀ i (h2 : i < bs.length), W.cell? ⟨g, i, none⟩ = some (ptrS bs[i])) ∧ ∀ k, W.frozen? ⟨g, k, none⟩ = false := by
  obtain ⟨hl, ⟨e0, h'⟩ | ⟨g, cap, cur, rfl, hbase, hb, hn, hm, hsz, ht⟩⟩ := h.own
  · omega
  · refine ⟨g, cap, rfl, hn, hm, by omega, fun i hi => ?_, fun k => by simp [World.frozen?, hb]⟩
    have hl := h.len
    have h1 : (bs.map ptrS)[i]? = some (ptrS bs[i]) := by simp [hi]
    rw [← ht, List.getElem?_take_of_lt (by omega)] at h1
    simp only [World.cell?, hb]
    simpa using h1
theorem HR.shape (h : HR W p f r l bs lv) : ∃ q cap, lv = .slice q l.length cap := by
  obtain ⟨_, ⟨rfl, h'⟩ | ⟨g, cap, cur, rfl, _⟩⟩ := h.own
  · exact ⟨_, _, by rw [h']⟩
  · exact ⟨_, _, rfl⟩
end

set_option maxHeartbeats 1000000 in
/-- the function handed to slices.IndexFunc -/
theorem findC (hb b : Nat) (s t : ByteArray) (W : World) (h1 : W.cell? ⟨hb, 0, none⟩ = some (.string s)) (h2 : W.cell? ⟨b, 0, none⟩ = some (.string t)) :
    Calls Tryz.prog 179 #[ptrS b, ptrS hb] W fun e w' => e = .returned (.bool (decide (t = s))) ∧ Below W.heap.size W w' := by
  unfold ptrS
  by_cases he : t = s
  · have hq := bytes_same he
    have HE : Hid (t = s) := he
    clear he
    go_enter Tryz.func179, Tryz.ntmps179
    go_wp2
    go_quiet (fail)
    go_wp2
    go_ret
    exact ⟨by simp [HE.out], below_drewN (Below.refl _ _) _⟩
  · have hq := bytes_parts he
    have HE : Hid (¬ t = s) := he
    clear he
    go_enter Tryz.func179, Tryz.ntmps179
    go_wp2
    go_quiet (fail)
    go_wp2
    go_ret
    exact ⟨by simp [HE.out], below_drewN (Below.refl _ _) _⟩
theorem entersFd : ∀ args w, (callFunc 179 args).run Tryz.prog w = .ok (.enter 179 args) w := enters_of Tryz.func179 (by kernel_rfl) rfl

set_option maxRecDepth 100000 in
set_option maxHeartbeats 2000000 in
theorem indexS_core (hb : Nat) (q : Option Addr) (c : Nat) (l : List Lh.Hh) (bs : List Nat) (s : ByteArray) (W : World) (hlen : bs.length = l.length) (hl : l.length ≤ 12) (hc : ∀ k (h : k < l.length) (h2 : k < bs.length), ∃ g, q = some ⟨g, 0, none⟩ ∧ W.cell? ⟨g, k, none⟩ = some (ptrS bs[k]) ∧ W.cell? ⟨bs[k], 0, none⟩ = some (.string (l[k]).1)) (h1 : W.cell? ⟨hb, 0, none⟩ = some (.string s)) :
    Calls Tryz.prog 178 #[.slice q l.length c, .func (.func 179) #[] #[ptrS hb]] W fun e w' => e = .returned (.int .i64 (fi l s)) ∧ Below W.heap.size W w' := by
  have HC : Hid (∀ k (h : k < l.length) (h2 : k < bs.length), ∃ g, q = some ⟨g, 0, none⟩ ∧ W.cell? ⟨g, k, none⟩ = some (ptrS bs[k]) ∧ W.cell? ⟨bs[k], 0, none⟩ = some (.string (l[k]).1)) := hc
  have HCL : Hid (∀ (W' : World) (b : Nat) (t : ByteArray), Below W.heap.size W W' → W.cell? ⟨b, 0, none⟩ = some (.string t) → Calls Tryz.prog 179 #[ptrS b, ptrS hb] W' fun e w' => e = .returned (.bool (decide (t = s))) ∧ Below W.heap.size W w') := fun W' b t hB h2 => (findC hb b s t W' (below_cell hB h1) (below_cell hB h2)).mono fun _ _ ⟨e, k⟩ => ⟨e, below_then hB k⟩
  have HLN : Hid (bs.length = l.length) := hlen
  have eg := entersFd
  clear hc h1 hlen
  go_enter Tryz.func178, Tryz.ntmps178
  go_wp2_with fail
  go_loopw [5, 8] (fun _ t W' => Below W.heap.size W W' ∧ ∃ k : Nat, k ≤ l.length ∧ t = .int .i64 (k : Nat) ∧ ∀ j (h : j < l.length), j < k → (l[j]).1 ≠ s) (fun _ t _ => l.length + 1 - (intOf t).toNat)
  case atStart => exact ⟨Below.refl _ _, 0, Nat.zero_le _, rfl, fun j _ h => absurd h (by omega)⟩
  case round =>
    obtain ⟨hB, k, hk, rfl, hp⟩ := hrel
    have HP : Hid (∀ j (h : j < l.length), j < k → (l[j]).1 ≠ s) := hp
    clear hp
    by_cases hlt : k < l.length
    · have hlt2 : k < bs.length := by rw [HLN.out]; exact hlt
      obtain ⟨g, rfl, c1, c2⟩ := HC.out k hlt hlt2
      have hki : (k : Int) < (l.length : Int) := by omega
      have hcall := HCL.out _ _ _ hB c2
      have c1' := below_cell hB c1
      have HE : Hid (decide ((l[k]).1 = s) = true → fi l s = (k : Nat)) := fun h => by
        have h1 := fi_at hlt HP.out (of_decide_eq_true h)
        unfold fi
        rw [h1, if_pos hlt]
      have HN : Hid (decide ((l[k]).1 = s) = false → ∀ j (h : j < l.length), j < k + 1 → (l[j]).1 ≠ s) := fun h j hj hjk => by
        by_cases e : j = k
        · subst e
          exact of_decide_eq_false h
        · exact HP.out j hj (by omega)
      clear c1 c2
      generalize bs[k] = b at *
      unfold ptrS at c1' hcall
      unfold ptrS
      cases hd : decide ((l[k]).1 = s) with
      | true =>
        have HE2 : Hid (fi l s = (k : Nat)) := HE.out hd
        rw [hd] at hcall
        clear hd HN HE
        go_wp2_with (go_at_fn 179; refine hcall.mono ?_; rintro e w' ⟨rfl, hB2⟩)
        go_ret
        exact ⟨by rw [HE2.out]; rfl, hB2⟩
      | false =>
        have HN2 : Hid (∀ j (h : j < l.length), j < k + 1 → (l[j]).1 ≠ s) := HN.out hd
        rw [hd] at hcall
        clear hd HN HE
        go_wp2_with (go_at_fn 179; refine hcall.mono ?_; rintro e w' ⟨rfl, hB2⟩)
        go_roundw
        case rel => exact ⟨hB2, k + 1, by omega, by go_num, HN2.out⟩
        case measure => simp [intOf]; omega
    · have hki : decide ((k : Int) < (l.length : Int)) = false := by simp; omega
      have HF : Hid (fi l s = -1) := by
        show fi l s = -1
        unfold fi
        rw [if_neg]
        intro h
        exact HP.out _ h (by omega) (Lh.hix_get h)
      go_wp2
      go_ret
      exact ⟨by rw [HF.out]; rfl, hB⟩
end Go.Proofs.YtmdckddenelneaaGreatDoor

/- The landed health: find, Is and Look. -/
namespace Go.Proofs.YtmdckddenelneaaGreatDoor
open Go.RowKit Go.Shelf

theorem Tur.setCell {F : Nat → Prop} {w w' : World} (h : Tur F w w') {x : Nat} (k : Nat) (hx : F x ∨ w.heap.size ≤ x) (v : Value) : Tur F w (w'.setCell ⟨x, k, none⟩ v) :=
  ⟨h.os, h.tape, h.output, by simpa [World.setCell] using h.size, fun j hj hf => (heap_setCell_other w' ⟨x, k, none⟩ j v (fun e => by
    rcases hx with h1 | h1
    · exact hf (e ▸ h1)
    · have : j = x := e
      omega)).trans (h.block j hj hf)⟩
section
variable {W W' : World} {p f r : Nat} {l : List Lh.Hh} {bs : List Nat} {lv : Value}
theorem HR.at (h : HR W p f r l bs lv) {k : Nat} (hk : k < l.length) : ∃ b, bs[k]? = some b := ⟨bs[k]'(by rw [h.len]; exact hk), by simp [h.len, hk]⟩
theorem HR.stAt (h : HR W p f r l bs lv) {k b : Nat} (hb : bs[k]? = some b) (hk : k < l.length) : HSt W b l[k] := by
  obtain ⟨h2, rfl⟩ := List.getElem?_eq_some_iff.1 hb
  exact h.st k hk h2
theorem HR.turned (h : HR W p f r l bs lv) {k b : Nat} (hb : bs[k]? = some b) (_hk : k < l.length) (hT : Tur (fun j => j = b) W W') {x : Lh.Hh} (hx : HSt W' b x) : HR W' p f r (l.set k x) bs lv ∧ Tur (HFoot p bs lv) W W' := by
  obtain ⟨h2, e⟩ := List.getElem?_eq_some_iff.1 hb
  have hmem : b ∈ bs := e ▸ List.getElem_mem h2
  have hp := hT.block p h.plt (fun e1 => by have := h.gt b hmem; omega)
  refine ⟨⟨?_, ?_, ?_, fun j => ?_, ?_, by simpa using h.len, fun i h3 h4 => ?_, h.nd, h.gt, h.apart⟩, ⟨hT.os, hT.tape, hT.output, hT.size, fun j hj hf => hT.block j hj fun e1 => hf (Or.inr (Or.inr (e1 ▸ hmem)))⟩⟩
  · rw [World.cell?_of_block (w := W) (w' := W') (a := ⟨p, 0, none⟩) hp]; exact h.c0
  · rw [World.cell?_of_block (w := W) (w' := W') (a := ⟨p, 1, none⟩) hp]; exact h.c1
  · rw [World.cell?_of_block (w := W) (w' := W') (a := ⟨p, 2, none⟩) hp]; exact h.c2
  · rw [World.frozen?_of_block (w := W) (w' := W') (a := ⟨p, j, none⟩) hp]; exact h.fz j
  · rw [List.length_set]
    exact owns_same h.own fun g eg => hT.block g (h.own.lt g eg).2 (fun e1 => h.apart b hmem (by rw [eg, e1]))
  · by_cases eik : k = i
    · subst eik
      rw [List.getElem_set_self]
      rw [e]
      exact hx
    · rw [List.getElem_set_ne eik]
      have h5 : i < l.length := by simpa using h3
      refine (h.st i h5 h4).same (hT.block _ (h.st i h5 h4).lt fun e1 => eik ?_)
      have e2 : bs[k] = bs[i] := by rw [e, e1]
      exact (List.getElem_inj h.nd).1 e2

set_option maxHeartbeats 1000000 in
theorem findS_good (h : HR W p f r l bs lv) (hl : l.length ≤ 12) (s : ByteArray) (hx : Lh.hix l s < l.length) {b : Nat} (hb : bs[Lh.hix l s]? = some b) :
    Calls Tryz.prog 153 #[.pointer (some ⟨p, 0, none⟩), .string s] W fun e w' => e = .returned (.pointer (some ⟨b, 0, none⟩)) ∧ Below W.heap.size W w' := by
  have hb1 : Below W.heap.size W (W.alloc (.cells #[.string s] 9)) := (Below.refl _ _).alloc (Nat.le_refl _) _
  have h' := h.later hb1
  obtain ⟨g, cap, rfl, hcap, hcm, _, hrow, _⟩ := h'.row (by omega)
  have c2 := h'.c2
  have hxx := indexS_core W.heap.size (some ⟨g, 0, none⟩) cap l bs s _ h.len hl (fun k h1 h2 => ⟨g, rfl, hrow k h2, (h'.st k h1 h2).c0⟩) (by simp)
  have e1 : fi l s = (Lh.hix l s : Nat) := by unfold fi; rw [if_pos hx]
  rw [e1] at hxx
  obtain ⟨h2, e⟩ := List.getElem?_eq_some_iff.1 hb
  have cb := hrow _ h2
  rw [e] at cb
  have hki : ((Lh.hix l s : Nat) : Int) < (l.length : Int) := by omega
  unfold maxLen at hcm
  unfold ptrS at cb hxx
  clear h h' hrow e hb h2 e1 hx
  generalize Lh.hix l s = k at *
  have d0 : decide ((k : Int) < 0) = false := by simp
  go_enter Tryz.func153, Tryz.ntmps153
  go_wp2_with fail
  refine hxx.mono ?_
  rintro e w' ⟨rfl, hb2⟩
  have hb3 := below_then hb1 hb2
  have c2' := below_cell hb2 c2
  have cb' := below_cell hb2 cb
  clear hxx hb1 hb2 c2 cb
  go_wp2
  go_ret
  exact ⟨rfl, hb3⟩

set_option maxHeartbeats 1000000 in
theorem findS_none (h : HR W p f r l bs lv) (hl : l.length ≤ 12) (s : ByteArray) (hx : ¬ Lh.hix l s < l.length) :
    Calls Tryz.prog 153 #[.pointer (some ⟨p, 0, none⟩), .string s] W fun e w' => e = .returned (.pointer none) ∧ Below W.heap.size W w' := by
  have hb1 : Below W.heap.size W (W.alloc (.cells #[.string s] 9)) := (Below.refl _ _).alloc (Nat.le_refl _) _
  have h' := h.later hb1
  obtain ⟨q, cap, rfl⟩ := h'.shape
  have c2 := h'.c2
  have hxx := indexS_core W.heap.size q cap l bs s _ h.len hl (fun k h1 h2 => by
    obtain ⟨g, cap', e, _, _, _, hrow, _⟩ := h'.row (by omega)
    cases e
    exact ⟨g, rfl, hrow k h2, (h'.st k h1 h2).c0⟩) (by simp)
  have e1 : fi l s = -1 := by unfold fi; rw [if_neg hx]
  rw [e1] at hxx
  unfold ptrS at hxx
  clear h h' e1 hx
  go_enter Tryz.func153, Tryz.ntmps153
  go_wp2_with fail
  refine hxx.mono ?_
  rintro e w' ⟨rfl, hb2⟩
  have hb3 := below_then hb1 hb2
  clear hxx hb1 hb2 c2
  go_wp2
  go_ret
  exact ⟨rfl, hb3⟩

set_option maxHeartbeats 1000000 in
/-- Is. -/
theorem isS_any (h : HR W p f r l bs lv) (hk : Lh.HOk f r l) (s : ByteArray) :
    Calls Tryz.prog 111 #[.pointer (some ⟨p, 0, none⟩), .string s] W fun e w' => e = .returned (.bool (Lh.hup l s)) ∧ Below W.heap.size W w' := by
  by_cases hx : Lh.hix l s < l.length
  · have HU : Hid (Lh.hup l s = (l[Lh.hix l s]).2.1) := hup_at hk.nodup hx
    obtain ⟨b, hb⟩ := h.at hx
    have hfd := findS_good h hk.len s hx hb
    have c1 := (h.stAt hb hx).c1
    clear h hb hk
    generalize (l[Lh.hix l s]).2.1 = u at *
    rw [HU.out]
    clear HU hx
    go_enter Tryz.func111, Tryz.ntmps111
    go_wp2_with fail
    refine hfd.mono ?_
    rintro e w1 ⟨rfl, hb1⟩
    have c1' := below_cell hb1 c1
    clear hfd c1
    go_wp2
    go_ret
    exact ⟨rfl, hb1⟩
  · have hfd := findS_none h hk.len s hx
    rw [hup_none hx]
    clear h hk hx
    go_enter Tryz.func111, Tryz.ntmps111
    go_wp2_with fail
    refine hfd.mono ?_
    rintro e w1 ⟨rfl, hb1⟩
    clear hfd
    go_wp2
    go_ret
    exact ⟨rfl, hb1⟩

set_option maxHeartbeats 1000000 in
theorem edge_any (p f r : Nat) (u : Bool) (W : World) (c0 : W.cell? ⟨p, 0, none⟩ = some (.int .i64 (f : Nat))) (c1 : W.cell? ⟨p, 1, none⟩ = some (.int .i64 (r : Nat))) :
    Calls Tryz.prog 154 #[.pointer (some ⟨p, 0, none⟩), .bool u] W fun e w' => e = .returned (.int .i64 (Lh.hedge f r u : Nat)) ∧ w' = W := by
  cases u with
  | true =>
    go_enter Tryz.func154, Tryz.ntmps154
    go_wp2
    go_ret
    exact ⟨by simp [Lh.hedge], rfl⟩
  | false =>
    go_enter Tryz.func154, Tryz.ntmps154
    go_wp2
    go_ret
    exact ⟨by simp [Lh.hedge], rfl⟩
end
end Go.Proofs.YtmdckddenelneaaGreatDoor
