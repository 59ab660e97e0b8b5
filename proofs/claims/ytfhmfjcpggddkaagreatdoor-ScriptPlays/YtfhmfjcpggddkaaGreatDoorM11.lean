/- The model of health in memory; Find and IsUp. -/
import Derived.Test.YtfhmfjcpggddkaaGreatDoorM9
import Derived.Test.YtfhmfjcpggddkaaGreatDoorM5
import Derived.Test.YtfhmfjcpggddkaaGreatDoorM4
import Derived.Deep.AppendLies
import Derived.Deep.RegionLaw
namespace Go.Proofs.YtfhmfjcpggddkaaGreatDoor
open Go.RowKit

/-- a host of the model: its name, whether it is up, its looks since it turned, the slice that holds them -/
structure Mh where
  name : ByteArray
  up : Bool
  looks : List Bool
  val : Value
/-- how many of the other kind are at the end -/
def trail (up : Bool) (looks : List Bool) : Nat := (looks.reverse.takeWhile fun b => b != up).length
def Mh.st (x : Mh) : Lh.Hh := (x.name, x.up, trail x.up x.looks)
def hst (L : List Mh) : List Lh.Hh := L.map Mh.st
theorem hst_length (L : List Mh) : (hst L).length = L.length := by simp [hst]
theorem hst_get (L : List Mh) {i : Nat} (h : i < (hst L).length) : (hst L)[i] = (L[i]'(by simpa [hst] using h)).st := by simp [hst]
def encH (x : Mh) : List Value := [.string x.name, .bool x.up, x.val]
def flatH (L : List Mh) : List Value := L.flatMap encH
theorem flatH_snoc (L : List Mh) (x : Mh) : flatH (L ++ [x]) = flatH L ++ encH x := by simp [flatH, List.flatMap_append]
theorem flatH_get (L : List Mh) : ∀ i (h : i < L.length), (flatH L)[i * 3]? = some (.string L[i].name) ∧ (flatH L)[i * 3 + 1]? = some (.bool L[i].up) ∧ (flatH L)[i * 3 + 2]? = some L[i].val := by
  induction L with
  | nil => intro i h; cases h
  | cons p P ih =>
    intro i h
    have e : flatH (p :: P) = .string p.name :: .bool p.up :: p.val :: flatH P := rfl
    rw [e]
    match i, h with
    | 0, _ => exact ⟨rfl, rfl, rfl⟩
    | i + 1, h =>
      have := ih i (by simpa using h)
      rw [show (i + 1) * 3 = i * 3 + 1 + 1 + 1 by omega]
      simpa using this
/-- Block m is the model. -/
structure MH (W : World) (m f r : Nat) (L : List Mh) (lv : Value) : Prop where
  c0 : W.cell? ⟨m, 0, none⟩ = some (.int .i64 (f : Nat))
  c1 : W.cell? ⟨m, 1, none⟩ = some (.int .i64 (r : Nat))
  c2 : W.cell? ⟨m, 2, none⟩ = some lv
  fz : ∀ k, W.frozen? ⟨m, k, none⟩ = false
  own : W.ownsRow (m + 1) 127 3 lv L.length (flatH L)
  looks : ∀ x ∈ L, W.ownsRow (m + 1) 4 1 x.val x.looks.length (x.looks.map Value.bool)
  apart : ∀ x ∈ L, x.val.ownBlock = none ∨ x.val.ownBlock ≠ lv.ownBlock
  pair : L.Pairwise fun x y => x.val.ownBlock = none ∨ x.val.ownBlock ≠ y.val.ownBlock
/-- the blocks that it is made of -/
def MFoot (m : Nat) (L : List Mh) (lv : Value) (b : Nat) : Prop := b = m ∨ lv.ownBlock = some b ∨ ∃ x ∈ L, x.val.ownBlock = some b
theorem owns_same {w w' : World} {base : Nat} {e : TypeId} {size : Nat} {v : Value} {n : Nat} {xs : List Value} (h : w.ownsRow base e size v n xs) (he : ∀ g, v.ownBlock = some g → w'.heap[g]? = w.heap[g]?) : w'.ownsRow base e size v n xs := by
  obtain ⟨h1, h2 | ⟨g, cap, cur, rfl, e2, e3, e4⟩⟩ := h
  · exact ⟨h1, Or.inl h2⟩
  · exact ⟨h1, Or.inr ⟨g, cap, cur, rfl, e2, (he g rfl).trans e3, e4⟩⟩
theorem MH.mlt {W : World} {m f r : Nat} {L : List Mh} {lv : Value} (h : MH W m f r L lv) : m < W.heap.size := World.block_lt_of_cell? W ⟨m, 0, none⟩ h.c0
theorem MH.lt {W : World} {m f r : Nat} {L : List Mh} {lv : Value} (h : MH W m f r L lv) : ∀ b, MFoot m L lv b → b < W.heap.size ∧ m ≤ b := by
  rintro b (rfl | e | ⟨x, hx, e⟩)
  · exact ⟨h.mlt, Nat.le_refl _⟩
  · have := h.own.lt b e
    omega
  · have := (h.looks x hx).lt b e
    omega
theorem MH.stay {W W' : World} {m f r : Nat} {L : List Mh} {lv : Value} (h : MH W m f r L lv) (hs : ∀ b, MFoot m L lv b → W'.heap[b]? = W.heap[b]?) : MH W' m f r L lv := by
  have hm := hs m (Or.inl rfl)
  refine ⟨?_, ?_, ?_, fun k => ?_, owns_same h.own fun g e => hs g (Or.inr (Or.inl e)), fun x hx => owns_same (h.looks x hx) fun g e => hs g (Or.inr (Or.inr ⟨x, hx, e⟩)), h.apart, h.pair⟩
  · rw [World.cell?_of_block (w := W) (w' := W') (a := ⟨m, 0, none⟩) hm]; exact h.c0
  · rw [World.cell?_of_block (w := W) (w' := W') (a := ⟨m, 1, none⟩) hm]; exact h.c1
  · rw [World.cell?_of_block (w := W) (w' := W') (a := ⟨m, 2, none⟩) hm]; exact h.c2
  · rw [World.frozen?_of_block (w := W) (w' := W') (a := ⟨m, k, none⟩) hm]; exact h.fz k
theorem MH.later {W W' : World} {m f r : Nat} {L : List Mh} {lv : Value} (h : MH W m f r L lv) (hb : Below W.heap.size W W') : MH W' m f r L lv := h.stay fun b hf => hb.block b (h.lt b hf).1
/-- the row's cells -/
theorem row_of_owns3 {w : World} {base : Nat} {v : Value} {e : TypeId} {L : List Mh} (h : w.ownsRow base e 3 v L.length (flatH L)) (h0 : 0 < L.length) : ∃ g cap, v = .slice (some ⟨g, 0, none⟩) L.length cap ∧ base ≤ g ∧ g < w.heap.size ∧ L.length ≤ cap ∧ (∀ i (h : i < L.length), w.cell? ⟨g, i * 3, none⟩ = some (.string L[i].name) ∧ w.cell? ⟨g, i * 3 + 1, none⟩ = some (.bool L[i].up) ∧ w.cell? ⟨g, i * 3 + 2, none⟩ = some L[i].val) ∧ ∀ k, w.frozen? ⟨g, k, none⟩ = false := by
  obtain ⟨hl, ⟨rfl, h'⟩ | ⟨g, cap, cur, rfl, hbase, hb, hn, hm, hsz, ht⟩⟩ := h
  · omega
  · have hlt : g < w.heap.size := (Array.getElem?_eq_some_iff.1 hb).1
    refine ⟨g, cap, rfl, hbase, hlt, hn, fun i hi => ?_, fun k => by simp [World.frozen?, hb]⟩
    obtain ⟨h1, h2, h3⟩ := flatH_get L i hi
    rw [← ht] at h1 h2 h3
    rw [List.getElem?_take_of_lt (by omega)] at h1 h2 h3
    simp only [World.cell?, hb]
    exact ⟨by simpa using h1, by simpa using h2, by simpa using h3⟩
/-- the number that Find answers -/
def fi (l : List Lh.Hh) (s : ByteArray) : Int := if Lh.hix l s < l.length then ((Lh.hix l s : Nat) : Int) else -1
theorem fi_at {l : List Lh.Hh} {s : ByteArray} {k : Nat} (hk : k < l.length) (hp : ∀ j (h : j < l.length), j < k → (l[j]).1 ≠ s) (he : (l[k]).1 = s) : Lh.hix l s = k := by
  have h1 : Lh.hix l s < l.length := Lh.hix_lt.2 ⟨_, List.getElem_mem hk, he⟩
  rcases Nat.lt_trichotomy (Lh.hix l s) k with h | h | h
  · exact absurd (Lh.hix_get h1) (hp _ h1 h)
  · exact h
  · exact absurd he (Lh.hix_first hk h)

set_option maxRecDepth 100000 in
set_option maxHeartbeats 2000000 in
theorem find_core (m g cap : Nat) (L : List Mh) (s : ByteArray) (W : World) (hl : L.length ≤ 12) (c2 : W.cell? ⟨m, 2, none⟩ = some (.slice (some ⟨g, 0, none⟩) L.length cap)) (hc : ∀ i (h : i < L.length), W.cell? ⟨g, i * 3, none⟩ = some (.string L[i].name)) :
    Calls Tryz.prog 78 #[.pointer (some ⟨m, 0, none⟩), .string s] W fun e w' => e = .returned (.int .i64 (fi (hst L) s)) ∧ w' = W := by
  have HC : Hid (∀ i (h : i < L.length), W.cell? ⟨g, i * 3, none⟩ = some (.string L[i].name)) := hc
  clear hc
  go_enter Tryz.func78, Tryz.ntmps78
  go_wp2_with fail
  go_loop [5] (fun t => ∃ k : Nat, k ≤ L.length ∧ t = .int .i64 (k : Nat) ∧ ∀ j (h : j < (hst L).length), j < k → ((hst L)[j]).1 ≠ s) (fun t => L.length - (intOf t).toNat)
  case atStart => exact ⟨0, Nat.zero_le _, rfl, fun j _ h => absurd h (by omega)⟩
  case round =>
    obtain ⟨k, hk, rfl, hp⟩ := hrel
    have HP : Hid (∀ j (h : j < (hst L).length), j < k → ((hst L)[j]).1 ≠ s) := hp
    clear hp
    by_cases hlt : k < L.length
    · have cx := HC.out k hlt
      have hki : (k : Int) < (L.length : Int) := by omega
      have hkh : k < (hst L).length := by rw [hst_length]; exact hlt
      have hnm : ((hst L)[k]).1 = (L[k]).name := by rw [hst_get]; rfl
      by_cases he : (L[k]).name = s
      · have HF : Hid (fi (hst L) s = (k : Nat)) := by
          have h1 := fi_at hkh HP.out (hnm.trans he)
          show fi (hst L) s = (k : Nat)
          unfold fi
          rw [h1, if_pos hkh]
        have hq := bytes_same he
        clear he hnm
        generalize (L[k]).name = t at *
        go_wp2
        go_ret
        exact ⟨by rw [HF.out]; rfl, rfl⟩
      · have HPN : Hid (∀ j (h : j < (hst L).length), j < k + 1 → ((hst L)[j]).1 ≠ s) := fun j h hj => by
          by_cases e : j = k
          · subst e
            rw [hnm]
            exact he
          · exact HP.out j h (by omega)
        have hq := bytes_parts he
        clear he hnm
        generalize (L[k]).name = t at *
        go_wp2
        go_round
        case rel => exact ⟨k + 1, by omega, by go_num, HPN.out⟩
        case measure => simp [intOf]; omega
    · have hki : decide ((k : Int) < (L.length : Int)) = false := by simp; omega
      have HF : Hid (fi (hst L) s = -1) := by
        show fi (hst L) s = -1
        unfold fi
        rw [if_neg]
        intro h
        exact HP.out _ h (by rw [hst_length] at h; omega) (Lh.hix_get h)
      go_wp2
      go_ret
      exact ⟨by rw [HF.out]; rfl, rfl⟩
end Go.Proofs.YtfhmfjcpggddkaaGreatDoor

/- The model of health: Find, IsUp and Ups. -/
namespace Go.Proofs.YtfhmfjcpggddkaaGreatDoor
open Go.RowKit

set_option maxHeartbeats 1000000 in
theorem find_zero (m : Nat) (p : Option Addr) (cap : Nat) (s : ByteArray) (W : World) (c2 : W.cell? ⟨m, 2, none⟩ = some (.slice p 0 cap)) :
    Calls Tryz.prog 78 #[.pointer (some ⟨m, 0, none⟩), .string s] W fun e w' => e = .returned (.int .i64 (-1)) ∧ w' = W := by
  go_enter Tryz.func78, Tryz.ntmps78
  go_wp2_with fail
  go_loop [5] (fun t => t = .int .i64 0) (fun _ => 0)
  case atStart => rfl
  case round =>
    obtain rfl := hrel
    go_wp2
    go_ret
    exact ⟨rfl, rfl⟩
theorem own_zero {w : World} {base : Nat} {e : TypeId} {size : Nat} {v : Value} {xs : List Value} (h : w.ownsRow base e size v 0 xs) : ∃ p cap, v = .slice p 0 cap := by
  obtain ⟨h1, ⟨rfl, _⟩ | ⟨g, cap, cur, rfl, _⟩⟩ := h
  · exact ⟨_, _, rfl⟩
  · exact ⟨_, _, rfl⟩
/-- Find of any text. -/
theorem find_any {W : World} {m f r : Nat} {L : List Mh} {lv : Value} (h : MH W m f r L lv) (hl : L.length ≤ 12) (s : ByteArray) :
    Calls Tryz.prog 78 #[.pointer (some ⟨m, 0, none⟩), .string s] W fun e w' => e = .returned (.int .i64 (fi (hst L) s)) ∧ w' = W := by
  by_cases h0 : 0 < L.length
  · obtain ⟨g, cap, rfl, _, _, _, hc, _⟩ := row_of_owns3 h.own h0
    exact find_core m g cap L s W hl h.c2 fun i hi => (hc i hi).1
  · obtain rfl : L = [] := List.eq_nil_of_length_eq_zero (by omega)
    obtain ⟨p, cap, rfl⟩ := own_zero h.own
    exact find_zero m p cap s W h.c2
theorem hup_at {l : List Lh.Hh} {s : ByteArray} (hn : (l.map fun x => x.1).Nodup) (h : Lh.hix l s < l.length) : Lh.hup l s = (l[Lh.hix l s]).2.1 := by
  have h1 := Lh.hix_get h
  cases e : (l[Lh.hix l s]).2.1 with
  | true =>
    unfold Lh.hup
    rw [List.any_eq_true]
    exact ⟨_, List.getElem_mem h, by simp [h1, e]⟩
  | false =>
    unfold Lh.hup
    rw [List.any_eq_false]
    intro x hx hc
    simp only [Bool.and_eq_true, decide_eq_true_eq] at hc
    obtain ⟨j, hj, rfl⟩ := List.getElem_of_mem hx
    have h2 : j = Lh.hix l s := by
      have h3 : (l.map fun x => x.1)[j]'(by simpa using hj) = (l.map fun x => x.1)[Lh.hix l s]'(by simpa using h) := by
        simp only [List.getElem_map]
        rw [hc.1, h1]
      exact (List.getElem_inj hn).1 h3
    subst h2
    rw [e] at hc
    cases hc.2
theorem hup_none {l : List Lh.Hh} {s : ByteArray} (h : ¬ Lh.hix l s < l.length) : Lh.hup l s = false := by
  unfold Lh.hup
  rw [List.any_eq_false]
  intro x hx hc
  simp only [Bool.and_eq_true, decide_eq_true_eq] at hc
  exact h (Lh.hix_lt.2 ⟨x, hx, hc.1⟩)

set_option maxHeartbeats 1000000 in
/-- IsUp of any text. -/
theorem isUp_any {W : World} {m f r : Nat} {L : List Mh} {lv : Value} (h : MH W m f r L lv) (hk : Lh.HOk f r (hst L)) (s : ByteArray) :
    Calls Tryz.prog 71 #[.pointer (some ⟨m, 0, none⟩), .string s] W fun e w' => e = .returned (.bool (Lh.hup (hst L) s)) ∧ w' = W := by
  have hl : L.length ≤ 12 := by have := hk.len; rwa [hst_length] at this
  have hfd := find_any h hl s
  by_cases hx : Lh.hix (hst L) s < (hst L).length
  · have HU : Hid (Lh.hup (hst L) s = ((hst L)[Lh.hix (hst L) s]).2.1) := hup_at hk.nodup hx
    have e1 : fi (hst L) s = (Lh.hix (hst L) s : Nat) := by unfold fi; rw [if_pos hx]
    rw [e1] at hfd
    have hx' : Lh.hix (hst L) s < L.length := by rwa [hst_length] at hx
    have e2 : ((hst L)[Lh.hix (hst L) s]).2.1 = (L[Lh.hix (hst L) s]).up := by rw [hst_get]; rfl
    have HU2 : Hid (Lh.hup (hst L) s = (L[Lh.hix (hst L) s]).up) := HU.out.trans e2
    generalize Lh.hix (hst L) s = k at *
    obtain ⟨g, cap, rfl, _, _, _, hc, _⟩ := row_of_owns3 h.own (by omega)
    have c2 := h.c2
    have cu := (hc k hx').2.1
    have hki : (k : Int) < (L.length : Int) := by omega
    clear h hc HU e1 e2 hk hx
    generalize (L[k]).up = u at *
    go_enter Tryz.func71, Tryz.ntmps71
    go_wp2_with fail
    refine hfd.mono ?_
    rintro e w1 ⟨rfl, rfl⟩
    clear hfd
    go_wp2
    go_ret
    exact ⟨by rw [HU2.out]; rfl, rfl⟩
  · have e1 : fi (hst L) s = -1 := by unfold fi; rw [if_neg hx]
    rw [e1] at hfd
    rw [hup_none hx]
    clear h hk hx e1
    go_enter Tryz.func71, Tryz.ntmps71
    go_wp2_with fail
    refine hfd.mono ?_
    rintro e w1 ⟨rfl, rfl⟩
    clear hfd
    go_wp2
    go_ret
    exact ⟨rfl, rfl⟩
def upsN (L : List Mh) (k : Nat) : List ByteArray := Lh.hups (hst (L.take k))
theorem upsN_succ (L : List Mh) {k : Nat} (h : k < L.length) : upsN L (k + 1) = upsN L k ++ (if (L[k]).up then [(L[k]).name] else []) := by
  unfold upsN Lh.hups hst
  rw [List.take_succ_eq_append_getElem h, List.map_append, List.filter_append, List.map_append]
  congr 1
  cases e : (L[k]).up <;> simp [Mh.st, e]
theorem upsN_len (L : List Mh) (k : Nat) (h : k ≤ L.length) : (upsN L k).length ≤ k := by
  unfold upsN Lh.hups hst
  rw [List.length_map]
  refine Nat.le_trans (List.length_filter_le _ _) ?_
  rw [List.length_map, List.length_take]
  omega

set_option maxRecDepth 100000 in
set_option maxHeartbeats 2000000 in
/-- Ups. -/
theorem ups_any {W : World} {m f r : Nat} {L : List Mh} {lv : Value} (h : MH W m f r L lv) (hl : L.length ≤ 12) :
    Calls Tryz.prog 28 #[.pointer (some ⟨m, 0, none⟩)] W fun e w' => ∃ v, e = .returned v ∧ Strs1 w' v (Lh.hups (hst L)) ∧ Below W.heap.size W w' := by
  obtain ⟨i, hi, hz0, hz1, hz2⟩ := info_parts infoS
  obtain ⟨p, cap, hlv⟩ : ∃ p cap, lv = .slice p L.length cap := by
    by_cases h0 : 0 < L.length
    · obtain ⟨g, cap, rfl, _⟩ := row_of_owns3 h.own h0
      exact ⟨_, _, rfl⟩
    · have e0 : L.length = 0 := by omega
      have := h.own
      rw [e0] at this
      rw [e0]
      exact own_zero this
  have HC : Hid (∀ i (hi : i < L.length), ∃ g, p = some ⟨g, 0, none⟩ ∧ W.cell? ⟨g, i * 3, none⟩ = some (.string L[i].name) ∧ W.cell? ⟨g, i * 3 + 1, none⟩ = some (.bool L[i].up)) := fun i hi => by
    obtain ⟨g, cap', e, _, _, _, hc, _⟩ := row_of_owns3 h.own (by omega)
    rw [hlv] at e
    cases e
    exact ⟨g, rfl, (hc i hi).1, (hc i hi).2.1⟩
  have c2 := h.c2
  subst hlv
  clear h
  go_enter Tryz.func28, Tryz.ntmps28
  go_wp2_with fail
  go_loopw [3, 4] (fun v t W' => Below W.heap.size W W' ∧ ∃ k : Nat, k ≤ L.length ∧ t = .int .i64 (k : Nat) ∧ W'.ownsRow W.heap.size 9 1 v (upsN L k).length ((upsN L k).map Value.string)) (fun _ t _ => L.length - (intOf t).toNat)
  case atStart => exact ⟨Below.refl _ _, 0, Nat.zero_le _, rfl, World.ownsRow_nil _ _ _ _⟩
  case round =>
    obtain ⟨hb, k, hk, rfl, hown⟩ := hrel
    obtain ⟨wo, hwo⟩ : ∃ wo, wo = wr := ⟨_, rfl⟩
    subst hwo
    obtain ⟨vo, hvo⟩ : ∃ vo, vo = u3 := ⟨_, rfl⟩
    subst hvo
    have c2' := below_cell hb c2
    by_cases hlt : k < L.length
    · obtain ⟨g, rfl, cn, cu⟩ := HC.out k hlt
      have cn' := below_cell hb cn
      have cu' := below_cell hb cu
      have hki : (k : Int) < (L.length : Int) := by omega
      have hul := upsN_len L k (by omega)
      have hsu := upsN_succ L hlt
      clear cn cu
      generalize (L[k]).name = s at *
      cases hu : (L[k]).up with
      | true =>
        rw [hu] at cu' hsu
        simp only [if_true] at hsu
        have HSU : Hid (upsN L (k + 1) = upsN L k ++ [s]) := hsu
        clear hu hsu
        generalize upsN L k = out at *
        have hown3 := hown.alloc (.cells #[.string s] 9)
        have hnews := cells_one (w := wo) (t := 9) s
        have hbw3 : Below W.heap.size W (wo.alloc (.cells #[.string s] 9)) := hb.alloc hb.size _
        have hmax : out.length + 1 ≤ maxLen := by unfold maxLen; omega
        clear hown
        go_wp2_with (at_builtin; refine wpList_append_own _ rfl _ _ 22 rfl W.heap.size 9 i _ 1 16 Tryz.underlying22 hi hz0 hz1 hz2 rfl (by decide) vo out.length (out.map Value.string) rfl hown3 ⟨wo.heap.size, 0, none⟩ 1 1 [.string s] rfl rfl hnews (fun u hu => by simp at hu; subst hu; rfl) hmax (by omega) hbw3.size ?_)
        intro v' w4 hown4 hg4 _
        have hlo := hown3.lt
        have hb4 : Below W.heap.size W w4 := hbw3.grown hg4 hbw3.size (fun k hk => (hlo k hk).1)
        have hown5 := owns_snoc hown4
        have HOUT : Hid (w4.ownsRow W.heap.size 9 1 v' (out ++ [s]).length ((out ++ [s]).map Value.string)) := by rw [List.length_append]; exact hown5
        clear hown3 hnews hlo hg4 hbw3 hmax hown4 hown5
        go_wp2
        exact ⟨⟨hb4, k + 1, by omega, by go_num, by rw [HSU.out]; exact HOUT.out⟩, by simp [intOf]; omega⟩
      | false =>
        rw [hu] at cu' hsu
        simp only [Bool.false_eq_true, if_false, List.append_nil] at hsu
        have HOUT : Hid (wo.ownsRow W.heap.size 9 1 vo (upsN L (k + 1)).length ((upsN L (k + 1)).map Value.string)) := by rw [hsu]; exact hown
        clear hu hsu hown
        go_wp2
        exact ⟨⟨hb, k + 1, by omega, by go_num, HOUT.out⟩, by simp [intOf]; omega⟩
    · have hki : decide ((k : Int) < (L.length : Int)) = false := by simp; omega
      have HS : Hid (Strs1 wo vo (Lh.hups (hst L))) := by
        have h1 := strs_of_owns hown
        have e : k = L.length := by omega
        unfold upsN at h1
        rw [e, List.take_length] at h1
        exact h1
      clear hown
      go_wp2
      go_ret
      exact ⟨_, rfl, HS.out, hb⟩
end Go.Proofs.YtfhmfjcpggddkaaGreatDoor

/- The model of health: NewHealth. -/
namespace Go.Proofs.YtfhmfjcpggddkaaGreatDoor
open Go.RowKit

theorem infoH : (Tryz.prog.info? 127).map (fun i => (i.zero, i.size, i.bytes)) = some (some (.agg #[.string ByteArray.empty, .bool false, .slice none 0 0]), 3, 48) := by kernel_rfl
theorem hfar_cell {wr W w1 : World} {o : Obj} {row : Option Nat} {x k : Nat} {val : Value} (hW : W.heap = wr.heap.push o) (hg : W.grownBy w1 row) (hne : some x ≠ row) (h : wr.cell? ⟨x, k, none⟩ = some val) : w1.cell? ⟨x, k, none⟩ = some val := by
  have hx : x < wr.heap.size := World.block_lt_of_cell? wr ⟨x, k, none⟩ h
  have hx2 : x < W.heap.size := by rw [hW]; simp; omega
  have e : w1.heap[x]? = wr.heap[x]? := by
    rw [hg.block x hx2 hne, hW, Array.getElem?_push_lt hx, Array.getElem?_eq_getElem hx]
  rw [World.cell?_of_block (w := wr) (w' := w1) (a := ⟨x, k, none⟩) e]
  exact h
theorem hfar_frozen {wr W w1 : World} {o : Obj} {row : Option Nat} {x k : Nat} (hW : W.heap = wr.heap.push o) (hg : W.grownBy w1 row) (hne : some x ≠ row) (hx : x < wr.heap.size) (h : wr.frozen? ⟨x, k, none⟩ = false) : w1.frozen? ⟨x, k, none⟩ = false := by
  have hx2 : x < W.heap.size := by rw [hW]; simp; omega
  have e : w1.heap[x]? = wr.heap[x]? := by
    rw [hg.block x hx2 hne, hW, Array.getElem?_push_lt hx, Array.getElem?_eq_getElem hx]
  rw [World.frozen?_of_block (w := wr) (w' := w1) (a := ⟨x, k, none⟩) e]
  exact h
theorem howns_setCell {w : World} {base : Nat} {e : TypeId} {size : Nat} {v : Value} {n : Nat} {xs : List Value} (h : w.ownsRow base e size v n xs) {x k : Nat} (hx : x < base) (u : Value) : (w.setCell ⟨x, k, none⟩ u).ownsRow base e size v n xs := by
  refine h.kept (row := some x) ⟨rfl, rfl, rfl, by simp [World.setCell], fun j _ hne => heap_setCell_other w ⟨x, k, none⟩ j u (fun e => hne (by rw [e]))⟩ ?_
  cases hv : v.ownBlock with
  | none => exact Or.inl rfl
  | some g =>
    have := (h.lt g hv).1
    exact Or.inr (fun e => by cases e; omega)
theorem howns_heap {w W : World} {base : Nat} {e : TypeId} {size : Nat} {v : Value} {n : Nat} {xs : List Value} {o : Obj} (h : w.ownsRow base e size v n xs) (hW : W.heap = w.heap.push o) : W.ownsRow base e size v n xs :=
  owns_same h fun g hv => by
    have hg := (h.lt g hv).2
    rw [hW, Array.getElem?_push_lt hg, ← Array.getElem?_eq_getElem hg]
theorem cellsH_heap {wr W : World} {t : TypeId} (x : Mh) (hW : W.heap = wr.heap.push (.cells #[.string x.name, .bool x.up, x.val] t (0, 0))) : ∀ j u, (encH x)[j]? = some u → W.cell? ((⟨wr.heap.size, 0, none⟩ : Addr).add j) = some u := by
  intro j u hu
  have e : W.heap[wr.heap.size]? = some (.cells #[.string x.name, .bool x.up, x.val] t (0, 0)) := by rw [hW]; simp
  match j, hu with
  | 0, hu => simp [encH] at hu; subst hu; simp [Addr.add, World.cell?, e]
  | 1, hu => simp [encH] at hu; subst hu; simp [Addr.add, World.cell?, e]
  | 2, hu => simp [encH] at hu; subst hu; simp [Addr.add, World.cell?, e]
  | j + 3, hu => simp [encH] at hu
theorem encH_one (x : Mh) (hx : x.val.oneCell' = true) : ∀ v ∈ encH x, v.oneCell' = true := by
  intro v hv
  simp [encH] at hv
  rcases hv with rfl | rfl | rfl
  · rfl
  · rfl
  · exact hx
theorem step_append_h {ops : Array Oper} {o : Oper} {a : Act} {K : Act → World → Prop} {Q : Exit → Act → World → Prop} {E : Prop} {W : World} (wr : World) (x : Mh) (hx1 : x.val.oneCell' = true) (m : Nat) (hgd : o.guard = none) (so xo : Operand)
    (ho : o.op = .call { callee := .builtin .append, args := #[so, xo], argTypes := #[122, 122] }) (hW : W.heap = wr.heap.push (.cells #[.string x.name, .bool x.up, x.val] 127 (0, 0)))
    (v : Value) (L : List Mh) (hs : a.eval so = v) (hx : a.eval xo = .slice (some ⟨wr.heap.size, 0, none⟩) 1 1) (hown : wr.ownsRow (m + 1) 127 3 v L.length (flatH L)) (hl : L.length ≤ 208) (hm : m < wr.heap.size)
    (h : ∀ g cap w', w'.ownsRow (m + 1) 127 3 (.slice (some ⟨g, 0, none⟩) (L.length + 1) cap) (L.length + 1) (flatH (L ++ [x])) → W.grownBy w' v.ownBlock → (v.ownBlock = some g ∨ g = wr.heap.size + 1) → K (a.put o.dst (.slice (some ⟨g, 0, none⟩) (L.length + 1) cap)) w') :
    if Region.wanted o (yielded ops a.tmps) = true then Oper.wp Tryz.prog o a W K Q else E := by
  obtain ⟨i, hi, hz0, hz1, hz2⟩ := info_parts infoH
  have hsz : W.heap.size = wr.heap.size + 1 := by rw [hW]; simp
  refine step_append_lies W hgd so xo 122 ho (m + 1) 127 i _ 3 48 Tryz.underlying122 hi hz0 hz1 hz2 rfl (by decide) v L.length (flatH L) hs (howns_heap hown hW) ⟨wr.heap.size, 0, none⟩ 1 1 (encH x) hx rfl (cellsH_heap x hW) (encH_one x hx1) (by decide) (by unfold maxLen; omega) (by omega) (by omega) (wr.heap.size + 1) hsz ?_
  intro g cp w1 hown1 hgr hat _
  rw [← flatH_snoc] at hown1
  exact h g cp w1 hown1 hgr hat

/-- the model's hosts, when it is new -/
def newM (xs : List ByteArray) : List Mh := xs.map fun s => ⟨s, true, [], .slice none 0 0⟩
theorem newM_snoc (xs : List ByteArray) {k : Nat} (h : k < xs.length) : newM (xs.take (k + 1)) = newM (xs.take k) ++ [⟨xs[k], true, [], .slice none 0 0⟩] := by
  unfold newM
  rw [List.take_succ_eq_append_getElem h, List.map_append]
  rfl
theorem newM_hst (xs : List ByteArray) : hst (newM xs) = Lh.hnew xs := by
  unfold hst newM Lh.hnew
  rw [List.map_map]
  rfl
theorem newM_MH {W : World} {m f r : Nat} {xs : List ByteArray} {lv : Value} (c0 : W.cell? ⟨m, 0, none⟩ = some (.int .i64 (f : Nat))) (c1 : W.cell? ⟨m, 1, none⟩ = some (.int .i64 (r : Nat))) (c2 : W.cell? ⟨m, 2, none⟩ = some lv) (fz : ∀ k, W.frozen? ⟨m, k, none⟩ = false) (own : W.ownsRow (m + 1) 127 3 lv (newM xs).length (flatH (newM xs))) : MH W m f r (newM xs) lv := by
  refine ⟨c0, c1, c2, fz, own, fun x hx => ?_, fun x hx => ?_, ?_⟩
  · obtain ⟨s, _, rfl⟩ := List.mem_map.1 hx
    exact World.ownsRow_nil _ _ _ _
  · obtain ⟨s, _, rfl⟩ := List.mem_map.1 hx
    exact Or.inl rfl
  · unfold newM
    rw [List.pairwise_map]
    exact List.pairwise_of_forall fun _ _ => Or.inl rfl

set_option maxRecDepth 100000 in
set_option maxHeartbeats 4000000 in
theorem newHealth_any (p : Option Addr) (cap : Nat) (xs : List ByteArray) (f r : Nat) (w : World) (hx : ∀ k (h : k < xs.length), ∃ b o, p = some ⟨b, o, none⟩ ∧ w.cell? ⟨b, o + k, none⟩ = some (.string xs[k])) (hl : xs.length ≤ 12) (_hf : f ≤ 10) (_hr : r ≤ 10) :
    Calls Tryz.prog 68 #[.slice p xs.length cap, .int .i64 (f : Nat), .int .i64 (r : Nat)] w fun e w' => ∃ m lv, e = .returned (.pointer (some ⟨m, 0, none⟩)) ∧ MH w' m f r (newM xs) lv ∧ w.heap.size ≤ m ∧ Below w.heap.size w w' := by
  have HX : Hid (∀ k (h : k < xs.length), ∃ b o, p = some ⟨b, o, none⟩ ∧ w.cell? ⟨b, o + k, none⟩ = some (.string xs[k])) := hx
  clear hx
  obtain ⟨m, hm⟩ : ∃ m, w.heap.size = m := ⟨_, rfl⟩
  have HMB : Hid (w.heap.size = m) := hm
  go_enter Tryz.func68, Tryz.ntmps68
  go_wp2_with fail
  have hbW := (Below.refl w.heap.size w).alloc (Nat.le_refl _) (.cells #[.int .i64 (f : Nat), .int .i64 (r : Nat), .slice none 0 0] 124)
  have a0 : (w.alloc (.cells #[.int .i64 (f : Nat), .int .i64 (r : Nat), .slice none 0 0] 124)).cell? ⟨m, 0, none⟩ = some (.int .i64 (f : Nat)) := by rw [← hm]; simp
  have a1 : (w.alloc (.cells #[.int .i64 (f : Nat), .int .i64 (r : Nat), .slice none 0 0] 124)).cell? ⟨m, 1, none⟩ = some (.int .i64 (r : Nat)) := by rw [← hm]; simp
  have a2 : (w.alloc (.cells #[.int .i64 (f : Nat), .int .i64 (r : Nat), .slice none 0 0] 124)).cell? ⟨m, 2, none⟩ = some (.slice none 0 0) := by rw [← hm]; simp
  have af : ∀ k, (w.alloc (.cells #[.int .i64 (f : Nat), .int .i64 (r : Nat), .slice none 0 0] 124)).frozen? ⟨m, k, none⟩ = false := fun k => by rw [← hm]; simp
  rw [hm] at hbW
  generalize w.alloc (.cells #[.int .i64 (f : Nat), .int .i64 (r : Nat), .slice none 0 0] 124) = w0 at *
  clear hm
  go_loopw [8] (fun t W => Below m w W ∧ ∃ k : Nat, k ≤ xs.length ∧ t = .int .i64 k ∧ ∃ v, W.cell? ⟨m, 0, none⟩ = some (.int .i64 (f : Nat)) ∧ W.cell? ⟨m, 1, none⟩ = some (.int .i64 (r : Nat)) ∧ W.cell? ⟨m, 2, none⟩ = some v ∧ (∀ k, W.frozen? ⟨m, k, none⟩ = false) ∧ W.ownsRow (m + 1) 127 3 v (newM (xs.take k)).length (flatH (newM (xs.take k)))) (fun t _ => xs.length - (intOf t).toNat)
  case atStart => exact ⟨hbW, 0, Nat.zero_le _, rfl, _, a0, a1, a2, af, World.ownsRow_nil _ _ _ _⟩
  case round =>
    clear a0 a1 a2 af hbW
    obtain ⟨hb, k, hk, rfl, v, cr0, cr1, cr2, frz, hown⟩ := hrel
    by_cases hlt : k < xs.length
    · obtain ⟨b, o, rfl, hck⟩ := HX.out k hlt
      have hblt : b < m := by rw [← HMB.out]; exact World.block_lt_of_cell? w ⟨b, o + k, none⟩ hck
      have cx : wr.cell? ⟨b, o + k, none⟩ = some (.string xs[k]) := below_cell (by rw [HMB.out]; exact hb) hck
      have HP : Hid (newM (xs.take (k + 1)) = newM (xs.take k) ++ [⟨xs[k], true, [], .slice none 0 0⟩]) := newM_snoc xs hlt
      have hlen : (newM (xs.take k)).length ≤ 208 := by
        unfold newM
        rw [List.length_map, List.length_take]
        omega
      generalize newM (xs.take k) = P1 at *
      generalize xs[k] = s at *
      have hki : (k : Int) < (xs.length : Int) := by omega
      have HNE : Hid (∀ x, x ≤ m → some x ≠ v.ownBlock) := fun x hx e => by
        have := (hown.lt x e.symm).1
        omega
      have hrl : m < wr.heap.size := World.block_lt_of_cell? wr ⟨m, 0, none⟩ cr0
      have HOWN : Hid (wr.ownsRow (m + 1) 127 3 v P1.length (flatH P1)) := hown
      have HFZ : Hid (∀ k, wr.frozen? ⟨m, k, none⟩ = false) := frz
      have fr2 := frz 2
      have hbr : b ≠ m := by omega
      have hrb2 : m ≠ b := by omega
      clear hown hck frz
      go_wp2_with fail
      go_region_law (first
        | (refine step_append_h wr ⟨s, true, [], .slice none 0 0⟩ rfl m rfl _ _ rfl rfl v P1 rfl rfl HOWN.out hlen hrl ?_
           intro g cp w1 hown1 hgr _
           have hr0 := hfar_cell (wr := wr) (x := m) (k := 0) rfl hgr (HNE.out m (Nat.le_refl _)) cr0
           have hr1 := hfar_cell (wr := wr) (x := m) (k := 1) rfl hgr (HNE.out m (Nat.le_refl _)) cr1
           have hr2 := hfar_cell (wr := wr) (x := m) (k := 2) rfl hgr (HNE.out m (Nat.le_refl _)) cr2
           have fr1 := hfar_frozen (wr := wr) (x := m) (k := 2) rfl hgr (HNE.out m (Nat.le_refl _)) hrl fr2
           have HFR : Hid (∀ k, w1.frozen? ⟨m, k, none⟩ = false) := fun k => hfar_frozen (wr := wr) (x := m) (k := k) rfl hgr (HNE.out m (Nat.le_refl _)) hrl (HFZ.out k)))
      all_goals
        have hbw1 : Below m w w1 := by
          refine (hb.trans (below_drewN ((Below.refl m wr).alloc (Nat.le_of_lt hrl) _) 1)).grown hgr (by simp; omega) (fun q e => ?_)
          · refine Nat.le_of_lt (Nat.lt_of_not_le fun h => HNE.out q h ?_)
            exact e.symm
        have hbw2 : Below m w (w1.setCell ⟨m, 2, none⟩ (.slice (some ⟨g, 0, none⟩) (P1.length + 1) cp)) := hbw1.setCell (Nat.le_refl _) _
        have hownN := howns_setCell (k := 2) hown1 (Nat.lt_succ_self m) (.slice (some ⟨g, 0, none⟩) (P1.length + 1) cp)
        have crN0 : (w1.setCell ⟨m, 2, none⟩ (.slice (some ⟨g, 0, none⟩) (P1.length + 1) cp)).cell? ⟨m, 0, none⟩ = some (.int .i64 (f : Nat)) := by simp [go_sem, hr0]
        have crN1 : (w1.setCell ⟨m, 2, none⟩ (.slice (some ⟨g, 0, none⟩) (P1.length + 1) cp)).cell? ⟨m, 1, none⟩ = some (.int .i64 (r : Nat)) := by simp [go_sem, hr1]
        have crN2 : (w1.setCell ⟨m, 2, none⟩ (.slice (some ⟨g, 0, none⟩) (P1.length + 1) cp)).cell? ⟨m, 2, none⟩ = some (.slice (some ⟨g, 0, none⟩) (P1.length + 1) cp) := by simp [go_sem, hr2]
        have frN : ∀ k, (w1.setCell ⟨m, 2, none⟩ (.slice (some ⟨g, 0, none⟩) (P1.length + 1) cp)).frozen? ⟨m, k, none⟩ = false := fun k => by simp [go_sem, HFR.out k]
        have HFN : Hid (∀ k, (w1.setCell ⟨m, 2, none⟩ (.slice (some ⟨g, 0, none⟩) (P1.length + 1) cp)).frozen? ⟨m, k, none⟩ = false) := frN
        clear hown1 hgr hr0 hr1 hr2 fr1 hbw1 cr0 cr1 cr2 fr2 cx hb HFR frN
        generalize w1.setCell ⟨m, 2, none⟩ (.slice (some ⟨g, 0, none⟩) (P1.length + 1) cp) = wN at *
        go_wp2
        refine ⟨⟨hbw2, k + 1, by omega, by go_num, _, crN0, crN1, crN2, HFN.out, ?_⟩, by simp [intOf]; omega⟩
        rw [HP.out, List.length_append]
        exact hownN
    · have hkk : k = xs.length := by omega
      have HMH : Hid (MH wr m f r (newM xs) v) := by
        rw [hkk, List.take_length] at hown
        exact newM_MH cr0 cr1 cr2 frz hown
      have hki : decide ((k : Int) < (xs.length : Int)) = false := by simp; omega
      clear hown frz hkk
      go_wp2
      go_ret
      exact ⟨m, v, rfl, HMH.out, by rw [HMB.out]; exact Nat.le_refl _, by rw [HMB.out]; exact hb⟩
end Go.Proofs.YtfhmfjcpggddkaaGreatDoor

/- The model of health: what a look is, and what it leaves in memory. -/
namespace Go.Proofs.YtfhmfjcpggddkaaGreatDoor
open Go.RowKit

theorem trail_nil (up : Bool) : trail up [] = 0 := rfl
theorem trail_snoc (up : Bool) (l : List Bool) (b : Bool) : trail up (l ++ [b]) = if b = up then 0 else trail up l + 1 := by
  unfold trail
  rw [List.reverse_append]
  by_cases e : b = up
  · subst e
    simp
  · have hb : (b != up) = true := by simpa using e
    simp [hb, e]
/-- the scan from the end: the first n are of the other kind -/
theorem trail_at {up : Bool} {l : List Bool} {n : Nat} (hn : n < l.length) (hp : ∀ j (h : j < l.length), j < n → l[l.length - 1 - j] ≠ up) (he : l[l.length - 1 - n] = up) : trail up l = n := by
  induction n generalizing l with
  | zero =>
    obtain ⟨l', b, rfl⟩ : ∃ l' b, l = l' ++ [b] := ⟨l.dropLast, l.getLast (by intro e; subst e; simp at hn), (List.dropLast_concat_getLast _).symm⟩
    rw [trail_snoc]
    have : b = up := by simpa using he
    simp [this]
  | succ n ih =>
    obtain ⟨l', b, rfl⟩ : ∃ l' b, l = l' ++ [b] := ⟨l.dropLast, l.getLast (by intro e; subst e; simp at hn), (List.dropLast_concat_getLast _).symm⟩
    have hb : b ≠ up := by
      have := hp 0 (by simp) (by omega)
      simpa using this
    rw [trail_snoc, if_neg hb]
    have hl : n < l'.length := by simp at hn; omega
    have h3 : trail up l' = n := ih hl (fun j h hj => by
      have h1 := hp (j + 1) (by simp; omega) (by omega)
      have e1 : (l' ++ [b]).length - 1 - (j + 1) = l'.length - 1 - j := by simp; omega
      have e2 : (l' ++ [b])[(l' ++ [b]).length - 1 - (j + 1)]'(by simp; omega) = l'[l'.length - 1 - j]'(by omega) := by
        simp only [e1]
        rw [List.getElem_append_left (by omega)]
      rwa [e2] at h1) (by
      have e1 : (l' ++ [b]).length - 1 - (n + 1) = l'.length - 1 - n := by simp; omega
      have e2 : (l' ++ [b])[(l' ++ [b]).length - 1 - (n + 1)]'(by simp; omega) = l'[l'.length - 1 - n]'(by omega) := by
        simp only [e1]
        rw [List.getElem_append_left (by omega)]
      rwa [e2] at he)
    rw [h3]
theorem takeWhile_whole {α : Type} (p : α → Bool) : ∀ l : List α, (∀ b ∈ l, p b = true) → l.takeWhile p = l
  | [], _ => rfl
  | b :: l, h => by
    rw [List.takeWhile_cons, if_pos (h b (by simp)), takeWhile_whole p l fun c hc => h c (by simp [hc])]
theorem trail_all {up : Bool} {l : List Bool} (hp : ∀ j (h : j < l.length), l[l.length - 1 - j] ≠ up) : trail up l = l.length := by
  unfold trail
  rw [takeWhile_whole _ l.reverse fun b hb => ?_]
  · simp
  · rw [List.mem_reverse] at hb
    obtain ⟨j, hj, rfl⟩ := List.getElem_of_mem hb
    have h1 := hp (l.length - 1 - j) (by omega)
    have e : l.length - 1 - (l.length - 1 - j) = j := by omega
    simp only [e] at h1
    simpa using h1

/-- what a look makes of a host of the model -/
def lookM (f r : Nat) (x : Mh) (well : Bool) (v : Value) : Mh :=
  if Lh.hedge f r x.up ≤ trail x.up (x.looks ++ [well]) then ⟨x.name, !x.up, [], .slice none 0 0⟩ else ⟨x.name, x.up, x.looks ++ [well], v⟩
def turnM (f r : Nat) (x : Mh) (well : Bool) : Bool := decide (Lh.hedge f r x.up ≤ trail x.up (x.looks ++ [well]))
theorem lookM_st {f r : Nat} (hf : 1 ≤ f) (hr : 1 ≤ r) (x : Mh) (well : Bool) (v : Value) : ((lookM f r x well v).st, turnM f r x well) = Lh.hlook f r x.st well := by
  unfold lookM turnM Lh.hlook
  have hp := Lh.hedge_pos hf hr x.up
  rw [trail_snoc]
  by_cases e : well = x.up
  · have e2 : well = x.st.2.1 := e
    rw [if_pos e, if_pos e2, if_neg (by omega)]
    have h1 : trail x.up (x.looks ++ [well]) = 0 := by rw [trail_snoc, if_pos e]
    simp only [Mh.st, h1]
    simp
    omega
  · have e2 : ¬ well = x.st.2.1 := e
    rw [if_neg e, if_neg e2]
    by_cases h : Lh.hedge f r x.up ≤ trail x.up x.looks + 1
    · have h' : Lh.hedge f r x.st.2.1 ≤ x.st.2.2 + 1 := h
      rw [if_pos h, if_pos h']
      simp [Mh.st, h, trail_nil]
    · have h' : ¬ Lh.hedge f r x.st.2.1 ≤ x.st.2.2 + 1 := h
      rw [if_neg h, if_neg h']
      have h1 : trail x.up (x.looks ++ [well]) = trail x.up x.looks + 1 := by rw [trail_snoc, if_neg e]
      simp [Mh.st, h, h1]
theorem flatH_set (L : List Mh) : ∀ (k : Nat) (x : Mh), k < L.length → flatH (L.set k x) = (((flatH L).set (k * 3) (.string x.name)).set (k * 3 + 1) (.bool x.up)).set (k * 3 + 2) x.val := by
  induction L with
  | nil => intro k x h; cases h
  | cons p P ih =>
    intro k x h
    have e : flatH (p :: P) = .string p.name :: .bool p.up :: p.val :: flatH P := rfl
    match k, h with
    | 0, _ => rfl
    | k + 1, h =>
      rw [List.set_cons_succ, e]
      have e2 : flatH (p :: P.set k x) = .string p.name :: .bool p.up :: p.val :: flatH (P.set k x) := rfl
      rw [e2, ih k x (by simpa using h)]
      rw [show (k + 1) * 3 = k * 3 + 1 + 1 + 1 by omega]
      rfl
/-- one cell of a row is set -/
theorem owns_set {w : World} {base : Nat} {e : TypeId} {size g n cap : Nat} {xs : List Value} (h : w.ownsRow base e size (.slice (some ⟨g, 0, none⟩) n cap) n xs) (i : Nat) (u : Value) : (w.setCell ⟨g, i, none⟩ u).ownsRow base e size (.slice (some ⟨g, 0, none⟩) n cap) n (xs.set i u) := by
  obtain ⟨h1, ⟨h2, _⟩ | ⟨g', cap', cur, e1, e2, e3, e4, e5, e6, e7⟩⟩ := h
  · cases h2
  · cases e1
    refine ⟨by simpa using h1, Or.inr ⟨g, cap, cur.setIfInBounds i u, rfl, e2, ?_, e4, e5, by simpa using e6, ?_⟩⟩
    · exact heap_setCell_same w g i _ _ u e3
    · rw [Array.toList_setIfInBounds, List.take_set, e7]
theorem MH.looked {W w' : World} {m f r : Nat} {L : List Mh} {g cap k : Nat} (h : MH W m f r L (.slice (some ⟨g, 0, none⟩) L.length cap)) (hk : k < L.length) (x : Mh) (hs : ∀ b, b < W.heap.size → b ≠ g → some b ≠ (L[k]).val.ownBlock → w'.heap[b]? = W.heap[b]?)
    (hrow : w'.ownsRow (m + 1) 127 3 (.slice (some ⟨g, 0, none⟩) L.length cap) L.length (flatH (L.set k x))) (hlk : w'.ownsRow (m + 1) 4 1 x.val x.looks.length (x.looks.map Value.bool)) (hat : x.val.ownBlock = none ∨ x.val.ownBlock = (L[k]).val.ownBlock ∨ ∃ q, x.val.ownBlock = some q ∧ W.heap.size ≤ q) :
    MH w' m f r (L.set k x) (.slice (some ⟨g, 0, none⟩) L.length cap) ∧ ∀ b, MFoot m (L.set k x) (.slice (some ⟨g, 0, none⟩) L.length cap) b → MFoot m L (.slice (some ⟨g, 0, none⟩) L.length cap) b ∨ W.heap.size ≤ b := by
  have hm := h.mlt
  have hg := (h.own.lt g rfl).1
  have hkm := List.getElem_mem hk
  have hvm : ∀ b, b ≤ m → some b ≠ (L[k]).val.ownBlock := fun b hb e => by
    have := ((h.looks _ hkm).lt b e.symm).1
    omega
  have hmb := hs m hm (by omega) (hvm m (Nat.le_refl _))
  -- the other hosts
  have hoth : ∀ j (hj : j < L.length), j ≠ k → ∀ q, (L[j]).val.ownBlock = some q → q ≠ g ∧ some q ≠ (L[k]).val.ownBlock ∧ q < W.heap.size := fun j hj hjk q e => by
    refine ⟨fun e2 => ?_, fun e2 => ?_, ((h.looks _ (List.getElem_mem hj)).lt q e).2⟩
    · rcases h.apart _ (List.getElem_mem hj) with h1 | h1
      · rw [e] at h1; cases h1
      · exact h1 (by rw [e, e2]; rfl)
    · rcases Nat.lt_or_ge j k with h1 | h1
      · rcases List.pairwise_iff_getElem.1 h.pair j k hj hk h1 with h2 | h2
        · rw [e] at h2; cases h2
        · exact h2 (by rw [e, e2])
      · rcases List.pairwise_iff_getElem.1 h.pair k j hk hj (by omega) with h2 | h2
        · rw [h2] at e2; cases e2
        · exact h2 (by rw [e, ← e2])
  have hnew : ∀ j (hj : j < L.length), j ≠ k → x.val.ownBlock = none ∨ x.val.ownBlock ≠ (L[j]).val.ownBlock := fun j hj hjk => by
    rcases hat with h1 | h1 | ⟨q, h1, h2⟩
    · exact Or.inl h1
    · cases e3 : x.val.ownBlock with
      | none => exact Or.inl rfl
      | some q => exact Or.inr fun e2 => (hoth j hj hjk q e2.symm).2.1 (by rw [← h1, e3])
    · refine Or.inr fun e2 => ?_
      have := (hoth j hj hjk q (by rw [← e2, h1])).2.2
      omega
  refine ⟨⟨?_, ?_, ?_, fun k => ?_, by rw [List.length_set]; exact hrow, fun y hy => ?_, fun y hy => ?_, ?_⟩, fun b hb => ?_⟩
  · rw [World.cell?_of_block (w := W) (w' := w') (a := ⟨m, 0, none⟩) hmb]; exact h.c0
  · rw [World.cell?_of_block (w := W) (w' := w') (a := ⟨m, 1, none⟩) hmb]; exact h.c1
  · rw [World.cell?_of_block (w := W) (w' := w') (a := ⟨m, 2, none⟩) hmb]; exact h.c2
  · rw [World.frozen?_of_block (w := W) (w' := w') (a := ⟨m, k, none⟩) hmb]; exact h.fz k
  · obtain ⟨j, hj, rfl⟩ := List.getElem_of_mem hy
    rw [List.getElem_set]
    by_cases e : k = j
    · rw [if_pos e]; exact hlk
    · rw [if_neg e]
      have hj' : j < L.length := by simpa using hj
      refine owns_same (h.looks _ (List.getElem_mem hj')) fun q e2 => ?_
      obtain ⟨h1, h2, h3⟩ := hoth j hj' (fun e3 => e e3.symm) q e2
      exact hs q h3 h1 h2
  · obtain ⟨j, hj, rfl⟩ := List.getElem_of_mem hy
    rw [List.getElem_set]
    by_cases e : k = j
    · rw [if_pos e]
      rcases hat with h1 | h1 | ⟨q, h1, h2⟩
      · exact Or.inl h1
      · rw [h1]; exact h.apart _ hkm
      · refine Or.inr fun e2 => ?_
        rw [h1] at e2
        have e3 : q = g := Option.some.inj e2
        have := (h.own.lt g rfl).2
        omega
    · rw [if_neg e]
      exact h.apart _ (List.getElem_mem _)
  · rw [List.pairwise_iff_getElem]
    intro i j hi hj hij
    have hi' : i < L.length := by simpa using hi
    have hj' : j < L.length := by simpa using hj
    rw [List.getElem_set, List.getElem_set]
    by_cases e1 : k = i
    · rw [if_pos e1, if_neg (by omega)]
      exact hnew j hj' (by omega)
    · rw [if_neg e1]
      by_cases e2 : k = j
      · rw [if_pos e2]
        rcases hnew i hi' (by omega) with h1 | h1
        · cases e3 : (L[i]).val.ownBlock with
          | none => exact Or.inl rfl
          | some q => exact Or.inr (by rw [h1]; exact fun e4 => by cases e4)
        · exact Or.inr fun e3 => h1 e3.symm
      · rw [if_neg e2]
        exact List.pairwise_iff_getElem.1 h.pair i j hi' hj' hij
  · rcases hb with rfl | e | ⟨y, hy, e⟩
    · exact Or.inl (Or.inl rfl)
    · exact Or.inl (Or.inr (Or.inl e))
    · rcases List.mem_or_eq_of_mem_set hy with hy | rfl
      · exact Or.inl (Or.inr (Or.inr ⟨y, hy, e⟩))
      · rcases hat with h1 | h1 | ⟨q, h1, h2⟩
        · rw [h1] at e; cases e
        · exact Or.inl (Or.inr (Or.inr ⟨_, hkm, by rw [← h1]; exact e⟩))
        · rw [h1] at e
          have : q = b := Option.some.inj e
          exact Or.inr (by omega)
end Go.Proofs.YtfhmfjcpggddkaaGreatDoor

/- The model of health: Remove. -/
namespace Go.Proofs.YtfhmfjcpggddkaaGreatDoor
open Go.RowKit

theorem own_shape {w : World} {base : Nat} {e : TypeId} {size n : Nat} {v : Value} {xs : List Value} (h : w.ownsRow base e size v n xs) : ∃ p cap, v = .slice p n cap := by
  obtain ⟨h1, ⟨rfl, rfl⟩ | ⟨g, cap, cur, rfl, _⟩⟩ := h
  · exact ⟨_, _, rfl⟩
  · exact ⟨_, _, rfl⟩
theorem MH.one {W : World} {m f r : Nat} {L : List Mh} {lv : Value} (h : MH W m f r L lv) {M : List Mh} (hM : ∀ x ∈ M, x ∈ L) : ∀ u ∈ flatH M, u.oneCell' = true := by
  intro u hu
  obtain ⟨x, hx, hu⟩ := List.mem_flatMap.1 hu
  obtain ⟨p, c, e⟩ := own_shape (h.looks x (hM x hx))
  exact encH_one x (by rw [e]; rfl) u hu
end Go.Proofs.YtfhmfjcpggddkaaGreatDoor
