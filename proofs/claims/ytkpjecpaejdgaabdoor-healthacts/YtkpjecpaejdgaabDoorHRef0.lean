/- The model of health in memory; Find and IsUp. -/
import Derived.Test.YtkpjecpaejdgaabDoorHCon
namespace Go.Proofs.YtkpjecpaejdgaabDoor
open Go.RowKit

/-- a host of the model: its name, whether it is up, its looks since it turned, the slice that holds them -/
structure Mh where
  name : ByteArray
  up : Bool
  looks : List Bool
  val : Value
/-- how many of the other kind are at the end -/
def trail (up : Bool) (looks : List Bool) : Nat := (looks.reverse.takeWhile fun b => b != up).length
def Mh.st (x : Mh) : Lh.Hh := (x.name, x.up, trail x.up x.looks)
def hst (L : List Mh) : List Lh.Hh := L.map Mh.st
theorem hst_length (L : List Mh) : (hst L).length = L.length := by simp [hst]
theorem hst_get (L : List Mh) {i : Nat} (h : i < (hst L).length) : (hst L)[i] = (L[i]'(by simpa [hst] using h)).st := by simp [hst]
def encH (x : Mh) : List Value := [.string x.name, .bool x.up, x.val]
def flatH (L : List Mh) : List Value := L.flatMap encH
theorem flatH_snoc (L : List Mh) (x : Mh) : flatH (L ++ [x]) = flatH L ++ encH x := by simp [flatH, List.flatMap_append]
theorem flatH_append (L M : List Mh) : flatH (L ++ M) = flatH L ++ flatH M := by simp [flatH, List.flatMap_append]
theorem flatH_length (L : List Mh) : (flatH L).length = L.length * 3 := by
  induction L with
  | nil => rfl
  | cons p P ih =>
    have : flatH (p :: P) = encH p ++ flatH P := rfl
    rw [this, List.length_append, ih, List.length_cons]
    simp [encH]
    omega
theorem flatH_get (L : List Mh) : ∀ i (h : i < L.length), (flatH L)[i * 3]? = some (.string L[i].name) ∧ (flatH L)[i * 3 + 1]? = some (.bool L[i].up) ∧ (flatH L)[i * 3 + 2]? = some L[i].val := by
  induction L with
  | nil => intro i h; cases h
  | cons p P ih =>
    intro i h
    have e : flatH (p :: P) = .string p.name :: .bool p.up :: p.val :: flatH P := rfl
    rw [e]
    match i, h with
    | 0, _ => exact ⟨rfl, rfl, rfl⟩
    | i + 1, h =>
      have := ih i (by simpa using h)
      rw [show (i + 1) * 3 = i * 3 + 1 + 1 + 1 by omega]
      simpa using this
/-- Block m is the model. -/
structure MH (W : World) (m f r : Nat) (L : List Mh) (lv : Value) : Prop where
  c0 : W.cell? ⟨m, 0, none⟩ = some (.int .i64 (f : Nat))
  c1 : W.cell? ⟨m, 1, none⟩ = some (.int .i64 (r : Nat))
  c2 : W.cell? ⟨m, 2, none⟩ = some lv
  fz : ∀ k, W.frozen? ⟨m, k, none⟩ = false
  own : W.ownsRow (m + 1) 122 3 lv L.length (flatH L)
  looks : ∀ x ∈ L, W.ownsRow (m + 1) 4 1 x.val x.looks.length (x.looks.map Value.bool)
  apart : ∀ x ∈ L, x.val.ownBlock = none ∨ x.val.ownBlock ≠ lv.ownBlock
  pair : L.Pairwise fun x y => x.val.ownBlock = none ∨ x.val.ownBlock ≠ y.val.ownBlock
/-- the blocks that it is made of -/
def MFoot (m : Nat) (L : List Mh) (lv : Value) (b : Nat) : Prop := b = m ∨ lv.ownBlock = some b ∨ ∃ x ∈ L, x.val.ownBlock = some b
theorem owns_same {w w' : World} {base : Nat} {e : TypeId} {size : Nat} {v : Value} {n : Nat} {xs : List Value} (h : w.ownsRow base e size v n xs) (he : ∀ g, v.ownBlock = some g → w'.heap[g]? = w.heap[g]?) : w'.ownsRow base e size v n xs := by
  obtain ⟨h1, h2 | ⟨g, cap, cur, rfl, e2, e3, e4⟩⟩ := h
  · exact ⟨h1, Or.inl h2⟩
  · exact ⟨h1, Or.inr ⟨g, cap, cur, rfl, e2, (he g rfl).trans e3, e4⟩⟩
theorem MH.mlt {W : World} {m f r : Nat} {L : List Mh} {lv : Value} (h : MH W m f r L lv) : m < W.heap.size := World.block_lt_of_cell? W ⟨m, 0, none⟩ h.c0
theorem MH.lt {W : World} {m f r : Nat} {L : List Mh} {lv : Value} (h : MH W m f r L lv) : ∀ b, MFoot m L lv b → b < W.heap.size ∧ m ≤ b := by
  rintro b (rfl | e | ⟨x, hx, e⟩)
  · exact ⟨h.mlt, Nat.le_refl _⟩
  · have := h.own.lt b e
    omega
  · have := (h.looks x hx).lt b e
    omega
theorem MH.stay {W W' : World} {m f r : Nat} {L : List Mh} {lv : Value} (h : MH W m f r L lv) (hs : ∀ b, MFoot m L lv b → W'.heap[b]? = W.heap[b]?) : MH W' m f r L lv := by
  have hm := hs m (Or.inl rfl)
  refine ⟨?_, ?_, ?_, fun k => ?_, owns_same h.own fun g e => hs g (Or.inr (Or.inl e)), fun x hx => owns_same (h.looks x hx) fun g e => hs g (Or.inr (Or.inr ⟨x, hx, e⟩)), h.apart, h.pair⟩
  · rw [World.cell?_of_block (w := W) (w' := W') (a := ⟨m, 0, none⟩) hm]; exact h.c0
  · rw [World.cell?_of_block (w := W) (w' := W') (a := ⟨m, 1, none⟩) hm]; exact h.c1
  · rw [World.cell?_of_block (w := W) (w' := W') (a := ⟨m, 2, none⟩) hm]; exact h.c2
  · rw [World.frozen?_of_block (w := W) (w' := W') (a := ⟨m, k, none⟩) hm]; exact h.fz k
theorem MH.later {W W' : World} {m f r : Nat} {L : List Mh} {lv : Value} (h : MH W m f r L lv) (hb : Below W.heap.size W W') : MH W' m f r L lv := h.stay fun b hf => hb.block b (h.lt b hf).1
/-- the row's cells -/
theorem row_of_owns3 {w : World} {base : Nat} {v : Value} {e : TypeId} {L : List Mh} (h : w.ownsRow base e 3 v L.length (flatH L)) (h0 : 0 < L.length) : ∃ g cap, v = .slice (some ⟨g, 0, none⟩) L.length cap ∧ base ≤ g ∧ g < w.heap.size ∧ L.length ≤ cap ∧ (∀ i (h : i < L.length), w.cell? ⟨g, i * 3, none⟩ = some (.string L[i].name) ∧ w.cell? ⟨g, i * 3 + 1, none⟩ = some (.bool L[i].up) ∧ w.cell? ⟨g, i * 3 + 2, none⟩ = some L[i].val) ∧ ∀ k, w.frozen? ⟨g, k, none⟩ = false := by
  obtain ⟨hl, ⟨rfl, h'⟩ | ⟨g, cap, cur, rfl, hbase, hb, hn, hm, hsz, ht⟩⟩ := h
  · omega
  · have hlt : g < w.heap.size := (Array.getElem?_eq_some_iff.1 hb).1
    refine ⟨g, cap, rfl, hbase, hlt, hn, fun i hi => ?_, fun k => by simp [World.frozen?, hb]⟩
    obtain ⟨h1, h2, h3⟩ := flatH_get L i hi
    rw [← ht] at h1 h2 h3
    rw [List.getElem?_take_of_lt (by omega)] at h1 h2 h3
    simp only [World.cell?, hb]
    exact ⟨by simpa using h1, by simpa using h2, by simpa using h3⟩
/-- the number that Find answers -/
def fi (l : List Lh.Hh) (s : ByteArray) : Int := if Lh.hix l s < l.length then ((Lh.hix l s : Nat) : Int) else -1
theorem fi_at {l : List Lh.Hh} {s : ByteArray} {k : Nat} (hk : k < l.length) (hp : ∀ j (h : j < l.length), j < k → (l[j]).1 ≠ s) (he : (l[k]).1 = s) : Lh.hix l s = k := by
  have h1 : Lh.hix l s < l.length := Lh.hix_lt.2 ⟨_, List.getElem_mem hk, he⟩
  rcases Nat.lt_trichotomy (Lh.hix l s) k with h | h | h
  · exact absurd (Lh.hix_get h1) (hp _ h1 h)
  · exact h
  · exact absurd he (Lh.hix_first hk h)

set_option maxRecDepth 100000 in
set_option maxHeartbeats 2000000 in
theorem find_core (m g cap : Nat) (L : List Mh) (s : ByteArray) (W : World) (hl : L.length ≤ 12) (c2 : W.cell? ⟨m, 2, none⟩ = some (.slice (some ⟨g, 0, none⟩) L.length cap)) (hc : ∀ i (h : i < L.length), W.cell? ⟨g, i * 3, none⟩ = some (.string L[i].name)) :
    Calls Tryd.prog 74 #[.pointer (some ⟨m, 0, none⟩), .string s] W fun e w' => e = .returned (.int .i64 (fi (hst L) s)) ∧ w' = W := by
  have HC : Hid (∀ i (h : i < L.length), W.cell? ⟨g, i * 3, none⟩ = some (.string L[i].name)) := hc
  clear hc
  go_enter Tryd.func74, Tryd.ntmps74
  go_wp2_with fail
  go_loop [5] (fun t => ∃ k : Nat, k ≤ L.length ∧ t = .int .i64 (k : Nat) ∧ ∀ j (h : j < (hst L).length), j < k → ((hst L)[j]).1 ≠ s) (fun t => L.length - (intOf t).toNat)
  case atStart => exact ⟨0, Nat.zero_le _, rfl, fun j _ h => absurd h (by omega)⟩
  case round =>
    obtain ⟨k, hk, rfl, hp⟩ := hrel
    have HP : Hid (∀ j (h : j < (hst L).length), j < k → ((hst L)[j]).1 ≠ s) := hp
    clear hp
    by_cases hlt : k < L.length
    · have cx := HC.out k hlt
      have hki : (k : Int) < (L.length : Int) := by omega
      have hkh : k < (hst L).length := by rw [hst_length]; exact hlt
      have hnm : ((hst L)[k]).1 = (L[k]).name := by rw [hst_get]; rfl
      by_cases he : (L[k]).name = s
      · have HF : Hid (fi (hst L) s = (k : Nat)) := by
          have h1 := fi_at hkh HP.out (hnm.trans he)
          show fi (hst L) s = (k : Nat)
          unfold fi
          rw [h1, if_pos hkh]
        have hq := bytes_same he
        clear he hnm
        generalize (L[k]).name = t at *
        go_wp2
        go_ret
        exact ⟨by rw [HF.out]; rfl, rfl⟩
      · have HPN : Hid (∀ j (h : j < (hst L).length), j < k + 1 → ((hst L)[j]).1 ≠ s) := fun j h hj => by
          by_cases e : j = k
          · subst e
            rw [hnm]
            exact he
          · exact HP.out j h (by omega)
        have hq := bytes_parts he
        clear he hnm
        generalize (L[k]).name = t at *
        go_wp2
        go_round
        case rel => exact ⟨k + 1, by omega, by go_num, HPN.out⟩
        case measure => simp [intOf]; omega
    · have hki : decide ((k : Int) < (L.length : Int)) = false := by simp; omega
      have HF : Hid (fi (hst L) s = -1) := by
        show fi (hst L) s = -1
        unfold fi
        rw [if_neg]
        intro h
        exact HP.out _ h (by rw [hst_length] at h; omega) (Lh.hix_get h)
      go_wp2
      go_ret
      exact ⟨by rw [HF.out]; rfl, rfl⟩
end Go.Proofs.YtkpjecpaejdgaabDoor
