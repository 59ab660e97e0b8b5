/- The landed Counts. -/
import Derived.Test.YtedbhahkldfmiaaDoorMake
namespace Go.Proofs.YtedbhahkldfmiaaDoor
open Go.RowKit

set_option maxHeartbeats 1000000 in
theorem counts_out (a : Nat → Addr) (v : Value) (many : Int) (w : World) (he : Errs a w) (h : many < 0 ∨ 12 < many) :
    Calls Tryd.prog 38 #[v, .int .i64 many] w fun e w' => e = .returned (.tuple #[.slice none 0 0, .iface 84 (.pointer (some (a 1)))]) ∧ Below w.heap.size w w' := by
  have s1 := he.s1
  by_cases h2 : many < 0
  · have d1 : decide (many < 0) = true := by simp; omega
    go_enter Tryd.func38, Tryd.ntmps38
    go_wp2_with fail
    go_quiet (fail)
    go_wp2
    go_ret2
    exact ⟨rfl, below_drewN (Below.refl _ _) nq⟩
  · have d1 : decide (many < 0) = false := by simp; omega
    have d2 : decide (12 < many) = true := by simp; omega
    go_enter Tryd.func38, Tryd.ntmps38
    go_wp2_with fail
    go_quiet (fail)
    go_wp2
    go_ret2
    exact ⟨rfl, below_drewN (Below.refl _ _) nq⟩

/-- how often each stands there -/
def cnt (l : List Int) (m : Nat) : List Int := (List.range m).map fun h => ((l.count ((h : Nat) : Int) : Nat) : Int)
theorem cnt_length (l : List Int) (m : Nat) : (cnt l m).length = m := by simp [cnt]
theorem cnt_get (l : List Int) (m : Nat) {h : Nat} (hh : h < (cnt l m).length) : (cnt l m)[h] = ((l.count ((h : Nat) : Int) : Nat) : Int) := by simp [cnt]
theorem cnt_nil (m : Nat) : cnt [] m = List.replicate m 0 := by
  apply List.ext_getElem
  · simp [cnt]
  · intro i h1 h2
    simp [cnt]
theorem cnt_snoc (l : List Int) (m x : Nat) : cnt (l ++ [((x : Nat) : Int)]) m = (cnt l m).set x (((l.count ((x : Nat) : Int) : Nat) : Int) + 1) := by
  apply List.ext_getElem
  · simp [cnt]
  · intro i h1 h2
    rw [cnt_get, List.getElem_set]
    by_cases e : x = i
    · subst e
      simp [List.count_append]
    · have e' : ¬ ((x : Int) = (i : Int)) := by omega
      rw [if_neg e, cnt_get]
      simp [List.count_append, e']

/-- What is wrong with a list of numbers: the first one that is none of a host's. -/
def CntFault (l : List Int) (many : Int) (c : Nat) (pl : Int) : Prop :=
  ((many < 0 ∨ 12 < many) ∧ c = 2 ∧ pl = -1) ∨
  (∃ m : Nat, many = m ∧ m ≤ 12 ∧ ∃ i, ∃ h : i < l.length, (∀ j, j < i → ∀ hj : j < l.length, 0 ≤ l[j] ∧ l[j] < m) ∧ ¬ (0 ≤ l[i] ∧ l[i] < m) ∧ c = 2 ∧ pl = i) ∨
  (∃ m : Nat, many = m ∧ m ≤ 12 ∧ (∀ j, ∀ hj : j < l.length, 0 ≤ l[j] ∧ l[j] < m) ∧ c = 0 ∧ pl = -1)
theorem cnt_scan (l : List Int) (m : Nat) : ∀ n, n ≤ l.length → (∀ j, j < n → ∀ hj : j < l.length, 0 ≤ l[j] ∧ l[j] < m) ∨ ∃ i, ∃ h : i < l.length, (∀ j, j < i → ∀ hj : j < l.length, 0 ≤ l[j] ∧ l[j] < m) ∧ ¬ (0 ≤ l[i] ∧ l[i] < m)
  | 0, _ => Or.inl fun j h => absurd h (by omega)
  | n + 1, hn => by
    rcases cnt_scan l m n (by omega) with h | h
    · by_cases hg : 0 ≤ l[n] ∧ l[n] < m
      · refine Or.inl fun j hj hl => ?_
        by_cases e : j = n
        · subst e; exact hg
        · exact h j (by omega) hl
      · exact Or.inr ⟨n, by omega, h, hg⟩
    · exact Or.inr h
theorem cntFault_ex (l : List Int) (many : Int) : ∃ c pl, CntFault l many c pl := by
  by_cases h : many < 0 ∨ 12 < many
  · exact ⟨2, -1, Or.inl ⟨h, rfl, rfl⟩⟩
  · obtain ⟨m, hm⟩ := Int.eq_ofNat_of_zero_le (show 0 ≤ many by omega)
    rcases cnt_scan l m l.length (Nat.le_refl _) with hg | ⟨i, hi, hp, hb⟩
    · exact ⟨0, -1, Or.inr (Or.inr ⟨m, hm, by omega, fun j hj => hg j hj hj, rfl, rfl⟩)⟩
    · exact ⟨2, i, Or.inr (Or.inl ⟨m, hm, by omega, i, hi, hp, hb, rfl, rfl⟩)⟩

theorem cnt_bad_at {l : List Int} {m c : Nat} {pl : Int} (hf : CntFault l m c pl) (hm : m ≤ 12) {k : Nat} (hk : k < l.length) (hp : ∀ j, j < k → ∀ hj : j < l.length, 0 ≤ l[j] ∧ l[j] < m) (hb : ¬ (0 ≤ l[k] ∧ l[k] < m)) : c = 2 ∧ pl = k := by
  rcases hf with ⟨h, _⟩ | ⟨m', e, _, i, hi, hpi, hbi, hc, hpl⟩ | ⟨m', e, _, hg, _⟩
  · omega
  · have : m = m' := by omega
    subst this
    rcases Nat.lt_trichotomy i k with h | h | h
    · exact absurd (hp i h hi) hbi
    · subst h; exact ⟨hc, hpl⟩
    · exact absurd (hpi k h hk) hb
  · have : m = m' := by omega
    subst this
    exact absurd (hg k hk) hb
theorem cnt_none {l : List Int} {m c : Nat} {pl : Int} (hf : CntFault l m c pl) (hm : m ≤ 12) (hp : ∀ j, ∀ hj : j < l.length, 0 ≤ l[j] ∧ l[j] < m) : c = 0 ∧ pl = -1 := by
  rcases hf with ⟨h, _⟩ | ⟨m', e, _, i, hi, _, hbi, _⟩ | ⟨_, _, _, _, hc, hpl⟩
  · omega
  · have : m = m' := by omega
    subst this
    exact absurd (hp i hi) hbi
  · exact ⟨hc, hpl⟩

set_option maxRecDepth 100000 in
set_option maxHeartbeats 2000000 in
theorem counts_core (a : Nat → Addr) (b o cp : Nat) (l : List Int) (m : Nat) (w : World) (he : Errs a w) (hl : ∀ k (h : k < l.length), w.cell? ⟨b, o + k, none⟩ = some (.int .i64 l[k])) (hlen : l.length < 1000000) (hm : m ≤ 12) (c : Nat) (pl : Int) (hf : CntFault l m c pl) :
    Calls Tryd.prog 38 #[.slice (some ⟨b, o, none⟩) l.length cp, .int .i64 m] w fun e w' => ((c = 0 ∧ ∃ g, e = .returned (.tuple #[.slice (some ⟨g, 0, none⟩) m m, .nilIface]) ∧ w.heap.size ≤ g ∧ IntRow w' g (cnt l m)) ∨ (c = 2 ∧ ∃ ev, e = .returned (.tuple #[.slice none 0 0, ev]) ∧ ErrIs a w' c pl ev)) ∧ Below w.heap.size w w' := by
  obtain ⟨i, hi, hz0, hz1, hz2⟩ := info_parts infoI
  have HL : Hid (∀ k (h : k < l.length), w.cell? ⟨b, o + k, none⟩ = some (.int .i64 l[k])) := hl
  have HF : Hid (CntFault l m c pl) := hf
  have HE : Hid (Errs a w) := he
  clear hl hf he
  have d1 : decide ((m : Int) < 0) = false := by simp
  have d2 : decide (12 < (m : Int)) = false := by simp; omega
  have hbyt : i.bytes * m ≤ 281474976710656 := by rw [hz2]; omega
  have hmax : m ≤ maxLen := by unfold maxLen; omega
  go_enter Tryd.func38, Tryd.ntmps38
  go_wp2_with (at_make; refine wpList_make_full _ rfl _ _ 22 rfl w.heap.size 3 i _ 1 Tryd.underlying22 hi hz0 hz1 _ _ _ _ m rfl rfl rfl rfl hbyt hmax (Nat.le_refl _) ?_)
  intro w2 hown hgrow
  have hb2 : Below w.heap.size w w2 := below_grown hgrow (fun k h => by cases h)
  rw [made_ints2, ← cnt_nil] at hown
  have hrow0 := IntRow.of_owns hown
  clear hown hgrow
  obtain ⟨g, hgg⟩ : ∃ g, w.heap.size = g := ⟨_, rfl⟩
  rw [hgg] at hrow0
  rw [hgg]
  have hgle : w.heap.size ≤ g := by omega
  clear hgg
  go_wp2_with fail
  go_loopw [20] (fun t W => Below w.heap.size w W ∧ ∃ k : Nat, k ≤ l.length ∧ t = .int .i64 k ∧ IntRow W g (cnt (l.take k) m) ∧ ∀ j, j < k → ∀ hj : j < l.length, 0 ≤ l[j] ∧ l[j] < m) (fun t _ => l.length - (intOf t).toNat)
  case atStart => exact ⟨hb2, 0, Nat.zero_le _, rfl, hrow0, fun j h => absurd h (by omega)⟩
  case round =>
    obtain ⟨hb, k, hk, rfl, hrow, hgood⟩ := hrel
    have HR : Hid (IntRow wr g (cnt (l.take k) m)) := hrow
    have HG : Hid (∀ j, j < k → ∀ hj : j < l.length, 0 ≤ l[j] ∧ l[j] < m) := hgood
    clear hrow0 hgood hb2
    by_cases hlt : k < l.length
    · have cx := below_cell hb (HL.out k hlt)
      have hd : decide ((k : Int) < (l.length : Int)) = true := by simp; omega
      by_cases hg : 0 ≤ l[k] ∧ l[k] < m
      · obtain ⟨y, hy⟩ := Int.eq_ofNat_of_zero_le hg.1
        have hym : y < m := by omega
        have hrl : y < (cnt (l.take k) m).length := by rw [cnt_length]; exact hym
        have cy := hrow.cell hrl
        rw [cnt_get] at cy
        have fy := hrow.frozen y
        have hcl : (l.take k).count ((y : Nat) : Int) ≤ k := Nat.le_trans List.count_le_length (by simp; omega)
        have HS : Hid (cnt (l.take (k + 1)) m = (cnt (l.take k) m).set y ((((l.take k).count ((y : Nat) : Int) : Nat) : Int) + 1)) := by
          have h1 := cnt_snoc (l.take k) m y
          rw [← hy, ← List.take_succ_eq_append_getElem hlt] at h1
          rw [← hy]
          exact h1
        have HGN : Hid (∀ j, j < k + 1 → ∀ hj : j < l.length, 0 ≤ l[j] ∧ l[j] < m) := fun j hj hl => by
          by_cases e : j = k
          · subst e; exact hg
          · exact HG.out j (by omega) hl
        rw [hy] at cx
        generalize (l.take k).count ((y : Nat) : Int) = q at *
        have e1 : decide ((y : Int) < 0) = false := by simp
        have e2 : decide ((m : Int) ≤ (y : Int)) = false := by simp; omega
        clear hg hy hrow hrl
        go_wp2_with fail
        go_roundw
        case rel =>
          refine ⟨hb.setCell hgle _, k + 1, by omega, by go_num, ?_, HGN.out⟩
          rw [HS.out]
          exact HR.out.set y _
        case measure => simp [intOf]; omega
      · have HC : Hid (c = 2 ∧ pl = k) := cnt_bad_at HF.out hm hlt HG.out hg
        have s1 := (HE.out.later hb).s1
        have hb0 : Below w.heap.size w wr := hb
        generalize l[k] = x at *
        clear hrow
        by_cases hx0 : x < 0
        · have e1 : decide (x < 0) = true := by simp; omega
          go_wp2_with fail
          go_region
          all_goals
            go_wp2
            go_ret2
            refine ⟨Or.inr ⟨HC.out.1, _, rfl, Or.inr ⟨1, by decide, HC.out.1, Or.inr ⟨wr.heap.size, rfl, by rw [HC.out.2]; simp, by simp⟩⟩⟩, ?_⟩
            exact (hb0.alloc hb0.size _).drew
        · have e1 : decide (x < 0) = false := by simp; omega
          have e2 : decide ((m : Int) ≤ x) = true := by simp; omega
          go_wp2_with fail
          go_region
          all_goals
            go_wp2
            go_ret2
            refine ⟨Or.inr ⟨HC.out.1, _, rfl, Or.inr ⟨1, by decide, HC.out.1, Or.inr ⟨wr.heap.size, rfl, by rw [HC.out.2]; simp, by simp⟩⟩⟩, ?_⟩
            exact (hb0.alloc hb0.size _).drew
    · have hd : decide ((k : Int) < (l.length : Int)) = false := by simp; omega
      have HC : Hid (c = 0 ∧ pl = -1) := cnt_none HF.out hm (fun j hj => HG.out j (by omega) hj)
      have HFI : Hid (IntRow wr g (cnt l m)) := by
        have h1 := HR.out
        rw [List.take_of_length_le (by omega)] at h1
        exact h1
      clear hrow
      go_wp2
      go_ret2
      exact ⟨Or.inl ⟨HC.out.1, g, rfl, hgle, HFI.out⟩, hb⟩

set_option maxRecDepth 100000 in
set_option maxHeartbeats 2000000 in
theorem counts_zero (p : Option Addr) (cp m : Nat) (w : World) (hm : m ≤ 12) :
    Calls Tryd.prog 38 #[.slice p 0 cp, .int .i64 m] w fun e w' => ∃ g, e = .returned (.tuple #[.slice (some ⟨g, 0, none⟩) m m, .nilIface]) ∧ w.heap.size ≤ g ∧ IntRow w' g (cnt [] m) ∧ Below w.heap.size w w' := by
  obtain ⟨i, hi, hz0, hz1, hz2⟩ := info_parts infoI
  have d1 : decide ((m : Int) < 0) = false := by simp
  have d2 : decide (12 < (m : Int)) = false := by simp; omega
  have hbyt : i.bytes * m ≤ 281474976710656 := by rw [hz2]; omega
  have hmax : m ≤ maxLen := by unfold maxLen; omega
  go_enter Tryd.func38, Tryd.ntmps38
  go_wp2_with (at_make; refine wpList_make_full _ rfl _ _ 22 rfl w.heap.size 3 i _ 1 Tryd.underlying22 hi hz0 hz1 _ _ _ _ m rfl rfl rfl rfl hbyt hmax (Nat.le_refl _) ?_)
  intro w2 hown hgrow
  have hb2 : Below w.heap.size w w2 := below_grown hgrow (fun k h => by cases h)
  rw [made_ints2, ← cnt_nil] at hown
  have HR : Hid (IntRow w2 w.heap.size (cnt [] m)) := IntRow.of_owns hown
  clear hown hgrow
  go_wp2_with fail
  refine wp_loop_rounds 1 ?_
  rw [rounds_succ]
  go_wp2
  go_ret2
  exact ⟨_, rfl, Nat.le_refl _, HR.out, hb2⟩

/-- Counts of any list and any number. -/
theorem counts_any (a : Nat → Addr) (v : Value) (l : List Int) (many : Int) (w : World) (he : Errs a w) (hv : Ints w v l) (hlen : l.length < 1000000) (c : Nat) (pl : Int) (hf : CntFault l many c pl) :
    Calls Tryd.prog 38 #[v, .int .i64 many] w fun e w' => ((c = 0 ∧ ∃ g m : Nat, many = m ∧ e = .returned (.tuple #[.slice (some ⟨g, 0, none⟩) m m, .nilIface]) ∧ w.heap.size ≤ g ∧ IntRow w' g (cnt l m)) ∨ (c = 2 ∧ ∃ ev, e = .returned (.tuple #[.slice none 0 0, ev]) ∧ ErrIs a w' c pl ev)) ∧ Below w.heap.size w w' := by
  by_cases h : many < 0 ∨ 12 < many
  · have hcp : c = 2 ∧ pl = -1 := by
      rcases hf with ⟨_, h1, h2⟩ | ⟨m, h1, _⟩ | ⟨m, h1, _⟩
      · exact ⟨h1, h2⟩
      · omega
      · omega
    obtain ⟨rfl, rfl⟩ := hcp
    exact (counts_out a v many w he h).mono fun e w' ⟨h1, h2⟩ => ⟨Or.inr ⟨rfl, _, h1, Or.inr ⟨1, by decide, rfl, Or.inl ⟨rfl, rfl⟩⟩⟩, h2⟩
  · obtain ⟨m, rfl⟩ := Int.eq_ofNat_of_zero_le (show 0 ≤ many by omega)
    have hm : m ≤ 12 := by omega
    rcases hv with ⟨rfl, p, cp, rfl⟩ | ⟨b, o, cp, rfl, hc⟩
    · have h0 := cnt_none hf hm (fun j hj => absurd hj (by simp))
      exact (counts_zero p cp m w hm).mono fun e w' ⟨g, h1, h2, h3, h4⟩ => ⟨Or.inl ⟨h0.1, g, m, rfl, h1, h2, h3⟩, h4⟩
    · refine (counts_core a b o cp l m w he hc hlen hm c pl hf).mono fun e w' ⟨h1, h2⟩ => ⟨?_, h2⟩
      rcases h1 with ⟨h3, g, h4⟩ | h1
      · exact Or.inl ⟨h3, g, m, rfl, h4⟩
      · exact Or.inr h1
end Go.Proofs.YtedbhahkldfmiaaDoor
