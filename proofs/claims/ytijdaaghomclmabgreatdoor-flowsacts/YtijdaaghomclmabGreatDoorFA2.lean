/- The law FlowsActs: LongFlows and OwnFlows. -/
import Derived.Test.YtijdaaghomclmabGreatDoorFlRef8
import Derived.Test.YtijdaaghomclmabGreatDoorFrM
import Derived.Laws.AppendOwnNone
namespace Go.Proofs.YtijdaaghomclmabGreatDoor
open Go.RowKit

def FShort (l : List Lh.Fl) : Prop := (l.length ≤ 40 ∨ l.length = 201) ∧ ∀ x ∈ l, x.2.1.size ≤ 60

set_option maxRecDepth 100000 in
set_option maxHeartbeats 2000000 in
/-- LongFlows: 0, and then they are short; or 1. -/
theorem longF_any (v : Value) (l : List Lh.Fl) (W : World) (hv : Flows1 W v l) (hl : l.length ≤ maxLen) (hs : ∀ x ∈ l, x.2.1.size ≤ maxLen) :
    Calls Tryz.prog 7 #[v] W fun e w' => ((e = .returned (.int .i64 0) ∧ FShort l) ∨ e = .returned (.int .i64 1)) ∧ w' = W := by
  obtain ⟨p, c, rfl, hc⟩ := hv.cells
  have HC : Hid _ := hc
  have HS : Hid (∀ x ∈ l, x.2.1.size ≤ maxLen) := hs
  have hln : l.length ≤ 9223372036854775807 := by unfold maxLen at hl; omega
  clear hv hc hs hl
  by_cases h40 : 40 < l.length ∧ l.length ≠ 201
  · obtain ⟨h1, h2⟩ := h40
    have d1 : decide (40 < (l.length : Int)) = true := by simp; omega
    have d2 : ((l.length : Int) != 201) = true := by simp; omega
    clear h2
    go_enter Tryz.func7, Tryz.ntmps7
    go_wp2
    go_ret
    exact ⟨Or.inr rfl, rfl⟩
  · have HL : Hid (l.length ≤ 40 ∨ l.length = 201) := by show _ ∨ _; omega
    have hsh : l.length ≤ 201 := by omega
    by_cases h1 : 40 < l.length
    · have d1 : decide (40 < (l.length : Int)) = true := by simp; omega
      have d2 : ((l.length : Int) != 201) = false := by
        have : l.length = 201 := by omega
        simp [this]
      clear h40
      go_enter Tryz.func7, Tryz.ntmps7
      go_wp2_with fail
      go_loop [3] (fun u => ∃ i : Nat, i ≤ l.length ∧ u = .int .i64 (i : Nat) ∧ ∀ j (h : j < l.length), j < i → (l[j]).2.1.size ≤ 60) (fun u => l.length - (intOf u).toNat)
      case atStart => exact ⟨0, Nat.zero_le _, rfl, fun j _ h => absurd h (by omega)⟩
      case round =>
        obtain ⟨i, hi, rfl, hp⟩ := hrel
        have HP : Hid (∀ j (h : j < l.length), j < i → (l[j]).2.1.size ≤ 60) := hp
        clear hp
        by_cases hil : i < l.length
        · have hii : (i : Int) < (l.length : Int) := by omega
          obtain ⟨b, o, rfl, _, cx, _⟩ := HC.out i hil
          have hsz := HS.out _ (List.getElem_mem hil)
          have hs64 : (l[i]).2.1.size ≤ 9223372036854775807 := by unfold maxLen at hsz; omega
          clear hsz
          by_cases h60 : 60 < (l[i]).2.1.size
          · have d : decide (60 < ((l[i]).2.1.size : Int)) = true := by simp; omega
            generalize (l[i]).2.1 = s at *
            go_wp2
            go_ret
            exact ⟨Or.inr rfl, rfl⟩
          · have d : decide (60 < ((l[i]).2.1.size : Int)) = false := by simp; omega
            have HPN : Hid (∀ j (h : j < l.length), j < i + 1 → (l[j]).2.1.size ≤ 60) := fun j h hj => by
              by_cases e : j = i
              · subst e; omega
              · exact HP.out j h (by omega)
            generalize (l[i]).2.1 = s at *
            go_wp2
            go_round
            case rel => exact ⟨i + 1, by omega, by go_num, HPN.out⟩
            case measure => simp [intOf]; omega
        · have hii : decide ((i : Int) < (l.length : Int)) = false := by simp; omega
          have HF : Hid (FShort l) := ⟨HL.out, fun x hx => by
            obtain ⟨j, hj, rfl⟩ := List.getElem_of_mem hx
            exact HP.out j hj (by omega)⟩
          go_wp2
          go_ret
          exact ⟨Or.inl ⟨rfl, HF.out⟩, rfl⟩
    · have d1 : decide (40 < (l.length : Int)) = false := by simp; omega
      clear h40
      go_enter Tryz.func7, Tryz.ntmps7
      go_wp2_with fail
      go_loop [3] (fun u => ∃ i : Nat, i ≤ l.length ∧ u = .int .i64 (i : Nat) ∧ ∀ j (h : j < l.length), j < i → (l[j]).2.1.size ≤ 60) (fun u => l.length - (intOf u).toNat)
      case atStart => exact ⟨0, Nat.zero_le _, rfl, fun j _ h => absurd h (by omega)⟩
      case round =>
        obtain ⟨i, hi, rfl, hp⟩ := hrel
        have HP : Hid (∀ j (h : j < l.length), j < i → (l[j]).2.1.size ≤ 60) := hp
        clear hp
        by_cases hil : i < l.length
        · have hii : (i : Int) < (l.length : Int) := by omega
          obtain ⟨b, o, rfl, _, cx, _⟩ := HC.out i hil
          have hsz := HS.out _ (List.getElem_mem hil)
          have hs64 : (l[i]).2.1.size ≤ 9223372036854775807 := by unfold maxLen at hsz; omega
          clear hsz
          by_cases h60 : 60 < (l[i]).2.1.size
          · have d : decide (60 < ((l[i]).2.1.size : Int)) = true := by simp; omega
            generalize (l[i]).2.1 = s at *
            go_wp2
            go_ret
            exact ⟨Or.inr rfl, rfl⟩
          · have d : decide (60 < ((l[i]).2.1.size : Int)) = false := by simp; omega
            have HPN : Hid (∀ j (h : j < l.length), j < i + 1 → (l[j]).2.1.size ≤ 60) := fun j h hj => by
              by_cases e : j = i
              · subst e; omega
              · exact HP.out j h (by omega)
            generalize (l[i]).2.1 = s at *
            go_wp2
            go_round
            case rel => exact ⟨i + 1, by omega, by go_num, HPN.out⟩
            case measure => simp [intOf]; omega
        · have hii : decide ((i : Int) < (l.length : Int)) = false := by simp; omega
          have HF : Hid (FShort l) := ⟨HL.out, fun x hx => by
            obtain ⟨j, hj, rfl⟩ := List.getElem_of_mem hx
            exact HP.out j hj (by omega)⟩
          go_wp2
          go_ret
          exact ⟨Or.inl ⟨rfl, HF.out⟩, rfl⟩

theorem flatF_cells {w : World} {b o : Nat} {l : List Lh.Fl} (h : ∀ i (hi : i < l.length), w.cell? ⟨b, o + i * 3, none⟩ = some (.int .u64 (l[i].1 : Nat)) ∧ w.cell? ⟨b, o + i * 3 + 1, none⟩ = some (.string l[i].2.1) ∧ w.cell? ⟨b, o + i * 3 + 2, none⟩ = some (.int .i64 l[i].2.2)) : ∀ j u, (flatF l)[j]? = some u → w.cell? ((⟨b, o, none⟩ : Addr).add j) = some u := by
  intro j u hu
  have hj : j < (flatF l).length := (List.getElem?_eq_some_iff.1 hu).1
  rw [flatF_length] at hj
  have hi : j / 3 < l.length := by omega
  obtain ⟨g0, g1, g2⟩ := flatF_get l (j / 3) hi
  obtain ⟨c0, c1, c2⟩ := h (j / 3) hi
  rw [Addr.add_lit]
  have e : j = j / 3 * 3 + j % 3 := by omega
  have h3 : j % 3 < 3 := Nat.mod_lt _ (by decide)
  generalize j / 3 = i at *
  generalize j % 3 = r at *
  subst e
  match r, h3 with
  | 0, _ => rw [Nat.add_zero] at hu; rw [g0] at hu; cases hu; exact c0
  | 1, _ => rw [g1] at hu; cases hu; rw [show o + (i * 3 + 1) = o + i * 3 + 1 by omega]; exact c1
  | 2, _ => rw [g2] at hu; cases hu; rw [show o + (i * 3 + 2) = o + i * 3 + 2 by omega]; exact c2
theorem flows_of_owns {w : World} {base : Nat} {v : Value} {l : List Lh.Fl} (h : w.ownsRow base 64 3 v l.length (flatF l)) : Flows1 w v l ∧ ∀ b o n c, v = .slice (some ⟨b, o, none⟩) n c → base ≤ b := by
  rcases h with ⟨hl, ⟨rfl, h0⟩ | ⟨g, cap, cur, rfl, h2, h3, h4, h5, h6, h7⟩⟩
  · exact ⟨Or.inl ⟨List.eq_nil_of_length_eq_zero h0, Or.inl rfl⟩, fun b o n c e => by cases e⟩
  · have hown : w.ownsRow base 64 3 (.slice (some ⟨g, 0, none⟩) l.length cap) l.length (flatF l) := ⟨hl, Or.inr ⟨g, cap, cur, rfl, h2, h3, h4, h5, h6, h7⟩⟩
    refine ⟨Or.inr ⟨g, 0, cap, rfl, h4, fun i hi => ?_⟩, fun b o n c e => by cases e; exact h2⟩
    obtain ⟨g0, g1, g2⟩ := flatF_get l i hi
    simp only [Nat.zero_add]
    exact ⟨frow_cells hown _ _ g0, frow_cells hown _ _ g1, frow_cells hown _ _ g2⟩

set_option maxHeartbeats 1000000 in
/-- OwnFlows: the same flows, in memory of the call's own. -/
theorem ownF_any (v : Value) (l : List Lh.Fl) (W : World) (hv : Flows1 W v l) (hl : l.length ≤ 201) :
    Calls Tryz.prog 17 #[v] W fun e w' => ∃ v', e = .returned v' ∧ Flows1 w' v' l ∧ Below W.heap.size W w' ∧ ∀ b o n c, v' = .slice (some ⟨b, o, none⟩) n c → W.heap.size ≤ b := by
  obtain ⟨i, hi, hz0, hz1, hz2⟩ := info_parts infoFl
  have hm : 0 + l.length ≤ maxLen := by unfold maxLen; omega
  have hown0 : W.ownsRow W.heap.size 64 3 (.slice none 0 0) 0 [] := World.ownsRow_nil _ _ _ _
  have hl3 : (flatF l).length = l.length * 3 := flatF_length l
  rcases hv with ⟨rfl, rfl | ⟨ad, c, rfl⟩⟩ | ⟨b, o, c, rfl, hcap, h⟩
  · go_enter Tryz.func17, Tryz.ntmps17
    go_wp2_with (at_builtin; refine wpList_append_own_none rfl _ _ 31 rfl W.heap.size 64 i 3 Tryz.underlying31 hi (.slice none 0 0) 0 [] rfl hown0 rfl ?_)
    go_ret
    exact ⟨_, rfl, Or.inl ⟨rfl, Or.inl rfl⟩, Below.refl _ _, fun b o n c e => by cases e⟩
  · have hs : ∀ j u, ([] : List Value)[j]? = some u → W.cell? (ad.add j) = some u := fun j u hu => by simp at hu
    go_enter Tryz.func17, Tryz.ntmps17
    go_wp2_with (at_builtin; refine wpList_append_own _ rfl _ _ 31 rfl W.heap.size 64 i _ 3 32 Tryz.underlying31 hi hz0 hz1 hz2 rfl (by decide) (.slice none 0 0) 0 [] rfl hown0 ad 0 c [] rfl rfl hs (fun u hu => by cases hu) hm (by omega) (Nat.le_refl _) ?_)
    intro v4 w4 hown4 hg4 _
    have hR4 : Below W.heap.size W w4 := below_grown hg4 (fun k h => by cases h)
    have HO : Hid (Flows1 w4 v4 [] ∧ ∀ b o n c, v4 = .slice (some ⟨b, o, none⟩) n c → W.heap.size ≤ b) := flows_of_owns (l := []) (by simpa [flatF] using hown4)
    clear hown4 hg4 hs
    go_wp2
    go_ret
    exact ⟨_, rfl, HO.out.1, hR4, HO.out.2⟩
  · have hs := flatF_cells h
    go_enter Tryz.func17, Tryz.ntmps17
    go_wp2_with (at_builtin; refine wpList_append_own _ rfl _ _ 31 rfl W.heap.size 64 i _ 3 32 Tryz.underlying31 hi hz0 hz1 hz2 rfl (by decide) (.slice none 0 0) 0 [] rfl hown0 ⟨b, o, none⟩ l.length c (flatF l) rfl hl3 hs (flatF_one _) hm (by omega) (Nat.le_refl _) ?_)
    intro v4 w4 hown4 hg4 _
    have hR4 : Below W.heap.size W w4 := below_grown hg4 (fun k h => by cases h)
    have HO : Hid (Flows1 w4 v4 l ∧ ∀ b o n c, v4 = .slice (some ⟨b, o, none⟩) n c → W.heap.size ≤ b) := flows_of_owns (by simpa using hown4)
    clear hown4 hg4 hs
    go_wp2
    go_ret
    exact ⟨_, rfl, HO.out.1, hR4, HO.out.2⟩
end Go.Proofs.YtijdaaghomclmabGreatDoor
