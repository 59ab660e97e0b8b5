/- Own memory: OwnTexts. -/
import Derived.Test.YtijdaaghomclmabDoorHFault
import Derived.Laws.AppendOwnNone
import Derived.Laws.CopyOwn
namespace Go.Proofs.YtijdaaghomclmabDoor
open Go.RowKit

/-- As a caller hands it over. -/
def Strs1 (w : World) (v : Value) (xs : List ByteArray) : Prop :=
  (xs = [] ∧ (v = .slice none 0 0 ∨ ∃ a c, v = .slice (some a) 0 c)) ∨ ∃ b o c, v = .slice (some ⟨b, o, none⟩) xs.length c ∧ xs.length ≤ c ∧ ∀ k (h : k < xs.length), w.cell? ⟨b, o + k, none⟩ = some (.string xs[k])
theorem Strs1.strs {w : World} {v : Value} {xs : List ByteArray} (h : Strs1 w v xs) : Strs w v xs := by
  rcases h with ⟨rfl, rfl | ⟨a, c, rfl⟩⟩ | h
  · exact Or.inl ⟨rfl, _, _, rfl⟩
  · exact Or.inl ⟨rfl, _, _, rfl⟩
  · exact Or.inr h
theorem Strs1.later {w w' : World} {v : Value} {xs : List ByteArray} (h : Strs1 w v xs) (hb : Below w.heap.size w w') : Strs1 w' v xs := by
  rcases h with h | ⟨b, o, c, rfl, hcap, hc⟩
  · exact Or.inl h
  · exact Or.inr ⟨b, o, c, rfl, hcap, fun k hk => below_cell hb (hc k hk)⟩

theorem infoS : (Tryd.prog.info? 9).map (fun i => (i.zero, i.size, i.bytes)) = some (some (.string ByteArray.empty), 1, 16) := by kernel_rfl

theorem strs_of_owns {w : World} {base n : Nat} {v : Value} {e : TypeId} {xs : List ByteArray} (h : w.ownsRow base e 1 v n (xs.map Value.string)) : Strs1 w v xs := by
  obtain ⟨hl, ⟨rfl, rfl⟩ | ⟨g, cap, cur, rfl, hbase, hb, hn, hm, hsz, ht⟩⟩ := h
  · have : xs = [] := by simpa using hl
    exact Or.inl ⟨this, Or.inl rfl⟩
  · have hl' : xs.length = n := by simpa using hl
    refine Or.inr ⟨g, 0, cap, by rw [hl'], by omega, fun k hk => ?_⟩
    have hk' : (cur.toList.take (n * 1))[k]? = some (.string xs[k]) := by rw [ht]; simp [hk]
    rw [List.getElem?_take_of_lt (by omega)] at hk'
    simp only [World.cell?, hb, Nat.zero_add]
    simpa using hk'

theorem owns_nil (w : World) (base : Nat) (e : TypeId) : w.ownsRow base e 1 (.slice none 0 0) 0 (([] : List ByteArray).map Value.string) := ⟨rfl, Or.inl ⟨rfl, rfl⟩⟩
theorem strs_oneCell (xs : List ByteArray) : ∀ u ∈ xs.map Value.string, u.oneCell' = true := by
  intro u hu
  obtain ⟨_, _, rfl⟩ := List.mem_map.1 hu
  rfl
theorem cells_strs {w : World} {b o : Nat} {xs : List ByteArray} (hx : ∀ k (h : k < xs.length), w.cell? ⟨b, o + k, none⟩ = some (.string xs[k])) : ∀ j u, (xs.map Value.string)[j]? = some u → w.cell? ((⟨b, o, none⟩ : Addr).add j) = some u := by
  intro j u hu
  obtain ⟨hj, rfl⟩ := List.getElem?_eq_some_iff.1 hu
  rw [Addr.add_lit, hx j (by simpa using hj)]
  simp
set_option maxHeartbeats 1000000 in
theorem ownTexts_any (v : Value) (xs : List ByteArray) (w : World) (hv : Strs1 w v xs) (hm : xs.length < 1000000) :
    Calls Tryd.prog 22 #[v] w fun e w' => ∃ v', e = .returned v' ∧ Strs1 w' v' xs ∧ Below w.heap.size w w' := by
  obtain ⟨i, hi, hz0, hz1, hz2⟩ := info_parts infoS
  have hmax : 0 + xs.length ≤ maxLen := by unfold maxLen; omega
  rcases hv with ⟨rfl, rfl | ⟨ad, c, rfl⟩⟩ | ⟨b, o, c, rfl, hcap, hx⟩
  · go_enter Tryd.func22, Tryd.ntmps22
    go_wp2_with (at_builtin; refine wpList_append_own_none rfl _ _ 41 rfl w.heap.size 9 i 1 Tryd.underlying41 hi (.slice none 0 0) 0 _ rfl (owns_nil w _ _) rfl ?_)
    go_ret
    exact ⟨_, rfl, Or.inl ⟨rfl, Or.inl rfl⟩, Below.refl _ _⟩
  · have hn : ([] : List ByteArray).map Value.string = [] := rfl
    have hnews : ∀ j u, (([] : List ByteArray).map Value.string)[j]? = some u → w.cell? (ad.add j) = some u := fun j u h => by simp at h
    go_enter Tryd.func22, Tryd.ntmps22
    go_wp2_with fail
    go_ret
    exact ⟨_, rfl, Or.inl ⟨rfl, Or.inl rfl⟩, Below.refl _ _⟩
  · have hnews := cells_strs hx
    go_enter Tryd.func22, Tryd.ntmps22
    go_wp2_with (at_builtin; refine wpList_append_own w rfl _ _ 41 rfl w.heap.size 9 i _ 1 16 Tryd.underlying41 hi hz0 hz1 hz2 rfl (by decide) (.slice none 0 0) 0 _ rfl (owns_nil w _ _) ⟨b, o, none⟩ xs.length c (xs.map Value.string) rfl (by simp) hnews (strs_oneCell xs) hmax (by omega) (Nat.le_refl _) ?_)
    intro v' w' hown hg _
    go_wp2
    go_ret
    refine ⟨_, rfl, strs_of_owns (by simpa using hown), below_grown hg (fun k h => by cases h)⟩
end Go.Proofs.YtijdaaghomclmabDoor
