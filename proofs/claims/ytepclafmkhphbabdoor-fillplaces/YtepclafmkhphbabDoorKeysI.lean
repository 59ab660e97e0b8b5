/- Keys in memory, as a caller hands them over; the law's OwnKeys. -/
import Derived.Test.YtepclafmkhphbabDoorLists
import Derived.Test.YtepclafmkhphbabDoorBase
namespace Go.Proofs.YtepclafmkhphbabDoor
open Go.RowKit

def encU (k : Nat) : Value := .int .u64 (k : Nat)
theorem encU_one (ks : List Nat) : ∀ u ∈ ks.map encU, u.oneCell' = true := by
  intro u hu
  obtain ⟨_, _, rfl⟩ := List.mem_map.1 hu
  rfl
theorem infoU : (Tryd.prog.info? 32).map (fun i => (i.zero, i.size, i.bytes)) = some (some (.int .u64 0), 1, 8) := by kernel_rfl
theorem infoV : (Tryd.prog.info? 22).map (fun i => (i.zero, i.size, i.bytes)) = some (some (.slice none 0 0), 1, 24) := by kernel_rfl
/-- A list of keys, as a caller hands it over. -/
def Keys1 (w : World) (v : Value) (ks : List Nat) : Prop :=
  (ks = [] ∧ (v = .slice none 0 0 ∨ ∃ a c, v = .slice (some a) 0 c)) ∨ ∃ b o c, v = .slice (some ⟨b, o, none⟩) ks.length c ∧ ks.length ≤ c ∧ ∀ k (h : k < ks.length), w.cell? ⟨b, o + k, none⟩ = some (.int .u64 (ks[k] : Nat))
theorem Keys1.later {w w' : World} {v : Value} {ks : List Nat} (h : Keys1 w v ks) (hb : Below w.heap.size w w') : Keys1 w' v ks := by
  rcases h with h | ⟨b, o, c, rfl, hcap, hc⟩
  · exact Or.inl h
  · exact Or.inr ⟨b, o, c, rfl, hcap, fun k hk => below_cell hb (hc k hk)⟩
theorem Keys1.u64s {w : World} {v : Value} {ks : List Nat} (h : Keys1 w v ks) : U64s w v ks := by
  rcases h with ⟨rfl, rfl | ⟨a, c, rfl⟩⟩ | ⟨b, o, c, rfl, _, hc⟩
  · exact ⟨_, _, rfl, fun k h => absurd h (by simp)⟩
  · exact ⟨_, _, rfl, fun k h => absurd h (by simp)⟩
  · exact ⟨_, _, rfl, fun k h => ⟨b, o, rfl, hc k h⟩⟩
theorem cells_keys {w : World} {b o : Nat} {ks : List Nat} (hx : ∀ k (h : k < ks.length), w.cell? ⟨b, o + k, none⟩ = some (.int .u64 (ks[k] : Nat))) : ∀ j u, (ks.map encU)[j]? = some u → w.cell? ((⟨b, o, none⟩ : Addr).add j) = some u := by
  intro j u hu
  obtain ⟨hj, rfl⟩ := List.getElem?_eq_some_iff.1 hu
  rw [Addr.add_lit, hx j (by simpa using hj)]
  simp [encU]
theorem keys_of_owns {w : World} {base n : Nat} {v : Value} {e : TypeId} {ks : List Nat} (h : w.ownsRow base e 1 v n (ks.map encU)) : Keys1 w v ks := by
  obtain ⟨hl, ⟨rfl, rfl⟩ | ⟨g, cap, cur, rfl, hbase, hb, hn, hm, hsz, ht⟩⟩ := h
  · have : ks = [] := by simpa using hl
    exact Or.inl ⟨this, Or.inl rfl⟩
  · have hl' : ks.length = n := by simpa using hl
    refine Or.inr ⟨g, 0, cap, by rw [hl'], by omega, fun k hk => ?_⟩
    have hk' : (cur.toList.take (n * 1))[k]? = some (.int .u64 (ks[k] : Nat)) := by rw [ht]; simp [hk, encU]
    rw [List.getElem?_take_of_lt (by omega)] at hk'
    simp only [World.cell?, hb, Nat.zero_add]
    simpa using hk'
set_option maxHeartbeats 1000000 in
theorem ownKeys_any (v : Value) (ks : List Nat) (w : World) (hv : Keys1 w v ks) (hm : ks.length < 1000000) :
    Calls Tryd.prog 10 #[v] w fun e w' => ∃ v', e = .returned v' ∧ Keys1 w' v' ks ∧ Below w.heap.size w w' := by
  obtain ⟨i, hi, hz0, hz1, hz2⟩ := info_parts infoU
  have hmax : 0 + ks.length ≤ maxLen := by unfold maxLen; omega
  rcases hv with ⟨rfl, rfl | ⟨ad, c, rfl⟩⟩ | ⟨b, o, c, rfl, hcap, hx⟩
  · go_enter Tryd.func10, Tryd.ntmps10
    go_wp2_with (at_builtin; refine wpList_append_own_none rfl _ _ 22 rfl w.heap.size 32 i 1 Tryd.underlying22 hi (.slice none 0 0) 0 _ rfl (World.ownsRow_nil w _ _ _) rfl ?_)
    go_ret
    exact ⟨_, rfl, Or.inl ⟨rfl, Or.inl rfl⟩, Below.refl _ _⟩
  · have hnews : ∀ j u, (([] : List Nat).map encU)[j]? = some u → w.cell? (ad.add j) = some u := fun j u h => by simp at h
    go_enter Tryd.func10, Tryd.ntmps10
    go_wp2_with (at_builtin; refine wpList_append_own w rfl _ _ 22 rfl w.heap.size 32 i _ 1 8 Tryd.underlying22 hi hz0 hz1 hz2 rfl (by decide) (.slice none 0 0) 0 _ rfl (World.ownsRow_nil w _ _ _) ad 0 c (([] : List Nat).map encU) rfl rfl hnews (encU_one []) (by unfold maxLen; omega) (by omega) (Nat.le_refl _) ?_)
    intro v' w' hown hg _
    have hkk : Keys1 w' v' [] := keys_of_owns (by simpa using hown)
    have HKK : Hid (Keys1 w' v' []) := hkk
    clear hkk hown
    go_wp2
    go_ret
    exact ⟨_, rfl, HKK.out, below_grown hg (fun k h => by cases h)⟩
  · have hnews := cells_keys hx
    go_enter Tryd.func10, Tryd.ntmps10
    go_wp2_with (at_builtin; refine wpList_append_own w rfl _ _ 22 rfl w.heap.size 32 i _ 1 8 Tryd.underlying22 hi hz0 hz1 hz2 rfl (by decide) (.slice none 0 0) 0 _ rfl (World.ownsRow_nil w _ _ _) ⟨b, o, none⟩ ks.length c (ks.map encU) rfl (by simp) hnews (encU_one ks) hmax (by omega) (Nat.le_refl _) ?_)
    intro v' w' hown hg _
    have hkk : Keys1 w' v' ks := keys_of_owns (by simpa using hown)
    have HKK : Hid (Keys1 w' v' ks) := hkk
    clear hkk hown hnews hx
    go_wp2
    go_ret
    exact ⟨_, rfl, HKK.out, below_grown hg (fun k h => by cases h)⟩
/-- keys in memory, where they are read -/
def KeysAt (w : World) (p : Option Addr) (ks : List Nat) : Prop := ∀ k (h : k < ks.length), ∃ b o, p = some ⟨b, o, none⟩ ∧ w.cell? ⟨b, o + k, none⟩ = some (.int .u64 (ks[k] : Nat))
theorem KeysAt.later {w w' : World} {p : Option Addr} {ks : List Nat} (h : KeysAt w p ks) (hb : Below w.heap.size w w') : KeysAt w' p ks := fun k hk => by
  obtain ⟨b, o, h1, h2⟩ := h k hk
  exact ⟨b, o, h1, below_cell hb h2⟩
theorem Keys1.at {w : World} {v : Value} {ks : List Nat} (h : Keys1 w v ks) : ∃ p c, v = .slice p ks.length c ∧ KeysAt w p ks := h.u64s
end Go.Proofs.YtepclafmkhphbabDoor
