/- Small things that rings and rivals share: a list without a fault, errors, texts and keys in memory. -/
import Derived.Test.YtijdaaghomclmabDoorE4
import Derived.Test.YtijdaaghomclmabDoorRLong
import Derived.Test.YtijdaaghomclmabDoorRMath
namespace Go.Proofs.YtijdaaghomclmabDoor
open Go.RowKit

theorem nodup_good {xs : List ByteArray} (h : ∀ j, ∀ hj : j < xs.length, Good xs j hj) : xs.Nodup := by
  refine List.pairwise_iff_getElem.2 fun i j hi hj hij e => ?_
  have h2 := (h j hj).2
  rw [Lh.mem_true] at h2
  · cases h2
  · rw [List.mem_take_iff_getElem]
    exact ⟨i, by omega, e⟩
theorem fault0 {xs : List ByteArray} {pl : Int} (h : IsFault xs 0 pl) : pl = -1 ∧ xs.length ≤ 12 ∧ xs.Nodup := by
  rcases h with ⟨_, h, _⟩ | ⟨_, i, _, _, _, ⟨_, h⟩ | ⟨_, _, h⟩⟩ | ⟨h, hg, _, h'⟩
  · cases h
  · cases h
  · cases h
  · exact ⟨h', by omega, nodup_good hg⟩
theorem err0 {a : Nat → Addr} {W : World} {pl : Int} {v : Value} (h : ErrIs a W 0 pl v) : v = .nilIface := by
  rcases h with ⟨_, _, h⟩ | ⟨i, _, h, _⟩
  · exact h
  · omega
theorem errPos {a : Nat → Addr} {W : World} {c : Nat} {pl : Int} {v : Value} (h : ErrIs a W c pl v) (hc : c ≠ 0) : ∃ t x, v = .iface t x := by
  rcases h with ⟨h, _⟩ | ⟨j, _, _, ⟨_, h⟩ | ⟨b, h, _⟩⟩
  · exact absurd h hc
  · exact ⟨_, _, h⟩
  · exact ⟨_, _, h⟩
theorem strsPos {w : World} {v : Value} {xs : List ByteArray} (h : Strs1 w v xs) (hp : 0 < xs.length) : ∃ b o c, v = .slice (some ⟨b, o, none⟩) xs.length c ∧ ∀ k (h : k < xs.length), w.cell? ⟨b, o + k, none⟩ = some (.string xs[k]) := by
  rcases h with ⟨rfl, _⟩ | ⟨b, o, c, rfl, _, hc⟩
  · cases hp
  · exact ⟨b, o, c, rfl, hc⟩

theorem owns_snoc {w : World} {base n : Nat} {v : Value} {e : TypeId} {out : List ByteArray} {s : ByteArray} (h : w.ownsRow base e 1 v n (out.map Value.string ++ [.string s])) : w.ownsRow base e 1 v n ((out ++ [s]).map Value.string) := by simpa using h
theorem cells_one {w : World} {t : TypeId} (s : ByteArray) : ∀ j u, [Value.string s][j]? = some u → (w.alloc (.cells #[.string s] t)).cell? ((⟨w.heap.size, 0, none⟩ : Addr).add j) = some u := by
  intro j u hu
  match j, hu with
  | 0, hu => simp at hu; subst hu; simp [Addr.add]
  | j + 1, hu => simp at hu
def hostA : ByteArray := ⟨#[97]⟩
theorem hostA_nm : Lh.isNm hostA = true := by decide +kernel
theorem faultsA : IsFault [hostA] 0 (-1) := by
  refine Or.inr (Or.inr ⟨by simp, fun j hj => ?_, rfl, rfl⟩)
  have : j = 0 := by simp at hj; omega
  subst this
  exact ⟨hostA_nm, rfl⟩
theorem lenA : hostA.size ≤ 300 := by decide +kernel
theorem strsA (w : World) : Strs1 (w.alloc (.cells #[.string hostA] 9)) (.slice (some ⟨w.heap.size, 0, none⟩) 1 1) [hostA] :=
  Or.inr ⟨w.heap.size, 0, 1, rfl, by simp, fun k hk => by
    have : k = 0 := by simp at hk; omega
    subst this
    simp⟩
set_option maxHeartbeats 1000000 in
theorem ownTexts_own (v : Value) (xs : List ByteArray) (w : World) (hv : Strs1 w v xs) (hm : xs.length < 1000000) :
    Calls Tryd.prog 22 #[v] w fun e w' => ∃ v', e = .returned v' ∧ w'.ownsRow w.heap.size 9 1 v' xs.length (xs.map Value.string) ∧ Below w.heap.size w w' := by
  obtain ⟨i, hi, hz0, hz1, hz2⟩ := info_parts infoS
  have hmax : 0 + xs.length ≤ maxLen := by unfold maxLen; omega
  rcases hv with ⟨rfl, rfl | ⟨ad, c, rfl⟩⟩ | ⟨b, o, c, rfl, hcap, hx⟩
  · go_enter Tryd.func22, Tryd.ntmps22
    go_wp2_with (at_builtin; refine wpList_append_own_none rfl _ _ 41 rfl w.heap.size 9 i 1 Tryd.underlying41 hi (.slice none 0 0) 0 _ rfl (owns_nil w _ _) rfl ?_)
    go_ret
    exact ⟨_, rfl, owns_nil w _ _, Below.refl _ _⟩
  · have hn : ([] : List ByteArray).map Value.string = [] := rfl
    have hnews : ∀ j u, (([] : List ByteArray).map Value.string)[j]? = some u → w.cell? (ad.add j) = some u := fun j u h => by simp at h
    go_enter Tryd.func22, Tryd.ntmps22
    go_wp2_with fail
    go_ret
    exact ⟨_, rfl, owns_nil w _ _, Below.refl _ _⟩
  · have hnews := cells_strs hx
    go_enter Tryd.func22, Tryd.ntmps22
    go_wp2_with (at_builtin; refine wpList_append_own w rfl _ _ 41 rfl w.heap.size 9 i _ 1 16 Tryd.underlying41 hi hz0 hz1 hz2 rfl (by decide) (.slice none 0 0) 0 _ rfl (owns_nil w _ _) ⟨b, o, none⟩ xs.length c (xs.map Value.string) rfl (by simp) hnews (strs_oneCell xs) hmax (by omega) (Nat.le_refl _) ?_)
    intro v' w' hown hg _
    go_wp2
    go_ret
    refine ⟨_, rfl, by simpa using hown, below_grown hg (fun k h => by cases h)⟩

theorem size_snoc {xs : List ByteArray} {s : ByteArray} (hs : ∀ k (h : k < xs.length), (xs[k]).size ≤ 60) (h : s.size ≤ 60) : ∀ k (h : k < (xs ++ [s]).length), ((xs ++ [s])[k]).size ≤ 60 := by
  intro k hk
  rw [List.getElem_append]
  split
  · exact hs _ _
  · simpa using h
theorem fault_nm {xs : List ByteArray} {pl : Int} (h : IsFault xs 0 pl) : ∀ s ∈ xs, Lh.isNm s = true := by
  rcases h with ⟨_, h, _⟩ | ⟨_, i, _, _, _, ⟨_, h⟩ | ⟨_, _, h⟩⟩ | ⟨_, hg, _, _⟩
  · cases h
  · cases h
  · cases h
  · intro s hs
    obtain ⟨j, hj, rfl⟩ := List.getElem_of_mem hs
    exact (hg j hj).1
theorem fault_of {xs : List ByteArray} (h12 : xs.length ≤ 12) (hn : ∀ s ∈ xs, Lh.isNm s = true) (hd : xs.Nodup) : IsFault xs 0 (-1) := by
  refine Or.inr (Or.inr ⟨by omega, fun j hj => ⟨hn _ (List.getElem_mem hj), Lh.mem_false fun h => ?_⟩, rfl, rfl⟩)
  rw [List.mem_take_iff_getElem] at h
  obtain ⟨i, hi, e⟩ := h
  exact List.pairwise_iff_getElem.1 hd i j (by omega) hj (by omega) e
theorem fault_less {xs : List ByteArray} (h : IsFault xs 0 (-1)) {m : Nat} (hm : m < xs.length) : IsFault (xs.take m ++ xs.drop (m + 1)) 0 (-1) ∧ xs.take m ++ xs.drop (m + 1) = xs.filter fun s => decide (s ≠ xs[m]) := by
  obtain ⟨_, h12, hnd⟩ := fault0 h
  have e := Lh.filter_erase hnd hm
  refine ⟨?_, e⟩
  rw [e]
  refine fault_of (Nat.le_trans (List.length_filter_le _ _) h12) (fun s hs => fault_nm h s (List.mem_filter.1 hs).1) (hnd.sublist List.filter_sublist)
end Go.Proofs.YtijdaaghomclmabDoor
