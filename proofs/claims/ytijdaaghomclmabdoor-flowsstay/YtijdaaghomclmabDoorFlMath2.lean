/- Flows that stay: what many puts leave. -/
import Derived.Test.YtijdaaghomclmabDoorFlMath
namespace Go.Proofs.YtijdaaghomclmabDoor
namespace Lh

theorem mem_erase {L : List Fl} {i : Nat} (hi : i < L.length) {x : Fl} (hx : x ∈ L) (hne : x.1 ≠ (L[i]).1) : x ∈ L.eraseIdx i := by
  obtain ⟨j, hj, rfl⟩ := List.getElem_of_mem hx
  rw [List.eraseIdx_eq_take_drop_succ, List.mem_append]
  have hij : j ≠ i := fun e => by subst e; exact hne rfl
  rcases Nat.lt_or_ge j i with h | h
  · left
    rw [List.mem_take_iff_getElem]
    exact ⟨j, by omega, rfl⟩
  · right
    rw [List.mem_drop_iff_getElem]
    refine ⟨j - (i + 1), by omega, ?_⟩
    congr 1
    omega
/-- flows of one tick: the key's own is with mine, the others' with other -/
structure Puts (L : List Fl) (key : Nat) (u : Int) (mine other : ByteArray) (n : Nat) : Prop where
  ok : FlOk L
  until_ : ∀ x ∈ L, x.2.2 = u
  host : ∀ x ∈ L, x.2.1 = mine ∨ x.2.1 = other
  own : ∃ x ∈ L, x.1 = key
  ownHost : ∀ x ∈ L, x.1 = key → x.2.1 = mine
  len : L.length ≤ n
theorem Puts.step {L : List Fl} {key t : Nat} {mine other : ByteArray} {n : Nat} {now : Int} (h : Puts L key (now + t) mine other n) (hn : n ≤ 150) {z : Nat} (hz : z < 18446744073709551616) (hzk : z ≠ key) (ho : other.size ≤ 300) (h0 : 0 ≤ now) (h1 : now ≤ 1099511627776) (ht : t ≤ 1000) : Puts (fput t L z other now) key (now + t) mine other (n + 1) := by
  have hsub := frest_sub L z
  have hlen := h.len
  refine ⟨h.ok.put hz ho h0 h1 ht, fun x hx => ?_, fun x hx => ?_, ?_, fun x hx hk => ?_, ?_⟩
  · rcases flay_mem.1 hx with rfl | hx
    · rfl
    · exact h.until_ x (hsub.mem hx)
  · rcases flay_mem.1 hx with rfl | hx
    · exact Or.inr rfl
    · exact h.host x (hsub.mem hx)
  · obtain ⟨x, hx, e⟩ := h.own
    refine ⟨x, flay_mem.2 (Or.inr ?_), e⟩
    unfold frest
    by_cases hf : fix L z < L.length
    · rw [if_pos hf]
      exact mem_erase hf hx (by rw [fix_get hf, e]; exact fun e2 => hzk e2.symm)
    · rw [if_neg hf, if_neg (by omega)]
      exact hx
  · rcases flay_mem.1 hx with rfl | hx
    · exact absurd hk hzk
    · exact h.ownHost x (hsub.mem hx) hk
  · show (flay _ _).length ≤ n + 1
    rw [flay_len]
    have := hsub.length_le
    omega
theorem Puts.mono {L : List Fl} {key : Nat} {u : Int} {mine other : ByteArray} {n n' : Nat} (h : Puts L key u mine other n) (hn : n ≤ n') : Puts L key u mine other n' := ⟨h.ok, h.until_, h.host, h.own, h.ownHost, Nat.le_trans h.len hn⟩
theorem Puts.one {key : Nat} {u : Int} {mine other : ByteArray} (hk : key < 18446744073709551616) (hm : mine.size ≤ 300) (h0 : 0 ≤ u) (h1 : u ≤ 2000000000000) : Puts [(key, mine, u)] key u mine other 1 := by
  refine ⟨?_, by simp, by simp, ⟨(key, mine, u), by simp, rfl⟩, by simp, by simp⟩
  refine ⟨by simp, by simp, ?_, ?_, ?_, ?_⟩ <;> simp [hk, hm, h0, h1]
theorem Puts.at {L : List Fl} {key : Nat} {u : Int} {mine other : ByteArray} {n : Nat} (h : Puts L key u mine other n) : ∃ hx : fix L key < L.length, (L[fix L key]).2.1 = mine ∧ (L[fix L key]).2.2 = u := by
  obtain ⟨x, hx, e⟩ := h.own
  have hf : fix L key < L.length := fix_lt.2 ⟨x, hx, e⟩
  exact ⟨hf, h.ownHost _ (List.getElem_mem hf) (fix_get hf), h.until_ _ (List.getElem_mem hf)⟩
theorem Puts.drop {L : List Fl} {key : Nat} {u : Int} {mine other s : ByteArray} {n : Nat} (h : Puts L key u mine other n) (h1 : mine ≠ s) (h2 : other ≠ s) : fdrop L s = L := by
  unfold fdrop
  rw [List.filter_eq_self]
  intro x hx
  rcases h.host x hx with e | e
  · rw [e]; simpa using h1
  · rw [e]; simpa using h2
theorem Puts.exp_all {L : List Fl} {key : Nat} {u now : Int} {mine other : ByteArray} {n : Nat} (h : Puts L key u mine other n) (hu : now < u) : fexp L now = L := by
  unfold fexp
  rw [List.filter_eq_self]
  intro x hx
  rw [h.until_ x hx]
  simpa using hu
theorem Puts.exp_none {L : List Fl} {key : Nat} {u now : Int} {mine other : ByteArray} {n : Nat} (h : Puts L key u mine other n) (hu : u ≤ now) : fexp L now = [] := by
  unfold fexp
  rw [List.filter_eq_nil_iff]
  intro x hx
  rw [h.until_ x hx]
  simpa using hu
end Lh
end Go.Proofs.YtijdaaghomclmabDoor
