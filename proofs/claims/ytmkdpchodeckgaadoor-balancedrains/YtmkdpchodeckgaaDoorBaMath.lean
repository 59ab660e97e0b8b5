/- A balance, as data: hosts, those that are drained, an epoch, the last tick, flows. -/
import Derived.Test.YtmkdpchodeckgaaDoorM0
import Derived.Test.YtmkdpchodeckgaaDoorFlMath
import Derived.Test.YtmkdpchodeckgaaDoorTMath
import Derived.Test.YtmkdpchodeckgaaDoorFlD
import Derived.Test.YtmkdpchodeckgaaDoorFlIt
import Derived.Test.YtmkdpchodeckgaaDoorHosts
namespace Go.Proofs.YtmkdpchodeckgaaDoor
namespace Lh

/-- f, r: the edges; size: of a table; t: how long a flow stays; dr: those that are drained; ep: the epoch; la: the last tick -/
structure Bl where
  f : Nat
  r : Nat
  size : Nat
  t : Nat
  hs : List Hh
  dr : List ByteArray
  ep : Int
  la : Int
  L : List Fl
/-- those that new keys may go to -/
def bopen (S : Bl) : List ByteArray := (hups S.hs).filter fun s => !(S.dr.any fun x => decide (x = s))
/-- the key has its host still -/
def BKeeps (S : Bl) (k : Nat) (now : Int) (s : ByteArray) : Prop := ∃ h : fix S.L k < S.L.length, now < (S.L[fix S.L k]).2.2 ∧ (S.L[fix S.L k]).2.1 = s ∧ hup S.hs s = true
def bdrain (dr : List ByteArray) (s : ByteArray) (is : Bool) : List ByteArray := (dr.filter fun x => !decide (x = s)) ++ if is then [s] else []
/-- what is right of a balance -/
structure BOk (S : Bl) : Prop where
  h : HOk S.f S.r S.hs
  nm : ∀ x ∈ S.hs, isNm x.1 = true
  ok : FlOk S.L
  host : ∀ x ∈ S.L, isNm x.2.1 = true
  hi : ∀ x ∈ S.L, x.2.2 ≤ 1099511628776
  t1 : 1 ≤ S.t
  t2 : S.t ≤ 1000
  prm : Prm S.size
  s5 : S.size ≤ 503
  ep0 : 0 ≤ S.ep
  ep1 : S.ep ≤ 1099511627776
  la0 : 0 ≤ S.la
  la1 : S.la ≤ 1099511627776
theorem hup_iff {l : List Hh} {s : ByteArray} : hup l s = true ↔ ∃ x ∈ l, x.1 = s ∧ x.2.1 = true := by
  unfold hup
  rw [List.any_eq_true]
  constructor
  · rintro ⟨x, hx, h⟩
    simp at h
    exact ⟨x, hx, h.1, h.2⟩
  · rintro ⟨x, hx, h1, h2⟩
    exact ⟨x, hx, by simp [h1, h2]⟩
theorem hups_mem {l : List Hh} {s : ByteArray} : s ∈ hups l ↔ hup l s = true := by
  rw [hup_iff]
  unfold hups
  rw [List.mem_map]
  constructor
  · rintro ⟨x, hx, rfl⟩
    rw [List.mem_filter] at hx
    exact ⟨x, hx.1, rfl, hx.2⟩
  · rintro ⟨x, hx, rfl, h⟩
    exact ⟨x, List.mem_filter.2 ⟨hx, h⟩, rfl⟩
theorem bopen_mem {S : Bl} {s : ByteArray} : s ∈ bopen S ↔ hup S.hs s = true ∧ s ∉ S.dr := by
  unfold bopen
  rw [List.mem_filter, hups_mem]
  constructor
  · rintro ⟨h1, h2⟩
    refine ⟨h1, fun hm => ?_⟩
    have : (S.dr.any fun x => decide (x = s)) = true := List.any_eq_true.2 ⟨s, hm, by simp⟩
    rw [this] at h2
    cases h2
  · rintro ⟨h1, h2⟩
    refine ⟨h1, ?_⟩
    have : (S.dr.any fun x => decide (x = s)) = false := List.any_eq_false.2 fun x hx => by
      intro e
      have e' : x = s := by simpa using e
      subst e'
      exact h2 hx
    rw [this]
    rfl
theorem hup_nm {S : Bl} (h : BOk S) {s : ByteArray} (hu : hup S.hs s = true) : isNm s = true ∧ s.size ≤ 300 := by
  obtain ⟨x, hx, rfl, _⟩ := hup_iff.1 hu
  exact ⟨h.nm x hx, h.h.size x hx⟩
/-- a host more, or the same one anew -/
theorem BOk.put {S : Bl} (h : BOk S) {k : Nat} (hk : k < 18446744073709551616) {s : ByteArray} (hn : isNm s = true) (hs : s.size ≤ 300) {now : Int} (h0 : 0 ≤ now) (h1 : now ≤ 1099511627776) : BOk { S with la := now, L := fput S.t S.L k s now } := by
  refine ⟨h.h, h.nm, h.ok.put hk hs h0 h1 h.t2, fun x hx => ?_, fun x hx => ?_, h.t1, h.t2, h.prm, h.s5, h.ep0, h.ep1, h0, h1⟩
  · rcases flay_mem.1 hx with rfl | hx
    · exact hn
    · exact h.host x ((frest_sub _ _).mem hx)
  · rcases flay_mem.1 hx with rfl | hx
    · have := h.t2
      show now + (S.t : Int) ≤ 1099511628776
      omega
    · exact h.hi x ((frest_sub _ _).mem hx)
theorem BOk.tick {S : Bl} (h : BOk S) {now : Int} (h0 : 0 ≤ now) (h1 : now ≤ 1099511627776) : BOk { S with la := now } := ⟨h.h, h.nm, h.ok, h.host, h.hi, h.t1, h.t2, h.prm, h.s5, h.ep0, h.ep1, h0, h1⟩
theorem BOk.drain {S : Bl} (h : BOk S) (dr : List ByteArray) : BOk { S with dr := dr } := ⟨h.h, h.nm, h.ok, h.host, h.hi, h.t1, h.t2, h.prm, h.s5, h.ep0, h.ep1, h.la0, h.la1⟩
theorem BOk.epoch {S : Bl} (h : BOk S) {e : Int} (h0 : 0 ≤ e) (h1 : e ≤ 1099511627776) : BOk { S with ep := e } := ⟨h.h, h.nm, h.ok, h.host, h.hi, h.t1, h.t2, h.prm, h.s5, h0, h1, h.la0, h.la1⟩
theorem BOk.sub {S : Bl} (h : BOk S) {M : List Fl} (hM : M.Sublist S.L) : BOk { S with L := M } := ⟨h.h, h.nm, h.ok.sub hM, fun x hx => h.host x (hM.mem hx), fun x hx => h.hi x (hM.mem hx), h.t1, h.t2, h.prm, h.s5, h.ep0, h.ep1, h.la0, h.la1⟩
theorem BOk.hosts {S : Bl} (h : BOk S) {l : List Hh} (hl : HOk S.f S.r l) (hn : ∀ x ∈ l, isNm x.1 = true) : BOk { S with hs := l } := ⟨hl, hn, h.ok, h.host, h.hi, h.t1, h.t2, h.prm, h.s5, h.ep0, h.ep1, h.la0, h.la1⟩
/-- a look at a host that there is -/
def blook (S : Bl) (s : ByteArray) (well : Bool) (x : Hh) : Bl :=
  { S with hs := S.hs.set (hix S.hs s) (hlook S.f S.r x well).1, L := if (hlook S.f S.r x well).2 = true ∧ (hlook S.f S.r x well).1.2.1 = false then fdrop S.L s else S.L }
theorem BOk.look {S : Bl} (h : BOk S) {s : ByteArray} {well : Bool} (hx : hix S.hs s < S.hs.length) : BOk (blook S s well S.hs[hix S.hs s]) := by
  have hn : ∀ y ∈ S.hs.set (hix S.hs s) (hlook S.f S.r S.hs[hix S.hs s] well).1, isNm y.1 = true := fun y hy => by
    rcases List.mem_or_eq_of_mem_set hy with hy | rfl
    · exact h.nm y hy
    · rw [hlook_name]
      exact h.nm _ (List.getElem_mem hx)
  have h2 := h.hosts (h.h.look hx well) hn
  unfold blook
  split
  · exact h2.sub (List.filter_sublist)
  · exact h2
/-- what of a list is added: those that may come, in their order, where each key is new -/
theorem BOk.add {S : Bl} (h : BOk S) {now : Int} (h0 : 0 ≤ now) (h1 : now ≤ 1099511627776) : ∀ (l : List Fl) {M : List Fl}, BOk { S with la := now, L := M } → (∀ x ∈ l, x.1 < 18446744073709551616 ∧ x.2.1.size ≤ 300 ∧ isNm x.2.1 = true) → BOk { S with la := now, L := fadd now M l }
  | [], _, hM, _ => hM
  | x :: l, M, hM, hl => by
    show BOk { S with la := now, L := fadd now (fadd1 now M x) l }
    refine BOk.add h h0 h1 l ?_ fun y hy => hl y (by simp [hy])
    obtain ⟨hk, hs, hn⟩ := hl x (by simp)
    refine ⟨hM.h, hM.nm, hM.ok.add1 h0 h1 hk hs, fun y hy => ?_, fun y hy => ?_, hM.t1, hM.t2, hM.prm, hM.s5, hM.ep0, hM.ep1, h0, h1⟩
    · unfold fadd1 at hy
      split at hy
      · exact hM.host y hy
      · rcases flay_mem.1 hy with rfl | hy
        · exact hn
        · exact hM.host y hy
    · unfold fadd1 at hy
      split at hy
      · exact hM.hi y hy
      · rename_i hc
        rcases flay_mem.1 hy with rfl | hy
        · have : ¬ 1000 < y.2.2 - now := fun e => hc (Or.inr (Or.inr (Or.inl e)))
          omega
        · exact hM.hi y hy
/-- a flow of a key that is there, found -/
theorem fix_of {L : List Fl} (hp : L.Pairwise fun x y => x.1 < y.1) {x : Fl} (hx : x ∈ L) : ∃ h : fix L x.1 < L.length, L[fix L x.1] = x := by
  have h : fix L x.1 < L.length := fix_lt.2 ⟨x, hx, rfl⟩
  exact ⟨h, rise_inj hp (List.getElem_mem h) hx (fix_get h)⟩
/-- a put leaves others, where there is room -/
theorem fput_other {t : Nat} {L : List Fl} {k : Nat} {s : ByteArray} {now : Int} (hl : L.length < 200) {x : Fl} (hx : x ∈ L) (hne : x.1 ≠ k) : x ∈ fput t L k s now := by
  refine flay_mem.2 (Or.inr ?_)
  unfold frest
  by_cases hf : fix L k < L.length
  · rw [if_pos hf]
    obtain ⟨j, hj, rfl⟩ := List.getElem_of_mem hx
    rw [List.eraseIdx_eq_take_drop_succ, List.mem_append]
    have hij : j ≠ fix L k := fun e => by
      apply hne
      have h2 := fix_get hf
      simp only [← e] at h2
      exact h2
    rcases Nat.lt_or_ge j (fix L k) with h | h
    · left
      rw [List.mem_take_iff_getElem]
      exact ⟨j, by omega, rfl⟩
    · right
      rw [List.mem_drop_iff_getElem]
      refine ⟨j - (fix L k + 1), by omega, ?_⟩
      congr 1
      omega
  · rw [if_neg hf, if_neg (by omega)]
    exact hx
theorem fput_self {t : Nat} {L : List Fl} {k : Nat} {s : ByteArray} {now : Int} : (k, s, now + (t : Int)) ∈ fput t L k s now := flay_mem.2 (Or.inl rfl)
theorem fput_mem {t : Nat} {L : List Fl} {k : Nat} {s : ByteArray} {now : Int} {x : Fl} (hx : x ∈ fput t L k s now) : x = (k, s, now + (t : Int)) ∨ x ∈ L := by
  rcases flay_mem.1 hx with h | h
  · exact Or.inl h
  · exact Or.inr ((frest_sub _ _).mem h)
theorem fput_len {t : Nat} {L : List Fl} {k : Nat} {s : ByteArray} {now : Int} : (fput t L k s now).length ≤ L.length + 1 := by
  unfold fput
  rw [flay_len]
  have := (frest_sub L k).length_le
  omega
end Lh
end Go.Proofs.YtmkdpchodeckgaaDoor
