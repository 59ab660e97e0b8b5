/- mix.Check once more, where only four of the package variables are known. -/
import Derived.Test.YtmkdpchodeckgaaDoorM3
import Derived.Laws.AppendOwnNone
import Derived.Laws.CopyOwn
namespace Go.Proofs.YtmkdpchodeckgaaDoor
open Go.RowKit

/-- ErrBound, ErrName, ErrNone, ErrExist: each holds a pointer. -/
structure Errs4 (a : Nat → Addr) (w : World) : Prop where
  s1 : w.cell? ⟨1, 0, none⟩ = some (.iface 142 (.pointer (some (a 1))))
  s3 : w.cell? ⟨2, 0, none⟩ = some (.iface 142 (.pointer (some (a 3))))
  s4 : w.cell? ⟨0, 0, none⟩ = some (.iface 142 (.pointer (some (a 4))))
  s5 : w.cell? ⟨3, 0, none⟩ = some (.iface 142 (.pointer (some (a 5))))
theorem Errs4.later {a : Nat → Addr} {w w' : World} (h : Errs4 a w) (hb : Below w.heap.size w w') : Errs4 a w' := ⟨below_cell hb h.s1, below_cell hb h.s3, below_cell hb h.s4, below_cell hb h.s5⟩
set_option maxHeartbeats 2000000 in
theorem check_core4 (a : Nat → Addr) (b o cap : Nat) (xs : List ByteArray) (w : World) (c : Nat) (pl : Int) (he : Errs4 a w) (hcap : xs.length ≤ cap) (hx : ∀ k (h : k < xs.length), w.cell? ⟨b, o + k, none⟩ = some (.string xs[k]))
    (hf : IsFault xs c pl) (h12 : ¬ 12 < xs.length) (hs : ∀ k (h : k < xs.length), (xs[k]).size ≤ 1000000) :
    Calls Tryd.prog 21 #[.slice (some ⟨b, o, none⟩) xs.length cap] w fun e w' => ∃ ev, e = .returned ev ∧ ErrIs a w' c pl ev ∧ Below w.heap.size w w' := by
  have HX : Hid _ := hx
  have HF : Hid _ := hf
  have HS : Hid _ := hs
  have e12 : decide (12 < (xs.length : Int)) = false := by simp; omega
  have s3 := he.s3
  have s5 := he.s5
  clear hx hf hs
  go_enter Tryd.func21, Tryd.ntmps21
  go_wp2
  go_loopw [11] (fun t W => W = w ∧ ∃ k : Nat, k ≤ xs.length ∧ t = .int .i64 k ∧ ∀ j, j < k → ∀ hj : j < xs.length, Good xs j hj) (fun t _ => xs.length - (intOf t).toNat)
  case atStart => exact ⟨rfl, 0, Nat.zero_le _, rfl, fun j h => absurd h (by omega)⟩
  case round =>
    obtain ⟨rfl, k, hk, rfl, hpre⟩ := hrel
    have HP : Hid _ := hpre
    clear hpre
    by_cases hlt : k < xs.length
    · have cx := HX.out k hlt
      have hsz := HS.out k hlt
      cases hn : Lh.isNm xs[k] with
      | false =>
        have HC : Hid _ := fault_name HF.out h12 hlt HP.out hn
        have HN : Hid _ := hn
        clear hn
        go_wp2_with fail
        refine (isName_any _ _ hsz).mono ?_
        rintro e w1 ⟨rfl, rfl⟩
        rw [HN.out]
        go_wp2
        go_ret
        refine ⟨_, rfl, Or.inr ⟨3, by decide, HC.out.1, Or.inr ⟨w1.heap.size, rfl, by rw [HC.out.2]; simp, by simp⟩⟩, (Below.refl _ _).alloc (Nat.le_refl _) _⟩
      | true =>
        have HN : Hid _ := hn
        have hst := strs_take hcap HX.out k hk
        have HST : Hid _ := hst
        clear hst
        cases hme : Lh.mem xs[k] (xs.take k) with
        | true =>
          have HC : Hid _ := fault_exist HF.out h12 hlt HP.out hn hme
          have HM : Hid _ := hme
          clear hn hme
          go_wp2_with fail
          refine (isName_any _ _ hsz).mono ?_
          rintro e w1 ⟨rfl, rfl⟩
          rw [HN.out]
          go_wp2_with fail
          refine (contains_any _ (xs.take k) _ _ HST.out (by simp; omega)).mono ?_
          rintro e w2 ⟨rfl, rfl⟩
          rw [HM.out]
          go_wp2
          go_ret
          refine ⟨_, rfl, Or.inr ⟨5, by decide, HC.out.1, Or.inr ⟨w2.heap.size, rfl, by rw [HC.out.2]; simp, by simp⟩⟩, (Below.refl _ _).alloc (Nat.le_refl _) _⟩
        | false =>
          have HM : Hid _ := hme
          clear hn hme
          go_wp2_with fail
          refine (isName_any _ _ hsz).mono ?_
          rintro e w1 ⟨rfl, rfl⟩
          rw [HN.out]
          go_wp2_with fail
          refine (contains_any _ (xs.take k) _ _ HST.out (by simp; omega)).mono ?_
          rintro e w2 ⟨rfl, rfl⟩
          rw [HM.out]
          go_wp2
          refine ⟨⟨by trivial, k + 1, by omega, by go_num, fun j hj hl => ?_⟩, by simp [intOf]; omega⟩
          by_cases e : j = k
          · subst e; exact ⟨HN.out, HM.out⟩
          · exact HP.out j (by omega) hl
    · have HC : Hid _ := fault_none HF.out h12 (fun j hj => HP.out j (by omega) hj)
      go_wp2
      go_ret
      refine ⟨_, rfl, Or.inl ⟨HC.out.1, HC.out.2, rfl⟩, Below.refl _ _⟩

set_option maxHeartbeats 1000000 in
theorem check_long4 (a : Nat → Addr) (p : Option Addr) (n cap : Nat) (w : World) (he : Errs4 a w) (h12 : 12 < n) (_hm : n < 1000000) :
    Calls Tryd.prog 21 #[.slice p n cap] w fun e w' => e = .returned (.iface 142 (.pointer (some (a 1)))) ∧ w' = w := by
  have e12 : decide (12 < (n : Int)) = true := by simp; omega
  have s1 := he.s1
  go_enter Tryd.func21, Tryd.ntmps21
  go_wp2
  go_ret
  exact ⟨rfl, rfl⟩

/-- mix.Check of any list of texts. -/
theorem check_any4 (a : Nat → Addr) (v : Value) (xs : List ByteArray) (w : World) (c : Nat) (pl : Int) (he : Errs4 a w) (hv : Strs w v xs) (hf : IsFault xs c pl) (hs : ∀ k (h : k < xs.length), (xs[k]).size ≤ 1000000) (hm : xs.length < 1000000) :
    Calls Tryd.prog 21 #[v] w fun e w' => ∃ ev, e = .returned ev ∧ ErrIs a w' c pl ev ∧ Below w.heap.size w w' := by
  by_cases h12 : 12 < xs.length
  · obtain ⟨rfl, rfl⟩ := fault_long hf h12
    obtain ⟨p, cap, rfl⟩ := hv.slice
    exact (check_long4 a p _ cap w he h12 hm).mono fun e w' ⟨h1, h2⟩ => ⟨_, h1, Or.inr ⟨1, by decide, rfl, Or.inl ⟨rfl, rfl⟩⟩, by rw [h2]; exact Below.refl _ _⟩
  · rcases hv with ⟨rfl, p, cap, rfl⟩ | ⟨b, o, cap, rfl, hcap, hx⟩
    · obtain ⟨rfl, rfl⟩ := fault_none hf h12 (fun j hj => absurd hj (by simp))
      exact (check_zero p cap w).mono fun e w' ⟨h1, h2⟩ => ⟨_, h1, Or.inl ⟨rfl, rfl, rfl⟩, by rw [h2]; exact Below.refl _ _⟩
    · exact check_core4 a b o cap xs w c pl he hcap hx hf h12 hs
end Go.Proofs.YtmkdpchodeckgaaDoor

/- The reference's HostsFault, and LongHosts. -/
namespace Go.Proofs.YtmkdpchodeckgaaDoor
open Go.RowKit

end Go.Proofs.YtmkdpchodeckgaaDoor

/- Own memory: OwnTexts. -/
namespace Go.Proofs.YtmkdpchodeckgaaDoor
open Go.RowKit

/-- As a caller hands it over. -/
def Strs1 (w : World) (v : Value) (xs : List ByteArray) : Prop :=
  (xs = [] ∧ (v = .slice none 0 0 ∨ ∃ a c, v = .slice (some a) 0 c)) ∨ ∃ b o c, v = .slice (some ⟨b, o, none⟩) xs.length c ∧ xs.length ≤ c ∧ ∀ k (h : k < xs.length), w.cell? ⟨b, o + k, none⟩ = some (.string xs[k])
theorem Strs1.strs {w : World} {v : Value} {xs : List ByteArray} (h : Strs1 w v xs) : Strs w v xs := by
  rcases h with ⟨rfl, rfl | ⟨a, c, rfl⟩⟩ | h
  · exact Or.inl ⟨rfl, _, _, rfl⟩
  · exact Or.inl ⟨rfl, _, _, rfl⟩
  · exact Or.inr h
theorem Strs1.later {w w' : World} {v : Value} {xs : List ByteArray} (h : Strs1 w v xs) (hb : Below w.heap.size w w') : Strs1 w' v xs := by
  rcases h with h | ⟨b, o, c, rfl, hcap, hc⟩
  · exact Or.inl h
  · exact Or.inr ⟨b, o, c, rfl, hcap, fun k hk => below_cell hb (hc k hk)⟩

theorem infoS : (Tryd.prog.info? 9).map (fun i => (i.zero, i.size, i.bytes)) = some (some (.string ByteArray.empty), 1, 16) := by kernel_rfl

theorem strs_of_owns {w : World} {base n : Nat} {v : Value} {e : TypeId} {xs : List ByteArray} (h : w.ownsRow base e 1 v n (xs.map Value.string)) : Strs1 w v xs := by
  obtain ⟨hl, ⟨rfl, rfl⟩ | ⟨g, cap, cur, rfl, hbase, hb, hn, hm, hsz, ht⟩⟩ := h
  · have : xs = [] := by simpa using hl
    exact Or.inl ⟨this, Or.inl rfl⟩
  · have hl' : xs.length = n := by simpa using hl
    refine Or.inr ⟨g, 0, cap, by rw [hl'], by omega, fun k hk => ?_⟩
    have hk' : (cur.toList.take (n * 1))[k]? = some (.string xs[k]) := by rw [ht]; simp [hk]
    rw [List.getElem?_take_of_lt (by omega)] at hk'
    simp only [World.cell?, hb, Nat.zero_add]
    simpa using hk'

theorem owns_nil (w : World) (base : Nat) (e : TypeId) : w.ownsRow base e 1 (.slice none 0 0) 0 (([] : List ByteArray).map Value.string) := ⟨rfl, Or.inl ⟨rfl, rfl⟩⟩
theorem strs_oneCell (xs : List ByteArray) : ∀ u ∈ xs.map Value.string, u.oneCell' = true := by
  intro u hu
  obtain ⟨_, _, rfl⟩ := List.mem_map.1 hu
  rfl
theorem cells_strs {w : World} {b o : Nat} {xs : List ByteArray} (hx : ∀ k (h : k < xs.length), w.cell? ⟨b, o + k, none⟩ = some (.string xs[k])) : ∀ j u, (xs.map Value.string)[j]? = some u → w.cell? ((⟨b, o, none⟩ : Addr).add j) = some u := by
  intro j u hu
  obtain ⟨hj, rfl⟩ := List.getElem?_eq_some_iff.1 hu
  rw [Addr.add_lit, hx j (by simpa using hj)]
  simp
end Go.Proofs.YtmkdpchodeckgaaDoor

/- LongHosts of a short list; of any list. -/
namespace Go.Proofs.YtmkdpchodeckgaaDoor
open Go.RowKit

def Short (xs : List ByteArray) : Prop := xs.length ≤ 30 ∧ ∀ k (h : k < xs.length), (xs[k]).size ≤ 60
end Go.Proofs.YtmkdpchodeckgaaDoor
