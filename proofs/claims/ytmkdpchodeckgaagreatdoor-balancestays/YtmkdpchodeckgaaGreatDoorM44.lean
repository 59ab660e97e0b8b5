/- The laws' coded and faulted, for stage 9. -/
import Derived.Test.YtmkdpchodeckgaaGreatDoorM7
import Derived.Test.YtmkdpchodeckgaaGreatDoorM4
import Derived.Test.YtmkdpchodeckgaaGreatDoorM28
import Derived.Test.YtmkdpchodeckgaaGreatDoorM43
namespace Go.Proofs.YtmkdpchodeckgaaGreatDoor
open Go.RowKit

end Go.Proofs.YtmkdpchodeckgaaGreatDoor

/- What the laws of texts of flows ask of the landed package; carried. -/
namespace Go.Proofs.YtmkdpchodeckgaaGreatDoor
open Go.RowKit

/-- The landed package's contracts, over what it asks of the package variables (E). -/
structure CarryC where
  E : (Nat → Addr) → World → Prop
  eLater : ∀ {a : Nat → Addr} {W W' : World}, E a W → Below W.heap.size W W' → E a W'
  text : ∀ (a : Nat → Addr) (e : Int) (v : Value) (l : List Lh.Fl) (W : World), E a W → Flows1 W v l → l.length ≤ 201 → FlIn l → -9223372036854775808 ≤ e → e ≤ 9223372036854775807 →
    Calls Tryz.prog 27 #[.int .i64 e, v] W fun r w' => ∃ c pl, CaF e l c pl ∧ Below W.heap.size W w' ∧
      ((c = 0 ∧ r = .returned (.tuple #[.string (Lh.bt (Lh.textL e.toNat l)), .nilIface])) ∨
       (c ≠ 0 ∧ ∃ ev, r = .returned (.tuple #[.string ByteArray.empty, ev]) ∧ ErrIs a w' c pl ev ∧ ev ≠ .nilIface))
  read : ∀ (a : Nat → Addr) (s : List UInt8) (W : World), E a W → s.length ≤ 30000 →
    Calls Tryz.prog 29 #[.string (Lh.bt s)] W fun r w' => ∃ n v l c pl, ReadF s n l c pl ∧ Below W.heap.size W w' ∧ Flows1 w' v l ∧
      ((c = 0 ∧ r = .returned (.tuple #[.int .i64 n, v, .nilIface])) ∨
       (c ≠ 0 ∧ ∃ ev, r = .returned (.tuple #[.int .i64 n, v, ev]) ∧ ErrIs a w' c pl ev ∧ ev ≠ .nilIface))
theorem caF_nil : CaF 3 [] 0 (-1) := Or.inr (Or.inr ⟨⟨by decide, by decide, by simp⟩, fun j hj => absurd hj (by simp), rfl, rfl⟩)

end Go.Proofs.YtmkdpchodeckgaaGreatDoor

/- The landed Read; the landed package's contracts. -/
namespace Go.Proofs.YtmkdpchodeckgaaGreatDoor
open Go.RowKit
set_option maxRecDepth 100000 in
set_option maxHeartbeats 2000000 in
theorem read_new {a : Nat → Addr} (s : List UInt8) (W : World) (he : EC a W) (hs : s.length ≤ 30000) :
    Calls Tryz.prog 29 #[.string (Lh.bt s)] W fun r w' => ∃ n v l c pl, ReadF s n l c pl ∧ Below W.heap.size W w' ∧ FlowsNew W.heap.size w' v l ∧
      ((c = 0 ∧ r = .returned (.tuple #[.int .i64 n, v, .nilIface])) ∨
       (c ≠ 0 ∧ ∃ ev, r = .returned (.tuple #[.int .i64 n, v, ev]) ∧ ErrIs a w' c pl ev ∧ ev ≠ .nilIface)) := by
  have hsz := Lh.bt_size s
  have HE : Hid (EC a W) := he
  have HNF : Hid (∀ w', FlowsNew W.heap.size w' (.slice none 0 0) []) := fun w' => Or.inl ⟨rfl, Or.inl rfl⟩
  by_cases h2 : 20000 < s.length
  · have s1 := he.s1
    have h2i : (20000 : Int) < (s.length : Int) := by omega
    clear he
    go_enter Tryz.func29, Tryz.ntmps29
    go_wp2
    go_region
    all_goals
      go_wp2
      go_ret3
      exact ⟨0, _, [], 2, -1, Or.inl ⟨h2, rfl, rfl, rfl, rfl⟩, (Below.refl _ _).drew, HNF.out _, Or.inr ⟨by decide, _, rfl, Or.inr ⟨1, by decide, rfl, Or.inl ⟨rfl, rfl⟩⟩, by simp⟩⟩
  have h2i : decide ((20000 : Int) < (s.length : Int)) = false := by simp; omega
  have hcs := cutSum_any s hs W he
  clear he
  go_enter Tryz.func29, Tryz.ntmps29
  go_wp2_with fail
  refine hcs.mono ?_
  rintro r w1 ⟨hb1, hcase⟩
  clear hcs
  have s0 := (HE.out.later hb1).s0
  rcases hcase with ⟨b, d, k, hsb, hd8, hdk, hk32, rfl⟩ | ⟨hno, x, y, rfl⟩
  case inr =>
    have hpn : Lh.partsL (Lh.cutL 10 s) = none := by
      cases hp : Lh.partsL (Lh.cutL 10 s) with
      | none => rfl
      | some q =>
        obtain ⟨e, L, k, ps⟩ := q
        obtain ⟨inner, d, h1, h2, h3⟩ := Lh.parts_back hp
        rw [hno (inner ++ [10]) d h1 h2] at h3
        cases h3
    have HP : Hid (Lh.partsL (Lh.cutL 10 s) = none) := hpn
    clear hno hpn
    dsimp only
    go_wp2
    go_region
    all_goals
      go_wp2
      go_ret3
      exact ⟨0, _, [], 1, -1, Or.inr (Or.inl ⟨by omega, HP.out, rfl, rfl, rfl, rfl⟩), hb1.drew, HNF.out _, Or.inr ⟨by decide, _, rfl, Or.inr ⟨0, by decide, rfl, Or.inl ⟨rfl, rfl⟩⟩, by simp⟩⟩
  have HS : Hid (s = b ++ Lh.sumD d ++ [10] ∧ d.length = 8 ∧ Lh.hexV d = some k) := ⟨hsb, hd8, hdk⟩
  have hbl : b.length ≤ 20000 := by
    have := congrArg List.length hsb
    rw [List.length_append, List.length_append] at this
    omega
  clear hsb hd8 hdk
  have hrb := readBody_any b hbl w1 (HE.out.later hb1)
  dsimp only
  go_wp2_with fail
  refine hrb.mono ?_
  rintro r w2 ⟨hb2, hcase⟩
  have hb12 := below_then hb1 hb2
  have hb1s := hb1.size
  have s0' := (HE.out.later hb12).s0
  have s8 := (HE.out.later hb12).s8
  clear hrb s0 hb1 hb2
  rcases hcase with ⟨t, m, n, L, v, ht, hf, hn, hr, hfl, rfl⟩ | ⟨hno, rfl⟩
  case inr =>
    have hpn : Lh.partsL (Lh.cutL 10 s) = none := by
      cases hp : Lh.partsL (Lh.cutL 10 s) with
      | none => rfl
      | some q =>
        obtain ⟨e, L, k', ps⟩ := q
        obtain ⟨inner, d', h1, h2, h3⟩ := Lh.parts_back hp
        obtain ⟨g1, g2, g3⟩ := HS.out
        have e1 := (Lh.sum_one g2 h2 (g1.symm.trans h1)).1
        rw [g1, e1, Lh.parts_no g3 (hno inner e1)] at hp
        cases hp
    have HP : Hid (Lh.partsL (Lh.cutL 10 s) = none) := hpn
    clear hno hpn
    dsimp only
    go_wp2
    go_region
    all_goals
      go_wp2
      go_ret3
      exact ⟨0, _, [], 1, -1, Or.inr (Or.inl ⟨by omega, HP.out, rfl, rfl, rfl, rfl⟩), hb12.drew, HNF.out _, Or.inr ⟨by decide, _, rfl, Or.inr ⟨0, by decide, rfl, Or.inl ⟨rfl, rfl⟩⟩, by simp⟩⟩
  have HP : Hid (Lh.partsL (Lh.cutL 10 s) = some (m, L, k, Lh.cutL 10 t) ∧ Lh.joinL 10 (Lh.cutL 10 t) ++ [10] = b) := by
    have g := HS.out
    refine ⟨?_, by rw [Lh.cut_join, ht]⟩
    rw [g.1, ht]
    exact Lh.parts_yes g.2.1 g.2.2 hf hn hr
  have HIN : Hid (∀ x ∈ L, x.1 < 18446744073709551616 ∧ x.2.1.size ≤ 1000000 ∧ -9223372036854775808 ≤ x.2.2 ∧ x.2.2 ≤ 9223372036854775807) := Lh.rowsL_all hr (fun z hz => by
    have h1 := Lh.cut_word 10 t z (List.mem_of_mem_drop hz)
    have h3 := congrArg List.length ht
    rw [List.length_append] at h3
    omega)
  have HLL : Hid (L.length ≤ 20000) := by
    have h1 := (Lh.rowsL_inv hr).2
    have h3 := Lh.cut_len 10 t
    have h4 := congrArg List.length ht
    rw [List.length_append] at h4
    rw [List.length_drop] at h1
    simp only [List.length_cons, List.length_nil] at h4
    have : L.length ≤ 20000 := by omega
    exact this
  have HFL : Hid (FlowsNew W.heap.size w2 v L) := hfl.base hb1s
  obtain ⟨p, cp, rfl⟩ := hfl.flows.shape
  clear ht hf hn hr hfl
  have hsm := sumOf_any b (by omega) w2
  have hcr := Lh.crcL_lt b
  dsimp only
  go_wp2_with fail
  refine hsm.mono ?_
  rintro r w3 ⟨rfl, rfl⟩
  clear hsm
  by_cases hk : k = Lh.crcL b
  case neg =>
    have hki : ((k : Int) == (Lh.crcL b : Int)) = false := by simp; omega
    dsimp only
    go_wp2
    go_region
    all_goals
      go_wp2
      go_ret3
      exact ⟨0, _, [], 9, -1, Or.inr (Or.inr ⟨by omega, m, L, k, _, HP.out.1, Or.inl ⟨by rw [HP.out.2]; exact hk, rfl, rfl, rfl, rfl⟩⟩), hb12.drew, HNF.out _, Or.inr ⟨by decide, _, rfl, Or.inr ⟨8, by decide, rfl, Or.inl ⟨rfl, rfl⟩⟩, by simp⟩⟩
  have HK : Hid (k = Lh.crcL b) := hk
  have hki : ((k : Int) == (Lh.crcL b : Int)) = true := by rw [hk]; simp
  clear hk
  have hck := check_carry (m : Int) (.slice p L.length cp) L w3 (HE.out.later hb12) HFL.out.flows HLL.out HIN.out
  dsimp only
  go_wp2_with fail
  refine hck.mono ?_
  rintro r w4 ⟨c, pl, ev, rfl, hcf, herr, hnil, hb4⟩
  have hb14 := below_then hb12 hb4
  have HF4 : Hid (FlowsNew W.heap.size w4 (.slice p L.length cp) L) := HFL.out.later hb4
  clear hck hb4 hb12
  by_cases h0 : c = 0
  · subst h0
    obtain rfl := herr.zero
    have HCF : Hid (CaF (m : Int) L 0 pl) := hcf
    clear hcf herr hnil
    dsimp only
    go_wp2
    go_ret3
    exact ⟨m, _, L, 0, pl, Or.inr (Or.inr ⟨by omega, m, L, k, _, HP.out.1, Or.inr ⟨by rw [HP.out.2]; exact HK.out, HCF.out, Or.inr ⟨rfl, rfl, rfl⟩⟩⟩), hb14, HF4.out, Or.inl ⟨rfl, rfl⟩⟩
  · obtain ⟨ty, q, rfl⟩ := herr.box h0
    have HCF : Hid (CaF (m : Int) L c pl) := hcf
    have HER : Hid (ErrIs a w4 c pl (.iface ty q)) := herr
    clear hcf herr hnil
    dsimp only
    go_wp2
    go_ret3
    exact ⟨0, _, [], c, pl, Or.inr (Or.inr ⟨by omega, m, L, k, _, HP.out.1, Or.inr ⟨by rw [HP.out.2]; exact HK.out, HCF.out, Or.inl ⟨h0, rfl, rfl⟩⟩⟩), hb14, HNF.out _, Or.inr ⟨h0, _, rfl, HER.out, by simp⟩⟩
theorem read_carry {a : Nat → Addr} (s : List UInt8) (W : World) (he : EC a W) (hs : s.length ≤ 30000) :
    Calls Tryz.prog 29 #[.string (Lh.bt s)] W fun r w' => ∃ n v l c pl, ReadF s n l c pl ∧ Below W.heap.size W w' ∧ Flows1 w' v l ∧
      ((c = 0 ∧ r = .returned (.tuple #[.int .i64 n, v, .nilIface])) ∨
       (c ≠ 0 ∧ ∃ ev, r = .returned (.tuple #[.int .i64 n, v, ev]) ∧ ErrIs a w' c pl ev ∧ ev ≠ .nilIface)) :=
  (read_new s W he hs).mono fun _ _ ⟨n, v, l, c, pl, h1, h2, h3, h4⟩ => ⟨n, v, l, c, pl, h1, h2, h3.flows, h4⟩
/-- The landed package keeps what the laws ask of it. -/
def carryC : CarryC where
  E := EC
  eLater := fun h hb => h.later hb
  text := fun _ e v l W he hv hl hin _ _ => text_carry e v l W he hv hl hin
  read := fun _ s W he hs => read_carry s W he hs
end Go.Proofs.YtmkdpchodeckgaaGreatDoor
