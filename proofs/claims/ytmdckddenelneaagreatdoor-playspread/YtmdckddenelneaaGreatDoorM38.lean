/- The landed Read; the landed package's contracts. -/
import Derived.Test.YtmdckddenelneaaGreatDoorM37
import Derived.Test.YtmdckddenelneaaGreatDoorM26
import Derived.Test.YtmdckddenelneaaGreatDoorM8
import Derived.Test.YtmdckddenelneaaGreatDoorM4
import Derived.Test.YtmdckddenelneaaGreatDoorM27
import Derived.Test.YtmdckddenelneaaGreatDoorM29
import Derived.Test.YtmdckddenelneaaGreatDoorM35
import Derived.Test.YtmdckddenelneaaGreatDoorM36
namespace Go.Proofs.YtmdckddenelneaaGreatDoor
open Go.RowKit
set_option maxRecDepth 100000 in
set_option maxHeartbeats 2000000 in
theorem read_new {a : Nat → Addr} (s : List UInt8) (W : World) (he : EC a W) (hs : s.length ≤ 30000) :
    Calls Tryz.prog 158 #[.string (Lh.bt s)] W fun r w' => ∃ n v l c pl, ReadF s n l c pl ∧ Below W.heap.size W w' ∧ FlowsNew W.heap.size w' v l ∧
      ((c = 0 ∧ r = .returned (.tuple #[.int .i64 n, v, .nilIface])) ∨
       (c ≠ 0 ∧ ∃ ev, r = .returned (.tuple #[.int .i64 n, v, ev]) ∧ ErrIs a w' c pl ev ∧ ev ≠ .nilIface)) := by
  have hsz := Lh.bt_size s
  have HE : Hid (EC a W) := he
  have HNF : Hid (∀ w', FlowsNew W.heap.size w' (.slice none 0 0) []) := fun w' => Or.inl ⟨rfl, Or.inl rfl⟩
  by_cases h2 : 20000 < s.length
  · have s1 := he.s1
    have h2i : (20000 : Int) < (s.length : Int) := by omega
    clear he
    go_enter Tryz.func158, Tryz.ntmps158
    go_wp2
    go_region
    all_goals
      go_wp2
      go_ret3
      exact ⟨0, _, [], 2, -1, Or.inl ⟨h2, rfl, rfl, rfl, rfl⟩, (Below.refl _ _).drew, HNF.out _, Or.inr ⟨by decide, _, rfl, Or.inr ⟨1, by decide, rfl, Or.inl ⟨rfl, rfl⟩⟩, by simp⟩⟩
  have h2i : decide ((20000 : Int) < (s.length : Int)) = false := by simp; omega
  have hcs := cutSum_any s hs W he
  clear he
  go_enter Tryz.func158, Tryz.ntmps158
  go_wp2_with fail
  refine hcs.mono ?_
  rintro r w1 ⟨hb1, hcase⟩
  clear hcs
  have s0 := (HE.out.later hb1).s0
  rcases hcase with ⟨b, d, k, hsb, hd8, hdk, hk32, rfl⟩ | ⟨hno, x, y, rfl⟩
  case inr =>
    have hpn : Lh.partsL (Lh.cutL 10 s) = none := by
      cases hp : Lh.partsL (Lh.cutL 10 s) with
      | none => rfl
      | some q =>
        obtain ⟨e, L, k, ps⟩ := q
        obtain ⟨inner, d, h1, h2, h3⟩ := Lh.parts_back hp
        rw [hno (inner ++ [10]) d h1 h2] at h3
        cases h3
    have HP : Hid (Lh.partsL (Lh.cutL 10 s) = none) := hpn
    clear hno hpn
    dsimp only
    go_wp2
    go_region
    all_goals
      go_wp2
      go_ret3
      exact ⟨0, _, [], 1, -1, Or.inr (Or.inl ⟨by omega, HP.out, rfl, rfl, rfl, rfl⟩), hb1.drew, HNF.out _, Or.inr ⟨by decide, _, rfl, Or.inr ⟨0, by decide, rfl, Or.inl ⟨rfl, rfl⟩⟩, by simp⟩⟩
  have HS : Hid (s = b ++ Lh.sumD d ++ [10] ∧ d.length = 8 ∧ Lh.hexV d = some k) := ⟨hsb, hd8, hdk⟩
  have hbl : b.length ≤ 20000 := by
    have := congrArg List.length hsb
    rw [List.length_append, List.length_append] at this
    omega
  clear hsb hd8 hdk
  have hrb := readBody_any b hbl w1 (HE.out.later hb1)
  dsimp only
  go_wp2_with fail
  refine hrb.mono ?_
  rintro r w2 ⟨hb2, hcase⟩
  have hb12 := below_then hb1 hb2
  have hb1s := hb1.size
  have s0' := (HE.out.later hb12).s0
  have s8 := (HE.out.later hb12).s8
  clear hrb s0 hb1 hb2
  rcases hcase with ⟨t, m, n, L, v, ht, hf, hn, hr, hfl, rfl⟩ | ⟨hno, rfl⟩
  case inr =>
    have hpn : Lh.partsL (Lh.cutL 10 s) = none := by
      cases hp : Lh.partsL (Lh.cutL 10 s) with
      | none => rfl
      | some q =>
        obtain ⟨e, L, k', ps⟩ := q
        obtain ⟨inner, d', h1, h2, h3⟩ := Lh.parts_back hp
        obtain ⟨g1, g2, g3⟩ := HS.out
        have e1 := (Lh.sum_one g2 h2 (g1.symm.trans h1)).1
        rw [g1, e1, Lh.parts_no g3 (hno inner e1)] at hp
        cases hp
    have HP : Hid (Lh.partsL (Lh.cutL 10 s) = none) := hpn
    clear hno hpn
    dsimp only
    go_wp2
    go_region
    all_goals
      go_wp2
      go_ret3
      exact ⟨0, _, [], 1, -1, Or.inr (Or.inl ⟨by omega, HP.out, rfl, rfl, rfl, rfl⟩), hb12.drew, HNF.out _, Or.inr ⟨by decide, _, rfl, Or.inr ⟨0, by decide, rfl, Or.inl ⟨rfl, rfl⟩⟩, by simp⟩⟩
  have HP : Hid (Lh.partsL (Lh.cutL 10 s) = some (m, L, k, Lh.cutL 10 t) ∧ Lh.joinL 10 (Lh.cutL 10 t) ++ [10] = b) := by
    have g := HS.out
    refine ⟨?_, by rw [Lh.cut_join, ht]⟩
    rw [g.1, ht]
    exact Lh.parts_yes g.2.1 g.2.2 hf hn hr
  have HIN : Hid (∀ x ∈ L, x.1 < 18446744073709551616 ∧ x.2.1.size ≤ 1000000 ∧ -9223372036854775808 ≤ x.2.2 ∧ x.2.2 ≤ 9223372036854775807) := Lh.rowsL_all hr (fun z hz => by
    have h1 := Lh.cut_word 10 t z (List.mem_of_mem_drop hz)
    have h3 := congrArg List.length ht
    rw [List.length_append] at h3
    omega)
  have HLL : Hid (L.length ≤ 20000) := by
    have h1 := (Lh.rowsL_inv hr).2
    have h3 := Lh.cut_len 10 t
    have h4 := congrArg List.length ht
    rw [List.length_append] at h4
    rw [List.length_drop] at h1
    simp only [List.length_cons, List.length_nil] at h4
    have : L.length ≤ 20000 := by omega
    exact this
  have HFL : Hid (FlowsNew W.heap.size w2 v L) := hfl.base hb1s
  obtain ⟨p, cp, rfl⟩ := hfl.flows.shape
  clear ht hf hn hr hfl
  have hsm := sumOf_any b (by omega) w2
  have hcr := Lh.crcL_lt b
  dsimp only
  go_wp2_with fail
  refine hsm.mono ?_
  rintro r w3 ⟨rfl, rfl⟩
  clear hsm
  by_cases hk : k = Lh.crcL b
  case neg =>
    have hki : ((k : Int) == (Lh.crcL b : Int)) = false := by simp; omega
    dsimp only
    go_wp2
    go_region
    all_goals
      go_wp2
      go_ret3
      exact ⟨0, _, [], 9, -1, Or.inr (Or.inr ⟨by omega, m, L, k, _, HP.out.1, Or.inl ⟨by rw [HP.out.2]; exact hk, rfl, rfl, rfl, rfl⟩⟩), hb12.drew, HNF.out _, Or.inr ⟨by decide, _, rfl, Or.inr ⟨8, by decide, rfl, Or.inl ⟨rfl, rfl⟩⟩, by simp⟩⟩
  have HK : Hid (k = Lh.crcL b) := hk
  have hki : ((k : Int) == (Lh.crcL b : Int)) = true := by rw [hk]; simp
  clear hk
  have hck := check_carry (m : Int) (.slice p L.length cp) L w3 (HE.out.later hb12) HFL.out.flows HLL.out HIN.out
  dsimp only
  go_wp2_with fail
  refine hck.mono ?_
  rintro r w4 ⟨c, pl, ev, rfl, hcf, herr, hnil, hb4⟩
  have hb14 := below_then hb12 hb4
  have HF4 : Hid (FlowsNew W.heap.size w4 (.slice p L.length cp) L) := HFL.out.later hb4
  clear hck hb4 hb12
  by_cases h0 : c = 0
  · subst h0
    obtain rfl := herr.zero
    have HCF : Hid (CaF (m : Int) L 0 pl) := hcf
    clear hcf herr hnil
    dsimp only
    go_wp2
    go_ret3
    exact ⟨m, _, L, 0, pl, Or.inr (Or.inr ⟨by omega, m, L, k, _, HP.out.1, Or.inr ⟨by rw [HP.out.2]; exact HK.out, HCF.out, Or.inr ⟨rfl, rfl, rfl⟩⟩⟩), hb14, HF4.out, Or.inl ⟨rfl, rfl⟩⟩
  · obtain ⟨ty, q, rfl⟩ := herr.box h0
    have HCF : Hid (CaF (m : Int) L c pl) := hcf
    have HER : Hid (ErrIs a w4 c pl (.iface ty q)) := herr
    clear hcf herr hnil
    dsimp only
    go_wp2
    go_ret3
    exact ⟨0, _, [], c, pl, Or.inr (Or.inr ⟨by omega, m, L, k, _, HP.out.1, Or.inr ⟨by rw [HP.out.2]; exact HK.out, HCF.out, Or.inl ⟨h0, rfl, rfl⟩⟩⟩), hb14, HNF.out _, Or.inr ⟨h0, _, rfl, HER.out, by simp⟩⟩
end Go.Proofs.YtmdckddenelneaaGreatDoor

/- The landed balance: Import. -/
namespace Go.Proofs.YtmdckddenelneaaGreatDoor
open Go.RowKit Go.Shelf Go.Maps Go.ChangeMaps

section
variable {W W' : World} {p hp fp fm db : Nat} {bs : List Nat} {lv : Value} {S : Lh.Bl}
set_option maxHeartbeats 2000000 in
/-- the function handed to slices.DeleteFunc -/
theorem importC (hb : Nat) (x : Lh.Fl) (h1 : W.cell? ⟨hb, 0, none⟩ = some (.pointer (some ⟨p, 0, none⟩))) (h : BR W p hp fp fm db bs lv S) (hk : Lh.BOk S) :
    Calls Tryz.prog 160 #[aggF x, .pointer (some ⟨hb, 0, none⟩)] W fun e w' => e = .returned (.bool (!Lh.hup S.hs x.2.1)) ∧ Below W.heap.size W w' := by
  unfold aggF
  have hb0 : Below W.heap.size W (W.alloc (.cells #[.int .u64 (x.1 : Nat), .string x.2.1, .int .i64 x.2.2] 82)) := (Below.refl _ _).alloc (Nat.le_refl _) _
  have HIS : Hid (∀ w', Below (W.alloc (.cells #[.int .u64 (x.1 : Nat), .string x.2.1, .int .i64 x.2.2] 82)).heap.size (W.alloc (.cells #[.int .u64 (x.1 : Nat), .string x.2.1, .int .i64 x.2.2] 82)) w' → Calls Tryz.prog 111 #[.pointer (some ⟨hp, 0, none⟩), .string x.2.1] w' fun e w'' => e = .returned (.bool (Lh.hup S.hs x.2.1)) ∧ Below (W.alloc (.cells #[.int .u64 (x.1 : Nat), .string x.2.1, .int .i64 x.2.2] 82)).heap.size (W.alloc (.cells #[.int .u64 (x.1 : Nat), .string x.2.1, .int .i64 x.2.2] 82)) w'') := fun w' hB => (isS_any (h.later (below_then hb0 hB)).h hk.h x.2.1).mono fun _ _ ⟨q1, q2⟩ => ⟨q1, below_then hB q2⟩
  have H0 : Hid (∀ w', Below (W.alloc (.cells #[.int .u64 (x.1 : Nat), .string x.2.1, .int .i64 x.2.2] 82)).heap.size (W.alloc (.cells #[.int .u64 (x.1 : Nat), .string x.2.1, .int .i64 x.2.2] 82)) w' → w'.cell? ⟨hb, 0, none⟩ = some (.pointer (some ⟨p, 0, none⟩)) ∧ w'.cell? ⟨p, 0, none⟩ = some (.pointer (some ⟨hp, 0, none⟩)) ∧ w'.cell? ⟨W.heap.size, 1, none⟩ = some (.string x.2.1)) := fun w' hB => ⟨below_cell (below_then hb0 hB) h1, (h.later (below_then hb0 hB)).c0, below_cell hB (by simp)⟩
  clear h hk h1
  generalize Lh.hup S.hs x.2.1 = u at *
  go_enter Tryz.func160, Tryz.ntmps160
  go_wp2_with fail
  generalize (W.alloc (.cells #[.int .u64 (x.1 : Nat), .string x.2.1, .int .i64 x.2.2] 82)) = W1 at *
  obtain ⟨a0, a1, a2⟩ := H0.out W1 (Below.refl _ _)
  go_region_held3 (fun w' => Below W1.heap.size W1 w' ∧ w'.cell? ⟨hb, 0, none⟩ = some (.pointer (some ⟨p, 0, none⟩)) ∧ w'.cell? ⟨p, 0, none⟩ = some (.pointer (some ⟨hp, 0, none⟩)) ∧ w'.cell? ⟨W.heap.size, 1, none⟩ = some (.string x.2.1))
    (first | exact ⟨by assumption, H0.out _ (by assumption)⟩ | exact ⟨below_drewN (Below.refl _ _) 1, H0.out _ (below_drewN (Below.refl _ _) 1)⟩)
    (first
      | (go_at_call 111; refine (HIS.out _ (by first | assumption | exact below_drewN (Below.refl _ _) 1)).mono ?_; rintro e w1 ⟨rfl, hb1⟩))
  all_goals
    go_wp2
    go_ret
    exact ⟨rfl, below_then hb0 hb1⟩
theorem entersIm : ∀ args w, (callFunc 160 args).run Tryz.prog w = .ok (.enter 160 args) w := enters_of Tryz.func160 (by kernel_rfl) rfl

set_option maxHeartbeats 1000000 in
/-- slices.DeleteFunc of no flows -/
theorem deleteG_nil (fn : Nat) (eg : ∀ args w, (callFunc fn args).run Tryz.prog w = .ok (.enter fn args) w) (bx : Value) (pv : Option Addr) (c : Nat) (W : World) :
    Calls Tryz.prog 159 #[.slice pv 0 c, .func (.func fn) #[] #[bx]] W fun e w' => e = .returned (.slice pv 0 c) ∧ Below W.heap.size W w' := by
  have hix := indexG_core fn eg bx (fun _ => false) pv c [] W (by simp) (fun k h => absurd h (by simp)) (fun W' k h => absurd h (by simp))
  simp only [List.length_nil] at hix
  go_enter Tryz.func159, Tryz.ntmps159
  go_wp2_with fail
  refine hix.mono ?_
  rintro e w1 ⟨hb1, ⟨_, rfl⟩ | ⟨i0, hi0, _⟩⟩
  case inr => exact absurd hi0 (by omega)
  clear hix
  go_wp2
  go_ret
  exact ⟨rfl, hb1⟩

/-- those whose host is up here -/
def upF (S : Lh.Bl) (l : List Lh.Fl) : List Lh.Fl := l.filter fun x => Lh.hup S.hs x.2.1
theorem upF_fl (S : Lh.Bl) (l : List Lh.Fl) : fl (fun x : Lh.Fl => !Lh.hup S.hs x.2.1) l = upF S l := by
  unfold fl upF
  refine List.filter_congr fun x _ => ?_
  simp
/-- the row that is left -/
theorem delImp {W1 w2 : World} (hb : Nat) (h1 : W1.cell? ⟨hb, 0, none⟩ = some (.pointer (some ⟨p, 0, none⟩))) (h : BR W1 p hp fp fm db bs lv S) (hk : Lh.BOk S) {v : Value} {l : List Lh.Fl} (hl : l.length ≤ 1000) (hb2 : Below W1.heap.size W1 w2) (hf : FlowsNew W1.heap.size w2 v l) :
    Calls Tryz.prog 159 #[v, .func (.func 160) #[] #[.pointer (some ⟨hb, 0, none⟩)]] w2 fun e w' => ∃ pv c, e = .returned (.slice pv (upF S l).length c) ∧ Below W1.heap.size W1 w' ∧ ∀ i (hi : i < (upF S l).length), ∃ g, pv = some ⟨g, 0, none⟩ ∧ W1.heap.size ≤ g ∧ RowAt w' g i (upF S l)[i] := by
  rcases hf with ⟨rfl, hv⟩ | ⟨g, c, rfl, hc, hg, hr, hfz⟩
  · obtain ⟨pv, c, rfl⟩ : ∃ pv c, v = .slice pv 0 c := by
      rcases hv with rfl | ⟨ad, c, rfl⟩
      · exact ⟨_, _, rfl⟩
      · exact ⟨_, _, rfl⟩
    refine (deleteG_nil 160 entersIm _ pv c w2).mono ?_
    rintro e w' ⟨rfl, hb'⟩
    exact ⟨pv, c, rfl, below_then hb2 hb', fun i hi => absurd hi (by simp [upF])⟩
  · rcases Nat.eq_zero_or_pos l.length with h0 | h0
    · obtain rfl := List.length_eq_zero_iff.1 h0
      refine (deleteG_nil 160 entersIm _ _ c w2).mono ?_
      rintro e w' ⟨rfl, hb'⟩
      exact ⟨_, c, rfl, below_then hb2 hb', fun i hi => absurd hi (by simp [upF])⟩
    · have hg2 : g < w2.heap.size := World.block_lt_of_cell? w2 ⟨g, 0 * 3, none⟩ (hr 0 h0).1
      have hbl : hb < W1.heap.size := World.block_lt_of_cell? W1 ⟨hb, 0, none⟩ h1
      refine (deleteG 160 entersIm (.pointer (some ⟨hb, 0, none⟩)) (fun x : Lh.Fl => !Lh.hup S.hs x.2.1) g c l w2 hl hc hg2 hr hfz (fun W' k hk' hT => ?_)).mono ?_
      · have hB' : Below W1.heap.size W1 W' := hT.below (fun b hb' => by have : b = g := hb'; omega) hb2 (Nat.le_refl _)
        exact importC hb _ (below_cell hB' h1) (h.later hB') hk
      · rintro e w' ⟨rfl, hT, hrow⟩
        rw [upF_fl] at hrow ⊢
        exact ⟨_, c, rfl, hT.below (fun b hb' => by have : b = g := hb'; omega) hb2 (Nat.le_refl _), fun i hi => ⟨g, rfl, hg, hrow i hi⟩⟩

set_option maxRecDepth 100000 in
set_option maxHeartbeats 4000000 in
/-- Import. -/
theorem import_any (a : Nat → Addr) (he : EB a W) (hx : EC a W) (h : BR W p hp fp fm db bs lv S) (hk : Lh.BOk S) (s : List UInt8) (now : Int) (hs : s.length ≤ 30000) :
    Calls Tryz.prog 115 #[.pointer (some ⟨p, 0, none⟩), .string (Lh.bt s), .int .i64 now] W fun e w' => ∃ S' n c pl ev, e = .returned (.tuple #[.int .i64 ((n : Nat) : Int), ev]) ∧ ErrIs a w' c pl ev ∧ ImportR S s now S' n c pl ∧ BR w' p hp fp fm db bs lv S' ∧ Tur (BFt p hp fp fm db bs lv) W w' := by
  have hb1 : Below W.heap.size W (W.alloc (.cells #[.pointer (some ⟨p, 0, none⟩)] 49)) := (Below.refl _ _).alloc (Nat.le_refl _) _
  have hrd := read_new s _ (hx.later hb1) hs
  have cb : (W.alloc (.cells #[.pointer (some ⟨p, 0, none⟩)] 49)).cell? ⟨W.heap.size, 0, none⟩ = some (.pointer (some ⟨p, 0, none⟩)) := by simp
  have HH : Hid (BR W p hp fp fm db bs lv S) := h
  have HK : Hid (Lh.BOk S) := hk
  have HE : Hid (EB a W) := he
  have HB1 : Hid (Below W.heap.size W (W.alloc (.cells #[.pointer (some ⟨p, 0, none⟩)] 49))) := hb1
  have HCB : Hid ((W.alloc (.cells #[.pointer (some ⟨p, 0, none⟩)] 49)).cell? ⟨W.heap.size, 0, none⟩ = some (.pointer (some ⟨p, 0, none⟩))) := cb
  clear he hx h hk hs hb1 cb
  go_enter Tryz.func115, Tryz.ntmps115
  go_wp2_with fail
  refine hrd.mono ?_
  rintro r w2 ⟨n, v, l, c, pl, hrf, hb2, hfn, ⟨hc0, rfl⟩ | ⟨hc, ev, rfl, herr, hne⟩⟩
  case inr =>
    obtain ⟨ty, q, rfl⟩ := herr.box hc
    have HRF : Hid (ReadF s n l c pl) := hrf
    have HERR : Hid (ErrIs a w2 c pl (.iface ty q)) := herr
    have HBW : Hid (Below W.heap.size W w2) := below_then HB1.out hb2
    obtain ⟨q1, q2, rfl⟩ := hfn.flows.shape
    clear hrd hrf herr hne hfn hb2 HCB HB1
    dsimp only
    go_wp2
    go_ret2
    exact ⟨S, 0, c, pl, _, rfl, HERR.out, ⟨n, l, c, pl, HRF.out, Or.inl ⟨hc, rfl, rfl, rfl, rfl⟩⟩, HH.out.later HBW.out, Tur.of_below HBW.out⟩
  subst hc0
  obtain ⟨-, hcf, hki, -⟩ := read_good hrf
  obtain ⟨⟨hn0, hn1, hl2⟩, hgood, hpl⟩ := caF_good hcf
  have HRF : Hid (ReadF s n l 0 pl) := hrf
  have hBW := below_then HB1.out hb2
  have hB2 := HH.out.later hBW
  have c4 := hB2.c4
  have cb2 := below_cell hb2 HCB.out
  have HBW : Hid (Below W.heap.size W w2) := hBW
  by_cases hold : n < S.ep
  · have d : decide (n < S.ep) = true := by simpa using hold
    have s7 := (HE.out.later hBW).s7
    obtain ⟨q1, q2, rfl⟩ := hfn.flows.shape
    clear hrd hrf hfn hb2 HCB HB1 hcf hki hgood hBW hB2
    dsimp only
    go_wp2
    go_region
    all_goals
      go_wp2
      go_ret2
      exact ⟨S, 0, 8, -1, _, rfl, Or.inr ⟨7, by decide, rfl, Or.inl ⟨rfl, rfl⟩⟩, ⟨n, l, 0, pl, HRF.out, Or.inr (Or.inl ⟨rfl, hold, rfl, rfl, rfl, rfl⟩)⟩, HH.out.later (below_then HBW.out (Below.refl _ _).drew), Tur.of_below (below_then HBW.out (Below.refl _ _).drew)⟩
  have d : decide (n < S.ep) = false := by simpa using hold
  have hdel := delImp W.heap.size HCB.out (HH.out.later HB1.out) HK.out (l := l) (by omega) hb2 hfn
  have HIN : Hid (FlIn (upF S l) ∧ (∀ x ∈ upF S l, Lh.isNm x.2.1 = true) ∧ (upF S l).length ≤ 1000) := by
    refine ⟨fun x hx => ?_, fun x hx => ?_, Nat.le_trans (List.length_filter_le _ _) (by omega)⟩
    · have hm := (List.mem_filter.1 hx).1
      obtain ⟨j, hj, rfl⟩ := List.getElem_of_mem hm
      obtain ⟨g1, g2, g3, _⟩ := hgood j hj
      have := (nm_word g1).2.2.2
      exact ⟨hki _ hm, by omega, by omega, by omega⟩
    · obtain ⟨j, hj, rfl⟩ := List.getElem_of_mem (List.mem_filter.1 hx).1
      exact (hgood j hj).1
  have HOLD : Hid (¬ n < S.ep) := hold
  obtain ⟨q1, q2, rfl⟩ := hfn.flows.shape
  clear hrd hrf hfn hcf hki hgood hBW hB2 hold hb2
  dsimp only
  go_wp2_with fail
  refine hdel.mono ?_
  rintro e w3 ⟨pv, c3, rfl, hb3, hrow⟩
  have cb3 := below_cell hb3 HCB.out
  have hBW3 := below_then HB1.out hb3
  have hB3 := HH.out.later hBW3
  have c2 := hB3.c2
  have HB3 : Hid (BR w3 p hp fp fm db bs lv S) := hB3
  have HBW3 : Hid (Below W.heap.size W w3) := hBW3
  rcases tick_ex S.la now with hok | ⟨j, hf⟩
  case inr =>
    have hadd := addF_bad a (HE.out.later hBW3).ef hB3.f pv (upF S l).length c3 now j hf
    have HF : Hid (TickF S.la now j) := hf
    clear hdel hrow hf hB3 hBW3 hb3 cb2 c4
    dsimp only
    go_wp2_with fail
    refine hadd.mono ?_
    rintro e w4 ⟨rfl, hb4⟩
    have HBW4 : Hid (Below W.heap.size W w4) := below_then HBW3.out hb4
    clear hadd hb4
    dsimp only
    go_wp2
    go_ret2
    exact ⟨S, 0, j + 1, -1, _, rfl, Or.inr ⟨j, by rcases HF.out with ⟨_, rfl⟩ | ⟨_, _, _, rfl⟩ <;> decide, rfl, Or.inl ⟨rfl, rfl⟩⟩, ⟨n, l, 0, pl, HRF.out, Or.inr (Or.inr (Or.inl ⟨rfl, (by have := HOLD.out; omega), j, HF.out, rfl, rfl, rfl, rfl⟩))⟩, HH.out.later HBW4.out, Tur.of_below HBW4.out⟩
  have hadd := addF_ok a (HE.out.later hBW3).ef hB3.f HK.out.ok pv c3 (upF S l) HIN.out.2.2 HIN.out.1 now hok HIN.out.2.1 (fun i hi => by
    obtain ⟨g, rfl, hg, r0, r1, r2⟩ := hrow i hi
    refine ⟨g, 0, ⟨rfl, fun hq => ?_⟩, by simpa only [Nat.zero_add] using r0, by simpa only [Nat.zero_add] using r1, by simpa only [Nat.zero_add] using r2⟩
    have h1 := HH.out.f.lt g hq
    have h2 := HB1.out.size
    omega)
  have HOK : Hid (TickOk S.la now) := hok
  clear hdel hrow hok hB3 hBW3 cb2 c4
  dsimp only
  go_wp2_with fail
  refine hadd.mono ?_
  rintro e w4 ⟨rfl, hF4, hT4⟩
  have hB4 := HB3.out.flows hT4 hF4
  have c4 := hB4.c4
  have f4 := hB4.fz 4
  have cb4 : w4.cell? ⟨W.heap.size, 0, none⟩ = some (.pointer (some ⟨p, 0, none⟩)) := tur_cell hT4 (fun hq => by have h1 := HH.out.f.lt _ hq; simp only at h1; omega) cb3
  have HB4 : Hid (BR w4 p hp fp fm db bs lv { S with la := now, L := Lh.fadd now S.L (upF S l) }) := hB4
  have HT4 : Hid (Tur (BFt p hp fp fm db bs lv) W w4) := (Tur.of_below HBW3.out).trans (hT4.flows (p := p) (hp := hp) (db := db) (bs := bs) (lv := lv)) fun b hb => Or.inl hb
  clear hadd hF4 hT4 hB4 c2 cb3 hb3
  dsimp only
  go_wp2
  go_ret2
  exact ⟨{ S with ep := n, la := now, L := Lh.fadd now S.L (upF S l) }, (Lh.fadd now S.L (upF S l)).length - S.L.length, 0, -1, _, rfl, Or.inl ⟨rfl, rfl, rfl⟩, ⟨n, l, 0, pl, HRF.out, Or.inr (Or.inr (Or.inr ⟨rfl, (by have := HOLD.out; omega), HOK.out, rfl, rfl, rfl, rfl⟩))⟩, HB4.out.epoch n, HT4.out.setCell _ (Or.inl (Or.inl rfl)) _⟩
end
end Go.Proofs.YtmdckddenelneaaGreatDoor
