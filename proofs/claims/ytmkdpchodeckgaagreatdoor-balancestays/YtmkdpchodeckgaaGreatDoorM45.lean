/- The landed balance: Import. -/
import Derived.Test.YtmkdpchodeckgaaGreatDoorM29
import Derived.Test.YtmkdpchodeckgaaGreatDoorBbDelF
import Derived.Test.YtmkdpchodeckgaaGreatDoorM40
import Derived.Test.YtmkdpchodeckgaaGreatDoorM41
import Derived.Test.YtmkdpchodeckgaaGreatDoorM44
import Derived.Test.YtmkdpchodeckgaaGreatDoorRows
import Derived.Test.YtmkdpchodeckgaaGreatDoorM0
import Derived.ProofKit
import Derived.LaidMore
import Derived.OpenShut
import Derived.Stop.Joined
import Derived.Stop.LaidErr
import Derived.LaidLaws
import Derived.LaidHandle
namespace Go.Proofs.YtmkdpchodeckgaaGreatDoor
open Go.RowKit Go.Shelf Go.Maps Go.ChangeMaps

section
variable {W W' : World} {p hp fp fm db : Nat} {bs : List Nat} {lv : Value} {S : Lh.Bl}
set_option maxHeartbeats 2000000 in
/-- the function handed to slices.DeleteFunc -/
theorem importC (hb : Nat) (x : Lh.Fl) (h1 : W.cell? ⟨hb, 0, none⟩ = some (.pointer (some ⟨p, 0, none⟩))) (h : BR W p hp fp fm db bs lv S) (hk : Lh.BOk S) :
    Calls Tryz.prog 31 #[aggF x, .pointer (some ⟨hb, 0, none⟩)] W fun e w' => e = .returned (.bool (!Lh.hup S.hs x.2.1)) ∧ Below W.heap.size W w' := by
  unfold aggF
  have hb0 : Below W.heap.size W (W.alloc (.cells #[.int .u64 (x.1 : Nat), .string x.2.1, .int .i64 x.2.2] 48)) := (Below.refl _ _).alloc (Nat.le_refl _) _
  have HIS : Hid (∀ w', Below (W.alloc (.cells #[.int .u64 (x.1 : Nat), .string x.2.1, .int .i64 x.2.2] 48)).heap.size (W.alloc (.cells #[.int .u64 (x.1 : Nat), .string x.2.1, .int .i64 x.2.2] 48)) w' → Calls Tryz.prog 21 #[.pointer (some ⟨hp, 0, none⟩), .string x.2.1] w' fun e w'' => e = .returned (.bool (Lh.hup S.hs x.2.1)) ∧ Below (W.alloc (.cells #[.int .u64 (x.1 : Nat), .string x.2.1, .int .i64 x.2.2] 48)).heap.size (W.alloc (.cells #[.int .u64 (x.1 : Nat), .string x.2.1, .int .i64 x.2.2] 48)) w'') := fun w' hB => (isS_any (h.later (below_then hb0 hB)).h hk.h x.2.1).mono fun _ _ ⟨q1, q2⟩ => ⟨q1, below_then hB q2⟩
  have H0 : Hid (∀ w', Below (W.alloc (.cells #[.int .u64 (x.1 : Nat), .string x.2.1, .int .i64 x.2.2] 48)).heap.size (W.alloc (.cells #[.int .u64 (x.1 : Nat), .string x.2.1, .int .i64 x.2.2] 48)) w' → w'.cell? ⟨hb, 0, none⟩ = some (.pointer (some ⟨p, 0, none⟩)) ∧ w'.cell? ⟨p, 0, none⟩ = some (.pointer (some ⟨hp, 0, none⟩)) ∧ w'.cell? ⟨W.heap.size, 1, none⟩ = some (.string x.2.1)) := fun w' hB => ⟨below_cell (below_then hb0 hB) h1, (h.later (below_then hb0 hB)).c0, below_cell hB (by simp)⟩
  clear h hk h1
  generalize Lh.hup S.hs x.2.1 = u at *
  go_enter Tryz.func31, Tryz.ntmps31
  go_wp2_with fail
  generalize (W.alloc (.cells #[.int .u64 (x.1 : Nat), .string x.2.1, .int .i64 x.2.2] 48)) = W1 at *
  obtain ⟨a0, a1, a2⟩ := H0.out W1 (Below.refl _ _)
  go_region_held3 (fun w' => Below W1.heap.size W1 w' ∧ w'.cell? ⟨hb, 0, none⟩ = some (.pointer (some ⟨p, 0, none⟩)) ∧ w'.cell? ⟨p, 0, none⟩ = some (.pointer (some ⟨hp, 0, none⟩)) ∧ w'.cell? ⟨W.heap.size, 1, none⟩ = some (.string x.2.1))
    (first | exact ⟨by assumption, H0.out _ (by assumption)⟩ | exact ⟨below_drewN (Below.refl _ _) 1, H0.out _ (below_drewN (Below.refl _ _) 1)⟩)
    (first
      | (go_at_call 21; refine (HIS.out _ (by first | assumption | exact below_drewN (Below.refl _ _) 1)).mono ?_; rintro e w1 ⟨rfl, hb1⟩))
  all_goals
    go_wp2
    go_ret
    exact ⟨rfl, below_then hb0 hb1⟩
theorem entersIm : ∀ args w, (callFunc 31 args).run Tryz.prog w = .ok (.enter 31 args) w := enters_of Tryz.func31 (by kernel_rfl) rfl

set_option maxHeartbeats 1000000 in
/-- slices.DeleteFunc of no flows -/
theorem deleteG_nil (fn : Nat) (eg : ∀ args w, (callFunc fn args).run Tryz.prog w = .ok (.enter fn args) w) (bx : Value) (pv : Option Addr) (c : Nat) (W : World) :
    Calls Tryz.prog 30 #[.slice pv 0 c, .func (.func fn) #[] #[bx]] W fun e w' => e = .returned (.slice pv 0 c) ∧ Below W.heap.size W w' := by
  have hix := indexG_core fn eg bx (fun _ => false) pv c [] W (by simp) (fun k h => absurd h (by simp)) (fun W' k h => absurd h (by simp))
  simp only [List.length_nil] at hix
  go_enter Tryz.func30, Tryz.ntmps30
  go_wp2_with fail
  refine hix.mono ?_
  rintro e w1 ⟨hb1, ⟨_, rfl⟩ | ⟨i0, hi0, _⟩⟩
  case inr => exact absurd hi0 (by omega)
  clear hix
  go_wp2
  go_ret
  exact ⟨rfl, hb1⟩

/-- those whose host is up here -/
def upF (S : Lh.Bl) (l : List Lh.Fl) : List Lh.Fl := l.filter fun x => Lh.hup S.hs x.2.1
theorem upF_fl (S : Lh.Bl) (l : List Lh.Fl) : fl (fun x : Lh.Fl => !Lh.hup S.hs x.2.1) l = upF S l := by
  unfold fl upF
  refine List.filter_congr fun x _ => ?_
  simp
/-- the row that is left -/
theorem delImp {W1 w2 : World} (hb : Nat) (h1 : W1.cell? ⟨hb, 0, none⟩ = some (.pointer (some ⟨p, 0, none⟩))) (h : BR W1 p hp fp fm db bs lv S) (hk : Lh.BOk S) {v : Value} {l : List Lh.Fl} (hl : l.length ≤ 1000) (hb2 : Below W1.heap.size W1 w2) (hf : FlowsNew W1.heap.size w2 v l) :
    Calls Tryz.prog 30 #[v, .func (.func 31) #[] #[.pointer (some ⟨hb, 0, none⟩)]] w2 fun e w' => ∃ pv c, e = .returned (.slice pv (upF S l).length c) ∧ Below W1.heap.size W1 w' ∧ ∀ i (hi : i < (upF S l).length), ∃ g, pv = some ⟨g, 0, none⟩ ∧ W1.heap.size ≤ g ∧ RowAt w' g i (upF S l)[i] := by
  rcases hf with ⟨rfl, hv⟩ | ⟨g, c, rfl, hc, hg, hr, hfz⟩
  · obtain ⟨pv, c, rfl⟩ : ∃ pv c, v = .slice pv 0 c := by
      rcases hv with rfl | ⟨ad, c, rfl⟩
      · exact ⟨_, _, rfl⟩
      · exact ⟨_, _, rfl⟩
    refine (deleteG_nil 31 entersIm _ pv c w2).mono ?_
    rintro e w' ⟨rfl, hb'⟩
    exact ⟨pv, c, rfl, below_then hb2 hb', fun i hi => absurd hi (by simp [upF])⟩
  · rcases Nat.eq_zero_or_pos l.length with h0 | h0
    · obtain rfl := List.length_eq_zero_iff.1 h0
      refine (deleteG_nil 31 entersIm _ _ c w2).mono ?_
      rintro e w' ⟨rfl, hb'⟩
      exact ⟨_, c, rfl, below_then hb2 hb', fun i hi => absurd hi (by simp [upF])⟩
    · have hg2 : g < w2.heap.size := World.block_lt_of_cell? w2 ⟨g, 0 * 3, none⟩ (hr 0 h0).1
      have hbl : hb < W1.heap.size := World.block_lt_of_cell? W1 ⟨hb, 0, none⟩ h1
      refine (deleteG 31 entersIm (.pointer (some ⟨hb, 0, none⟩)) (fun x : Lh.Fl => !Lh.hup S.hs x.2.1) g c l w2 hl hc hg2 hr hfz (fun W' k hk' hT => ?_)).mono ?_
      · have hB' : Below W1.heap.size W1 W' := hT.below (fun b hb' => by have : b = g := hb'; omega) hb2 (Nat.le_refl _)
        exact importC hb _ (below_cell hB' h1) (h.later hB') hk
      · rintro e w' ⟨rfl, hT, hrow⟩
        rw [upF_fl] at hrow ⊢
        exact ⟨_, c, rfl, hT.below (fun b hb' => by have : b = g := hb'; omega) hb2 (Nat.le_refl _), fun i hi => ⟨g, rfl, hg, hrow i hi⟩⟩

set_option maxRecDepth 100000 in
set_option maxHeartbeats 4000000 in
/-- Import. -/
theorem import_any (a : Nat → Addr) (he : EB a W) (hx : EC a W) (h : BR W p hp fp fm db bs lv S) (hk : Lh.BOk S) (s : List UInt8) (now : Int) (hs : s.length ≤ 30000) :
    Calls Tryz.prog 12 #[.pointer (some ⟨p, 0, none⟩), .string (Lh.bt s), .int .i64 now] W fun e w' => ∃ S' n c pl ev, e = .returned (.tuple #[.int .i64 ((n : Nat) : Int), ev]) ∧ ErrIs a w' c pl ev ∧ ImportR S s now S' n c pl ∧ BR w' p hp fp fm db bs lv S' ∧ Tur (BFt p hp fp fm db bs lv) W w' := by
  have hb1 : Below W.heap.size W (W.alloc (.cells #[.pointer (some ⟨p, 0, none⟩)] 25)) := (Below.refl _ _).alloc (Nat.le_refl _) _
  have hrd := read_new s _ (hx.later hb1) hs
  have cb : (W.alloc (.cells #[.pointer (some ⟨p, 0, none⟩)] 25)).cell? ⟨W.heap.size, 0, none⟩ = some (.pointer (some ⟨p, 0, none⟩)) := by simp
  have HH : Hid (BR W p hp fp fm db bs lv S) := h
  have HK : Hid (Lh.BOk S) := hk
  have HE : Hid (EB a W) := he
  have HB1 : Hid (Below W.heap.size W (W.alloc (.cells #[.pointer (some ⟨p, 0, none⟩)] 25))) := hb1
  have HCB : Hid ((W.alloc (.cells #[.pointer (some ⟨p, 0, none⟩)] 25)).cell? ⟨W.heap.size, 0, none⟩ = some (.pointer (some ⟨p, 0, none⟩))) := cb
  clear he hx h hk hs hb1 cb
  go_enter Tryz.func12, Tryz.ntmps12
  go_wp2_with fail
  refine hrd.mono ?_
  rintro r w2 ⟨n, v, l, c, pl, hrf, hb2, hfn, ⟨hc0, rfl⟩ | ⟨hc, ev, rfl, herr, hne⟩⟩
  case inr =>
    obtain ⟨ty, q, rfl⟩ := herr.box hc
    have HRF : Hid (ReadF s n l c pl) := hrf
    have HERR : Hid (ErrIs a w2 c pl (.iface ty q)) := herr
    have HBW : Hid (Below W.heap.size W w2) := below_then HB1.out hb2
    obtain ⟨q1, q2, rfl⟩ := hfn.flows.shape
    clear hrd hrf herr hne hfn hb2 HCB HB1
    dsimp only
    go_wp2
    go_ret2
    exact ⟨S, 0, c, pl, _, rfl, HERR.out, ⟨n, l, c, pl, HRF.out, Or.inl ⟨hc, rfl, rfl, rfl, rfl⟩⟩, HH.out.later HBW.out, Tur.of_below HBW.out⟩
  subst hc0
  obtain ⟨-, hcf, hki, -⟩ := read_good hrf
  obtain ⟨⟨hn0, hn1, hl2⟩, hgood, hpl⟩ := caF_good hcf
  have HRF : Hid (ReadF s n l 0 pl) := hrf
  have hBW := below_then HB1.out hb2
  have hB2 := HH.out.later hBW
  have c4 := hB2.c4
  have cb2 := below_cell hb2 HCB.out
  have HBW : Hid (Below W.heap.size W w2) := hBW
  by_cases hold : n < S.ep
  · have d : decide (n < S.ep) = true := by simpa using hold
    have s7 := (HE.out.later hBW).s7
    obtain ⟨q1, q2, rfl⟩ := hfn.flows.shape
    clear hrd hrf hfn hb2 HCB HB1 hcf hki hgood hBW hB2
    dsimp only
    go_wp2
    go_region
    all_goals
      go_wp2
      go_ret2
      exact ⟨S, 0, 8, -1, _, rfl, Or.inr ⟨7, by decide, rfl, Or.inl ⟨rfl, rfl⟩⟩, ⟨n, l, 0, pl, HRF.out, Or.inr (Or.inl ⟨rfl, hold, rfl, rfl, rfl, rfl⟩)⟩, HH.out.later (below_then HBW.out (Below.refl _ _).drew), Tur.of_below (below_then HBW.out (Below.refl _ _).drew)⟩
  have d : decide (n < S.ep) = false := by simpa using hold
  have hdel := delImp W.heap.size HCB.out (HH.out.later HB1.out) HK.out (l := l) (by omega) hb2 hfn
  have HIN : Hid (FlIn (upF S l) ∧ (∀ x ∈ upF S l, Lh.isNm x.2.1 = true) ∧ (upF S l).length ≤ 1000) := by
    refine ⟨fun x hx => ?_, fun x hx => ?_, Nat.le_trans (List.length_filter_le _ _) (by omega)⟩
    · have hm := (List.mem_filter.1 hx).1
      obtain ⟨j, hj, rfl⟩ := List.getElem_of_mem hm
      obtain ⟨g1, g2, g3, _⟩ := hgood j hj
      have := (nm_word g1).2.2.2
      exact ⟨hki _ hm, by omega, by omega, by omega⟩
    · obtain ⟨j, hj, rfl⟩ := List.getElem_of_mem (List.mem_filter.1 hx).1
      exact (hgood j hj).1
  have HOLD : Hid (¬ n < S.ep) := hold
  obtain ⟨q1, q2, rfl⟩ := hfn.flows.shape
  clear hrd hrf hfn hcf hki hgood hBW hB2 hold hb2
  dsimp only
  go_wp2_with fail
  refine hdel.mono ?_
  rintro e w3 ⟨pv, c3, rfl, hb3, hrow⟩
  have cb3 := below_cell hb3 HCB.out
  have hBW3 := below_then HB1.out hb3
  have hB3 := HH.out.later hBW3
  have c2 := hB3.c2
  have HB3 : Hid (BR w3 p hp fp fm db bs lv S) := hB3
  have HBW3 : Hid (Below W.heap.size W w3) := hBW3
  rcases tick_ex S.la now with hok | ⟨j, hf⟩
  case inr =>
    have hadd := addF_bad a (HE.out.later hBW3).ef hB3.f pv (upF S l).length c3 now j hf
    have HF : Hid (TickF S.la now j) := hf
    clear hdel hrow hf hB3 hBW3 hb3 cb2 c4
    dsimp only
    go_wp2_with fail
    refine hadd.mono ?_
    rintro e w4 ⟨rfl, hb4⟩
    have HBW4 : Hid (Below W.heap.size W w4) := below_then HBW3.out hb4
    clear hadd hb4
    dsimp only
    go_wp2
    go_ret2
    exact ⟨S, 0, j + 1, -1, _, rfl, Or.inr ⟨j, by rcases HF.out with ⟨_, rfl⟩ | ⟨_, _, _, rfl⟩ <;> decide, rfl, Or.inl ⟨rfl, rfl⟩⟩, ⟨n, l, 0, pl, HRF.out, Or.inr (Or.inr (Or.inl ⟨rfl, (by have := HOLD.out; omega), j, HF.out, rfl, rfl, rfl, rfl⟩))⟩, HH.out.later HBW4.out, Tur.of_below HBW4.out⟩
  have hadd := addF_ok a (HE.out.later hBW3).ef hB3.f HK.out.ok pv c3 (upF S l) HIN.out.2.2 HIN.out.1 now hok HIN.out.2.1 (fun i hi => by
    obtain ⟨g, rfl, hg, r0, r1, r2⟩ := hrow i hi
    refine ⟨g, 0, ⟨rfl, fun hq => ?_⟩, by simpa only [Nat.zero_add] using r0, by simpa only [Nat.zero_add] using r1, by simpa only [Nat.zero_add] using r2⟩
    have h1 := HH.out.f.lt g hq
    have h2 := HB1.out.size
    omega)
  have HOK : Hid (TickOk S.la now) := hok
  clear hdel hrow hok hB3 hBW3 cb2 c4
  dsimp only
  go_wp2_with fail
  refine hadd.mono ?_
  rintro e w4 ⟨rfl, hF4, hT4⟩
  have hB4 := HB3.out.flows hT4 hF4
  have c4 := hB4.c4
  have f4 := hB4.fz 4
  have cb4 : w4.cell? ⟨W.heap.size, 0, none⟩ = some (.pointer (some ⟨p, 0, none⟩)) := tur_cell hT4 (fun hq => by have h1 := HH.out.f.lt _ hq; simp only at h1; omega) cb3
  have HB4 : Hid (BR w4 p hp fp fm db bs lv { S with la := now, L := Lh.fadd now S.L (upF S l) }) := hB4
  have HT4 : Hid (Tur (BFt p hp fp fm db bs lv) W w4) := (Tur.of_below HBW3.out).trans (hT4.flows (p := p) (hp := hp) (db := db) (bs := bs) (lv := lv)) fun b hb => Or.inl hb
  clear hadd hF4 hT4 hB4 c2 cb3 hb3
  dsimp only
  go_wp2
  go_ret2
  exact ⟨{ S with ep := n, la := now, L := Lh.fadd now S.L (upF S l) }, (Lh.fadd now S.L (upF S l)).length - S.L.length, 0, -1, _, rfl, Or.inl ⟨rfl, rfl, rfl⟩, ⟨n, l, 0, pl, HRF.out, Or.inr (Or.inr (Or.inr ⟨rfl, (by have := HOLD.out; omega), HOK.out, rfl, rfl, rfl, rfl⟩))⟩, HB4.out.epoch n, HT4.out.setCell _ (Or.inl (Or.inl rfl)) _⟩
end
end Go.Proofs.YtmkdpchodeckgaaGreatDoor

/- The landed balance keeps its contracts. -/
namespace Go.Proofs.YtmkdpchodeckgaaGreatDoor
open Go.RowKit

theorem look_bal (a : Nat → Addr) (S : Lh.Bl) (F : Nat → Prop) (p : Nat) (s : ByteArray) (well : Bool) (W : World) (he : EB a W) (hR : RepB S F p W) (hk : Lh.BOk S) :
    Calls Tryz.prog 9 #[.pointer (some ⟨p, 0, none⟩), .string s, .bool well] W fun e W' => ∃ F' S' turned c ev, (∀ b, F' b → F b ∨ W.heap.size ≤ b) ∧ Tur F W W' ∧ e = .returned (.tuple #[.bool turned, ev]) ∧ EvOf a c ev ∧ LookR S s well S' turned c ∧ RepB S' F' p W' := by
  obtain ⟨hp, fp, fm, db, bs, lv, h, rfl, hg⟩ := hR
  by_cases hx : Lh.hix S.hs s < S.hs.length
  · refine (look_good a he.e5.four h hk s well hx).mono ?_
    rintro e W' ⟨rfl, hB, hT⟩
    exact ⟨_, _, _, 0, _, fun b hb => Or.inl hb, hT, rfl, Or.inl ⟨rfl, rfl⟩, Or.inl ⟨hx, rfl, rfl, rfl⟩, hp, fp, fm, db, bs, lv, hB, rfl, hg⟩
  · refine (look_none a he.e5.four h hk s well hx).mono ?_
    rintro e W' ⟨rfl, hB, hT⟩
    exact ⟨_, S, false, 5, _, fun b hb => Or.inl hb, hT.health, rfl, Or.inr ⟨4, rfl, rfl⟩, Or.inr ⟨hx, rfl, rfl, rfl⟩, hp, fp, fm, db, bs, lv, hB, rfl, hg⟩
theorem export_bal (a : Nat → Addr) (S : Lh.Bl) (F : Nat → Prop) (p : Nat) (W : World) (hx : EC a W) (hR : RepB S F p W) (hk : Lh.BOk S) :
    Calls Tryz.prog 11 #[.pointer (some ⟨p, 0, none⟩)] W fun e W' => ∃ F' S' s c ev, (∀ b, F' b → F b ∨ W.heap.size ≤ b) ∧ Tur F W W' ∧ e = .returned (.tuple #[.string s, ev]) ∧ EvOf a c ev ∧ ExportR S S' s c ∧ RepB S' F' p W' := by
  obtain ⟨hp, fp, fm, db, bs, lv, h, rfl, hg⟩ := hR
  by_cases hep : S.ep < 1099511627776
  · refine (export_good a hx h hk hep).mono ?_
    rintro e W' ⟨rfl, hB, hT⟩
    exact ⟨_, _, _, 0, _, fun b hb => Or.inl hb, hT, rfl, Or.inl ⟨rfl, rfl⟩, Or.inl ⟨hep, rfl, rfl, rfl⟩, hp, fp, fm, db, bs, lv, hB, rfl, hg⟩
  · refine (export_bad a hx h hk hep).mono ?_
    rintro e W' ⟨rfl, hb⟩
    exact ⟨_, S, ByteArray.empty, 2, _, fun b hb => Or.inl hb, Tur.of_below hb, rfl, Or.inr ⟨1, rfl, rfl⟩, Or.inr ⟨hep, rfl, rfl, rfl⟩, hp, fp, fm, db, bs, lv, h.later hb, rfl, hg⟩
theorem import_bal (a : Nat → Addr) (S : Lh.Bl) (F : Nat → Prop) (p : Nat) (s : List UInt8) (now : Int) (W : World) (he : EB a W) (hx : EC a W) (hR : RepB S F p W) (hk : Lh.BOk S) (hs : s.length ≤ 30000) :
    Calls Tryz.prog 12 #[.pointer (some ⟨p, 0, none⟩), .string (Lh.bt s), .int .i64 now] W fun e W' => ∃ F' S' n c pl ev, (∀ b, F' b → F b ∨ W.heap.size ≤ b) ∧ Tur F W W' ∧ e = .returned (.tuple #[.int .i64 ((n : Nat) : Int), ev]) ∧ ErrIs a W' c pl ev ∧ ImportR S s now S' n c pl ∧ RepB S' F' p W' := by
  obtain ⟨hp, fp, fm, db, bs, lv, h, rfl, hg⟩ := hR
  refine (import_any a he hx h hk s now hs).mono ?_
  rintro e W' ⟨S', n, c, pl, ev, rfl, hev, hI, hB, hT⟩
  exact ⟨_, S', n, c, pl, ev, fun b hb => Or.inl hb, hT, rfl, hev, hI, hp, fp, fm, db, bs, lv, hB, rfl, hg⟩
def balanceC : BalanceC where
  E := EB
  eLater := fun h hb => h.later hb
  X := EC
  xLater := fun h hb => h.later hb
  nw := nwB
  nwIn := fun k h _ => nwB_in k h
  Rep := RepB
  lt := fun h => h.lt
  stay := fun h _ hs => h.stay hs
  newG := fun a v xs n t f r W he hv h0 hf hs hp h5 h1 h2 h3 h4 h6 h7 => newG_bal a v xs n t f r W he hv h0 hf hs hp h5 h1 h2 h3 h4 h6 h7
  pick := fun a S F p k now W he hR hk hkk => pick_bal a S F p k now W he hR hk hkk
  look := fun a S F p s well W he hR hk _ => look_bal a S F p s well W he hR hk
  drain := fun a S F p s is W he hR hk _ => drain_bal a S F p s is W he hR hk
  up := fun S F p W hR hk => up_bal S F p W hR hk
  flows := fun S F p W hR hk => flows_bal S F p W hR hk
  epoch := fun S F p W hR => epoch_bal S F p W hR
  export_ := fun a S F p W _ hx hR hk => export_bal a S F p W hx hR hk
  import_ := fun a S F p s now W he hx hR hk hs => import_bal a S F p s now W he hx hR hk hs
end Go.Proofs.YtmkdpchodeckgaaGreatDoor

/- From the row's list of package variables to what the walks ask: the handle of the type error, nine errors at different places. -/
namespace Go.Proofs.YtmkdpchodeckgaaGreatDoor
open Go.ChangeShapes Go.WideShapes Go.ChangeAt Go.RowKit

theorem own : ownKnob Tryz.prog.godebug = none := by kernel_rfl

/-- A list of errors of errors.New's make, by names and texts. -/
def sentList (l : List (String × List UInt8)) : List (String × DataW Unit) := l.map fun x => (x.1, .iface "*errors.errorString" (.ptr (.agg [.lit (.string x.2)])))
def placeOf (a : Addr) : MemPlace := .cell a.block a.off

theorem sents_of {P : Program} {W : World} {ti tp te ts : TypeId} {ms : Array (String × TypeId)} {f : Field}
    (hi : P.underlying ti = some (.interface ms)) (hrow : ∀ u, P.typeName? 3 u = some "*errors.errorString" → u = tp)
    (hp : P.underlying tp = some (.pointer te)) (he : P.underlying te = some (.struct #[f])) (hft : f.type = ts) (hfo : f.offset = 0) (hs : P.underlying ts = some .string) (hc : P.cellsOf te = 1) (hcs : P.cellsOf ts = 1)
    (all : List MemPlace) (hrows : ∀ b off, MemPlace.cell b off ∈ all → (∃ c t, W.heap[b]? = some (.cells c t (0, 0))) ∧ ∀ u v, W.cell? ⟨b, off, none⟩ = some (.iface u v) → Value.okWide P W .any 0 u v) :
    ∀ (l : List (String × List UInt8)) (ps : List MemPlace), (∀ x ∈ l, ∃ g, P.globalNamed x.1 = some g ∧ (P.globals[g]?).map (·.type) = some ti) → (∀ m ∈ ps, m ∈ all) →
      DataW.LaidVars P W (sentList l) ps →
      ∃ ads : List Addr, ads.length = l.length ∧ (ads.map placeOf).Sublist ps ∧ ∀ i (h : i < l.length) (h' : i < ads.length), W.var? P l[i].1 = some #[.iface tp (.pointer (some ads[i]))]
  | [], ps, _, _, _ => ⟨[], rfl, by simp, fun i h => by simp at h⟩
  | x :: r, ps, hg, hin, hl => by
    obtain ⟨g, t, cs, fuel, p, q, h1, h2, h3, h4, h5, rfl⟩ := hl
    obtain ⟨g', hg1, hg2⟩ := hg x (List.mem_cons_self ..)
    obtain rfl := Option.some.inj (hg1.symm.trans h1)
    obtain rfl := Option.some.inj (hg2.symm.trans h2)
    obtain ⟨l0⟩ := cs
    have ok0 : ∀ u v, l0 = [.iface u v] → Value.okWide P W .any 0 u v := fun u v e => by
      subst e
      exact (hrows g' 0 (hin _ (by simp [MemPlace.row]))).2 u v (by simpa using World.var?_cell h1 h3 0)
    obtain ⟨a, s, rfl, _, _, _, rfl⟩ := errorString_of_trod hi hrow hp he hft hfo hs hc hcs h4 ok0
    obtain ⟨ads, e1, e2, e3⟩ := sents_of hi hrow hp he hft hfo hs hc hcs all hrows r q (fun y hy => hg y (List.mem_cons_of_mem _ hy)) (fun m hm => hin m (List.mem_append_right _ hm)) h5
    refine ⟨a :: ads, by simp [e1], ?_, ?_⟩
    · have : MemPlace.row a 1 = [placeOf a] := by simp [MemPlace.row, placeOf]
      rw [this, List.append_assoc]
      exact (List.Sublist.cons_cons _ e2).trans (List.sublist_append_right _ _)
    · intro i h h'
      cases i with
      | zero => exact h3
      | succ i => exact e3 i (by simpa using h) (by simpa using h')

theorem star : "*errors.errorString" = "*" ++ "errors.errorString" := by decide
theorem rowE (u : TypeId) (h : Tryz.prog.typeName? 3 u = some "*errors.errorString") : u = 236 :=
  typeName_ptr_named (nm := "errors.errorString") (by rw [← star]; kernel_rfl) (by kernel_rfl) (by decide) u (by rw [← star]; exact h)
theorem cellsE : Tryz.prog.cellsOf 238 = 1 := by kernel_rfl
theorem cellsS : Tryz.prog.cellsOf 9 = 1 := by kernel_rfl
theorem oneRowE : ((List.range 256).filter fun t => Tryz.prog.rowNamed t [101, 114, 114, 111, 114]) = [27] := by kernel_rfl
theorem sizeT : Tryz.prog.types.size = 256 := by kernel_rfl

def apiErrs : List (String × List UInt8) := [
  ("levelhand/api.ErrText", [108, 101, 118, 101, 108, 104, 97, 110, 100, 58, 32, 116, 101, 120, 116]),
  ("levelhand/api.ErrBound", [108, 101, 118, 101, 108, 104, 97, 110, 100, 58, 32, 98, 111, 117, 110, 100]),
  ("levelhand/api.ErrShape", [108, 101, 118, 101, 108, 104, 97, 110, 100, 58, 32, 115, 104, 97, 112, 101]),
  ("levelhand/api.ErrName", [108, 101, 118, 101, 108, 104, 97, 110, 100, 58, 32, 110, 97, 109, 101]),
  ("levelhand/api.ErrNone", [108, 101, 118, 101, 108, 104, 97, 110, 100, 58, 32, 110, 111, 110, 101]),
  ("levelhand/api.ErrExist", [108, 101, 118, 101, 108, 104, 97, 110, 100, 58, 32, 101, 120, 105, 115, 116]),
  ("levelhand/api.ErrFull", [108, 101, 118, 101, 108, 104, 97, 110, 100, 58, 32, 102, 117, 108, 108]),
  ("levelhand/api.ErrOld", [108, 101, 118, 101, 108, 104, 97, 110, 100, 58, 32, 111, 108, 100]),
  ("levelhand/api.ErrSum", [108, 101, 118, 101, 108, 104, 97, 110, 100, 58, 32, 115, 117, 109])]
def apiLaid : List (String × DataW Unit) := ("errors.errorType", .iface "internal/reflectlite.rtype" (.agg [.ptr (.lit (.string [101, 114, 114, 111, 114]))])) :: sentList apiErrs

theorem laidOut : laidOutB Tryz.prog = true := by kernel_rfl
end Go.Proofs.YtmkdpchodeckgaaGreatDoor
