/- slices.IndexFunc and slices.DeleteFunc of flows, with a function that lays blocks of its own. -/
import Derived.Test.YtfhmfjcpggddkaaGreatDoorM21
import Derived.Test.YtfhmfjcpggddkaaGreatDoorBaRow
import Derived.Test.YtfhmfjcpggddkaaGreatDoorM13
import Derived.Test.YtfhmfjcpggddkaaGreatDoorM6
import Derived.Test.YtfhmfjcpggddkaaGreatDoorM27
import Derived.Test.YtfhmfjcpggddkaaGreatDoorM26
import Derived.Test.YtfhmfjcpggddkaaGreatDoorM8
import Derived.Test.YtfhmfjcpggddkaaGreatDoorM4
import Derived.Test.YtfhmfjcpggddkaaGreatDoorM5
import Derived.BigQuiet
import Derived.Deep.QuietTactic
import Derived.Laws.AppendOwnNone
import Derived.Deep.AppendLies
import Derived.Test.YtfhmfjcpggddkaaGreatDoorM11
import Derived.Test.YtfhmfjcpggddkaaGreatDoorM12
import Derived.Test.YtfhmfjcpggddkaaGreatDoorM18
import Derived.Test.YtfhmfjcpggddkaaGreatDoorM17
namespace Go.Proofs.YtfhmfjcpggddkaaGreatDoor
open Go.RowKit Go.Shelf

theorem RowAt.same {W W' : World} {g k : Nat} {x : Lh.Fl} (h : RowAt W g k x) (e : W'.heap[g]? = W.heap[g]?) : RowAt W' g k x :=
  ⟨(World.cell?_of_block (w := W) (w' := W') (a := ⟨g, k * 3, none⟩) e).trans h.1, (World.cell?_of_block (w := W) (w' := W') (a := ⟨g, k * 3 + 1, none⟩) e).trans h.2.1, (World.cell?_of_block (w := W) (w' := W') (a := ⟨g, k * 3 + 2, none⟩) e).trans h.2.2⟩
section
variable {q : Lh.Fl → Bool} {xs : List Lh.Fl} {g i j : Nat} {W0 W W' : World}
end
end Go.Proofs.YtfhmfjcpggddkaaGreatDoor

/- The law BalanceOver, over the landed package's contracts, where its numbers are right. -/
namespace Go.Proofs.YtfhmfjcpggddkaaGreatDoor
open Go.RowKit

def three : List ByteArray := [nA, nB, nC]
section
variable {hC : BalanceC} {B : Nat} {w W W' : World} {S S' T T' : Lh.Bl} {F F' G G' : Nat → Prop} {p q : Nat}
end
theorem goodF_of {S : Lh.Bl} (h : Lh.BOk S) : ∀ j, ∀ hj : j < S.L.length, GoodF S.L j hj := by
  intro j hj
  have hm := List.getElem_mem hj
  refine ⟨h.host _ hm, h.ok.lo _ hm, h.hi _ hm, fun i hi hlt e => ?_⟩
  have := List.pairwise_iff_getElem.1 h.ok.rise i j hi hj hlt
  omega
theorem caF_of {S : Lh.Bl} (h : Lh.BOk S) {e : Int} (h0 : 0 ≤ e) (h1 : e ≤ 1099511627776) : CaF e S.L 0 (-1) := Or.inr (Or.inr ⟨⟨h0, h1, h.ok.len⟩, goodF_of h, rfl, rfl⟩)
theorem keyIn_of {S : Lh.Bl} (h : Lh.BOk S) : KeyIn S.L := fun x hx => h.ok.key x hx
end Go.Proofs.YtfhmfjcpggddkaaGreatDoor

/- The landed balance: Export. -/
namespace Go.Proofs.YtfhmfjcpggddkaaGreatDoor
open Go.RowKit Go.Shelf Go.Maps Go.ChangeMaps

theorem flIn_of {S : Lh.Bl} (h : Lh.BOk S) : FlIn S.L := fun x hx => by
  have h1 := h.ok.key x hx
  have h2 := h.ok.lo x hx
  have h3 := h.hi x hx
  have h4 := (nm_word (h.host x hx)).2.2.2
  exact ⟨h1, by omega, by omega, by omega⟩
set_option maxHeartbeats 1000000 in
theorem check_bound {a : Nat → Addr} (e : Int) (p : Option Addr) (n c : Nat) (w : World) (he : EC a w) (h2 : 1099511627776 < e) :
    Calls Tryz.prog 208 #[.int .i64 e, .slice p n c] w fun r w' => r = .returned (.iface 378 (.pointer (some (a 1)))) ∧ w' = w := by
  have s1 := he.s1
  have d1 : decide (e < 0) = false := by simp; omega
  clear he
  go_enter Tryz.func208, Tryz.ntmps208
  go_wp2
  go_ret
  exact ⟨rfl, rfl⟩
set_option maxHeartbeats 1000000 in
theorem text_bound {a : Nat → Addr} (e : Int) (p : Option Addr) (n c : Nat) (w : World) (he : EC a w) (h2 : 1099511627776 < e) :
    Calls Tryz.prog 163 #[.int .i64 e, .slice p n c] w fun r w' => r = .returned (.tuple #[.string ByteArray.empty, .iface 378 (.pointer (some (a 1)))]) ∧ w' = w := by
  have hck := check_bound e p n c w he h2
  clear he h2
  go_enter Tryz.func163, Tryz.ntmps163
  go_wp2_with fail
  refine hck.mono ?_
  rintro r w1 ⟨rfl, rfl⟩
  clear hck
  go_wp2
  go_ret2
  exact ⟨rfl, rfl⟩
section
variable {W W' : World} {p hp fp fm db : Nat} {bs : List Nat} {lv : Value} {S : Lh.Bl}
set_option maxRecDepth 100000 in
set_option maxHeartbeats 4000000 in
/-- Export, at an epoch that can be told. -/
theorem export_good (a : Nat → Addr) (he : EC a W) (h : BR W p hp fp fm db bs lv S) (hk : Lh.BOk S) (hep : S.ep < 1099511627776) :
    Calls Tryz.prog 105 #[.pointer (some ⟨p, 0, none⟩)] W fun e w' => e = .returned (.tuple #[.string (Lh.bt (Lh.textL (S.ep + 1).toNat S.L)), .nilIface]) ∧ BR w' p hp fp fm db bs lv { S with ep := S.ep + 1 } ∧ Tur (BFt p hp fp fm db bs lv) W w' := by
  have HH : Hid (BR W p hp fp fm db bs lv S) := h
  have h0 := hk.ep0
  have hlen : S.L.length ≤ 200 := hk.ok.len
  have HLI : Hid (∀ w', Below W.heap.size W w' → Calls Tryz.prog 161 #[.pointer (some ⟨fp, 0, none⟩)] w' fun e w'' => ∃ v, e = .returned v ∧ Flows1 w'' v S.L ∧ Below W.heap.size W w'') := fun w' hb => (listF_flows (h.later hb).f hk.ok.rise (by omega)).mono fun _ _ ⟨v, q1, q2, q3⟩ => ⟨v, q1, q2, below_then hb q3⟩
  have HTX : Hid (∀ w' v, Below W.heap.size W w' → Flows1 w' v S.L → Calls Tryz.prog 163 #[.int .i64 (S.ep + 1), v] w' fun r w'' => r = .returned (.tuple #[.string (Lh.bt (Lh.textL (S.ep + 1).toNat S.L)), .nilIface]) ∧ Below W.heap.size W w'') := fun w' v hb hv => (text_carry (S.ep + 1) v S.L w' (he.later hb) hv (by omega) (flIn_of hk)).mono fun _ _ ⟨c, pl, q1, q2, q3⟩ => by
    obtain ⟨rfl, rfl⟩ := caF_one q1 (caF_of hk (by omega) (by omega))
    rcases q3 with ⟨_, rfl⟩ | ⟨h, _⟩
    · exact ⟨rfl, below_then hb q2⟩
    · exact absurd rfl h
  have hw : IntKind.i64.wrap (S.ep + 1) = S.ep + 1 := by simp [IntKind.wrap, IntKind.signed, IntKind.bits]; omega
  have H2 : Hid (∀ w', Below W.heap.size W w' → w'.cell? ⟨p, 2, none⟩ = some (.pointer (some ⟨fp, 0, none⟩))) := fun w' hb => (h.later hb).c2
  have H4 : Hid (∀ w', Below W.heap.size W w' → w'.cell? ⟨p, 4, none⟩ = some (.int .i64 S.ep)) := fun w' hb => (h.later hb).c4
  have hp4 : W.frozen? ⟨p, 4, none⟩ = false := h.fz 4
  have hpl := h.plt
  clear he h hk
  generalize Lh.bt (Lh.textL (S.ep + 1).toNat S.L) = tx at *
  go_enter Tryz.func105, Tryz.ntmps105
  go_wp2_with fail
  go_region_held3 (fun w' => Below W.heap.size W w' ∧ w'.cell? ⟨p, 2, none⟩ = some (.pointer (some ⟨fp, 0, none⟩)) ∧ w'.cell? ⟨p, 4, none⟩ = some (.int .i64 S.ep))
    (first | exact ⟨by assumption, H2.out _ (by assumption), H4.out _ (by assumption)⟩ | exact ⟨below_drewN (Below.refl _ _) 1, H2.out _ (below_drewN (Below.refl _ _) 1), H4.out _ (below_drewN (Below.refl _ _) 1)⟩)
    (first
      | (go_at_call 161; refine (HLI.out _ (by first | assumption | exact below_drewN (Below.refl _ _) 1)).mono ?_; rintro e w1 ⟨v, rfl, hv, hb1⟩)
      | (go_at_call 163; refine (HTX.out _ _ (by assumption) (by assumption)).mono ?_; rintro e w2 ⟨rfl, hb2⟩))
  all_goals
    have hB := HH.out.later hb2
    have HB : Hid (BR w2 p hp fp fm db bs lv S) := hB
    have c4 := hB.c4
    have f4 := hB.fz 4
    have HB2 : Hid (Below W.heap.size W w2) := hb2
    clear hB
    go_wp2
    go_ret2
    exact ⟨rfl, HB.out.epoch _, (Tur.of_below HB2.out).setCell _ (Or.inl (Or.inl rfl)) _⟩

set_option maxRecDepth 100000 in
set_option maxHeartbeats 4000000 in
/-- Export, at the last epoch. -/
theorem export_bad (a : Nat → Addr) (he : EC a W) (h : BR W p hp fp fm db bs lv S) (hk : Lh.BOk S) (hep : ¬ S.ep < 1099511627776) :
    Calls Tryz.prog 105 #[.pointer (some ⟨p, 0, none⟩)] W fun e w' => e = .returned (.tuple #[.string ByteArray.empty, .iface 378 (.pointer (some (a 1)))]) ∧ Below W.heap.size W w' := by
  have h1 := hk.ep1
  have hlen : S.L.length ≤ 200 := hk.ok.len
  have HLI : Hid (∀ w', Below W.heap.size W w' → Calls Tryz.prog 161 #[.pointer (some ⟨fp, 0, none⟩)] w' fun e w'' => ∃ q c, e = .returned (.slice q S.L.length c) ∧ Below W.heap.size W w'') := fun w' hb => (listF_flows (h.later hb).f hk.ok.rise (by omega)).mono fun _ _ ⟨v, q1, q2, q3⟩ => by
    obtain ⟨q, c, rfl⟩ := q2.shape
    exact ⟨q, c, q1, below_then hb q3⟩
  have HTX : Hid (∀ w' q c, Below W.heap.size W w' → Calls Tryz.prog 163 #[.int .i64 (S.ep + 1), .slice q S.L.length c] w' fun r w'' => r = .returned (.tuple #[.string ByteArray.empty, .iface 378 (.pointer (some (a 1)))]) ∧ Below W.heap.size W w'') := fun w' q c hb => (text_bound (S.ep + 1) q _ c w' (he.later hb) (by omega)).mono fun _ _ ⟨q1, q2⟩ => by
    subst q2
    exact ⟨q1, hb⟩
  have hw : IntKind.i64.wrap (S.ep + 1) = S.ep + 1 := by simp [IntKind.wrap, IntKind.signed, IntKind.bits]; omega
  have H2 : Hid (∀ w', Below W.heap.size W w' → w'.cell? ⟨p, 2, none⟩ = some (.pointer (some ⟨fp, 0, none⟩))) := fun w' hb => (h.later hb).c2
  have H4 : Hid (∀ w', Below W.heap.size W w' → w'.cell? ⟨p, 4, none⟩ = some (.int .i64 S.ep)) := fun w' hb => (h.later hb).c4
  clear he h hk
  go_enter Tryz.func105, Tryz.ntmps105
  go_wp2_with fail
  go_region_held3 (fun w' => Below W.heap.size W w' ∧ w'.cell? ⟨p, 2, none⟩ = some (.pointer (some ⟨fp, 0, none⟩)) ∧ w'.cell? ⟨p, 4, none⟩ = some (.int .i64 S.ep))
    (first | exact ⟨by assumption, H2.out _ (by assumption), H4.out _ (by assumption)⟩ | exact ⟨below_drewN (Below.refl _ _) 1, H2.out _ (below_drewN (Below.refl _ _) 1), H4.out _ (below_drewN (Below.refl _ _) 1)⟩)
    (first
      | (go_at_call 161; refine (HLI.out _ (by first | assumption | exact below_drewN (Below.refl _ _) 1)).mono ?_; rintro e w1 ⟨q, c, rfl, hb1⟩)
      | (go_at_call 163; refine (HTX.out _ _ _ (by assumption)).mono ?_; rintro e w2 ⟨rfl, hb2⟩))
  all_goals
    go_wp2
    go_ret2
    exact ⟨rfl, hb2⟩
end
end Go.Proofs.YtfhmfjcpggddkaaGreatDoor

/- The landed flows: Add. -/
namespace Go.Proofs.YtfhmfjcpggddkaaGreatDoor
open Go.RowKit Go.Maps Go.ChangeMaps Go.Shelf
section
variable {W W' : World} {p mb t : Nat} {la : Int} {L : List Lh.Fl}

/-- a row's cells, where other blocks have turned -/
theorem Tur.cell {F : Nat → Prop} {w w' : World} (h : Tur F w w') {b i : Nat} {v : Value} (hf : ¬ F b) (hc : w.cell? ⟨b, i, none⟩ = some v) : w'.cell? ⟨b, i, none⟩ = some v := by
  have hlt : b < w.heap.size := World.block_lt_of_cell? w ⟨b, i, none⟩ hc
  rw [World.cell?_of_block (w := w) (w' := w') (a := ⟨b, i, none⟩) (h.block b hlt hf)]
  exact hc

end
end Go.Proofs.YtfhmfjcpggddkaaGreatDoor

/- The landed balance keeps its contracts. -/
namespace Go.Proofs.YtfhmfjcpggddkaaGreatDoor
open Go.RowKit

theorem look_bal (a : Nat → Addr) (S : Lh.Bl) (F : Nat → Prop) (p : Nat) (s : ByteArray) (well : Bool) (W : World) (he : EB a W) (hR : RepB S F p W) (hk : Lh.BOk S) :
    Calls Tryz.prog 48 #[.pointer (some ⟨p, 0, none⟩), .string s, .bool well] W fun e W' => ∃ F' S' turned c ev, (∀ b, F' b → F b ∨ W.heap.size ≤ b) ∧ Tur F W W' ∧ e = .returned (.tuple #[.bool turned, ev]) ∧ EvOf a c ev ∧ LookR S s well S' turned c ∧ RepB S' F' p W' := by
  obtain ⟨hp, fp, fm, db, bs, lv, h, rfl, hg⟩ := hR
  by_cases hx : Lh.hix S.hs s < S.hs.length
  · refine (look_good a he.e5.four h hk s well hx).mono ?_
    rintro e W' ⟨rfl, hB, hT⟩
    exact ⟨_, _, _, 0, _, fun b hb => Or.inl hb, hT, rfl, Or.inl ⟨rfl, rfl⟩, Or.inl ⟨hx, rfl, rfl, rfl⟩, hp, fp, fm, db, bs, lv, hB, rfl, hg⟩
  · refine (look_none a he.e5.four h hk s well hx).mono ?_
    rintro e W' ⟨rfl, hB, hT⟩
    exact ⟨_, S, false, 5, _, fun b hb => Or.inl hb, hT.health, rfl, Or.inr ⟨4, rfl, rfl⟩, Or.inr ⟨hx, rfl, rfl, rfl⟩, hp, fp, fm, db, bs, lv, hB, rfl, hg⟩
theorem export_bal (a : Nat → Addr) (S : Lh.Bl) (F : Nat → Prop) (p : Nat) (W : World) (hx : EC a W) (hR : RepB S F p W) (hk : Lh.BOk S) :
    Calls Tryz.prog 105 #[.pointer (some ⟨p, 0, none⟩)] W fun e W' => ∃ F' S' s c ev, (∀ b, F' b → F b ∨ W.heap.size ≤ b) ∧ Tur F W W' ∧ e = .returned (.tuple #[.string s, ev]) ∧ EvOf a c ev ∧ ExportR S S' s c ∧ RepB S' F' p W' := by
  obtain ⟨hp, fp, fm, db, bs, lv, h, rfl, hg⟩ := hR
  by_cases hep : S.ep < 1099511627776
  · refine (export_good a hx h hk hep).mono ?_
    rintro e W' ⟨rfl, hB, hT⟩
    exact ⟨_, _, _, 0, _, fun b hb => Or.inl hb, hT, rfl, Or.inl ⟨rfl, rfl⟩, Or.inl ⟨hep, rfl, rfl, rfl⟩, hp, fp, fm, db, bs, lv, hB, rfl, hg⟩
  · refine (export_bad a hx h hk hep).mono ?_
    rintro e W' ⟨rfl, hb⟩
    exact ⟨_, S, ByteArray.empty, 2, _, fun b hb => Or.inl hb, Tur.of_below hb, rfl, Or.inr ⟨1, rfl, rfl⟩, Or.inr ⟨hep, rfl, rfl, rfl⟩, hp, fp, fm, db, bs, lv, h.later hb, rfl, hg⟩
end Go.Proofs.YtfhmfjcpggddkaaGreatDoor

/- The landed script: a player in memory. -/
namespace Go.Proofs.YtfhmfjcpggddkaaGreatDoor
open Go.RowKit Lh

/-- what a script asks of the variables -/
structure EA (a : Nat → Addr) (W : World) : Prop where
  b : EB a W
  c : EC a W
  t : ErrT a W
theorem EA.later {a : Nat → Addr} {W W' : World} (h : EA a W) (hb : Below W.heap.size W W') : EA a W' := ⟨h.b.later hb, h.c.later hb, h.t.later hb⟩
theorem EA.e4 {a : Nat → Addr} {W : World} (h : EA a W) : Errs4 a W := h.b.e5.four
/-- hosts that are spoken of, and a balance of them -/
structure PlY (S : Sc) (F : Nat → Prop) (p r g cap : Nat) (W : World) : Prop where
  c0 : W.cell? ⟨p, 0, none⟩ = some (.pointer (some ⟨r, 0, none⟩))
  c1 : W.cell? ⟨p, 1, none⟩ = some (.slice (some ⟨g, 0, none⟩) S.hosts.length cap)
  c2 : W.cell? ⟨p, 2, none⟩ = some (.int .i64 S.now)
  rep : RepB S.b F r W
  hst : ∀ k (h : k < S.hosts.length), W.cell? ⟨g, k, none⟩ = some (.string S.hosts[k])
  cp : S.hosts.length ≤ cap
  gF : ¬ F g
  gp : g ≠ p
  gl : p + 3 < g
/-- no hosts yet -/
structure PlN (p : Nat) (W : World) : Prop where
  c0 : W.cell? ⟨p, 0, none⟩ = some (.pointer none)
  c1 : W.cell? ⟨p, 1, none⟩ = some (.slice none 0 0)
  c2 : W.cell? ⟨p, 2, none⟩ = some (.int .i64 0)
/-- what stays of a player: its commands, and what is known of memory -/
structure PlC (w0 : World) (a : Nat → Addr) (p q m : Nat) (F : Nat → Prop) (W : World) : Prop where
  e : EA a w0
  b : Below w0.heap.size w0 W
  map : MapIs W m (cmTab q)
  q0 : W.cell? ⟨q, 0, none⟩ = some (.pointer (some ⟨p, 0, none⟩))
  pK : w0.heap.size ≤ p
  qp : q ≠ p
  mp : m ≠ p
  pl : p < W.heap.size
  pl3 : p + 3 < W.heap.size
  fz : ∀ k, W.frozen? ⟨p, k, none⟩ = false
  F0 : ∀ b, F b → w0.heap.size ≤ b ∧ b ≠ p ∧ b ≠ q ∧ b ≠ m
/-- a player -/
def PlIs (st : Option Sc) (F : Nat → Prop) (p : Nat) (W : World) : Prop := (st = none ∧ PlN p W) ∨ ∃ S r g cap, st = some S ∧ PlY S F p r g cap W
section
variable {w0 W W' : World} {a : Nat → Addr} {p q m r g cap : Nat} {F F' : Nat → Prop} {S : Sc}
theorem foot_cellS {F : Nat → Prop} (hT : Tur F W W') {b i : Nat} {v : Value} (hx : ¬ F b) (h : W.cell? ⟨b, i, none⟩ = some v) : W'.cell? ⟨b, i, none⟩ = some v :=
  (World.cell?_of_block (w := W) (w' := W') (a := ⟨b, i, none⟩) (hT.block b (World.block_lt_of_cell? W _ h) hx)).trans h
theorem PlC.ea (h : PlC w0 a p q m F W) : EA a W := h.e.later h.b
/-- what is turned is the balance's, or the player's own block -/
theorem PlC.tur (h : PlC w0 a p q m F W) (hT : Tur (fun b => F b ∨ b = p) W W') (hF : ∀ b, F' b → F b ∨ W.heap.size ≤ b) (hz : ∀ k, W'.frozen? ⟨p, k, none⟩ = false) : PlC w0 a p q m F' W' := by
  have hm := h.map.lt
  have hq := World.block_lt_of_cell? W _ h.q0
  simp only at hq
  have hs := h.b.size
  refine ⟨h.e, hT.below (fun b hb => ?_) h.b (Nat.le_refl _), h.map.same (hT.block m hm fun hf => ?_), ?_, h.pK, h.qp, h.mp, Nat.lt_of_lt_of_le h.pl hT.size, Nat.lt_of_lt_of_le h.pl3 hT.size, hz, fun b hb => ?_⟩
  · rcases hb with hb | rfl
    · exact (h.F0 b hb).1
    · exact h.pK
  · rcases hf with hf | hf
    · exact (h.F0 m hf).2.2.2 rfl
    · exact h.mp hf
  · refine (World.cell?_of_block (w := W) (w' := W') (a := ⟨q, 0, none⟩) (hT.block q hq fun hf => ?_)).trans h.q0
    rcases hf with hf | hf
    · exact (h.F0 q hf).2.2.1 rfl
    · exact h.qp hf
  · have hpl := h.pl
    rcases hF b hb with hb | hb
    · exact h.F0 b hb
    · exact ⟨by omega, by omega, by omega, by omega⟩
theorem PlC.later (h : PlC w0 a p q m F W) (hb : Below W.heap.size W W') : PlC w0 a p q m F W' :=
  h.tur (Tur.of_below hb) (fun _ hb => Or.inl hb) fun k => (World.frozen?_of_block (w := W) (w' := W') (a := ⟨p, k, none⟩) (hb.block p h.pl)).trans (h.fz k)
theorem PlY.glt (h : PlY S F p r g cap W) (hn : S.hosts ≠ []) : g < W.heap.size := World.block_lt_of_cell? W _ (h.hst 0 (List.length_pos_iff.2 hn))
theorem PlY.strs (h : PlY S F p r g cap W) : Strs1 W (.slice (some ⟨g, 0, none⟩) S.hosts.length cap) S.hosts := Or.inr ⟨g, 0, cap, rfl, h.cp, fun k hk => by rw [Nat.zero_add]; exact h.hst k hk⟩
/-- only the balance's blocks are turned -/
theorem PlY.turned (h : PlY S F p r g cap W) (hp : ¬ F p) (hn : S.hosts ≠ []) (hT : Tur F W W') (hF : ∀ b, F' b → F b ∨ W.heap.size ≤ b) {b' : Bl} (hR : RepB b' F' r W') : PlY { S with b := b' } F' p r g cap W' := by
  have hg := h.glt hn
  refine ⟨foot_cellS hT hp h.c0, foot_cellS hT hp h.c1, foot_cellS hT hp h.c2, hR, fun k hk => foot_cellS hT h.gF (h.hst k hk), h.cp, fun hf => ?_, h.gp, h.gl⟩
  rcases hF g hf with q | q
  · exact h.gF q
  · omega
theorem PlY.later (h : PlY S F p r g cap W) (hp : ¬ F p) (hn : S.hosts ≠ []) (hb : Below W.heap.size W W') : PlY S F p r g cap W' :=
  h.turned hp hn (Tur.of_below hb) (fun _ hb => Or.inl hb) (h.rep.stay fun b hf => hb.block b (h.rep.lt b hf))
theorem PlN.later (h : PlN p W) (hb : Below W.heap.size W W') : PlN p W' := ⟨below_cell hb h.c0, below_cell hb h.c1, below_cell hb h.c2⟩
end
end Go.Proofs.YtfhmfjcpggddkaaGreatDoor

/- What the laws of a script ask of the landed package. -/
namespace Go.Proofs.YtfhmfjcpggddkaaGreatDoor
open Go.RowKit Lh

/-- The landed package's contract. -/
structure ScriptC where
  E : (Nat → Addr) → World → Prop
  eLater : ∀ {a : Nat → Addr} {W W' : World}, E a W → Below W.heap.size W W' → E a W'
  nw : List ByteArray → Nat → Nat → ByteArray
  nwIn : ∀ {xs : List ByteArray} {n : Nat} (k : Nat), xs ≠ [] → Lh.Prm n → nw xs n k ∈ xs
  run : ∀ (a : Nat → Addr) (v : Value) (ls : List ByteArray) (W : World), E a W → Strs1 W v ls → ls.length ≤ 100 → (∀ s ∈ ls, s.size ≤ 5000) →
    Calls Tryz.prog 7 #[v] W fun e W' => ∃ (rs : List (List UInt8)) (st : Option Sc) (v' : Value), e = .returned (.tuple #[v', .nilIface]) ∧ Strs1 W' v' (rs.map bt) ∧ LinesR nw none (ls.map tx) rs st ∧ Below W.heap.size W W'
  many : ∀ (a : Nat → Addr) (v : Value) (ls : List ByteArray) (W : World), E a W → Strs1 W v ls → 100 < ls.length → ls.length ≤ 1000 →
    Calls Tryz.prog 7 #[v] W fun e W' => ∃ p c, e = .returned (.tuple #[.slice p 0 c, .iface 378 (.pointer (some (a 1)))]) ∧ Below W.heap.size W W'
/-- the first lines of all -/
def helloL : List (List UInt8) := [[117, 112], [104, 111, 115, 116, 115, 32, 120], [112, 105, 99, 107, 32, 53], [112, 105, 99, 107, 32, 53], [117, 112]]
def helloA : List (List UInt8) := [errT 5, tOk, [120] ++ tNew, [120] ++ tKept, [120]]
def nX : ByteArray := bt [120]
theorem cm_up : cmOf [117, 112] = some ⟨wUp, [], []⟩ := by rfl
theorem cm_hosts : cmOf [104, 111, 115, 116, 115, 32, 120] = some ⟨wHosts, [nX], []⟩ := by rfl
theorem cm_pick : cmOf [112, 105, 99, 107, 32, 53] = some ⟨wPick, [], [5]⟩ := by rfl
end Go.Proofs.YtfhmfjcpggddkaaGreatDoor

/- The law's small functions: forms of commands, texts of errors. -/
namespace Go.Proofs.YtfhmfjcpggddkaaGreatDoor
open Go.RowKit Lh

theorem word_is {s : ByteArray} {w : List UInt8} (h : tx s = w) : (s.toList == w) = true := by
  subst h
  rw [beq_iff_eq]
  exact ByteArray.toList_eq s
theorem word_not {s : ByteArray} {w : List UInt8} (h : tx s ≠ w) : (s.toList == w) = false := by
  rw [beq_eq_false_iff_ne]
  intro e
  exact h (by rw [← e]; exact (ByteArray.toList_eq s).symm)
set_option maxRecDepth 100000 in
set_option maxHeartbeats 4000000 in
theorem formOf_any (s : ByteArray) (W : World) :
    Calls Tryz.prog 9 #[.string s] W fun e w' => ∃ h n is, e = .returned (.tuple #[.int .i64 h, .int .i64 ((n : Nat) : Int), .bool is]) ∧ ((is = true ∧ formW (tx s) = some (h, n)) ∨ (is = false ∧ formW (tx s) = none)) ∧ Below W.heap.size W w' := by
  by_cases h0 : tx s = wHosts
  · have q0 := word_is h0
    unfold wHosts at q0
    have HF : Hid (formW (tx s) = some (-1, 0)) := by
      show _ = _
      rw [h0]
      decide
    clear h0
    go_enter Tryz.func9, Tryz.ntmps9
    go_wp2
    go_ret3
    exact ⟨(-1), 0, true, rfl, Or.inl ⟨rfl, HF.out⟩, Below.refl _ _⟩
  have q0 := word_not h0
  unfold wHosts at q0
  by_cases h1 : tx s = wMoves
  · have q1 := word_is h1
    unfold wMoves at q1
    have HF : Hid (formW (tx s) = some (-1, 1)) := by
      show _ = _
      rw [h1]
      decide
    clear h1
    go_enter Tryz.func9, Tryz.ntmps9
    go_wp2
    go_ret3
    exact ⟨(-1), 1, true, rfl, Or.inl ⟨rfl, HF.out⟩, Below.refl _ _⟩
  have q1 := word_not h1
  unfold wMoves at q1
  by_cases h2 : tx s = wTable
  · have q2 := word_is h2
    unfold wTable at q2
    have HF : Hid (formW (tx s) = some (0, 1)) := by
      show _ = _
      rw [h2]
      decide
    clear h2
    go_enter Tryz.func9, Tryz.ntmps9
    go_wp2
    go_ret3
    exact ⟨0, 1, true, rfl, Or.inl ⟨rfl, HF.out⟩, Below.refl _ _⟩
  have q2 := word_not h2
  unfold wTable at q2
  by_cases h3 : tx s = wRival
  · have q3 := word_is h3
    unfold wRival at q3
    have HF : Hid (formW (tx s) = some (0, 1)) := by
      show _ = _
      rw [h3]
      decide
    clear h3
    go_enter Tryz.func9, Tryz.ntmps9
    go_wp2
    go_ret3
    exact ⟨0, 1, true, rfl, Or.inl ⟨rfl, HF.out⟩, Below.refl _ _⟩
  have q3 := word_not h3
  unfold wRival at q3
  by_cases h4 : tx s = wPick
  · have q4 := word_is h4
    unfold wPick at q4
    have HF : Hid (formW (tx s) = some (0, 1)) := by
      show _ = _
      rw [h4]
      decide
    clear h4
    go_enter Tryz.func9, Tryz.ntmps9
    go_wp2
    go_ret3
    exact ⟨0, 1, true, rfl, Or.inl ⟨rfl, HF.out⟩, Below.refl _ _⟩
  have q4 := word_not h4
  unfold wPick at q4
  by_cases h5 : tx s = wTick
  · have q5 := word_is h5
    unfold wTick at q5
    have HF : Hid (formW (tx s) = some (0, 1)) := by
      show _ = _
      rw [h5]
      decide
    clear h5
    go_enter Tryz.func9, Tryz.ntmps9
    go_wp2
    go_ret3
    exact ⟨0, 1, true, rfl, Or.inl ⟨rfl, HF.out⟩, Below.refl _ _⟩
  have q5 := word_not h5
  unfold wTick at q5
  by_cases h6 : tx s = wRing
  · have q6 := word_is h6
    unfold wRing at q6
    have HF : Hid (formW (tx s) = some (0, 2)) := by
      show _ = _
      rw [h6]
      decide
    clear h6
    go_enter Tryz.func9, Tryz.ntmps9
    go_wp2
    go_ret3
    exact ⟨0, 2, true, rfl, Or.inl ⟨rfl, HF.out⟩, Below.refl _ _⟩
  have q6 := word_not h6
  unfold wRing at q6
  by_cases h7 : tx s = wJump
  · have q7 := word_is h7
    unfold wJump at q7
    have HF : Hid (formW (tx s) = some (0, 2)) := by
      show _ = _
      rw [h7]
      decide
    clear h7
    go_enter Tryz.func9, Tryz.ntmps9
    go_wp2
    go_ret3
    exact ⟨0, 2, true, rfl, Or.inl ⟨rfl, HF.out⟩, Below.refl _ _⟩
  have q7 := word_not h7
  unfold wJump at q7
  by_cases h8 : tx s = wLook
  · have q8 := word_is h8
    unfold wLook at q8
    have HF : Hid (formW (tx s) = some (1, 1)) := by
      show _ = _
      rw [h8]
      decide
    clear h8
    go_enter Tryz.func9, Tryz.ntmps9
    go_wp2
    go_ret3
    exact ⟨1, 1, true, rfl, Or.inl ⟨rfl, HF.out⟩, Below.refl _ _⟩
  have q8 := word_not h8
  unfold wLook at q8
  by_cases h9 : tx s = wDrain
  · have q9 := word_is h9
    unfold wDrain at q9
    have HF : Hid (formW (tx s) = some (1, 1)) := by
      show _ = _
      rw [h9]
      decide
    clear h9
    go_enter Tryz.func9, Tryz.ntmps9
    go_wp2
    go_ret3
    exact ⟨1, 1, true, rfl, Or.inl ⟨rfl, HF.out⟩, Below.refl _ _⟩
  have q9 := word_not h9
  unfold wDrain at q9
  by_cases h10 : tx s = wUp
  · have q10 := word_is h10
    unfold wUp at q10
    have HF : Hid (formW (tx s) = some (0, 0)) := by
      show _ = _
      rw [h10]
      decide
    clear h10
    go_enter Tryz.func9, Tryz.ntmps9
    go_wp2
    go_ret3
    exact ⟨0, 0, true, rfl, Or.inl ⟨rfl, HF.out⟩, Below.refl _ _⟩
  have q10 := word_not h10
  unfold wUp at q10
  by_cases h11 : tx s = wFlows
  · have q11 := word_is h11
    unfold wFlows at q11
    have HF : Hid (formW (tx s) = some (0, 0)) := by
      show _ = _
      rw [h11]
      decide
    clear h11
    go_enter Tryz.func9, Tryz.ntmps9
    go_wp2
    go_ret3
    exact ⟨0, 0, true, rfl, Or.inl ⟨rfl, HF.out⟩, Below.refl _ _⟩
  have q11 := word_not h11
  unfold wFlows at q11
  by_cases h12 : tx s = wExport
  · have q12 := word_is h12
    unfold wExport at q12
    have HF : Hid (formW (tx s) = some (0, 0)) := by
      show _ = _
      rw [h12]
      decide
    clear h12
    go_enter Tryz.func9, Tryz.ntmps9
    go_wp2
    go_ret3
    exact ⟨0, 0, true, rfl, Or.inl ⟨rfl, HF.out⟩, Below.refl _ _⟩
  have q12 := word_not h12
  unfold wExport at q12
  have HF : Hid (formW (tx s) = none) := by
    show _ = _
    unfold formW
    simp only [h0, h1, h2, h3, h4, h5, h6, h7, h8, h9, h10, h11, h12, if_false, or_self]
  clear h0 h1 h2 h3 h4 h5 h6 h7 h8 h9 h10 h11 h12
  go_enter Tryz.func9, Tryz.ntmps9
  go_wp2
  go_ret3
  exact ⟨0, 0, false, rfl, Or.inr ⟨rfl, HF.out⟩, Below.refl _ _⟩
end Go.Proofs.YtfhmfjcpggddkaaGreatDoor

/- The law's small functions: errors' texts, texts put together. -/
namespace Go.Proofs.YtfhmfjcpggddkaaGreatDoor
open Go.RowKit Lh

theorem coded3_any {a : Nat → Addr} {W : World} (he : Errs a W) : Calls Tryz.prog 8 #[.iface 378 (.pointer (some (a 1))), .int .i64 2] W fun e w' => e = .returned (.bool true) ∧ Below W.heap.size W w' := by
  have hc := code_is (c := 2) (pl := -1) he (Or.inr ⟨1, by decide, rfl, Or.inl ⟨rfl, rfl⟩⟩)
  clear he
  go_enter Tryz.func8, Tryz.ntmps8
  go_wp2_with fail
  refine hc.mono ?_
  rintro e w1 ⟨rfl, hb1⟩
  clear hc
  go_wp2
  go_ret
  exact ⟨rfl, hb1⟩
set_option maxRecDepth 100000 in
set_option maxHeartbeats 2000000 in
theorem errorText_any (c : Nat) (h1 : 1 ≤ c) (h9 : c ≤ 9) (W : World) : Calls Tryz.prog 10 #[.int .i64 (c : Nat)] W fun e w' => e = .returned (.string (bt (errT c))) ∧ Below W.heap.size W w' := by
  have hb : ∀ o : Obj, Below W.heap.size W (W.alloc o) := fun o => (Below.refl _ _).alloc (Nat.le_refl _) o
  have hc : c = 1 ∨ c = 2 ∨ c = 3 ∨ c = 4 ∨ c = 5 ∨ c = 6 ∨ c = 7 ∨ c = 8 ∨ c = 9 := by omega
  clear h1 h9
  rcases hc with rfl | rfl | rfl | rfl | rfl | rfl | rfl | rfl | rfl
  all_goals
    go_enter Tryz.func10, Tryz.ntmps10
    go_wp2
    go_ret
    exact ⟨rfl, hb _⟩
end Go.Proofs.YtfhmfjcpggddkaaGreatDoor
