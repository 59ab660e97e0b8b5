/- The landed balance keeps its contracts. -/
import Derived.Test.YtmdckddenelneaaGreatDoorM28
import Derived.Test.YtmdckddenelneaaGreatDoorM40
import Derived.Test.YtmdckddenelneaaGreatDoorM30
namespace Go.Proofs.YtmdckddenelneaaGreatDoor
open Go.RowKit

theorem look_bal (a : Nat → Addr) (S : Lh.Bl) (F : Nat → Prop) (p : Nat) (s : ByteArray) (well : Bool) (W : World) (he : EB a W) (hR : RepB S F p W) (hk : Lh.BOk S) :
    Calls Tryz.prog 81 #[.pointer (some ⟨p, 0, none⟩), .string s, .bool well] W fun e W' => ∃ F' S' turned c ev, (∀ b, F' b → F b ∨ W.heap.size ≤ b) ∧ Tur F W W' ∧ e = .returned (.tuple #[.bool turned, ev]) ∧ EvOf a c ev ∧ LookR S s well S' turned c ∧ RepB S' F' p W' := by
  obtain ⟨hp, fp, fm, db, bs, lv, h, rfl, hg⟩ := hR
  by_cases hx : Lh.hix S.hs s < S.hs.length
  · refine (look_good a he.e5.four h hk s well hx).mono ?_
    rintro e W' ⟨rfl, hB, hT⟩
    exact ⟨_, _, _, 0, _, fun b hb => Or.inl hb, hT, rfl, Or.inl ⟨rfl, rfl⟩, Or.inl ⟨hx, rfl, rfl, rfl⟩, hp, fp, fm, db, bs, lv, hB, rfl, hg⟩
  · refine (look_none a he.e5.four h hk s well hx).mono ?_
    rintro e W' ⟨rfl, hB, hT⟩
    exact ⟨_, S, false, 5, _, fun b hb => Or.inl hb, hT.health, rfl, Or.inr ⟨4, rfl, rfl⟩, Or.inr ⟨hx, rfl, rfl, rfl⟩, hp, fp, fm, db, bs, lv, hB, rfl, hg⟩
theorem export_bal (a : Nat → Addr) (S : Lh.Bl) (F : Nat → Prop) (p : Nat) (W : World) (hx : EC a W) (hR : RepB S F p W) (hk : Lh.BOk S) :
    Calls Tryz.prog 114 #[.pointer (some ⟨p, 0, none⟩)] W fun e W' => ∃ F' S' s c ev, (∀ b, F' b → F b ∨ W.heap.size ≤ b) ∧ Tur F W W' ∧ e = .returned (.tuple #[.string s, ev]) ∧ EvOf a c ev ∧ ExportR S S' s c ∧ RepB S' F' p W' := by
  obtain ⟨hp, fp, fm, db, bs, lv, h, rfl, hg⟩ := hR
  by_cases hep : S.ep < 1099511627776
  · refine (export_good a hx h hk hep).mono ?_
    rintro e W' ⟨rfl, hB, hT⟩
    exact ⟨_, _, _, 0, _, fun b hb => Or.inl hb, hT, rfl, Or.inl ⟨rfl, rfl⟩, Or.inl ⟨hep, rfl, rfl, rfl⟩, hp, fp, fm, db, bs, lv, hB, rfl, hg⟩
  · refine (export_bad a hx h hk hep).mono ?_
    rintro e W' ⟨rfl, hb⟩
    exact ⟨_, S, ByteArray.empty, 2, _, fun b hb => Or.inl hb, Tur.of_below hb, rfl, Or.inr ⟨1, rfl, rfl⟩, Or.inr ⟨hep, rfl, rfl, rfl⟩, hp, fp, fm, db, bs, lv, h.later hb, rfl, hg⟩
theorem import_bal (a : Nat → Addr) (S : Lh.Bl) (F : Nat → Prop) (p : Nat) (s : List UInt8) (now : Int) (W : World) (he : EB a W) (hx : EC a W) (hR : RepB S F p W) (hk : Lh.BOk S) (hs : s.length ≤ 30000) :
    Calls Tryz.prog 115 #[.pointer (some ⟨p, 0, none⟩), .string (Lh.bt s), .int .i64 now] W fun e W' => ∃ F' S' n c pl ev, (∀ b, F' b → F b ∨ W.heap.size ≤ b) ∧ Tur F W W' ∧ e = .returned (.tuple #[.int .i64 ((n : Nat) : Int), ev]) ∧ ErrIs a W' c pl ev ∧ ImportR S s now S' n c pl ∧ RepB S' F' p W' := by
  obtain ⟨hp, fp, fm, db, bs, lv, h, rfl, hg⟩ := hR
  refine (import_any a he hx h hk s now hs).mono ?_
  rintro e W' ⟨S', n, c, pl, ev, rfl, hev, hI, hB, hT⟩
  exact ⟨_, S', n, c, pl, ev, fun b hb => Or.inl hb, hT, rfl, hev, hI, hp, fp, fm, db, bs, lv, hB, rfl, hg⟩
end Go.Proofs.YtmdckddenelneaaGreatDoor

/- A play: two balances, a tick, a script. -/
namespace Go.Proofs.YtmdckddenelneaaGreatDoor
open Go.RowKit

/-- the two, and the tick -/
structure Lh.Duo where
  A : Lh.Bl
  B : Lh.Bl
  now : Int
def Lh.Duo.sel (D : Lh.Duo) (b : Bool) : Lh.Bl := if b then D.B else D.A
def Lh.Duo.put (D : Lh.Duo) (b : Bool) (S : Lh.Bl) : Lh.Duo := if b then { D with B := S } else { D with A := S }
def duoB : Lh.Bl := ⟨2, 2, 31, 20, Lh.hnew four, [], 0, 0, []⟩
/-- what a number does, by what is left of it modulo 8 -/
def StepR (nw : List ByteArray → Nat → Nat → ByteArray) (D : Lh.Duo) (n : Nat) (D' : Lh.Duo) (e : Nat) : Prop :=
  ∃ q b host is, q = n / 8 ∧ b = decide (q % 2 = 1) ∧ host = four.getD (q / 2 % 4) ByteArray.empty ∧ is = decide (q / 8 % 2 = 1) ∧
    ((n % 8 ≤ 2 ∧ ∃ S' s kept, PickR nw (D.sel b) (q / 2) D.now S' s kept e ∧ D' = D.put b S') ∨
     (n % 8 = 3 ∧ ∃ S' tu, LookR (D.sel b) host is S' tu e ∧ D' = D.put b S') ∨
     (n % 8 = 4 ∧ ∃ S', DrainR (D.sel b) host is S' e ∧ D' = D.put b S') ∨
     (n % 8 = 5 ∧ e = 0 ∧ D' = { D with now := D.now + 1 + ((q % 8 : Nat) : Int) }) ∨
     (n % 8 = 6 ∧ ∃ S' s c, ExportR (D.sel b) S' s c ∧ ((c ≠ 0 ∧ e = c ∧ D' = D.put b S') ∨ (c = 0 ∧ ∃ T' k pl, ImportR (D.sel !b) (Lh.textL ((D.sel b).ep + 1).toNat (D.sel b).L) D.now T' k e pl ∧ D' = (D.put b S').put (!b) T'))) ∨
     (n % 8 = 7 ∧ ∃ A' sa ka ca B' sb kb cb, PickR nw D.A 0 D.now A' sa ka ca ∧ PickR nw D.B 0 D.now B' sb kb cb ∧ e = (if ca = 0 then cb else ca) ∧ D' = { D with A := A', B := B' }))
def OneR (nw : List ByteArray → Nat → Nat → ByteArray) (D : Lh.Duo) (v : Int) (D' : Lh.Duo) (e : Int) : Prop :=
  (v < 0 ∧ D' = D ∧ e = -1) ∨ ∃ (n c : Nat), v = (n : Int) ∧ e = (c : Int) ∧ StepR nw D n D' c
def RunR (nw : List ByteArray → Nat → Nat → ByteArray) : Lh.Duo → List Int → List Int → Lh.Duo → Prop
  | D, [], es, D' => es = [] ∧ D' = D
  | D, v :: vs, es, D' => ∃ e D1 es1, OneR nw D v D1 e ∧ es = e :: es1 ∧ RunR nw D1 vs es1 D'
section
variable {nw : List ByteArray → Nat → Nat → ByteArray}
theorem pickR_one {S S1 S2 : Lh.Bl} {k : Nat} {now : Int} {s1 s2 : ByteArray} {k1 k2 : Bool} {c1 c2 : Nat} (h : PickR nw S k now S1 s1 k1 c1) (h' : PickR nw S k now S2 s2 k2 c2) : S1 = S2 ∧ c1 = c2 := by
  rcases h with ⟨j, hf, rfl, rfl, rfl, rfl⟩ | ⟨ht, hk, rfl, rfl, rfl⟩ | ⟨ht, hn, ho, rfl, rfl, rfl, rfl⟩ | ⟨ht, hn, ho, rfl, rfl, rfl, rfl⟩
  · rcases h' with ⟨j', hf', rfl, rfl, rfl, rfl⟩ | ⟨ht', _⟩ | ⟨ht', _⟩ | ⟨ht', _⟩
    · refine ⟨rfl, ?_⟩
      rcases hf with ⟨h1, rfl⟩ | ⟨h1, h2, h3, rfl⟩ <;> rcases hf' with ⟨g1, rfl⟩ | ⟨g1, g2, g3, rfl⟩ <;> first | rfl | omega
    all_goals exact (ok_not ht' hf).elim
  · obtain ⟨rfl, rfl, rfl, rfl⟩ := PickR.keep h' ht hk
    exact ⟨rfl, rfl⟩
  · rcases h' with ⟨j', hf', _⟩ | ⟨_, hk', _⟩ | ⟨_, _, _, rfl, rfl, rfl, rfl⟩ | ⟨_, _, ho', _⟩
    · exact (ok_not ht hf').elim
    · exact absurd hk' (hn _)
    · exact ⟨rfl, rfl⟩
    · exact absurd ho ho'
  · obtain ⟨rfl, rfl, rfl, rfl⟩ := PickR.new h' ht hn ho
    exact ⟨rfl, rfl⟩
theorem lookR_one {S S1 S2 : Lh.Bl} {s : ByteArray} {w t1 t2 : Bool} {c1 c2 : Nat} (h : LookR S s w S1 t1 c1) (h' : LookR S s w S2 t2 c2) : S1 = S2 ∧ c1 = c2 := by
  rcases h with ⟨hx, rfl, rfl, rfl⟩ | ⟨hx, rfl, rfl, rfl⟩ <;> rcases h' with ⟨hx', rfl, rfl, rfl⟩ | ⟨hx', rfl, rfl, rfl⟩
  · exact ⟨rfl, rfl⟩
  · exact absurd hx hx'
  · exact absurd hx' hx
  · exact ⟨rfl, rfl⟩
theorem drainR_one {S S1 S2 : Lh.Bl} {s : ByteArray} {w : Bool} {c1 c2 : Nat} (h : DrainR S s w S1 c1) (h' : DrainR S s w S2 c2) : S1 = S2 ∧ c1 = c2 := by
  rcases h with ⟨hx, rfl, rfl⟩ | ⟨hx, rfl, rfl⟩ <;> rcases h' with ⟨hx', rfl, rfl⟩ | ⟨hx', rfl, rfl⟩
  · exact ⟨rfl, rfl⟩
  · exact absurd hx hx'
  · exact absurd hx' hx
  · exact ⟨rfl, rfl⟩
theorem exportR_one {S S1 S2 : Lh.Bl} {s1 s2 : ByteArray} {c1 c2 : Nat} (h : ExportR S S1 s1 c1) (h' : ExportR S S2 s2 c2) : S1 = S2 ∧ c1 = c2 := by
  rcases h with ⟨hx, rfl, rfl, rfl⟩ | ⟨hx, rfl, rfl, rfl⟩ <;> rcases h' with ⟨hx', rfl, rfl, rfl⟩ | ⟨hx', rfl, rfl, rfl⟩
  · exact ⟨rfl, rfl⟩
  · exact absurd hx hx'
  · exact absurd hx' hx
  · exact ⟨rfl, rfl⟩
theorem importR_one {S S1 S2 : Lh.Bl} {s : List UInt8} {now : Int} {n1 n2 c1 c2 : Nat} {p1 p2 : Int} (h : ImportR S s now S1 n1 c1 p1) (h' : ImportR S s now S2 n2 c2 p2) : S1 = S2 ∧ c1 = c2 := by
  obtain ⟨e, l, c0, pl0, hr, hc⟩ := h
  obtain ⟨e', l', c0', pl0', hr', hc'⟩ := h'
  obtain ⟨rfl, rfl, rfl, rfl⟩ := readF_one hr hr'
  rcases hc with ⟨h1, rfl, rfl, rfl, rfl⟩ | ⟨h1, h2, rfl, rfl, rfl, rfl⟩ | ⟨h1, h2, j, h3, rfl, rfl, rfl, rfl⟩ | ⟨h1, h2, h3, rfl, rfl, rfl, rfl⟩ <;>
    rcases hc' with ⟨g1, rfl, rfl, rfl, rfl⟩ | ⟨g1, g2, rfl, rfl, rfl, rfl⟩ | ⟨g1, g2, j', g3, rfl, rfl, rfl, rfl⟩ | ⟨g1, g2, g3, rfl, rfl, rfl, rfl⟩
  all_goals first
    | exact ⟨rfl, rfl⟩
    | exact absurd g1 h1
    | exact absurd h1 g1
    | exact absurd h2 g2
    | exact absurd g2 h2
    | exact (ok_not g3 h3).elim
    | exact (ok_not h3 g3).elim
    | (refine ⟨rfl, ?_⟩
       rcases h3 with ⟨q1, rfl⟩ | ⟨q1, q2, q3, rfl⟩ <;> rcases g3 with ⟨r1, rfl⟩ | ⟨r1, r2, r3, rfl⟩ <;> first | rfl | omega)
theorem stepR_one {D D1 D2 : Lh.Duo} {n e1 e2 : Nat} (h : StepR nw D n D1 e1) (h' : StepR nw D n D2 e2) : D1 = D2 ∧ e1 = e2 := by
  obtain ⟨q, b, host, is, rfl, rfl, rfl, rfl, h⟩ := h
  obtain ⟨q', b', host', is', rfl, rfl, rfl, rfl, h'⟩ := h'
  rcases h with ⟨m, S1, s1, k1, h, rfl⟩ | ⟨m, S1, t1, h, rfl⟩ | ⟨m, S1, h, rfl⟩ | ⟨m, rfl, rfl⟩ | ⟨m, S1, s1, c1, h, hh⟩ | ⟨m, A1, sa, ka, ca, B1, sb, kb, cb, ha, hb, rfl, rfl⟩ <;>
    rcases h' with ⟨m', S2, s2, k2, h', rfl⟩ | ⟨m', S2, t2, h', rfl⟩ | ⟨m', S2, h', rfl⟩ | ⟨m', rfl, rfl⟩ | ⟨m', S2, s2, c2, h', hh'⟩ | ⟨m', A2, sa', ka', ca', B2, sb', kb', cb', ha', hb', rfl, rfl⟩
  all_goals first | omega | skip
  · obtain ⟨rfl, rfl⟩ := pickR_one h h'
    exact ⟨rfl, rfl⟩
  · obtain ⟨rfl, rfl⟩ := lookR_one h h'
    exact ⟨rfl, rfl⟩
  · obtain ⟨rfl, rfl⟩ := drainR_one h h'
    exact ⟨rfl, rfl⟩
  · exact ⟨rfl, rfl⟩
  · obtain ⟨rfl, rfl⟩ := exportR_one h h'
    rcases hh with ⟨c, rfl, rfl⟩ | ⟨c, T1, k1, p1, hi, rfl⟩ <;> rcases hh' with ⟨c', rfl, rfl⟩ | ⟨c', T2, k2, p2, hi', rfl⟩
    · exact ⟨rfl, rfl⟩
    · exact absurd c' c
    · exact absurd c c'
    · obtain ⟨rfl, rfl⟩ := importR_one hi hi'
      exact ⟨rfl, rfl⟩
  · obtain ⟨rfl, rfl⟩ := pickR_one ha ha'
    obtain ⟨rfl, rfl⟩ := pickR_one hb hb'
    exact ⟨rfl, rfl⟩
theorem oneR_one {D D1 D2 : Lh.Duo} {v e1 e2 : Int} (h : OneR nw D v D1 e1) (h' : OneR nw D v D2 e2) : D1 = D2 ∧ e1 = e2 := by
  rcases h with ⟨h1, rfl, rfl⟩ | ⟨n, c, rfl, rfl, h⟩ <;> rcases h' with ⟨g1, rfl, rfl⟩ | ⟨n', c', hn, rfl, h'⟩
  · exact ⟨rfl, rfl⟩
  · omega
  · omega
  · obtain rfl : n = n' := by omega
    obtain ⟨rfl, rfl⟩ := stepR_one h h'
    exact ⟨rfl, rfl⟩
/-- the same script makes the same play -/
theorem runR_one : ∀ {vs : List Int} {D D1 D2 : Lh.Duo} {es1 es2 : List Int}, RunR nw D vs es1 D1 → RunR nw D vs es2 D2 → D1 = D2 ∧ es1 = es2
  | [], _, _, _, _, _, ⟨rfl, rfl⟩, ⟨rfl, rfl⟩ => ⟨rfl, rfl⟩
  | v :: vs, _, _, _, _, _, ⟨e, X, es, h, rfl, hr⟩, ⟨e', X', es', h', rfl, hr'⟩ => by
    obtain ⟨rfl, rfl⟩ := oneR_one h h'
    obtain ⟨rfl, rfl⟩ := runR_one hr hr'
    exact ⟨rfl, rfl⟩
theorem runR_len : ∀ {vs : List Int} {D D1 : Lh.Duo} {es : List Int}, RunR nw D vs es D1 → es.length = vs.length
  | [], _, _, _, ⟨rfl, _⟩ => rfl
  | v :: vs, _, _, _, ⟨e, X, es, h, rfl, hr⟩ => by
    rw [List.length_cons, List.length_cons, runR_len hr]
end
end Go.Proofs.YtmdckddenelneaaGreatDoor
