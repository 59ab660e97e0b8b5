/- The landed balance keeps its contracts. -/
import Derived.Test.YtmdckddenelneaaGreatDoorM25
import Derived.Test.YtmdckddenelneaaGreatDoorM35
import Derived.Test.YtmdckddenelneaaGreatDoorM27
namespace Go.Proofs.YtmdckddenelneaaGreatDoor
open Go.RowKit

theorem look_bal (a : Nat → Addr) (S : Lh.Bl) (F : Nat → Prop) (p : Nat) (s : ByteArray) (well : Bool) (W : World) (he : EB a W) (hR : RepB S F p W) (hk : Lh.BOk S) :
    Calls Tryz.prog 81 #[.pointer (some ⟨p, 0, none⟩), .string s, .bool well] W fun e W' => ∃ F' S' turned c ev, (∀ b, F' b → F b ∨ W.heap.size ≤ b) ∧ Tur F W W' ∧ e = .returned (.tuple #[.bool turned, ev]) ∧ EvOf a c ev ∧ LookR S s well S' turned c ∧ RepB S' F' p W' := by
  obtain ⟨hp, fp, fm, db, bs, lv, h, rfl, hg⟩ := hR
  by_cases hx : Lh.hix S.hs s < S.hs.length
  · refine (look_good a he.e5.four h hk s well hx).mono ?_
    rintro e W' ⟨rfl, hB, hT⟩
    exact ⟨_, _, _, 0, _, fun b hb => Or.inl hb, hT, rfl, Or.inl ⟨rfl, rfl⟩, Or.inl ⟨hx, rfl, rfl, rfl⟩, hp, fp, fm, db, bs, lv, hB, rfl, hg⟩
  · refine (look_none a he.e5.four h hk s well hx).mono ?_
    rintro e W' ⟨rfl, hB, hT⟩
    exact ⟨_, S, false, 5, _, fun b hb => Or.inl hb, hT.health, rfl, Or.inr ⟨4, rfl, rfl⟩, Or.inr ⟨hx, rfl, rfl, rfl⟩, hp, fp, fm, db, bs, lv, hB, rfl, hg⟩
theorem export_bal (a : Nat → Addr) (S : Lh.Bl) (F : Nat → Prop) (p : Nat) (W : World) (hx : EC a W) (hR : RepB S F p W) (hk : Lh.BOk S) :
    Calls Tryz.prog 114 #[.pointer (some ⟨p, 0, none⟩)] W fun e W' => ∃ F' S' s c ev, (∀ b, F' b → F b ∨ W.heap.size ≤ b) ∧ Tur F W W' ∧ e = .returned (.tuple #[.string s, ev]) ∧ EvOf a c ev ∧ ExportR S S' s c ∧ RepB S' F' p W' := by
  obtain ⟨hp, fp, fm, db, bs, lv, h, rfl, hg⟩ := hR
  by_cases hep : S.ep < 1099511627776
  · refine (export_good a hx h hk hep).mono ?_
    rintro e W' ⟨rfl, hB, hT⟩
    exact ⟨_, _, _, 0, _, fun b hb => Or.inl hb, hT, rfl, Or.inl ⟨rfl, rfl⟩, Or.inl ⟨hep, rfl, rfl, rfl⟩, hp, fp, fm, db, bs, lv, hB, rfl, hg⟩
  · refine (export_bad a hx h hk hep).mono ?_
    rintro e W' ⟨rfl, hb⟩
    exact ⟨_, S, ByteArray.empty, 2, _, fun b hb => Or.inl hb, Tur.of_below hb, rfl, Or.inr ⟨1, rfl, rfl⟩, Or.inr ⟨hep, rfl, rfl, rfl⟩, hp, fp, fm, db, bs, lv, h.later hb, rfl, hg⟩
theorem import_bal (a : Nat → Addr) (S : Lh.Bl) (F : Nat → Prop) (p : Nat) (s : List UInt8) (now : Int) (W : World) (he : EB a W) (hx : EC a W) (hR : RepB S F p W) (hk : Lh.BOk S) (hs : s.length ≤ 30000) :
    Calls Tryz.prog 115 #[.pointer (some ⟨p, 0, none⟩), .string (Lh.bt s), .int .i64 now] W fun e W' => ∃ F' S' n c pl ev, (∀ b, F' b → F b ∨ W.heap.size ≤ b) ∧ Tur F W W' ∧ e = .returned (.tuple #[.int .i64 ((n : Nat) : Int), ev]) ∧ ErrIs a W' c pl ev ∧ ImportR S s now S' n c pl ∧ RepB S' F' p W' := by
  obtain ⟨hp, fp, fm, db, bs, lv, h, rfl, hg⟩ := hR
  refine (import_any a he hx h hk s now hs).mono ?_
  rintro e W' ⟨S', n, c, pl, ev, rfl, hev, hI, hB, hT⟩
  exact ⟨_, S', n, c, pl, ev, fun b hb => Or.inl hb, hT, rfl, hev, hI, hp, fp, fm, db, bs, lv, hB, rfl, hg⟩
end Go.Proofs.YtmdckddenelneaaGreatDoor

/- A play: two balances, a tick, a script. -/
namespace Go.Proofs.YtmdckddenelneaaGreatDoor
open Go.RowKit

/-- the two, and the tick -/
structure Lh.Duo where
  A : Lh.Bl
  B : Lh.Bl
  now : Int
def Lh.Duo.sel (D : Lh.Duo) (b : Bool) : Lh.Bl := if b then D.B else D.A
def Lh.Duo.put (D : Lh.Duo) (b : Bool) (S : Lh.Bl) : Lh.Duo := if b then { D with B := S } else { D with A := S }
def duoB : Lh.Bl := ⟨2, 2, 31, 20, Lh.hnew four, [], 0, 0, []⟩
/-- what a number does, by what is left of it modulo 8 -/
def StepR (nw : List ByteArray → Nat → Nat → ByteArray) (D : Lh.Duo) (n : Nat) (D' : Lh.Duo) (e : Nat) : Prop :=
  ∃ q b host is, q = n / 8 ∧ b = decide (q % 2 = 1) ∧ host = four.getD (q / 2 % 4) ByteArray.empty ∧ is = decide (q / 8 % 2 = 1) ∧
    ((n % 8 ≤ 2 ∧ ∃ S' s kept, PickR nw (D.sel b) (q / 2) D.now S' s kept e ∧ D' = D.put b S') ∨
     (n % 8 = 3 ∧ ∃ S' tu, LookR (D.sel b) host is S' tu e ∧ D' = D.put b S') ∨
     (n % 8 = 4 ∧ ∃ S', DrainR (D.sel b) host is S' e ∧ D' = D.put b S') ∨
     (n % 8 = 5 ∧ e = 0 ∧ D' = { D with now := D.now + 1 + ((q % 8 : Nat) : Int) }) ∨
     (n % 8 = 6 ∧ ∃ S' s c, ExportR (D.sel b) S' s c ∧ ((c ≠ 0 ∧ e = c ∧ D' = D.put b S') ∨ (c = 0 ∧ ∃ T' k pl, ImportR (D.sel !b) (Lh.textL ((D.sel b).ep + 1).toNat (D.sel b).L) D.now T' k e pl ∧ D' = (D.put b S').put (!b) T'))) ∨
     (n % 8 = 7 ∧ ∃ A' sa ka ca B' sb kb cb, PickR nw D.A 0 D.now A' sa ka ca ∧ PickR nw D.B 0 D.now B' sb kb cb ∧ e = (if ca = 0 then cb else ca) ∧ D' = { D with A := A', B := B' }))
def OneR (nw : List ByteArray → Nat → Nat → ByteArray) (D : Lh.Duo) (v : Int) (D' : Lh.Duo) (e : Int) : Prop :=
  (v < 0 ∧ D' = D ∧ e = -1) ∨ ∃ (n c : Nat), v = (n : Int) ∧ e = (c : Int) ∧ StepR nw D n D' c
def RunR (nw : List ByteArray → Nat → Nat → ByteArray) : Lh.Duo → List Int → List Int → Lh.Duo → Prop
  | D, [], es, D' => es = [] ∧ D' = D
  | D, v :: vs, es, D' => ∃ e D1 es1, OneR nw D v D1 e ∧ es = e :: es1 ∧ RunR nw D1 vs es1 D'
section
variable {nw : List ByteArray → Nat → Nat → ByteArray}
theorem pickR_one {S S1 S2 : Lh.Bl} {k : Nat} {now : Int} {s1 s2 : ByteArray} {k1 k2 : Bool} {c1 c2 : Nat} (h : PickR nw S k now S1 s1 k1 c1) (h' : PickR nw S k now S2 s2 k2 c2) : S1 = S2 ∧ c1 = c2 := by
  rcases h with ⟨j, hf, rfl, rfl, rfl, rfl⟩ | ⟨ht, hk, rfl, rfl, rfl⟩ | ⟨ht, hn, ho, rfl, rfl, rfl, rfl⟩ | ⟨ht, hn, ho, rfl, rfl, rfl, rfl⟩
  · rcases h' with ⟨j', hf', rfl, rfl, rfl, rfl⟩ | ⟨ht', _⟩ | ⟨ht', _⟩ | ⟨ht', _⟩
    · refine ⟨rfl, ?_⟩
      rcases hf with ⟨h1, rfl⟩ | ⟨h1, h2, h3, rfl⟩ <;> rcases hf' with ⟨g1, rfl⟩ | ⟨g1, g2, g3, rfl⟩ <;> first | rfl | omega
    all_goals exact (ok_not ht' hf).elim
  · obtain ⟨rfl, rfl, rfl, rfl⟩ := PickR.keep h' ht hk
    exact ⟨rfl, rfl⟩
  · rcases h' with ⟨j', hf', _⟩ | ⟨_, hk', _⟩ | ⟨_, _, _, rfl, rfl, rfl, rfl⟩ | ⟨_, _, ho', _⟩
    · exact (ok_not ht hf').elim
    · exact absurd hk' (hn _)
    · exact ⟨rfl, rfl⟩
    · exact absurd ho ho'
  · obtain ⟨rfl, rfl, rfl, rfl⟩ := PickR.new h' ht hn ho
    exact ⟨rfl, rfl⟩
theorem lookR_one {S S1 S2 : Lh.Bl} {s : ByteArray} {w t1 t2 : Bool} {c1 c2 : Nat} (h : LookR S s w S1 t1 c1) (h' : LookR S s w S2 t2 c2) : S1 = S2 ∧ c1 = c2 := by
  rcases h with ⟨hx, rfl, rfl, rfl⟩ | ⟨hx, rfl, rfl, rfl⟩ <;> rcases h' with ⟨hx', rfl, rfl, rfl⟩ | ⟨hx', rfl, rfl, rfl⟩
  · exact ⟨rfl, rfl⟩
  · exact absurd hx hx'
  · exact absurd hx' hx
  · exact ⟨rfl, rfl⟩
theorem drainR_one {S S1 S2 : Lh.Bl} {s : ByteArray} {w : Bool} {c1 c2 : Nat} (h : DrainR S s w S1 c1) (h' : DrainR S s w S2 c2) : S1 = S2 ∧ c1 = c2 := by
  rcases h with ⟨hx, rfl, rfl⟩ | ⟨hx, rfl, rfl⟩ <;> rcases h' with ⟨hx', rfl, rfl⟩ | ⟨hx', rfl, rfl⟩
  · exact ⟨rfl, rfl⟩
  · exact absurd hx hx'
  · exact absurd hx' hx
  · exact ⟨rfl, rfl⟩
theorem exportR_one {S S1 S2 : Lh.Bl} {s1 s2 : ByteArray} {c1 c2 : Nat} (h : ExportR S S1 s1 c1) (h' : ExportR S S2 s2 c2) : S1 = S2 ∧ c1 = c2 := by
  rcases h with ⟨hx, rfl, rfl, rfl⟩ | ⟨hx, rfl, rfl, rfl⟩ <;> rcases h' with ⟨hx', rfl, rfl, rfl⟩ | ⟨hx', rfl, rfl, rfl⟩
  · exact ⟨rfl, rfl⟩
  · exact absurd hx hx'
  · exact absurd hx' hx
  · exact ⟨rfl, rfl⟩
theorem importR_one {S S1 S2 : Lh.Bl} {s : List UInt8} {now : Int} {n1 n2 c1 c2 : Nat} {p1 p2 : Int} (h : ImportR S s now S1 n1 c1 p1) (h' : ImportR S s now S2 n2 c2 p2) : S1 = S2 ∧ c1 = c2 := by
  obtain ⟨e, l, c0, pl0, hr, hc⟩ := h
  obtain ⟨e', l', c0', pl0', hr', hc'⟩ := h'
  obtain ⟨rfl, rfl, rfl, rfl⟩ := readF_one hr hr'
  rcases hc with ⟨h1, rfl, rfl, rfl, rfl⟩ | ⟨h1, h2, rfl, rfl, rfl, rfl⟩ | ⟨h1, h2, j, h3, rfl, rfl, rfl, rfl⟩ | ⟨h1, h2, h3, rfl, rfl, rfl, rfl⟩ <;>
    rcases hc' with ⟨g1, rfl, rfl, rfl, rfl⟩ | ⟨g1, g2, rfl, rfl, rfl, rfl⟩ | ⟨g1, g2, j', g3, rfl, rfl, rfl, rfl⟩ | ⟨g1, g2, g3, rfl, rfl, rfl, rfl⟩
  all_goals first
    | exact ⟨rfl, rfl⟩
    | exact absurd g1 h1
    | exact absurd h1 g1
    | exact absurd h2 g2
    | exact absurd g2 h2
    | exact (ok_not g3 h3).elim
    | exact (ok_not h3 g3).elim
    | (refine ⟨rfl, ?_⟩
       rcases h3 with ⟨q1, rfl⟩ | ⟨q1, q2, q3, rfl⟩ <;> rcases g3 with ⟨r1, rfl⟩ | ⟨r1, r2, r3, rfl⟩ <;> first | rfl | omega)
theorem stepR_one {D D1 D2 : Lh.Duo} {n e1 e2 : Nat} (h : StepR nw D n D1 e1) (h' : StepR nw D n D2 e2) : D1 = D2 ∧ e1 = e2 := by
  obtain ⟨q, b, host, is, rfl, rfl, rfl, rfl, h⟩ := h
  obtain ⟨q', b', host', is', rfl, rfl, rfl, rfl, h'⟩ := h'
  rcases h with ⟨m, S1, s1, k1, h, rfl⟩ | ⟨m, S1, t1, h, rfl⟩ | ⟨m, S1, h, rfl⟩ | ⟨m, rfl, rfl⟩ | ⟨m, S1, s1, c1, h, hh⟩ | ⟨m, A1, sa, ka, ca, B1, sb, kb, cb, ha, hb, rfl, rfl⟩ <;>
    rcases h' with ⟨m', S2, s2, k2, h', rfl⟩ | ⟨m', S2, t2, h', rfl⟩ | ⟨m', S2, h', rfl⟩ | ⟨m', rfl, rfl⟩ | ⟨m', S2, s2, c2, h', hh'⟩ | ⟨m', A2, sa', ka', ca', B2, sb', kb', cb', ha', hb', rfl, rfl⟩
  all_goals first | omega | skip
  · obtain ⟨rfl, rfl⟩ := pickR_one h h'
    exact ⟨rfl, rfl⟩
  · obtain ⟨rfl, rfl⟩ := lookR_one h h'
    exact ⟨rfl, rfl⟩
  · obtain ⟨rfl, rfl⟩ := drainR_one h h'
    exact ⟨rfl, rfl⟩
  · exact ⟨rfl, rfl⟩
  · obtain ⟨rfl, rfl⟩ := exportR_one h h'
    rcases hh with ⟨c, rfl, rfl⟩ | ⟨c, T1, k1, p1, hi, rfl⟩ <;> rcases hh' with ⟨c', rfl, rfl⟩ | ⟨c', T2, k2, p2, hi', rfl⟩
    · exact ⟨rfl, rfl⟩
    · exact absurd c' c
    · exact absurd c c'
    · obtain ⟨rfl, rfl⟩ := importR_one hi hi'
      exact ⟨rfl, rfl⟩
  · obtain ⟨rfl, rfl⟩ := pickR_one ha ha'
    obtain ⟨rfl, rfl⟩ := pickR_one hb hb'
    exact ⟨rfl, rfl⟩
theorem oneR_one {D D1 D2 : Lh.Duo} {v e1 e2 : Int} (h : OneR nw D v D1 e1) (h' : OneR nw D v D2 e2) : D1 = D2 ∧ e1 = e2 := by
  rcases h with ⟨h1, rfl, rfl⟩ | ⟨n, c, rfl, rfl, h⟩ <;> rcases h' with ⟨g1, rfl, rfl⟩ | ⟨n', c', hn, rfl, h'⟩
  · exact ⟨rfl, rfl⟩
  · omega
  · omega
  · obtain rfl : n = n' := by omega
    obtain ⟨rfl, rfl⟩ := stepR_one h h'
    exact ⟨rfl, rfl⟩
/-- the same script makes the same play -/
theorem runR_one : ∀ {vs : List Int} {D D1 D2 : Lh.Duo} {es1 es2 : List Int}, RunR nw D vs es1 D1 → RunR nw D vs es2 D2 → D1 = D2 ∧ es1 = es2
  | [], _, _, _, _, _, ⟨rfl, rfl⟩, ⟨rfl, rfl⟩ => ⟨rfl, rfl⟩
  | v :: vs, _, _, _, _, _, ⟨e, X, es, h, rfl, hr⟩, ⟨e', X', es', h', rfl, hr'⟩ => by
    obtain ⟨rfl, rfl⟩ := oneR_one h h'
    obtain ⟨rfl, rfl⟩ := runR_one hr hr'
    exact ⟨rfl, rfl⟩
theorem runR_len : ∀ {vs : List Int} {D D1 : Lh.Duo} {es : List Int}, RunR nw D vs es D1 → es.length = vs.length
  | [], _, _, _, ⟨rfl, _⟩ => rfl
  | v :: vs, _, _, _, ⟨e, X, es, h, rfl, hr⟩ => by
    rw [List.length_cons, List.length_cons, runR_len hr]
end
end Go.Proofs.YtmdckddenelneaaGreatDoor

/- A play: what is right stays right. -/
namespace Go.Proofs.YtmdckddenelneaaGreatDoor
open Go.RowKit

section
variable {nw : List ByteArray → Nat → Nat → ByteArray}
theorem pickR_ok (hnwI : ∀ {xs : List ByteArray} {n : Nat} (k : Nat), xs ≠ [] → Lh.Prm n → nw xs n k ∈ xs) {S S' : Lh.Bl} {k : Nat} {now : Int} {s : ByteArray} {kept : Bool} {c : Nat} (h : Lh.BOk S) (hk : k < 18446744073709551616) (hp : PickR nw S k now S' s kept c) : Lh.BOk S' := by
  rcases hp with ⟨j, _, rfl, _⟩ | ⟨⟨h0, h1, _⟩, hkp, _, _, rfl⟩ | ⟨⟨h0, h1, _⟩, _, _, _, _, _, rfl⟩ | ⟨⟨h0, h1, _⟩, _, ho, rfl, _, _, rfl⟩
  · exact h
  · have hup : Lh.hup S.hs s = true := by obtain ⟨_, _, _, h⟩ := hkp; exact h
    obtain ⟨hn, hs⟩ := Lh.hup_nm h hup
    exact h.put hk hn hs h0 h1
  · exact h.tick h0 h1
  · obtain ⟨hn, hs⟩ := Lh.hup_nm h (Lh.bopen_mem.1 (hnwI k ho h.prm)).1
    exact h.put hk hn hs h0 h1
theorem lookR_ok {S S' : Lh.Bl} {s : ByteArray} {w t : Bool} {c : Nat} (h : Lh.BOk S) (hl : LookR S s w S' t c) : Lh.BOk S' := by
  rcases hl with ⟨hx, _, _, rfl⟩ | ⟨_, _, _, rfl⟩
  · exact h.look hx
  · exact h
theorem drainR_ok {S S' : Lh.Bl} {s : ByteArray} {w : Bool} {c : Nat} (h : Lh.BOk S) (hl : DrainR S s w S' c) : Lh.BOk S' := by
  rcases hl with ⟨_, _, rfl⟩ | ⟨_, _, rfl⟩
  · exact h.drain _
  · exact h
theorem exportR_ok {S S' : Lh.Bl} {s : ByteArray} {c : Nat} (h : Lh.BOk S) (hl : ExportR S S' s c) : Lh.BOk S' := by
  rcases hl with ⟨hx, _, _, rfl⟩ | ⟨_, _, _, rfl⟩
  · exact h.epoch (by have := h.ep0; omega) (by omega)
  · exact h
theorem importR_ok {S S' : Lh.Bl} {s : List UInt8} {now : Int} {n c : Nat} {pl : Int} (h : Lh.BOk S) (hi : ImportR S s now S' n c pl) : Lh.BOk S' := by
  obtain ⟨e, l, c0, pl0, hr, hc⟩ := hi
  rcases hc with ⟨_, rfl, _⟩ | ⟨_, _, rfl, _⟩ | ⟨_, _, _, _, rfl, _⟩ | ⟨rfl, he, ⟨h0, h1, _⟩, _, _, _, rfl⟩
  · exact h
  · exact h
  · exact h
  · obtain ⟨_, hca, hki, _⟩ := read_good hr
    rcases hca with ⟨_, h, _⟩ | ⟨_, j, hj, _, _, hf⟩ | ⟨⟨e0, e1, _⟩, hg, _⟩
    · exact absurd h (by decide)
    · rcases hf with ⟨_, h⟩ | ⟨_, _, h⟩ | ⟨_, _, _, _, h⟩ <;> exact absurd h (by decide)
    · have h2 := Lh.BOk.add h h0 h1 (l.filter fun x => Lh.hup S.hs x.2.1) (M := S.L) (h.tick h0 h1) fun x hx => by
        have hx' := (List.mem_filter.1 hx).1
        obtain ⟨j, hj, rfl⟩ := List.getElem_of_mem hx'
        have hn := (hg j hj).1
        refine ⟨hki _ hx', ?_, hn⟩
        have h12 : (l[j]).2.1.size ≤ 12 := by
          unfold Lh.isNm at hn
          simp at hn
          exact hn.1.1.2
        omega
      exact h2.epoch e0 e1
/-- both -/
structure DOk (D : Lh.Duo) : Prop where
  a : Lh.BOk D.A
  b : Lh.BOk D.B
theorem DOk.sel {D : Lh.Duo} (h : DOk D) (b : Bool) : Lh.BOk (D.sel b) := by
  unfold Lh.Duo.sel
  split
  · exact h.b
  · exact h.a
theorem DOk.put {D : Lh.Duo} (h : DOk D) (b : Bool) {S : Lh.Bl} (hS : Lh.BOk S) : DOk (D.put b S) := by
  unfold Lh.Duo.put
  split
  · exact ⟨h.a, hS⟩
  · exact ⟨hS, h.b⟩
theorem stepR_ok (hnwI : ∀ {xs : List ByteArray} {n : Nat} (k : Nat), xs ≠ [] → Lh.Prm n → nw xs n k ∈ xs) {D D' : Lh.Duo} {n e : Nat} (h : DOk D) (hn : n < 18446744073709551616) (hs : StepR nw D n D' e) : DOk D' := by
  obtain ⟨q, b, host, is, rfl, rfl, rfl, rfl, hs⟩ := hs
  rcases hs with ⟨m, S1, s1, k1, hp, rfl⟩ | ⟨m, S1, t1, hp, rfl⟩ | ⟨m, S1, hp, rfl⟩ | ⟨m, rfl, rfl⟩ | ⟨m, S1, s1, c1, hp, hh⟩ | ⟨m, A1, sa, ka, ca, B1, sb, kb, cb, ha, hb, rfl, rfl⟩
  · exact h.put _ (pickR_ok hnwI (h.sel _) (by omega) hp)
  · exact h.put _ (lookR_ok (h.sel _) hp)
  · exact h.put _ (drainR_ok (h.sel _) hp)
  · exact ⟨h.a, h.b⟩
  · have h1 := h.put (decide (n / 8 % 2 = 1)) (exportR_ok (h.sel _) hp)
    rcases hh with ⟨_, _, rfl⟩ | ⟨_, T1, k1, p1, hi, rfl⟩
    · exact h1
    · exact h1.put _ (importR_ok (h.sel _) hi)
  · exact ⟨pickR_ok hnwI h.a (by decide) ha, pickR_ok hnwI h.b (by decide) hb⟩
end
theorem duo_ok : Lh.BOk duoB := by
  obtain ⟨_, hnd, hl, _, hsz, hnm⟩ := four_fault
  have h := four_bok
  refine ⟨Lh.hnew_ok (by simp [duoB]) (by simp [duoB]) (by simp [duoB]) (by simp [duoB]) hl hnd hsz, h.nm, h.ok, h.host, h.hi, h.t1, h.t2, h.prm, h.s5, h.ep0, h.ep1, h.la0, h.la1⟩
end Go.Proofs.YtmdckddenelneaaGreatDoor

/- What the laws of a play ask of the landed package. -/
namespace Go.Proofs.YtmdckddenelneaaGreatDoor
open Go.RowKit

/-- a duo: two balances, their blocks; the block that holds both; where they begin -/
structure DR where
  A : Lh.Bl
  B : Lh.Bl
  FA : Nat → Prop
  FB : Nat → Prop
  d : Nat
  p : Nat
  q : Nat
def DR.F (x : DR) (b : Nat) : Prop := x.FA b ∨ x.FB b ∨ b = x.d
/-- .. in memory -/
structure DR.At (hC : BalanceC) (x : DR) (W : World) : Prop where
  c0 : W.cell? ⟨x.d, 0, none⟩ = some (.pointer (some ⟨x.p, 0, none⟩))
  c1 : W.cell? ⟨x.d, 1, none⟩ = some (.pointer (some ⟨x.q, 0, none⟩))
  ra : hC.Rep x.A x.FA x.p W
  rb : hC.Rep x.B x.FB x.q W
  oka : Lh.BOk x.A
  okb : Lh.BOk x.B
  apart : ∀ b, x.FA b → ¬ x.FB b
  da : ¬ x.FA x.d
  db : ¬ x.FB x.d
/-- a list of numbers that the callee made -/
def IntsNew (B : Nat) (W : World) (v : Value) (xs : List Int) : Prop :=
  (xs = [] ∧ ∃ p c, v = .slice p 0 c) ∨ ∃ b o c, v = .slice (some ⟨b, o, none⟩) xs.length c ∧ B ≤ b ∧ ∀ k (h : k < xs.length), W.cell? ⟨b, o + k, none⟩ = some (.int .i64 xs[k])
theorem IntsNew.ints {B : Nat} {W : World} {v : Value} {xs : List Int} (h : IntsNew B W v xs) : Ints W v xs := by
  rcases h with h | ⟨b, o, c, h1, _, h2⟩
  · exact Or.inl h
  · exact Or.inr ⟨b, o, c, h1, h2⟩
/-- numbers that lie apart from F -/
def IntsOff (F : Nat → Prop) (v : Value) (n : Nat) : Prop := ∀ b o k c, v = .slice (some ⟨b, o, none⟩) k c → 0 < n → ¬ F b
/-- a slice has room for what it has -/
def Room (v : Value) : Prop := ∀ p n c, v = .slice p n c → n ≤ c
/-- what the landed package keeps -/
structure PlayC (hC : BalanceC) where
  E : (Nat → Addr) → World → Prop
  eLater : ∀ {a : Nat → Addr} {W W' : World}, E a W → Below W.heap.size W W' → E a W'
  errs : ∀ {a : Nat → Addr} {W : World}, E a W → Errs a W
  newD : ∀ (a : Nat → Addr) (W : World), E a W → Calls Tryz.prog 18 #[] W fun e W' => ∃ x : DR, e = .returned (.pointer (some ⟨x.d, 0, none⟩)) ∧ x.At hC W' ∧ x.A = duoB ∧ x.B = duoB ∧ (∀ b, x.F b → W.heap.size ≤ b) ∧ Below W.heap.size W W'
  run : ∀ (a : Nat → Addr) (x : DR) (v : Value) (sc : List Int) (W : World), E a W → x.At hC W → Ints W v sc → Room v → IntsOff x.F v sc.length → sc.length ≤ 3000 → (∀ z ∈ sc, z < 9223372036854775808) →
    Calls Tryz.prog 19 #[.pointer (some ⟨x.d, 0, none⟩), v] W fun e W' => ∃ (y : DR) (es : List Int) (now : Int) (v' : Value), e = .returned v' ∧ RunR hC.nw ⟨x.A, x.B, 0⟩ sc es ⟨y.A, y.B, now⟩ ∧ y.At hC W' ∧ y.d = x.d ∧ y.p = x.p ∧ y.q = x.q ∧ (∀ b, y.F b → x.F b ∨ W.heap.size ≤ b) ∧ Tur x.F W W' ∧ IntsNew W.heap.size W' v' es
  keys : ∀ (n : Int) (W : World), Calls Tryz.prog 8 #[.int .i64 n] W fun e W' => ∃ v, e = .returned v ∧ U64s W' v ((List.range (min n.toNat 500)).map Lh.turn) ∧ Below W.heap.size W W'
section
variable {hC : BalanceC} {x y z x' : DR} {W W' : World}
theorem DR.At.lt (h : x.At hC W) : ∀ b, x.F b → b < W.heap.size := by
  rintro b (hb | hb | rfl)
  · exact hC.lt h.ra b hb
  · exact hC.lt h.rb b hb
  · exact World.block_lt_of_cell? _ _ h.c0
theorem cell_same {W W' : World} {b i : Nat} {v : Value} (h : W'.heap[b]? = W.heap[b]?) (hc : W.cell? ⟨b, i, none⟩ = some v) : W'.cell? ⟨b, i, none⟩ = some v := by
  simp only [World.cell?, h] at hc ⊢
  exact hc
theorem DR.At.stay (h : x.At hC W) (hs : W.heap.size ≤ W'.heap.size) (hb : ∀ b, x.F b → W'.heap[b]? = W.heap[b]?) : x.At hC W' :=
  ⟨cell_same (hb _ (Or.inr (Or.inr rfl))) h.c0, cell_same (hb _ (Or.inr (Or.inr rfl))) h.c1, hC.stay h.ra hs fun b hf => hb b (Or.inl hf), hC.stay h.rb hs fun b hf => hb b (Or.inr (Or.inl hf)), h.oka, h.okb, h.apart, h.da, h.db⟩
theorem DR.At.later (h : x.At hC W) (hb : Below W.heap.size W W') : x.At hC W' := h.stay hb.size fun b hf => hb.block b (h.lt b hf)
end
end Go.Proofs.YtmdckddenelneaaGreatDoor

/- What a play asks of the landed balance besides its contracts. -/
namespace Go.Proofs.YtmdckddenelneaaGreatDoor
open Go.RowKit

/-- all that a balance owns lies behind K, and what it asks of the variables lies ahead of K -/
structure BalP (hC : BalanceC) where
  K : Nat
  low : ∀ {a : Nat → Addr} {W : World}, hC.E a W → K ≤ W.heap.size
  rep : ∀ {S : Lh.Bl} {F : Nat → Prop} {p : Nat} {W : World}, hC.Rep S F p W → ∀ b, F b → K ≤ b
  tur : ∀ {a : Nat → Addr} {F : Nat → Prop} {W W' : World}, hC.E a W → Tur F W W' → (∀ b, F b → K ≤ b) → hC.E a W'
  errs : ∀ {a : Nat → Addr} {W : World}, hC.E a W → Errs a W
  x : ∀ {a : Nat → Addr} {W : World}, hC.E a W → hC.X a W

theorem evOf_is {a : Nat → Addr} {W : World} {c : Nat} {ev : Value} (h : EvOf a c ev) (hc : c ≤ 9) : ErrIs a W c (-1) ev := by
  rcases h with ⟨rfl, rfl⟩ | ⟨j, rfl, rfl⟩
  · exact Or.inl ⟨rfl, rfl, rfl⟩
  · exact Or.inr ⟨j, by omega, rfl, Or.inl ⟨rfl, rfl⟩⟩
theorem pickR_c {nw : List ByteArray → Nat → Nat → ByteArray} {S S' : Lh.Bl} {k : Nat} {now : Int} {s : ByteArray} {kept : Bool} {c : Nat} (h : PickR nw S k now S' s kept c) : c ≤ 9 := by
  rcases h with ⟨j, hf, _, _, _, rfl⟩ | ⟨_, _, _, rfl, _⟩ | ⟨_, _, _, _, _, rfl, _⟩ | ⟨_, _, _, _, _, rfl, _⟩
  · rcases hf with ⟨_, rfl⟩ | ⟨_, _, _, rfl⟩ <;> decide
  all_goals decide
theorem lookR_c {S S' : Lh.Bl} {s : ByteArray} {w t : Bool} {c : Nat} (h : LookR S s w S' t c) : c ≤ 9 := by
  rcases h with ⟨_, _, rfl, _⟩ | ⟨_, _, rfl, _⟩ <;> decide
theorem drainR_c {S S' : Lh.Bl} {s : ByteArray} {w : Bool} {c : Nat} (h : DrainR S s w S' c) : c ≤ 9 := by
  rcases h with ⟨_, rfl, _⟩ | ⟨_, rfl, _⟩ <;> decide
theorem exportR_c {S S' : Lh.Bl} {s : ByteArray} {c : Nat} (h : ExportR S S' s c) : c ≤ 9 := by
  rcases h with ⟨_, _, rfl, _⟩ | ⟨_, _, rfl, _⟩ <;> decide

theorem Tur.wideP {F G : Nat → Prop} {w w1 : World} (h : Tur F w w1) (hG : ∀ b, F b → G b) : Tur G w w1 := ⟨h.os, h.tape, h.output, h.size, fun k hk hf => h.block k hk fun hb => hf (hG k hb)⟩
theorem tur_setP (W : World) (g i : Nat) (v : Value) : Tur (fun b => b = g) W (W.setCell ⟨g, i, none⟩ v) :=
  ⟨rfl, rfl, rfl, by simp [World.setCell], fun j _ hf => heap_setCell_other W ⟨g, i, none⟩ j v fun e => hf e⟩
def DR.bal (x : DR) (b : Bool) : Lh.Bl := if b then x.B else x.A
def DR.foot (x : DR) (b : Bool) : Nat → Prop := if b then x.FB else x.FA
def DR.ptr (x : DR) (b : Bool) : Nat := if b then x.q else x.p
def DR.put (x : DR) (b : Bool) (S : Lh.Bl) (F : Nat → Prop) : DR := if b then { x with B := S, FB := F } else { x with A := S, FA := F }
theorem DR.sel_bal (x : DR) (b : Bool) (now : Int) : (⟨x.A, x.B, now⟩ : Lh.Duo).sel b = x.bal b := by cases b <;> rfl
theorem DR.put_duo (x : DR) (b : Bool) (S : Lh.Bl) (F : Nat → Prop) (now : Int) : (⟨(x.put b S F).A, (x.put b S F).B, now⟩ : Lh.Duo) = (⟨x.A, x.B, now⟩ : Lh.Duo).put b S := by cases b <;> rfl

/-- a game in memory: the duo, and the tick -/
structure GS (hC : BalanceC) (hB : BalP hC) (a : Nat → Addr) (g : Nat) (x : DR) (now : Int) (W : World) : Prop where
  e : hC.E a W
  at_ : x.At hC W
  g0 : W.cell? ⟨g, 0, none⟩ = some (.pointer (some ⟨x.d, 0, none⟩))
  g1 : W.cell? ⟨g, 1, none⟩ = some (.int .i64 now)
  gx : ¬ x.F g
  gK : hB.K ≤ g
  gz : W.frozen? ⟨g, 1, none⟩ = false
/-- from one to the other -/
structure GTo (g : Nat) (x y : DR) (W W' : World) : Prop where
  d : y.d = x.d
  p : y.p = x.p
  q : y.q = x.q
  new : ∀ b, y.FA b ∨ y.FB b → x.FA b ∨ x.FB b ∨ W.heap.size ≤ b
  tur : Tur (fun b => x.FA b ∨ x.FB b ∨ b = g) W W'
section
variable {hC : BalanceC} {hB : BalP hC} {a : Nat → Addr} {g : Nat} {x y z : DR} {now : Int} {W W' W'' : World}
theorem GTo.of_below (h : Below W.heap.size W W') : GTo g x x W W' := ⟨rfl, rfl, rfl, fun _ hb => hb.elim Or.inl fun h => Or.inr (Or.inl h), Tur.of_below h⟩
theorem GTo.trans (h : GTo g x y W W') (k : GTo g y z W' W'') : GTo g x z W W'' := by
  refine ⟨k.d.trans h.d, k.p.trans h.p, k.q.trans h.q, fun b hb => ?_, h.tur.trans k.tur fun b hb => ?_⟩
  · rcases k.new b hb with h1 | h1 | h1
    · exact h.new b (Or.inl h1)
    · exact h.new b (Or.inr h1)
    · exact Or.inr (Or.inr (Nat.le_trans h.tur.size h1))
  · rcases hb with h1 | h1 | h1
    · rcases h.new b (Or.inl h1) with q | q | q
      · exact Or.inl (Or.inl q)
      · exact Or.inl (Or.inr (Or.inl q))
      · exact Or.inr q
    · rcases h.new b (Or.inr h1) with q | q | q
      · exact Or.inl (Or.inl q)
      · exact Or.inl (Or.inr (Or.inl q))
      · exact Or.inr q
    · exact Or.inl (Or.inr (Or.inr h1))
theorem GS.glt (h : GS hC hB a g x now W) : g < W.heap.size := World.block_lt_of_cell? W _ h.g0
theorem GS.later (h : GS hC hB a g x now W) (hb : Below W.heap.size W W') : GS hC hB a g x now W' := ⟨hC.eLater h.e hb, h.at_.later hb, below_cell hb h.g0, below_cell hb h.g1, h.gx, h.gK, (World.frozen?_of_block (w := W) (w' := W') (a := ⟨g, 1, none⟩) (hb.block g h.glt)).trans h.gz⟩
theorem GS.rep (h : GS hC hB a g x now W) (b : Bool) : hC.Rep (x.bal b) (x.foot b) (x.ptr b) W := by
  cases b
  · exact h.at_.ra
  · exact h.at_.rb
theorem GS.ok (h : GS hC hB a g x now W) (b : Bool) : Lh.BOk (x.bal b) := by
  cases b
  · exact h.at_.oka
  · exact h.at_.okb
theorem foot_cell {F : Nat → Prop} (hT : Tur F W W') {b i : Nat} {v : Value} (hx : ¬ F b) (h : W.cell? ⟨b, i, none⟩ = some v) : W'.cell? ⟨b, i, none⟩ = some v :=
  cell_same (hT.block b (World.block_lt_of_cell? W _ h) hx) h
/-- one side turned -/
theorem GS.turned (h : GS hC hB a g x now W) (b : Bool) {S' : Lh.Bl} {F' : Nat → Prop} (hR : hC.Rep S' F' (x.ptr b) W') (hok : Lh.BOk S') (hF : ∀ c, F' c → x.foot b c ∨ W.heap.size ≤ c) (hT : Tur (x.foot b) W W') : GS hC hB a g (x.put b S' F') now W' ∧ GTo g x (x.put b S' F') W W' := by
  obtain ⟨he, ⟨c0, c1, ra, rb, oka, okb, hap, hda, hdb⟩, hg0, hg1, hgx, hgK, hgz⟩ := h
  have hdl := World.block_lt_of_cell? W _ c0
  have hgl := World.block_lt_of_cell? W _ hg0
  simp only at hdl hgl
  cases b
  · refine ⟨⟨hB.tur he hT fun b hb => hB.rep ra b hb, ⟨foot_cell hT hda c0, foot_cell hT hda c1, hR, hC.stay rb hT.size fun b hb => hT.block b (hC.lt rb b hb) fun hf => hap b hf hb, hok, okb, fun b hb hg => ?_, fun hf => ?_, hdb⟩, foot_cell hT (fun q => hgx (Or.inl q)) hg0, foot_cell hT (fun q => hgx (Or.inl q)) hg1, fun hf => ?_, hgK, (World.frozen?_of_block (w := W) (w' := W') (a := ⟨g, 1, none⟩) (hT.block g hgl fun q => hgx (Or.inl q))).trans hgz⟩, rfl, rfl, rfl, fun b hb => ?_, hT.wideP fun b hb => Or.inl hb⟩
    · rcases hF b hb with h1 | h1
      · exact hap b h1 hg
      · have := hC.lt rb b hg
        omega
    · rcases hF _ hf with h1 | h1
      · exact hda h1
      · exact absurd h1 (Nat.not_le.2 hdl)
    · rcases hf with h1 | h1 | h1
      · rcases hF _ h1 with h2 | h2
        · exact hgx (Or.inl h2)
        · omega
      · exact hgx (Or.inr (Or.inl h1))
      · exact hgx (Or.inr (Or.inr h1))
    · rcases hb with h1 | h1
      · rcases hF _ h1 with h2 | h2
        · exact Or.inl h2
        · exact Or.inr (Or.inr h2)
      · exact Or.inr (Or.inl h1)
  · refine ⟨⟨hB.tur he hT fun b hb => hB.rep rb b hb, ⟨foot_cell hT hdb c0, foot_cell hT hdb c1, hC.stay ra hT.size fun b hb => hT.block b (hC.lt ra b hb) fun hf => hap b hb hf, hR, oka, hok, fun b hb hg => ?_, hda, fun hf => ?_⟩, foot_cell hT (fun q => hgx (Or.inr (Or.inl q))) hg0, foot_cell hT (fun q => hgx (Or.inr (Or.inl q))) hg1, fun hf => ?_, hgK, (World.frozen?_of_block (w := W) (w' := W') (a := ⟨g, 1, none⟩) (hT.block g hgl fun q => hgx (Or.inr (Or.inl q)))).trans hgz⟩, rfl, rfl, rfl, fun b hb => ?_, hT.wideP fun b hb => Or.inr (Or.inl hb)⟩
    · rcases hF b hg with h1 | h1
      · exact hap b hb h1
      · have := hC.lt ra b hb
        omega
    · rcases hF _ hf with h1 | h1
      · exact hdb h1
      · exact absurd h1 (Nat.not_le.2 hdl)
    · rcases hf with h1 | h1 | h1
      · exact hgx (Or.inl h1)
      · rcases hF _ h1 with h2 | h2
        · exact hgx (Or.inr (Or.inl h2))
        · omega
      · exact hgx (Or.inr (Or.inr h1))
    · rcases hb with h1 | h1
      · exact Or.inl h1
      · rcases hF _ h1 with h2 | h2
        · exact Or.inr (Or.inl h2)
        · exact Or.inr (Or.inr h2)
/-- the tick turned -/
theorem GS.ticked (h : GS hC hB a g x now W) (n : Int) : GS hC hB a g x n (W.setCell ⟨g, 1, none⟩ (.int .i64 n)) ∧ GTo g x x W (W.setCell ⟨g, 1, none⟩ (.int .i64 n)) := by
  have hT : Tur (fun b => b = g) W (W.setCell ⟨g, 1, none⟩ (.int .i64 n)) := tur_setP W g 1 _
  refine ⟨⟨hB.tur h.e hT fun b hb => by subst hb; exact h.gK, h.at_.stay hT.size fun b hb => hT.block b (h.at_.lt b hb) fun e => h.gx (by subst e; exact hb), ?_, ?_, h.gx, h.gK, by rw [World.frozen?_setCell]; exact h.gz⟩, rfl, rfl, rfl, fun b hb => hb.elim Or.inl fun h => Or.inr (Or.inl h), hT.wideP fun b hb => Or.inr (Or.inr hb)⟩
  · rw [World.cell?_setCell_other _ _ _ _ (by simp)]
    exact h.g0
  · exact World.cell?_setCell_same' _ _ _ (by rw [h.g1]; rfl)
end
end Go.Proofs.YtmdckddenelneaaGreatDoor
