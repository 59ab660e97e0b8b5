/- The landed balance keeps its contracts. -/
import Derived.Test.YtmdckddenelneaaGreatDoorM27
import Derived.Test.YtmdckddenelneaaGreatDoorM38
import Derived.Test.YtmdckddenelneaaGreatDoorM29
namespace Go.Proofs.YtmdckddenelneaaGreatDoor
open Go.RowKit

theorem look_bal (a : Nat → Addr) (S : Lh.Bl) (F : Nat → Prop) (p : Nat) (s : ByteArray) (well : Bool) (W : World) (he : EB a W) (hR : RepB S F p W) (hk : Lh.BOk S) :
    Calls Tryz.prog 81 #[.pointer (some ⟨p, 0, none⟩), .string s, .bool well] W fun e W' => ∃ F' S' turned c ev, (∀ b, F' b → F b ∨ W.heap.size ≤ b) ∧ Tur F W W' ∧ e = .returned (.tuple #[.bool turned, ev]) ∧ EvOf a c ev ∧ LookR S s well S' turned c ∧ RepB S' F' p W' := by
  obtain ⟨hp, fp, fm, db, bs, lv, h, rfl, hg⟩ := hR
  by_cases hx : Lh.hix S.hs s < S.hs.length
  · refine (look_good a he.e5.four h hk s well hx).mono ?_
    rintro e W' ⟨rfl, hB, hT⟩
    exact ⟨_, _, _, 0, _, fun b hb => Or.inl hb, hT, rfl, Or.inl ⟨rfl, rfl⟩, Or.inl ⟨hx, rfl, rfl, rfl⟩, hp, fp, fm, db, bs, lv, hB, rfl, hg⟩
  · refine (look_none a he.e5.four h hk s well hx).mono ?_
    rintro e W' ⟨rfl, hB, hT⟩
    exact ⟨_, S, false, 5, _, fun b hb => Or.inl hb, hT.health, rfl, Or.inr ⟨4, rfl, rfl⟩, Or.inr ⟨hx, rfl, rfl, rfl⟩, hp, fp, fm, db, bs, lv, hB, rfl, hg⟩
theorem export_bal (a : Nat → Addr) (S : Lh.Bl) (F : Nat → Prop) (p : Nat) (W : World) (hx : EC a W) (hR : RepB S F p W) (hk : Lh.BOk S) :
    Calls Tryz.prog 114 #[.pointer (some ⟨p, 0, none⟩)] W fun e W' => ∃ F' S' s c ev, (∀ b, F' b → F b ∨ W.heap.size ≤ b) ∧ Tur F W W' ∧ e = .returned (.tuple #[.string s, ev]) ∧ EvOf a c ev ∧ ExportR S S' s c ∧ RepB S' F' p W' := by
  obtain ⟨hp, fp, fm, db, bs, lv, h, rfl, hg⟩ := hR
  by_cases hep : S.ep < 1099511627776
  · refine (export_good a hx h hk hep).mono ?_
    rintro e W' ⟨rfl, hB, hT⟩
    exact ⟨_, _, _, 0, _, fun b hb => Or.inl hb, hT, rfl, Or.inl ⟨rfl, rfl⟩, Or.inl ⟨hep, rfl, rfl, rfl⟩, hp, fp, fm, db, bs, lv, hB, rfl, hg⟩
  · refine (export_bad a hx h hk hep).mono ?_
    rintro e W' ⟨rfl, hb⟩
    exact ⟨_, S, ByteArray.empty, 2, _, fun b hb => Or.inl hb, Tur.of_below hb, rfl, Or.inr ⟨1, rfl, rfl⟩, Or.inr ⟨hep, rfl, rfl, rfl⟩, hp, fp, fm, db, bs, lv, h.later hb, rfl, hg⟩
theorem import_bal (a : Nat → Addr) (S : Lh.Bl) (F : Nat → Prop) (p : Nat) (s : List UInt8) (now : Int) (W : World) (he : EB a W) (hx : EC a W) (hR : RepB S F p W) (hk : Lh.BOk S) (hs : s.length ≤ 30000) :
    Calls Tryz.prog 115 #[.pointer (some ⟨p, 0, none⟩), .string (Lh.bt s), .int .i64 now] W fun e W' => ∃ F' S' n c pl ev, (∀ b, F' b → F b ∨ W.heap.size ≤ b) ∧ Tur F W W' ∧ e = .returned (.tuple #[.int .i64 ((n : Nat) : Int), ev]) ∧ ErrIs a W' c pl ev ∧ ImportR S s now S' n c pl ∧ RepB S' F' p W' := by
  obtain ⟨hp, fp, fm, db, bs, lv, h, rfl, hg⟩ := hR
  refine (import_any a he hx h hk s now hs).mono ?_
  rintro e W' ⟨S', n, c, pl, ev, rfl, hev, hI, hB, hT⟩
  exact ⟨_, S', n, c, pl, ev, fun b hb => Or.inl hb, hT, rfl, hev, hI, hp, fp, fm, db, bs, lv, hB, rfl, hg⟩
end Go.Proofs.YtmdckddenelneaaGreatDoor

/- A play: two balances, a tick, a script. -/
namespace Go.Proofs.YtmdckddenelneaaGreatDoor
open Go.RowKit

/-- the two, and the tick -/
structure Lh.Duo where
  A : Lh.Bl
  B : Lh.Bl
  now : Int
def Lh.Duo.sel (D : Lh.Duo) (b : Bool) : Lh.Bl := if b then D.B else D.A
def Lh.Duo.put (D : Lh.Duo) (b : Bool) (S : Lh.Bl) : Lh.Duo := if b then { D with B := S } else { D with A := S }
def duoB : Lh.Bl := ⟨2, 2, 31, 20, Lh.hnew four, [], 0, 0, []⟩
/-- what a number does, by what is left of it modulo 8 -/
def StepR (nw : List ByteArray → Nat → Nat → ByteArray) (D : Lh.Duo) (n : Nat) (D' : Lh.Duo) (e : Nat) : Prop :=
  ∃ q b host is, q = n / 8 ∧ b = decide (q % 2 = 1) ∧ host = four.getD (q / 2 % 4) ByteArray.empty ∧ is = decide (q / 8 % 2 = 1) ∧
    ((n % 8 ≤ 2 ∧ ∃ S' s kept, PickR nw (D.sel b) (q / 2) D.now S' s kept e ∧ D' = D.put b S') ∨
     (n % 8 = 3 ∧ ∃ S' tu, LookR (D.sel b) host is S' tu e ∧ D' = D.put b S') ∨
     (n % 8 = 4 ∧ ∃ S', DrainR (D.sel b) host is S' e ∧ D' = D.put b S') ∨
     (n % 8 = 5 ∧ e = 0 ∧ D' = { D with now := D.now + 1 + ((q % 8 : Nat) : Int) }) ∨
     (n % 8 = 6 ∧ ∃ S' s c, ExportR (D.sel b) S' s c ∧ ((c ≠ 0 ∧ e = c ∧ D' = D.put b S') ∨ (c = 0 ∧ ∃ T' k pl, ImportR (D.sel !b) (Lh.textL ((D.sel b).ep + 1).toNat (D.sel b).L) D.now T' k e pl ∧ D' = (D.put b S').put (!b) T'))) ∨
     (n % 8 = 7 ∧ ∃ A' sa ka ca B' sb kb cb, PickR nw D.A 0 D.now A' sa ka ca ∧ PickR nw D.B 0 D.now B' sb kb cb ∧ e = (if ca = 0 then cb else ca) ∧ D' = { D with A := A', B := B' }))
def OneR (nw : List ByteArray → Nat → Nat → ByteArray) (D : Lh.Duo) (v : Int) (D' : Lh.Duo) (e : Int) : Prop :=
  (v < 0 ∧ D' = D ∧ e = -1) ∨ ∃ (n c : Nat), v = (n : Int) ∧ e = (c : Int) ∧ StepR nw D n D' c
def RunR (nw : List ByteArray → Nat → Nat → ByteArray) : Lh.Duo → List Int → List Int → Lh.Duo → Prop
  | D, [], es, D' => es = [] ∧ D' = D
  | D, v :: vs, es, D' => ∃ e D1 es1, OneR nw D v D1 e ∧ es = e :: es1 ∧ RunR nw D1 vs es1 D'
section
variable {nw : List ByteArray → Nat → Nat → ByteArray}
end
end Go.Proofs.YtmdckddenelneaaGreatDoor

/- A play: what is right stays right. -/
namespace Go.Proofs.YtmdckddenelneaaGreatDoor
open Go.RowKit

section
variable {nw : List ByteArray → Nat → Nat → ByteArray}
theorem pickR_ok (hnwI : ∀ {xs : List ByteArray} {n : Nat} (k : Nat), xs ≠ [] → Lh.Prm n → nw xs n k ∈ xs) {S S' : Lh.Bl} {k : Nat} {now : Int} {s : ByteArray} {kept : Bool} {c : Nat} (h : Lh.BOk S) (hk : k < 18446744073709551616) (hp : PickR nw S k now S' s kept c) : Lh.BOk S' := by
  rcases hp with ⟨j, _, rfl, _⟩ | ⟨⟨h0, h1, _⟩, hkp, _, _, rfl⟩ | ⟨⟨h0, h1, _⟩, _, _, _, _, _, rfl⟩ | ⟨⟨h0, h1, _⟩, _, ho, rfl, _, _, rfl⟩
  · exact h
  · have hup : Lh.hup S.hs s = true := by obtain ⟨_, _, _, h⟩ := hkp; exact h
    obtain ⟨hn, hs⟩ := Lh.hup_nm h hup
    exact h.put hk hn hs h0 h1
  · exact h.tick h0 h1
  · obtain ⟨hn, hs⟩ := Lh.hup_nm h (Lh.bopen_mem.1 (hnwI k ho h.prm)).1
    exact h.put hk hn hs h0 h1
theorem lookR_ok {S S' : Lh.Bl} {s : ByteArray} {w t : Bool} {c : Nat} (h : Lh.BOk S) (hl : LookR S s w S' t c) : Lh.BOk S' := by
  rcases hl with ⟨hx, _, _, rfl⟩ | ⟨_, _, _, rfl⟩
  · exact h.look hx
  · exact h
theorem drainR_ok {S S' : Lh.Bl} {s : ByteArray} {w : Bool} {c : Nat} (h : Lh.BOk S) (hl : DrainR S s w S' c) : Lh.BOk S' := by
  rcases hl with ⟨_, _, rfl⟩ | ⟨_, _, rfl⟩
  · exact h.drain _
  · exact h
theorem exportR_ok {S S' : Lh.Bl} {s : ByteArray} {c : Nat} (h : Lh.BOk S) (hl : ExportR S S' s c) : Lh.BOk S' := by
  rcases hl with ⟨hx, _, _, rfl⟩ | ⟨_, _, _, rfl⟩
  · exact h.epoch (by have := h.ep0; omega) (by omega)
  · exact h
theorem importR_ok {S S' : Lh.Bl} {s : List UInt8} {now : Int} {n c : Nat} {pl : Int} (h : Lh.BOk S) (hi : ImportR S s now S' n c pl) : Lh.BOk S' := by
  obtain ⟨e, l, c0, pl0, hr, hc⟩ := hi
  rcases hc with ⟨_, rfl, _⟩ | ⟨_, _, rfl, _⟩ | ⟨_, _, _, _, rfl, _⟩ | ⟨rfl, he, ⟨h0, h1, _⟩, _, _, _, rfl⟩
  · exact h
  · exact h
  · exact h
  · obtain ⟨_, hca, hki, _⟩ := read_good hr
    rcases hca with ⟨_, h, _⟩ | ⟨_, j, hj, _, _, hf⟩ | ⟨⟨e0, e1, _⟩, hg, _⟩
    · exact absurd h (by decide)
    · rcases hf with ⟨_, h⟩ | ⟨_, _, h⟩ | ⟨_, _, _, _, h⟩ <;> exact absurd h (by decide)
    · have h2 := Lh.BOk.add h h0 h1 (l.filter fun x => Lh.hup S.hs x.2.1) (M := S.L) (h.tick h0 h1) fun x hx => by
        have hx' := (List.mem_filter.1 hx).1
        obtain ⟨j, hj, rfl⟩ := List.getElem_of_mem hx'
        have hn := (hg j hj).1
        refine ⟨hki _ hx', ?_, hn⟩
        have h12 : (l[j]).2.1.size ≤ 12 := by
          unfold Lh.isNm at hn
          simp at hn
          exact hn.1.1.2
        omega
      exact h2.epoch e0 e1
end
theorem duo_ok : Lh.BOk duoB := by
  obtain ⟨_, hnd, hl, _, hsz, hnm⟩ := four_fault
  have h := four_bok
  refine ⟨Lh.hnew_ok (by simp [duoB]) (by simp [duoB]) (by simp [duoB]) (by simp [duoB]) hl hnd hsz, h.nm, h.ok, h.host, h.hi, h.t1, h.t2, h.prm, h.s5, h.ep0, h.ep1, h.la0, h.la1⟩
end Go.Proofs.YtmdckddenelneaaGreatDoor

/- What the laws of a play ask of the landed package. -/
namespace Go.Proofs.YtmdckddenelneaaGreatDoor
open Go.RowKit

/-- a duo: two balances, their blocks; the block that holds both; where they begin -/
structure DR where
  A : Lh.Bl
  B : Lh.Bl
  FA : Nat → Prop
  FB : Nat → Prop
  d : Nat
  p : Nat
  q : Nat
def DR.F (x : DR) (b : Nat) : Prop := x.FA b ∨ x.FB b ∨ b = x.d
/-- .. in memory -/
structure DR.At (hC : BalanceC) (x : DR) (W : World) : Prop where
  c0 : W.cell? ⟨x.d, 0, none⟩ = some (.pointer (some ⟨x.p, 0, none⟩))
  c1 : W.cell? ⟨x.d, 1, none⟩ = some (.pointer (some ⟨x.q, 0, none⟩))
  ra : hC.Rep x.A x.FA x.p W
  rb : hC.Rep x.B x.FB x.q W
  oka : Lh.BOk x.A
  okb : Lh.BOk x.B
  apart : ∀ b, x.FA b → ¬ x.FB b
  da : ¬ x.FA x.d
  db : ¬ x.FB x.d
/-- a list of numbers that the callee made -/
def IntsNew (B : Nat) (W : World) (v : Value) (xs : List Int) : Prop :=
  (xs = [] ∧ ∃ p c, v = .slice p 0 c) ∨ ∃ b o c, v = .slice (some ⟨b, o, none⟩) xs.length c ∧ B ≤ b ∧ ∀ k (h : k < xs.length), W.cell? ⟨b, o + k, none⟩ = some (.int .i64 xs[k])
theorem IntsNew.ints {B : Nat} {W : World} {v : Value} {xs : List Int} (h : IntsNew B W v xs) : Ints W v xs := by
  rcases h with h | ⟨b, o, c, h1, _, h2⟩
  · exact Or.inl h
  · exact Or.inr ⟨b, o, c, h1, h2⟩
/-- numbers that lie apart from F -/
def IntsOff (F : Nat → Prop) (v : Value) (n : Nat) : Prop := ∀ b o k c, v = .slice (some ⟨b, o, none⟩) k c → 0 < n → ¬ F b
/-- a slice has room for what it has -/
def Room (v : Value) : Prop := ∀ p n c, v = .slice p n c → n ≤ c
/-- what the landed package keeps -/
structure PlayC (hC : BalanceC) where
  E : (Nat → Addr) → World → Prop
  eLater : ∀ {a : Nat → Addr} {W W' : World}, E a W → Below W.heap.size W W' → E a W'
  errs : ∀ {a : Nat → Addr} {W : World}, E a W → Errs a W
  newD : ∀ (a : Nat → Addr) (W : World), E a W → Calls Tryz.prog 18 #[] W fun e W' => ∃ x : DR, e = .returned (.pointer (some ⟨x.d, 0, none⟩)) ∧ x.At hC W' ∧ x.A = duoB ∧ x.B = duoB ∧ (∀ b, x.F b → W.heap.size ≤ b) ∧ Below W.heap.size W W'
  run : ∀ (a : Nat → Addr) (x : DR) (v : Value) (sc : List Int) (W : World), E a W → x.At hC W → Ints W v sc → Room v → IntsOff x.F v sc.length → sc.length ≤ 3000 → (∀ z ∈ sc, z < 9223372036854775808) →
    Calls Tryz.prog 19 #[.pointer (some ⟨x.d, 0, none⟩), v] W fun e W' => ∃ (y : DR) (es : List Int) (now : Int) (v' : Value), e = .returned v' ∧ RunR hC.nw ⟨x.A, x.B, 0⟩ sc es ⟨y.A, y.B, now⟩ ∧ y.At hC W' ∧ y.d = x.d ∧ y.p = x.p ∧ y.q = x.q ∧ (∀ b, y.F b → x.F b ∨ W.heap.size ≤ b) ∧ Tur x.F W W' ∧ IntsNew W.heap.size W' v' es
  keys : ∀ (n : Int) (W : World), Calls Tryz.prog 8 #[.int .i64 n] W fun e W' => ∃ v, e = .returned v ∧ U64s W' v ((List.range (min n.toNat 500)).map Lh.turn) ∧ Below W.heap.size W W'
section
variable {hC : BalanceC} {x y z x' : DR} {W W' : World}
theorem DR.At.lt (h : x.At hC W) : ∀ b, x.F b → b < W.heap.size := by
  rintro b (hb | hb | rfl)
  · exact hC.lt h.ra b hb
  · exact hC.lt h.rb b hb
  · exact World.block_lt_of_cell? _ _ h.c0
theorem cell_same {W W' : World} {b i : Nat} {v : Value} (h : W'.heap[b]? = W.heap[b]?) (hc : W.cell? ⟨b, i, none⟩ = some v) : W'.cell? ⟨b, i, none⟩ = some v := by
  simp only [World.cell?, h] at hc ⊢
  exact hc
theorem DR.At.stay (h : x.At hC W) (hs : W.heap.size ≤ W'.heap.size) (hb : ∀ b, x.F b → W'.heap[b]? = W.heap[b]?) : x.At hC W' :=
  ⟨cell_same (hb _ (Or.inr (Or.inr rfl))) h.c0, cell_same (hb _ (Or.inr (Or.inr rfl))) h.c1, hC.stay h.ra hs fun b hf => hb b (Or.inl hf), hC.stay h.rb hs fun b hf => hb b (Or.inr (Or.inl hf)), h.oka, h.okb, h.apart, h.da, h.db⟩
theorem DR.At.later (h : x.At hC W) (hb : Below W.heap.size W W') : x.At hC W' := h.stay hb.size fun b hf => hb.block b (h.lt b hf)
end
end Go.Proofs.YtmdckddenelneaaGreatDoor

/- What a play asks of the landed balance besides its contracts. -/
namespace Go.Proofs.YtmdckddenelneaaGreatDoor
open Go.RowKit

/-- all that a balance owns lies behind K, and what it asks of the variables lies ahead of K -/
structure BalP (hC : BalanceC) where
  K : Nat
  low : ∀ {a : Nat → Addr} {W : World}, hC.E a W → K ≤ W.heap.size
  rep : ∀ {S : Lh.Bl} {F : Nat → Prop} {p : Nat} {W : World}, hC.Rep S F p W → ∀ b, F b → K ≤ b
  tur : ∀ {a : Nat → Addr} {F : Nat → Prop} {W W' : World}, hC.E a W → Tur F W W' → (∀ b, F b → K ≤ b) → hC.E a W'
  errs : ∀ {a : Nat → Addr} {W : World}, hC.E a W → Errs a W
  x : ∀ {a : Nat → Addr} {W : World}, hC.E a W → hC.X a W

theorem evOf_is {a : Nat → Addr} {W : World} {c : Nat} {ev : Value} (h : EvOf a c ev) (hc : c ≤ 9) : ErrIs a W c (-1) ev := by
  rcases h with ⟨rfl, rfl⟩ | ⟨j, rfl, rfl⟩
  · exact Or.inl ⟨rfl, rfl, rfl⟩
  · exact Or.inr ⟨j, by omega, rfl, Or.inl ⟨rfl, rfl⟩⟩
theorem pickR_c {nw : List ByteArray → Nat → Nat → ByteArray} {S S' : Lh.Bl} {k : Nat} {now : Int} {s : ByteArray} {kept : Bool} {c : Nat} (h : PickR nw S k now S' s kept c) : c ≤ 9 := by
  rcases h with ⟨j, hf, _, _, _, rfl⟩ | ⟨_, _, _, rfl, _⟩ | ⟨_, _, _, _, _, rfl, _⟩ | ⟨_, _, _, _, _, rfl, _⟩
  · rcases hf with ⟨_, rfl⟩ | ⟨_, _, _, rfl⟩ <;> decide
  all_goals decide
theorem lookR_c {S S' : Lh.Bl} {s : ByteArray} {w t : Bool} {c : Nat} (h : LookR S s w S' t c) : c ≤ 9 := by
  rcases h with ⟨_, _, rfl, _⟩ | ⟨_, _, rfl, _⟩ <;> decide
theorem drainR_c {S S' : Lh.Bl} {s : ByteArray} {w : Bool} {c : Nat} (h : DrainR S s w S' c) : c ≤ 9 := by
  rcases h with ⟨_, rfl, _⟩ | ⟨_, rfl, _⟩ <;> decide
theorem exportR_c {S S' : Lh.Bl} {s : ByteArray} {c : Nat} (h : ExportR S S' s c) : c ≤ 9 := by
  rcases h with ⟨_, _, rfl, _⟩ | ⟨_, _, rfl, _⟩ <;> decide

theorem Tur.wideP {F G : Nat → Prop} {w w1 : World} (h : Tur F w w1) (hG : ∀ b, F b → G b) : Tur G w w1 := ⟨h.os, h.tape, h.output, h.size, fun k hk hf => h.block k hk fun hb => hf (hG k hb)⟩
theorem tur_setP (W : World) (g i : Nat) (v : Value) : Tur (fun b => b = g) W (W.setCell ⟨g, i, none⟩ v) :=
  ⟨rfl, rfl, rfl, by simp [World.setCell], fun j _ hf => heap_setCell_other W ⟨g, i, none⟩ j v fun e => hf e⟩
def DR.bal (x : DR) (b : Bool) : Lh.Bl := if b then x.B else x.A
def DR.foot (x : DR) (b : Bool) : Nat → Prop := if b then x.FB else x.FA
def DR.ptr (x : DR) (b : Bool) : Nat := if b then x.q else x.p
def DR.put (x : DR) (b : Bool) (S : Lh.Bl) (F : Nat → Prop) : DR := if b then { x with B := S, FB := F } else { x with A := S, FA := F }
theorem DR.sel_bal (x : DR) (b : Bool) (now : Int) : (⟨x.A, x.B, now⟩ : Lh.Duo).sel b = x.bal b := by cases b <;> rfl
theorem DR.put_duo (x : DR) (b : Bool) (S : Lh.Bl) (F : Nat → Prop) (now : Int) : (⟨(x.put b S F).A, (x.put b S F).B, now⟩ : Lh.Duo) = (⟨x.A, x.B, now⟩ : Lh.Duo).put b S := by cases b <;> rfl

/-- a game in memory: the duo, and the tick -/
structure GS (hC : BalanceC) (hB : BalP hC) (a : Nat → Addr) (g : Nat) (x : DR) (now : Int) (W : World) : Prop where
  e : hC.E a W
  at_ : x.At hC W
  g0 : W.cell? ⟨g, 0, none⟩ = some (.pointer (some ⟨x.d, 0, none⟩))
  g1 : W.cell? ⟨g, 1, none⟩ = some (.int .i64 now)
  gx : ¬ x.F g
  gK : hB.K ≤ g
  gz : W.frozen? ⟨g, 1, none⟩ = false
/-- from one to the other -/
structure GTo (g : Nat) (x y : DR) (W W' : World) : Prop where
  d : y.d = x.d
  p : y.p = x.p
  q : y.q = x.q
  new : ∀ b, y.FA b ∨ y.FB b → x.FA b ∨ x.FB b ∨ W.heap.size ≤ b
  tur : Tur (fun b => x.FA b ∨ x.FB b ∨ b = g) W W'
section
variable {hC : BalanceC} {hB : BalP hC} {a : Nat → Addr} {g : Nat} {x y z : DR} {now : Int} {W W' W'' : World}
theorem GTo.of_below (h : Below W.heap.size W W') : GTo g x x W W' := ⟨rfl, rfl, rfl, fun _ hb => hb.elim Or.inl fun h => Or.inr (Or.inl h), Tur.of_below h⟩
theorem GTo.trans (h : GTo g x y W W') (k : GTo g y z W' W'') : GTo g x z W W'' := by
  refine ⟨k.d.trans h.d, k.p.trans h.p, k.q.trans h.q, fun b hb => ?_, h.tur.trans k.tur fun b hb => ?_⟩
  · rcases k.new b hb with h1 | h1 | h1
    · exact h.new b (Or.inl h1)
    · exact h.new b (Or.inr h1)
    · exact Or.inr (Or.inr (Nat.le_trans h.tur.size h1))
  · rcases hb with h1 | h1 | h1
    · rcases h.new b (Or.inl h1) with q | q | q
      · exact Or.inl (Or.inl q)
      · exact Or.inl (Or.inr (Or.inl q))
      · exact Or.inr q
    · rcases h.new b (Or.inr h1) with q | q | q
      · exact Or.inl (Or.inl q)
      · exact Or.inl (Or.inr (Or.inl q))
      · exact Or.inr q
    · exact Or.inl (Or.inr (Or.inr h1))
theorem GS.glt (h : GS hC hB a g x now W) : g < W.heap.size := World.block_lt_of_cell? W _ h.g0
theorem GS.later (h : GS hC hB a g x now W) (hb : Below W.heap.size W W') : GS hC hB a g x now W' := ⟨hC.eLater h.e hb, h.at_.later hb, below_cell hb h.g0, below_cell hb h.g1, h.gx, h.gK, (World.frozen?_of_block (w := W) (w' := W') (a := ⟨g, 1, none⟩) (hb.block g h.glt)).trans h.gz⟩
theorem GS.rep (h : GS hC hB a g x now W) (b : Bool) : hC.Rep (x.bal b) (x.foot b) (x.ptr b) W := by
  cases b
  · exact h.at_.ra
  · exact h.at_.rb
theorem GS.ok (h : GS hC hB a g x now W) (b : Bool) : Lh.BOk (x.bal b) := by
  cases b
  · exact h.at_.oka
  · exact h.at_.okb
theorem foot_cell {F : Nat → Prop} (hT : Tur F W W') {b i : Nat} {v : Value} (hx : ¬ F b) (h : W.cell? ⟨b, i, none⟩ = some v) : W'.cell? ⟨b, i, none⟩ = some v :=
  cell_same (hT.block b (World.block_lt_of_cell? W _ h) hx) h
/-- one side turned -/
theorem GS.turned (h : GS hC hB a g x now W) (b : Bool) {S' : Lh.Bl} {F' : Nat → Prop} (hR : hC.Rep S' F' (x.ptr b) W') (hok : Lh.BOk S') (hF : ∀ c, F' c → x.foot b c ∨ W.heap.size ≤ c) (hT : Tur (x.foot b) W W') : GS hC hB a g (x.put b S' F') now W' ∧ GTo g x (x.put b S' F') W W' := by
  obtain ⟨he, ⟨c0, c1, ra, rb, oka, okb, hap, hda, hdb⟩, hg0, hg1, hgx, hgK, hgz⟩ := h
  have hdl := World.block_lt_of_cell? W _ c0
  have hgl := World.block_lt_of_cell? W _ hg0
  simp only at hdl hgl
  cases b
  · refine ⟨⟨hB.tur he hT fun b hb => hB.rep ra b hb, ⟨foot_cell hT hda c0, foot_cell hT hda c1, hR, hC.stay rb hT.size fun b hb => hT.block b (hC.lt rb b hb) fun hf => hap b hf hb, hok, okb, fun b hb hg => ?_, fun hf => ?_, hdb⟩, foot_cell hT (fun q => hgx (Or.inl q)) hg0, foot_cell hT (fun q => hgx (Or.inl q)) hg1, fun hf => ?_, hgK, (World.frozen?_of_block (w := W) (w' := W') (a := ⟨g, 1, none⟩) (hT.block g hgl fun q => hgx (Or.inl q))).trans hgz⟩, rfl, rfl, rfl, fun b hb => ?_, hT.wideP fun b hb => Or.inl hb⟩
    · rcases hF b hb with h1 | h1
      · exact hap b h1 hg
      · have := hC.lt rb b hg
        omega
    · rcases hF _ hf with h1 | h1
      · exact hda h1
      · exact absurd h1 (Nat.not_le.2 hdl)
    · rcases hf with h1 | h1 | h1
      · rcases hF _ h1 with h2 | h2
        · exact hgx (Or.inl h2)
        · omega
      · exact hgx (Or.inr (Or.inl h1))
      · exact hgx (Or.inr (Or.inr h1))
    · rcases hb with h1 | h1
      · rcases hF _ h1 with h2 | h2
        · exact Or.inl h2
        · exact Or.inr (Or.inr h2)
      · exact Or.inr (Or.inl h1)
  · refine ⟨⟨hB.tur he hT fun b hb => hB.rep rb b hb, ⟨foot_cell hT hdb c0, foot_cell hT hdb c1, hC.stay ra hT.size fun b hb => hT.block b (hC.lt ra b hb) fun hf => hap b hb hf, hR, oka, hok, fun b hb hg => ?_, hda, fun hf => ?_⟩, foot_cell hT (fun q => hgx (Or.inr (Or.inl q))) hg0, foot_cell hT (fun q => hgx (Or.inr (Or.inl q))) hg1, fun hf => ?_, hgK, (World.frozen?_of_block (w := W) (w' := W') (a := ⟨g, 1, none⟩) (hT.block g hgl fun q => hgx (Or.inr (Or.inl q)))).trans hgz⟩, rfl, rfl, rfl, fun b hb => ?_, hT.wideP fun b hb => Or.inr (Or.inl hb)⟩
    · rcases hF b hg with h1 | h1
      · exact hap b hb h1
      · have := hC.lt ra b hb
        omega
    · rcases hF _ hf with h1 | h1
      · exact hdb h1
      · exact absurd h1 (Nat.not_le.2 hdl)
    · rcases hf with h1 | h1 | h1
      · exact hgx (Or.inl h1)
      · rcases hF _ h1 with h2 | h2
        · exact hgx (Or.inr (Or.inl h2))
        · omega
      · exact hgx (Or.inr (Or.inr h1))
    · rcases hb with h1 | h1
      · exact Or.inl h1
      · rcases hF _ h1 with h2 | h2
        · exact Or.inr (Or.inl h2)
        · exact Or.inr (Or.inr h2)
/-- the tick turned -/
theorem GS.ticked (h : GS hC hB a g x now W) (n : Int) : GS hC hB a g x n (W.setCell ⟨g, 1, none⟩ (.int .i64 n)) ∧ GTo g x x W (W.setCell ⟨g, 1, none⟩ (.int .i64 n)) := by
  have hT : Tur (fun b => b = g) W (W.setCell ⟨g, 1, none⟩ (.int .i64 n)) := tur_setP W g 1 _
  refine ⟨⟨hB.tur h.e hT fun b hb => by subst hb; exact h.gK, h.at_.stay hT.size fun b hb => hT.block b (h.at_.lt b hb) fun e => h.gx (by subst e; exact hb), ?_, ?_, h.gx, h.gK, by rw [World.frozen?_setCell]; exact h.gz⟩, rfl, rfl, rfl, fun b hb => hb.elim Or.inl fun h => Or.inr (Or.inl h), hT.wideP fun b hb => Or.inr (Or.inr hb)⟩
  · rw [World.cell?_setCell_other _ _ _ _ (by simp)]
    exact h.g0
  · exact World.cell?_setCell_same' _ _ _ (by rw [h.g1]; rfl)
end
end Go.Proofs.YtmdckddenelneaaGreatDoor

/- The landed balance, as a play has it: all that it owns is newer than the world at which all began. -/
namespace Go.Proofs.YtmdckddenelneaaGreatDoor
open Go.RowKit

/-- what a play asks of the variables: all of them are as they were at w0 -/
structure EP (w0 : World) (a : Nat → Addr) (W : World) : Prop where
  e : Errs a w0
  c : EC a w0
  b : Below w0.heap.size w0 W
section
variable {w0 W W' : World} {a : Nat → Addr}
theorem EP.later (h : EP w0 a W) (hb : Below W.heap.size W W') : EP w0 a W' := ⟨h.e, h.c, below_then h.b hb⟩
theorem EP.errs (h : EP w0 a W) : Errs a W := h.e.later h.b
theorem EP.eb (h : EP w0 a W) : EB a W := EB.of h.errs
theorem EP.ec (h : EP w0 a W) : EC a W := h.c.later h.b
theorem EP.tur {F : Nat → Prop} (h : EP w0 a W) (hT : Tur F W W') (hF : ∀ b, F b → w0.heap.size ≤ b) : EP w0 a W' := ⟨h.e, h.c, hT.below hF h.b (Nat.le_refl _)⟩
theorem EP.new (h : EP w0 a W) {F F' : Nat → Prop} (hF : ∀ b, F b → w0.heap.size ≤ b) (h' : ∀ b, F' b → F b ∨ W.heap.size ≤ b) : ∀ b, F' b → w0.heap.size ≤ b := fun b hb => (h' b hb).elim (hF b) fun q => Nat.le_trans h.b.size q
end
def RepP (w0 : World) (S : Lh.Bl) (F : Nat → Prop) (p : Nat) (W : World) : Prop := RepB S F p W ∧ ∀ b, F b → w0.heap.size ≤ b
def balanceOver (w0 : World) : BalanceC where
  E := EP w0
  eLater := fun h hb => h.later hb
  X := fun _ _ => True
  xLater := fun _ _ => trivial
  nw := nwB
  nwIn := fun k h _ => nwB_in k h
  Rep := RepP w0
  lt := fun h => h.1.lt
  stay := fun h _ hs => ⟨h.1.stay hs, h.2⟩
  newG := fun a v xs n t f r W he hv h0 hf hs hp h5 h1 h2 h3 h4 h6 h7 => (newG_bal a v xs n t f r W he.eb hv h0 hf hs hp h5 h1 h2 h3 h4 h6 h7).mono fun _ _ ⟨p, F, q1, q2, q3, q4⟩ => ⟨p, F, q1, ⟨q2, fun b hb => Nat.le_trans he.b.size (q3 b hb)⟩, q3, q4⟩
  pick := fun a S F p k now W he hR hk hkk => (pick_bal a S F p k now W he.eb hR.1 hk hkk).mono fun _ _ ⟨F', S', s, kept, c, ev, q1, q2, q3, q4, q5, q6⟩ => ⟨F', S', s, kept, c, ev, q1, q2, q3, q4, q5, q6, he.new hR.2 q1⟩
  look := fun a S F p s well W he hR hk _ => (look_bal a S F p s well W he.eb hR.1 hk).mono fun _ _ ⟨F', S', t, c, ev, q1, q2, q3, q4, q5, q6⟩ => ⟨F', S', t, c, ev, q1, q2, q3, q4, q5, q6, he.new hR.2 q1⟩
  drain := fun a S F p s is W he hR hk _ => (drain_bal a S F p s is W he.eb hR.1 hk).mono fun _ _ ⟨F', S', c, ev, q1, q2, q3, q4, q5, q6⟩ => ⟨F', S', c, ev, q1, q2, q3, q4, q5, q6, he.new hR.2 q1⟩
  up := fun S F p W hR hk => up_bal S F p W hR.1 hk
  flows := fun S F p W hR hk => flows_bal S F p W hR.1 hk
  epoch := fun S F p W hR => epoch_bal S F p W hR.1
  export_ := fun a S F p W he _ hR hk => (export_bal a S F p W he.ec hR.1 hk).mono fun _ _ ⟨F', S', s, c, ev, q1, q2, q3, q4, q5, q6⟩ => ⟨F', S', s, c, ev, q1, q2, q3, q4, q5, q6, he.new hR.2 q1⟩
  import_ := fun a S F p s now W he _ hR hk hs => (import_bal a S F p s now W he.eb he.ec hR.1 hk hs).mono fun _ _ ⟨F', S', n, c, pl, ev, q1, q2, q3, q4, q5, q6⟩ => ⟨F', S', n, c, pl, ev, q1, q2, q3, q4, q5, q6, he.new hR.2 q1⟩
def balP (w0 : World) : BalP (balanceOver w0) where
  K := w0.heap.size
  low := fun h => h.b.size
  rep := fun h => h.2
  tur := fun h hT hF => h.tur hT hF
  errs := fun h => h.errs
  x := fun _ => trivial
end Go.Proofs.YtmdckddenelneaaGreatDoor

/- The landed play: its small functions. -/
namespace Go.Proofs.YtmdckddenelneaaGreatDoor
open Go.RowKit

theorem odd_int (n : Nat) : ((n : Int) % 2 == 1) = decide (n % 2 = 1) := by
  have e : ((n : Int) % 2 = 1) ↔ n % 2 = 1 := by omega
  by_cases h : n % 2 = 1
  · rw [decide_eq_true h]
    simpa using e.2 h
  · rw [decide_eq_false h, beq_eq_false_iff_ne]
    exact fun h' => h (e.1 h')
theorem isOdd_any (n : Nat) (w : World) : Calls Tryz.prog 109 #[.int .i64 (n : Nat)] w fun e w' => e = .returned (.bool (decide (n % 2 = 1))) ∧ w' = w := by
  have i1 := odd_int n
  go_enter Tryz.func109, Tryz.ntmps109
  go_wp2
  go_ret
  exact ⟨rfl, rfl⟩
theorem flagOf_any (q : Nat) (hq : q < 9223372036854775808) (w : World) : Calls Tryz.prog 83 #[.int .i64 (q : Nat)] w fun e w' => e = .returned (.bool (decide (q / 8 % 2 = 1))) ∧ w' = w := by
  obtain ⟨r, hr⟩ : ∃ r, q / 8 = r := ⟨_, rfl⟩
  have h8 : (q : Int) / 8 = (r : Int) := by omega
  rw [hr]
  go_enter Tryz.func83, Tryz.ntmps83
  go_wp2_with fail
  refine (isOdd_any r w).mono ?_
  rintro e w1 ⟨rfl, rfl⟩
  go_wp2
  go_ret
  exact ⟨rfl, rfl⟩
theorem hostNames_any (w : World) : Calls Tryz.prog 52 #[] w fun e w' => e = .returned (.slice (some ⟨w.heap.size, 0, none⟩) 4 4) ∧ w' = w.alloc (.cells #[.string nA, .string nB, .string nC, .string nD] 9) := by
  go_enter Tryz.func52, Tryz.ntmps52
  go_wp2
  go_ret
  exact ⟨rfl, rfl⟩
theorem four_cell (w : World) {i : Nat} (hl : i < 4) : (w.alloc (.cells #[.string nA, .string nB, .string nC, .string nD] 9)).cell? ⟨w.heap.size, i, none⟩ = some (.string (four.getD i ByteArray.empty)) := by
  have : i = 0 ∨ i = 1 ∨ i = 2 ∨ i = 3 := by omega
  rcases this with rfl | rfl | rfl | rfl <;> simp [four]
theorem hostOf_any (q : Nat) (hq : q < 9223372036854775808) (w : World) : Calls Tryz.prog 82 #[.int .i64 (q : Nat)] w fun e w' => e = .returned (.string (four.getD (q / 2 % 4) ByteArray.empty)) ∧ Below w.heap.size w w' := by
  obtain ⟨r, hr⟩ : ∃ r, q / 2 % 4 = r := ⟨_, rfl⟩
  have h2 : (q : Int) / 2 % 4 = (r : Int) := by omega
  have hl : r < 4 := by omega
  have hl' : (r : Int) < 4 := by omega
  have hs := four_cell w hl
  have hb : Below w.heap.size w (w.alloc (.cells #[.string nA, .string nB, .string nC, .string nD] 9)) := (Below.refl _ _).alloc (Nat.le_refl _) _
  rw [hr]
  clear hr
  generalize four.getD r ByteArray.empty = host at *
  go_enter Tryz.func82, Tryz.ntmps82
  go_wp2_with fail
  refine (hostNames_any w).mono ?_
  rintro e w1 ⟨rfl, rfl⟩
  go_wp2
  go_ret
  exact ⟨rfl, hb⟩
/-- a new balance of a duo -/
theorem newBalance_any (hC : BalanceC) (a : Nat → Addr) (w : World) (he : hC.E a w) :
    Calls Tryz.prog 36 #[] w fun e w' => ∃ p F, e = .returned (.pointer (some ⟨p, 0, none⟩)) ∧ hC.Rep duoB F p w' ∧ (∀ b, F b → w.heap.size ≤ b) ∧ Below w.heap.size w w' := by
  obtain ⟨hf, _, hl, h0, hsz, _⟩ := four_fault
  have hb : Below w.heap.size w (w.alloc (.cells #[.string nA, .string nB, .string nC, .string nD] 9)) := (Below.refl _ _).alloc (Nat.le_refl _) _
  have hv : Strs1 (w.alloc (.cells #[.string nA, .string nB, .string nC, .string nD] 9)) (.slice (some ⟨w.heap.size, 0, none⟩) 4 4) four := Or.inr ⟨w.heap.size, 0, 4, rfl, by decide, fun k hk => by
    have h4 : k < 4 := hk
    have := four_cell w h4
    rw [Nat.zero_add, this, List.getD_eq_getElem?_getD, List.getElem?_eq_getElem hk]
    rfl⟩
  have hn := hC.newG a _ four 31 20 2 2 _ (hC.eLater he hb) hv h0 hf hsz four_bok.prm (by decide) (by decide) (by decide) (by decide) (by decide) (by decide) (by decide)
  have HN : Hid (∀ (e : Ending) w', (∃ p F, e = .returned (.tuple #[.pointer (some ⟨p, 0, none⟩), .nilIface]) ∧ hC.Rep ⟨2, 2, 31, 20, Lh.hnew four, [], 0, 0, []⟩ F p w' ∧ (∀ b, F b → (w.alloc (.cells #[.string nA, .string nB, .string nC, .string nD] 9)).heap.size ≤ b) ∧ Below (w.alloc (.cells #[.string nA, .string nB, .string nC, .string nD] 9)).heap.size (w.alloc (.cells #[.string nA, .string nB, .string nC, .string nD] 9)) w') → ∃ p F, e = .returned (.tuple #[.pointer (some ⟨p, 0, none⟩), .nilIface]) ∧ hC.Rep duoB F p w' ∧ (∀ b, F b → w.heap.size ≤ b) ∧ Below w.heap.size w w') := by
    rintro e w' ⟨p, F, h1, h2, h3, h4⟩
    exact ⟨p, F, h1, h2, fun b hb' => Nat.le_trans hb.size (h3 b hb'), below_then hb h4⟩
  clear hf hl h0 hsz hv he hb
  go_enter Tryz.func36, Tryz.ntmps36
  go_wp2_with fail
  refine (hostNames_any w).mono ?_
  rintro e w1 ⟨rfl, rfl⟩
  go_wp2_with fail
  refine hn.mono ?_
  intro e w2 h
  obtain ⟨p, F, rfl, h2, h3, h4⟩ := HN.out e w2 h
  clear hn h
  go_wp2
  go_ret
  exact ⟨p, F, rfl, h2, h3, h4⟩
/-- a new duo -/
theorem newDuo_any (hC : BalanceC) (a : Nat → Addr) (W : World) (he : hC.E a W) :
    Calls Tryz.prog 18 #[] W fun e W' => ∃ x : DR, e = .returned (.pointer (some ⟨x.d, 0, none⟩)) ∧ x.At hC W' ∧ x.A = duoB ∧ x.B = duoB ∧ (∀ b, x.F b → W.heap.size ≤ b) ∧ Below W.heap.size W W' := by
  have HE : Hid (hC.E a W) := he
  clear he
  go_enter Tryz.func18, Tryz.ntmps18
  go_wp2_with fail
  refine (newBalance_any hC a W HE.out).mono ?_
  rintro e w1 ⟨p, F, rfl, hR, hF, hb⟩
  have HR : Hid (hC.Rep duoB F p w1) := hR
  have HF : Hid (∀ b, F b → W.heap.size ≤ b) := hF
  have HB : Hid (Below W.heap.size W w1) := hb
  clear hR hF hb
  go_wp2_with fail
  refine (newBalance_any hC a w1 (hC.eLater HE.out HB.out)).mono ?_
  rintro e w2 ⟨q, G, rfl, hR2, hG, hb2⟩
  have HR2 : Hid (hC.Rep duoB G q w2) := hR2
  have HG : Hid (∀ b, G b → w1.heap.size ≤ b) := hG
  have HB2 : Hid (Below w1.heap.size w1 w2) := hb2
  clear hR2 hG hb2
  go_wp2
  go_ret
  have hb3 : Below w2.heap.size w2 (w2.alloc (.cells #[.pointer (some ⟨p, 0, none⟩), .pointer (some ⟨q, 0, none⟩)] 51)) := (Below.refl _ _).alloc (Nat.le_refl _) _
  have h1 := hC.later (hC.later HR.out HB2.out) hb3
  have h2 := hC.later HR2.out hb3
  refine ⟨⟨duoB, duoB, F, G, w2.heap.size, p, q⟩, rfl, ⟨by simp, by simp, h1, h2, duo_ok, duo_ok, fun b hb hg => ?_, fun hb => ?_, fun hb => ?_⟩, rfl, rfl, fun b hb => ?_, below_then (below_then HB.out HB2.out) hb3⟩
  · have := hC.lt HR.out b hb
    have := HG.out b hg
    omega
  · have := hC.lt HR.out _ hb
    have := HB2.out.size
    exact absurd (Nat.le_trans this (Nat.le_refl _)) (by simp only at *; omega)
  · have := hC.lt HR2.out _ hb
    simp only at this
    omega
  · have s1 := HB.out.size
    have s2 := HB2.out.size
    rcases hb with h | h | h
    · exact HF.out b h
    · exact Nat.le_trans s1 (HG.out b h)
    · have h : b = w2.heap.size := h
      omega
end Go.Proofs.YtmdckddenelneaaGreatDoor
