/- A play: what is right stays right. -/
import Derived.Test.YtmdckddenelneaaGreatDoorM41
namespace Go.Proofs.YtmdckddenelneaaGreatDoor
open Go.RowKit

section
variable {nw : List ByteArray → Nat → Nat → ByteArray}
theorem pickR_ok (hnwI : ∀ {xs : List ByteArray} {n : Nat} (k : Nat), xs ≠ [] → Lh.Prm n → nw xs n k ∈ xs) {S S' : Lh.Bl} {k : Nat} {now : Int} {s : ByteArray} {kept : Bool} {c : Nat} (h : Lh.BOk S) (hk : k < 18446744073709551616) (hp : PickR nw S k now S' s kept c) : Lh.BOk S' := by
  rcases hp with ⟨j, _, rfl, _⟩ | ⟨⟨h0, h1, _⟩, hkp, _, _, rfl⟩ | ⟨⟨h0, h1, _⟩, _, _, _, _, _, rfl⟩ | ⟨⟨h0, h1, _⟩, _, ho, rfl, _, _, rfl⟩
  · exact h
  · have hup : Lh.hup S.hs s = true := by obtain ⟨_, _, _, h⟩ := hkp; exact h
    obtain ⟨hn, hs⟩ := Lh.hup_nm h hup
    exact h.put hk hn hs h0 h1
  · exact h.tick h0 h1
  · obtain ⟨hn, hs⟩ := Lh.hup_nm h (Lh.bopen_mem.1 (hnwI k ho h.prm)).1
    exact h.put hk hn hs h0 h1
theorem lookR_ok {S S' : Lh.Bl} {s : ByteArray} {w t : Bool} {c : Nat} (h : Lh.BOk S) (hl : LookR S s w S' t c) : Lh.BOk S' := by
  rcases hl with ⟨hx, _, _, rfl⟩ | ⟨_, _, _, rfl⟩
  · exact h.look hx
  · exact h
theorem drainR_ok {S S' : Lh.Bl} {s : ByteArray} {w : Bool} {c : Nat} (h : Lh.BOk S) (hl : DrainR S s w S' c) : Lh.BOk S' := by
  rcases hl with ⟨_, _, rfl⟩ | ⟨_, _, rfl⟩
  · exact h.drain _
  · exact h
theorem exportR_ok {S S' : Lh.Bl} {s : ByteArray} {c : Nat} (h : Lh.BOk S) (hl : ExportR S S' s c) : Lh.BOk S' := by
  rcases hl with ⟨hx, _, _, rfl⟩ | ⟨_, _, _, rfl⟩
  · exact h.epoch (by have := h.ep0; omega) (by omega)
  · exact h
theorem importR_ok {S S' : Lh.Bl} {s : List UInt8} {now : Int} {n c : Nat} {pl : Int} (h : Lh.BOk S) (hi : ImportR S s now S' n c pl) : Lh.BOk S' := by
  obtain ⟨e, l, c0, pl0, hr, hc⟩ := hi
  rcases hc with ⟨_, rfl, _⟩ | ⟨_, _, rfl, _⟩ | ⟨_, _, _, _, rfl, _⟩ | ⟨rfl, he, ⟨h0, h1, _⟩, _, _, _, rfl⟩
  · exact h
  · exact h
  · exact h
  · obtain ⟨_, hca, hki, _⟩ := read_good hr
    rcases hca with ⟨_, h, _⟩ | ⟨_, j, hj, _, _, hf⟩ | ⟨⟨e0, e1, _⟩, hg, _⟩
    · exact absurd h (by decide)
    · rcases hf with ⟨_, h⟩ | ⟨_, _, h⟩ | ⟨_, _, _, _, h⟩ <;> exact absurd h (by decide)
    · have h2 := Lh.BOk.add h h0 h1 (l.filter fun x => Lh.hup S.hs x.2.1) (M := S.L) (h.tick h0 h1) fun x hx => by
        have hx' := (List.mem_filter.1 hx).1
        obtain ⟨j, hj, rfl⟩ := List.getElem_of_mem hx'
        have hn := (hg j hj).1
        refine ⟨hki _ hx', ?_, hn⟩
        have h12 : (l[j]).2.1.size ≤ 12 := by
          unfold Lh.isNm at hn
          simp at hn
          exact hn.1.1.2
        omega
      exact h2.epoch e0 e1
end
theorem duo_ok : Lh.BOk duoB := by
  obtain ⟨_, hnd, hl, _, hsz, hnm⟩ := four_fault
  have h := four_bok
  refine ⟨Lh.hnew_ok (by simp [duoB]) (by simp [duoB]) (by simp [duoB]) (by simp [duoB]) hl hnd hsz, h.nm, h.ok, h.host, h.hi, h.t1, h.t2, h.prm, h.s5, h.ep0, h.ep1, h.la0, h.la1⟩
end Go.Proofs.YtmdckddenelneaaGreatDoor

/- What the laws of a play ask of the landed package. -/
namespace Go.Proofs.YtmdckddenelneaaGreatDoor
open Go.RowKit

/-- a duo: two balances, their blocks; the block that holds both; where they begin -/
structure DR where
  A : Lh.Bl
  B : Lh.Bl
  FA : Nat → Prop
  FB : Nat → Prop
  d : Nat
  p : Nat
  q : Nat
def DR.F (x : DR) (b : Nat) : Prop := x.FA b ∨ x.FB b ∨ b = x.d
/-- .. in memory -/
structure DR.At (hC : BalanceC) (x : DR) (W : World) : Prop where
  c0 : W.cell? ⟨x.d, 0, none⟩ = some (.pointer (some ⟨x.p, 0, none⟩))
  c1 : W.cell? ⟨x.d, 1, none⟩ = some (.pointer (some ⟨x.q, 0, none⟩))
  ra : hC.Rep x.A x.FA x.p W
  rb : hC.Rep x.B x.FB x.q W
  oka : Lh.BOk x.A
  okb : Lh.BOk x.B
  apart : ∀ b, x.FA b → ¬ x.FB b
  da : ¬ x.FA x.d
  db : ¬ x.FB x.d
/-- a list of numbers that the callee made -/
def IntsNew (B : Nat) (W : World) (v : Value) (xs : List Int) : Prop :=
  (xs = [] ∧ ∃ p c, v = .slice p 0 c) ∨ ∃ b o c, v = .slice (some ⟨b, o, none⟩) xs.length c ∧ B ≤ b ∧ ∀ k (h : k < xs.length), W.cell? ⟨b, o + k, none⟩ = some (.int .i64 xs[k])
theorem IntsNew.ints {B : Nat} {W : World} {v : Value} {xs : List Int} (h : IntsNew B W v xs) : Ints W v xs := by
  rcases h with h | ⟨b, o, c, h1, _, h2⟩
  · exact Or.inl h
  · exact Or.inr ⟨b, o, c, h1, h2⟩
/-- numbers that lie apart from F -/
def IntsOff (F : Nat → Prop) (v : Value) (n : Nat) : Prop := ∀ b o k c, v = .slice (some ⟨b, o, none⟩) k c → 0 < n → ¬ F b
/-- a slice has room for what it has -/
def Room (v : Value) : Prop := ∀ p n c, v = .slice p n c → n ≤ c
/-- what the landed package keeps -/
structure PlayC (hC : BalanceC) where
  E : (Nat → Addr) → World → Prop
  eLater : ∀ {a : Nat → Addr} {W W' : World}, E a W → Below W.heap.size W W' → E a W'
  errs : ∀ {a : Nat → Addr} {W : World}, E a W → Errs a W
  newD : ∀ (a : Nat → Addr) (W : World), E a W → Calls Tryz.prog 18 #[] W fun e W' => ∃ x : DR, e = .returned (.pointer (some ⟨x.d, 0, none⟩)) ∧ x.At hC W' ∧ x.A = duoB ∧ x.B = duoB ∧ (∀ b, x.F b → W.heap.size ≤ b) ∧ Below W.heap.size W W'
  run : ∀ (a : Nat → Addr) (x : DR) (v : Value) (sc : List Int) (W : World), E a W → x.At hC W → Ints W v sc → Room v → IntsOff x.F v sc.length → sc.length ≤ 3000 → (∀ z ∈ sc, z < 9223372036854775808) →
    Calls Tryz.prog 19 #[.pointer (some ⟨x.d, 0, none⟩), v] W fun e W' => ∃ (y : DR) (es : List Int) (now : Int) (v' : Value), e = .returned v' ∧ RunR hC.nw ⟨x.A, x.B, 0⟩ sc es ⟨y.A, y.B, now⟩ ∧ y.At hC W' ∧ y.d = x.d ∧ y.p = x.p ∧ y.q = x.q ∧ (∀ b, y.F b → x.F b ∨ W.heap.size ≤ b) ∧ Tur x.F W W' ∧ IntsNew W.heap.size W' v' es
  keys : ∀ (n : Int) (W : World), Calls Tryz.prog 8 #[.int .i64 n] W fun e W' => ∃ v, e = .returned v ∧ U64s W' v ((List.range (min n.toNat 500)).map Lh.turn) ∧ Below W.heap.size W W'
section
variable {hC : BalanceC} {x y z x' : DR} {W W' : World}
theorem DR.At.lt (h : x.At hC W) : ∀ b, x.F b → b < W.heap.size := by
  rintro b (hb | hb | rfl)
  · exact hC.lt h.ra b hb
  · exact hC.lt h.rb b hb
  · exact World.block_lt_of_cell? _ _ h.c0
theorem cell_same {W W' : World} {b i : Nat} {v : Value} (h : W'.heap[b]? = W.heap[b]?) (hc : W.cell? ⟨b, i, none⟩ = some v) : W'.cell? ⟨b, i, none⟩ = some v := by
  simp only [World.cell?, h] at hc ⊢
  exact hc
theorem DR.At.stay (h : x.At hC W) (hs : W.heap.size ≤ W'.heap.size) (hb : ∀ b, x.F b → W'.heap[b]? = W.heap[b]?) : x.At hC W' :=
  ⟨cell_same (hb _ (Or.inr (Or.inr rfl))) h.c0, cell_same (hb _ (Or.inr (Or.inr rfl))) h.c1, hC.stay h.ra hs fun b hf => hb b (Or.inl hf), hC.stay h.rb hs fun b hf => hb b (Or.inr (Or.inl hf)), h.oka, h.okb, h.apart, h.da, h.db⟩
theorem DR.At.later (h : x.At hC W) (hb : Below W.heap.size W W') : x.At hC W' := h.stay hb.size fun b hf => hb.block b (h.lt b hf)
/-- two of them -/
structure Pair (hC : BalanceC) (B : Nat) (w W : World) (x y : DR) : Prop where
  hB : B ≤ w.heap.size
  below : Below B w W
  ax : x.At hC W
  ay : y.At hC W
  bx : ∀ b, x.F b → B ≤ b
  bY : ∀ b, y.F b → B ≤ b
  off : ∀ b, x.F b → ¬ y.F b
theorem Pair.size {B : Nat} {w : World} (h : Pair hC B w W x y) : B ≤ W.heap.size := Nat.le_trans h.hB h.below.size
theorem Pair.swap {B : Nat} {w : World} (h : Pair hC B w W x y) : Pair hC B w W y x := ⟨h.hB, h.below, h.ay, h.ax, h.bY, h.bx, fun b h1 h2 => h.off b h2 h1⟩
theorem Pair.turned {B : Nat} {w : World} (h : Pair hC B w W x y) (ha : x'.At hC W') (hF : ∀ b, x'.F b → x.F b ∨ W.heap.size ≤ b) (hT : Tur x.F W W') : Pair hC B w W' x' y := by
  refine ⟨h.hB, hT.below h.bx h.below h.hB, ha, h.ay.stay hT.size fun b hb => hT.block b (h.ay.lt b hb) fun hf => h.off b hf hb, fun b hb => ?_, h.bY, fun b hb hg => ?_⟩
  · rcases hF b hb with h1 | h1
    · exact h.bx b h1
    · exact Nat.le_trans h.size h1
  · rcases hF b hb with h1 | h1
    · exact h.off b h1 hg
    · have := h.ay.lt b hg
      omega
theorem Pair.later {B : Nat} {w : World} (h : Pair hC B w W x y) (hb : Below W.heap.size W W') : Pair hC B w W' x y :=
  h.turned (h.ax.later hb) (fun _ hf => Or.inl hf) (Tur.of_below hb)
/-- turned by a third that lies apart -/
theorem Pair.other {B : Nat} {w : World} (h : Pair hC B w W x y) {F : Nat → Prop} (hT : Tur F W W') (hF : ∀ b, F b → B ≤ b) (hx : ∀ b, F b → ¬ x.F b) (hy : ∀ b, F b → ¬ y.F b) : Pair hC B w W' x y :=
  ⟨h.hB, hT.below hF h.below h.hB, h.ax.stay hT.size fun b hb => hT.block b (h.ax.lt b hb) fun hf => hx b hf hb, h.ay.stay hT.size fun b hb => hT.block b (h.ay.lt b hb) fun hf => hy b hf hb, h.bx, h.bY, h.off⟩
end
end Go.Proofs.YtmdckddenelneaaGreatDoor

/- What a play asks of the landed balance besides its contracts. -/
namespace Go.Proofs.YtmdckddenelneaaGreatDoor
open Go.RowKit

/-- all that a balance owns lies behind K, and what it asks of the variables lies ahead of K -/
structure BalP (hC : BalanceC) where
  K : Nat
  low : ∀ {a : Nat → Addr} {W : World}, hC.E a W → K ≤ W.heap.size
  rep : ∀ {S : Lh.Bl} {F : Nat → Prop} {p : Nat} {W : World}, hC.Rep S F p W → ∀ b, F b → K ≤ b
  tur : ∀ {a : Nat → Addr} {F : Nat → Prop} {W W' : World}, hC.E a W → Tur F W W' → (∀ b, F b → K ≤ b) → hC.E a W'
  errs : ∀ {a : Nat → Addr} {W : World}, hC.E a W → Errs a W
  x : ∀ {a : Nat → Addr} {W : World}, hC.E a W → hC.X a W

theorem evOf_is {a : Nat → Addr} {W : World} {c : Nat} {ev : Value} (h : EvOf a c ev) (hc : c ≤ 9) : ErrIs a W c (-1) ev := by
  rcases h with ⟨rfl, rfl⟩ | ⟨j, rfl, rfl⟩
  · exact Or.inl ⟨rfl, rfl, rfl⟩
  · exact Or.inr ⟨j, by omega, rfl, Or.inl ⟨rfl, rfl⟩⟩
theorem pickR_c {nw : List ByteArray → Nat → Nat → ByteArray} {S S' : Lh.Bl} {k : Nat} {now : Int} {s : ByteArray} {kept : Bool} {c : Nat} (h : PickR nw S k now S' s kept c) : c ≤ 9 := by
  rcases h with ⟨j, hf, _, _, _, rfl⟩ | ⟨_, _, _, rfl, _⟩ | ⟨_, _, _, _, _, rfl, _⟩ | ⟨_, _, _, _, _, rfl, _⟩
  · rcases hf with ⟨_, rfl⟩ | ⟨_, _, _, rfl⟩ <;> decide
  all_goals decide
theorem lookR_c {S S' : Lh.Bl} {s : ByteArray} {w t : Bool} {c : Nat} (h : LookR S s w S' t c) : c ≤ 9 := by
  rcases h with ⟨_, _, rfl, _⟩ | ⟨_, _, rfl, _⟩ <;> decide
theorem drainR_c {S S' : Lh.Bl} {s : ByteArray} {w : Bool} {c : Nat} (h : DrainR S s w S' c) : c ≤ 9 := by
  rcases h with ⟨_, rfl, _⟩ | ⟨_, rfl, _⟩ <;> decide
theorem exportR_c {S S' : Lh.Bl} {s : ByteArray} {c : Nat} (h : ExportR S S' s c) : c ≤ 9 := by
  rcases h with ⟨_, _, rfl, _⟩ | ⟨_, _, rfl, _⟩ <;> decide

theorem Tur.wideP {F G : Nat → Prop} {w w1 : World} (h : Tur F w w1) (hG : ∀ b, F b → G b) : Tur G w w1 := ⟨h.os, h.tape, h.output, h.size, fun k hk hf => h.block k hk fun hb => hf (hG k hb)⟩
theorem tur_setP (W : World) (g i : Nat) (v : Value) : Tur (fun b => b = g) W (W.setCell ⟨g, i, none⟩ v) :=
  ⟨rfl, rfl, rfl, by simp [World.setCell], fun j _ hf => heap_setCell_other W ⟨g, i, none⟩ j v fun e => hf e⟩
def DR.bal (x : DR) (b : Bool) : Lh.Bl := if b then x.B else x.A
def DR.foot (x : DR) (b : Bool) : Nat → Prop := if b then x.FB else x.FA
def DR.ptr (x : DR) (b : Bool) : Nat := if b then x.q else x.p
def DR.put (x : DR) (b : Bool) (S : Lh.Bl) (F : Nat → Prop) : DR := if b then { x with B := S, FB := F } else { x with A := S, FA := F }
theorem DR.sel_bal (x : DR) (b : Bool) (now : Int) : (⟨x.A, x.B, now⟩ : Lh.Duo).sel b = x.bal b := by cases b <;> rfl
theorem DR.put_duo (x : DR) (b : Bool) (S : Lh.Bl) (F : Nat → Prop) (now : Int) : (⟨(x.put b S F).A, (x.put b S F).B, now⟩ : Lh.Duo) = (⟨x.A, x.B, now⟩ : Lh.Duo).put b S := by cases b <;> rfl

/-- a game in memory: the duo, and the tick -/
structure GS (hC : BalanceC) (hB : BalP hC) (a : Nat → Addr) (g : Nat) (x : DR) (now : Int) (W : World) : Prop where
  e : hC.E a W
  at_ : x.At hC W
  g0 : W.cell? ⟨g, 0, none⟩ = some (.pointer (some ⟨x.d, 0, none⟩))
  g1 : W.cell? ⟨g, 1, none⟩ = some (.int .i64 now)
  gx : ¬ x.F g
  gK : hB.K ≤ g
  gz : W.frozen? ⟨g, 1, none⟩ = false
/-- from one to the other -/
structure GTo (g : Nat) (x y : DR) (W W' : World) : Prop where
  d : y.d = x.d
  p : y.p = x.p
  q : y.q = x.q
  new : ∀ b, y.FA b ∨ y.FB b → x.FA b ∨ x.FB b ∨ W.heap.size ≤ b
  tur : Tur (fun b => x.FA b ∨ x.FB b ∨ b = g) W W'
section
variable {hC : BalanceC} {hB : BalP hC} {a : Nat → Addr} {g : Nat} {x y z : DR} {now : Int} {W W' W'' : World}
theorem GTo.of_below (h : Below W.heap.size W W') : GTo g x x W W' := ⟨rfl, rfl, rfl, fun _ hb => hb.elim Or.inl fun h => Or.inr (Or.inl h), Tur.of_below h⟩
theorem GTo.trans (h : GTo g x y W W') (k : GTo g y z W' W'') : GTo g x z W W'' := by
  refine ⟨k.d.trans h.d, k.p.trans h.p, k.q.trans h.q, fun b hb => ?_, h.tur.trans k.tur fun b hb => ?_⟩
  · rcases k.new b hb with h1 | h1 | h1
    · exact h.new b (Or.inl h1)
    · exact h.new b (Or.inr h1)
    · exact Or.inr (Or.inr (Nat.le_trans h.tur.size h1))
  · rcases hb with h1 | h1 | h1
    · rcases h.new b (Or.inl h1) with q | q | q
      · exact Or.inl (Or.inl q)
      · exact Or.inl (Or.inr (Or.inl q))
      · exact Or.inr q
    · rcases h.new b (Or.inr h1) with q | q | q
      · exact Or.inl (Or.inl q)
      · exact Or.inl (Or.inr (Or.inl q))
      · exact Or.inr q
    · exact Or.inl (Or.inr (Or.inr h1))
theorem GS.glt (h : GS hC hB a g x now W) : g < W.heap.size := World.block_lt_of_cell? W _ h.g0
theorem GS.later (h : GS hC hB a g x now W) (hb : Below W.heap.size W W') : GS hC hB a g x now W' := ⟨hC.eLater h.e hb, h.at_.later hb, below_cell hb h.g0, below_cell hb h.g1, h.gx, h.gK, (World.frozen?_of_block (w := W) (w' := W') (a := ⟨g, 1, none⟩) (hb.block g h.glt)).trans h.gz⟩
theorem GS.rep (h : GS hC hB a g x now W) (b : Bool) : hC.Rep (x.bal b) (x.foot b) (x.ptr b) W := by
  cases b
  · exact h.at_.ra
  · exact h.at_.rb
theorem GS.ok (h : GS hC hB a g x now W) (b : Bool) : Lh.BOk (x.bal b) := by
  cases b
  · exact h.at_.oka
  · exact h.at_.okb
theorem foot_cell {F : Nat → Prop} (hT : Tur F W W') {b i : Nat} {v : Value} (hx : ¬ F b) (h : W.cell? ⟨b, i, none⟩ = some v) : W'.cell? ⟨b, i, none⟩ = some v :=
  cell_same (hT.block b (World.block_lt_of_cell? W _ h) hx) h
/-- one side turned -/
theorem GS.turned (h : GS hC hB a g x now W) (b : Bool) {S' : Lh.Bl} {F' : Nat → Prop} (hR : hC.Rep S' F' (x.ptr b) W') (hok : Lh.BOk S') (hF : ∀ c, F' c → x.foot b c ∨ W.heap.size ≤ c) (hT : Tur (x.foot b) W W') : GS hC hB a g (x.put b S' F') now W' ∧ GTo g x (x.put b S' F') W W' := by
  obtain ⟨he, ⟨c0, c1, ra, rb, oka, okb, hap, hda, hdb⟩, hg0, hg1, hgx, hgK, hgz⟩ := h
  have hdl := World.block_lt_of_cell? W _ c0
  have hgl := World.block_lt_of_cell? W _ hg0
  simp only at hdl hgl
  cases b
  · refine ⟨⟨hB.tur he hT fun b hb => hB.rep ra b hb, ⟨foot_cell hT hda c0, foot_cell hT hda c1, hR, hC.stay rb hT.size fun b hb => hT.block b (hC.lt rb b hb) fun hf => hap b hf hb, hok, okb, fun b hb hg => ?_, fun hf => ?_, hdb⟩, foot_cell hT (fun q => hgx (Or.inl q)) hg0, foot_cell hT (fun q => hgx (Or.inl q)) hg1, fun hf => ?_, hgK, (World.frozen?_of_block (w := W) (w' := W') (a := ⟨g, 1, none⟩) (hT.block g hgl fun q => hgx (Or.inl q))).trans hgz⟩, rfl, rfl, rfl, fun b hb => ?_, hT.wideP fun b hb => Or.inl hb⟩
    · rcases hF b hb with h1 | h1
      · exact hap b h1 hg
      · have := hC.lt rb b hg
        omega
    · rcases hF _ hf with h1 | h1
      · exact hda h1
      · exact absurd h1 (Nat.not_le.2 hdl)
    · rcases hf with h1 | h1 | h1
      · rcases hF _ h1 with h2 | h2
        · exact hgx (Or.inl h2)
        · omega
      · exact hgx (Or.inr (Or.inl h1))
      · exact hgx (Or.inr (Or.inr h1))
    · rcases hb with h1 | h1
      · rcases hF _ h1 with h2 | h2
        · exact Or.inl h2
        · exact Or.inr (Or.inr h2)
      · exact Or.inr (Or.inl h1)
  · refine ⟨⟨hB.tur he hT fun b hb => hB.rep rb b hb, ⟨foot_cell hT hdb c0, foot_cell hT hdb c1, hC.stay ra hT.size fun b hb => hT.block b (hC.lt ra b hb) fun hf => hap b hb hf, hR, oka, hok, fun b hb hg => ?_, hda, fun hf => ?_⟩, foot_cell hT (fun q => hgx (Or.inr (Or.inl q))) hg0, foot_cell hT (fun q => hgx (Or.inr (Or.inl q))) hg1, fun hf => ?_, hgK, (World.frozen?_of_block (w := W) (w' := W') (a := ⟨g, 1, none⟩) (hT.block g hgl fun q => hgx (Or.inr (Or.inl q)))).trans hgz⟩, rfl, rfl, rfl, fun b hb => ?_, hT.wideP fun b hb => Or.inr (Or.inl hb)⟩
    · rcases hF b hg with h1 | h1
      · exact hap b hb h1
      · have := hC.lt ra b hb
        omega
    · rcases hF _ hf with h1 | h1
      · exact hdb h1
      · exact absurd h1 (Nat.not_le.2 hdl)
    · rcases hf with h1 | h1 | h1
      · exact hgx (Or.inl h1)
      · rcases hF _ h1 with h2 | h2
        · exact hgx (Or.inr (Or.inl h2))
        · omega
      · exact hgx (Or.inr (Or.inr h1))
    · rcases hb with h1 | h1
      · exact Or.inl h1
      · rcases hF _ h1 with h2 | h2
        · exact Or.inr (Or.inl h2)
        · exact Or.inr (Or.inr h2)
/-- the tick turned -/
theorem GS.ticked (h : GS hC hB a g x now W) (n : Int) : GS hC hB a g x n (W.setCell ⟨g, 1, none⟩ (.int .i64 n)) ∧ GTo g x x W (W.setCell ⟨g, 1, none⟩ (.int .i64 n)) := by
  have hT : Tur (fun b => b = g) W (W.setCell ⟨g, 1, none⟩ (.int .i64 n)) := tur_setP W g 1 _
  refine ⟨⟨hB.tur h.e hT fun b hb => by subst hb; exact h.gK, h.at_.stay hT.size fun b hb => hT.block b (h.at_.lt b hb) fun e => h.gx (by subst e; exact hb), ?_, ?_, h.gx, h.gK, by rw [World.frozen?_setCell]; exact h.gz⟩, rfl, rfl, rfl, fun b hb => hb.elim Or.inl fun h => Or.inr (Or.inl h), hT.wideP fun b hb => Or.inr (Or.inr hb)⟩
  · rw [World.cell?_setCell_other _ _ _ _ (by simp)]
    exact h.g0
  · exact World.cell?_setCell_same' _ _ _ (by rw [h.g1]; rfl)
end
end Go.Proofs.YtmdckddenelneaaGreatDoor
