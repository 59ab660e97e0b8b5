/- The model's duo in memory. -/
import Derived.Test.YtmdckddenelneaaGreatDoorM45
import Derived.Test.YtmdckddenelneaaGreatDoorM46
import Derived.Test.YtmdckddenelneaaGreatDoorM47
import Derived.Test.YtmdckddenelneaaGreatDoorM36
namespace Go.Proofs.YtmdckddenelneaaGreatDoor
open Go.RowKit

/-- where a balance of the model lies -/
structure Mm where
  m : Nat
  hm : Nat
  fm : Nat
  L : List Mh
  lv : Value
  fv : Value
  dv : Value
def Mm.At (x : Mm) (B : Nat) (S : Lh.Bl) (W : World) : Prop := MB W x.m x.hm x.fm x.L x.lv x.fv x.dv B S
def Mm.F (x : Mm) : Nat → Prop := MBt x.m x.hm x.fm x.L x.lv x.fv x.dv
/-- what a method leaves -/
def Mm.Post (x : Mm) (B : Nat) (S' : Lh.Bl) (W w' : World) : Prop := ∃ y : Mm, y.m = x.m ∧ y.At B S' w' ∧ Tur x.F W w' ∧ ∀ b, y.F b → x.F b ∨ W.heap.size ≤ b
section
variable {x : Mm} {B : Nat} {S : Lh.Bl} {W W' : World}
theorem Mm.Post.same (h : x.At B S W) (hb : Below W.heap.size W W') : x.Post B S W W' := ⟨x, rfl, MB.later h hb, Tur.of_below hb, fun _ hb => Or.inl hb⟩
theorem Mm.Post.of {S' : Lh.Bl} (h : MPost x.m x.hm x.fm x.L x.lv x.fv x.dv B W S' W') : x.Post B S' W W' := by
  obtain ⟨fv', h1, h2, h3⟩ := h
  exact ⟨⟨x.m, x.hm, x.fm, x.L, x.lv, fv', x.dv⟩, rfl, h1, h2, h3⟩
theorem mpickU (h : x.At B S W) (hk : Lh.BOk S) (k : Nat) (now : Int) :
    Calls Tryz.prog 64 #[.pointer (some ⟨x.m, 0, none⟩), .int .u64 (k : Nat), .int .i64 now] W fun e w' => ∃ S' s kept c, e = .returned (.tuple #[.string s, .bool kept, .int .i64 ((c : Nat) : Int)]) ∧ PickR nwB S k now S' s kept c ∧ x.Post B S' W w' := by
  rcases tick_ex S.la now with hok | ⟨j, hf⟩
  · by_cases hks : ∃ z, Lh.BKeeps S k now z
    · obtain ⟨s, hs⟩ := hks
      refine (mpick_keep h hk k now hok s hs).mono ?_
      rintro e w' ⟨rfl, hP⟩
      exact ⟨_, s, true, 0, rfl, Or.inr (Or.inl ⟨hok, hs, rfl, rfl, rfl⟩), .of hP⟩
    · have hks' : ∀ z, ¬ Lh.BKeeps S k now z := fun z hz => hks ⟨z, hz⟩
      by_cases ho : Lh.bopen S = []
      · refine (mpick_none h hk k ho now hok hks').mono ?_
        rintro e w' ⟨rfl, hP⟩
        exact ⟨_, _, false, 5, rfl, Or.inr (Or.inr (Or.inl ⟨hok, hks', ho, rfl, rfl, rfl, rfl⟩)), .of hP⟩
      · refine (mpick_new h hk k ho now hok hks').mono ?_
        rintro e w' ⟨rfl, hP⟩
        exact ⟨_, _, false, 0, rfl, Or.inr (Or.inr (Or.inr ⟨hok, hks', ho, rfl, rfl, rfl, rfl⟩)), .of hP⟩
  · refine (mpick_tick h k now j hf).mono ?_
    rintro e w' ⟨rfl, rfl⟩
    exact ⟨S, _, false, j + 1, rfl, Or.inl ⟨j, hf, rfl, rfl, rfl, rfl⟩, .same h (Below.refl _ _)⟩
theorem mlookU (h : x.At B S W) (hk : Lh.BOk S) (hB : B ≤ 99999) (s : ByteArray) (well : Bool) :
    Calls Tryz.prog 60 #[.pointer (some ⟨x.m, 0, none⟩), .string s, .bool well] W fun e w' => ∃ S' t c, e = .returned (.tuple #[.bool t, .int .i64 ((c : Nat) : Int)]) ∧ LookR S s well S' t c ∧ x.Post (B + 1) S' W w' := by
  refine (mlook_any h hk hB s well).mono ?_
  rintro e w' ⟨S', t, c, rfl, hR, L', lv', fv', h1, h2, h3⟩
  exact ⟨S', t, c, rfl, hR, ⟨x.m, x.hm, x.fm, L', lv', fv', x.dv⟩, rfl, h1, h2, h3⟩
theorem mdrainU (h : x.At B S W) (hk : Lh.BOk S) (s : ByteArray) (is : Bool) :
    Calls Tryz.prog 61 #[.pointer (some ⟨x.m, 0, none⟩), .string s, .bool is] W fun e w' => ∃ S' c, e = .returned (.int .i64 ((c : Nat) : Int)) ∧ DrainR S s is S' c ∧ x.Post B S' W w' := by
  by_cases hx : Lh.hix S.hs s < S.hs.length
  · refine (mdrain_good h hk s is hx).mono ?_
    rintro e w' ⟨rfl, dv', h1, h2, h3⟩
    exact ⟨_, 0, rfl, Or.inl ⟨hx, rfl, rfl⟩, ⟨x.m, x.hm, x.fm, x.L, x.lv, x.fv, dv'⟩, rfl, h1, h2, h3⟩
  · refine (mdrain_none h hk s is hx).mono ?_
    rintro e w' ⟨rfl, rfl⟩
    exact ⟨S, 5, rfl, Or.inr ⟨hx, rfl, rfl⟩, .same h (Below.refl _ _)⟩
theorem mexportU (h : x.At B S W) (hk : Lh.BOk S) (hep : S.ep < 1099511627776) :
    Calls Tryz.prog 63 #[.pointer (some ⟨x.m, 0, none⟩)] W fun e w' => e = .returned (.string (Lh.bt (Lh.textL (S.ep + 1).toNat S.L))) ∧ x.Post B { S with ep := S.ep + 1 } W w' := by
  refine (mexport h hk hep).mono ?_
  rintro e w' ⟨rfl, h1, h2⟩
  exact ⟨rfl, x, rfl, h1, h2, fun _ hb => Or.inl hb⟩
theorem mimportU (h : x.At B S W) (hk : Lh.BOk S) (s : List UInt8) (hs : s.length ≤ 30000) (now : Int) {n : Int} {l : List Lh.Fl} {c : Nat} {pl : Int} (hrf : ReadF s n l c pl) :
    Calls Tryz.prog 62 #[.pointer (some ⟨x.m, 0, none⟩), .string (Lh.bt s), .int .i64 now] W fun e w' => ∃ S' z c' pl', e = .returned (.tuple #[.int .i64 ((z : Nat) : Int), .agg #[.int .i64 ((c' : Nat) : Int), .int .i64 pl']]) ∧ ImportR S s now S' z c' pl' ∧ x.Post B S' W w' := by
  by_cases hc : c = 0
  · subst hc
    by_cases hold : n < S.ep
    · refine (mimport_old h s hs now hrf hold).mono ?_
      rintro e w' ⟨rfl, hP⟩
      exact ⟨S, 0, 8, -1, rfl, ⟨n, l, 0, pl, hrf, Or.inr (Or.inl ⟨rfl, hold, rfl, rfl, rfl, rfl⟩)⟩, .of hP⟩
    · refine (mimport_good h hk s hs now hrf hold).mono ?_
      rintro e w' (⟨j, hf, rfl, hP⟩ | ⟨hok, rfl, hP⟩)
      · exact ⟨S, 0, j + 1, -1, rfl, ⟨n, l, 0, pl, hrf, Or.inr (Or.inr (Or.inl ⟨rfl, hold, j, hf, rfl, rfl, rfl, rfl⟩))⟩, .of hP⟩
      · exact ⟨_, _, 0, -1, rfl, ⟨n, l, 0, pl, hrf, Or.inr (Or.inr (Or.inr ⟨rfl, hold, hok, rfl, rfl, rfl, rfl⟩))⟩, .of hP⟩
  · refine (mimport_bad h s hs now hrf hc).mono ?_
    rintro e w' ⟨rfl, hP⟩
    exact ⟨S, 0, c, pl, rfl, ⟨n, l, c, pl, hrf, Or.inl ⟨hc, rfl, rfl, rfl, rfl⟩⟩, .of hP⟩
end
/-- Block d is the model's duo: block g holds its two balances; no host has more than B looks. -/
structure MD (W : World) (d g cap : Nat) (M : Bool → Mm) (D : Lh.Duo) (B : Nat) : Prop where
  c0 : W.cell? ⟨d, 0, none⟩ = some (.slice (some ⟨g, 0, none⟩) 2 cap)
  c1 : W.cell? ⟨d, 1, none⟩ = some (.int .i64 D.now)
  fz : W.frozen? ⟨d, 1, none⟩ = false
  r0 : W.cell? ⟨g, 0, none⟩ = some (.pointer (some ⟨(M false).m, 0, none⟩))
  r1 : W.cell? ⟨g, 1, none⟩ = some (.pointer (some ⟨(M true).m, 0, none⟩))
  at_ : ∀ b, (M b).At B (D.sel b) W
  ap : ∀ b x, (M b).F x → ¬ (M !b).F x
  fd : ∀ b, ¬ (M b).F d
  fg : ∀ b, ¬ (M b).F g
  dg : d ≠ g
def MDt (d g : Nat) (M : Bool → Mm) (x : Nat) : Prop := x = d ∨ x = g ∨ ∃ b, (M b).F x
theorem sel_put (D : Lh.Duo) (b : Bool) (S : Lh.Bl) : (D.put b S).sel b = S ∧ (D.put b S).sel (!b) = D.sel (!b) ∧ (D.put b S).now = D.now := by cases b <;> simp [Lh.Duo.put, Lh.Duo.sel]
section
variable {W W' : World} {d g cap : Nat} {M : Bool → Mm} {D : Lh.Duo} {B : Nat}
theorem MD.lt (h : MD W d g cap M D B) : ∀ x, MDt d g M x → x < W.heap.size := by
  rintro x (rfl | rfl | ⟨b, hb⟩)
  · exact World.block_lt_of_cell? W ⟨x, 0, none⟩ h.c0
  · exact World.block_lt_of_cell? W ⟨x, 0, none⟩ h.r0
  · exact MB.lt (h.at_ b) x hb
theorem MD.stay (h : MD W d g cap M D B) (hs : ∀ x, MDt d g M x → W'.heap[x]? = W.heap[x]?) : MD W' d g cap M D B := by
  have hd := hs d (Or.inl rfl)
  have hg := hs g (Or.inr (Or.inl rfl))
  exact ⟨(World.cell?_of_block (w := W) (w' := W') (a := ⟨d, 0, none⟩) hd).trans h.c0, (World.cell?_of_block (w := W) (w' := W') (a := ⟨d, 1, none⟩) hd).trans h.c1, (World.frozen?_of_block (w := W) (w' := W') (a := ⟨d, 1, none⟩) hd).trans h.fz, (World.cell?_of_block (w := W) (w' := W') (a := ⟨g, 0, none⟩) hg).trans h.r0, (World.cell?_of_block (w := W) (w' := W') (a := ⟨g, 1, none⟩) hg).trans h.r1, fun b => MB.stay (h.at_ b) fun x hx => hs x (Or.inr (Or.inr ⟨b, hx⟩)), h.ap, h.fd, h.fg, h.dg⟩
theorem MD.later (h : MD W d g cap M D B) (hb : Below W.heap.size W W') : MD W' d g cap M D B := h.stay fun x hx => hb.block x (h.lt x hx)
/-- one of the two is turned -/
theorem MD.turned (h : MD W d g cap M D B) (b : Bool) {S' : Lh.Bl} {B' : Nat} (hB : B ≤ B') (hP : (M b).Post B' S' W W') : ∃ M', MD W' d g cap M' (D.put b S') B' ∧ Tur (MDt d g M) W W' ∧ (∀ x, MDt d g M' x → MDt d g M x ∨ W.heap.size ≤ x) ∧ ∀ c, (M' c).m = (M c).m := by
  obtain ⟨y, hy, hA, hT, hN⟩ := hP
  obtain ⟨p1, p2, p3⟩ := sel_put D b S'
  have hd : W'.heap[d]? = W.heap[d]? := hT.block d (h.lt d (Or.inl rfl)) (h.fd b)
  have hg : W'.heap[g]? = W.heap[g]? := hT.block g (h.lt g (Or.inr (Or.inl rfl))) (h.fg b)
  have hm : ∀ c, ((fun c => if c = b then y else M c) c).m = (M c).m := fun c => by
    by_cases e : c = b
    · subst e
      simp only [if_true]
      exact hy
    · simp only [if_neg e]
  have hnew : ∀ x, W.heap.size ≤ x → ∀ z, MDt d g M z → x ≠ z := fun x hx z hz e => by have := h.lt z hz; omega
  refine ⟨fun c => if c = b then y else M c, ⟨?_, ?_, ?_, ?_, ?_, fun c => ?_, fun c x => ?_, fun c hq => ?_, fun c hq => ?_, h.dg⟩, hT.wide fun x hx => Or.inr (Or.inr ⟨b, hx⟩), fun x hx => ?_, hm⟩
  · exact (World.cell?_of_block (w := W) (w' := W') (a := ⟨d, 0, none⟩) hd).trans h.c0
  · rw [p3]; exact (World.cell?_of_block (w := W) (w' := W') (a := ⟨d, 1, none⟩) hd).trans h.c1
  · exact (World.frozen?_of_block (w := W) (w' := W') (a := ⟨d, 1, none⟩) hd).trans h.fz
  · rw [hm]; exact (World.cell?_of_block (w := W) (w' := W') (a := ⟨g, 0, none⟩) hg).trans h.r0
  · rw [hm]; exact (World.cell?_of_block (w := W) (w' := W') (a := ⟨g, 1, none⟩) hg).trans h.r1
  · by_cases e : c = b
    · subst e
      rw [p1, if_pos rfl]
      exact hA
    · have e' : c = !b := by cases c <;> cases b <;> simp_all
      subst e'
      rw [p2, if_neg e]
      refine MB.more (MB.stay (h.at_ (!b)) fun x hx => hT.block x (MB.lt (h.at_ (!b)) x hx) fun hq => h.ap b x hq hx) hB
  · by_cases e : c = b
    · subst e
      rw [if_pos rfl, if_neg (by cases c <;> simp)]
      intro h1 h2
      rcases hN x h1 with h3 | h3
      · exact h.ap c x h3 h2
      · exact hnew x h3 x (Or.inr (Or.inr ⟨!c, h2⟩)) rfl
    · have e' : c = !b := by cases c <;> cases b <;> simp_all
      subst e'
      rw [if_neg e, Bool.not_not, if_pos rfl]
      intro h1 h2
      rcases hN x h2 with h3 | h3
      · exact h.ap b x h3 h1
      · exact hnew x h3 x (Or.inr (Or.inr ⟨!b, h1⟩)) rfl
  · by_cases e : c = b
    · simp only [if_pos e] at hq
      rcases hN d hq with h3 | h3
      · exact h.fd b h3
      · exact hnew d h3 d (Or.inl rfl) rfl
    · simp only [if_neg e] at hq
      exact h.fd c hq
  · by_cases e : c = b
    · simp only [if_pos e] at hq
      rcases hN g hq with h3 | h3
      · exact h.fg b h3
      · exact hnew g h3 g (Or.inr (Or.inl rfl)) rfl
    · simp only [if_neg e] at hq
      exact h.fg c hq
  · rcases hx with rfl | rfl | ⟨c, hc⟩
    · exact Or.inl (Or.inl rfl)
    · exact Or.inl (Or.inr (Or.inl rfl))
    · by_cases e : c = b
      · simp only [if_pos e] at hc
        rcases hN x hc with h3 | h3
        · exact Or.inl (Or.inr (Or.inr ⟨b, h3⟩))
        · exact Or.inr h3
      · simp only [if_neg e] at hc
        exact Or.inl (Or.inr (Or.inr ⟨c, hc⟩))
theorem MD.more (h : MD W d g cap M D B) {B' : Nat} (hB : B ≤ B') : MD W d g cap M D B' := ⟨h.c0, h.c1, h.fz, h.r0, h.r1, fun b => MB.more (h.at_ b) hB, h.ap, h.fd, h.fg, h.dg⟩
/-- the tick goes on -/
theorem MD.tick (h : MD W d g cap M D B) (now : Int) : MD (W.setCell ⟨d, 1, none⟩ (.int .i64 now)) d g cap M { D with now := now } B ∧ Tur (MDt d g M) W (W.setCell ⟨d, 1, none⟩ (.int .i64 now)) := by
  have hg : (W.setCell ⟨d, 1, none⟩ (.int .i64 now)).heap[g]? = W.heap[g]? := Below.heap_setCell _ _ _ g fun e => h.dg (by have e' : g = d := e; exact e'.symm)
  refine ⟨⟨?_, World.cell?_setCell_same' _ _ _ (by rw [h.c1]; rfl), by rw [World.frozen?_setCell]; exact h.fz, (World.cell?_of_block (w := W) (a := ⟨g, 0, none⟩) hg).trans h.r0, (World.cell?_of_block (w := W) (a := ⟨g, 1, none⟩) hg).trans h.r1, fun b => ?_, h.ap, h.fd, h.fg, h.dg⟩, ⟨rfl, rfl, rfl, by simp, fun x _ hq => Below.heap_setCell _ _ _ x fun e => hq (Or.inl e)⟩⟩
  · rw [World.cell?_setCell_other _ _ _ _ (by simp)]; exact h.c0
  · have e : ({ D with now := now } : Lh.Duo).sel b = D.sel b := rfl
    rw [e]
    exact MB.stay (h.at_ b) fun x hx => Below.heap_setCell _ _ _ x fun e => h.fd b (by have e' : x = d := e; rw [← e']; exact hx)
/-- the cell of a balance -/
theorem MD.cell (h : MD W d g cap M D B) (b : Bool) : W.cell? ⟨g, b.toNat, none⟩ = some (.pointer (some ⟨(M b).m, 0, none⟩)) := by
  cases b
  · exact h.r0
  · exact h.r1
end
end Go.Proofs.YtmdckddenelneaaGreatDoor

/- The model's duo: One. -/
namespace Go.Proofs.YtmdckddenelneaaGreatDoor
open Go.RowKit

/-- the numbers that One reckons: of n: a quotient, two places, a host's place, a flag -/
structure OneN (n q bi ci hi : Nat) (is : Bool) : Prop where
  q1 : (n : Int) / 8 = (q : Int)
  b1 : (q : Int) % 2 = (bi : Int)
  c1 : (1 : Int) - (bi : Int) = (ci : Int)
  h1 : (q : Int) / 2 % 4 = (hi : Int)
  i1 : ((q : Int) / 8 % 2 == 1) = is
  bl : bi < 2
  cl : ci < 2
  hl : hi < 4
theorem oneN (n : Nat) : OneN n (n / 8) (n / 8 % 2) (1 - n / 8 % 2) (n / 8 / 2 % 4) (decide (n / 8 / 8 % 2 = 1)) := by
  refine ⟨by omega, by omega, by omega, by omega, ?_, by omega, by omega, by omega⟩
  have e : (((n / 8 : Nat) : Int) / 8 % 2 = 1) ↔ n / 8 / 8 % 2 = 1 := by omega
  by_cases h : n / 8 / 8 % 2 = 1
  · rw [decide_eq_true h]
    simpa using e.2 h
  · rw [decide_eq_false h, beq_eq_false_iff_ne]
    exact fun h' => h (e.1 h')
theorem four_cells (w : World) {hi : Nat} (hl : hi < 4) : (w.alloc (.cells #[.string ⟨#[97]⟩, .string ⟨#[98]⟩, .string ⟨#[99]⟩, .string ⟨#[100]⟩] 9)).cell? ⟨w.heap.size, hi, none⟩ = some (.string (four.getD hi ByteArray.empty)) := by
  have : hi = 0 ∨ hi = 1 ∨ hi = 2 ∨ hi = 3 := by omega
  rcases this with rfl | rfl | rfl | rfl <;> simp [four, nA, nB, nC, nD]
/-- what One leaves -/
def MFin (d g cap : Nat) (M : Bool → Mm) (W : World) (D' : Lh.Duo) (B' : Nat) (w' : World) : Prop := ∃ M', MD w' d g cap M' D' B' ∧ Tur (MDt d g M) W w' ∧ ∀ x, MDt d g M' x → MDt d g M x ∨ W.heap.size ≤ x
section
variable {W W' : World} {d g cap : Nat} {M : Bool → Mm} {D : Lh.Duo} {B : Nat}
set_option maxRecDepth 100000 in
set_option maxHeartbeats 4000000 in
theorem one_look (h : MD W d g cap M D B) (hk : ∀ b, Lh.BOk (D.sel b)) (hB : B ≤ 99998) (n : Nat) (hn : n < 9223372036854775808) (hr : (n : Int) % 8 = 3) {q bi ci hi : Nat} {is : Bool} (hN : OneN n q bi ci hi is) (b : Bool) (hb : bi = b.toNat) (hc : ci = (!b).toNat) :
    Calls Tryz.prog 40 #[.pointer (some ⟨d, 0, none⟩), .int .i64 (n : Nat)] W fun e w' => ∃ S' t c, e = .returned (.int .i64 ((c : Nat) : Int)) ∧ LookR (D.sel b) (four.getD hi ByteArray.empty) is S' t c ∧ MFin d g cap M W (D.put b S') (B + 1) w' := by
  obtain ⟨q1, b1, c1, h1, i1, bl, cl, hl⟩ := hN
  have HH : Hid (MD W d g cap M D B) := h
  have HK : Hid (∀ b, Lh.BOk (D.sel b)) := hk
  have k0 := h.c0
  have kn := h.c1
  have xb := h.cell b
  have yb := h.cell (!b)
  rw [← hb] at xb
  rw [← hc] at yb
  have d0 : decide ((n : Int) < 0) = false := by simp
  have bl' : (bi : Int) < 2 := by omega
  have cl' : (ci : Int) < 2 := by omega
  have hl' : (hi : Int) < 4 := by omega
  have hb1 : Below W.heap.size W (W.alloc (.cells #[.string ⟨#[97]⟩, .string ⟨#[98]⟩, .string ⟨#[99]⟩, .string ⟨#[100]⟩] 9)) := (Below.refl _ _).alloc (Nat.le_refl _) _
  have hs := four_cells W hl
  have hA1 := h.later hb1
  have hlk := mlookU (hA1.at_ b) (hk b) (by omega) (four.getD hi ByteArray.empty) is
  have HA1 : Hid (MD (W.alloc (.cells #[.string ⟨#[97]⟩, .string ⟨#[98]⟩, .string ⟨#[99]⟩, .string ⟨#[100]⟩] 9)) d g cap M D B) := hA1
  have HB1 : Hid (Below W.heap.size W (W.alloc (.cells #[.string ⟨#[97]⟩, .string ⟨#[98]⟩, .string ⟨#[99]⟩, .string ⟨#[100]⟩] 9))) := hb1
  clear h hk hb hc hA1 hb1
  generalize four.getD hi ByteArray.empty = host at *
  go_enter Tryz.func40, Tryz.ntmps40
  go_wp2_with fail
  refine hlk.mono ?_
  rintro e w1 ⟨S', t, c, rfl, hR, hP⟩
  have HR : Hid (LookR (D.sel b) host is S' t c) := hR
  obtain ⟨M', m1, m2, m3, _⟩ := HA1.out.turned b (by omega) hP
  have HF : Hid (MFin d g cap M W (D.put b S') (B + 1) w1) := ⟨M', m1, (Tur.of_below HB1.out).trans m2 fun x hx => Or.inl hx, fun x hx => by
    rcases m3 x hx with h1 | h1
    · exact Or.inl h1
    · exact Or.inr (Nat.le_trans HB1.out.size h1)⟩
  clear hlk hR hP m1 m2 m3 hs
  go_wp2
  go_ret
  exact ⟨S', t, c, rfl, HR.out, HF.out⟩
set_option maxRecDepth 100000 in
set_option maxHeartbeats 4000000 in
theorem one_drain (h : MD W d g cap M D B) (hk : ∀ b, Lh.BOk (D.sel b)) (_hB : B ≤ 99998) (n : Nat) (hn : n < 9223372036854775808) (hr : (n : Int) % 8 = 4) {q bi ci hi : Nat} {is : Bool} (hN : OneN n q bi ci hi is) (b : Bool) (hb : bi = b.toNat) (hc : ci = (!b).toNat) :
    Calls Tryz.prog 40 #[.pointer (some ⟨d, 0, none⟩), .int .i64 (n : Nat)] W fun e w' => ∃ S' c, e = .returned (.int .i64 ((c : Nat) : Int)) ∧ DrainR (D.sel b) (four.getD hi ByteArray.empty) is S' c ∧ MFin d g cap M W (D.put b S') (B + 1) w' := by
  obtain ⟨q1, b1, c1, h1, i1, bl, cl, hl⟩ := hN
  have HH : Hid (MD W d g cap M D B) := h
  have HK : Hid (∀ b, Lh.BOk (D.sel b)) := hk
  have k0 := h.c0
  have kn := h.c1
  have xb := h.cell b
  have yb := h.cell (!b)
  rw [← hb] at xb
  rw [← hc] at yb
  have d0 : decide ((n : Int) < 0) = false := by simp
  have bl' : (bi : Int) < 2 := by omega
  have cl' : (ci : Int) < 2 := by omega
  have hl' : (hi : Int) < 4 := by omega
  have hb1 : Below W.heap.size W (W.alloc (.cells #[.string ⟨#[97]⟩, .string ⟨#[98]⟩, .string ⟨#[99]⟩, .string ⟨#[100]⟩] 9)) := (Below.refl _ _).alloc (Nat.le_refl _) _
  have hs := four_cells W hl
  have hA1 := h.later hb1
  have hlk := mdrainU (hA1.at_ b) (hk b) (four.getD hi ByteArray.empty) is
  have HA1 : Hid (MD (W.alloc (.cells #[.string ⟨#[97]⟩, .string ⟨#[98]⟩, .string ⟨#[99]⟩, .string ⟨#[100]⟩] 9)) d g cap M D B) := hA1
  have HB1 : Hid (Below W.heap.size W (W.alloc (.cells #[.string ⟨#[97]⟩, .string ⟨#[98]⟩, .string ⟨#[99]⟩, .string ⟨#[100]⟩] 9))) := hb1
  clear h hk hb hc hA1 hb1
  generalize four.getD hi ByteArray.empty = host at *
  go_enter Tryz.func40, Tryz.ntmps40
  go_wp2_with fail
  refine hlk.mono ?_
  rintro e w1 ⟨S', c, rfl, hR, hP0⟩
  have hP : (M b).Post (B + 1) S' (W.alloc (.cells #[.string ⟨#[97]⟩, .string ⟨#[98]⟩, .string ⟨#[99]⟩, .string ⟨#[100]⟩] 9)) w1 := by
    obtain ⟨y, y1, y2, y3, y4⟩ := hP0
    exact ⟨y, y1, MB.more y2 (by omega), y3, y4⟩
  have HR : Hid (DrainR (D.sel b) host is S' c) := hR
  obtain ⟨M', m1, m2, m3, _⟩ := HA1.out.turned b (by omega) hP
  have HF : Hid (MFin d g cap M W (D.put b S') (B + 1) w1) := ⟨M', m1, (Tur.of_below HB1.out).trans m2 fun x hx => Or.inl hx, fun x hx => by
    rcases m3 x hx with h1 | h1
    · exact Or.inl h1
    · exact Or.inr (Nat.le_trans HB1.out.size h1)⟩
  clear hlk hR hP hP0 m1 m2 m3 hs
  go_wp2
  go_ret
  exact ⟨S', c, rfl, HR.out, HF.out⟩
end
end Go.Proofs.YtmdckddenelneaaGreatDoor

/- The model's duo: One of a tick, One of a pick. -/
namespace Go.Proofs.YtmdckddenelneaaGreatDoor
open Go.RowKit

section
variable {W W' : World} {d g cap : Nat} {M : Bool → Mm} {D : Lh.Duo} {B : Nat}
set_option maxRecDepth 100000 in
set_option maxHeartbeats 4000000 in
theorem one_tick (h : MD W d g cap M D B) (hk : ∀ b, Lh.BOk (D.sel b)) (_hB : B ≤ 99998) (n : Nat) (hn : n < 9223372036854775808) (hr : (n : Int) % 8 = 5) (hw0 : 0 ≤ D.now) (hw9 : D.now ≤ 1000000000000) {q bi ci hi : Nat} {is : Bool} (hN : OneN n q bi ci hi is) (b : Bool) (hb : bi = b.toNat) (hc : ci = (!b).toNat) :
    Calls Tryz.prog 40 #[.pointer (some ⟨d, 0, none⟩), .int .i64 (n : Nat)] W fun e w' => e = .returned (.int .i64 0) ∧ MFin d g cap M W { D with now := D.now + 1 + ((q % 8 : Nat) : Int) } (B + 1) w' := by
  obtain ⟨q1, b1, c1, h1, i1, bl, cl, hl⟩ := hN
  have HH : Hid (MD W d g cap M D B) := h
  have _HK : Hid (∀ b, Lh.BOk (D.sel b)) := hk
  have k0 := h.c0
  have kn := h.c1
  have xb := h.cell b
  have yb := h.cell (!b)
  rw [← hb] at xb
  rw [← hc] at yb
  have d0 : decide ((n : Int) < 0) = false := by simp
  have bl' : (bi : Int) < 2 := by omega
  have cl' : (ci : Int) < 2 := by omega
  have hl' : (hi : Int) < 4 := by omega
  have hb1 : Below W.heap.size W (W.alloc (.cells #[.string ⟨#[97]⟩, .string ⟨#[98]⟩, .string ⟨#[99]⟩, .string ⟨#[100]⟩] 9)) := (Below.refl _ _).alloc (Nat.le_refl _) _
  have hs := four_cells W hl
  have hA1 := h.later hb1
  have kn1 := hA1.c1
  have kf1 := hA1.fz
  obtain ⟨r8, hr8⟩ : ∃ r8, q % 8 = r8 := ⟨_, rfl⟩
  have hq8 : (q : Int) % 8 = (r8 : Int) := by omega
  have hr9 : r8 < 8 := by omega
  have w1 : IntKind.i64.wrap (D.now + (r8 : Int)) = D.now + (r8 : Int) := by simp [IntKind.wrap, IntKind.signed, IntKind.bits]; omega
  have w2 : IntKind.i64.wrap (D.now + (r8 : Int) + 1) = D.now + (r8 : Int) + 1 := by simp [IntKind.wrap, IntKind.signed, IntKind.bits]; omega
  obtain ⟨t1, t2⟩ := (hA1.more (B' := B + 1) (by omega)).tick (D.now + (r8 : Int) + 1)
  have HF : Hid (MFin d g cap M W { D with now := D.now + 1 + ((q % 8 : Nat) : Int) } (B + 1) ((W.alloc (.cells #[.string ⟨#[97]⟩, .string ⟨#[98]⟩, .string ⟨#[99]⟩, .string ⟨#[100]⟩] 9)).setCell ⟨d, 1, none⟩ (.int .i64 (D.now + (r8 : Int) + 1)))) := by
    refine ⟨M, ?_, (Tur.of_below hb1).trans t2 fun x hx => Or.inl hx, fun x hx => Or.inl hx⟩
    rw [hr8, show D.now + 1 + ((r8 : Nat) : Int) = D.now + (r8 : Int) + 1 by omega]
    exact t1
  clear t1 t2 hr8
  have HA1 : Hid (MD (W.alloc (.cells #[.string ⟨#[97]⟩, .string ⟨#[98]⟩, .string ⟨#[99]⟩, .string ⟨#[100]⟩] 9)) d g cap M D B) := hA1
  have HB1 : Hid (Below W.heap.size W (W.alloc (.cells #[.string ⟨#[97]⟩, .string ⟨#[98]⟩, .string ⟨#[99]⟩, .string ⟨#[100]⟩] 9))) := hb1
  clear h hk hb hc hA1 hb1
  generalize four.getD hi ByteArray.empty = host at *
  go_enter Tryz.func40, Tryz.ntmps40
  go_wp2
  go_ret
  exact ⟨rfl, HF.out⟩
set_option maxRecDepth 100000 in
set_option maxHeartbeats 4000000 in
theorem one_pick (h : MD W d g cap M D B) (hk : ∀ b, Lh.BOk (D.sel b)) (_hB : B ≤ 99998) (n : Nat) (hn : n < 9223372036854775808) (hr : (n : Int) % 8 = 0 ∨ (n : Int) % 8 = 1 ∨ (n : Int) % 8 = 2) {q bi ci hi : Nat} {is : Bool} (hN : OneN n q bi ci hi is) (b : Bool) (hb : bi = b.toNat) (hc : ci = (!b).toNat) :
    Calls Tryz.prog 40 #[.pointer (some ⟨d, 0, none⟩), .int .i64 (n : Nat)] W fun e w' => ∃ S' s kept c, e = .returned (.int .i64 ((c : Nat) : Int)) ∧ PickR nwB (D.sel b) (q / 2) D.now S' s kept c ∧ MFin d g cap M W (D.put b S') (B + 1) w' := by
  obtain ⟨q1, b1, c1, h1, i1, bl, cl, hl⟩ := hN
  have HH : Hid (MD W d g cap M D B) := h
  have HK : Hid (∀ b, Lh.BOk (D.sel b)) := hk
  have k0 := h.c0
  have kn := h.c1
  have xb := h.cell b
  have yb := h.cell (!b)
  rw [← hb] at xb
  rw [← hc] at yb
  have d0 : decide ((n : Int) < 0) = false := by simp
  have bl' : (bi : Int) < 2 := by omega
  have cl' : (ci : Int) < 2 := by omega
  have hl' : (hi : Int) < 4 := by omega
  have hb1 : Below W.heap.size W (W.alloc (.cells #[.string ⟨#[97]⟩, .string ⟨#[98]⟩, .string ⟨#[99]⟩, .string ⟨#[100]⟩] 9)) := (Below.refl _ _).alloc (Nat.le_refl _) _
  have hs := four_cells W hl
  have hA1 := h.later hb1
  obtain ⟨k, hk2⟩ : ∃ k, q / 2 = k := ⟨_, rfl⟩
  have hq2 : (q : Int) / 2 = (k : Int) := by omega
  have h1k : (k : Int) % 4 = (hi : Int) := by omega
  have hku : IntKind.u64.wrap (k : Int) = (k : Int) := by simp [IntKind.wrap, IntKind.signed, IntKind.bits]; omega
  have hlk : ∀ w', Below (W.alloc (.cells #[.string ⟨#[97]⟩, .string ⟨#[98]⟩, .string ⟨#[99]⟩, .string ⟨#[100]⟩] 9)).heap.size (W.alloc (.cells #[.string ⟨#[97]⟩, .string ⟨#[98]⟩, .string ⟨#[99]⟩, .string ⟨#[100]⟩] 9)) w' → Calls Tryz.prog 64 #[.pointer (some ⟨(M b).m, 0, none⟩), .int .u64 (k : Nat), .int .i64 D.now] w' fun e w'' => ∃ S' s kept c, e = .returned (.tuple #[.string s, .bool kept, .int .i64 ((c : Nat) : Int)]) ∧ PickR nwB (D.sel b) k D.now S' s kept c ∧ (M b).Post (B + 1) S' (W.alloc (.cells #[.string ⟨#[97]⟩, .string ⟨#[98]⟩, .string ⟨#[99]⟩, .string ⟨#[100]⟩] 9)) w'' := fun w' hb => (mpickU ((hA1.later hb).at_ b) (hk b) k D.now).mono fun _ _ ⟨S', s, kept, c, r1, r2, y, y1, y2, y3, y4⟩ => ⟨S', s, kept, c, r1, r2, y, y1, MB.more y2 (by omega), (Tur.of_below hb).trans y3 fun x hx => Or.inl hx, fun x hx => by
    rcases y4 x hx with h1 | h1
    · exact Or.inl h1
    · exact Or.inr (Nat.le_trans hb.size h1)⟩
  have hC : ∀ w', Below (W.alloc (.cells #[.string ⟨#[97]⟩, .string ⟨#[98]⟩, .string ⟨#[99]⟩, .string ⟨#[100]⟩] 9)).heap.size (W.alloc (.cells #[.string ⟨#[97]⟩, .string ⟨#[98]⟩, .string ⟨#[99]⟩, .string ⟨#[100]⟩] 9)) w' → w'.cell? ⟨d, 1, none⟩ = some (.int .i64 D.now) := fun w' hb => (hA1.later hb).c1
  have kn1 := hA1.c1
  have HK2 : Hid (q / 2 = k) := hk2
  clear hk2
  have HA1 : Hid (MD (W.alloc (.cells #[.string ⟨#[97]⟩, .string ⟨#[98]⟩, .string ⟨#[99]⟩, .string ⟨#[100]⟩] 9)) d g cap M D B) := hA1
  have HB1 : Hid (Below W.heap.size W (W.alloc (.cells #[.string ⟨#[97]⟩, .string ⟨#[98]⟩, .string ⟨#[99]⟩, .string ⟨#[100]⟩] 9))) := hb1
  clear h hk hb hc hA1 hb1
  generalize four.getD hi ByteArray.empty = host at *
  rcases hr with hr | hr | hr
  all_goals
    go_enter Tryz.func40, Tryz.ntmps40
    go_wp2_with fail
    generalize (W.alloc (.cells #[.string ⟨#[97]⟩, .string ⟨#[98]⟩, .string ⟨#[99]⟩, .string ⟨#[100]⟩] 9)) = W1 at *
    refine (hlk W1 (Below.refl _ _)).mono ?_
    rintro e w1 ⟨S', s, kept, c, rfl, hR, hP⟩
    all_goals
      have HR : Hid (PickR nwB (D.sel b) k D.now S' s kept c) := hR
      obtain ⟨M', m1, m2, m3, _⟩ := HA1.out.turned b (by omega) hP
      have HF : Hid (MFin d g cap M W (D.put b S') (B + 1) w1) := ⟨M', m1, (Tur.of_below HB1.out).trans m2 fun x hx => Or.inl hx, fun x hx => by
        rcases m3 x hx with h1 | h1
        · exact Or.inl h1
        · exact Or.inr (Nat.le_trans HB1.out.size h1)⟩
      clear hlk hR hP m1 m2 m3 hs hC
      go_wp2
      go_ret
      exact ⟨S', s, kept, c, rfl, by rw [HK2.out]; exact HR.out, HF.out⟩
end
end Go.Proofs.YtmdckddenelneaaGreatDoor
