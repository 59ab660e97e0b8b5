/- Flows in a row of cells, three a flow. -/
import Derived.Test.YtmdckddenelneaaGreatDoorM7
import Derived.Deep.AppendLies
import Derived.Test.YtmdckddenelneaaGreatDoorM8
import Derived.Maps.AppendAt
import Derived.Test.YtmdckddenelneaaGreatDoorM20
import Derived.Test.YtmdckddenelneaaGreatDoorFlSrt
namespace Go.Proofs.YtmdckddenelneaaGreatDoor
open Go

def encF (x : Lh.Fl) : List Value := [.int .u64 (x.1 : Nat), .string x.2.1, .int .i64 x.2.2]
def flatF (L : List Lh.Fl) : List Value := L.flatMap encF
theorem flatF_append (L M : List Lh.Fl) : flatF (L ++ M) = flatF L ++ flatF M := by simp [flatF, List.flatMap_append]
theorem flatF_get (L : List Lh.Fl) : ∀ i (h : i < L.length), (flatF L)[i * 3]? = some (.int .u64 (L[i].1 : Nat)) ∧ (flatF L)[i * 3 + 1]? = some (.string L[i].2.1) ∧ (flatF L)[i * 3 + 2]? = some (.int .i64 L[i].2.2) := by
  induction L with
  | nil => intro i h; cases h
  | cons p P ih =>
    intro i h
    have e : flatF (p :: P) = .int .u64 (p.1 : Nat) :: .string p.2.1 :: .int .i64 p.2.2 :: flatF P := rfl
    rw [e]
    match i, h with
    | 0, _ => exact ⟨rfl, rfl, rfl⟩
    | i + 1, h =>
      have := ih i (by simpa using h)
      rw [show (i + 1) * 3 = i * 3 + 1 + 1 + 1 by omega]
      simpa using this
end Go.Proofs.YtmdckddenelneaaGreatDoor

/- slices.Collect of the flows that an iterator gives. -/
namespace Go.Proofs.YtmdckddenelneaaGreatDoor
open Go.RowKit Go.Maps Go.ChangeMaps Go.Shelf
attribute [local go_sem] Oper.semAt_some

theorem infoFw : (Tryz.prog.info? 82).map (fun i => (i.zero, i.size, i.bytes)) = some (some (.agg #[.int .u64 0, .string ⟨#[]⟩, .int .i64 0]), 3, 32) := by kernel_rfl
/-- the three cells of a new block -/
def Cell3 (W : World) (B : Nat) (x : Lh.Fl) : Prop := W.heap[B]? = some (.cells #[.int .u64 (x.1 : Nat), .string x.2.1, .int .i64 x.2.2] 82 (0, 0))
theorem Cell3.own (B : Nat) (x : Lh.Fl) : Own (fun (_ : Unit) W => Cell3 W B x) := fun _ X Y row hs hg hrow =>
  (hg.block B (Array.getElem?_eq_some_iff.1 hs).1 (fun e' => by
    obtain ⟨o, ho, hc⟩ := hrow B e'.symm
    rw [show X.heap[B]? = _ from hs] at ho; cases ho; cases hc)).trans hs
theorem cells3_new {w : World} {t : TypeId} (x : Lh.Fl) : ∀ j u, (encF x)[j]? = some u → (w.alloc (.cells #[.int .u64 (x.1 : Nat), .string x.2.1, .int .i64 x.2.2] t)).cell? ((⟨w.heap.size, 0, none⟩ : Addr).add j) = some u := by
  intro j u hu
  match j with
  | 0 => simp [encF] at hu; subst hu; simp [Addr.add]
  | 1 => simp [encF] at hu; subst hu; simp [Addr.add]
  | 2 => simp [encF] at hu; subst hu; simp [Addr.add]
  | j + 3 => simp [encF] at hu
theorem encF_ones (x : Lh.Fl) : ∀ u ∈ encF x, u.oneCell' = true := by
  intro u hu
  simp [encF] at hu
  rcases hu with rfl | rfl | rfl <;> rfl
theorem flatF_snocs (L : List Lh.Fl) (x : Lh.Fl) : flatF (L ++ [x]) = flatF L ++ encF x := by rw [flatF_append]; simp [flatF]

set_option maxRecDepth 100000 in
set_option maxHeartbeats 4000000 in
/-- slices.AppendSeq(nil, seq): what the iterator gave, in its order. -/
theorem appendSeqF_in (F : Fence) (n : Nat) (h11 : F.fn 88) (hro : F.round = none) (hn : 2 ≤ n) (g : Nat) (lb : Array Value) (hFg : F.fn g) (eg : ∀ args w, (callFunc g args).run Tryz.prog w = .ok (.enter g args) w)
    (S : List Lh.Fl → Prop) (N : Nat) (hN : N ≤ 1000) (w : World) (hseq : SeqStopsK F (n - 1) Tryz.prog g lb (fun x : Lh.Fl => #[valF x]) KeepsWalks S (fun _ => True) N w) :
    CallsIn F n Tryz.prog 88 #[.slice none 0 0, .func (.func g) #[] lb] w fun e w' => ∃ (v : Value) (ss : List Lh.Fl), e = .returned v ∧ S ss ∧ w'.ownsRow w.heap.size 82 3 v ss.length (flatF ss) ∧ Below w.heap.size w w' := by
  have h1 : 1 ≤ n := by omega
  obtain ⟨i0, hi, hz0, hz1, hz2⟩ := info_parts infoFw
  refine callsIn_of_wp_marks Tryz.func88 rfl h11 ?_ hro
  simp only [Tryz.ntmps88, List.size_toArray, List.length_cons, List.length_nil, Nat.reduceAdd, Nat.reduceSub, Array.replicate_succ, Array.replicate_zero, List.push_toArray, List.append_toArray, List.nil_append, List.cons_append]
  gi_wp2
  have bS := Boxed.new w 48 (.slice none 0 0)
  have hb0 : Below w.heap.size w (w.alloc (.cells #[.slice none 0 0] 48)) := (Below.refl _ w).alloc (Nat.le_refl _) _
  obtain ⟨W0, hW0⟩ : ∃ W0, w.alloc (.cells #[.slice none 0 0] 48) = W0 := ⟨_, rfl⟩
  have hsz : W0.heap.size = w.heap.size + 1 := by rw [← hW0]; simp
  rw [hW0] at bS hb0 ⊢
  refine wpIn_rangeFunc_ownH hro h1 (gf := g) (lb := lb) rfl hFg eg hseq walksK_t walksK_b hb0 (fun _ => rfl)
    (fun pre W => (∃ v, Boxed W w.heap.size 48 v ∧ W.ownsRow w.heap.size 82 3 v pre.length (flatF pre) ∧ True) ∧ Below w.heap.size w W)
    (fun _ _ _ => False)
    (OwnFrom.and (Own.from (holdsRow_own w.heap.size w.heap.size 48 82 3 (fun pre : List Lh.Fl => pre.length) (fun pre => flatF pre) (fun _ _ => True)) _) (ownFrom_below (Nat.le_refl _) (by omega)))
    (fun _ _ _ _ _ hs _ _ => hs)
    ⟨⟨_, bS, World.ownsRow_nil .., trivial⟩, hb0⟩
    (fun x a' W => ∃ Bx, w.heap.size < Bx ∧ Cell3 W Bx x ∧ a' = { tmps := #[.slice none 0 0, .func (.func g) #[] lb, .pointer (some ⟨w.heap.size, 0, none⟩), undef, .slice none 0 0, .pointer (some ⟨Bx, 0, none⟩), .func (.func g) #[] lb, .agg #[.int .u64 (x.1 : Nat), .string x.2.1, .int .i64 x.2.2], undef, undef, undef, undef, undef], defers := [] })
    ?hAx ?assign ?body ?done ?stop
  case hAx =>
    intro x a' s X Y row hs hg hr
    obtain ⟨Bx, h1, h2, h3⟩ := hs
    exact ⟨Bx, h1, (Cell3.own Bx x) () X Y row h2 hg (fun r e => (hr r e).2), h3⟩
  case assign =>
    rintro l pre x W K ⟨⟨v, hv, hrow, _⟩, hB⟩ hK
    have hBl := hv.lt
    unfold valF
    gi_wp2
    refine hK _ _ ((KeepsOthers.alloc _ _).from _) (KeepsWalks.alloc _ _) ⟨⟨v, hv.alloc _, hrow.alloc _, trivial⟩, hB.alloc hB.size _⟩ ⟨W.heap.size, hBl, World.alloc_heap_new _ _, rfl⟩
  case body =>
    rintro l pre x a' W hl ⟨r, hr⟩ ⟨⟨v, hv, hrow, _⟩, hB⟩ ⟨Bx, hBx, bX, rfl⟩ hlt
    have hc := hv.cell
    have hf := hv.frozen
    have x0 : W.cell? ⟨Bx, 0, none⟩ = some (.int .u64 (x.1 : Nat)) := by simp [World.cell?, show W.heap[Bx]? = _ from bX]
    have x1 : W.cell? ⟨Bx, 1, none⟩ = some (.string x.2.1) := by simp [World.cell?, show W.heap[Bx]? = _ from bX]
    have x2 : W.cell? ⟨Bx, 2, none⟩ = some (.int .i64 x.2.2) := by simp [World.cell?, show W.heap[Bx]? = _ from bX]
    clear bX hseq
    gi_wp2_with (gi_at_builtin; refine wpListIn_append_own _ rfl _ _ 48 rfl w.heap.size 82 i0 (.agg #[.int .u64 0, .string ⟨#[]⟩, .int .i64 0]) 3 32 Tryz.underlying48 hi hz0 hz1 hz2 rfl (by decide) _ _ _ rfl (hrow.alloc _) ⟨W.heap.size, 0, none⟩ 1 1 (encF x) rfl rfl (cells3_new x) (encF_ones x) (by unfold maxLen; omega) (by omega) (by have := hB.size; simp; omega) ?_; intro v' w1 hown' hgrow _; obtain ⟨g', cap', rfl⟩ := ownsRow_succ hown'; obtain ⟨hv1, hv2, hr2, hk2, hb2⟩ := hv.appended (by decide) hrow hB.size (Nat.le_refl _) hown' hgrow; have hc1 := hv1.cell; have hf1 := hv1.frozen)
    refine ⟨hk2.from _, ⟨hk2.size, fun k o h hw => hk2.same k o h (Obj.not_cells_of_walk hw)⟩, ⟨_, hv2, ?_, trivial⟩, hB.trans hb2⟩
    rw [flatF_snocs, List.length_append]
    exact hr2
  case done =>
    rintro D ss W hD hS ⟨⟨v, hv, hrow, _⟩, hB⟩ hK
    have hc := hv.cell
    gi_wp2
    refine ⟨by simp, .inl ⟨_, _, rfl, run_takeDeferred hK, ?_⟩⟩
    exact ⟨_, results_tmp rfl _ _ _, v, ss, rfl, hS, ownsRow_putObj hrow _ hK rfl, hB.trans (belowK_b (w := w) (Nat.le_refl _) W D _ _ (by omega) hK rfl rfl)⟩
  case stop =>
    rintro D c pre W _ _ h _
    exact h.elim

set_option maxHeartbeats 1000000 in
/-- slices.Collect. -/
theorem collectF_in (F : Fence) (n : Nat) (h8 : F.fn 54) (h11 : F.fn 88) (hro : F.round = none) (hn : 3 ≤ n) (g : Nat) (lb : Array Value) (hFg : F.fn g) (eg : ∀ args w, (callFunc g args).run Tryz.prog w = .ok (.enter g args) w)
    (S : List Lh.Fl → Prop) (N : Nat) (hN : N ≤ 1000) (w : World) (hseq : SeqStopsK F (n - 1 - 1) Tryz.prog g lb (fun x : Lh.Fl => #[valF x]) KeepsWalks S (fun _ => True) N w) :
    CallsIn F n Tryz.prog 54 #[.func (.func g) #[] lb] w fun e w' => ∃ (v : Value) (ss : List Lh.Fl), e = .returned v ∧ S ss ∧ w'.ownsRow w.heap.size 82 3 v ss.length (flatF ss) ∧ Below w.heap.size w w' := by
  have h1 : 1 ≤ n := by omega
  have hA := appendSeqF_in F (n - 1) h11 hro (by omega) g lb hFg eg S N hN w hseq
  refine callsIn_of_wp Tryz.func54 rfl h8 ?_ hro
  simp only [Tryz.ntmps54, List.size_toArray, List.length_cons, List.length_nil, Nat.reduceAdd, Nat.reduceSub, Array.replicate_succ, Array.replicate_zero, List.push_toArray, List.append_toArray, List.nil_append, List.cons_append]
  gi_wp2_with (gi_at_call 88; refine hA.mono ?_; rintro e w' ⟨v, ss, rfl, hS, hrow, hb⟩)
  go_ret
  exact ⟨v, ss, rfl, hS, hrow, hb⟩
end Go.Proofs.YtmdckddenelneaaGreatDoor

/- The landed flows' orders: by key, and by the tick at which they are gone; slices.SortFunc of flows. -/
namespace Go.Proofs.YtmdckddenelneaaGreatDoor
open Go.RowKit Go.Sort Go.Shelf Go.Lib

def cmpI (x y : Int) : Int := if x < y then -1 else if y < x then 1 else 0
set_option maxHeartbeats 1000000 in
theorem nanI (x : Int) (W : World) : Calls Tryz.prog 214 #[.int .i64 x] W fun e w' => e = .returned (.bool false) ∧ w' = W := by
  go_enter Tryz.func214, Tryz.ntmps214
  go_wp2
  go_ret
  exact ⟨by simp, rfl⟩
set_option maxHeartbeats 1000000 in
theorem compareI (x y : Int) (W : World) : Calls Tryz.prog 196 #[.int .i64 x, .int .i64 y] W fun e w' => e = .returned (.int .i64 (cmpI x y)) ∧ w' = W := by
  unfold cmpI
  by_cases h1 : x < y
  · have e1 : decide (x < y) = true := by simpa using h1
    rw [if_pos h1]
    go_enter Tryz.func196, Tryz.ntmps196
    go_wp2_with (first | (refine (nanI _ _).mono ?_; rintro e w' ⟨rfl, rfl⟩) | fail)
    go_ret
    exact ⟨rfl, rfl⟩
  · have e1 : decide (x < y) = false := by simpa using h1
    rw [if_neg h1]
    by_cases h2 : y < x
    · have e2 : decide (y < x) = true := by simpa using h2
      rw [if_pos h2]
      go_enter Tryz.func196, Tryz.ntmps196
      go_wp2_with (first | (refine (nanI _ _).mono ?_; rintro e w' ⟨rfl, rfl⟩) | fail)
      go_ret
      exact ⟨rfl, rfl⟩
    · have e2 : decide (y < x) = false := by simpa using h2
      rw [if_neg h2]
      go_enter Tryz.func196, Tryz.ntmps196
      go_wp2_with (first | (refine (nanI _ _).mono ?_; rintro e w' ⟨rfl, rfl⟩) | fail)
      go_ret
      exact ⟨rfl, rfl⟩

def cfK (x y : Lh.Fl) : Int := cmpU x.1 y.1
def cfUn (x y : Lh.Fl) : Int := cmpI x.2.2 y.2.2
/-- the two blocks of the parameters -/
theorem grow_two (x y : Lh.Fl) (W : World) : ((W.alloc (.cells #[.int .u64 (x.1 : Nat), .string x.2.1, .int .i64 x.2.2] 82)).alloc (.cells #[.int .u64 (y.1 : Nat), .string y.2.1, .int .i64 y.2.2] 82)) = grow (W.drewN 0) #[.cells #[.int .u64 (x.1 : Nat), .string x.2.1, .int .i64 x.2.2] 82, .cells #[.int .u64 (y.1 : Nat), .string y.2.1, .int .i64 y.2.2] 82] := by rw [alloc_eq_grow, alloc_eq_grow, grow_grow]; rfl
set_option maxHeartbeats 4000000 in
theorem closureK (x y : Lh.Fl) (W : World) : Calls Tryz.prog 57 #[.agg #[.int .u64 (x.1 : Nat), .string x.2.1, .int .i64 x.2.2], .agg #[.int .u64 (y.1 : Nat), .string y.2.1, .int .i64 y.2.2]] W fun e w' => e = .returned (.int .i64 (cfK x y)) ∧ ∃ q os', w' = grow (W.drewN q) os' := by
  have hU := fun W' => compareU x.1 y.1 W'
  have HS : Hid _ := grow_two x y W
  unfold cfK
  generalize cmpU x.1 y.1 = u at *
  go_enter Tryz.func57, Tryz.ntmps57
  go_wp2_with fail
  refine (hU _).mono ?_
  rintro e w' ⟨rfl, rfl⟩
  go_wp2
  go_ret
  exact ⟨rfl, 0, _, HS.out⟩
set_option maxHeartbeats 4000000 in
theorem closureU (x y : Lh.Fl) (W : World) : Calls Tryz.prog 195 #[.agg #[.int .u64 (x.1 : Nat), .string x.2.1, .int .i64 x.2.2], .agg #[.int .u64 (y.1 : Nat), .string y.2.1, .int .i64 y.2.2]] W fun e w' => e = .returned (.int .i64 (cfUn x y)) ∧ Below W.heap.size W w' := by
  have hU := fun W' => compareI x.2.2 y.2.2 W'
  have hb : Below W.heap.size W ((W.alloc (.cells #[.int .u64 (x.1 : Nat), .string x.2.1, .int .i64 x.2.2] 82)).alloc (.cells #[.int .u64 (y.1 : Nat), .string y.2.1, .int .i64 y.2.2] 82)) := ((Below.refl _ _).alloc (Nat.le_refl _) _).alloc (by simp) _
  unfold cfUn
  generalize cmpI x.2.2 y.2.2 = u at *
  go_enter Tryz.func195, Tryz.ntmps195
  go_wp2_with fail
  refine (hU _).mono ?_
  rintro e w' ⟨rfl, rfl⟩
  go_wp2
  go_ret
  exact ⟨rfl, hb⟩

/-- Block g holds the flows L. -/
def FlsAt (W : World) (g : Nat) (L : List Lh.Fl) : Prop := ∀ i (h : i < L.length), W.cell? ⟨g, i * 3, none⟩ = some (.int .u64 (L[i].1 : Nat)) ∧ W.cell? ⟨g, i * 3 + 1, none⟩ = some (.string L[i].2.1) ∧ W.cell? ⟨g, i * 3 + 2, none⟩ = some (.int .i64 L[i].2.2)
theorem fls_of_owns {w : World} {base : Nat} {v : Value} {e : TypeId} {L : List Lh.Fl} (h : w.ownsRow base e 3 v L.length (flatF L)) (h0 : 0 < L.length) : ∃ g cap, v = .slice (some ⟨g, 0, none⟩) L.length cap ∧ base ≤ g ∧ g < w.heap.size ∧ L.length ≤ cap ∧ FlsAt w g L ∧ ∀ k, w.frozen? ⟨g, k, none⟩ = false := by
  obtain ⟨hl, ⟨rfl, h'⟩ | ⟨g, cap, cur, rfl, hbase, hb, hn, hm, hsz, ht⟩⟩ := h
  · omega
  · have hlt : g < w.heap.size := (Array.getElem?_eq_some_iff.1 hb).1
    refine ⟨g, cap, rfl, hbase, hlt, hn, fun i hi => ?_, fun k => by simp [World.frozen?, hb]⟩
    obtain ⟨h1, h2, h3⟩ := flatF_get L i hi
    rw [← ht] at h1 h2 h3
    rw [List.getElem?_take_of_lt (by omega)] at h1 h2 h3
    simp only [World.cell?, hb]
    exact ⟨by simpa using h1, by simpa using h2, by simpa using h3⟩
theorem holds_of_fls {w : World} {g : Nat} {L : List Lh.Fl} (h : FlsAt w g L) (hf : ∀ k, w.frozen? ⟨g, k, none⟩ = false) : HoldsK encF 3 w g 0 L.toArray := by
  intro t ht
  have ht' : t < L.length * 3 := by simpa using ht
  have hi : t / 3 < L.length := by omega
  refine ⟨?_, hf _⟩
  rw [get_flatK _ _ _ _ (by simpa using ht')]
  have e : (L.toArray[t / 3]!) = L[t / 3] := by simp [hi]
  rw [e]
  obtain ⟨h1, h2, h3⟩ := h (t / 3) hi
  have hm : t % 3 = 0 ∨ t % 3 = 1 ∨ t % 3 = 2 := by omega
  rcases hm with hm | hm | hm
  · rw [hm, show 0 + t = t / 3 * 3 by omega, h1]
    rfl
  · rw [hm, show 0 + t = t / 3 * 3 + 1 by omega, h2]
    rfl
  · rw [hm, show 0 + t = t / 3 * 3 + 2 by omega, h3]
    rfl
theorem fls_of_holds {w : World} {g : Nat} {L : List Lh.Fl} (h : HoldsK encF 3 w g 0 L.toArray) : FlsAt w g L := by
  intro i hi
  have h1 := (h.cell (i := i) (c := 0) (by simpa using hi) (by omega)).1
  have h2 := (h.cell (i := i) (c := 1) (by simpa using hi) (by omega)).1
  have h3 := (h.cell (i := i) (c := 2) (by simpa using hi) (by omega)).1
  have e : (L.toArray[i]!) = L[i] := by simp [hi]
  rw [e] at h1 h2 h3
  simp only [Nat.zero_add, Nat.add_zero] at h1 h2 h3
  exact ⟨h1, h2, h3⟩
theorem grownBy_sortedFl {w : World} {g n : Nat} {os : Array Obj} (d : Array Lh.Fl) : w.grownBy (sortWorldK encF 3 w g 0 n d os) (some g) := by
  unfold sortWorldK putRowK
  refine ⟨rfl, rfl, rfl, by simp, fun k hk hne => ?_⟩
  rw [heap_grow_old _ _ (by simpa using hk)]
  have : g ≠ k := fun e => hne (by rw [e])
  simp [putRow, mapBlock, Sort.ahead, Array.getElem?_modify, this]
theorem sortedFl_holds {w : World} {g n : Nat} {os : Array Obj} {d0 d : Array Lh.Fl} (hg : g < w.heap.size) (h : HoldsK encF 3 w g 0 d0) (hs : d.size = d0.size) : HoldsK encF 3 (sortWorldK encF 3 w g 0 n d os) g 0 d := by
  unfold sortWorldK
  exact holdsK_grow _ _ _ _ _ _ _ (by simp [putRowK, putRow, mapBlock, Sort.ahead]; exact hg) (holdsK_putRowK _ _ _ _ _ d0 d h hs)
theorem ltK_iff (x y : Lh.Fl) : ltOf cfK x y = decide (x.1 < y.1) := by
  unfold ltOf cfK cmpU
  by_cases h1 : x.1 < y.1
  · simp [h1]
  · by_cases h2 : y.1 < x.1 <;> simp [h1, h2]
theorem swoK : SWO (ltOf cfK) where
  irrefl x := by rw [ltK_iff]; simp
  trans x y z h1 h2 := by
    rw [ltK_iff] at *
    simp at *
    omega
  ntrans x y z h1 h2 := by
    rw [ltK_iff] at *
    simp at *
    omega
theorem cmpLaysK (blk off size : Nat) (w : World) : CmpLays Tryz.prog 57 #[] encF 3 cfK blk off size w := fun _ _ _ _ x y => closureK x y _
/-- what is sorted by key, each once, is the one list -/
theorem sorted_is {L : List Lh.Fl} (hp : L.Pairwise fun x y => x.1 < y.1) {M : List Lh.Fl} (hM : M.Perm L) {d' : Array Lh.Fl} (h1 : PermIn 0 M.toArray.size M.toArray d') (h2 : SortedIn (ltOf cfK) 0 M.toArray.size d') : d'.toList = L := by
  have hd : d'.toList.Perm L := by
    obtain ⟨hs, _, hpm⟩ := h1
    refine List.Perm.trans ?_ hM
    have e1 : d'.extract 0 M.toArray.size = d' := by rw [← hs]; simp
    have e2 : M.toArray.extract 0 M.toArray.size = M.toArray := by simp
    rw [e1, e2] at hpm
    simpa using hpm
  have hs : d'.size = M.length := by have := hd.length_eq; have := hM.length_eq; simp at *; omega
  have hle : d'.toList.Pairwise fun x y => x.1 ≤ y.1 := by
    rw [List.pairwise_iff_getElem]
    intro i j hi hj hij
    have := h2 i j (Nat.zero_le _) hij (by simp at hi hj ⊢; omega)
    rw [ltK_iff] at this
    simp at hi hj
    simp [hi, hj] at this
    simpa using this
  refine List.Perm.eq_of_pairwise (le := fun x y => decide (x.1 ≤ y.1)) ?_ ?_ ?_ hd
  · intro a b ha hb h3 h4
    exact rise_inj hp (hd.mem_iff.1 ha) hb (by simp at h3 h4; omega)
  · exact hle.imp fun h => by simpa using h
  · exact hp.imp fun h => by simp; omega
theorem entersLK : ∀ args w, (callFunc 57 args).run Tryz.prog w = .ok (.enter 57 args) w := enters_of Tryz.func57 (by kernel_rfl) rfl
theorem frozen_of_holds {w : World} {g : Nat} {L : List Lh.Fl} (h : HoldsK encF 3 w g 0 L.toArray) (k : Nat) (hk : k < L.length * 3) : w.frozen? ⟨g, k, none⟩ = false := by
  have h1 := (h k (by simpa using hk)).2
  rw [Nat.zero_add] at h1
  exact h1
/-- slices.SortFunc of flows, by key. -/
theorem sortFls (g cap : Nat) (M L : List Lh.Fl) (w : World) (hp : L.Pairwise fun x y => x.1 < y.1) (hM : M.Perm L) (hH : FlsAt w g M) (hf : ∀ k, w.frozen? ⟨g, k, none⟩ = false) (hg : g < w.heap.size) (hsz : M.length < 1000000) :
    Calls Tryz.prog 56 #[.slice (some ⟨g, 0, none⟩) M.length cap, .func (.func 57) #[] #[]] w fun e w' => e = .returned (.tuple #[]) ∧ FlsAt w' g L ∧ w.grownBy w' (some g) ∧ ∀ k, k < L.length * 3 → w'.frozen? ⟨g, k, none⟩ = false := by
  have h := AnyQ.slices_SortFunc sortFl 3 Tryz.isAgg82 Tryz.sizeOf82 encF (fun _ => rfl) encF_ones cfK swoK 57 #[] g 0 cap M.toArray w entersLK (cmpLaysK g 0 _ w) (holds_of_fls hH hf) hg (by simp; omega)
  rw [List.size_toArray] at h
  refine Calls.mono h ?_
  rintro e w' ⟨rfl, d', n, os, hp1, hs1, rfl⟩
  have e := sorted_is hp hM (d' := d') (by simpa using hp1) (by simpa using hs1)
  have hl : d'.size = M.toArray.size := hp1.1
  have hh := sortedFl_holds (n := n) (os := os) hg (holds_of_fls hH hf) hl
  refine ⟨rfl, ?_, grownBy_sortedFl d', ?_⟩
  · rw [← e]
    exact fls_of_holds hh
  · rw [← e]
    exact frozen_of_holds hh
end Go.Proofs.YtmdckddenelneaaGreatDoor
