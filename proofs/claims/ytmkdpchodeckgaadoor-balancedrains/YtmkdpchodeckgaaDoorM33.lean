/- Flows in a row of cells, three a flow. -/
import Derived.Test.YtmkdpchodeckgaaDoorFlMath
import Derived.Deep.AppendLies
import Derived.Test.YtmkdpchodeckgaaDoorFlIt
import Derived.Maps.AppendAt
namespace Go.Proofs.YtmkdpchodeckgaaDoor
open Go

def encF (x : Lh.Fl) : List Value := [.int .u64 (x.1 : Nat), .string x.2.1, .int .i64 x.2.2]
def flatF (L : List Lh.Fl) : List Value := L.flatMap encF
theorem flatF_append (L M : List Lh.Fl) : flatF (L ++ M) = flatF L ++ flatF M := by simp [flatF, List.flatMap_append]
theorem flatF_length (L : List Lh.Fl) : (flatF L).length = L.length * 3 := by
  induction L with
  | nil => rfl
  | cons p P ih =>
    have : flatF (p :: P) = encF p ++ flatF P := rfl
    rw [this, List.length_append, ih, List.length_cons]
    simp [encF]
    omega
theorem flatF_get (L : List Lh.Fl) : ∀ i (h : i < L.length), (flatF L)[i * 3]? = some (.int .u64 (L[i].1 : Nat)) ∧ (flatF L)[i * 3 + 1]? = some (.string L[i].2.1) ∧ (flatF L)[i * 3 + 2]? = some (.int .i64 L[i].2.2) := by
  induction L with
  | nil => intro i h; cases h
  | cons p P ih =>
    intro i h
    have e : flatF (p :: P) = .int .u64 (p.1 : Nat) :: .string p.2.1 :: .int .i64 p.2.2 :: flatF P := rfl
    rw [e]
    match i, h with
    | 0, _ => exact ⟨rfl, rfl, rfl⟩
    | i + 1, h =>
      have := ih i (by simpa using h)
      rw [show (i + 1) * 3 = i * 3 + 1 + 1 + 1 by omega]
      simpa using this
theorem flatF_take (L : List Lh.Fl) : ∀ k, flatF (L.take k) = (flatF L).take (k * 3) := by
  induction L with
  | nil => intro k; simp [flatF]
  | cons p P ih =>
    intro k
    match k with
    | 0 => rfl
    | k + 1 =>
      rw [List.take_succ_cons, show (k + 1) * 3 = k * 3 + 1 + 1 + 1 by omega]
      have e : ∀ M, flatF (p :: M) = .int .u64 (p.1 : Nat) :: .string p.2.1 :: .int .i64 p.2.2 :: flatF M := fun _ => rfl
      rw [e, e, ih k, List.take_succ_cons, List.take_succ_cons, List.take_succ_cons]
theorem flatF_drop (L : List Lh.Fl) : ∀ k, flatF (L.drop k) = (flatF L).drop (k * 3) := by
  induction L with
  | nil => intro k; simp [flatF]
  | cons p P ih =>
    intro k
    match k with
    | 0 => rfl
    | k + 1 =>
      rw [List.drop_succ_cons, show (k + 1) * 3 = k * 3 + 1 + 1 + 1 by omega]
      have e : ∀ M, flatF (p :: M) = .int .u64 (p.1 : Nat) :: .string p.2.1 :: .int .i64 p.2.2 :: flatF M := fun _ => rfl
      rw [e, ih k, List.drop_succ_cons, List.drop_succ_cons, List.drop_succ_cons]
theorem flatF_one (L : List Lh.Fl) : ∀ u ∈ flatF L, u.oneCell' = true := by
  intro u hu
  obtain ⟨x, hx, hu⟩ := List.mem_flatMap.1 hu
  simp [encF] at hu
  rcases hu with rfl | rfl | rfl <;> rfl
end Go.Proofs.YtmkdpchodeckgaaDoor

/- slices.Collect of the flows that an iterator gives. -/
namespace Go.Proofs.YtmkdpchodeckgaaDoor
open Go.RowKit Go.Maps Go.ChangeMaps Go.Shelf
attribute [local go_sem] Oper.semAt_some

theorem infoFw : (Tryd.prog.info? 75).map (fun i => (i.zero, i.size, i.bytes)) = some (some (.agg #[.int .u64 0, .string ⟨#[]⟩, .int .i64 0]), 3, 32) := by kernel_rfl
/-- the three cells of a new block -/
def Cell3 (W : World) (B : Nat) (x : Lh.Fl) : Prop := W.heap[B]? = some (.cells #[.int .u64 (x.1 : Nat), .string x.2.1, .int .i64 x.2.2] 75 (0, 0))
theorem Cell3.own (B : Nat) (x : Lh.Fl) : Own (fun (_ : Unit) W => Cell3 W B x) := fun _ X Y row hs hg hrow =>
  (hg.block B (Array.getElem?_eq_some_iff.1 hs).1 (fun e' => by
    obtain ⟨o, ho, hc⟩ := hrow B e'.symm
    rw [show X.heap[B]? = _ from hs] at ho; cases ho; cases hc)).trans hs
theorem cells3_new {w : World} {t : TypeId} (x : Lh.Fl) : ∀ j u, (encF x)[j]? = some u → (w.alloc (.cells #[.int .u64 (x.1 : Nat), .string x.2.1, .int .i64 x.2.2] t)).cell? ((⟨w.heap.size, 0, none⟩ : Addr).add j) = some u := by
  intro j u hu
  match j with
  | 0 => simp [encF] at hu; subst hu; simp [Addr.add]
  | 1 => simp [encF] at hu; subst hu; simp [Addr.add]
  | 2 => simp [encF] at hu; subst hu; simp [Addr.add]
  | j + 3 => simp [encF] at hu
theorem encF_ones (x : Lh.Fl) : ∀ u ∈ encF x, u.oneCell' = true := by
  intro u hu
  simp [encF] at hu
  rcases hu with rfl | rfl | rfl <;> rfl
theorem flatF_snocs (L : List Lh.Fl) (x : Lh.Fl) : flatF (L ++ [x]) = flatF L ++ encF x := by rw [flatF_append]; simp [flatF]

set_option maxRecDepth 100000 in
set_option maxHeartbeats 4000000 in
/-- slices.AppendSeq(nil, seq): what the iterator gave, in its order. -/
theorem appendSeqF_in (F : Fence) (n : Nat) (h11 : F.fn 54) (hro : F.round = none) (hn : 2 ≤ n) (g : Nat) (lb : Array Value) (hFg : F.fn g) (eg : ∀ args w, (callFunc g args).run Tryd.prog w = .ok (.enter g args) w)
    (S : List Lh.Fl → Prop) (N : Nat) (hN : N ≤ 1000) (w : World) (hseq : SeqStopsK F (n - 1) Tryd.prog g lb (fun x : Lh.Fl => #[valF x]) KeepsWalks S (fun _ => True) N w) :
    CallsIn F n Tryd.prog 54 #[.slice none 0 0, .func (.func g) #[] lb] w fun e w' => ∃ (v : Value) (ss : List Lh.Fl), e = .returned v ∧ S ss ∧ w'.ownsRow w.heap.size 75 3 v ss.length (flatF ss) ∧ Below w.heap.size w w' := by
  have h1 : 1 ≤ n := by omega
  obtain ⟨i0, hi, hz0, hz1, hz2⟩ := info_parts infoFw
  refine callsIn_of_wp_marks Tryd.func54 rfl h11 ?_ hro
  simp only [Tryd.ntmps54, List.size_toArray, List.length_cons, List.length_nil, Nat.reduceAdd, Nat.reduceSub, Array.replicate_succ, Array.replicate_zero, List.push_toArray, List.append_toArray, List.nil_append, List.cons_append]
  gi_wp2
  have bS := Boxed.new w 35 (.slice none 0 0)
  have hb0 : Below w.heap.size w (w.alloc (.cells #[.slice none 0 0] 35)) := (Below.refl _ w).alloc (Nat.le_refl _) _
  obtain ⟨W0, hW0⟩ : ∃ W0, w.alloc (.cells #[.slice none 0 0] 35) = W0 := ⟨_, rfl⟩
  have hsz : W0.heap.size = w.heap.size + 1 := by rw [← hW0]; simp
  rw [hW0] at bS hb0 ⊢
  refine wpIn_rangeFunc_ownH hro h1 (gf := g) (lb := lb) rfl hFg eg hseq walksK_t walksK_b hb0 (fun _ => rfl)
    (fun pre W => (∃ v, Boxed W w.heap.size 35 v ∧ W.ownsRow w.heap.size 75 3 v pre.length (flatF pre) ∧ True) ∧ Below w.heap.size w W)
    (fun _ _ _ => False)
    (OwnFrom.and (Own.from (holdsRow_own w.heap.size w.heap.size 35 75 3 (fun pre : List Lh.Fl => pre.length) (fun pre => flatF pre) (fun _ _ => True)) _) (ownFrom_below (Nat.le_refl _) (by omega)))
    (fun _ _ _ _ _ hs _ _ => hs)
    ⟨⟨_, bS, World.ownsRow_nil .., trivial⟩, hb0⟩
    (fun x a' W => ∃ Bx, w.heap.size < Bx ∧ Cell3 W Bx x ∧ a' = { tmps := #[.slice none 0 0, .func (.func g) #[] lb, .pointer (some ⟨w.heap.size, 0, none⟩), undef, .slice none 0 0, .pointer (some ⟨Bx, 0, none⟩), .func (.func g) #[] lb, .agg #[.int .u64 (x.1 : Nat), .string x.2.1, .int .i64 x.2.2], undef, undef, undef, undef, undef], defers := [] })
    ?hAx ?assign ?body ?done ?stop
  case hAx =>
    intro x a' s X Y row hs hg hr
    obtain ⟨Bx, h1, h2, h3⟩ := hs
    exact ⟨Bx, h1, (Cell3.own Bx x) () X Y row h2 hg (fun r e => (hr r e).2), h3⟩
  case assign =>
    rintro l pre x W K ⟨⟨v, hv, hrow, _⟩, hB⟩ hK
    have hBl := hv.lt
    unfold valF
    gi_wp2
    refine hK _ _ ((KeepsOthers.alloc _ _).from _) (KeepsWalks.alloc _ _) ⟨⟨v, hv.alloc _, hrow.alloc _, trivial⟩, hB.alloc hB.size _⟩ ⟨W.heap.size, hBl, World.alloc_heap_new _ _, rfl⟩
  case body =>
    rintro l pre x a' W hl ⟨r, hr⟩ ⟨⟨v, hv, hrow, _⟩, hB⟩ ⟨Bx, hBx, bX, rfl⟩ hlt
    have hc := hv.cell
    have hf := hv.frozen
    have x0 : W.cell? ⟨Bx, 0, none⟩ = some (.int .u64 (x.1 : Nat)) := by simp [World.cell?, show W.heap[Bx]? = _ from bX]
    have x1 : W.cell? ⟨Bx, 1, none⟩ = some (.string x.2.1) := by simp [World.cell?, show W.heap[Bx]? = _ from bX]
    have x2 : W.cell? ⟨Bx, 2, none⟩ = some (.int .i64 x.2.2) := by simp [World.cell?, show W.heap[Bx]? = _ from bX]
    clear bX hseq
    gi_wp2_with (gi_at_builtin; refine wpListIn_append_own _ rfl _ _ 35 rfl w.heap.size 75 i0 (.agg #[.int .u64 0, .string ⟨#[]⟩, .int .i64 0]) 3 32 Tryd.underlying35 hi hz0 hz1 hz2 rfl (by decide) _ _ _ rfl (hrow.alloc _) ⟨W.heap.size, 0, none⟩ 1 1 (encF x) rfl rfl (cells3_new x) (encF_ones x) (by unfold maxLen; omega) (by omega) (by have := hB.size; simp; omega) ?_; intro v' w1 hown' hgrow _; obtain ⟨g', cap', rfl⟩ := ownsRow_succ hown'; obtain ⟨hv1, hv2, hr2, hk2, hb2⟩ := hv.appended (by decide) hrow hB.size (Nat.le_refl _) hown' hgrow; have hc1 := hv1.cell; have hf1 := hv1.frozen)
    refine ⟨hk2.from _, ⟨hk2.size, fun k o h hw => hk2.same k o h (Obj.not_cells_of_walk hw)⟩, ⟨_, hv2, ?_, trivial⟩, hB.trans hb2⟩
    rw [flatF_snocs, List.length_append]
    exact hr2
  case done =>
    rintro D ss W hD hS ⟨⟨v, hv, hrow, _⟩, hB⟩ hK
    have hc := hv.cell
    gi_wp2
    refine ⟨by simp, .inl ⟨_, _, rfl, run_takeDeferred hK, ?_⟩⟩
    exact ⟨_, results_tmp rfl _ _ _, v, ss, rfl, hS, ownsRow_putObj hrow _ hK rfl, hB.trans (belowK_b (w := w) (Nat.le_refl _) W D _ _ (by omega) hK rfl rfl)⟩
  case stop =>
    rintro D c pre W _ _ h _
    exact h.elim

set_option maxHeartbeats 1000000 in
/-- slices.Collect. -/
theorem collectF_in (F : Fence) (n : Nat) (h8 : F.fn 35) (h11 : F.fn 54) (hro : F.round = none) (hn : 3 ≤ n) (g : Nat) (lb : Array Value) (hFg : F.fn g) (eg : ∀ args w, (callFunc g args).run Tryd.prog w = .ok (.enter g args) w)
    (S : List Lh.Fl → Prop) (N : Nat) (hN : N ≤ 1000) (w : World) (hseq : SeqStopsK F (n - 1 - 1) Tryd.prog g lb (fun x : Lh.Fl => #[valF x]) KeepsWalks S (fun _ => True) N w) :
    CallsIn F n Tryd.prog 35 #[.func (.func g) #[] lb] w fun e w' => ∃ (v : Value) (ss : List Lh.Fl), e = .returned v ∧ S ss ∧ w'.ownsRow w.heap.size 75 3 v ss.length (flatF ss) ∧ Below w.heap.size w w' := by
  have h1 : 1 ≤ n := by omega
  have hA := appendSeqF_in F (n - 1) h11 hro (by omega) g lb hFg eg S N hN w hseq
  refine callsIn_of_wp Tryd.func35 rfl h8 ?_ hro
  simp only [Tryd.ntmps35, List.size_toArray, List.length_cons, List.length_nil, Nat.reduceAdd, Nat.reduceSub, Array.replicate_succ, Array.replicate_zero, List.push_toArray, List.append_toArray, List.nil_append, List.cons_append]
  gi_wp2_with (gi_at_call 54; refine hA.mono ?_; rintro e w' ⟨v, ss, rfl, hS, hrow, hb⟩)
  go_ret
  exact ⟨v, ss, rfl, hS, hrow, hb⟩
end Go.Proofs.YtmkdpchodeckgaaDoor
