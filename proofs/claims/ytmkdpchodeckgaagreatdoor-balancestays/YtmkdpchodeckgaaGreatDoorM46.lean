/- Parts of a list of package variables; the errors of a list, by names. -/
import Derived.Test.YtmkdpchodeckgaaGreatDoorM45
import Derived.Stop.LaidErr
import Derived.Test.YtmkdpchodeckgaaGreatDoorM29
import Derived.Test.YtmkdpchodeckgaaGreatDoorRows
import Derived.Test.YtmkdpchodeckgaaGreatDoorM44
import Derived.Lib.LaidTab
import Derived.Lib.TrailingZeros
import Derived.Shelf.Vars
import Derived.HandedShaped
namespace Go.Proofs.YtmkdpchodeckgaaGreatDoor
open Go.RowKit

theorem laidVars_take {P : Program} {w : World} : ∀ (xs ys : List (String × DataW Unit)) (ps : List MemPlace), DataW.LaidVars P w (xs ++ ys) ps → ∃ p1 p2, ps = p1 ++ p2 ∧ DataW.LaidVars P w xs p1
  | [], ys, ps, h => ⟨[], ps, rfl, rfl⟩
  | (n, d) :: xs, ys, ps, h => by
    obtain ⟨g, t, cs, fuel, p, q, h1, h2, h3, h4, h5, rfl⟩ := h
    obtain ⟨p1, p2, rfl, h6⟩ := laidVars_take xs ys q h5
    exact ⟨MemPlace.row ⟨g, 0, none⟩ cs.size ++ p ++ p1, p2, by simp, g, t, cs, fuel, p, p1, h1, h2, h3, h4, h6, rfl⟩
theorem laidMet_take {P : Program} {w : World} {xs ys : List (String × DataW Unit)} (h : laidMet P (xs ++ ys) w) : laidMet P xs w := by
  obtain ⟨ps, h1, h2, h3⟩ := h
  obtain ⟨p1, p2, rfl, h4⟩ := laidVars_take xs ys ps h1
  exact ⟨p1, h4, (List.nodup_append.1 h2).1, fun b off hm => h3 b off (List.mem_append_left _ hm)⟩
theorem laidMet_drop {P : Program} {w : World} : ∀ {xs ys : List (String × DataW Unit)}, laidMet P (xs ++ ys) w → laidMet P ys w
  | [], _, h => h
  | _ :: xs, _, h => laidMet_drop (xs := xs) (laidMet.tail h)
/-- errors of a list, by names -/
theorem sentCells {l : List (String × List UInt8)} {W : World} (h : laidMet Tryz.prog (sentList l) W) (hg : ∀ x ∈ l, ∃ g, Tryz.prog.globalNamed x.1 = some g ∧ (Tryz.prog.globals[g]?).map (·.type) = some 27) :
    ∃ ads : List Addr, ads.length = l.length ∧ ∀ i (hi : i < l.length) (g : Nat), Tryz.prog.globalNamed (l[i]).1 = some g → W.cell? ⟨g, 0, none⟩ = some (.iface 236 (.pointer (some (ads.getD i default)))) := by
  obtain ⟨ps, hl, _, hrows⟩ := h
  obtain ⟨ads, el, _, hv⟩ := sents_of Tryz.underlying27 rowE Tryz.underlying236 Tryz.underlying238 rfl rfl Tryz.underlying9 cellsE cellsS ps hrows l ps hg (fun _ hm => hm) hl
  refine ⟨ads, el, fun i hi g hgn => ?_⟩
  have := hv i hi (by omega)
  have hd : ads.getD i default = ads[i]'(by omega) := by rw [List.getD_eq_getElem?_getD, List.getElem?_eq_getElem (by omega)]; rfl
  rw [hd]
  simpa using World.var?_cell hgn this 0
end Go.Proofs.YtmkdpchodeckgaaGreatDoor

/- From the row's list of package variables to what the landed balance asks. -/
namespace Go.Proofs.YtmkdpchodeckgaaGreatDoor
open Go.RowKit

def api6 : List (String × List UInt8) := [
  ("levelhand/api.ErrBound", [108, 101, 118, 101, 108, 104, 97, 110, 100, 58, 32, 98, 111, 117, 110, 100]),
  ("levelhand/api.ErrShape", [108, 101, 118, 101, 108, 104, 97, 110, 100, 58, 32, 115, 104, 97, 112, 101]),
  ("levelhand/api.ErrName", [108, 101, 118, 101, 108, 104, 97, 110, 100, 58, 32, 110, 97, 109, 101]),
  ("levelhand/api.ErrNone", [108, 101, 118, 101, 108, 104, 97, 110, 100, 58, 32, 110, 111, 110, 101]),
  ("levelhand/api.ErrExist", [108, 101, 118, 101, 108, 104, 97, 110, 100, 58, 32, 101, 120, 105, 115, 116]),
  ("levelhand/api.ErrOld", [108, 101, 118, 101, 108, 104, 97, 110, 100, 58, 32, 111, 108, 100])]
theorem gApi6 : ∀ x ∈ api6, ∃ g, Tryz.prog.globalNamed x.1 = some g ∧ (Tryz.prog.globals[g]?).map (·.type) = some 27 := by
  intro x hx
  simp only [api6, List.mem_cons, List.not_mem_nil, or_false] at hx
  rcases hx with rfl | rfl | rfl | rfl | rfl | rfl
  · exact ⟨2, by kernel_rfl, by kernel_rfl⟩
  · exact ⟨7, by kernel_rfl, by kernel_rfl⟩
  · exact ⟨3, by kernel_rfl, by kernel_rfl⟩
  · exact ⟨0, by kernel_rfl, by kernel_rfl⟩
  · exact ⟨6, by kernel_rfl, by kernel_rfl⟩
  · exact ⟨1, by kernel_rfl, by kernel_rfl⟩
theorem eb_of6 {W : World} (h : laidMet Tryz.prog (sentList api6) W) : ∃ a, EB a W := by
  obtain ⟨ads, _, hc⟩ := sentCells h gApi6
  exact ⟨fun i => ads.getD (if i = 1 then 0 else if i = 2 then 1 else if i = 3 then 2 else if i = 4 then 3 else if i = 5 then 4 else 5) default, ⟨hc 0 (by decide) _ (by kernel_rfl), hc 1 (by decide) _ (by kernel_rfl), hc 2 (by decide) _ (by kernel_rfl), hc 3 (by decide) _ (by kernel_rfl), hc 4 (by decide) _ (by kernel_rfl)⟩, hc 5 (by decide) _ (by kernel_rfl)⟩
end Go.Proofs.YtmkdpchodeckgaaGreatDoor

/- From the row's list of package variables, and the world's shape, to what the landed carry asks. -/
namespace Go.Proofs.YtmkdpchodeckgaaGreatDoor
open Go.RowKit

def conv2 : List (String × List UInt8) := [
  ("strconv.ErrRange", [118, 97, 108, 117, 101, 32, 111, 117, 116, 32, 111, 102, 32, 114, 97, 110, 103, 101]),
  ("strconv.ErrSyntax", [105, 110, 118, 97, 108, 105, 100, 32, 115, 121, 110, 116, 97, 120])]
theorem gConv : ∀ x ∈ conv2, ∃ g, Tryz.prog.globalNamed x.1 = some g ∧ (Tryz.prog.globals[g]?).map (·.type) = some 27 := by
  intro x hx
  simp only [conv2, List.mem_cons, List.not_mem_nil, or_false] at hx
  rcases hx with rfl | rfl
  · exact ⟨11, by kernel_rfl, by kernel_rfl⟩
  · exact ⟨10, by kernel_rfl, by kernel_rfl⟩
def api5 : List (String × List UInt8) := [
  ("levelhand/api.ErrText", [108, 101, 118, 101, 108, 104, 97, 110, 100, 58, 32, 116, 101, 120, 116]),
  ("levelhand/api.ErrBound", [108, 101, 118, 101, 108, 104, 97, 110, 100, 58, 32, 98, 111, 117, 110, 100]),
  ("levelhand/api.ErrName", [108, 101, 118, 101, 108, 104, 97, 110, 100, 58, 32, 110, 97, 109, 101]),
  ("levelhand/api.ErrExist", [108, 101, 118, 101, 108, 104, 97, 110, 100, 58, 32, 101, 120, 105, 115, 116]),
  ("levelhand/api.ErrSum", [108, 101, 118, 101, 108, 104, 97, 110, 100, 58, 32, 115, 117, 109])]
theorem gApi5 : ∀ x ∈ api5, ∃ g, Tryz.prog.globalNamed x.1 = some g ∧ (Tryz.prog.globals[g]?).map (·.type) = some 27 := by
  intro x hx
  simp only [api5, List.mem_cons, List.not_mem_nil, or_false] at hx
  rcases hx with rfl | rfl | rfl | rfl | rfl
  · exact ⟨4, by kernel_rfl, by kernel_rfl⟩
  · exact ⟨2, by kernel_rfl, by kernel_rfl⟩
  · exact ⟨3, by kernel_rfl, by kernel_rfl⟩
  · exact ⟨6, by kernel_rfl, by kernel_rfl⟩
  · exact ⟨5, by kernel_rfl, by kernel_rfl⟩
theorem mln_of {W : World} (h : W.ShapedOpen Tryz.prog) : ∃ m, W.cell? ⟨9, 0, none⟩ = some (.int .i64 m) :=
  cell_of_shapedOpen_int (t := 3) (zero := #[.int .i64 0]) h (of_decide_eq_true (by kernel_rfl)) (by kernel_rfl) rfl (by kernel_rfl) (by kernel_rfl) Tryz.underlying3
def brjI : List Int := Lib.deBruijn64tab.map fun (n : Nat) => ((n : Nat) : Int)
def tabs2 : List (String × DataW Unit) := [("math/bits.deBruijn64tab", Lib.tabData .u8 brjI), ("internal/strconv.uint64pow10", Lib.tabData .u64 Lib.pow10Tab)]
theorem tabs_of {W : World} {r : List (String × DataW Unit)} (h : laidMet Tryz.prog (tabs2 ++ r) W) : W.cell? ⟨13, 15, none⟩ = some (.int .u8 4) ∧ Lib.TabIs Tryz.prog W "internal/strconv.uint64pow10" .u64 Lib.pow10Tab := by
  have h1 : laidMet Tryz.prog (("math/bits.deBruijn64tab", Lib.tabData .u8 brjI) :: ("internal/strconv.uint64pow10", Lib.tabData .u64 Lib.pow10Tab) :: r) W := h
  have hg : Tryz.prog.globalNamed "math/bits.deBruijn64tab" = some 13 := by kernel_rfl
  have t1 := Lib.tabIs_of_head hg (t := 235) (by kernel_rfl) Tryz.underlying235 Tryz.underlying5 (by kernel_rfl) (by kernel_rfl) h1
  have t2 := Lib.tabIs_of_head (show Tryz.prog.globalNamed "internal/strconv.uint64pow10" = some 8 by kernel_rfl) (t := 214) (by kernel_rfl) Tryz.underlying214 Tryz.underlying32 (by kernel_rfl) (by kernel_rfl) (laidMet.tail h1)
  exact ⟨t1.cell hg 15 (by decide), t2⟩
theorem conv_of {W : World} (h : laidMet Tryz.prog (sentList conv2) W) : (∃ te pe, W.cell? ⟨10, 0, none⟩ = some (.iface te pe)) ∧ ∃ te pe, W.cell? ⟨11, 0, none⟩ = some (.iface te pe) := by
  obtain ⟨ads, _, hc⟩ := sentCells h gConv
  exact ⟨⟨_, _, hc 1 (by decide) 10 (by kernel_rfl)⟩, ⟨_, _, hc 0 (by decide) 11 (by kernel_rfl)⟩⟩
theorem ec_of5 {W : World} (x y z : String × DataW Unit) (h : laidMet Tryz.prog ([x] ++ (tabs2 ++ ([y] ++ (sentList api5 ++ (sentList conv2 ++ [z]))))) W) (hs : W.ShapedOpen Tryz.prog) : ∃ a, EC a W := by
  have h1 := laidMet_drop h
  obtain ⟨hb, ht⟩ := tabs_of h1
  have h2 := laidMet_drop (laidMet_drop h1)
  obtain ⟨ads, _, hc⟩ := sentCells (laidMet_take h2) gApi5
  obtain ⟨hy, hr⟩ := conv_of (laidMet_take (laidMet_drop h2))
  exact ⟨fun i => ads.getD (if i = 0 then 0 else if i = 1 then 1 else if i = 3 then 2 else if i = 5 then 3 else 4) default, hc 0 (by decide) _ (by kernel_rfl), hc 1 (by decide) _ (by kernel_rfl), hc 2 (by decide) _ (by kernel_rfl), hc 3 (by decide) _ (by kernel_rfl), hc 4 (by decide) _ (by kernel_rfl), hy, hr, ht, hb, mln_of hs⟩
end Go.Proofs.YtmkdpchodeckgaaGreatDoor

/- From the row's list of package variables, and the world's shape, to what the landed balance asks, texts of flows among it. -/
namespace Go.Proofs.YtmkdpchodeckgaaGreatDoor
open Go.RowKit

def api8 : List (String × List UInt8) := [
  ("levelhand/api.ErrText", [108, 101, 118, 101, 108, 104, 97, 110, 100, 58, 32, 116, 101, 120, 116]),
  ("levelhand/api.ErrBound", [108, 101, 118, 101, 108, 104, 97, 110, 100, 58, 32, 98, 111, 117, 110, 100]),
  ("levelhand/api.ErrShape", [108, 101, 118, 101, 108, 104, 97, 110, 100, 58, 32, 115, 104, 97, 112, 101]),
  ("levelhand/api.ErrName", [108, 101, 118, 101, 108, 104, 97, 110, 100, 58, 32, 110, 97, 109, 101]),
  ("levelhand/api.ErrNone", [108, 101, 118, 101, 108, 104, 97, 110, 100, 58, 32, 110, 111, 110, 101]),
  ("levelhand/api.ErrExist", [108, 101, 118, 101, 108, 104, 97, 110, 100, 58, 32, 101, 120, 105, 115, 116]),
  ("levelhand/api.ErrOld", [108, 101, 118, 101, 108, 104, 97, 110, 100, 58, 32, 111, 108, 100]),
  ("levelhand/api.ErrSum", [108, 101, 118, 101, 108, 104, 97, 110, 100, 58, 32, 115, 117, 109])]
theorem gApi8 : ∀ x ∈ api8, ∃ g, Tryz.prog.globalNamed x.1 = some g ∧ (Tryz.prog.globals[g]?).map (·.type) = some 27 := by
  intro x hx
  simp only [api8, List.mem_cons, List.not_mem_nil, or_false] at hx
  rcases hx with rfl | rfl | rfl | rfl | rfl | rfl | rfl | rfl
  · exact ⟨4, by kernel_rfl, by kernel_rfl⟩
  · exact ⟨2, by kernel_rfl, by kernel_rfl⟩
  · exact ⟨7, by kernel_rfl, by kernel_rfl⟩
  · exact ⟨3, by kernel_rfl, by kernel_rfl⟩
  · exact ⟨0, by kernel_rfl, by kernel_rfl⟩
  · exact ⟨6, by kernel_rfl, by kernel_rfl⟩
  · exact ⟨1, by kernel_rfl, by kernel_rfl⟩
  · exact ⟨5, by kernel_rfl, by kernel_rfl⟩
theorem eb_of8 {W : World} (x y z : String × DataW Unit) (h : laidMet Tryz.prog ([x] ++ (tabs2 ++ ([y] ++ (sentList api8 ++ (sentList conv2 ++ [z]))))) W) (hs : W.ShapedOpen Tryz.prog) : ∃ a, EB a W ∧ EC a W := by
  have h1 := laidMet_drop h
  obtain ⟨hb, ht⟩ := tabs_of h1
  have h2 := laidMet_drop (laidMet_drop h1)
  obtain ⟨ads, _, hc⟩ := sentCells (laidMet_take h2) gApi8
  obtain ⟨hy, hr⟩ := conv_of (laidMet_take (laidMet_drop h2))
  exact ⟨fun i => ads.getD (if i = 0 then 0 else if i = 1 then 1 else if i = 2 then 2 else if i = 3 then 3 else if i = 4 then 4 else if i = 5 then 5 else if i = 7 then 6 else 7) default, ⟨⟨hc 1 (by decide) _ (by kernel_rfl), hc 2 (by decide) _ (by kernel_rfl), hc 3 (by decide) _ (by kernel_rfl), hc 4 (by decide) _ (by kernel_rfl), hc 5 (by decide) _ (by kernel_rfl)⟩, hc 6 (by decide) _ (by kernel_rfl)⟩, hc 0 (by decide) _ (by kernel_rfl), hc 1 (by decide) _ (by kernel_rfl), hc 3 (by decide) _ (by kernel_rfl), hc 5 (by decide) _ (by kernel_rfl), hc 7 (by decide) _ (by kernel_rfl), hy, hr, ht, hb, mln_of hs⟩
end Go.Proofs.YtmkdpchodeckgaaGreatDoor

/- The row's frame with the world's shape kept, for a row that lists variables. -/
namespace Go.Proofs.YtmkdpchodeckgaaGreatDoor
open Go.ChangeShapes Go.WideShapes Go.ChangeAt Go.RowKit
theorem returnsShaped {H : Type} {enc : TypeId × Value → H} {a : Assume} {C : Checked} {os : Os} {f : FuncId} {fn : Func} {s : ChangeSpec} {conds : List PathCond} {apart fresh handsOn again : Bool} {X : World → Array Value → Prop}
    (hX : ∀ (w w' : World) (args : Array Value), w.heap = w'.heap → X w args → X w' args)
    (own : ownKnob C.prog.godebug = none) (started : os.Started) (noInit : C.prog.inits.idxOf? f = none) (hfn : C.prog.funcs[f]? = some fn)
    (witness : ∃ (w : World) (tape : Tape) (i : Input), w.os = os ∧ (w.forCall tape i).Shaped C.prog ∧ i.vars = [] ∧ Input.okWide C.prog (w.forCall tape i) .any w.heap.size f i ∧
      ((s.pre enc C.prog fn conds apart (w.forCall tape i).memory i.args ∧ X (w.forCall tape i).memory i.args) ∧ sizedMet enc C.prog fn (OpenSpec.ofChange s) apart (w.forCall tape i).memory i.args) ∧ a.holds C.prog (lone (Frame.enter C.prog f i.args .normal) [] (w.forCall tape i)))
    (contract : ∀ (W : World) (base : Nat) (args : Array Value) (ds gs : List (DataW H)) (before : List MemPlace),
      (∀ (j : Nat) t v, fn.params[j]? = some t → args[j]? = some v → Value.okWide C.prog W .any base t v) →
      DataW.Whole enc C.prog fn.params.toList s.vars apart W args.toList ds gs before →
      X W args → W.ShapedOpen C.prog →
      Calls C.prog f args W fun e W' => ∃ v, e = .returned v ∧ s.post enc C.prog fn apart fresh handsOn again W args v W') :
    ReturnsInHanded a C os f .any (fun w args => (s.pre enc C.prog fn conds apart w args ∧ X w args) ∧ sizedMet enc C.prog fn (OpenSpec.ofChange s) apart w args) (s.post enc C.prog fn apart fresh handsOn again) := by
  refine returnsInHanded_of_calls own started noInit witness ?_
  intro w tape i _ hsh _ hok hpre hholds
  obtain ⟨_, _, _, fn', hfn', _, _, _, _, hval⟩ := hok
  have e : fn' = fn := Option.some.inj (hfn'.symm.trans hfn)
  subst e
  obtain ⟨⟨⟨ds, gs, before, hw, hc⟩, hx⟩, hz⟩ := hpre
  have hw' := DataW.Whole.of_heap (w' := w.forCall tape i) (by rfl) hw
  refine (contract (w.forCall tape i) w.heap.size i.args ds gs before hval hw' (hX _ _ _ (by rfl) hx) hsh).mono fun e W' ⟨v, he, hp⟩ => ?_
  subst he
  exact ChangeSpec.post_blind hp
end Go.Proofs.YtmkdpchodeckgaaGreatDoor
