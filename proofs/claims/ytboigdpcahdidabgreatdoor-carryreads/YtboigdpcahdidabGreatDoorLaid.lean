/- From the row's list of package variables to what the walks ask: the handle of the type error, nine errors at different places. -/
import Derived.Test.YtboigdpcahdidabGreatDoorRows
import Derived.Test.YtboigdpcahdidabGreatDoorCode
import Derived.ProofKit
import Derived.LaidMore
import Derived.OpenShut
import Derived.Stop.Joined
import Derived.Stop.LaidErr
import Derived.LaidLaws
import Derived.LaidHandle
namespace Go.Proofs.YtboigdpcahdidabGreatDoor
open Go.ChangeShapes Go.WideShapes Go.ChangeAt Go.RowKit

theorem own : ownKnob Tryz.prog.godebug = none := by kernel_rfl

/-- A list of errors of errors.New's make, by names and texts. -/
def sentList (l : List (String × List UInt8)) : List (String × DataW Unit) := l.map fun x => (x.1, .iface "*errors.errorString" (.ptr (.agg [.lit (.string x.2)])))
def placeOf (a : Addr) : MemPlace := .cell a.block a.off

theorem sents_of {P : Program} {W : World} {ti tp te ts : TypeId} {ms : Array (String × TypeId)} {f : Field}
    (hi : P.underlying ti = some (.interface ms)) (hrow : ∀ u, P.typeName? 3 u = some "*errors.errorString" → u = tp)
    (hp : P.underlying tp = some (.pointer te)) (he : P.underlying te = some (.struct #[f])) (hft : f.type = ts) (hfo : f.offset = 0) (hs : P.underlying ts = some .string) (hc : P.cellsOf te = 1) (hcs : P.cellsOf ts = 1)
    (all : List MemPlace) (hrows : ∀ b off, MemPlace.cell b off ∈ all → (∃ c t, W.heap[b]? = some (.cells c t (0, 0))) ∧ ∀ u v, W.cell? ⟨b, off, none⟩ = some (.iface u v) → Value.okWide P W .any 0 u v) :
    ∀ (l : List (String × List UInt8)) (ps : List MemPlace), (∀ x ∈ l, ∃ g, P.globalNamed x.1 = some g ∧ (P.globals[g]?).map (·.type) = some ti) → (∀ m ∈ ps, m ∈ all) →
      DataW.LaidVars P W (sentList l) ps →
      ∃ ads : List Addr, ads.length = l.length ∧ (ads.map placeOf).Sublist ps ∧ ∀ i (h : i < l.length) (h' : i < ads.length), W.var? P l[i].1 = some #[.iface tp (.pointer (some ads[i]))]
  | [], ps, _, _, _ => ⟨[], rfl, by simp, fun i h => by simp at h⟩
  | x :: r, ps, hg, hin, hl => by
    obtain ⟨g, t, cs, fuel, p, q, h1, h2, h3, h4, h5, rfl⟩ := hl
    obtain ⟨g', hg1, hg2⟩ := hg x (List.mem_cons_self ..)
    obtain rfl := Option.some.inj (hg1.symm.trans h1)
    obtain rfl := Option.some.inj (hg2.symm.trans h2)
    obtain ⟨l0⟩ := cs
    have ok0 : ∀ u v, l0 = [.iface u v] → Value.okWide P W .any 0 u v := fun u v e => by
      subst e
      exact (hrows g' 0 (hin _ (by simp [MemPlace.row]))).2 u v (by simpa using World.var?_cell h1 h3 0)
    obtain ⟨a, s, rfl, _, _, _, rfl⟩ := errorString_of_trod hi hrow hp he hft hfo hs hc hcs h4 ok0
    obtain ⟨ads, e1, e2, e3⟩ := sents_of hi hrow hp he hft hfo hs hc hcs all hrows r q (fun y hy => hg y (List.mem_cons_of_mem _ hy)) (fun m hm => hin m (List.mem_append_right _ hm)) h5
    refine ⟨a :: ads, by simp [e1], ?_, ?_⟩
    · have : MemPlace.row a 1 = [placeOf a] := by simp [MemPlace.row, placeOf]
      rw [this, List.append_assoc]
      exact (List.Sublist.cons_cons _ e2).trans (List.sublist_append_right _ _)
    · intro i h h'
      cases i with
      | zero => exact h3
      | succ i => exact e3 i (by simpa using h) (by simpa using h')

theorem star : "*errors.errorString" = "*" ++ "errors.errorString" := by decide
theorem rowE (u : TypeId) (h : Tryz.prog.typeName? 3 u = some "*errors.errorString") : u = 238 :=
  typeName_ptr_named (nm := "errors.errorString") (by rw [← star]; kernel_rfl) (by kernel_rfl) (by decide) u (by rw [← star]; exact h)
theorem cellsE : Tryz.prog.cellsOf 240 = 1 := by kernel_rfl
theorem cellsS : Tryz.prog.cellsOf 9 = 1 := by kernel_rfl
theorem gH : Tryz.prog.globalNamed "errors.errorType" = some 9 := by kernel_rfl
theorem rtN : (Tryz.prog.cutTypes.find? (·.1 == "internal/reflectlite.rtype")).map (·.2) = some 183 := by kernel_rfl
theorem oneRowE : ((List.range 272).filter fun t => Tryz.prog.rowNamed t [101, 114, 114, 111, 114]) = [26] := by kernel_rfl
theorem sizeT : Tryz.prog.types.size = 272 := by kernel_rfl

def apiErrs : List (String × List UInt8) := [
  ("levelhand/api.ErrText", [108, 101, 118, 101, 108, 104, 97, 110, 100, 58, 32, 116, 101, 120, 116]),
  ("levelhand/api.ErrBound", [108, 101, 118, 101, 108, 104, 97, 110, 100, 58, 32, 98, 111, 117, 110, 100]),
  ("levelhand/api.ErrShape", [108, 101, 118, 101, 108, 104, 97, 110, 100, 58, 32, 115, 104, 97, 112, 101]),
  ("levelhand/api.ErrName", [108, 101, 118, 101, 108, 104, 97, 110, 100, 58, 32, 110, 97, 109, 101]),
  ("levelhand/api.ErrNone", [108, 101, 118, 101, 108, 104, 97, 110, 100, 58, 32, 110, 111, 110, 101]),
  ("levelhand/api.ErrExist", [108, 101, 118, 101, 108, 104, 97, 110, 100, 58, 32, 101, 120, 105, 115, 116]),
  ("levelhand/api.ErrFull", [108, 101, 118, 101, 108, 104, 97, 110, 100, 58, 32, 102, 117, 108, 108]),
  ("levelhand/api.ErrOld", [108, 101, 118, 101, 108, 104, 97, 110, 100, 58, 32, 111, 108, 100]),
  ("levelhand/api.ErrSum", [108, 101, 118, 101, 108, 104, 97, 110, 100, 58, 32, 115, 117, 109])]
def apiLaid : List (String × DataW Unit) := ("errors.errorType", .iface "internal/reflectlite.rtype" (.agg [.ptr (.lit (.string [101, 114, 114, 111, 114]))])) :: sentList apiErrs

theorem gErr (i : Nat) (h : i < 9) : ∃ x g, apiErrs[i]? = some x ∧ Tryz.prog.globalNamed x.1 = some g ∧ (Tryz.prog.globals[g]?).map (·.type) = some 26 := by
  match i, h with
  | 0, _ => exact ⟨_, 2, rfl, by kernel_rfl, by kernel_rfl⟩
  | 1, _ => exact ⟨_, 0, rfl, by kernel_rfl, by kernel_rfl⟩
  | 2, _ => exact ⟨_, 4, rfl, by kernel_rfl, by kernel_rfl⟩
  | 3, _ => exact ⟨_, 1, rfl, by kernel_rfl, by kernel_rfl⟩
  | 4, _ => exact ⟨_, 5, rfl, by kernel_rfl, by kernel_rfl⟩
  | 5, _ => exact ⟨_, 6, rfl, by kernel_rfl, by kernel_rfl⟩
  | 6, _ => exact ⟨_, 7, rfl, by kernel_rfl, by kernel_rfl⟩
  | 7, _ => exact ⟨_, 8, rfl, by kernel_rfl, by kernel_rfl⟩
  | 8, _ => exact ⟨_, 3, rfl, by kernel_rfl, by kernel_rfl⟩

theorem errs_of_api {W : World} (h : laidMetH Tryz.prog apiLaid W) : ∃ a, Errs a W := by
  have h' : laidMet Tryz.prog (sentList apiErrs) W ∧ handlesMet Tryz.prog [("errors.errorType", .iface "internal/reflectlite.rtype" (.agg [.ptr (.lit (.string [101, 114, 114, 111, 114]))]))] W := h
  obtain ⟨⟨ps, hl, hnd, hrows⟩, hh⟩ := h'
  obtain ⟨name, u, ty, e1, e2, e3, e4, e5⟩ := hh _ (List.mem_singleton.2 rfl)
  have en : name = [101, 114, 114, 111, 114] := (Option.some.inj e1).symm
  subst en
  obtain rfl := Option.some.inj (rtN.symm.trans e2)
  have hm : ty ∈ (List.range 272).filter fun t => Tryz.prog.rowNamed t [101, 114, 114, 111, 114] := List.mem_filter.2 ⟨List.mem_range.2 (by rw [← sizeT]; exact e3), e4⟩
  rw [oneRowE] at hm
  obtain rfl := List.mem_singleton.1 hm
  have hth : typeHandle Tryz.prog 26 = .pointer (some ⟨18, 26, none⟩) := by kernel_rfl
  rw [hth] at e5
  obtain ⟨ads, el, hsub, hv⟩ := sents_of Tryz.underlying26 rowE Tryz.underlying238 Tryz.underlying240 rfl rfl Tryz.underlying9 cellsE cellsS ps hrows apiErrs ps
    (fun x hx => by
      obtain ⟨i, hi, rfl⟩ := List.getElem_of_mem hx
      obtain ⟨y, g, hy, h1, h2⟩ := gErr i hi
      rw [List.getElem?_eq_getElem hi] at hy
      obtain rfl := Option.some.inj hy
      exact ⟨g, h1, h2⟩) (fun _ hm => hm) hl
  have el9 : ads.length = 9 := el
  have hnd' : (ads.map placeOf).Nodup := hnd.sublist hsub
  have cellAt : ∀ (i : Nat) (h : i < 9) (n : String) (g : Nat), (apiErrs[i]'h).1 = n → Tryz.prog.globalNamed n = some g → W.cell? ⟨g, 0, none⟩ = some (.iface 238 (.pointer (some (ads.getD i default)))) := by
    intro i h n g hn hg
    have := hv i h (by omega)
    rw [hn] at this
    have hd : ads.getD i default = ads[i]'(by omega) := by rw [List.getD_eq_getElem?_getD, List.getElem?_eq_getElem (by omega)]; rfl
    rw [hd]
    simpa using World.var?_cell hg this 0
  refine ⟨fun i => ads.getD i default, ?_⟩
  constructor
  · simpa using World.var?_cell gH e5 0
  · exact cellAt 0 (by decide) _ _ rfl (by kernel_rfl)
  · exact cellAt 1 (by decide) _ _ rfl (by kernel_rfl)
  · exact cellAt 2 (by decide) _ _ rfl (by kernel_rfl)
  · exact cellAt 3 (by decide) _ _ rfl (by kernel_rfl)
  · exact cellAt 4 (by decide) _ _ rfl (by kernel_rfl)
  · exact cellAt 5 (by decide) _ _ rfl (by kernel_rfl)
  · exact cellAt 6 (by decide) _ _ rfl (by kernel_rfl)
  · exact cellAt 7 (by decide) _ _ rfl (by kernel_rfl)
  · exact cellAt 8 (by decide) _ _ rfl (by kernel_rfl)
  · intro i hi
    have hmem : placeOf (ads[i]'(by omega)) ∈ ps := hsub.subset (List.mem_map.2 ⟨_, List.getElem_mem _, rfl⟩)
    have hd : ads.getD i default = ads[i]'(by omega) := by rw [List.getD_eq_getElem?_getD, List.getElem?_eq_getElem (by omega)]; rfl
    show ∃ c t, W.heap[(ads.getD i default).block]? = some (.cells c t (0, 0))
    rw [hd]
    exact (hrows _ _ hmem).1
  · intro i j hi hj hij e
    have hdi : ads.getD i default = ads[i]'(by omega) := by rw [List.getD_eq_getElem?_getD, List.getElem?_eq_getElem (by omega)]; rfl
    have hdj : ads.getD j default = ads[j]'(by omega) := by rw [List.getD_eq_getElem?_getD, List.getElem?_eq_getElem (by omega)]; rfl
    have e' : ads[i]'(by omega) = ads[j]'(by omega) := by rw [← hdi, ← hdj]; exact e
    have e2 : (ads.map placeOf)[i]'(by simp; omega) = (ads.map placeOf)[j]'(by simp; omega) := by simp [e']
    have hpw := List.pairwise_iff_getElem.1 hnd'
    rcases Nat.lt_or_gt_of_ne hij with hlt | hlt
    · exact hpw i j (by simp; omega) (by simp; omega) hlt e2
    · exact hpw j i (by simp; omega) (by simp; omega) hlt e2.symm

theorem laidOut : laidOutB Tryz.prog = true := by kernel_rfl
end Go.Proofs.YtboigdpcahdidabGreatDoor
