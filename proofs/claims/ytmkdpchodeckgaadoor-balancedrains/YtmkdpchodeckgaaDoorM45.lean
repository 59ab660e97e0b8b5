/- The landed balance keeps its contracts, in a program that has no texts of flows. -/
import Derived.Test.YtmkdpchodeckgaaDoorBbC
import Derived.Test.YtmkdpchodeckgaaDoorRows
import Derived.Test.YtmkdpchodeckgaaDoorM0
import Derived.ProofKit
import Derived.LaidMore
import Derived.OpenShut
import Derived.Stop.Joined
import Derived.Stop.LaidErr
import Derived.LaidLaws
import Derived.LaidHandle
import Derived.Test.YtmkdpchodeckgaaDoorM4
import Derived.SliceStrings
import Derived.ChangeSlices
namespace Go.Proofs.YtmkdpchodeckgaaDoor
open Go.RowKit

def balanceC : BalanceC where
  E := EB
  eLater := fun h hb => h.later hb
  X := fun _ _ => True
  xLater := fun _ _ => trivial
  nw := nwB
  nwIn := fun k h _ => nwB_in k h
  Rep := RepB
  lt := fun h => h.lt
  stay := fun h _ hs => h.stay hs
  newG := fun a v xs n t f r W he hv h0 hf hs hp h5 h1 h2 h3 h4 h6 h7 => newG_bal a v xs n t f r W he hv h0 hf hs hp h5 h1 h2 h3 h4 h6 h7
  pick := fun a S F p k now W he hR hk hkk => pick_bal a S F p k now W he hR hk hkk
  drain := fun a S F p s is W he hR hk _ => drain_bal a S F p s is W he hR hk
  up := fun S F p W hR hk => up_bal S F p W hR hk
  flows := fun S F p W hR hk => flows_bal S F p W hR hk
  epoch := fun S F p W hR => epoch_bal S F p W hR
end Go.Proofs.YtmkdpchodeckgaaDoor

/- From the row's list of package variables to what the walks ask: the handle of the type error, nine errors at different places. -/
namespace Go.Proofs.YtmkdpchodeckgaaDoor
open Go.ChangeShapes Go.WideShapes Go.ChangeAt Go.RowKit

theorem own : ownKnob Tryd.prog.godebug = none := by kernel_rfl

/-- A list of errors of errors.New's make, by names and texts. -/
def sentList (l : List (String × List UInt8)) : List (String × DataW Unit) := l.map fun x => (x.1, .iface "*errors.errorString" (.ptr (.agg [.lit (.string x.2)])))
def placeOf (a : Addr) : MemPlace := .cell a.block a.off

theorem sents_of {P : Program} {W : World} {ti tp te ts : TypeId} {ms : Array (String × TypeId)} {f : Field}
    (hi : P.underlying ti = some (.interface ms)) (hrow : ∀ u, P.typeName? 3 u = some "*errors.errorString" → u = tp)
    (hp : P.underlying tp = some (.pointer te)) (he : P.underlying te = some (.struct #[f])) (hft : f.type = ts) (hfo : f.offset = 0) (hs : P.underlying ts = some .string) (hc : P.cellsOf te = 1) (hcs : P.cellsOf ts = 1)
    (all : List MemPlace) (hrows : ∀ b off, MemPlace.cell b off ∈ all → (∃ c t, W.heap[b]? = some (.cells c t (0, 0))) ∧ ∀ u v, W.cell? ⟨b, off, none⟩ = some (.iface u v) → Value.okWide P W .any 0 u v) :
    ∀ (l : List (String × List UInt8)) (ps : List MemPlace), (∀ x ∈ l, ∃ g, P.globalNamed x.1 = some g ∧ (P.globals[g]?).map (·.type) = some ti) → (∀ m ∈ ps, m ∈ all) →
      DataW.LaidVars P W (sentList l) ps →
      ∃ ads : List Addr, ads.length = l.length ∧ (ads.map placeOf).Sublist ps ∧ ∀ i (h : i < l.length) (h' : i < ads.length), W.var? P l[i].1 = some #[.iface tp (.pointer (some ads[i]))]
  | [], ps, _, _, _ => ⟨[], rfl, by simp, fun i h => by simp at h⟩
  | x :: r, ps, hg, hin, hl => by
    obtain ⟨g, t, cs, fuel, p, q, h1, h2, h3, h4, h5, rfl⟩ := hl
    obtain ⟨g', hg1, hg2⟩ := hg x (List.mem_cons_self ..)
    obtain rfl := Option.some.inj (hg1.symm.trans h1)
    obtain rfl := Option.some.inj (hg2.symm.trans h2)
    obtain ⟨l0⟩ := cs
    have ok0 : ∀ u v, l0 = [.iface u v] → Value.okWide P W .any 0 u v := fun u v e => by
      subst e
      exact (hrows g' 0 (hin _ (by simp [MemPlace.row]))).2 u v (by simpa using World.var?_cell h1 h3 0)
    obtain ⟨a, s, rfl, _, _, _, rfl⟩ := errorString_of_trod hi hrow hp he hft hfo hs hc hcs h4 ok0
    obtain ⟨ads, e1, e2, e3⟩ := sents_of hi hrow hp he hft hfo hs hc hcs all hrows r q (fun y hy => hg y (List.mem_cons_of_mem _ hy)) (fun m hm => hin m (List.mem_append_right _ hm)) h5
    refine ⟨a :: ads, by simp [e1], ?_, ?_⟩
    · have : MemPlace.row a 1 = [placeOf a] := by simp [MemPlace.row, placeOf]
      rw [this, List.append_assoc]
      exact (List.Sublist.cons_cons _ e2).trans (List.sublist_append_right _ _)
    · intro i h h'
      cases i with
      | zero => exact h3
      | succ i => exact e3 i (by simpa using h) (by simpa using h')

theorem star : "*errors.errorString" = "*" ++ "errors.errorString" := by decide
theorem rowE (u : TypeId) (h : Tryd.prog.typeName? 3 u = some "*errors.errorString") : u = 142 :=
  typeName_ptr_named (nm := "errors.errorString") (by rw [← star]; kernel_rfl) (by kernel_rfl) (by decide) u (by rw [← star]; exact h)
theorem cellsE : Tryd.prog.cellsOf 158 = 1 := by kernel_rfl
theorem cellsS : Tryd.prog.cellsOf 9 = 1 := by kernel_rfl
theorem oneRowE : ((List.range 161).filter fun t => Tryd.prog.rowNamed t [101, 114, 114, 111, 114]) = [27] := by kernel_rfl
theorem sizeT : Tryd.prog.types.size = 161 := by kernel_rfl

def apiErrs : List (String × List UInt8) := [
  ("levelhand/api.ErrText", [108, 101, 118, 101, 108, 104, 97, 110, 100, 58, 32, 116, 101, 120, 116]),
  ("levelhand/api.ErrBound", [108, 101, 118, 101, 108, 104, 97, 110, 100, 58, 32, 98, 111, 117, 110, 100]),
  ("levelhand/api.ErrShape", [108, 101, 118, 101, 108, 104, 97, 110, 100, 58, 32, 115, 104, 97, 112, 101]),
  ("levelhand/api.ErrName", [108, 101, 118, 101, 108, 104, 97, 110, 100, 58, 32, 110, 97, 109, 101]),
  ("levelhand/api.ErrNone", [108, 101, 118, 101, 108, 104, 97, 110, 100, 58, 32, 110, 111, 110, 101]),
  ("levelhand/api.ErrExist", [108, 101, 118, 101, 108, 104, 97, 110, 100, 58, 32, 101, 120, 105, 115, 116]),
  ("levelhand/api.ErrFull", [108, 101, 118, 101, 108, 104, 97, 110, 100, 58, 32, 102, 117, 108, 108]),
  ("levelhand/api.ErrOld", [108, 101, 118, 101, 108, 104, 97, 110, 100, 58, 32, 111, 108, 100]),
  ("levelhand/api.ErrSum", [108, 101, 118, 101, 108, 104, 97, 110, 100, 58, 32, 115, 117, 109])]
def apiLaid : List (String × DataW Unit) := ("errors.errorType", .iface "internal/reflectlite.rtype" (.agg [.ptr (.lit (.string [101, 114, 114, 111, 114]))])) :: sentList apiErrs

theorem laidOut : laidOutB Tryd.prog = true := by kernel_rfl
end Go.Proofs.YtmkdpchodeckgaaDoor

/- Parts of a list of package variables; the errors of a list, by names. -/
namespace Go.Proofs.YtmkdpchodeckgaaDoor
open Go.RowKit

theorem laidVars_take {P : Program} {w : World} : ∀ (xs ys : List (String × DataW Unit)) (ps : List MemPlace), DataW.LaidVars P w (xs ++ ys) ps → ∃ p1 p2, ps = p1 ++ p2 ∧ DataW.LaidVars P w xs p1
  | [], ys, ps, h => ⟨[], ps, rfl, rfl⟩
  | (n, d) :: xs, ys, ps, h => by
    obtain ⟨g, t, cs, fuel, p, q, h1, h2, h3, h4, h5, rfl⟩ := h
    obtain ⟨p1, p2, rfl, h6⟩ := laidVars_take xs ys q h5
    exact ⟨MemPlace.row ⟨g, 0, none⟩ cs.size ++ p ++ p1, p2, by simp, g, t, cs, fuel, p, p1, h1, h2, h3, h4, h6, rfl⟩
theorem laidMet_take {P : Program} {w : World} {xs ys : List (String × DataW Unit)} (h : laidMet P (xs ++ ys) w) : laidMet P xs w := by
  obtain ⟨ps, h1, h2, h3⟩ := h
  obtain ⟨p1, p2, rfl, h4⟩ := laidVars_take xs ys ps h1
  exact ⟨p1, h4, (List.nodup_append.1 h2).1, fun b off hm => h3 b off (List.mem_append_left _ hm)⟩
theorem laidMet_drop {P : Program} {w : World} : ∀ {xs ys : List (String × DataW Unit)}, laidMet P (xs ++ ys) w → laidMet P ys w
  | [], _, h => h
  | _ :: xs, _, h => laidMet_drop (xs := xs) (laidMet.tail h)
/-- errors of a list, by names -/
theorem sentCells {l : List (String × List UInt8)} {W : World} (h : laidMet Tryd.prog (sentList l) W) (hg : ∀ x ∈ l, ∃ g, Tryd.prog.globalNamed x.1 = some g ∧ (Tryd.prog.globals[g]?).map (·.type) = some 27) :
    ∃ ads : List Addr, ads.length = l.length ∧ ∀ i (hi : i < l.length) (g : Nat), Tryd.prog.globalNamed (l[i]).1 = some g → W.cell? ⟨g, 0, none⟩ = some (.iface 142 (.pointer (some (ads.getD i default)))) := by
  obtain ⟨ps, hl, _, hrows⟩ := h
  obtain ⟨ads, el, _, hv⟩ := sents_of Tryd.underlying27 rowE Tryd.underlying142 Tryd.underlying158 rfl rfl Tryd.underlying9 cellsE cellsS ps hrows l ps hg (fun _ hm => hm) hl
  refine ⟨ads, el, fun i hi g hgn => ?_⟩
  have := hv i hi (by omega)
  have hd : ads.getD i default = ads[i]'(by omega) := by rw [List.getD_eq_getElem?_getD, List.getElem?_eq_getElem (by omega)]; rfl
  rw [hd]
  simpa using World.var?_cell hgn this 0
end Go.Proofs.YtmkdpchodeckgaaDoor

/- From the row's list of package variables to what the landed balance asks. -/
namespace Go.Proofs.YtmkdpchodeckgaaDoor
open Go.RowKit

def api6 : List (String × List UInt8) := [
  ("levelhand/api.ErrBound", [108, 101, 118, 101, 108, 104, 97, 110, 100, 58, 32, 98, 111, 117, 110, 100]),
  ("levelhand/api.ErrShape", [108, 101, 118, 101, 108, 104, 97, 110, 100, 58, 32, 115, 104, 97, 112, 101]),
  ("levelhand/api.ErrName", [108, 101, 118, 101, 108, 104, 97, 110, 100, 58, 32, 110, 97, 109, 101]),
  ("levelhand/api.ErrNone", [108, 101, 118, 101, 108, 104, 97, 110, 100, 58, 32, 110, 111, 110, 101]),
  ("levelhand/api.ErrExist", [108, 101, 118, 101, 108, 104, 97, 110, 100, 58, 32, 101, 120, 105, 115, 116]),
  ("levelhand/api.ErrOld", [108, 101, 118, 101, 108, 104, 97, 110, 100, 58, 32, 111, 108, 100])]
theorem gApi6 : ∀ x ∈ api6, ∃ g, Tryd.prog.globalNamed x.1 = some g ∧ (Tryd.prog.globals[g]?).map (·.type) = some 27 := by
  intro x hx
  simp only [api6, List.mem_cons, List.not_mem_nil, or_false] at hx
  rcases hx with rfl | rfl | rfl | rfl | rfl | rfl
  · exact ⟨1, by kernel_rfl, by kernel_rfl⟩
  · exact ⟨4, by kernel_rfl, by kernel_rfl⟩
  · exact ⟨2, by kernel_rfl, by kernel_rfl⟩
  · exact ⟨0, by kernel_rfl, by kernel_rfl⟩
  · exact ⟨3, by kernel_rfl, by kernel_rfl⟩
  · exact ⟨5, by kernel_rfl, by kernel_rfl⟩
theorem eb_of6 {W : World} (h : laidMet Tryd.prog (sentList api6) W) : ∃ a, EB a W := by
  obtain ⟨ads, _, hc⟩ := sentCells h gApi6
  exact ⟨fun i => ads.getD (if i = 1 then 0 else if i = 2 then 1 else if i = 3 then 2 else if i = 4 then 3 else if i = 5 then 4 else 5) default, ⟨hc 0 (by decide) _ (by kernel_rfl), hc 1 (by decide) _ (by kernel_rfl), hc 2 (by decide) _ (by kernel_rfl), hc 3 (by decide) _ (by kernel_rfl), hc 4 (by decide) _ (by kernel_rfl)⟩, hc 5 (by decide) _ (by kernel_rfl)⟩
end Go.Proofs.YtmkdpchodeckgaaDoor

/- A list of texts among the arguments, as it is read. -/
namespace Go.Proofs.YtmkdpchodeckgaaDoor
open Go.ChangeShapes Go.WideShapes Go.ChangeAt Go.RowKit
open Go.ChangeMaps (open_string shut_string)

theorem open_texts {H : Type} {enc : TypeId × Value → H} {W : World} {v : Value} {fuel : Nat} {x : DataW H × List MemPlace} {a0 : Option Addr} {len cap : Nat} (hv : v = .slice a0 len cap)
    (hf : DataW.trod enc Tryd.prog W 0 (fun _ => true) true fuel 24 [.slice a0 len cap] = some x) :
    ∃ xs : List ByteArray, Strs1 W v xs ∧ (∀ k (h : k < xs.length), (xs[k]).size ≤ maxLen) ∧ xs.length ≤ maxLen := by
  subst hv
  rcases open_strings Tryd.underlying24 Tryd.underlying9 cellsS hf with ⟨hcs, _⟩ | ⟨a, len', cap', ss, hcs, _, hl, hm, hz, _, hcell, hws⟩
  · simp at hcs
    obtain ⟨rfl, rfl, rfl⟩ := hcs
    exact ⟨[], Or.inl ⟨rfl, Or.inl rfl⟩, fun k h => absurd h (by simp), by simp⟩
  · simp at hcs
    obtain ⟨rfl, rfl, rfl⟩ := hcs
    simp only [if_true] at hz
    have hlen : (ss.take len).length = len := by simp; omega
    refine ⟨ss.take len, ?_, fun k h => hws _ (List.mem_of_mem_take (List.getElem_mem h)), by omega⟩
    rcases Nat.eq_zero_or_pos len with h0 | h0
    · subst h0
      exact Or.inl ⟨by simp, Or.inr ⟨_, _, rfl⟩⟩
    · obtain ⟨b, off, spot⟩ := a
      have hspot : spot = none := by simpa [Addr.add] using World.cell?_spot (hcell 0 (by omega))
      subst hspot
      refine Or.inr ⟨b, off, cap, by rw [hlen], by omega, fun k h => ?_⟩
      have hk : k < ss.length := by omega
      have := hcell k hk
      rw [Addr.add_lit] at this
      rw [this]
      simp [List.getD, hk]
end Go.Proofs.YtmkdpchodeckgaaDoor

/- Numbers of 64 bits among the arguments. -/
namespace Go.Proofs.YtmkdpchodeckgaaDoor
open Go.ChangeShapes Go.WideShapes Go.ChangeAt Go.RowKit

theorem cellsU : Tryd.prog.cellsOf 32 = 1 := by kernel_rfl
theorem wf_u64 {n : Int} (h : (Lit.int .u64 n).wf = true) : 0 ≤ n ∧ n < 18446744073709551616 := by
  have := bounds_u64 h
  omega
end Go.Proofs.YtmkdpchodeckgaaDoor
