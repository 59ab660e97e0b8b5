/- From the row's list of package variables, and the world's shape, to what the landed carry asks. -/
import Derived.Test.YtboigdpcahdidabGreatDoorRows
import Derived.Test.YtboigdpcahdidabGreatDoorLaid
import Derived.Test.YtboigdpcahdidabGreatDoorCbRh
import Derived.Lib.LaidTab
import Derived.Lib.TrailingZeros
import Derived.Shelf.Vars
import Derived.Stop.LaidErr
namespace Go.Proofs.YtboigdpcahdidabGreatDoor
open Go.RowKit

theorem laidVars_take {P : Program} {w : World} : ∀ (xs ys : List (String × DataW Unit)) (ps : List MemPlace), DataW.LaidVars P w (xs ++ ys) ps → ∃ p1 p2, ps = p1 ++ p2 ∧ DataW.LaidVars P w xs p1
  | [], ys, ps, h => ⟨[], ps, rfl, rfl⟩
  | (n, d) :: xs, ys, ps, h => by
    obtain ⟨g, t, cs, fuel, p, q, h1, h2, h3, h4, h5, rfl⟩ := h
    obtain ⟨p1, p2, rfl, h6⟩ := laidVars_take xs ys q h5
    exact ⟨MemPlace.row ⟨g, 0, none⟩ cs.size ++ p ++ p1, p2, by simp, g, t, cs, fuel, p, p1, h1, h2, h3, h4, h6, rfl⟩
theorem laidMet_take {P : Program} {w : World} {xs ys : List (String × DataW Unit)} (h : laidMet P (xs ++ ys) w) : laidMet P xs w := by
  obtain ⟨ps, h1, h2, h3⟩ := h
  obtain ⟨p1, p2, rfl, h4⟩ := laidVars_take xs ys ps h1
  exact ⟨p1, h4, (List.nodup_append.1 h2).1, fun b off hm => h3 b off (List.mem_append_left _ hm)⟩
theorem laidMet_drop {P : Program} {w : World} : ∀ {xs ys : List (String × DataW Unit)}, laidMet P (xs ++ ys) w → laidMet P ys w
  | [], _, h => h
  | _ :: xs, _, h => laidMet_drop (xs := xs) (laidMet.tail h)
/-- errors of a list, by names -/
theorem sentCells {l : List (String × List UInt8)} {W : World} (h : laidMet Tryz.prog (sentList l) W) (hg : ∀ x ∈ l, ∃ g, Tryz.prog.globalNamed x.1 = some g ∧ (Tryz.prog.globals[g]?).map (·.type) = some 26) :
    ∃ ads : List Addr, ads.length = l.length ∧ ∀ i (hi : i < l.length) (g : Nat), Tryz.prog.globalNamed (l[i]).1 = some g → W.cell? ⟨g, 0, none⟩ = some (.iface 238 (.pointer (some (ads.getD i default)))) := by
  obtain ⟨ps, hl, _, hrows⟩ := h
  obtain ⟨ads, el, _, hv⟩ := sents_of Tryz.underlying26 rowE Tryz.underlying238 Tryz.underlying240 rfl rfl Tryz.underlying9 cellsE cellsS ps hrows l ps hg (fun _ hm => hm) hl
  refine ⟨ads, el, fun i hi g hgn => ?_⟩
  have := hv i hi (by omega)
  have hd : ads.getD i default = ads[i]'(by omega) := by rw [List.getD_eq_getElem?_getD, List.getElem?_eq_getElem (by omega)]; rfl
  rw [hd]
  simpa using World.var?_cell hgn this 0
def conv2 : List (String × List UInt8) := [
  ("strconv.ErrRange", [118, 97, 108, 117, 101, 32, 111, 117, 116, 32, 111, 102, 32, 114, 97, 110, 103, 101]),
  ("strconv.ErrSyntax", [105, 110, 118, 97, 108, 105, 100, 32, 115, 121, 110, 116, 97, 120])]
theorem gConv : ∀ x ∈ conv2, ∃ g, Tryz.prog.globalNamed x.1 = some g ∧ (Tryz.prog.globals[g]?).map (·.type) = some 26 := by
  intro x hx
  simp only [conv2, List.mem_cons, List.not_mem_nil, or_false] at hx
  rcases hx with rfl | rfl
  · exact ⟨13, by kernel_rfl, by kernel_rfl⟩
  · exact ⟨12, by kernel_rfl, by kernel_rfl⟩
def api5 : List (String × List UInt8) := [
  ("levelhand/api.ErrText", [108, 101, 118, 101, 108, 104, 97, 110, 100, 58, 32, 116, 101, 120, 116]),
  ("levelhand/api.ErrBound", [108, 101, 118, 101, 108, 104, 97, 110, 100, 58, 32, 98, 111, 117, 110, 100]),
  ("levelhand/api.ErrName", [108, 101, 118, 101, 108, 104, 97, 110, 100, 58, 32, 110, 97, 109, 101]),
  ("levelhand/api.ErrExist", [108, 101, 118, 101, 108, 104, 97, 110, 100, 58, 32, 101, 120, 105, 115, 116]),
  ("levelhand/api.ErrSum", [108, 101, 118, 101, 108, 104, 97, 110, 100, 58, 32, 115, 117, 109])]
theorem gApi5 : ∀ x ∈ api5, ∃ g, Tryz.prog.globalNamed x.1 = some g ∧ (Tryz.prog.globals[g]?).map (·.type) = some 26 := by
  intro x hx
  simp only [api5, List.mem_cons, List.not_mem_nil, or_false] at hx
  rcases hx with rfl | rfl | rfl | rfl | rfl
  · exact ⟨2, by kernel_rfl, by kernel_rfl⟩
  · exact ⟨0, by kernel_rfl, by kernel_rfl⟩
  · exact ⟨1, by kernel_rfl, by kernel_rfl⟩
  · exact ⟨6, by kernel_rfl, by kernel_rfl⟩
  · exact ⟨3, by kernel_rfl, by kernel_rfl⟩
theorem mln_of {W : World} (h : W.ShapedOpen Tryz.prog) : ∃ m, W.cell? ⟨11, 0, none⟩ = some (.int .i64 m) :=
  cell_of_shapedOpen_int (t := 3) (zero := #[.int .i64 0]) h (of_decide_eq_true (by kernel_rfl)) (by kernel_rfl) rfl (by kernel_rfl) (by kernel_rfl) Tryz.underlying3
def brjI : List Int := Lib.deBruijn64tab.map fun (n : Nat) => ((n : Nat) : Int)
def tabs2 : List (String × DataW Unit) := [("math/bits.deBruijn64tab", Lib.tabData .u8 brjI), ("internal/strconv.uint64pow10", Lib.tabData .u64 Lib.pow10Tab)]
theorem tabs_of {W : World} {r : List (String × DataW Unit)} (h : laidMet Tryz.prog (tabs2 ++ r) W) : W.cell? ⟨15, 15, none⟩ = some (.int .u8 4) ∧ Lib.TabIs Tryz.prog W "internal/strconv.uint64pow10" .u64 Lib.pow10Tab := by
  have h1 : laidMet Tryz.prog (("math/bits.deBruijn64tab", Lib.tabData .u8 brjI) :: ("internal/strconv.uint64pow10", Lib.tabData .u64 Lib.pow10Tab) :: r) W := h
  have hg : Tryz.prog.globalNamed "math/bits.deBruijn64tab" = some 15 := by kernel_rfl
  have t1 := Lib.tabIs_of_head hg (t := 237) (by kernel_rfl) Tryz.underlying237 Tryz.underlying5 (by kernel_rfl) (by kernel_rfl) h1
  have t2 := Lib.tabIs_of_head (show Tryz.prog.globalNamed "internal/strconv.uint64pow10" = some 10 by kernel_rfl) (t := 221) (by kernel_rfl) Tryz.underlying221 Tryz.underlying34 (by kernel_rfl) (by kernel_rfl) (laidMet.tail h1)
  exact ⟨t1.cell hg 15 (by decide), t2⟩
theorem conv_of {W : World} (h : laidMet Tryz.prog (sentList conv2) W) : (∃ te pe, W.cell? ⟨12, 0, none⟩ = some (.iface te pe)) ∧ ∃ te pe, W.cell? ⟨13, 0, none⟩ = some (.iface te pe) := by
  obtain ⟨ads, _, hc⟩ := sentCells h gConv
  exact ⟨⟨_, _, hc 1 (by decide) 12 (by kernel_rfl)⟩, ⟨_, _, hc 0 (by decide) 13 (by kernel_rfl)⟩⟩
theorem ec_of5 {W : World} (x y z : String × DataW Unit) (h : laidMet Tryz.prog ([x] ++ (tabs2 ++ ([y] ++ (sentList api5 ++ (sentList conv2 ++ [z]))))) W) (hs : W.ShapedOpen Tryz.prog) : ∃ a, EC a W := by
  have h1 := laidMet_drop h
  obtain ⟨hb, ht⟩ := tabs_of h1
  have h2 := laidMet_drop (laidMet_drop h1)
  obtain ⟨ads, _, hc⟩ := sentCells (laidMet_take h2) gApi5
  obtain ⟨hy, hr⟩ := conv_of (laidMet_take (laidMet_drop h2))
  exact ⟨fun i => ads.getD (if i = 0 then 0 else if i = 1 then 1 else if i = 3 then 2 else if i = 5 then 3 else 4) default, hc 0 (by decide) _ (by kernel_rfl), hc 1 (by decide) _ (by kernel_rfl), hc 2 (by decide) _ (by kernel_rfl), hc 3 (by decide) _ (by kernel_rfl), hc 4 (by decide) _ (by kernel_rfl), hy, hr, ht, hb, mln_of hs⟩
/-- with all errors of package api -/
theorem ec_of9 {W : World} (x y z : String × DataW Unit) (h : laidMet Tryz.prog ([x] ++ (tabs2 ++ ([y] ++ (sentList apiErrs ++ (sentList conv2 ++ [z]))))) W) (hh : handlesMet Tryz.prog [("errors.errorType", .iface "internal/reflectlite.rtype" (.agg [.ptr (.lit (.string [101, 114, 114, 111, 114]))]))] W) (hs : W.ShapedOpen Tryz.prog) : ∃ a, Errs a W ∧ EC a W := by
  have h1 := laidMet_drop h
  obtain ⟨hb, ht⟩ := tabs_of h1
  have h2 := laidMet_drop (laidMet_drop h1)
  obtain ⟨hy, hr⟩ := conv_of (laidMet_take (laidMet_drop h2))
  have h3 : laidMetH Tryz.prog apiLaid W := ⟨laidMet_take h2, hh⟩
  obtain ⟨a, he⟩ := errs_of_api h3
  exact ⟨a, he, he.s0, he.s1, he.s3, he.s5, he.s8, hy, hr, ht, hb, mln_of hs⟩
end Go.Proofs.YtboigdpcahdidabGreatDoor
