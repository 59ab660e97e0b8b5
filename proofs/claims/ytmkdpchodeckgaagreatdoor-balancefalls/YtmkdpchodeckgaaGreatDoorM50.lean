/- Parts of a list of package variables; the errors of a list, by names. -/
import Derived.Test.YtmkdpchodeckgaaGreatDoorM49
import Derived.Stop.LaidErr
import Derived.Test.YtmkdpchodeckgaaGreatDoorM33
import Derived.Test.YtmkdpchodeckgaaGreatDoorM2
import Derived.SliceStrings
import Derived.ChangeSlices
import Derived.Test.YtmkdpchodeckgaaGreatDoorM4
import Derived.Test.YtmkdpchodeckgaaGreatDoorM37
namespace Go.Proofs.YtmkdpchodeckgaaGreatDoor
open Go.RowKit

theorem laidVars_take {P : Program} {w : World} : ∀ (xs ys : List (String × DataW Unit)) (ps : List MemPlace), DataW.LaidVars P w (xs ++ ys) ps → ∃ p1 p2, ps = p1 ++ p2 ∧ DataW.LaidVars P w xs p1
  | [], ys, ps, h => ⟨[], ps, rfl, rfl⟩
  | (n, d) :: xs, ys, ps, h => by
    obtain ⟨g, t, cs, fuel, p, q, h1, h2, h3, h4, h5, rfl⟩ := h
    obtain ⟨p1, p2, rfl, h6⟩ := laidVars_take xs ys q h5
    exact ⟨MemPlace.row ⟨g, 0, none⟩ cs.size ++ p ++ p1, p2, by simp, g, t, cs, fuel, p, p1, h1, h2, h3, h4, h6, rfl⟩
theorem laidMet_take {P : Program} {w : World} {xs ys : List (String × DataW Unit)} (h : laidMet P (xs ++ ys) w) : laidMet P xs w := by
  obtain ⟨ps, h1, h2, h3⟩ := h
  obtain ⟨p1, p2, rfl, h4⟩ := laidVars_take xs ys ps h1
  exact ⟨p1, h4, (List.nodup_append.1 h2).1, fun b off hm => h3 b off (List.mem_append_left _ hm)⟩
theorem laidMet_drop {P : Program} {w : World} : ∀ {xs ys : List (String × DataW Unit)}, laidMet P (xs ++ ys) w → laidMet P ys w
  | [], _, h => h
  | _ :: xs, _, h => laidMet_drop (xs := xs) (laidMet.tail h)
/-- errors of a list, by names -/
theorem sentCells {l : List (String × List UInt8)} {W : World} (h : laidMet Tryz.prog (sentList l) W) (hg : ∀ x ∈ l, ∃ g, Tryz.prog.globalNamed x.1 = some g ∧ (Tryz.prog.globals[g]?).map (·.type) = some 27) :
    ∃ ads : List Addr, ads.length = l.length ∧ ∀ i (hi : i < l.length) (g : Nat), Tryz.prog.globalNamed (l[i]).1 = some g → W.cell? ⟨g, 0, none⟩ = some (.iface 236 (.pointer (some (ads.getD i default)))) := by
  obtain ⟨ps, hl, _, hrows⟩ := h
  obtain ⟨ads, el, _, hv⟩ := sents_of Tryz.underlying27 rowE Tryz.underlying236 Tryz.underlying238 rfl rfl Tryz.underlying9 cellsE cellsS ps hrows l ps hg (fun _ hm => hm) hl
  refine ⟨ads, el, fun i hi g hgn => ?_⟩
  have := hv i hi (by omega)
  have hd : ads.getD i default = ads[i]'(by omega) := by rw [List.getD_eq_getElem?_getD, List.getElem?_eq_getElem (by omega)]; rfl
  rw [hd]
  simpa using World.var?_cell hgn this 0
end Go.Proofs.YtmkdpchodeckgaaGreatDoor

/- From the row's list of package variables to what the landed balance asks. -/
namespace Go.Proofs.YtmkdpchodeckgaaGreatDoor
open Go.RowKit

def api6 : List (String × List UInt8) := [
  ("levelhand/api.ErrBound", [108, 101, 118, 101, 108, 104, 97, 110, 100, 58, 32, 98, 111, 117, 110, 100]),
  ("levelhand/api.ErrShape", [108, 101, 118, 101, 108, 104, 97, 110, 100, 58, 32, 115, 104, 97, 112, 101]),
  ("levelhand/api.ErrName", [108, 101, 118, 101, 108, 104, 97, 110, 100, 58, 32, 110, 97, 109, 101]),
  ("levelhand/api.ErrNone", [108, 101, 118, 101, 108, 104, 97, 110, 100, 58, 32, 110, 111, 110, 101]),
  ("levelhand/api.ErrExist", [108, 101, 118, 101, 108, 104, 97, 110, 100, 58, 32, 101, 120, 105, 115, 116]),
  ("levelhand/api.ErrOld", [108, 101, 118, 101, 108, 104, 97, 110, 100, 58, 32, 111, 108, 100])]
theorem gApi6 : ∀ x ∈ api6, ∃ g, Tryz.prog.globalNamed x.1 = some g ∧ (Tryz.prog.globals[g]?).map (·.type) = some 27 := by
  intro x hx
  simp only [api6, List.mem_cons, List.not_mem_nil, or_false] at hx
  rcases hx with rfl | rfl | rfl | rfl | rfl | rfl
  · exact ⟨2, by kernel_rfl, by kernel_rfl⟩
  · exact ⟨7, by kernel_rfl, by kernel_rfl⟩
  · exact ⟨3, by kernel_rfl, by kernel_rfl⟩
  · exact ⟨0, by kernel_rfl, by kernel_rfl⟩
  · exact ⟨6, by kernel_rfl, by kernel_rfl⟩
  · exact ⟨1, by kernel_rfl, by kernel_rfl⟩
theorem eb_of6 {W : World} (h : laidMet Tryz.prog (sentList api6) W) : ∃ a, EB a W := by
  obtain ⟨ads, _, hc⟩ := sentCells h gApi6
  exact ⟨fun i => ads.getD (if i = 1 then 0 else if i = 2 then 1 else if i = 3 then 2 else if i = 4 then 3 else if i = 5 then 4 else 5) default, ⟨hc 0 (by decide) _ (by kernel_rfl), hc 1 (by decide) _ (by kernel_rfl), hc 2 (by decide) _ (by kernel_rfl), hc 3 (by decide) _ (by kernel_rfl), hc 4 (by decide) _ (by kernel_rfl)⟩, hc 5 (by decide) _ (by kernel_rfl)⟩
end Go.Proofs.YtmkdpchodeckgaaGreatDoor

/- A list of texts among the arguments, as it is read. -/
namespace Go.Proofs.YtmkdpchodeckgaaGreatDoor
open Go.ChangeShapes Go.WideShapes Go.ChangeAt Go.RowKit
open Go.ChangeMaps (open_string shut_string)

theorem open_texts {H : Type} {enc : TypeId × Value → H} {W : World} {v : Value} {fuel : Nat} {x : DataW H × List MemPlace} {a0 : Option Addr} {len cap : Nat} (hv : v = .slice a0 len cap)
    (hf : DataW.trod enc Tryz.prog W 0 (fun _ => true) true fuel 24 [.slice a0 len cap] = some x) :
    ∃ xs : List ByteArray, Strs1 W v xs ∧ (∀ k (h : k < xs.length), (xs[k]).size ≤ maxLen) ∧ xs.length ≤ maxLen := by
  subst hv
  rcases open_strings Tryz.underlying24 Tryz.underlying9 cellsS hf with ⟨hcs, _⟩ | ⟨a, len', cap', ss, hcs, _, hl, hm, hz, _, hcell, hws⟩
  · simp at hcs
    obtain ⟨rfl, rfl, rfl⟩ := hcs
    exact ⟨[], Or.inl ⟨rfl, Or.inl rfl⟩, fun k h => absurd h (by simp), by simp⟩
  · simp at hcs
    obtain ⟨rfl, rfl, rfl⟩ := hcs
    simp only [if_true] at hz
    have hlen : (ss.take len).length = len := by simp; omega
    refine ⟨ss.take len, ?_, fun k h => hws _ (List.mem_of_mem_take (List.getElem_mem h)), by omega⟩
    rcases Nat.eq_zero_or_pos len with h0 | h0
    · subst h0
      exact Or.inl ⟨by simp, Or.inr ⟨_, _, rfl⟩⟩
    · obtain ⟨b, off, spot⟩ := a
      have hspot : spot = none := by simpa [Addr.add] using World.cell?_spot (hcell 0 (by omega))
      subst hspot
      refine Or.inr ⟨b, off, cap, by rw [hlen], by omega, fun k h => ?_⟩
      have hk : k < ss.length := by omega
      have := hcell k hk
      rw [Addr.add_lit] at this
      rw [this]
      simp [List.getD, hk]
end Go.Proofs.YtmkdpchodeckgaaGreatDoor

/- Numbers of 64 bits among the arguments. -/
namespace Go.Proofs.YtmkdpchodeckgaaGreatDoor
open Go.ChangeShapes Go.WideShapes Go.ChangeAt Go.RowKit

theorem cellsU : Tryz.prog.cellsOf 32 = 1 := by kernel_rfl
theorem wf_u64 {n : Int} (h : (Lit.int .u64 n).wf = true) : 0 ≤ n ∧ n < 18446744073709551616 := by
  have := bounds_u64 h
  omega
end Go.Proofs.YtmkdpchodeckgaaGreatDoor

/- A list of keys among the arguments, as it is read; the room of a list of texts; four package variables. -/
namespace Go.Proofs.YtmkdpchodeckgaaGreatDoor
open Go.ChangeShapes Go.WideShapes Go.ChangeAt Go.RowKit

theorem open_keys {H : Type} {enc : TypeId × Value → H} {W : World} {v : Value} {fuel : Nat} {x : DataW H × List MemPlace} {a0 : Option Addr} {len cap : Nat} (hv : v = .slice a0 len cap)
    (hf : DataW.trod enc Tryz.prog W 0 (fun _ => true) true fuel 22 [.slice a0 len cap] = some x) :
    ∃ ks : List Nat, U64s W v ks ∧ (∀ k (h : k < ks.length), ks[k] < 18446744073709551616) ∧ ks.length ≤ maxLen := by
  subst hv
  rcases open_ints Tryz.underlying22 Tryz.underlying32 cellsU hf with ⟨hcs, _⟩ | ⟨a, len', cap', zs, hcs, _, hl, hm, hz, _, hcell, hws⟩
  · simp at hcs
    obtain ⟨rfl, rfl, rfl⟩ := hcs
    exact ⟨[], ⟨none, 0, rfl, fun k h => absurd h (by simp)⟩, fun k h => absurd h (by simp), by simp⟩
  · simp at hcs
    obtain ⟨rfl, rfl, rfl⟩ := hcs
    simp only [if_true] at hz
    have hlen : ((zs.take len).map Int.toNat).length = len := by simp; omega
    have hget : ∀ k (h : k < ((zs.take len).map Int.toNat).length), ∃ hk : k < zs.length, ((((zs.take len).map Int.toNat)[k] : Nat) : Int) = zs[k] ∧ zs[k] < 18446744073709551616 := fun k h => by
      have hk : k < zs.length := by omega
      obtain ⟨h1, h2⟩ := wf_u64 (hws _ (List.getElem_mem hk))
      refine ⟨hk, ?_, h2⟩
      simp
      omega
    refine ⟨(zs.take len).map Int.toNat, ⟨some a, cap, by rw [hlen], fun k h => ?_⟩, fun k h => ?_, by omega⟩
    · obtain ⟨b, off, spot⟩ := a
      have hspot : spot = none := by simpa [Addr.add] using World.cell?_spot (hcell 0 (by omega))
      subst hspot
      obtain ⟨hk, e, _⟩ := hget k h
      refine ⟨b, off, rfl, ?_⟩
      have := hcell k hk
      rw [Addr.add_lit] at this
      rw [this, e]
      simp [List.getD, hk]
    · obtain ⟨hk, e, h2⟩ := hget k h
      omega
theorem open_room {H : Type} {enc : TypeId × Value → H} {W : World} {fuel : Nat} {x : DataW H × List MemPlace} {a0 : Option Addr} {len cap : Nat}
    (hf : DataW.trod enc Tryz.prog W 0 (fun _ => true) true fuel 24 [.slice a0 len cap] = some x) : cap ≤ maxLen := by
  rcases open_strings Tryz.underlying24 Tryz.underlying9 cellsS hf with ⟨hcs, _⟩ | ⟨a, len', cap', ss, hcs, _, _, hm, _⟩
  · simp at hcs
    obtain ⟨_, _, rfl⟩ := hcs
    simp
  · simp at hcs
    obtain ⟨_, _, rfl⟩ := hcs
    exact hm

def api4 : List (String × List UInt8) := [
  ("levelhand/api.ErrBound", [108, 101, 118, 101, 108, 104, 97, 110, 100, 58, 32, 98, 111, 117, 110, 100]),
  ("levelhand/api.ErrName", [108, 101, 118, 101, 108, 104, 97, 110, 100, 58, 32, 110, 97, 109, 101]),
  ("levelhand/api.ErrNone", [108, 101, 118, 101, 108, 104, 97, 110, 100, 58, 32, 110, 111, 110, 101]),
  ("levelhand/api.ErrExist", [108, 101, 118, 101, 108, 104, 97, 110, 100, 58, 32, 101, 120, 105, 115, 116])]
theorem gErr4 (i : Nat) (h : i < 4) : ∃ x g, api4[i]? = some x ∧ Tryz.prog.globalNamed x.1 = some g ∧ (Tryz.prog.globals[g]?).map (·.type) = some 27 := by
  match i, h with
  | 0, _ => exact ⟨_, 2, rfl, by kernel_rfl, by kernel_rfl⟩
  | 1, _ => exact ⟨_, 3, rfl, by kernel_rfl, by kernel_rfl⟩
  | 2, _ => exact ⟨_, 0, rfl, by kernel_rfl, by kernel_rfl⟩
  | 3, _ => exact ⟨_, 6, rfl, by kernel_rfl, by kernel_rfl⟩
theorem errs4_of {W : World} (h : laidMet Tryz.prog (sentList api4) W) : ∃ a, Errs4 a W := by
  obtain ⟨ps, hl, _, hrows⟩ := h
  obtain ⟨ads, el, _, hv⟩ := sents_of Tryz.underlying27 rowE Tryz.underlying236 Tryz.underlying238 rfl rfl Tryz.underlying9 cellsE cellsS ps hrows api4 ps
    (fun x hx => by
      obtain ⟨i, hi, rfl⟩ := List.getElem_of_mem hx
      obtain ⟨y, g, hy, h1, h2⟩ := gErr4 i hi
      rw [List.getElem?_eq_getElem hi] at hy
      obtain rfl := Option.some.inj hy
      exact ⟨g, h1, h2⟩) (fun _ hm => hm) hl
  have el4 : ads.length = 4 := el
  have cellAt : ∀ (i : Nat) (h : i < 4) (n : String) (g : Nat), (api4[i]'h).1 = n → Tryz.prog.globalNamed n = some g → W.cell? ⟨g, 0, none⟩ = some (.iface 236 (.pointer (some (ads.getD i default)))) := by
    intro i h n g hn hg
    have := hv i h (by omega)
    rw [hn] at this
    have hd : ads.getD i default = ads[i]'(by omega) := by rw [List.getD_eq_getElem?_getD, List.getElem?_eq_getElem (by omega)]; rfl
    rw [hd]
    simpa using World.var?_cell hg this 0
  exact ⟨fun i => ads.getD (if i = 1 then 0 else i - 2) default, cellAt 0 (by decide) _ _ rfl (by kernel_rfl), cellAt 1 (by decide) _ _ rfl (by kernel_rfl), cellAt 2 (by decide) _ _ rfl (by kernel_rfl), cellAt 3 (by decide) _ _ rfl (by kernel_rfl)⟩
end Go.Proofs.YtmkdpchodeckgaaGreatDoor

/- The law BalanceFalls, over the landed package's contracts: all numbers. -/
namespace Go.Proofs.YtmkdpchodeckgaaGreatDoor
open Go.RowKit

set_option maxHeartbeats 1000000 in
theorem falls_e1 (hC : BalanceC) (a : Nat → Addr) (op : Option Addr) (n oc : Nat) (x : Int) (w : World) (he : hC.E a w) (hl : n ≤ maxLen) (c1 : 60 < n) :
    Calls Tryz.prog 3 #[.slice op n oc, .int .i64 x] w fun e w' => e = .returned (.bool true) ∧ Below w.heap.size w w' := by
  have hbl := balanced_any hC a w he
  have hn2 : n ≤ 9223372036854775807 := by unfold maxLen at hl; omega
  have d1 : decide (60 < (n : Int)) = true := by simp; omega
  clear he hl c1
  go_enter Tryz.func3, Tryz.ntmps3
  go_wp2_with fail
  refine hbl.mono ?_
  rintro e w1 ⟨rfl, hb1⟩
  clear hbl
  go_wp2
  go_ret
  exact ⟨rfl, hb1⟩
set_option maxHeartbeats 1000000 in
theorem falls_e2 (hC : BalanceC) (a : Nat → Addr) (op : Option Addr) (n oc : Nat) (x : Int) (w : World) (he : hC.E a w) (hl : n ≤ maxLen) (c1 : ¬ 60 < n) (c2 : x < 0) :
    Calls Tryz.prog 3 #[.slice op n oc, .int .i64 x] w fun e w' => e = .returned (.bool true) ∧ Below w.heap.size w w' := by
  have hbl := balanced_any hC a w he
  have hn2 : n ≤ 9223372036854775807 := by unfold maxLen at hl; omega
  have d1 : decide (60 < (n : Int)) = false := by simp; omega
  have d2 : decide (x < 0) = true := decide_eq_true c2
  clear he hl c1 c2
  go_enter Tryz.func3, Tryz.ntmps3
  go_wp2_with fail
  refine hbl.mono ?_
  rintro e w1 ⟨rfl, hb1⟩
  clear hbl
  go_wp2
  go_ret
  exact ⟨rfl, hb1⟩
set_option maxHeartbeats 1000000 in
theorem falls_e3 (hC : BalanceC) (a : Nat → Addr) (op : Option Addr) (n oc : Nat) (x : Int) (w : World) (he : hC.E a w) (hl : n ≤ maxLen) (c1 : ¬ 60 < n) (c2 : ¬ x < 0) (c3 : 3 < x) :
    Calls Tryz.prog 3 #[.slice op n oc, .int .i64 x] w fun e w' => e = .returned (.bool true) ∧ Below w.heap.size w w' := by
  have hbl := balanced_any hC a w he
  have hn2 : n ≤ 9223372036854775807 := by unfold maxLen at hl; omega
  have d1 : decide (60 < (n : Int)) = false := by simp; omega
  have d2 : decide (x < 0) = false := decide_eq_false c2
  have d3 : decide (3 < x) = true := decide_eq_true c3
  clear he hl c1 c2 c3
  go_enter Tryz.func3, Tryz.ntmps3
  go_wp2_with fail
  refine hbl.mono ?_
  rintro e w1 ⟨rfl, hb1⟩
  clear hbl
  go_wp2
  go_ret
  exact ⟨rfl, hb1⟩
/-- BalanceFalls of any keys, and any number. -/
theorem falls_any (hC : BalanceC) (a : Nat → Addr) (op : Option Addr) (oc : Nat) (ks : List Nat) (x : Int) (w : World) (he : hC.E a w) (hl : ks.length ≤ maxLen) (ho : ∀ k (h : k < ks.length), ∃ b o, op = some ⟨b, o, none⟩ ∧ w.cell? ⟨b, o + k, none⟩ = some (.int .u64 (ks[k] : Nat))) (hoz : ∀ z ∈ ks, z < 18446744073709551616) :
    Calls Tryz.prog 3 #[.slice op ks.length oc, .int .i64 x] w fun e w' => e = .returned (.bool true) ∧ Below w.heap.size w w' := by
  by_cases c1 : 60 < ks.length
  · exact falls_e1 hC a op ks.length oc x w he hl c1
  · by_cases c2 : x < 0
    · exact falls_e2 hC a op ks.length oc x w he hl c1 c2
    · by_cases c3 : 3 < x
      · exact falls_e3 hC a op ks.length oc x w he hl c1 c2 c3
      · obtain ⟨q, rfl⟩ := Int.eq_ofNat_of_zero_le (show 0 ≤ x by omega)
        exact falls_core hC a op oc ks q w he (by omega) (by omega) ho hoz
end Go.Proofs.YtmkdpchodeckgaaGreatDoor
