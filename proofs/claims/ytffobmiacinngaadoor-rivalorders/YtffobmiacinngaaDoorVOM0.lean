/- RivalOrders: whose key it is; a row of counts. -/
import Derived.Test.YtffobmiacinngaaDoorVO0
import Derived.Deep.OwnRows
import Derived.Deep.RegionHeld3
namespace Go.Proofs.YtffobmiacinngaaDoor
open Go.RowKit

/-- the place of a key's host in the list -/
theorem own_ex (xs : List ByteArray) (h0 : 0 < xs.length) : ∃ ow : Nat → Nat, ∀ z, ∃ y T, Lh.order (Lh.score z) xs = y :: T ∧ ∃ h : ow z < xs.length, xs[ow z] = y := by
  have h1 : ∀ z, ∃ q y T, Lh.order (Lh.score z) xs = y :: T ∧ ∃ h : q < xs.length, xs[q] = y := fun z => by
    obtain ⟨y, T, h1, h2⟩ := Lh.order_head (f := Lh.score z) h0
    obtain ⟨q, hq, e⟩ := List.getElem_of_mem h2
    exact ⟨q, y, T, h1, hq, e⟩
  exact ⟨fun z => Classical.choose (h1 z), fun z => Classical.choose_spec (h1 z)⟩
theorem strs_cap {w : World} {b o c n : Nat} {xs : List ByteArray} (h : Strs1 w (.slice (some ⟨b, o, none⟩) n c) xs) (h0 : 0 < xs.length) : xs.length ≤ c := by
  rcases h with ⟨rfl, _⟩ | ⟨b', o', c', e, hc, _⟩
  · cases h0
  · simp only [Value.slice.injEq] at e
    omega
theorem row_of_owns {w : World} {base g n : Nat} {e : TypeId} {z : Value} (h : w.ownsRow base e 1 (.slice (some ⟨g, 0, none⟩) n n) n (List.replicate n z)) : w.rowIs g e n (fun _ => z) := by
  obtain ⟨hl, ⟨h', _⟩ | ⟨g', cap, cur, hv, hbase, hb, hn, hm, hsz, ht⟩⟩ := h
  · cases h'
  · simp only [Value.slice.injEq, Option.some.injEq, Addr.mk.injEq] at hv
    obtain ⟨⟨rfl, _⟩, _, rfl⟩ := hv
    refine ⟨cur, hb, by omega, fun i hi => ?_⟩
    have h2 : (cur.toList.take (n * 1))[i]? = some z := by rw [ht]; simp [hi]
    rw [List.getElem?_take_of_lt (by omega)] at h2
    simpa using h2
theorem row_below {w w' : World} {b n : Nat} {t : TypeId} {f : Nat → Value} (h : w.rowIs b t n f) (hb : Below w.heap.size w w') : w'.rowIs b t n f := h.of_block (hb.block b h.lt)
end Go.Proofs.YtffobmiacinngaaDoor
