/- The landed flows in memory: a block and a map; New, checkNow, has, isFull. -/
import Derived.Test.YtijdaaghomclmabDoorFlD
import Derived.Test.YtijdaaghomclmabDoorFlCon
import Derived.Maps.OwnOps
import Derived.BigQuiet
import Derived.Deep.RegionHeld3
namespace Go.Proofs.YtijdaaghomclmabDoor
open Go.RowKit Go.Maps Go.ChangeMaps

/-- Block p is the landed flows, its map is block mb. -/
structure FR (W : World) (p mb t : Nat) (la : Int) (L : List Lh.Fl) : Prop where
  c0 : W.cell? ⟨p, 0, none⟩ = some (.int .i64 (t : Nat))
  c1 : W.cell? ⟨p, 1, none⟩ = some (.int .i64 la)
  c2 : W.cell? ⟨p, 2, none⟩ = some (.map (some mb))
  fz : ∀ k, W.frozen? ⟨p, k, none⟩ = false
  own : W.ownsMap Tryd.prog 32 flElem mb L.length (FD L)
  ne : p ≠ mb
def FFt (p mb : Nat) (b : Nat) : Prop := b = p ∨ b = mb
section
variable {W W' : World} {p mb t : Nat} {la : Int} {L : List Lh.Fl}
theorem FR.plt (h : FR W p mb t la L) : p < W.heap.size := World.block_lt_of_cell? W ⟨p, 0, none⟩ h.c0
theorem FR.mlt (h : FR W p mb t la L) : mb < W.heap.size := h.own.lt
theorem FR.lt (h : FR W p mb t la L) : ∀ b, FFt p mb b → b < W.heap.size := by
  rintro b (rfl | rfl)
  · exact h.plt
  · exact h.mlt
theorem FR.stay (h : FR W p mb t la L) (hs : ∀ b, FFt p mb b → W'.heap[b]? = W.heap[b]?) : FR W' p mb t la L := by
  have hm := hs p (Or.inl rfl)
  have hn := hs mb (Or.inr rfl)
  refine ⟨?_, ?_, ?_, fun k => ?_, ?_, h.ne⟩
  · rw [World.cell?_of_block (w := W) (w' := W') (a := ⟨p, 0, none⟩) hm]; exact h.c0
  · rw [World.cell?_of_block (w := W) (w' := W') (a := ⟨p, 1, none⟩) hm]; exact h.c1
  · rw [World.cell?_of_block (w := W) (w' := W') (a := ⟨p, 2, none⟩) hm]; exact h.c2
  · rw [World.frozen?_of_block (w := W) (w' := W') (a := ⟨p, k, none⟩) hm]; exact h.fz k
  · obtain ⟨es, clock, hb, r⟩ := h.own
    exact ⟨es, clock, hn.trans hb, r⟩
theorem FR.later (h : FR W p mb t la L) (hb : Below W.heap.size W W') : FR W' p mb t la L := h.stay fun b hf => hb.block b (h.lt b hf)
theorem FR.tick (h : FR W p mb t la L) (now : Int) : FR (W.setCell ⟨p, 1, none⟩ (.int .i64 now)) p mb t now L := by
  refine ⟨?_, ?_, ?_, fun k => ?_, ?_, h.ne⟩
  · rw [World.cell?_setCell_other _ _ _ _ (by simp)]; exact h.c0
  · exact World.cell?_setCell_same' _ _ _ (by rw [h.c1]; rfl)
  · rw [World.cell?_setCell_other _ _ _ _ (by simp)]; exact h.c2
  · rw [World.frozen?_setCell]; exact h.fz k
  · exact h.own.setCell (fun e => h.ne e.symm) _
theorem ownsMap_tight {w : World} {P : Program} {k : TypeId} {R : Value → Option (DataW Unit × List MemPlace)} {b n : Nat} {D : DataW Unit} (h : w.ownsMap P k R b n D) : w.ownsMap P k R b (Maps.size D) D := by
  obtain ⟨es, clock, hb, F, hs, rfl⟩ := h
  refine ⟨es, clock, hb, F, ?_, rfl⟩
  simp [Maps.size, length_sorted]
theorem Tur.ticked (now : Int) : Tur (FFt p mb) W (W.setCell ⟨p, 1, none⟩ (.int .i64 now)) :=
  ⟨rfl, rfl, rfl, by simp, fun k _ hf => Below.heap_setCell _ _ _ k (fun e => hf (Or.inl e))⟩

/-- what the package asks of the variables -/
structure EF (a : Nat → Addr) (w : World) : Prop where
  e4 : Errs4 a w
  s7 : w.cell? ⟨7, 0, none⟩ = some (.iface 242 (.pointer (some (a 7))))
theorem EF.later {a : Nat → Addr} {w w' : World} (h : EF a w) (hb : Below w.heap.size w w') : EF a w' := ⟨h.e4.later hb, below_cell hb h.s7⟩
theorem EF.of {a : Nat → Addr} {w : World} (h : Errs a w) : EF a w := ⟨h.four, h.s7⟩

set_option maxHeartbeats 2000000 in
theorem newF_good (t : Nat) (W : World) (h1 : 1 ≤ t) (h2 : t ≤ 1000) :
    Calls Tryd.prog 47 #[.int .i64 (t : Nat)] W fun e W' => ∃ p mb, e = .returned (.tuple #[.pointer (some ⟨p, 0, none⟩), .nilIface]) ∧ FR W' p mb t 0 [] ∧ W.heap.size ≤ p ∧ W.heap.size ≤ mb ∧ Below W.heap.size W W' := by
  have d1 : decide ((t : Int) < 1) = false := by simp; omega
  have d2 : decide (1000 < (t : Int)) = false := by simp; omega
  have hmm := @run_makeMap Tryd.prog
  go_enter Tryd.func47, Tryd.ntmps47
  go_wp2
  go_ret2
  refine ⟨W.heap.size + 1, W.heap.size, rfl, ⟨by simp, by simp, by simp, fun k => by simp, ?_, by omega⟩, by omega, Nat.le_refl _, ((Below.refl _ _).alloc (Nat.le_refl _) _).alloc (by simp) _⟩
  exact (World.ownsMap_made W _ _ _).alloc _

set_option maxHeartbeats 2000000 in
theorem newF_bad (a : Nat → Addr) (x : Int) (W : World) (he : EF a W) (hx : x < 1 ∨ 1000 < x) :
    Calls Tryd.prog 47 #[.int .i64 x] W fun e W' => e = .returned (.tuple #[.pointer none, .iface 242 (.pointer (some (a 1)))]) ∧ Below W.heap.size W W' := by
  have s1 := he.e4.s1
  clear he
  by_cases h : x < 1
  · have d1 : decide (x < 1) = true := by simpa using h
    clear hx h
    go_enter Tryd.func47, Tryd.ntmps47
    go_wp2
    go_quiet (fail)
    go_wp2
    go_ret2
    exact ⟨rfl, below_drewN (Below.refl _ _) nq⟩
  · have d1 : decide (x < 1) = false := by simpa using h
    have d2 : decide (1000 < x) = true := by simp; omega
    clear hx
    go_enter Tryd.func47, Tryd.ntmps47
    go_wp2
    go_quiet (fail)
    go_wp2
    go_ret2
    exact ⟨rfl, below_drewN (Below.refl _ _) nq⟩

set_option maxHeartbeats 2000000 in
theorem checkF_ok (h : FR W p mb t la L) (now : Int) (hok : TickOk la now) :
    Calls Tryd.prog 86 #[.pointer (some ⟨p, 0, none⟩), .int .i64 now] W fun e W' => e = .returned .nilIface ∧ Below W.heap.size W W' := by
  obtain ⟨h1, h2, h3⟩ := hok
  have c1 := h.c1
  have d1 : decide (now < 0) = false := by simp; omega
  have d2 : decide (1099511627776 < now) = false := by simp; omega
  have d3 : decide (now < la) = false := by simp; omega
  clear h h1 h2 h3
  go_enter Tryd.func86, Tryd.ntmps86
  go_wp2
  go_ret
  exact ⟨rfl, Below.refl _ _⟩
set_option maxHeartbeats 2000000 in
theorem checkF_bad (a : Nat → Addr) (he : EF a W) (h : FR W p mb t la L) (now : Int) (j : Nat) (hf : TickF la now j) :
    Calls Tryd.prog 86 #[.pointer (some ⟨p, 0, none⟩), .int .i64 now] W fun e W' => e = .returned (.iface 242 (.pointer (some (a j)))) ∧ Below W.heap.size W W' := by
  have c1 := h.c1
  have s1 := he.e4.s1
  have s7 := he.s7
  clear h he
  rcases hf with ⟨hf, rfl⟩ | ⟨h1, h2, h3, rfl⟩
  · by_cases h0 : now < 0
    · have d1 : decide (now < 0) = true := by simpa using h0
      clear hf h0
      go_enter Tryd.func86, Tryd.ntmps86
      go_wp2
      go_ret
      exact ⟨rfl, Below.refl _ _⟩
    · have d1 : decide (now < 0) = false := by simpa using h0
      have d2 : decide (1099511627776 < now) = true := by simp; omega
      clear hf h0
      go_enter Tryd.func86, Tryd.ntmps86
      go_wp2
      go_ret
      exact ⟨rfl, Below.refl _ _⟩
  · have d1 : decide (now < 0) = false := by simp; omega
    have d2 : decide (1099511627776 < now) = false := by simp; omega
    have d3 : decide (now < la) = true := by simpa using h3
    clear h1 h2 h3
    go_enter Tryd.func86, Tryd.ntmps86
    go_wp2
    go_ret
    exact ⟨rfl, Below.refl _ _⟩
end
end Go.Proofs.YtijdaaghomclmabDoor
