/- A page: a builder that is embedded. Its block bears the page's own type; what the library's methods do with it. -/
import Derived.Test.YtfhmfjcpggddkaaGreatDoorM2
import Derived.Test.YtfhmfjcpggddkaaGreatDoorM3
import Derived.Shelf.Strings.BuilderK
import Derived.Test.YtfhmfjcpggddkaaGreatDoorM4
import Derived.Deep.RegionHeld3
import Derived.Laws.BytesString
import Derived.Lib.Builder
namespace Go.Proofs.YtfhmfjcpggddkaaGreatDoor
open Go.RowKit

/-- In block b (one of those from B on) lies a page that holds these bytes. -/
def Pg (B b : Nat) (l : List UInt8) (w : World) : Prop := Lib.IsBuilderF 285 5 B b (Lib.byteCells l) w
theorem infoU8 : (Tryz.prog.info? 5).map (fun i => (i.zero, i.size, i.bytes)) = some (some (.int .u8 0), 1, 1) := by kernel_rfl

set_option maxHeartbeats 1000000 in
set_option maxRecDepth 100000 in
theorem pgUsed (b : Nat) (w : World) (h0 : w.cell? ⟨b, 0, none⟩ = some (.pointer (some ⟨b, 0, none⟩))) :
    Calls Tryz.prog 149 #[.pointer (some ⟨b, 0, none⟩)] w fun e w' => e = .returned (.tuple #[]) ∧ w' = w := by
  obtain ⟨j, hj, _⟩ := Option.map_eq_some_iff.1 (show (Tryz.prog.info? 145).map (·.size) = some 2 by kernel_rfl)
  go_enter Tryz.func149, Tryz.ntmps149
  go_wp2
  rw [Lib.run_neq_ptr_same w _ Tryz.underlying142 hj]
  go_wp2
  go_end0
  exact ⟨rfl, rfl⟩
set_option maxHeartbeats 1000000 in
set_option maxRecDepth 100000 in
theorem pgFresh (b : Nat) (w : World) (h0 : w.cell? ⟨b, 0, none⟩ = some (.pointer none)) (hsh : w.shape? b = some (285, 2)) (hfz : w.frozen? ⟨b, 0, none⟩ = false) :
    Calls Tryz.prog 149 #[.pointer (some ⟨b, 0, none⟩)] w fun e w' => e = .returned (.tuple #[]) ∧ w' = w.setCell ⟨b, 0, none⟩ (.pointer (some ⟨b, 0, none⟩)) := by
  obtain ⟨j, hj, hjs⟩ := Option.map_eq_some_iff.1 (show (Tryz.prog.info? 145).map (·.size) = some 2 by kernel_rfl)
  go_enter Tryz.func149, Tryz.ntmps149
  go_wp2
  rw [Lib.run_to_unsafe w ⟨b, 0, none⟩ Tryz.underlying142 Tryz.underlying166 hj (by rw [hjs]; decide) hsh (Nat.zero_lt_succ 1)]
  simp only [Result.andThen]
  rw [Oper.upon_value]
  go_wp2
  rw [run_callFunc_extern Tryz.func188 (by kernel_rfl) (by kernel_rfl) (by kernel_rfl) (e := Extern.AbiNoEscape.same) (by kernel_rfl)]
  rw [Lib.run_noEscape]
  simp only [Result.andThen]
  rw [Oper.upon_value]
  go_wp2
  rw [Lib.run_from_unsafe w ⟨b, 0, none⟩ Tryz.underlying166 Tryz.underlying142 hj hsh (by kernel_rfl)]
  simp only [Result.andThen]
  rw [Oper.upon_value]
  go_wp2
  go_end0
  exact ⟨rfl, rfl⟩
theorem pgCheck (B b : Nat) (l : List UInt8) (w : World) (h : Pg B b l w) :
    Calls Tryz.prog 149 #[.pointer (some ⟨b, 0, none⟩)] w fun e w' => e = .returned (.tuple #[]) ∧ Lib.BuilderAtF 285 5 B b (.pointer (some ⟨b, 0, none⟩)) (Lib.byteCells l) w' ∧ Below B w w' ∧ Lib.OthersKept 5 (some b) w w' := by
  rcases h with h | h
  · refine (pgFresh b w h.cell0 h.shape h.frozen0).mono ?_
    rintro e w' ⟨rfl, rfl⟩
    exact ⟨rfl, h.used _, (Below.refl B w).setCell (p := ⟨b, 0, none⟩) h.1 _, (Lib.OthersKept.refl _ _ w).setCell ⟨b, 0, none⟩ rfl _⟩
  · refine (pgUsed b w h.cell0).mono ?_
    rintro e w' ⟨rfl, rfl⟩
    exact ⟨rfl, h, Below.refl B _, Lib.OthersKept.refl _ _ _⟩
theorem okept_of {b : Option Nat} {w w' : World} (hb : Below w.heap.size w w') : Lib.OthersKept 5 b w w' := fun k o hk _ _ => (hb.block k (by
  rcases Nat.lt_or_ge k w.heap.size with h' | h'
  · exact h'
  · simp [Array.getElem?_eq_none h'] at hk)).trans hk
theorem neP8 : 285 ≠ 5 := by decide
theorem block_lt {w : World} {b : Nat} {o : Obj} (h : w.heap[b]? = some o) : b < w.heap.size := by
  rcases Nat.lt_or_ge b w.heap.size with h' | h'
  · exact h'
  · simp [Array.getElem?_eq_none h'] at h

set_option maxHeartbeats 2000000 in
set_option maxRecDepth 100000 in
/-- WriteString: the text's bytes behind those that are there. -/
theorem pgText (B b : Nat) (l s : List UInt8) (w : World) (h : Pg B b l w) (hlen : l.length + s.length ≤ 1000000) (hBw : B ≤ w.heap.size) :
    Calls Tryz.prog 93 #[.pointer (some ⟨b, 0, none⟩), .string (Lh.bt s)] w fun e w' => e = .returned (.tuple #[.int .i64 (s.length : Nat), .nilIface]) ∧ Pg B b (l ++ s) w' ∧ Below B w w' ∧ Lib.OthersKept 5 (some b) w w' := by
  obtain ⟨i0, hi, hz0, hz1, hz2⟩ := info_parts infoU8
  have hck := pgCheck B b l w h
  have hsz : (Lh.bt s).size = s.length := by simp [Lh.bt, ByteArray.size]
  have hll : (Lib.byteCells l).length = l.length := Lib.byteCells_length l
  clear h
  go_enter Tryz.func93, Tryz.ntmps93
  go_wp2_with (go_at_call 149; refine hck.mono ?_)
  rintro e w1 ⟨rfl, h1, hb1, hk1⟩
  obtain ⟨hB, v, hbk, hown, hne⟩ := h1
  have c0 : w1.cell? ⟨b, 0, none⟩ = some (.pointer (some ⟨b, 0, none⟩)) := by rw [Lib.cell_of_heap hbk]; rfl
  have c1 : w1.cell? ⟨b, 1, none⟩ = some v := by rw [Lib.cell_of_heap hbk]; rfl
  go_wp2_with (at_builtin; refine Lib.wpList_append_own_stringF _ rfl _ _ 143 9 rfl B 5 i0 Tryz.underlying143 Tryz.underlying9 hi hz0 hz1 hz2 _ _ _ rfl hown (Lh.bt s) rfl ?c3 ?c4 ?c5 ?_)
  case c3 => unfold maxLen; omega
  case c4 => omega
  case c5 => have := hb1.size; omega
  intro v' w2 hown' hgrow _
  have hlt := block_lt hbk
  have hb2 : w2.heap[b]? = some (.cells #[.pointer (some ⟨b, 0, none⟩), v] 285 (0, 0)) := by
    rw [hgrow.block b hlt (fun e => hne e.symm)]
    exact hbk
  have d0 : w2.cell? ⟨b, 0, none⟩ = some (.pointer (some ⟨b, 0, none⟩)) := by rw [Lib.cell_of_heap hb2]; rfl
  have d1 : w2.cell? ⟨b, 1, none⟩ = some v := by rw [Lib.cell_of_heap hb2]; rfl
  have f1 : w2.frozen? ⟨b, 1, none⟩ = false := Lib.frozen_of_heap hb2 1
  obtain ⟨ao, n', cap, rfl⟩ : ∃ ao n' cap, v' = .slice ao n' cap := by
    rcases hown'.2 with ⟨hv, _⟩ | ⟨g, cap, cur, fz, hv, _⟩
    · exact ⟨_, _, _, hv⟩
    · exact ⟨_, _, _, hv⟩
  go_wp2
  go_ret2
  refine ⟨rfl, Or.inr ?_, ?_, (hk1.grown hgrow (Lib.ownsRowF_kind hown)).setCell ⟨b, 1, none⟩ rfl _⟩
  · have e1 : Lib.byteCells (l ++ s) = Lib.byteCells l ++ Lib.strCells (Lh.bt s) := by simp [Lib.byteCells, Lib.strCells, Lh.bt]
    rw [e1]
    exact Lib.BuilderAtF.put (T := 285) (e := 5) hB hb2 (bs' := Lib.byteCells l ++ Lib.strCells (Lh.bt s)) (by simpa [Lib.strCells_length, hll, hsz] using hown') neP8
  · exact (hb1.grown hgrow (by have := hb1.size; omega) (fun k hk => (hown.lt k hk).1)).setCell (p := ⟨b, 1, none⟩) hB _

set_option maxHeartbeats 2000000 in
set_option maxRecDepth 100000 in
/-- WriteByte. -/
theorem pgByte (B b : Nat) (l : List UInt8) (c : UInt8) (w : World) (h : Pg B b l w) (hlen : l.length ≤ 1000000) (hBw : B ≤ w.heap.size) :
    Calls Tryz.prog 254 #[.pointer (some ⟨b, 0, none⟩), .int .u8 (c.toNat : Nat)] w fun e w' => e = .returned .nilIface ∧ Pg B b (l ++ [c]) w' ∧ Below B w w' ∧ Lib.OthersKept 5 (some b) w w' := by
  obtain ⟨i0, hi, hz0, hz1, hz2⟩ := info_parts infoU8
  have hck := pgCheck B b l w h
  have hll : (Lib.byteCells l).length = l.length := Lib.byteCells_length l
  clear h
  go_enter Tryz.func254, Tryz.ntmps254
  go_wp2_with (go_at_call 149; refine hck.mono ?_)
  rintro e w1 ⟨rfl, h1, hb1, hk1⟩
  obtain ⟨hB, v, hbk, hown, hne⟩ := h1
  have c0 : w1.cell? ⟨b, 0, none⟩ = some (.pointer (some ⟨b, 0, none⟩)) := by rw [Lib.cell_of_heap hbk]; rfl
  have c1 : w1.cell? ⟨b, 1, none⟩ = some v := by rw [Lib.cell_of_heap hbk]; rfl
  go_wp2_with (at_builtin; refine wpList_append_ownF _ rfl _ _ 143 rfl B 5 i0 (.int .u8 0) 1 1 Tryz.underlying143 hi hz0 hz1 hz2 rfl (by decide) _ _ _ rfl (hown.alloc _) ⟨w1.heap.size, 0, none⟩ 1 1 [.int .u8 (c.toNat : Nat)] rfl rfl ?c1 ?c2 ?c3 ?c4 ?c5 ?_)
  case c1 =>
    intro j u hj
    match j, hj with
    | 0, hj => simp at hj; subst hj; simp [Addr.add]
  case c2 => intro u hu; simp at hu; subst hu; rfl
  case c3 => unfold maxLen; omega
  case c4 => omega
  case c5 => have := hb1.size; simp; omega
  intro v' w2 hown' hgrow _
  have hlt := block_lt hbk
  have hb2 : w2.heap[b]? = some (.cells #[.pointer (some ⟨b, 0, none⟩), v] 285 (0, 0)) := by
    rw [hgrow.block b (by simp; omega) (fun e => hne e.symm), Lib.alloc_old w1 _ b hlt]
    exact hbk
  have d0 : w2.cell? ⟨b, 0, none⟩ = some (.pointer (some ⟨b, 0, none⟩)) := by rw [Lib.cell_of_heap hb2]; rfl
  have d1 : w2.cell? ⟨b, 1, none⟩ = some v := by rw [Lib.cell_of_heap hb2]; rfl
  have f1 : w2.frozen? ⟨b, 1, none⟩ = false := Lib.frozen_of_heap hb2 1
  obtain ⟨g, cap, rfl⟩ : ∃ g cap, v' = .slice (some ⟨g, 0, none⟩) (l.length + 1) cap := by
    rcases hown'.2 with ⟨_, h0⟩ | ⟨g, cap, cur, fz, hv, _⟩
    · omega
    · exact ⟨g, cap, hv⟩
  go_wp2
  go_ret
  refine ⟨rfl, Or.inr ?_, ?_, ((hk1.alloc _).grown hgrow (Lib.ownsRowF_kind (hown.alloc _))).setCell ⟨b, 1, none⟩ rfl _⟩
  · have e1 : Lib.byteCells (l ++ [c]) = Lib.byteCells l ++ [.int .u8 (c.toNat : Nat)] := by simp [Lib.byteCells]
    rw [e1]
    exact Lib.BuilderAtF.put (T := 285) (e := 5) hB hb2 (bs' := Lib.byteCells l ++ [.int .u8 (c.toNat : Nat)]) (by simpa [hll] using hown') neP8
  · have h2 := hb1.alloc (Nat.le_trans hBw hb1.size) (.cells #[.int .u8 (c.toNat : Nat)] 5)
    exact (h2.grown hgrow (Nat.le_trans hBw h2.size) (fun k hk => (hown.lt k hk).1)).setCell (p := ⟨b, 1, none⟩) hB _

set_option maxHeartbeats 2000000 in
set_option maxRecDepth 100000 in
/-- String, of a page that holds something. -/
theorem pgString (B b : Nat) (l : List UInt8) (w : World) (h : Pg B b l w) (h0 : l ≠ []) :
    Calls Tryz.prog 94 #[.pointer (some ⟨b, 0, none⟩)] w fun e w' => e = .returned (.string (Lh.bt l)) ∧ Pg B b l w' ∧ Below B w w' := by
  obtain ⟨p, hp, hAt⟩ : ∃ p, (p = .pointer none ∨ p = .pointer (some ⟨b, 0, none⟩)) ∧ Lib.BuilderAtF 285 5 B b p (Lib.byteCells l) w := by
    rcases h with h | h
    · exact ⟨_, .inl rfl, h⟩
    · exact ⟨_, .inr rfl, h⟩
  obtain ⟨hB, v, hbk, hown, hne⟩ := hAt
  have hl0 : l.length ≠ 0 := by simpa using h0
  rw [Lib.byteCells_length] at hown
  obtain ⟨g, cap, cur, fz, rfl, hbg, hg, hfz, hnc, hcm, hcs, htake⟩ : ∃ g cap cur fz, v = .slice (some ⟨g, 0, none⟩) l.length cap ∧ B ≤ g ∧ w.heap[g]? = some (.cells cur 5 fz) ∧ fz.2 ≤ l.length * 1 ∧ l.length ≤ cap ∧ cap ≤ maxLen ∧ cur.size = cap * 1 ∧ cur.toList.take (l.length * 1) = Lib.byteCells l := by
    rcases hown.2 with ⟨_, hz⟩ | ⟨g, cap, cur, fz, hv, r⟩
    · exact absurd hz hl0
    · exact ⟨g, cap, cur, fz, hv, r⟩
  have c1 : w.drew.cell? ⟨b, 1, none⟩ = some (.slice (some ⟨g, 0, none⟩) l.length cap) := by
    have : w.drew.heap[b]? = some (.cells #[p, .slice (some ⟨g, 0, none⟩) l.length cap] 285 (0, 0)) := hbk
    rw [Lib.cell_of_heap this]; rfl
  have hSD : (Builtin.unsafeSliceData_ #[143] 213 #[.slice (some ⟨g, 0, none⟩) l.length cap]).run Tryz.prog w.drew = .ok (.pointer (some ⟨g, 0, none⟩)) w.drew :=
    Lib.run_unsafeSliceData_row _ _ _ _ _ _ (by omega)
  have hUS : (Builtin.unsafeString_ #[213, 3] 9 #[.pointer (some ⟨g, 0, none⟩), .int .i64 l.length]).run Tryz.prog w.drew = .ok (.string ⟨l.toArray⟩) (w.drew.freeze ⟨g, 0, none⟩ l.length) := by
    refine Lib.run_unsafeString_row w.drew 213 3 9 5 Tryz.underlying213 (by kernel_rfl) g cur.size (by have hg' : w.drew.heap[g]? = some (.cells cur 5 fz) := hg; simp [World.shape?, hg']) l h0 (by omega) (by unfold maxLen at hcm; omega) ?_
    intro j x hx
    have := hown.cells (g := g) rfl j (.int .u8 x.toNat) (by simp [Lib.byteCells, hx])
    exact this
  have hkeep : Pg B b l (w.drew.freeze ⟨g, 0, none⟩ l.length) := by
    have hA : Lib.BuilderAtF 285 5 B b p (Lib.byteCells l) w.drew := ⟨hB, _, hbk, by rw [Lib.byteCells_length]; exact hown, hne⟩
    have hF := hA.froze (g := g) (cap := cap) (by rw [Lib.byteCells_length]; exact c1)
    rw [Lib.byteCells_length] at hF
    rcases hp with rfl | rfl
    · exact .inl hF
    · exact .inr hF
  go_enter Tryz.func94, Tryz.ntmps94
  go_wp2
  go_region
  all_goals (go_wp2; go_ret; exact ⟨rfl, hkeep, Lib.below_freeze (Below.drew (Below.refl B w)) (p := ⟨g, 0, none⟩) hbg _⟩)
end Go.Proofs.YtfhmfjcpggddkaaGreatDoor

/- A page's line: words, with blanks between them, and a line break. -/
namespace Go.Proofs.YtfhmfjcpggddkaaGreatDoor
open Go.RowKit
theorem Pg.later {B b : Nat} {l : List UInt8} {w w' : World} (h : Pg B b l w) (hb : Below w.heap.size w w') : Pg B b l w' := by
  have key : ∀ p, Lib.BuilderAtF 285 5 B b p (Lib.byteCells l) w → Lib.BuilderAtF 285 5 B b p (Lib.byteCells l) w' := by
    rintro p ⟨hB, v, hbk, hown, hne⟩
    refine ⟨hB, v, (hb.block b (block_lt hbk)).trans hbk, ⟨hown.1, ?_⟩, hne⟩
    rcases hown.2 with h1 | ⟨g, cap, cur, fz, hv, hg, hgh, r⟩
    · exact Or.inl h1
    · exact Or.inr ⟨g, cap, cur, fz, hv, hg, (hb.block g (block_lt hgh)).trans hgh, r⟩
  exact h.elim (fun x => Or.inl (key _ x)) (fun x => Or.inr (key _ x))
theorem Pg.base {B b : Nat} {l : List UInt8} {w : World} (h : Pg B b l w) : B ≤ b ∧ b < w.heap.size := by
  rcases h with ⟨hB, v, hbk, _⟩ | ⟨hB, v, hbk, _⟩
  · exact ⟨hB, block_lt hbk⟩
  · exact ⟨hB, block_lt hbk⟩
theorem Pg.made (w : World) : Pg w.heap.size w.heap.size [] (w.alloc (.cells #[.pointer none, .slice none 0 0] 285)) :=
  Or.inl ⟨Nat.le_refl _, .slice none 0 0, heap_newC w _, ⟨rfl, Or.inl ⟨rfl, rfl⟩⟩, by simp [Value.ownBlock]⟩

set_option maxHeartbeats 2000000 in
set_option maxRecDepth 100000 in
theorem line_core (B b : Nat) (l j : List UInt8) (v : Value) (w : World) (h : Pg B b l w) (hBw : B ≤ w.heap.size) (hl : l.length ≤ 100000) (hj : j.length ≤ 100000)
    (hJ : ∀ W, Below w.heap.size w W → Calls Tryz.prog 42 #[v, .string (Lh.bt [32])] W fun e w' => e = .returned (.string (Lh.bt j)) ∧ Below W.heap.size W w') :
    Calls Tryz.prog 209 #[.pointer (some ⟨b, 0, none⟩), v] w fun e w' => e = .returned (.tuple #[]) ∧ Pg B b (l ++ (j ++ [10])) w' ∧ Below B w w' ∧ Lib.OthersKept 5 (some b) w w' := by
  have HJ : Hid (∀ W, Below w.heap.size w W → Calls Tryz.prog 42 #[v, .string (Lh.bt [32])] W fun e w' => e = .returned (.string (Lh.bt j)) ∧ Below w.heap.size w w' ∧ Below B w w') := fun W hW => (hJ W hW).mono fun _ _ ⟨q1, q2⟩ => ⟨q1, below_then hW q2, (below_then hW q2).mono hBw⟩
  have HW : Hid (∀ W, Below w.heap.size w W → Calls Tryz.prog 93 #[.pointer (some ⟨b, 0, none⟩), .string (Lh.bt j)] W fun e w' => e = .returned (.tuple #[.int .i64 (j.length : Nat), .nilIface]) ∧ Pg B b (l ++ j) w' ∧ Below B w w' ∧ Lib.OthersKept 5 (some b) w w') := fun W hW => (pgText B b l j W (h.later hW) (by omega) (Nat.le_trans hBw hW.size)).mono fun _ _ ⟨q1, q2, q3, q4⟩ => ⟨q1, q2, (hW.mono hBw).trans q3, (okept_of hW).trans q4⟩
  clear h hJ
  go_enter Tryz.func209, Tryz.ntmps209
  go_wp2_with fail
  go_region_held3 (fun w' => Below B w w')
    (first | assumption | exact Below.refl _ _ | exact below_drewN (Below.refl _ _) 1)
    (first
      | (go_at_call 42; refine (HJ.out _ (by first | assumption | exact Below.refl _ _ | exact below_drewN (Below.refl _ _) 1)).mono ?_; rintro e w1 ⟨rfl, hb1, hb1'⟩)
      | (go_at_call 93; refine (HW.out _ (by first | assumption | exact Below.refl _ _ | exact below_drewN (Below.refl _ _) 1)).mono ?_; rintro e w2 ⟨rfl, hp2, hb2, hk2⟩))
  all_goals
    have HB := pgByte B b (l ++ j) 10 w2 hp2 (by simp; omega) (Nat.le_trans hBw hb2.size)
    go_wp2_with fail
    refine HB.mono ?_
    rintro e w3 ⟨rfl, hp3, hb3, hk3⟩
    clear HB
    go_wp2
    go_end0
    refine ⟨rfl, by rw [← List.append_assoc]; exact hp3, hb2.trans hb3, hk2.trans hk3⟩
theorem line3_any (B b : Nat) (l x y z : List UInt8) (w : World) (h : Pg B b l w) (hBw : B ≤ w.heap.size) (hl : l.length ≤ 100000) (hj : (Lh.joinL 32 [x, y, z]).length ≤ 100000) :
    Calls Tryz.prog 209 #[.pointer (some ⟨b, 0, none⟩), .slice (some ⟨w.heap.size, 0, none⟩) 3 3] (w.alloc (.cells #[.string (Lh.bt x), .string (Lh.bt y), .string (Lh.bt z)] 9)) fun e w' => e = .returned (.tuple #[]) ∧ Pg B b (l ++ (Lh.joinL 32 [x, y, z] ++ [10])) w' ∧ Below B w w' ∧ Lib.OthersKept 5 (some b) w w' := by
  have hb0 := (Below.refl w.heap.size w).alloc (Nat.le_refl _) (.cells #[.string (Lh.bt x), .string (Lh.bt y), .string (Lh.bt z)] 9)
  refine (line_core B b l (Lh.joinL 32 [x, y, z]) _ _ (h.later hb0) (Nat.le_trans hBw hb0.size) hl hj fun W hW => ?_).mono fun e w' ⟨q1, q2, q3, q4⟩ => ⟨q1, q2, (hb0.mono hBw).trans q3, (okept_of hb0).trans q4⟩
  exact join3_any w.heap.size 3 x y z W (below_cell hW (by simp)) (below_cell hW (by simp)) (below_cell hW (by simp)) (by have := hW.size; simp at this; omega) (Nat.le_refl _) (by omega)
theorem line2_any (B b : Nat) (l x y : List UInt8) (w : World) (h : Pg B b l w) (hBw : B ≤ w.heap.size) (hl : l.length ≤ 100000) (hj : (Lh.joinL 32 [x, y]).length ≤ 100000) :
    Calls Tryz.prog 209 #[.pointer (some ⟨b, 0, none⟩), .slice (some ⟨w.heap.size, 0, none⟩) 2 2] (w.alloc (.cells #[.string (Lh.bt x), .string (Lh.bt y)] 9)) fun e w' => e = .returned (.tuple #[]) ∧ Pg B b (l ++ (Lh.joinL 32 [x, y] ++ [10])) w' ∧ Below B w w' ∧ Lib.OthersKept 5 (some b) w w' := by
  have hb0 := (Below.refl w.heap.size w).alloc (Nat.le_refl _) (.cells #[.string (Lh.bt x), .string (Lh.bt y)] 9)
  refine (line_core B b l (Lh.joinL 32 [x, y]) _ _ (h.later hb0) (Nat.le_trans hBw hb0.size) hl hj fun W hW => ?_).mono fun e w' ⟨q1, q2, q3, q4⟩ => ⟨q1, q2, (hb0.mono hBw).trans q3, (okept_of hb0).trans q4⟩
  exact join2_any w.heap.size 2 x y W (below_cell hW (by simp)) (below_cell hW (by simp)) (by have := hW.size; simp at this; omega) (Nat.le_refl _) (by omega)
end Go.Proofs.YtfhmfjcpggddkaaGreatDoor

/- strconv.FormatUint at base 16: a number's digits, as few as there are. -/
namespace Go.Proofs.YtfhmfjcpggddkaaGreatDoor
open Go.RowKit
set_option maxRecDepth 100000 in
set_option maxHeartbeats 2000000 in
theorem tz16 (w : World) (h : w.cell? ⟨15, 15, none⟩ = some (.int .u8 4)) :
    Calls Tryz.prog 252 #[.int .u64 16] w fun e w' => e = .returned (.int .i64 4) ∧ w' = w := by
  have e1 : IntKind.u64.wrap (-16) = 18446744073709551600 := by decide
  have e2 : bits .and .u64 16 18446744073709551600 = 16 := by decide
  have e3 : IntKind.u64.wrap 4573923408821661840 = 4573923408821661840 := by decide
  go_enter Tryz.func252, Tryz.ntmps252
  go_wp2
  go_ret
  exact ⟨rfl, rfl⟩
theorem push_fold : ∀ (l p : List UInt8), (l.map fun c => (c.toNat : Int)).foldl (fun r n => r.push (UInt8.ofNat n.toNat)) (Lh.bt p) = Lh.bt (p ++ l)
  | [], p => by simp
  | c :: l, p => by
    show (l.map fun c => (c.toNat : Int)).foldl _ ((Lh.bt p).push (UInt8.ofNat ((c.toNat : Int)).toNat)) = _
    have e : (Lh.bt p).push (UInt8.ofNat ((c.toNat : Int)).toNat) = Lh.bt (p ++ [c]) := by
      rw [Int.toNat_natCast, UInt8.ofNat_toNat]
      simp [Lh.bt, ByteArray.push]
    rw [e, push_fold l (p ++ [c])]
    simp
theorem addrC (b o j : Nat) : (⟨b, o, none⟩ : Addr).add j = ⟨b, o + j, none⟩ := by unfold Addr.add; split <;> simp_all
/-- bytes in memory as a text -/
theorem conv_bytes (w : World) (b o cap : Nat) (l : List UInt8) (h : ∀ j (hj : j < l.length), w.cell? ⟨b, o + j, none⟩ = some (.int .u8 (l[j].toNat : Nat))) :
    (convert 143 9 (.slice (some ⟨b, o, none⟩) l.length cap)).run Tryz.prog w = .ok (.string (Lh.bt l)) w := by
  have hl := run_loadCells_list (P := Tryz.prog) w ⟨b, o, none⟩ ((l.map fun c => (c.toNat : Int)).map (Value.int .u8)) (fun j v hv => by
    rw [List.getElem?_map, List.getElem?_map] at hv
    have hj : j < l.length := by
      rcases Nat.lt_or_ge j l.length with h' | h'
      · exact h'
      · rw [List.getElem?_eq_none h'] at hv; cases hv
    rw [List.getElem?_eq_getElem hj] at hv
    cases hv
    rw [addrC]
    exact h j hj)
  simp only [List.length_map] at hl
  rw [run_convert_bytes_string _ _ _ _ _ _ _ Tryz.underlying143 Tryz.underlying5 Tryz.underlying9, run_bytesToString _ ⟨b, o, none⟩ l.length cap (l.map fun c => (c.toNat : Int)) hl]
  have e := push_fold l []
  rw [List.nil_append] at e
  rw [← e]
  rfl
/-- a number's digits, laid from the end -/
structure Fb (w W : World) (k : Nat) (l : List UInt8) : Prop where
  below : Below w.heap.size w W
  heap : ∃ cs, W.heap[w.heap.size]? = some (.cells cs 319 (0, 0)) ∧ cs.size = 65
  len : l.length = k
  cell : ∀ j (hj : j < l.length), W.cell? ⟨w.heap.size, 65 - k + j, none⟩ = some (.int .u8 (l[j].toNat : Nat))
abbrev dg36 : ByteArray := ⟨#[48, 49, 50, 51, 52, 53, 54, 55, 56, 57, 97, 98, 99, 100, 101, 102, 103, 104, 105, 106, 107, 108, 109, 110, 111, 112, 113, 114, 115, 116, 117, 118, 119, 120, 121, 122]⟩
theorem dg36_at : ∀ d : Fin 16, (dg36[d.1]'(Nat.lt_of_lt_of_le d.2 (by decide))) = Lh.hxU d.1 := by decide
theorem Fb.put {w W : World} {k : Nat} {l : List UInt8} (h : Fb w W k l) (hk : k ≤ 15) (c : UInt8) : Fb w (W.setCell ⟨w.heap.size, 65 - k - 1, none⟩ (.int .u8 (c.toNat : Nat))) (k + 1) (c :: l) := by
  obtain ⟨cs, hh, hs⟩ := h.heap
  have hold : W.cell? ⟨w.heap.size, 65 - k - 1, none⟩ = some (cs[65 - k - 1]'(by omega)) := by
    rw [Lib.cell_of_heap hh]
    exact Array.getElem?_eq_getElem (by omega)
  refine ⟨h.below.setCell (p := ⟨w.heap.size, 65 - k - 1, none⟩) (Nat.le_refl _) _, ?_, by simp [h.len], fun j hj => ?_⟩
  · refine ⟨cs.setIfInBounds (65 - k - 1) (.int .u8 (c.toNat : Nat)), ?_, by simp [hs]⟩
    simp [World.setCell, Array.getElem?_modify, hh]
  · match j, hj with
    | 0, _ =>
      rw [show 65 - (k + 1) + 0 = 65 - k - 1 by omega]
      exact World.cell?_setCell_same _ _ _ hold
    | j + 1, hj =>
      have hj' : j < l.length := by simpa using hj
      rw [show 65 - (k + 1) + (j + 1) = 65 - k + j by omega, World.cell?_setCell_other _ _ _ _ (by
        intro e
        have := congrArg Addr.off e
        simp only at this
        omega)]
      exact h.cell j hj'
theorem u64_of (a : Nat) (h : a < 18446744073709551616) : (BitVec.ofInt 64 (a : Int)).toNat = a := by
  rw [BitVec.ofInt_natCast, BitVec.toNat_ofNat]; exact Nat.mod_eq_of_lt (by omega)
theorem and15 (a : Nat) (h : a < 18446744073709551616) : bits .and .u64 (a : Int) 15 = ((a % 16 : Nat) : Int) := by
  show IntKind.u64.wrap ((BitVec.ofInt 64 (a : Int) &&& BitVec.ofInt 64 ((15 : Nat) : Int)).toNat : Int) = _
  rw [BitVec.toNat_and, u64_of a h, u64_of 15 (by decide), IntKind.wrap_u64, show (15 : Nat) = 2 ^ 4 - 1 by rfl, Nat.and_two_pow_sub_one_eq_mod]
  omega
set_option maxRecDepth 100000 in
set_option maxHeartbeats 2000000 in
theorem fbits_any (n : Nat) (hn : n < 18446744073709551616) (w : World) (h : w.cell? ⟨15, 15, none⟩ = some (.int .u8 4)) :
    Calls Tryz.prog 207 #[.slice none 0 0, .int .u64 (n : Nat), .int .i64 16, .bool false, .bool false] w fun e w' => e = .returned (.tuple #[.slice none 0 0, .string (Lh.bt (Lh.hexD n))]) ∧ Below w.heap.size w w' := by
  have hb8 : bits .and .i64 16 15 = 0 := by decide
  go_enter Tryz.func207, Tryz.ntmps207
  go_wp2_with (first | (go_at_call 251; go_in))
  refine (tz16 _ ?_).mono ?_
  · exact below_cell ((Below.refl _ _).alloc (Nat.le_refl _) _) h
  rintro e w1 ⟨rfl, rfl⟩
  clear hb8 h
  go_wp2_with fail
  go_loopw [1, 13] (fun u1 u13 W => ∃ v k l, Fb w W k l ∧ Hid (Lh.hexD n = Lh.hexD v ++ l) ∧ v < 18446744073709551616 ∧ u1 = .int .u64 (v : Nat) ∧ u13 = .int .i64 ((65 - k : Nat) : Int)) (fun u1 _ _ => (intOf u1).toNat)
  case atStart => exact ⟨n, 0, [], ⟨(Below.refl _ _).alloc (Nat.le_refl _) _, ⟨_, heap_newC w _, rfl⟩, rfl, fun j hj => absurd hj (by simp)⟩, Lib.hid (by simp), hn, rfl, rfl⟩
  case round =>
    obtain ⟨v, k, l, hF, HQ, hv, rfl, rfl⟩ := hrel
    have hk : k ≤ 15 := by
      have h1 := (Lh.hexD_fill 15 n hn).1
      rw [HQ.out, List.length_append, hF.len] at h1
      have := Lh.hexD_pos v
      omega
    obtain ⟨cs, hcs, hcz⟩ := hF.heap
    have hcell : ∃ u, wr.cell? ⟨w.heap.size, 65 - k - 1, none⟩ = some u := by
      rw [Lib.cell_of_heap hcs]
      exact ⟨_, Array.getElem?_eq_getElem (by omega)⟩
    obtain ⟨u0, hcell⟩ := hcell
    have hfz : wr.frozen? ⟨w.heap.size, 65 - k - 1, none⟩ = false := Lib.frozen_of_heap hcs _
    have HF : Hid (Fb w wr k l) := hF
    clear hF hcs hcz
    have hi1 : ((65 - k : Nat) : Int) - 1 = ((65 - k - 1 : Nat) : Int) := by omega
    by_cases h16 : 16 ≤ v
    · have hvi : (16 : Int) ≤ (v : Int) := by omega
      have ha := and15 v hv
      have HV : Hid (Lh.hexD n = Lh.hexD (v / 16) ++ (Lh.hxU (v % 16) :: l)) := by
        have e1 := HQ.out
        rw [Lh.hexD_big (n := v) (by omega)] at e1
        have e2 : Lh.hexD n = Lh.hexD (v / 16) ++ (Lh.hxU (v % 16) :: l) := by rw [e1]; simp
        exact e2
      go_wp2
      refine ⟨⟨v / 16, k + 1, Lh.hxU (v % 16) :: l, ?_, HV, by omega, rfl, by congr 1⟩, by simp [intOf]; omega⟩
      have e3 := HF.out.put hk (Lh.hxU (v % 16))
      have e4 := dg36_at ⟨v % 16, Nat.mod_lt _ (by decide)⟩
      rw [← e4] at e3 ⊢
      exact e3
    · have hvi : decide ((16 : Int) ≤ (v : Int)) = false := by simp; omega
      have HV : Hid (Lh.hexD n = Lh.hxU v :: l) := by
        have e1 := HQ.out
        rw [Lh.hexD_small (n := v) (by omega)] at e1
        exact e1
      have e4 : (dg36[v]'(Nat.lt_of_lt_of_le (show v < 16 by omega) (by decide))) = Lh.hxU v := dg36_at ⟨v, by omega⟩
      have hfin := HF.out.put hk (Lh.hxU v)
      rw [← e4] at hfin
      have hlen := hfin.len
      have hcv := conv_bytes _ w.heap.size (65 - k - 1) (k + 1) (dg36[v]'(Nat.lt_of_lt_of_le (show v < 16 by omega) (by decide)) :: l) (fun j hj => by
        have := hfin.cell j hj
        rw [show 65 - (k + 1) = 65 - k - 1 by omega] at this
        exact this)
      have HFB : Hid (Below w.heap.size w (wr.setCell ⟨w.heap.size, 65 - k - 1, none⟩ (.int .u8 ((dg36[v]'(Nat.lt_of_lt_of_le (show v < 16 by omega) (by decide))).toNat : Nat)))) := hfin.below
      have hr : Lh.bt (dg36[v]'(Nat.lt_of_lt_of_le (show v < 16 by omega) (by decide)) :: l) = Lh.bt (Lh.hexD n) := by rw [e4, HV.out]
      rw [hlen, hr] at hcv
      have hsl : ∀ W, (Instr.sliceAt 319 (.pointer (some ⟨w.heap.size, 0, none⟩)) (some (.int .i64 ((65 - k - 1 : Nat) : Int))) none none).run Tryz.prog W = .ok (.slice (some ⟨w.heap.size, 65 - k - 1, none⟩) (k + 1) (k + 1)) W := by
        intro W
        have hal : Tryz.prog.arrayLen 319 = 65 := by kernel_rfl
        have hel : Tryz.prog.elem 319 = 5 := by kernel_rfl
        rw [run_sliceAt_array_l W 319 ⟨w.heap.size, 0, none⟩ (by kernel_rfl) .i64 _ (by omega) (by rw [hal]; omega), hal, hel, Tryz.sizeOf5]
        simp only [Result.andThen, slicedAt, Int.toNat_natCast, Nat.mul_one]
        rw [if_neg (by omega), show 65 - (65 - k - 1) = k + 1 by omega]
        rw [addrC, Nat.zero_add]
      clear hfin hlen e4 hr
      go_wp2
      go_ret2
      exact ⟨rfl, HFB.out⟩
end Go.Proofs.YtfhmfjcpggddkaaGreatDoor
