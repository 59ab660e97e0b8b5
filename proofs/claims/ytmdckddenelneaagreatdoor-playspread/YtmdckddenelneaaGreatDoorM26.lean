/- Texts of flows as lists: what is wrong with a line. -/
import Derived.Test.YtmdckddenelneaaGreatDoorM25
import Derived.Laws.Strings
import Derived.Test.YtmdckddenelneaaGreatDoorM8
import Derived.Test.YtmdckddenelneaaGreatDoorM22
import Derived.Deep.AppendLies
import Derived.BigQuiet
import Derived.Deep.QuietTactic
import Derived.Laws.AppendOwnNone
import Derived.Test.YtmdckddenelneaaGreatDoorM4
import Derived.Deep.RegionHeld3
import Derived.Test.YtmdckddenelneaaGreatDoorM10
namespace Go.Proofs.YtmdckddenelneaaGreatDoor
namespace Lh
theorem bt_list (l : List UInt8) : (bt l).toList = l := by rw [ByteArray.toList_eq]; rfl
theorem bt_void {l : List UInt8} (h : l = []) : (bt l).toList.isEmpty = true := by rw [bt_list, h]; rfl
theorem bt_some {l : List UInt8} (h : l ≠ []) : (bt l).toList.isEmpty = false := by
  rw [bt_list]
  cases l with
  | nil => exact absurd rfl h
  | cons c l => rfl
theorem bt_is {l k : List UInt8} (h : l = k) : ((bt l).toList == k) = true := by rw [bt_list, h]; simp
theorem bt_not {l k : List UInt8} (h : l ≠ k) : ((bt l).toList == k) = false := by
  rw [bt_list, beq_eq_false_iff_ne]
  exact h
theorem first_len {w : List UInt8} (h : (cutL 32 w).length ≠ 3) : firstL w = none := by
  unfold firstL
  split
  · rename_i a b c e
    rw [e] at h
    exact absurd rfl h
  · rfl
theorem first_word {w a b c : List UInt8} (e : cutL 32 w = [a, b, c]) (h : a ≠ flowsW) : firstL w = none := by
  unfold firstL
  rw [e]
  simp only
  rw [if_pos h]
theorem first_num {w a b c : List UInt8} (e : cutL 32 w = [a, b, c]) (h : numL b = none ∨ numL c = none) : firstL w = none := by
  unfold firstL
  rw [e]
  simp only
  split
  · rfl
  · rcases h with h | h
    · rw [h]
    · rw [h]; split <;> simp_all
theorem first_some {w a b c : List UInt8} (e : cutL 32 w = [a, b, c]) (h : a = flowsW) {m n : Nat} (hb : numL b = some m) (hc : numL c = some n) : firstL w = some (m, n) := by
  unfold firstL
  rw [e]
  simp only
  rw [if_neg (by simpa using h), hb, hc]
theorem line_len {w : List UInt8} (h : (cutL 32 w).length ≠ 3) : lineV w = none := by
  unfold lineV
  split
  · rename_i a b c e
    rw [e] at h
    exact absurd rfl h
  · rfl
theorem line_word {w a b c : List UInt8} (e : cutL 32 w = [a, b, c]) (h : b = [] ∨ a.length ≠ 16) : lineV w = none := by
  unfold lineV
  rw [e]
  simp only
  rw [if_pos h]
theorem line_num {w a b c : List UInt8} (e : cutL 32 w = [a, b, c]) (h : hexV a = none ∨ numL c = none) : lineV w = none := by
  unfold lineV
  rw [e]
  simp only
  split
  · rfl
  · rcases h with h | h
    · rw [h]
    · rw [h]; split <;> simp_all
theorem line_some {w a b c : List UInt8} (e : cutL 32 w = [a, b, c]) (h1 : b ≠ []) (h2 : a.length = 16) {k u : Nat} (hb : hexV a = some k) (hc : numL c = some u) : lineV w = some (k, bt b, (u : Int)) := by
  unfold lineV
  rw [e]
  simp only
  rw [if_neg (by simp [h1, h2]), hb, hc]
theorem last_hex {w a b : List UInt8} (e : cutL 32 w = [a, b]) (h1 : a = sumW) (h2 : b.length = 8) : lastL w = hexV b := by
  unfold lastL
  rw [e]
  simp only
  rw [if_neg (by simp [h1, h2])]
theorem rows_snoc : ∀ {ws : List (List UInt8)} {L : List Fl} {w : List UInt8} {x : Fl}, rowsL ws = some L → lineV w = some x → rowsL (ws ++ [w]) = some (L ++ [x])
  | [], L, w, x, h, hx => by
    cases h
    simp [rowsL, hx]
  | y :: ws, L, w, x, h, hx => by
    simp only [rowsL] at h
    split at h
    · rename_i z l h1 h2
      cases h
      have := rows_snoc h2 hx
      simp only [List.cons_append, rowsL, h1, this]
    · cases h
theorem rows_bad : ∀ {ws : List (List UInt8)} {w : List UInt8}, w ∈ ws → lineV w = none → rowsL ws = none
  | y :: ws, w, h, hx => by
    simp only [rowsL]
    rcases List.mem_cons.1 h with rfl | h
    · rw [hx]
    · rw [rows_bad h hx]
      split <;> simp_all
end Lh
end Go.Proofs.YtmdckddenelneaaGreatDoor

/- The model of flows in memory; find and TickError. -/
namespace Go.Proofs.YtmdckddenelneaaGreatDoor
open Go.RowKit

theorem frow_cells {w : World} {base : Nat} {e : TypeId} {g n cap : Nat} {xs : List Value} (h : w.ownsRow base e 3 (.slice (some ⟨g, 0, none⟩) n cap) n xs) : ∀ j u, xs[j]? = some u → w.cell? ⟨g, j, none⟩ = some u := fun j u hu => by
  obtain ⟨hl, ⟨e0, _⟩ | ⟨g', cap', cur, e1, _, hb, hn, hm, hsz, ht⟩⟩ := h
  · cases e0
  · cases e1
    have hj : j < xs.length := (List.getElem?_eq_some_iff.1 hu).1
    rw [← ht, List.getElem?_take_of_lt (by omega)] at hu
    simp only [World.cell?, hb]
    simpa using hu
end Go.Proofs.YtmdckddenelneaaGreatDoor

/- The model of flows: drop. -/
namespace Go.Proofs.YtmdckddenelneaaGreatDoor
open Go.RowKit

theorem infoFl : (Tryz.prog.info? 82).map (fun i => (i.zero, i.size, i.bytes)) = some (some (.agg #[.int .u64 0, .string ByteArray.empty, .int .i64 0]), 3, 32) := by kernel_rfl
end Go.Proofs.YtmdckddenelneaaGreatDoor

/- The model of flows: lay. -/
namespace Go.Proofs.YtmdckddenelneaaGreatDoor
open Go.RowKit

theorem cellsX {w : World} {t : TypeId} (x : Lh.Fl) : ∀ j u, (encF x)[j]? = some u → (w.alloc (.cells #[.int .u64 (x.1 : Nat), .string x.2.1, .int .i64 x.2.2] t)).cell? ((⟨w.heap.size, 0, none⟩ : Addr).add j) = some u := by
  intro j u hu
  match j, hu with
  | 0, hu => simp [encF] at hu; subst hu; simp [Addr.add]
  | 1, hu => simp [encF] at hu; subst hu; simp [Addr.add]
  | 2, hu => simp [encF] at hu; subst hu; simp [Addr.add]
  | j + 3, hu => simp [encF] at hu
theorem encF_one (x : Lh.Fl) : ∀ u ∈ encF x, u.oneCell' = true := by
  intro u hu
  simp [encF] at hu
  rcases hu with rfl | rfl | rfl <;> rfl

end Go.Proofs.YtmdckddenelneaaGreatDoor

/- The model's CarryOf. -/
namespace Go.Proofs.YtmdckddenelneaaGreatDoor
open Go.RowKit

/-- What a text says: epoch, flows, an error. -/
def ReadF (s : List UInt8) (n : Int) (l : List Lh.Fl) (c : Nat) (pl : Int) : Prop :=
  (20000 < s.length ∧ n = 0 ∧ l = [] ∧ c = 2 ∧ pl = -1) ∨
  (s.length ≤ 20000 ∧ Lh.partsL (Lh.cutL 10 s) = none ∧ n = 0 ∧ l = [] ∧ c = 1 ∧ pl = -1) ∨
  (s.length ≤ 20000 ∧ ∃ e L k ps, Lh.partsL (Lh.cutL 10 s) = some (e, L, k, ps) ∧
    ((k ≠ Lh.crcL (Lh.joinL 10 ps ++ [10]) ∧ n = 0 ∧ l = [] ∧ c = 9 ∧ pl = -1) ∨
     (k = Lh.crcL (Lh.joinL 10 ps ++ [10]) ∧ CaF e L c pl ∧ ((c ≠ 0 ∧ n = 0 ∧ l = []) ∨ (c = 0 ∧ n = e ∧ l = L)))))

theorem len3 {α : Type} {ws : List α} (h : ws.length = 3) : ∃ a b c, ws = [a, b, c] := by
  match ws, h with
  | [a, b, c], _ => exact ⟨a, b, c, rfl⟩
theorem len2 {α : Type} {ws : List α} (h : ws.length = 2) : ∃ a b, ws = [a, b] := by
  match ws, h with
  | [a, b], _ => exact ⟨a, b, rfl⟩
namespace Lh
theorem parts_first {ls : List (List UInt8)} (h : firstL (ls.getD 0 []) = none) : partsL ls = none := by
  unfold partsL
  split
  · rfl
  · rw [h]
theorem parts_rows {ls : List (List UInt8)} (h : rowsL ((ls.drop 1).take (ls.length - 3)) = none) : partsL ls = none := by
  unfold partsL
  split
  · rfl
  · rw [h]
    split <;> simp_all
theorem parts_many {ls : List (List UInt8)} {e n : Nat} (h : firstL (ls.getD 0 []) = some (e, n)) (hn : n + 3 ≠ ls.length) : partsL ls = none := by
  unfold partsL
  split
  · rfl
  · rw [h]
    split
    · rename_i h1 h2 h3
      cases h1
      rw [if_pos hn]
    · rfl
theorem parts_some {ls : List (List UInt8)} {e n k : Nat} {l : List Fl} (h0 : ¬ (ls.length < 3 ∨ ls.getD (ls.length - 1) [] ≠ [])) (h1 : firstL (ls.getD 0 []) = some (e, n)) (h2 : n + 3 = ls.length) (h3 : rowsL ((ls.drop 1).take (ls.length - 3)) = some l) (h4 : lastL (ls.getD (ls.length - 2) []) = some k) : partsL ls = some (e, l, k, ls.take (ls.length - 2)) := by
  unfold partsL
  rw [if_neg h0, h1, h3, h4]
  simp only
  rw [if_neg (by omega)]
theorem cut_len (y : UInt8) : ∀ l : List UInt8, (cutL y l).length ≤ l.length + 1
  | [] => by simp [cutL]
  | c :: l => by
    have := cut_len y l
    obtain ⟨x, xs, e⟩ := cutL_some y l
    rw [cutL_cons]
    rw [e] at this ⊢
    split
    · simp at this ⊢; omega
    · simp at this ⊢; omega
theorem cut_word (y : UInt8) : ∀ (l w : List UInt8), w ∈ cutL y l → w.length ≤ l.length
  | [], w, h => by simp [cutL] at h; subst h; simp
  | c :: l, w, h => by
    have ih := cut_word y l
    obtain ⟨x, xs, e⟩ := cutL_some y l
    rw [cutL_cons] at h
    rw [e] at h ih
    split at h
    · rcases List.mem_cons.1 h with rfl | h
      · simp
      · have := ih w h; simp; omega
    · rcases List.mem_cons.1 h with rfl | h
      · have := ih x (List.mem_cons_self ..); simp; omega
      · have := ih w (List.mem_cons_of_mem _ h); simp; omega
end Lh

end Go.Proofs.YtmdckddenelneaaGreatDoor

/- The model's text of flows. -/
namespace Go.Proofs.YtmdckddenelneaaGreatDoor
open Go.RowKit

namespace Lh
end Lh
/-- Flows that a text can hold. -/
def CanT (L : List Lh.Fl) : Prop := ∀ x ∈ L, x.1 < 18446744073709551616 ∧ x.2.1.size ≤ 60 ∧ 0 ≤ x.2.2 ∧ x.2.2.toNat < 100000000000000

end Go.Proofs.YtmdckddenelneaaGreatDoor

/- What texts of flows say: one answer; the round trip; a text that is read is the text of what it says. -/
namespace Go.Proofs.YtmdckddenelneaaGreatDoor

/-- Keys that a machine has. -/
def KeyIn (l : List Lh.Fl) : Prop := ∀ x ∈ l, x.1 < 18446744073709551616
theorem nm_word {s : ByteArray} (h : Lh.isNm s = true) : s.data.toList ≠ [] ∧ (32 : UInt8) ∉ s.data.toList ∧ (10 : UInt8) ∉ s.data.toList ∧ s.size ≤ 12 := by
  simp only [Lh.isNm, Bool.and_eq_true, decide_eq_true_eq] at h
  obtain ⟨⟨⟨h1, h2⟩, _⟩, h4⟩ := h
  have hl : s.data.toList.length = s.size := rfl
  refine ⟨fun e => ?_, fun hm => ?_, fun hm => ?_, h2⟩
  · rw [e] at hl; simp at hl; omega
  · have := List.all_eq_true.1 h4 _ hm
    revert this
    decide
  · have := List.all_eq_true.1 h4 _ hm
    revert this
    decide
theorem caF_good {e : Int} {l : List Lh.Fl} {pl : Int} (h : CaF e l 0 pl) : (0 ≤ e ∧ e ≤ 1099511627776 ∧ l.length ≤ 200) ∧ (∀ j, ∀ hj : j < l.length, GoodF l j hj) ∧ pl = -1 := by
  rcases h with ⟨_, h, _⟩ | ⟨h1, i, hi, _, _, h3⟩ | ⟨h1, h2, _, h3⟩
  · cases h
  · rcases h3 with ⟨_, h⟩ | ⟨_, _, h⟩ | ⟨_, _, _, _, h⟩ <;> cases h
  · exact ⟨h1, h2, h3⟩
theorem caF_word {e : Int} {l : List Lh.Fl} {pl : Int} (h : CaF e l 0 pl) (hk : KeyIn l) : Lh.WordF l ∧ CanT l ∧ e.toNat < 100000000000000 ∧ (e.toNat : Int) = e := by
  obtain ⟨⟨h1, h2, h3⟩, hg, _⟩ := caF_good h
  refine ⟨fun x hx => ?_, fun x hx => ?_, by omega, by omega⟩
  · obtain ⟨j, hj, rfl⟩ := List.getElem_of_mem hx
    obtain ⟨g1, g2, g3, _⟩ := hg j hj
    obtain ⟨n1, n2, n3, n4⟩ := nm_word g1
    exact ⟨hk _ hx, g2, by omega, n1, n2, n3⟩
  · obtain ⟨j, hj, rfl⟩ := List.getElem_of_mem hx
    obtain ⟨g1, g2, g3, _⟩ := hg j hj
    obtain ⟨n1, n2, n3, n4⟩ := nm_word g1
    exact ⟨hk _ hx, by omega, g2, by omega⟩
theorem text_len {e : Int} {l : List Lh.Fl} {pl : Int} (h : CaF e l 0 pl) (hk : KeyIn l) : (Lh.textL e.toNat l).length ≤ 20000 := by
  obtain ⟨_, hc, he, _⟩ := caF_word h hk
  obtain ⟨⟨_, _, h3⟩, _, _⟩ := caF_good h
  have h1 := Lh.headL_len (e := e.toNat) (n := l.length) he (by omega)
  have h2 := Lh.rowsB_len (l := l) fun x hx => ⟨(hc x hx).2.1, (hc x hx).2.2.2⟩
  have h4 : (Lh.sumL (Lh.bodyL e.toNat l)).length = 12 := by
    simp [Lh.sumL, Lh.joinL, Lh.sumW, Lh.hexL_len]
  unfold Lh.textL
  rw [List.length_append, List.length_append, h4, Lh.body_rows]
  simp only [List.length_append, List.length_cons, List.length_nil]
  omega
theorem rows_key : ∀ {ws : List (List UInt8)} {l : List Lh.Fl}, Lh.rowsL ws = some l → KeyIn l
  | [], l, h, x, hx => by cases h; cases hx
  | w :: ws, l, h, x, hx => by
    simp only [Lh.rowsL] at h
    split at h
    · rename_i y l' h1 h2
      cases h
      rcases List.mem_cons.1 hx with rfl | hx
      · exact (Lh.lineV_key h1).1
      · exact rows_key h2 x hx
    · cases h
theorem parts_key {ls : List (List UInt8)} {e k : Nat} {l : List Lh.Fl} {ps : List (List UInt8)} (h : Lh.partsL ls = some (e, l, k, ps)) : KeyIn l := by
  unfold Lh.partsL at h
  split at h
  · cases h
  · split at h
    · rename_i h1 h2 h3
      split at h
      · cases h
      · cases h
        exact rows_key h2
    · cases h
theorem read_good {s : List UInt8} {n : Int} {l : List Lh.Fl} {pl : Int} (h : ReadF s n l 0 pl) : s = Lh.textL n.toNat l ∧ CaF n l 0 pl ∧ KeyIn l ∧ s.length ≤ 20000 := by
  rcases h with ⟨_, _, _, h, _⟩ | ⟨_, _, _, _, h, _⟩ | ⟨h1, e, L, k, ps, hp, h2⟩
  · cases h
  · cases h
  · rcases h2 with ⟨_, _, _, h, _⟩ | ⟨h3, h4, h5⟩
    · cases h
    · rcases h5 with ⟨h, _⟩ | ⟨_, rfl, rfl⟩
      · exact absurd rfl h
      · obtain ⟨p1, p2, _⟩ := Lh.parts_text hp
        rw [p1] at h3
        exact ⟨by simpa using p2 h3, h4, parts_key hp, h1⟩
end Go.Proofs.YtmdckddenelneaaGreatDoor

/- What the laws of a balance ask of the landed package. -/
namespace Go.Proofs.YtmdckddenelneaaGreatDoor
open Go.RowKit

/-- an error: none, or the one of a number -/
def EvOf (a : Nat → Addr) (c : Nat) (ev : Value) : Prop := (c = 0 ∧ ev = .nilIface) ∨ ∃ j, c = j + 1 ∧ ev = .iface 331 (.pointer (some (a j)))
/-- what Pick does: nw says which of those that are open a new key goes to -/
def PickR (nw : List ByteArray → Nat → Nat → ByteArray) (S : Lh.Bl) (k : Nat) (now : Int) (S' : Lh.Bl) (s : ByteArray) (kept : Bool) (c : Nat) : Prop :=
  (∃ j, TickF S.la now j ∧ S' = S ∧ s = ByteArray.empty ∧ kept = false ∧ c = j + 1) ∨
  (TickOk S.la now ∧ Lh.BKeeps S k now s ∧ kept = true ∧ c = 0 ∧ S' = { S with la := now, L := Lh.fput S.t S.L k s now }) ∨
  (TickOk S.la now ∧ (∀ z, ¬ Lh.BKeeps S k now z) ∧ Lh.bopen S = [] ∧ s = ByteArray.empty ∧ kept = false ∧ c = 5 ∧ S' = { S with la := now }) ∨
  (TickOk S.la now ∧ (∀ z, ¬ Lh.BKeeps S k now z) ∧ Lh.bopen S ≠ [] ∧ s = nw (Lh.bopen S) S.size k ∧ kept = false ∧ c = 0 ∧ S' = { S with la := now, L := Lh.fput S.t S.L k s now })
def LookR (S : Lh.Bl) (s : ByteArray) (well : Bool) (S' : Lh.Bl) (turned : Bool) (c : Nat) : Prop :=
  (∃ h : Lh.hix S.hs s < S.hs.length, turned = (Lh.hlook S.f S.r S.hs[Lh.hix S.hs s] well).2 ∧ c = 0 ∧ S' = Lh.blook S s well S.hs[Lh.hix S.hs s]) ∨
  (¬ Lh.hix S.hs s < S.hs.length ∧ turned = false ∧ c = 5 ∧ S' = S)
def DrainR (S : Lh.Bl) (s : ByteArray) (is : Bool) (S' : Lh.Bl) (c : Nat) : Prop :=
  (Lh.hix S.hs s < S.hs.length ∧ c = 0 ∧ S' = { S with dr := Lh.bdrain S.dr s is }) ∨ (¬ Lh.hix S.hs s < S.hs.length ∧ c = 5 ∧ S' = S)
def ExportR (S : Lh.Bl) (S' : Lh.Bl) (s : ByteArray) (c : Nat) : Prop :=
  (S.ep < 1099511627776 ∧ s = Lh.bt (Lh.textL (S.ep + 1).toNat S.L) ∧ c = 0 ∧ S' = { S with ep := S.ep + 1 }) ∨ (¬ S.ep < 1099511627776 ∧ s = ByteArray.empty ∧ c = 2 ∧ S' = S)
/-- what Import does: c, pl: an error's number and place -/
def ImportR (S : Lh.Bl) (s : List UInt8) (now : Int) (S' : Lh.Bl) (n : Nat) (c : Nat) (pl : Int) : Prop :=
  ∃ e l c0 pl0, ReadF s e l c0 pl0 ∧
    ((c0 ≠ 0 ∧ S' = S ∧ n = 0 ∧ c = c0 ∧ pl = pl0) ∨
     (c0 = 0 ∧ e < S.ep ∧ S' = S ∧ n = 0 ∧ c = 8 ∧ pl = -1) ∨
     (c0 = 0 ∧ ¬ e < S.ep ∧ ∃ j, TickF S.la now j ∧ S' = S ∧ n = 0 ∧ c = j + 1 ∧ pl = -1) ∨
     (c0 = 0 ∧ ¬ e < S.ep ∧ TickOk S.la now ∧ n = (Lh.fadd now S.L (l.filter fun x => Lh.hup S.hs x.2.1)).length - S.L.length ∧ c = 0 ∧ pl = -1 ∧ S' = { S with ep := e, la := now, L := Lh.fadd now S.L (l.filter fun x => Lh.hup S.hs x.2.1) }))
/-- The landed package's contracts, over what it says that a *Balance is (Rep), and what it asks of the package variables (E; of those for texts: X). -/
structure BalanceC where
  E : (Nat → Addr) → World → Prop
  eLater : ∀ {a : Nat → Addr} {W W' : World}, E a W → Below W.heap.size W W' → E a W'
  X : (Nat → Addr) → World → Prop
  xLater : ∀ {a : Nat → Addr} {W W' : World}, X a W → Below W.heap.size W W' → X a W'
  nw : List ByteArray → Nat → Nat → ByteArray
  nwIn : ∀ {xs : List ByteArray} {n : Nat} (k : Nat), xs ≠ [] → Lh.Prm n → nw xs n k ∈ xs
  Rep : Lh.Bl → (Nat → Prop) → Nat → World → Prop
  lt : ∀ {S : Lh.Bl} {F : Nat → Prop} {p : Nat} {W : World}, Rep S F p W → ∀ b, F b → b < W.heap.size
  stay : ∀ {S : Lh.Bl} {F : Nat → Prop} {p : Nat} {W W' : World}, Rep S F p W → W.heap.size ≤ W'.heap.size → (∀ b, F b → W'.heap[b]? = W.heap[b]?) → Rep S F p W'
  newG : ∀ (a : Nat → Addr) (v : Value) (xs : List ByteArray) (n t f r : Nat) (W : World), E a W → Strs1 W v xs → 0 < xs.length → IsFault xs 0 (-1) → (∀ s ∈ xs, s.size ≤ 300) → Lh.Prm n → n ≤ 503 → 1 ≤ t → t ≤ 1000 → 1 ≤ f → f ≤ 10 → 1 ≤ r → r ≤ 10 →
    Calls Tryz.prog 51 #[v, .int .i64 (n : Nat), .int .i64 (t : Nat), .int .i64 (f : Nat), .int .i64 (r : Nat)] W fun e W' => ∃ p F, e = .returned (.tuple #[.pointer (some ⟨p, 0, none⟩), .nilIface]) ∧ Rep ⟨f, r, n, t, Lh.hnew xs, [], 0, 0, []⟩ F p W' ∧ (∀ b, F b → W.heap.size ≤ b) ∧ Below W.heap.size W W'
  pick : ∀ (a : Nat → Addr) (S : Lh.Bl) (F : Nat → Prop) (p k : Nat) (now : Int) (W : World), E a W → Rep S F p W → Lh.BOk S → k < 18446744073709551616 →
    Calls Tryz.prog 87 #[.pointer (some ⟨p, 0, none⟩), .int .u64 (k : Nat), .int .i64 now] W fun e W' => ∃ F' S' s kept c ev, (∀ b, F' b → F b ∨ W.heap.size ≤ b) ∧ Tur F W W' ∧ e = .returned (.tuple #[.string s, .bool kept, ev]) ∧ EvOf a c ev ∧ PickR nw S k now S' s kept c ∧ Rep S' F' p W'
  look : ∀ (a : Nat → Addr) (S : Lh.Bl) (F : Nat → Prop) (p : Nat) (s : ByteArray) (well : Bool) (W : World), E a W → Rep S F p W → Lh.BOk S → s.size ≤ maxLen →
    Calls Tryz.prog 81 #[.pointer (some ⟨p, 0, none⟩), .string s, .bool well] W fun e W' => ∃ F' S' turned c ev, (∀ b, F' b → F b ∨ W.heap.size ≤ b) ∧ Tur F W W' ∧ e = .returned (.tuple #[.bool turned, ev]) ∧ EvOf a c ev ∧ LookR S s well S' turned c ∧ Rep S' F' p W'
  drain : ∀ (a : Nat → Addr) (S : Lh.Bl) (F : Nat → Prop) (p : Nat) (s : ByteArray) (is : Bool) (W : World), E a W → Rep S F p W → Lh.BOk S → s.size ≤ maxLen →
    Calls Tryz.prog 84 #[.pointer (some ⟨p, 0, none⟩), .string s, .bool is] W fun e W' => ∃ F' S' c ev, (∀ b, F' b → F b ∨ W.heap.size ≤ b) ∧ Tur F W W' ∧ e = .returned ev ∧ EvOf a c ev ∧ DrainR S s is S' c ∧ Rep S' F' p W'
  up : ∀ (S : Lh.Bl) (F : Nat → Prop) (p : Nat) (W : World), Rep S F p W → Lh.BOk S →
    Calls Tryz.prog 26 #[.pointer (some ⟨p, 0, none⟩)] W fun e W' => ∃ v, e = .returned v ∧ Strs1 W' v (Lh.hups S.hs) ∧ Below W.heap.size W W'
  flows : ∀ (S : Lh.Bl) (F : Nat → Prop) (p : Nat) (W : World), Rep S F p W → Lh.BOk S →
    Calls Tryz.prog 21 #[.pointer (some ⟨p, 0, none⟩)] W fun e W' => ∃ v, e = .returned v ∧ FlowsNew W.heap.size W' v S.L ∧ Below W.heap.size W W'
  epoch : ∀ (S : Lh.Bl) (F : Nat → Prop) (p : Nat) (W : World), Rep S F p W →
    Calls Tryz.prog 24 #[.pointer (some ⟨p, 0, none⟩)] W fun e W' => e = .returned (.int .i64 S.ep) ∧ Below W.heap.size W W'
  export_ : ∀ (a : Nat → Addr) (S : Lh.Bl) (F : Nat → Prop) (p : Nat) (W : World), E a W → X a W → Rep S F p W → Lh.BOk S →
    Calls Tryz.prog 114 #[.pointer (some ⟨p, 0, none⟩)] W fun e W' => ∃ F' S' s c ev, (∀ b, F' b → F b ∨ W.heap.size ≤ b) ∧ Tur F W W' ∧ e = .returned (.tuple #[.string s, ev]) ∧ EvOf a c ev ∧ ExportR S S' s c ∧ Rep S' F' p W'
  import_ : ∀ (a : Nat → Addr) (S : Lh.Bl) (F : Nat → Prop) (p : Nat) (s : List UInt8) (now : Int) (W : World), E a W → X a W → Rep S F p W → Lh.BOk S → s.length ≤ 30000 →
    Calls Tryz.prog 115 #[.pointer (some ⟨p, 0, none⟩), .string (Lh.bt s), .int .i64 now] W fun e W' => ∃ F' S' n c pl ev, (∀ b, F' b → F b ∨ W.heap.size ≤ b) ∧ Tur F W W' ∧ e = .returned (.tuple #[.int .i64 ((n : Nat) : Int), ev]) ∧ ErrIs a W' c pl ev ∧ ImportR S s now S' n c pl ∧ Rep S' F' p W'
theorem BalanceC.later (hC : BalanceC) {S : Lh.Bl} {F : Nat → Prop} {p : Nat} {W W' : World} (h : hC.Rep S F p W) (hb : Below W.heap.size W W') : hC.Rep S F p W' :=
  hC.stay h hb.size fun b hf => hb.block b (hC.lt h b hf)
theorem evOf_nil {a : Nat → Addr} {ev : Value} (h : EvOf a 0 ev) : ev = .nilIface := by
  rcases h with ⟨_, h⟩ | ⟨j, h, _⟩
  · exact h
  · omega
end Go.Proofs.YtmdckddenelneaaGreatDoor
