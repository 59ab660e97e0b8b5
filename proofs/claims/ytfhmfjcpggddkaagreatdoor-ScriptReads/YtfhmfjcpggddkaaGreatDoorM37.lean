/- The landed byScore, whole. -/
import Derived.Test.YtfhmfjcpggddkaaGreatDoorM36
import Derived.Test.YtfhmfjcpggddkaaGreatDoorM31
import Derived.Test.YtfhmfjcpggddkaaGreatDoorM16
import Derived.Test.YtfhmfjcpggddkaaGreatDoorM35
import Derived.Test.YtfhmfjcpggddkaaGreatDoorM6
import Derived.Shelf.SlSorted.Search
import Derived.Deep.RegionHeld3
import Derived.Deep.AppendLies
import Derived.Deep.RegionLaw
import Derived.Test.YtfhmfjcpggddkaaGreatDoorM12
import Derived.BigQuiet
import Derived.Deep.QuietTactic
import Derived.Laws.AppendOwnNone
import Derived.OwnWalk
import Derived.Test.YtfhmfjcpggddkaaGreatDoorM5
import Derived.Test.YtfhmfjcpggddkaaGreatDoorM17
import Derived.Test.YtfhmfjcpggddkaaGreatDoorM11
import Derived.Test.YtfhmfjcpggddkaaGreatDoorM20
import Derived.Test.YtfhmfjcpggddkaaGreatDoorM27
import Derived.Test.YtfhmfjcpggddkaaGreatDoorM13
import Derived.Test.YtfhmfjcpggddkaaGreatDoorM4
import Derived.Test.YtfhmfjcpggddkaaGreatDoorM18
import Derived.Test.YtfhmfjcpggddkaaGreatDoorM21
import Derived.Test.YtfhmfjcpggddkaaGreatDoorM29
import Derived.Test.YtfhmfjcpggddkaaGreatDoorM8
import Derived.Test.YtfhmfjcpggddkaaGreatDoorM30
import Derived.Test.YtfhmfjcpggddkaaGreatDoorM34
import Derived.Test.YtfhmfjcpggddkaaGreatDoorM3
import Derived.Test.YtfhmfjcpggddkaaGreatDoorM33
namespace Go.Proofs.YtfhmfjcpggddkaaGreatDoor
open Go.RowKit Go.Sort Go.Shelf Go.Lib

theorem attach_val {xs : List ByteArray} (hs : ∀ s ∈ xs, s.size ≤ 300) : (xs.attachWith (fun s => s.size ≤ 300) hs).map (·.1) = xs := List.attachWith_map_subtype_val _
/-- A row of texts that one has made, as the sort wants it. -/
theorem holds_of_owns {w : World} {base : Nat} {v : Value} {e : TypeId} {xs : List ByteArray} (hs : ∀ s ∈ xs, s.size ≤ 300) (h : w.ownsRow base e 1 v xs.length (xs.map Value.string)) (h0 : 0 < xs.length) :
    ∃ g cap, v = .slice (some ⟨g, 0, none⟩) xs.length cap ∧ base ≤ g ∧ g < w.heap.size ∧ xs.length ≤ cap ∧ Holds encS w g 0 (xs.attachWith (fun s => s.size ≤ 300) hs).toArray := by
  obtain ⟨hl, ⟨rfl, h'⟩ | ⟨g, cap, cur, rfl, hbase, hb, hn, hm, hsz, ht⟩⟩ := h
  · omega
  · have hlt : g < w.heap.size := (Array.getElem?_eq_some_iff.1 hb).1
    refine ⟨g, cap, rfl, hbase, hlt, hn, fun j hj => ⟨?_, by simp [World.frozen?, hb]⟩⟩
    have hj' : j < xs.length := by simpa using hj
    have hk' : (cur.toList.take (xs.length * 1))[j]? = some (.string xs[j]) := by rw [ht]; simp [hj']
    rw [List.getElem?_take_of_lt (by omega)] at hk'
    simp only [World.cell?, hb, Nat.zero_add]
    have e : (xs.attachWith (fun s => s.size ≤ 300) hs).toArray[j]! = ⟨xs[j], hs _ (List.getElem_mem hj')⟩ := by simp [hj']
    rw [e]
    simpa [encS] using hk'

set_option maxRecDepth 100000 in
set_option maxHeartbeats 2000000 in
theorem byScore_any (v : Value) (xs : List ByteArray) (k : Nat) (hk : k < 18446744073709551616) (w : World) (hv : Strs1 w v xs) (h0 : 0 < xs.length) (hm : xs.length < 1000000) (hs : ∀ s ∈ xs, s.size ≤ 300) :
    Calls Tryz.prog 91 #[v, .int .u64 (k : Nat)] w fun e w' => ∃ v', e = .returned v' ∧ Strs1 w' v' (Lh.order (Lh.score k) xs) ∧ Below w.heap.size w w' := by
  have hbW := (Below.refl w.heap.size w).alloc (Nat.le_refl _) (.cells #[.int .u64 (k : Nat)] 63)
  have hck : (w.alloc (.cells #[.int .u64 (k : Nat)] 63)).cell? ⟨w.heap.size, 0, none⟩ = some (.int .u64 (k : Nat)) := by simp
  have hsz1 : (w.alloc (.cells #[.int .u64 (k : Nat)] 63)).heap.size = w.heap.size + 1 := by simp
  obtain ⟨b, o, c, rfl, hx⟩ := strsPos hv h0
  have hcl := clone_any b o c xs (w.alloc (.cells #[.int .u64 (k : Nat)] 63)) (fun j h => below_cell hbW (hx j h)) hm
  have HK : Hid (k < 18446744073709551616) := hk
  have HS : Hid (∀ s ∈ xs, s.size ≤ 300) := hs
  clear hv hx hs hk
  go_enter Tryz.func91, Tryz.ntmps91
  go_wp2_with fail
  refine hcl.mono ?_
  clear hcl
  generalize w.alloc (.cells #[.int .u64 (k : Nat)] 63) = w0 at *
  rintro e w1 ⟨v', rfl, hown, hb1⟩
  have hbw1 : Below w.heap.size w w1 := hbW.trans (hb1.mono hbW.size)
  have hck1 := below_cell hb1 hck
  have hklt : w.heap.size < w1.heap.size := by have := hb1.size; omega
  obtain ⟨g, cp, rfl, hg0, hg1, hcp, hH⟩ := holds_of_owns HS.out hown h0
  have hsort := sortR k HK.out g w.heap.size cp (xs.attachWith (fun s => s.size ≤ 300) HS.out) w1 (by omega) hklt hck1 hH hg1 (by simpa using hm)
  rw [attach_val, List.length_attachWith] at hsort
  clear hown hb1 hck hck1 hH
  go_wp2_with fail
  refine hsort.mono ?_
  rintro e w2 ⟨rfl, hgr, d', hd', hcells⟩
  have hb2 : Below w.heap.size w w2 := hbw1.grown hgr hbw1.size (fun k hk => by cases hk; omega)
  have HF : Hid (Strs1 w2 (.slice (some ⟨g, 0, none⟩) xs.length cp) (Lh.order (Lh.score k) xs)) := by
    have hl : (Lh.order (Lh.score k) xs).length = xs.length := Lh.order_length _ _
    refine Or.inr ⟨g, 0, cp, by rw [hl], by omega, fun j hj => ?_⟩
    have hj' : j < d'.length := by rw [← hd', List.length_map] at hj; exact hj
    rw [Nat.zero_add, hcells j hj']
    congr 2
    have : (Lh.order (Lh.score k) xs)[j] = (d'.map (·.1))[j]'(by simpa using hj') := by congr 1; exact hd'.symm
    rw [this, List.getElem_map]
  clear hsort hgr hd' hcells
  go_wp2
  go_ret
  exact ⟨_, rfl, HF.out, hb2⟩
end Go.Proofs.YtfhmfjcpggddkaaGreatDoor

/- The landed Order and Host of rivals; the law's closed fact. -/
namespace Go.Proofs.YtfhmfjcpggddkaaGreatDoor
open Go.RowKit

theorem small_of {xs : List ByteArray} {n m : Nat} (hs : ∀ k (h : k < xs.length), (xs[k]).size ≤ n) (hnm : n ≤ m) : ∀ k (h : k < xs.length), (xs[k]).size ≤ m := fun k h => Nat.le_trans (hs k h) hnm
theorem small_mem {xs : List ByteArray} {n : Nat} (hs : ∀ k (h : k < xs.length), (xs[k]).size ≤ n) : ∀ s ∈ xs, s.size ≤ n := fun s h => by
  obtain ⟨k, hk, rfl⟩ := List.getElem_of_mem h
  exact hs k hk

set_option maxRecDepth 100000 in
set_option maxHeartbeats 2000000 in
theorem order_good (a : Nat → Addr) (v : Value) (xs : List ByteArray) (k : Nat) (hk : k < 18446744073709551616) (w : World) (he : Errs4 a w) (hv : Strs1 w v xs) (h0 : 0 < xs.length) (hf : IsFault xs 0 (-1)) (hs : ∀ k (h : k < xs.length), (xs[k]).size ≤ 300) (hm : xs.length < 1000000) :
    Calls Tryz.prog 41 #[v, .int .u64 (k : Nat)] w fun e w' => ∃ v', e = .returned (.tuple #[v', .nilIface]) ∧ Strs1 w' v' (Lh.order (Lh.score k) xs) ∧ Below w.heap.size w w' := by
  have hchk := rcheck_any a v xs w 0 (-1) he hv (Or.inr ⟨h0, hf⟩) (small_of hs (by decide)) hm
  have hby := fun W (hb : Below w.heap.size w W) => byScore_any v xs k hk W (hv.later hb) h0 hm (small_mem hs)
  obtain ⟨b, o, c, rfl, hx⟩ := strsPos hv h0
  clear he hv hf hs hx
  generalize Lh.order (Lh.score k) xs = ys at *
  go_enter Tryz.func41, Tryz.ntmps41
  go_wp2_with fail
  refine hchk.mono ?_
  rintro e w1 ⟨ev, rfl, hev, hb1⟩
  obtain rfl := err0 hev
  clear hev hchk
  go_wp2_with fail
  refine (hby _ hb1).mono ?_
  rintro e w2 ⟨v', rfl, hv', hb2⟩
  have hbz : Below w.heap.size w w2 := below_then hb1 hb2
  have HF : Hid (Strs1 w2 v' ys) := hv'
  clear hby hv' hb1 hb2
  go_wp2
  go_ret2
  exact ⟨_, rfl, HF.out, hbz⟩
end Go.Proofs.YtfhmfjcpggddkaaGreatDoor

/- The law's model of a script: what is asked of hosts alone. -/
namespace Go.Proofs.YtfhmfjcpggddkaaGreatDoor
open Go.RowKit Lh

section
variable {W W' : World} {m b o c : Nat} {xs : List ByteArray}
end
theorem below_al {w w' : World} (h : Below w.heap.size w w') (o : Obj) : Below w.heap.size w (w'.alloc o) := h.alloc h.size o
theorem below_ald {w : World} (o : Obj) : Below w.heap.size w (w.alloc o).drew := below_drewN (below_al (Below.refl _ _) o) 1
theorem al_cells {w w1 : World} {x y : Value} {t : TypeId} (hb : Below (w.alloc (.cells #[x, y] t)).drew.heap.size (w.alloc (.cells #[x, y] t)).drew w1) : w1.cell? ⟨w.heap.size, 0, none⟩ = some x ∧ w1.cell? ⟨w.heap.size, 1, none⟩ = some y ∧ w1.frozen? ⟨w.heap.size, 0, none⟩ = false ∧ w1.frozen? ⟨w.heap.size, 1, none⟩ = false := by
  have hb' : Below (w.alloc (.cells #[x, y] t)).heap.size (w.alloc (.cells #[x, y] t)) w1 := below_of_drew hb
  exact ⟨below_cell hb' (by simp), below_cell hb' (by simp), by rw [hb'.frozen (by simp)]; simp, by rw [hb'.frozen (by simp)]; simp⟩
end Go.Proofs.YtfhmfjcpggddkaaGreatDoor

/- The model of health: Look. -/
namespace Go.Proofs.YtfhmfjcpggddkaaGreatDoor
open Go.RowKit

theorem Tur.drew {F : Nat → Prop} {w w' : World} (h : Tur F w w') : Tur F w w'.drew := ⟨h.os, h.tape, h.output, h.size, h.block⟩
end Go.Proofs.YtfhmfjcpggddkaaGreatDoor

/- The model of flows: Put. -/
namespace Go.Proofs.YtfhmfjcpggddkaaGreatDoor
open Go.RowKit

section
variable {W : World} {m t : Nat} {la : Int} {L : List Lh.Fl} {lv : Value}
theorem TickOk.not {now : Int} {j : Nat} (h : TickOk la now) (k : TickF la now j) : False := by
  unfold TickOk at h
  rcases k with ⟨k, _⟩ | ⟨_, _, k, _⟩ <;> omega
theorem TickF.num {now : Int} {j : Nat} (k : TickF la now j) : j = 1 ∨ j = 7 := by
  rcases k with ⟨_, rfl⟩ | ⟨_, _, _, rfl⟩
  · exact Or.inl rfl
  · exact Or.inr rfl
end
end Go.Proofs.YtfhmfjcpggddkaaGreatDoor

/- The model of flows: Add. -/
namespace Go.Proofs.YtfhmfjcpggddkaaGreatDoor
open Go.RowKit

theorem Tur.put {F : Nat → Prop} {w w' : World} (h : Tur F w w') {x : Nat} (k : Nat) (hx : F x ∨ w.heap.size ≤ x) (v : Value) : Tur F w (w'.setCell ⟨x, k, none⟩ v) :=
  ⟨h.os, h.tape, h.output, by simpa [World.setCell] using h.size, fun j hj hf => (heap_setCell_other w' ⟨x, k, none⟩ j v (fun e => by
    rcases hx with h1 | h1
    · exact hf (e ▸ h1)
    · have : j = x := e
      omega)).trans (h.block j hj hf)⟩
section
variable {W : World} {m t : Nat} {la : Int} {L : List Lh.Fl} {lv : Value}

end
end Go.Proofs.YtfhmfjcpggddkaaGreatDoor

/- The law's model of a script: a table. -/
namespace Go.Proofs.YtfhmfjcpggddkaaGreatDoor
open Go.RowKit Lh

/-- 'out = append(out, s)' of a row of texts of one's own, in a region that draws. -/
theorem step_append_tx {ops : Array Oper} {o : Oper} {a : Act} {K : Act → World → Prop} {Q : Exit → Act → World → Prop} {E : Prop} {W : World} (w2 : World) (s : ByteArray) (base : Nat) (hgd : o.guard = none) (so xo : Operand)
    (ho : o.op = .call { callee := .builtin .append, args := #[so, xo], argTypes := #[22, 22] }) (hW : W = w2.alloc (.cells #[.string s] 9))
    (v : Value) (ls : List ByteArray) (n : Nat) (hn : ls.length = n) (hs : a.eval so = v) (hx : a.eval xo = .slice (some ⟨w2.heap.size, 0, none⟩) 1 1) (hown : w2.ownsRow base 9 1 v n (ls.map Value.string)) (hl : n ≤ 100000) (hd : base ≤ w2.heap.size)
    (h : ∀ g cap w', w'.ownsRow base 9 1 (.slice (some ⟨g, 0, none⟩) (n + 1) cap) (n + 1) ((ls ++ [s]).map Value.string) → W.grownBy w' v.ownBlock → (v.ownBlock = some g ∨ g = w2.heap.size + 1) → K (a.put o.dst (.slice (some ⟨g, 0, none⟩) (n + 1) cap)) w') :
    if Region.wanted o (yielded ops a.tmps) = true then Oper.wp Tryz.prog o a W K Q else E := by
  subst hn
  obtain ⟨i, hi, hz0, hz1, hz2⟩ := info_parts infoS
  have hsz : W.heap.size = w2.heap.size + 1 := by rw [hW]; simp
  have hnews : ∀ j u, [Value.string s][j]? = some u → W.cell? ((⟨w2.heap.size, 0, none⟩ : Addr).add j) = some u := fun j u hu => by
    match j with
    | 0 => simp at hu; subst hu; rw [hW]; simp [Addr.add]
    | j + 1 => simp at hu
  refine step_append_lies W hgd so xo 22 ho base 9 i _ 1 16 Tryz.underlying22 hi hz0 hz1 hz2 rfl (by decide) v ls.length (ls.map Value.string) hs (by rw [hW]; exact hown.alloc _) ⟨w2.heap.size, 0, none⟩ 1 1 [.string s] hx rfl hnews (fun u hu => by simp at hu; subst hu; rfl) (by decide) (by unfold maxLen; omega) (by omega) (by omega) (w2.heap.size + 1) hsz ?_
  intro g cp w1 hown1 hgr hat _
  exact h g cp w1 (by rw [List.map_append]; exact hown1) hgr hat
/-- the names of a table's slots -/
def slotsT (xs : List ByteArray) (n : Nat) : List ByteArray := (tab xs n n).map fun i => nameAt xs i.toNat
theorem slotsT_tx (xs : List ByteArray) (n : Nat) : (slotsT xs n).map tx = (tab xs n n).map fun i => tx (nameAt xs i.toNat) := by simp [slotsT]
theorem slotsT_len (xs : List ByteArray) (n : Nat) : (slotsT xs n).length = n := by simp [slotsT, tab_length]
theorem slotsT_get {xs : List ByteArray} {n j k : Nat} (hk : k < (slotsT xs n).length) (hj : j < xs.length) (h : (tab xs n n).getD k 0 = (j : Nat)) : (slotsT xs n)[k] = xs[j] := by
  have hk' : k < (tab xs n n).length := by simpa [slotsT] using hk
  have h1 : (tab xs n n)[k] = (j : Nat) := by
    rw [List.getD_eq_getElem?_getD, List.getElem?_eq_getElem hk', Option.getD_some] at h
    exact h
  simp only [slotsT, List.getElem_map, h1]
  rw [← nameAt_lt hj]
  rfl
/-- what a loop over a table has made -/
structure TabL (wa W : World) (v : Value) (k : Nat) (ns : List ByteArray) : Prop where
  b : Below wa.heap.size wa W
  own : W.ownsRow wa.heap.size 9 1 v k ((ns.take k).map Value.string)
end Go.Proofs.YtfhmfjcpggddkaaGreatDoor

/- The law's model of a script: answers of flows, of an export, of hosts alone. -/
namespace Go.Proofs.YtfhmfjcpggddkaaGreatDoor
open Go.RowKit Lh

def flowB (x : Fl) : ByteArray := bt (decL x.1) ++ ⟨#[32]⟩ ++ x.2.1
theorem flowB_tx (x : Fl) : tx (flowB x) = flowT x := by
  have e : flowB x = bt (flowT x) := by
    unfold flowB flowT
    have e1 : (⟨#[32]⟩ : ByteArray) = bt [32] := rfl
    have e2 : x.2.1 = bt (tx x.2.1) := (bt_back _).symm
    rw [e1]
    conv => lhs; arg 2; rw [e2]
    rw [bt_append, bt_append]
    simp
  rw [e]
  rfl
theorem flowsB_tx (L : List Fl) : (L.map flowB).map tx = L.map flowT := by
  rw [List.map_map]
  exact List.map_congr_left fun x _ => flowB_tx x
theorem decB_size {k : Nat} (h : k ≤ 9999999) : (bt (decL k)).size ≤ 7 := by
  rw [bt_size]
  exact decL_len (by decide) (by omega)
end Go.Proofs.YtfhmfjcpggddkaaGreatDoor

/- The law's model of a script: an answer to any command. -/
namespace Go.Proofs.YtfhmfjcpggddkaaGreatDoor
open Go.RowKit Lh

theorem len_two {l : List Nat} (h : l.length = 2) : ∃ k z, l = [k, z] := by
  match l, h with
  | [k, z], _ => exact ⟨k, z, rfl⟩
end Go.Proofs.YtfhmfjcpggddkaaGreatDoor

/- The landed script: jumps, moves. -/
namespace Go.Proofs.YtfhmfjcpggddkaaGreatDoor
open Go.RowKit Lh

theorem errIs_nil {a : Nat → Addr} {W : World} : ErrIs a W 0 (-1) .nilIface := Or.inl ⟨rfl, rfl, rfl⟩
theorem ansE_is {a : Nat → Addr} {W' : World} {c : Nat} {pl : Int} {ev : Value} {ans : List UInt8} {tv : ByteArray} (h : ErrIs a W' c pl ev) (hc : c ≤ 9) (h7 : c ≠ 7) (h9 : c ≠ 9) (ht : c = 0 → tv = bt ans) : AnsE a W' (if c = 0 then ans else errT c) (.returned (.tuple #[.string tv, ev])) := by
  by_cases h0 : c = 0
  · rw [if_pos h0]
    exact ⟨tv, ev, c, pl, rfl, h, Or.inl ⟨h0, ht h0⟩⟩
  · rw [if_neg h0]
    exact ⟨tv, ev, c, pl, rfl, h, Or.inr ⟨h0, rfl, errTold hc h7 h9⟩⟩
theorem tabFault_told {xs : List ByteArray} {n : Int} {c : Nat} {pl : Int} (h : TabFault xs n c pl) : c ≠ 7 ∧ c ≠ 9 := by
  rcases h with ⟨_, rfl, _⟩ | ⟨_, h, _⟩ | ⟨_, _, h, _⟩
  · decide
  · exact isFault_told h
  · rcases h with ⟨_, rfl⟩ | ⟨m, _, _, _, ⟨_, rfl⟩ | ⟨_, rfl⟩⟩ <;> decide
/-- jump.Bucket, whatever is asked -/
theorem bucketU (a : Nat → Addr) (k n : Nat) (w : World) (he : Errs1 a w) :
    Calls Tryz.prog 44 #[.int .u64 (k : Nat), .int .i64 (n : Nat)] w fun e w' => ∃ (nn c : Nat) (ev : Value), e = .returned (.tuple #[.int .i64 (nn : Nat), ev]) ∧ nn ≤ 9223372036854775807 ∧ (ErrIs a w' c (-1) ev ∧ ((¬ (1 ≤ n ∧ n ≤ 1048576) ∧ c = 2) ∨ ((1 ≤ n ∧ n ≤ 1048576) ∧ c = 0 ∧ nn = jb k n))) ∧ Below w.heap.size w w' := by
  by_cases h : 1 ≤ n ∧ n ≤ 1048576
  · refine (bucket_good k n w h.1 h.2).mono fun _ _ ⟨r1, r2⟩ => ⟨_, 0, _, r1, ?_, ⟨errIs_nil, Or.inr ⟨h, rfl, rfl⟩⟩, r2⟩
    have := jb_lt (k := k) h.1
    omega
  · exact (bucket_bad a k (n : Int) w he (by omega)).mono fun _ _ ⟨r1, r2⟩ => ⟨0, 2, _, r1, by decide, ⟨Or.inr ⟨1, by decide, rfl, Or.inl ⟨rfl, rfl⟩⟩, Or.inl ⟨h, rfl⟩⟩, r2⟩
set_option maxHeartbeats 4000000 in
set_option maxRecDepth 100000 in
theorem cl_jump (w0 : World) (a : Nat → Addr) (p q m : Nat) (F : Nat → Prop) (st : Option Sc) (nb cn k n : Nat) (vh : Value) (W : World) (hP : PlC w0 a p q m F W) (hI : PlIs st F p W) (hst : ∀ S, st = some S → S.hosts ≠ []) (hvh : ∃ x n c, vh = .slice x n c) (hk : W.cell? ⟨nb, 0, none⟩ = some (.int .i64 (k : Nat))) (hk2 : W.cell? ⟨nb, 1, none⟩ = some (.int .i64 (n : Nat))) (hk9 : k ≤ 9999999) :
    Calls Tryz.prog 43 #[.agg #[.slice (some ⟨nb, 0, none⟩) 2 cn, vh]] W (CmdE w0 a p q m F st ⟨wJump, [], [k, n]⟩ W) := by
  obtain ⟨vx, vl, vc, rfl⟩ := hvh
  have hpF : ¬ F p := fun h => (hP.F0 p h).2.1 rfl
  obtain ⟨wa, hwa⟩ : ∃ wa, wa = W.alloc (.cells #[.slice (some ⟨nb, 0, none⟩) 2 cn, .slice vx vl vc] 83) := ⟨_, rfl⟩
  have hba : Below W.heap.size W wa := by rw [hwa]; exact (Below.refl _ _).alloc (Nat.le_refl _) _
  have hPa := hP.later hba
  have hIa := hI.later hpF hst hba
  have k0 : wa.cell? ⟨W.heap.size, 0, none⟩ = some (.slice (some ⟨nb, 0, none⟩) 2 cn) := by rw [hwa]; simp
  have n0 := below_cell hba hk
  have n1 := below_cell hba hk2
  have hbd : Below wa.heap.size wa wa.drew := below_drewN (Below.refl _ _) 1
  have hwr : IntKind.u64.wrap (k : Int) = (k : Int) := by
    rw [IntKind.wrap_u64]
    omega
  have HC : Hid (∀ w', Below wa.heap.size wa w' → w'.cell? ⟨W.heap.size, 0, none⟩ = some (.slice (some ⟨nb, 0, none⟩) 2 cn) ∧ w'.cell? ⟨nb, 0, none⟩ = some (.int .i64 (k : Nat)) ∧ w'.cell? ⟨nb, 1, none⟩ = some (.int .i64 (n : Nat))) := fun w' hb => ⟨below_cell hb k0, below_cell hb n0, below_cell hb n1⟩
  have hcal : ∀ w', Below wa.heap.size wa w' → Calls Tryz.prog 44 #[.int .u64 (k : Nat), .int .i64 (n : Nat)] w' fun e w'' => ∃ (nn c : Nat) (ev : Value), e = .returned (.tuple #[.int .i64 (nn : Nat), ev]) ∧ (nn ≤ 9223372036854775807 ∧ ErrIs a w'' c (-1) ev ∧ ((¬ (1 ≤ n ∧ n ≤ 1048576) ∧ c = 2) ∨ ((1 ≤ n ∧ n ≤ 1048576) ∧ c = 0 ∧ nn = jb k n))) ∧ Below wa.heap.size wa w'' := fun w' hbl => (bucketU a k n w' ⟨(hPa.ea.b.e5.later hbl).s1⟩).mono fun _ _ ⟨nn, c, ev, r1, r2, ⟨r3, r4⟩, r5⟩ => ⟨nn, c, ev, r1, ⟨r2, r3, r4⟩, below_then hbl r5⟩
  have hdig : ∀ w' nn c ev, Below wa.heap.size wa w' → (nn ≤ 9223372036854775807 ∧ ErrIs a w' c (-1) ev ∧ ((¬ (1 ≤ n ∧ n ≤ 1048576) ∧ c = 2) ∨ ((1 ≤ n ∧ n ≤ 1048576) ∧ c = 0 ∧ nn = jb k n))) → Calls Tryz.prog 36 #[.int .i64 (nn : Nat), ev] w' fun e w'' => ∃ tv, e = .returned (.tuple #[.string tv, ev]) ∧ CmdE w0 a p q m F st ⟨wJump, [], [k, n]⟩ W (.returned (.tuple #[.string tv, ev])) w'' ∧ Below wa.heap.size wa w'' := fun w' nn c ev hbl ⟨h1, h2, h3⟩ => (digits_any nn h1 ev w' (hPa.ea.c.later hbl)).mono fun _ w'' ⟨r1, r2⟩ => by
    have hb := below_then hbl r2
    refine ⟨_, r1, ⟨st, F, if c = 0 then decL nn else errT c, Or.inr (Or.inl ⟨rfl, rfl, k, n, rfl, ?_⟩), ansE_is (h2.later r2) (by omega) (by omega) (by omega) (fun _ => rfl), hPa.later hb, hIa.later hpF hst hb, fun b h => Or.inl h, Tur.of_below (below_then hba hb)⟩, hb⟩
    rcases h3 with ⟨q1, rfl⟩ | ⟨q1, rfl, rfl⟩
    · exact Or.inl ⟨q1, rfl⟩
    · exact Or.inr ⟨q1, rfl⟩
  clear hP hI hPa hIa hba hk hk2
  go_enter Tryz.func43, Tryz.ntmps43
  go_wp2_with fail
  rw [← hwa]
  clear hwa
  go_region_held3 (fun w' => w'.cell? ⟨W.heap.size, 0, none⟩ = some (.slice (some ⟨nb, 0, none⟩) 2 cn) ∧ w'.cell? ⟨nb, 0, none⟩ = some (.int .i64 (k : Nat)) ∧ w'.cell? ⟨nb, 1, none⟩ = some (.int .i64 (n : Nat)))
    (first | exact HC.out _ (by assumption))
    (first
      | (go_at_call 44; refine (hcal _ (by assumption)).mono ?_; rintro e w1 ⟨nn, c, ev, rfl, hE1, hb1⟩)
      | (go_at_call 36; refine (hdig _ _ _ _ hb1 hE1).mono ?_; rintro e w2 ⟨tv, rfl, hE2, hb2⟩))
  have HE2 : Hid (CmdE w0 a p q m F st ⟨wJump, [], [k, n]⟩ W (.returned (.tuple #[.string tv, ev])) w2) := hE2
  clear hE2 hE1 hcal hdig HC
  go_wp2
  go_ret2
  exact HE2.out
end Go.Proofs.YtfhmfjcpggddkaaGreatDoor

/- The landed script: moves, rivals. -/
namespace Go.Proofs.YtfhmfjcpggddkaaGreatDoor
open Go.RowKit Lh

/-- what moves answer -/
def MovR (xs ys : List ByteArray) (k nn c : Nat) : Prop := ∃ e1 p1 e2 p2, TabFault xs (k : Nat) e1 p1 ∧ TabFault ys (k : Nat) e2 p2 ∧ ((e1 ≠ 0 ∧ c = e1) ∨ (e1 = 0 ∧ e2 ≠ 0 ∧ c = e2) ∨ (e1 = 0 ∧ e2 = 0 ∧ c = 0 ∧ nn = mv xs ys k k))
theorem movesU (a : Nat → Addr) (va vb : Value) (xs ys : List ByteArray) (k : Nat) (w : World) (he : Errs5 a w) (hv : Strs1 w va xs) (hv2 : Strs1 w vb ys) (hx : ∀ s ∈ xs, s.size ≤ 300) (hy : ∀ s ∈ ys, s.size ≤ 300) (hxl : xs.length < 1000000) (hyl : ys.length < 1000000) (hk : k ≤ 9999999) :
    Calls Tryz.prog 37 #[va, vb, .int .i64 (k : Nat)] w fun e w' => ∃ (nn c : Nat) (ev : Value), e = .returned (.tuple #[.int .i64 (nn : Nat), ev]) ∧ (nn ≤ 9223372036854775807 ∧ (∃ pl, ErrIs a w' c pl ev) ∧ c ≤ 9 ∧ c ≠ 7 ∧ c ≠ 9 ∧ MovR xs ys k nn c) ∧ Below w.heap.size w w' := by
  have hx3 : ∀ i (h : i < xs.length), (xs[i]).size ≤ 300 := fun i h => hx _ (List.getElem_mem h)
  have hy3 : ∀ i (h : i < ys.length), (ys[i]).size ≤ 300 := fun i h => hy _ (List.getElem_mem h)
  obtain ⟨e1, p1, hf1⟩ := tabFault_ex xs (k : Nat)
  obtain ⟨e2, p2, hf2⟩ := tabFault_ex ys (k : Nat)
  by_cases he1 : e1 = 0
  · subst he1
    obtain ⟨hp1, h0, hq1, kk, hkk, hpr, h2, h5⟩ := tabFault_zero hf1
    subst hp1
    have hkk' : k = kk := by omega
    subst hkk'
    by_cases he2 : e2 = 0
    · subst he2
      obtain ⟨hp2, h0', hq2, _⟩ := tabFault_zero hf2
      subst hp2
      exact (moves_good5 a va vb xs ys k w he hv hv2 h0 h0' hq1 hq2 hpr h5 hx3 hy3).mono fun _ _ ⟨r1, r2⟩ => ⟨_, 0, _, r1, ⟨by have := mv_le xs ys k k; omega, ⟨-1, errIs_nil⟩, by decide, by decide, by decide, 0, -1, 0, -1, hf1, hf2, Or.inr (Or.inr ⟨rfl, rfl, rfl, rfl⟩)⟩, r2⟩
    · exact (moves_bad25 a va vb xs ys k w e2 p2 he hv hv2 h0 hq1 hpr h5 hx3 hf2 he2 (fun i h => Nat.le_trans (hy3 i h) (by decide)) hyl).mono fun _ _ ⟨ev, r1, r2, r3⟩ => ⟨0, e2, ev, r1, ⟨by decide, ⟨p2, r2⟩, tabFault_le hf2, (tabFault_told hf2).1, (tabFault_told hf2).2, 0, -1, e2, p2, hf1, hf2, Or.inr (Or.inl ⟨rfl, he2, rfl⟩)⟩, r3⟩
  · exact (moves_bad15 a va vb xs k w e1 p1 he hv hf1 he1 (by omega) (fun i h => Nat.le_trans (hx3 i h) (by decide)) hxl).mono fun _ _ ⟨ev, r1, r2, r3⟩ => ⟨0, e1, ev, r1, ⟨by decide, ⟨p1, r2⟩, tabFault_le hf1, (tabFault_told hf1).1, (tabFault_told hf1).2, e1, p1, e2, p2, hf1, hf2, Or.inl ⟨he1, rfl⟩⟩, r3⟩
theorem askR_moves {xs H : List ByteArray} {k nn c : Nat} (h : MovR xs H k nn c) : AskR xs ⟨wMoves, H, [k]⟩ (if c = 0 then decL nn else errT c) := by
  obtain ⟨e1, p1, e2, p2, h1, h2, h3⟩ := h
  refine Or.inr (Or.inl ⟨rfl, k, e1, p1, e2, p2, rfl, h1, h2, ?_⟩)
  rcases h3 with ⟨q1, rfl⟩ | ⟨q1, q2, rfl⟩ | ⟨q1, q2, rfl, rfl⟩
  · exact Or.inl ⟨q1, by rw [if_neg q1]⟩
  · exact Or.inr (Or.inl ⟨q1, q2, by rw [if_neg q2]⟩)
  · exact Or.inr (Or.inr ⟨q1, q2, by rw [if_pos rfl]⟩)
set_option maxHeartbeats 4000000 in
set_option maxRecDepth 100000 in
theorem cl_moves (w0 W : World) (a : Nat → Addr) (p q m : Nat) (F : Nat → Prop) (S : Sc) (r g cap j : Nat) (hP : PlC w0 a p q m F W) (hY : PlY S F p r g cap W) (hS : SB S j) (nb cn hb ch k : Nat) (H : List ByteArray) (hk : W.cell? ⟨nb, 0, none⟩ = some (.int .i64 (k : Nat))) (hk9 : k ≤ 9999999) (hh : ∀ i (hi : i < H.length), W.cell? ⟨hb, i, none⟩ = some (.string H[i])) (hc : H.length ≤ ch) (hl : H.length < 1000000) (hs : ∀ s ∈ H, s.size ≤ 300) :
    Calls Tryz.prog 35 #[.agg #[.slice (some ⟨nb, 0, none⟩) 1 cn, .slice (some ⟨hb, 0, none⟩) H.length ch], .pointer (some ⟨q, 0, none⟩)] W (CmdE w0 a p q m F (some S) ⟨wMoves, H, [k]⟩ W) := by
  have hn := hS.ok.ne
  have hpF : ¬ F p := fun h => (hP.F0 p h).2.1 rfl
  obtain ⟨wa, hwa⟩ : ∃ wa, wa = W.alloc (.cells #[.slice (some ⟨nb, 0, none⟩) 1 cn, .slice (some ⟨hb, 0, none⟩) H.length ch] 83) := ⟨_, rfl⟩
  have hba : Below W.heap.size W wa := by rw [hwa]; exact (Below.refl _ _).alloc (Nat.le_refl _) _
  have hPa := hP.later hba
  have hYa := hY.later hpF hn hba
  have HBA : Hid (Below W.heap.size W wa) := hba
  have k0 : wa.cell? ⟨W.heap.size, 0, none⟩ = some (.slice (some ⟨nb, 0, none⟩) 1 cn) := by rw [hwa]; simp
  have k1 : wa.cell? ⟨W.heap.size, 1, none⟩ = some (.slice (some ⟨hb, 0, none⟩) H.length ch) := by rw [hwa]; simp
  have kq := hPa.q0
  have c0 := hYa.c0
  have c1 := hYa.c1
  have c2 := hYa.c2
  have hbd : Below wa.heap.size wa wa.drew := below_drewN (Below.refl _ _) 1
  have hlF : ¬ F W.heap.size := fun h => absurd (hY.rep.lt _ h) (Nat.lt_irrefl _)
  have hqF : ¬ F q := fun h => (hP.F0 q h).2.2.1 rfl
  have nk := below_cell hba hk
  have hv2 : Strs1 wa (.slice (some ⟨hb, 0, none⟩) H.length ch) H := Or.inr ⟨hb, 0, ch, rfl, hc, fun i hi => by rw [Nat.zero_add]; exact below_cell hba (hh i hi)⟩
  have hff := fault_facts hS.ok.f
  have HC : Hid (∀ w', Below wa.heap.size wa w' → w'.cell? ⟨q, 0, none⟩ = some (.pointer (some ⟨p, 0, none⟩)) ∧ w'.cell? ⟨p, 1, none⟩ = some (.slice (some ⟨g, 0, none⟩) S.hosts.length cap) ∧ w'.cell? ⟨W.heap.size, 0, none⟩ = some (.slice (some ⟨nb, 0, none⟩) 1 cn) ∧ w'.cell? ⟨W.heap.size, 1, none⟩ = some (.slice (some ⟨hb, 0, none⟩) H.length ch) ∧ w'.cell? ⟨nb, 0, none⟩ = some (.int .i64 (k : Nat))) := fun w' hB => ⟨below_cell hB kq, below_cell hB c1, below_cell hB k0, below_cell hB k1, below_cell hB nk⟩
  have hcal : ∀ w', Below wa.heap.size wa w' → Calls Tryz.prog 37 #[.slice (some ⟨g, 0, none⟩) S.hosts.length cap, .slice (some ⟨hb, 0, none⟩) H.length ch, .int .i64 (k : Nat)] w' fun e w'' => ∃ (nn c : Nat) (ev : Value), e = .returned (.tuple #[.int .i64 (nn : Nat), ev]) ∧ (nn ≤ 9223372036854775807 ∧ (∃ pl, ErrIs a w'' c pl ev) ∧ c ≤ 9 ∧ c ≠ 7 ∧ c ≠ 9 ∧ MovR S.hosts H k nn c) ∧ Below wa.heap.size wa w'' := fun w' hbl => (movesU a _ _ S.hosts H k w' (hPa.ea.b.e5.later hbl) (hYa.strs.later hbl) (hv2.later hbl) hff.2.2.2 hs (by omega) hl hk9).mono fun _ _ ⟨nn, c, ev, r1, r2, r3⟩ => ⟨nn, c, ev, r1, r2, below_then hbl r3⟩
  have hdig : ∀ w' nn c ev, Below wa.heap.size wa w' → (nn ≤ 9223372036854775807 ∧ (∃ pl, ErrIs a w' c pl ev) ∧ c ≤ 9 ∧ c ≠ 7 ∧ c ≠ 9 ∧ MovR S.hosts H k nn c) → Calls Tryz.prog 36 #[.int .i64 (nn : Nat), ev] w' fun e w'' => ∃ tv, e = .returned (.tuple #[.string tv, ev]) ∧ CmdE w0 a p q m F (some S) ⟨wMoves, H, [k]⟩ W (.returned (.tuple #[.string tv, ev])) w'' ∧ Below wa.heap.size wa w'' := fun w' nn c ev hbl ⟨h1, ⟨pl, h2⟩, h3, h4, h5, h6⟩ => (digits_any nn h1 ev w' (hPa.ea.c.later hbl)).mono fun _ w'' ⟨r1, r2⟩ => by
    have hbb := below_then hbl r2
    obtain ⟨z1, z2, z3, z4⟩ := cmd_below hP hY hn (below_then hba hbb)
    exact ⟨_, r1, ⟨some S, F, if c = 0 then decL nn else errT c, Or.inr (Or.inr (Or.inr ⟨show wMoves ≠ wHosts by decide, show wMoves ≠ wJump by decide, S, rfl, Or.inr ⟨askR_moves h6, rfl⟩⟩)), ansE_is (h2.later r2) h3 h4 h5 (fun _ => rfl), z1, z2, z3, z4⟩, hbb⟩
  clear hP hY hPa hYa hS hba hk hlF hqF c0 c2 hv2 hh hs hff
  go_enter Tryz.func35, Tryz.ntmps35
  go_wp2_with fail
  rw [← hwa]
  clear hwa
  go_region_held3 (fun w' => w'.cell? ⟨q, 0, none⟩ = some (.pointer (some ⟨p, 0, none⟩)) ∧ w'.cell? ⟨p, 1, none⟩ = some (.slice (some ⟨g, 0, none⟩) S.hosts.length cap) ∧ w'.cell? ⟨W.heap.size, 0, none⟩ = some (.slice (some ⟨nb, 0, none⟩) 1 cn) ∧ w'.cell? ⟨W.heap.size, 1, none⟩ = some (.slice (some ⟨hb, 0, none⟩) H.length ch) ∧ w'.cell? ⟨nb, 0, none⟩ = some (.int .i64 (k : Nat)))
    (first | exact HC.out _ (by assumption))
    (first
      | (go_at_call 37; refine (hcal _ (by assumption)).mono ?_; rintro e w1 ⟨nn, c, ev, rfl, hE1, hb1⟩)
      | (go_at_call 36; refine (hdig _ _ _ _ hb1 hE1).mono ?_; rintro e w2 ⟨tv, rfl, hE2, hb2⟩))
  have HE2 : Hid (CmdE w0 a p q m F (some S) ⟨wMoves, H, [k]⟩ W (.returned (.tuple #[.string tv, ev])) w2) := hE2
  clear hE2 hE1 hcal hdig HC
  go_wp2
  go_ret2
  exact HE2.out

set_option maxHeartbeats 4000000 in
set_option maxRecDepth 100000 in
theorem cl_rival (w0 W : World) (a : Nat → Addr) (p q m : Nat) (F : Nat → Prop) (S : Sc) (r g cap j : Nat) (hP : PlC w0 a p q m F W) (hY : PlY S F p r g cap W) (hS : SB S j) (nb cn k : Nat) (vh : Value) (hk : W.cell? ⟨nb, 0, none⟩ = some (.int .i64 (k : Nat))) (hk9 : k ≤ 9999999) (hvh : ∃ x n c, vh = .slice x n c) :
    Calls Tryz.prog 40 #[.agg #[.slice (some ⟨nb, 0, none⟩) 1 cn, vh], .pointer (some ⟨q, 0, none⟩)] W (CmdE w0 a p q m F (some S) ⟨wRival, [], [k]⟩ W) := by
  obtain ⟨vx, vl, vc, rfl⟩ := hvh
  have hn := hS.ok.ne
  have hpF : ¬ F p := fun h => (hP.F0 p h).2.1 rfl
  obtain ⟨wa, hwa⟩ : ∃ wa, wa = W.alloc (.cells #[.slice (some ⟨nb, 0, none⟩) 1 cn, .slice vx vl vc] 83) := ⟨_, rfl⟩
  have hba : Below W.heap.size W wa := by rw [hwa]; exact (Below.refl _ _).alloc (Nat.le_refl _) _
  have hPa := hP.later hba
  have hYa := hY.later hpF hn hba
  have HBA : Hid (Below W.heap.size W wa) := hba
  have k0 : wa.cell? ⟨W.heap.size, 0, none⟩ = some (.slice (some ⟨nb, 0, none⟩) 1 cn) := by rw [hwa]; simp
  have k1 : wa.cell? ⟨W.heap.size, 1, none⟩ = some (.slice vx vl vc) := by rw [hwa]; simp
  have kq := hPa.q0
  have c0 := hYa.c0
  have c1 := hYa.c1
  have c2 := hYa.c2
  have hbd : Below wa.heap.size wa wa.drew := below_drewN (Below.refl _ _) 1
  have hlF : ¬ F W.heap.size := fun h => absurd (hY.rep.lt _ h) (Nat.lt_irrefl _)
  have hqF : ¬ F q := fun h => (hP.F0 q h).2.2.1 rfl
  have nk := below_cell hba hk
  have hwr : IntKind.u64.wrap (k : Int) = (k : Int) := by
    rw [IntKind.wrap_u64]
    omega
  have hff := fault_facts hS.ok.f
  have h0 := List.length_pos_iff.2 hn
  have HC : Hid (∀ w', Below wa.heap.size wa w' → w'.cell? ⟨q, 0, none⟩ = some (.pointer (some ⟨p, 0, none⟩)) ∧ w'.cell? ⟨p, 1, none⟩ = some (.slice (some ⟨g, 0, none⟩) S.hosts.length cap) ∧ w'.cell? ⟨W.heap.size, 0, none⟩ = some (.slice (some ⟨nb, 0, none⟩) 1 cn) ∧ w'.cell? ⟨nb, 0, none⟩ = some (.int .i64 (k : Nat))) := fun w' hB => ⟨below_cell hB kq, below_cell hB c1, below_cell hB k0, below_cell hB nk⟩
  have hcal : ∀ w', Below wa.heap.size wa w' → Calls Tryz.prog 41 #[.slice (some ⟨g, 0, none⟩) S.hosts.length cap, .int .u64 (k : Nat)] w' fun e w'' => ∃ v', e = .returned (.tuple #[v', .nilIface]) ∧ Strs1 w'' v' (order (score k) S.hosts) ∧ Below wa.heap.size wa w'' := fun w' hbl => (order_good a _ S.hosts k (by omega) w' (hPa.ea.e4.later hbl) (hYa.strs.later hbl) h0 hS.ok.f (fun i h => hff.2.2.2 _ (List.getElem_mem h)) (by omega)).mono fun _ _ ⟨v', r1, r2, r3⟩ => ⟨v', r1, r2, below_then hbl r3⟩
  have HJ : Hid (∀ w' v, Below wa.heap.size wa w' → Strs1 w' v (order (score k) S.hosts) → Calls Tryz.prog 42 #[v, .string ⟨#[32]⟩] w' fun e w'' => ∃ tv, e = .returned (.string tv) ∧ CmdE w0 a p q m F (some S) ⟨wRival, [], [k]⟩ W (.returned (.tuple #[.string tv, .nilIface])) w'') := fun w' v hbl hv => (joinT_any v _ ⟨#[32]⟩ w' hv (by rw [order_length]; omega) (fun s hs => Nat.le_trans (hff.2.2.2 s ((order_perm _ _).mem_iff.1 hs)) (by decide)) (by decide)).mono fun _ w'' ⟨r1, r2⟩ => by
    obtain ⟨z1, z2, z3, z4⟩ := cmd_below hP hY hn (below_then hba (below_then hbl r2))
    refine ⟨_, r1, some S, F, _, Or.inr (Or.inr (Or.inr ⟨show wRival ≠ wHosts by decide, show wRival ≠ wJump by decide, S, rfl, Or.inr ⟨Or.inr (Or.inr (Or.inr ⟨rfl, k, rfl, rfl⟩)), rfl⟩⟩)), ansE_ok ?_, z1, z2, z3, z4⟩
    rw [joinL_joinS]
    rfl
  generalize order (score k) S.hosts = os at *
  clear hP hY hPa hYa hS hba hk hlF hqF c0 c2 hff
  go_enter Tryz.func40, Tryz.ntmps40
  go_wp2_with fail
  rw [← hwa]
  clear hwa
  go_region_held3 (fun w' => w'.cell? ⟨q, 0, none⟩ = some (.pointer (some ⟨p, 0, none⟩)) ∧ w'.cell? ⟨p, 1, none⟩ = some (.slice (some ⟨g, 0, none⟩) S.hosts.length cap) ∧ w'.cell? ⟨W.heap.size, 0, none⟩ = some (.slice (some ⟨nb, 0, none⟩) 1 cn) ∧ w'.cell? ⟨nb, 0, none⟩ = some (.int .i64 (k : Nat)))
    (first | exact HC.out _ (by assumption))
    (first
      | (go_at_call 41; refine (hcal _ (by assumption)).mono ?_; rintro e w1 ⟨v, rfl, hv, hb1⟩))
  have hj := HJ.out w1 v hb1 hv
  clear hcal HC HJ hv hb1
  go_wp2_with fail
  refine hj.mono ?_
  rintro e w2 ⟨tv, rfl, hE⟩
  have HE : Hid (CmdE w0 a p q m F (some S) ⟨wRival, [], [k]⟩ W (.returned (.tuple #[.string tv, .nilIface])) w2) := hE
  clear hj hE
  go_wp2
  go_ret2
  exact HE.out
end Go.Proofs.YtfhmfjcpggddkaaGreatDoor
