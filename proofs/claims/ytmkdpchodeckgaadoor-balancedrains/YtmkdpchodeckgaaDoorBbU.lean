/- The landed balance: Up, Has of its health, open. -/
import Derived.Test.YtmkdpchodeckgaaDoorBbR
import Derived.Test.YtmkdpchodeckgaaDoorBbDel
namespace Go.Proofs.YtmkdpchodeckgaaDoor
open Go.RowKit Go.Shelf Go.Maps Go.ChangeMaps

section
variable {W : World} {p f r : Nat} {l : List Lh.Hh} {bs : List Nat} {lv : Value}
set_option maxHeartbeats 1000000 in
/-- Up of a health: a row of the callee's own. -/
theorem upS_row (h : HR W p f r l bs lv) (hl : l.length ≤ 12) :
    Calls Tryd.prog 20 #[.pointer (some ⟨p, 0, none⟩)] W fun e w' => ∃ v, e = .returned v ∧ w'.ownsRow W.heap.size 9 1 v (Lh.hups l).length ((Lh.hups l).map Value.string) ∧ Below W.heap.size W w' := by
  have h1 := those_core 41 entersUp (fun x => x.2.1) h hl fun k hk h2 W' hB => upC _ _ W' (below_cell hB (h.st k hk h2).c1)
  have e : thoseN (fun x => x.2.1) l l.length = Lh.hups l := by
    unfold thoseN Lh.hups
    rw [List.take_length]
  rw [e] at h1
  clear e h
  generalize Lh.hups l = ys at *
  go_enter Tryd.func20, Tryd.ntmps20
  go_wp2_with fail
  refine h1.mono ?_
  rintro e w1 ⟨v, rfl, hv, hb⟩
  clear h1
  have HV : Hid (w1.ownsRow W.heap.size 9 1 v ys.length (ys.map Value.string)) := hv
  clear hv
  go_wp2
  go_ret
  exact ⟨_, rfl, HV.out, hb⟩

set_option maxHeartbeats 1000000 in
/-- Has. -/
theorem hasS_any (h : HR W p f r l bs lv) (hl : l.length ≤ 12) (s : ByteArray) :
    Calls Tryd.prog 18 #[.pointer (some ⟨p, 0, none⟩), .string s] W fun e w' => e = .returned (.bool (decide (Lh.hix l s < l.length))) ∧ Below W.heap.size W w' := by
  by_cases hx : Lh.hix l s < l.length
  · obtain ⟨b, hb⟩ := h.at hx
    have hfd := findS_good h hl s hx hb
    rw [decide_eq_true hx]
    clear h hb hx
    go_enter Tryd.func18, Tryd.ntmps18
    go_wp2_with fail
    refine hfd.mono ?_
    rintro e w1 ⟨rfl, hb1⟩
    clear hfd
    go_wp2
    go_ret
    exact ⟨rfl, hb1⟩
  · have hfd := findS_none h hl s hx
    rw [decide_eq_false hx]
    clear h hx
    go_enter Tryd.func18, Tryd.ntmps18
    go_wp2_with fail
    refine hfd.mono ?_
    rintro e w1 ⟨rfl, hb1⟩
    clear hfd
    go_wp2
    go_ret
    exact ⟨rfl, hb1⟩
end
/-- a row of texts of the callee's own -/
theorem strRow_of {w : World} {base : Nat} {v : Value} {xs : List ByteArray} (h : w.ownsRow base 9 1 v xs.length (xs.map Value.string)) (h0 : 0 < xs.length) : ∃ g cap, v = .slice (some ⟨g, 0, none⟩) xs.length cap ∧ base ≤ g ∧ g < w.heap.size ∧ xs.length ≤ cap ∧ cap ≤ maxLen ∧ (∀ k (h : k < xs.length), w.cell? ⟨g, k, none⟩ = some (.string xs[k])) ∧ ∀ k, w.frozen? ⟨g, k, none⟩ = false := by
  obtain ⟨hl, ⟨rfl, h'⟩ | ⟨g, cap, cur, rfl, hbase, hb, hn, hm, hsz, ht⟩⟩ := h
  · omega
  · refine ⟨g, cap, rfl, hbase, (Array.getElem?_eq_some_iff.1 hb).1, hn, hm, fun k hk => ?_, fun k => by simp [World.frozen?, hb]⟩
    have h1 : (xs.map Value.string)[k]? = some (.string xs[k]) := by simp [hk]
    rw [← ht, List.getElem?_take_of_lt (by omega)] at h1
    simp only [World.cell?, hb]
    simpa using h1

set_option maxHeartbeats 2000000 in
/-- the function handed to slices.DeleteFunc -/
theorem openC (hb p db n : Nat) (D : DataW Unit) (s : ByteArray) (W : World) (h1 : W.cell? ⟨hb, 0, none⟩ = some (.pointer (some ⟨p, 0, none⟩))) (c1 : W.cell? ⟨p, 1, none⟩ = some (.map (some db))) (hown : W.ownsMap Tryd.prog 9 unitElem db n D) (hs : s.size ≤ 300) {q : Bool} (hD : has D (.string s.data.toList) = q) :
    Calls Tryd.prog 49 #[.string s, .pointer (some ⟨hb, 0, none⟩)] W fun e w' => e = .returned (.bool q) ∧ Below W.heap.size W w' := by
  have hkey := fkeyS s hs
  go_enter Tryd.func49, Tryd.ntmps49
  go_wp2_with (at_lookup; refine wpList_lookup_own_unit _ rfl _ _ 48 rfl 9 55 (string_keyed Tryd.underlying9) Tryd.underlying48 (Tryd.zeroValue55 _) db n D rfl hown _ _ rfl hkey ?_; rw [hD])
  go_ret
  exact ⟨rfl, (Below.refl _ _).alloc (Nat.le_refl _) _⟩
theorem entersOp : ∀ args w, (callFunc 49 args).run Tryd.prog w = .ok (.enter 49 args) w := enters_of Tryd.func49 (by kernel_rfl) rfl

set_option maxHeartbeats 1000000 in
/-- slices.DeleteFunc of no texts -/
theorem deleteT_nil (fn : Nat) (eg : ∀ args w, (callFunc fn args).run Tryd.prog w = .ok (.enter fn args) w) (bx : Value) (pv : Option Addr) (c : Nat) (W : World) :
    Calls Tryd.prog 48 #[.slice pv 0 c, .func (.func fn) #[] #[bx]] W fun e w' => e = .returned (.slice pv 0 c) ∧ Below W.heap.size W w' := by
  have hix := indexT_core fn eg bx (fun _ => false) pv c [] W (by simp) (fun k h => absurd h (by simp)) (fun W' k h => absurd h (by simp))
  simp only [List.length_nil] at hix
  go_enter Tryd.func48, Tryd.ntmps48
  go_wp2_with fail
  refine hix.mono ?_
  rintro e w1 ⟨hb1, ⟨_, rfl⟩ | ⟨i0, hi0, _⟩⟩
  case inr => exact absurd hi0 (by omega)
  clear hix
  go_wp2
  go_ret
  exact ⟨rfl, hb1⟩

section
variable {W W' : World} {p hp fp fm db : Nat} {bs : List Nat} {lv : Value} {S : Lh.Bl}
set_option maxHeartbeats 1000000 in
/-- Up. -/
theorem upB (h : BR W p hp fp fm db bs lv S) (hl : S.hs.length ≤ 12) :
    Calls Tryd.prog 10 #[.pointer (some ⟨p, 0, none⟩)] W fun e w' => ∃ v, e = .returned v ∧ w'.ownsRow W.heap.size 9 1 v (Lh.hups S.hs).length ((Lh.hups S.hs).map Value.string) ∧ Below W.heap.size W w' := by
  have h1 := upS_row h.h hl
  have c0 := h.c0
  clear h
  generalize Lh.hups S.hs = ys at *
  go_enter Tryd.func10, Tryd.ntmps10
  go_wp2_with fail
  refine h1.mono ?_
  rintro e w1 ⟨v, rfl, hv, hb⟩
  have HV : Hid (w1.ownsRow W.heap.size 9 1 v ys.length (ys.map Value.string)) := hv
  clear h1 hv
  go_wp2
  go_ret
  exact ⟨_, rfl, HV.out, hb⟩

/-- is one drained? -/
def drq (S : Lh.Bl) (s : ByteArray) : Bool := S.dr.any fun x => decide (x = s)
theorem drq_mem (S : Lh.Bl) (s : ByteArray) : decide (s ∈ S.dr) = drq S s := by
  unfold drq
  by_cases hm : s ∈ S.dr
  · rw [decide_eq_true hm]
    exact (List.any_eq_true.2 ⟨s, hm, by simp⟩).symm
  · rw [decide_eq_false hm]
    refine (List.any_eq_false.2 fun x hx => ?_).symm
    intro e
    have e' : x = s := by simpa using e
    exact hm (e' ▸ hx)
theorem drq_open (S : Lh.Bl) : fl (drq S) (Lh.hups S.hs) = Lh.bopen S := rfl

set_option maxRecDepth 100000 in
set_option maxHeartbeats 2000000 in
/-- open. -/
theorem openB (h : BR W p hp fp fm db bs lv S) (hk : Lh.BOk S) :
    Calls Tryd.prog 29 #[.pointer (some ⟨p, 0, none⟩)] W fun e w' => ∃ v, e = .returned v ∧ Strs1 w' v (Lh.bopen S) ∧ Below W.heap.size W w' := by
  have hb1 : Below W.heap.size W (W.alloc (.cells #[.pointer (some ⟨p, 0, none⟩)] 25)) := (Below.refl _ _).alloc (Nat.le_refl _) _
  have h1 := upB (h.later hb1) hk.h.len
  have HH : Hid (BR W p hp fp fm db bs lv S) := h
  have HK : Hid (Lh.BOk S) := hk
  have hul : (Lh.hups S.hs).length ≤ 12 := by
    unfold Lh.hups
    rw [List.length_map]
    exact Nat.le_trans (List.length_filter_le _ _) hk.h.len
  clear h hk
  have hsz : W.heap.size < (W.alloc (.cells #[.pointer (some ⟨p, 0, none⟩)] 25)).heap.size := by simp
  go_enter Tryd.func29, Tryd.ntmps29
  go_wp2_with fail
  refine h1.mono ?_
  rintro e w1 ⟨v, rfl, hv, hb2⟩
  clear h1
  have hb3 := below_then hb1 hb2
  have cb : w1.cell? ⟨W.heap.size, 0, none⟩ = some (.pointer (some ⟨p, 0, none⟩)) := below_cell hb2 (by simp)
  by_cases h0 : 0 < (Lh.hups S.hs).length
  · obtain ⟨g, cap, rfl, hg0, hg1, hcap, hcm, hcell, hfz⟩ := strRow_of hv h0
    have hBR := HH.out.later hb3
    obtain ⟨D, hown, hset⟩ := hBR.d
    have hwl := hb3.size
    have hw2 := hb2.size
    have hpl := HH.out.plt
    have hdl := HH.out.dlt
    have hdel := deleteT 49 entersOp (.pointer (some ⟨W.heap.size, 0, none⟩)) (drq S) g cap (Lh.hups S.hs) w1 (by omega) hcap hcm hg1 hcell hfz (fun W' k hk hT => by
      have hm : (Lh.hups S.hs)[k] ∈ Lh.hups S.hs := List.getElem_mem hk
      have hup := Lh.hup_nm HK.out (Lh.hups_mem.1 hm)
      refine openC W.heap.size p db S.dr.length D _ W' ?_ ?_ ?_ hup.2 ?_
      · exact (World.cell?_of_block (w := w1) (w' := W') (a := ⟨W.heap.size, 0, none⟩) (hT.block W.heap.size (by omega) (by show ¬ W.heap.size = g; omega))).trans cb
      · exact (World.cell?_of_block (w := w1) (w' := W') (a := ⟨p, 1, none⟩) (hT.block p (by omega) (by show ¬ p = g; omega))).trans hBR.c1
      · exact ownsMap_later hown (hT.block db (by omega) (by show ¬ db = g; omega))
      · rw [hset.2.2, drq_mem])
    rw [drq_open] at hdel
    have HB : Hid (Below W.heap.size W w1) := hb3
    have HC : Hid ((Lh.bopen S).length ≤ cap) := by
      have : (Lh.bopen S).length ≤ (Lh.hups S.hs).length := List.length_filter_le _ _
      show _ ≤ _
      omega
    clear hBR hown hset hcell hfz hv hb2 hb3 hb1
    go_wp2_with fail
    refine hdel.mono ?_
    rintro e w2 ⟨rfl, hT, hc2⟩
    have HC2 : Hid (∀ k (h : k < (Lh.bopen S).length), w2.cell? ⟨g, k, none⟩ = some (.string (Lh.bopen S)[k])) := hc2
    have HT : Hid (Tur (fun b => b = g) w1 w2) := hT
    clear hdel hc2 hT cb
    go_wp2
    go_ret
    exact ⟨_, rfl, Or.inr ⟨g, 0, cap, rfl, HC.out, by simpa only [Nat.zero_add] using HC2.out⟩, HT.out.below (fun k hk => by have : k = g := hk; omega) HB.out (Nat.le_refl _)⟩
  · have hn : Lh.hups S.hs = [] := List.length_eq_zero_iff.1 (by omega)
    have HN : Hid (Lh.bopen S = []) := by
      show _ = _
      rw [← drq_open, hn]
      rfl
    rw [hn] at hv
    obtain ⟨p0, c0, rfl, hpc⟩ : ∃ p0 c0, v = .slice p0 0 c0 ∧ (v = .slice none 0 0 ∨ ∃ ad c, v = .slice (some ad) 0 c) := by
      rcases hv.2 with ⟨h, _⟩ | ⟨g, cap, cur, rfl, _⟩
      · exact ⟨_, _, h, Or.inl h⟩
      · exact ⟨_, _, rfl, Or.inr ⟨_, _, rfl⟩⟩
    have HPC : Hid (Value.slice p0 0 c0 = .slice none 0 0 ∨ ∃ ad c, Value.slice p0 0 c0 = .slice (some ad) 0 c) := hpc
    have hdel := deleteT_nil 49 entersOp (.pointer (some ⟨W.heap.size, 0, none⟩)) p0 c0 w1
    clear hv hpc hn hb1 hb2
    go_wp2_with fail
    refine hdel.mono ?_
    rintro e w2 ⟨rfl, hb4⟩
    clear hdel cb
    go_wp2
    go_ret
    exact ⟨_, rfl, Or.inl ⟨HN.out, HPC.out⟩, below_then hb3 hb4⟩
end
end Go.Proofs.YtmkdpchodeckgaaDoor
