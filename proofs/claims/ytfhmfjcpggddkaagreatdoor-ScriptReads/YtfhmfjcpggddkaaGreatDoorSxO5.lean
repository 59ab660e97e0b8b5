/- The landed script: a line obeyed, without hosts. -/
import Derived.Test.YtfhmfjcpggddkaaGreatDoorM42
import Derived.Shelf.Abstract
namespace Go.Proofs.YtfhmfjcpggddkaaGreatDoor
open Go.RowKit Lh

set_option maxHeartbeats 4000000 in
set_option maxRecDepth 100000 in
theorem obey_early (w0 W : World) (a : Nat → Addr) (p q m : Nat) (F : Nat → Prop) (st : Option Sc) (s wd : List UInt8) (r : List (List UInt8)) (hs : s.length ≤ 5000) (hcut : cutL 32 s = wd :: r) (hP : PlC w0 a p q m F W) (hI : PlIs st F p W) (hn : ∀ S, st = some S → S.hosts ≠ []) (form : List UInt8) (more early : Bool) (f : Nat)  (hv : (bt wd, cmA form more early (.func (.func f) #[] #[.pointer (some ⟨q, 0, none⟩)])) ∈ cmTab q) (hE : EntR q wd form more early f #[.pointer (some ⟨q, 0, none⟩)]) (N : List Nat) (H : List ByteArray) (hr : readW form more r = some (N, H)) (j : Nat) (hB : StB st j) (hj : j ≤ 100) (hFl : ∀ b, F b → b < W.heap.size) (hx0 : W.cell? ⟨p, 0, none⟩ = some (.pointer none)) (hne : early = false → st ≠ none) (hea : early = true) :
    Calls Tryz.prog 60 #[.pointer (some ⟨p, 0, none⟩), .map (some m), .string (bt s)] W (LineE w0 a p q m F st s W) := by
  have hsp := split_any s 32 (by omega) W hP.ea.c
  have hwl := cut_lens s hs
  rw [hcut] at hsp hwl
  have hcm : cmOf s = some ⟨wd, H, N⟩ := by rw [lineS_cm hcut hE.form_, hr]; rfl
  have HMAP : Hid (MapIs W m (cmTab q)) := hP.map
  have HS0 : Hid (EA a W) := hP.ea
  have HRD : Hid (∀ w' sp sc, EA a w' → WordsAt w' sp r → Calls Tryz.prog 109 #[cmA form more early (.func (.func f) #[] #[.pointer (some ⟨q, 0, none⟩)]), .slice sp r.length sc] w' fun e w'' => ∃ pn cn ph ch, e = .returned (.tuple #[.agg #[.slice pn N.length cn, .slice ph H.length ch], .bool true]) ∧ (w''.ownsRow w'.heap.size 3 1 (.slice pn N.length cn) N.length (N.map fun n => .int .i64 (n : Nat)) ∧ w''.ownsRow w'.heap.size 9 1 (.slice ph H.length ch) H.length (H.map Value.string)) ∧ Below w'.heap.size w' w'') := fun w' sp sc he hw => (readC_any a form more early _ sp sc r w' he.c he.e4 hE.pos hE.kind (by have := hwl.1; simp only [List.length_cons] at this; omega) (fun x hx => hwl.2 x (List.mem_cons_of_mem _ hx)) hw).mono fun _ _ ⟨q1, q2⟩ => by
    rcases q2 with ⟨N', H', vn, vh, h1, h2, h3, h4⟩ | ⟨h1, _⟩
    · rw [hr] at h1
      obtain ⟨rfl, rfl⟩ : N' = N ∧ H' = H := by
        injection h1 with h1
        injection h1 with h5 h6
        exact ⟨h5.symm, h6.symm⟩
      obtain ⟨pn, cn, rfl⟩ := own_shape h3
      obtain ⟨ph, ch, rfl⟩ := own_shape h4
      exact ⟨pn, cn, ph, ch, h2, ⟨h3, h4⟩, q1⟩
    · rw [hr] at h1
      cases h1
  have hlH : H.length < 1000000 := by
    have h1 := readW_len hr
    have h2 := hwl.1
    rw [List.length_cons] at h2
    omega
  subst hea
  obtain ⟨hh, nn, hok⟩ := cmOf_ok hcm
  have hHl : H.length < 1000000 := hlH
  have HCLO : Hid (∀ wf vn vh, Below W.heap.size W wf → ∀ B, W.heap.size ≤ B → wf.ownsRow B 3 1 vn N.length (N.map fun n => .int .i64 (n : Nat)) → wf.ownsRow B 9 1 vh H.length (H.map Value.string) → Calls Tryz.prog f #[.agg #[vn, vh], .pointer (some ⟨q, 0, none⟩)] wf fun e w' => ∃ tv ev, e = .returned (.tuple #[.string tv, ev]) ∧ LineE w0 a p q m F st s W (.returned (.tuple #[.string tv, ev])) w') := fun wf vn vh hb B hBW h1 h2 => (hE.clo_ w0 wf a p m F st j B N H vn vh hh nn (hP.later hb) (hI.later (fun h => (hP.F0 p h).2.1 rfl) hn hb) hB hj hne hok hHl h1 h2 (fun b hf => Nat.lt_of_lt_of_le (hFl b hf) hBW) (Nat.lt_of_lt_of_le hP.pl3 hBW)).mono fun e w' ⟨st', F', ans, q1, q2, q3, q4, q5, q6⟩ => by
    obtain ⟨tv, ev, c, pl, rfl, q7⟩ := q2
    exact ⟨tv, ev, rfl, st', F', ans, Or.inr ⟨_, hcm, q1⟩, ⟨tv, ev, c, pl, rfl, q7⟩, q3, q4, fun b hb' => (q5 b hb').elim Or.inl fun h => Or.inr (Nat.le_trans hb.size h), (Tur.of_below hb).trans q6 fun b hb' => Or.inl hb'⟩
  have eg := hE.ent
  have HX : Hid (W.cell? ⟨p, 0, none⟩ = some (.pointer none)) := hx0
  clear hP hI hcut hcm hE hr hx0 hok hHl hlH hne hB hFl
  go_enter Tryz.func60, Tryz.ntmps60
  go_wp2_with fail
  refine hsp.mono ?_
  rintro e w1 ⟨rfl, hb1, hl1, hcell⟩
  have c0 := hcell 0 (by simp)
  rw [List.getElem_cons_zero] at c0
  have hmap := HMAP.out.same (hb1.block m HMAP.out.lt)
  have hlk : (Instr.lookup 52 (.map (some m)) (.string (bt wd)) true).run Tryz.prog w1 = .ok (.tuple #[cmA form more true (.func (.func f) #[] #[.pointer (some ⟨q, 0, none⟩)]), .bool true]) w1 := by
    rcases hmap.look (P := Tryz.prog) (bt wd) Tryz.underlying52 Tryz.underlying9 (z := .agg #[.string ⟨#[]⟩, .bool false, .bool false, .nilFunc]) (by simp [Tryz.zeroValue87]) with ⟨v, h1, h2⟩ | ⟨h, _⟩
    · rw [tab_one h1 hv] at h2
      exact h2
    · exact absurd hv (h _)
  unfold cmA at hlk
  have HB1 : Hid (Below W.heap.size W w1) := hb1
  have HWA : Hid (∀ w', Below w1.heap.size w1 w' → WordsAt w' (some ⟨W.heap.size, 1, none⟩) r) := fun w' hb k hk => ⟨W.heap.size, 1, rfl, by
    have := below_cell hb (hcell (k + 1) (by simp; omega))
    rw [List.getElem_cons_succ] at this
    rw [Nat.add_comm 1 k]
    exact this⟩
  clear hsp hcell hmap hv
  obtain ⟨w2, hw2⟩ : ∃ w2, w2 = w1.alloc (.cells #[.string (bt form), .bool more, .bool true, .func (.func f) #[] #[.pointer (some ⟨q, 0, none⟩)]] 87) := ⟨_, rfl⟩
  have hb2 : Below w1.heap.size w1 w2 := by rw [hw2]; exact (Below.refl _ _).alloc (Nat.le_refl _) _
  have HB2 : Hid (Below w1.heap.size w1 w2) := hb2
  have k0 : w2.cell? ⟨w1.heap.size, 0, none⟩ = some (.string (bt form)) := by rw [hw2]; simp
  have k1 : w2.cell? ⟨w1.heap.size, 1, none⟩ = some (.bool more) := by rw [hw2]; simp
  have k2 : w2.cell? ⟨w1.heap.size, 2, none⟩ = some (.bool true) := by rw [hw2]; simp
  have k3 : w2.cell? ⟨w1.heap.size, 3, none⟩ = some (.func (.func f) #[] #[.pointer (some ⟨q, 0, none⟩)]) := by rw [hw2]; simp
  have hb0 : Below w2.heap.size w2 w2.drew := below_drewN (Below.refl _ _) 1
  have HC : Hid (∀ w', Below w2.heap.size w2 w' → w'.cell? ⟨w1.heap.size, 0, none⟩ = some (.string (bt form)) ∧ w'.cell? ⟨w1.heap.size, 1, none⟩ = some (.bool more) ∧ w'.cell? ⟨w1.heap.size, 2, none⟩ = some (.bool true) ∧ w'.cell? ⟨w1.heap.size, 3, none⟩ = some (.func (.func f) #[] #[.pointer (some ⟨q, 0, none⟩)])) := fun w' hb => ⟨below_cell hb k0, below_cell hb k1, below_cell hb k2, below_cell hb k3⟩
  clear hb1 hb2
  have hcal : ∀ w' sp sc, Below w2.heap.size w2 w' → (r = [] ∨ sp = some ⟨W.heap.size, 1, none⟩) → Calls Tryz.prog 109 #[.agg #[.string (bt form), .bool more, .bool true, .func (.func f) #[] #[.pointer (some ⟨q, 0, none⟩)]], .slice sp r.length sc] w' fun e w'' => ∃ pn cn ph ch, e = .returned (.tuple #[.agg #[.slice pn N.length cn, .slice ph H.length ch], .bool true]) ∧ (w''.ownsRow w'.heap.size 3 1 (.slice pn N.length cn) N.length (N.map fun n => .int .i64 (n : Nat)) ∧ w''.ownsRow w'.heap.size 9 1 (.slice ph H.length ch) H.length (H.map Value.string) ∧ w2.heap.size ≤ w'.heap.size) ∧ Below w'.heap.size w' w'' ∧ Below w2.heap.size w2 w'' := fun w' sp sc hb hsp => (HRD.out w' sp sc (HS0.out.later (below_then (below_then HB1.out HB2.out) hb)) (by
    rcases hsp with rfl | rfl
    · exact fun k hk => absurd hk (Nat.not_lt_zero k)
    · exact HWA.out w' (below_then HB2.out hb))).mono fun _ _ ⟨pn, cn, ph, ch, q1, ⟨q3, q4⟩, q2⟩ => ⟨pn, cn, ph, ch, q1, ⟨q3, q4, hb.size⟩, q2, below_then hb q2⟩
  have HX0 : Hid (∀ w', Below w2.heap.size w2 w' → w'.cell? ⟨p, 0, none⟩ = some (.pointer none)) := fun w' hb => below_cell (below_then (below_then HB1.out HB2.out) hb) HX.out
  clear HRD HWA hwl HX
  by_cases hre : r = []
  · subst hre
    go_wp2_with fail
    rw [← hw2]
    clear hw2
    go_region_held3 (fun w' => w'.cell? ⟨w1.heap.size, 0, none⟩ = some (.string (bt form)) ∧ w'.cell? ⟨w1.heap.size, 1, none⟩ = some (.bool more) ∧ w'.cell? ⟨w1.heap.size, 2, none⟩ = some (.bool true) ∧ w'.cell? ⟨w1.heap.size, 3, none⟩ = some (.func (.func f) #[] #[.pointer (some ⟨q, 0, none⟩)]))
      (first | exact HC.out _ (by first | assumption | exact below_al (by assumption) _ | exact below_ald _ | exact ((by assumption : Below w2.heap.size w2 w3).setCell (Nat.le_refl _) _).setCell (Nat.le_refl _) _))
      (first
        | (go_at_call 109; refine (hcal _ _ _ (by first | assumption | exact below_ald _) (by simp)).mono ?_; rintro e w3 ⟨pn, cn, ph, ch, rfl, hrow, hb3, hb3'⟩; try (have hcf := al_cells hb3; obtain ⟨c0', c1', f0', f1'⟩ := hcf)))
    · obtain ⟨ron, roh, rle⟩ := hrow
      have hbf : Below w2.heap.size w2 (w3.alloc (.cells #[.slice pn N.length cn, .slice ph H.length ch] 83)) := below_al hb3' _
      have g0 : (w3.alloc (.cells #[.slice pn N.length cn, .slice ph H.length ch] 83)).cell? ⟨w3.heap.size, 0, none⟩ = some (.slice pn N.length cn) := by simp
      have g1 : (w3.alloc (.cells #[.slice pn N.length cn, .slice ph H.length ch] 83)).cell? ⟨w3.heap.size, 1, none⟩ = some (.slice ph H.length ch) := by simp
      have on : (w3.alloc (.cells #[.slice pn N.length cn, .slice ph H.length ch] 83)).ownsRow w2.heap.size 3 1 (.slice pn N.length cn) N.length (N.map fun n => .int .i64 (n : Nat)) := owns_base (ron.alloc _) rle
      have oh : (w3.alloc (.cells #[.slice pn N.length cn, .slice ph H.length ch] 83)).ownsRow w2.heap.size 9 1 (.slice ph H.length ch) H.length (H.map Value.string) := owns_base (roh.alloc _) rle
      have HON : Hid ((w3.alloc (.cells #[.slice pn N.length cn, .slice ph H.length ch] 83)).ownsRow w2.heap.size 3 1 (.slice pn N.length cn) N.length (N.map fun n => .int .i64 (n : Nat))) := on
      have HOH : Hid ((w3.alloc (.cells #[.slice pn N.length cn, .slice ph H.length ch] 83)).ownsRow w2.heap.size 9 1 (.slice ph H.length ch) H.length (H.map Value.string)) := oh
      have HBF : Hid (Below w2.heap.size w2 (w3.alloc (.cells #[.slice pn N.length cn, .slice ph H.length ch] 83))) := hbf
      obtain ⟨wb, hwb⟩ : ∃ wb, wb = w3.heap.size := ⟨_, rfl⟩
      clear on oh ron roh rle hb3 hb3' hbf hcal
      generalize (w3.alloc (.cells #[.slice pn N.length cn, .slice ph H.length ch] 83)) = wf at *
      rw [← hwb] at g0 g1
      rw [← hwb]
      clear hwb
      obtain ⟨k0', k1', k2', k3'⟩ := HC.out wf HBF.out
      have x0 := HX0.out wf HBF.out
      have hclo := HCLO.out wf _ _ (below_then (below_then HB1.out HB2.out) HBF.out) w2.heap.size (Nat.le_trans HB1.out.size HB2.out.size) HON.out HOH.out
      clear HC HX0 HON HOH k0 k1 k2 k3 hb0 c0 hlk HCLO
      go_wp2_with (go_at_fn f; refine hclo.mono ?_; rintro e w5 ⟨tv, ev, rfl, hE5⟩)
      have HE5 : Hid (LineE w0 a p q m F st s W (.returned (.tuple #[.string tv, ev])) w5) := hE5
      clear hclo hE5
      go_ret2
      exact HE5.out
    · obtain ⟨ron, roh, rle⟩ := hrow
      have hbf : Below w2.heap.size w2 ((w3.setCell ⟨w2.heap.size, 0, none⟩ (.slice pn N.length cn)).setCell ⟨w2.heap.size, 1, none⟩ (.slice ph H.length ch)) := (hb3'.setCell (p := ⟨w2.heap.size, 0, none⟩) (Nat.le_refl _) _).setCell (p := ⟨w2.heap.size, 1, none⟩) (Nat.le_refl _) _
      have g0 : ((w3.setCell ⟨w2.heap.size, 0, none⟩ (.slice pn N.length cn)).setCell ⟨w2.heap.size, 1, none⟩ (.slice ph H.length ch)).cell? ⟨w2.heap.size, 0, none⟩ = some (.slice pn N.length cn) := by
        rw [World.cell?_setCell_other _ _ _ _ (by simp)]
        exact World.cell?_setCell_same' _ _ _ (by rw [c0']; rfl)
      have g1 : ((w3.setCell ⟨w2.heap.size, 0, none⟩ (.slice pn N.length cn)).setCell ⟨w2.heap.size, 1, none⟩ (.slice ph H.length ch)).cell? ⟨w2.heap.size, 1, none⟩ = some (.slice ph H.length ch) := World.cell?_setCell_same' _ _ _ (by rw [World.cell?_setCell_other _ _ _ _ (by simp), c1']; rfl)
      have rlt : w2.heap.size < ((w2.alloc (.cells #[.slice none 0 0, .slice none 0 0] 83)).drew).heap.size := by simp
      have on : ((w3.setCell ⟨w2.heap.size, 0, none⟩ (.slice pn N.length cn)).setCell ⟨w2.heap.size, 1, none⟩ (.slice ph H.length ch)).ownsRow w2.heap.size 3 1 (.slice pn N.length cn) N.length (N.map fun n => .int .i64 (n : Nat)) := owns_base (howns_setCell (howns_setCell ron rlt _) rlt _) rle
      have oh : ((w3.setCell ⟨w2.heap.size, 0, none⟩ (.slice pn N.length cn)).setCell ⟨w2.heap.size, 1, none⟩ (.slice ph H.length ch)).ownsRow w2.heap.size 9 1 (.slice ph H.length ch) H.length (H.map Value.string) := owns_base (howns_setCell (howns_setCell roh rlt _) rlt _) rle
      have HON : Hid (((w3.setCell ⟨w2.heap.size, 0, none⟩ (.slice pn N.length cn)).setCell ⟨w2.heap.size, 1, none⟩ (.slice ph H.length ch)).ownsRow w2.heap.size 3 1 (.slice pn N.length cn) N.length (N.map fun n => .int .i64 (n : Nat))) := on
      have HOH : Hid (((w3.setCell ⟨w2.heap.size, 0, none⟩ (.slice pn N.length cn)).setCell ⟨w2.heap.size, 1, none⟩ (.slice ph H.length ch)).ownsRow w2.heap.size 9 1 (.slice ph H.length ch) H.length (H.map Value.string)) := oh
      have HBF : Hid (Below w2.heap.size w2 ((w3.setCell ⟨w2.heap.size, 0, none⟩ (.slice pn N.length cn)).setCell ⟨w2.heap.size, 1, none⟩ (.slice ph H.length ch))) := hbf
      obtain ⟨wb, hwb⟩ : ∃ wb, wb = w2.heap.size := ⟨_, rfl⟩
      clear on oh ron roh rle hb3 hb3' hbf hcal rlt c0' c1' f0' f1'
      generalize ((w3.setCell ⟨w2.heap.size, 0, none⟩ (.slice pn N.length cn)).setCell ⟨w2.heap.size, 1, none⟩ (.slice ph H.length ch)) = wf at *
      rw [← hwb] at g0 g1
      rw [← hwb]
      clear hwb
      obtain ⟨k0', k1', k2', k3'⟩ := HC.out wf HBF.out
      have x0 := HX0.out wf HBF.out
      have hclo := HCLO.out wf _ _ (below_then (below_then HB1.out HB2.out) HBF.out) w2.heap.size (Nat.le_trans HB1.out.size HB2.out.size) HON.out HOH.out
      clear HC HX0 HON HOH k0 k1 k2 k3 hb0 c0 hlk HCLO
      go_wp2_with (go_at_fn f; refine hclo.mono ?_; rintro e w5 ⟨tv, ev, rfl, hE5⟩)
      have HE5 : Hid (LineE w0 a p q m F st s W (.returned (.tuple #[.string tv, ev])) w5) := hE5
      clear hclo hE5
      go_ret2
      exact HE5.out
  · have hl0 : ¬ r.length = 0 := fun h => hre (List.length_eq_zero_iff.1 h)
    have hi1 : (1 : Int) ≤ (r.length : Int) + 1 := by omega
    go_wp2_with fail
    rw [← hw2]
    clear hw2
    go_region_held3 (fun w' => w'.cell? ⟨w1.heap.size, 0, none⟩ = some (.string (bt form)) ∧ w'.cell? ⟨w1.heap.size, 1, none⟩ = some (.bool more) ∧ w'.cell? ⟨w1.heap.size, 2, none⟩ = some (.bool true) ∧ w'.cell? ⟨w1.heap.size, 3, none⟩ = some (.func (.func f) #[] #[.pointer (some ⟨q, 0, none⟩)]))
      (first | exact HC.out _ (by first | assumption | exact below_al (by assumption) _ | exact below_ald _ | exact ((by assumption : Below w2.heap.size w2 w3).setCell (Nat.le_refl _) _).setCell (Nat.le_refl _) _))
      (first
        | (go_at_call 109; refine (hcal _ _ _ (by first | assumption | exact below_ald _) (Or.inr rfl)).mono ?_; rintro e w3 ⟨pn, cn, ph, ch, rfl, hrow, hb3, hb3'⟩; try (have hcf := al_cells hb3; obtain ⟨c0', c1', f0', f1'⟩ := hcf)))
    · obtain ⟨ron, roh, rle⟩ := hrow
      have hbf : Below w2.heap.size w2 (w3.alloc (.cells #[.slice pn N.length cn, .slice ph H.length ch] 83)) := below_al hb3' _
      have g0 : (w3.alloc (.cells #[.slice pn N.length cn, .slice ph H.length ch] 83)).cell? ⟨w3.heap.size, 0, none⟩ = some (.slice pn N.length cn) := by simp
      have g1 : (w3.alloc (.cells #[.slice pn N.length cn, .slice ph H.length ch] 83)).cell? ⟨w3.heap.size, 1, none⟩ = some (.slice ph H.length ch) := by simp
      have on : (w3.alloc (.cells #[.slice pn N.length cn, .slice ph H.length ch] 83)).ownsRow w2.heap.size 3 1 (.slice pn N.length cn) N.length (N.map fun n => .int .i64 (n : Nat)) := owns_base (ron.alloc _) rle
      have oh : (w3.alloc (.cells #[.slice pn N.length cn, .slice ph H.length ch] 83)).ownsRow w2.heap.size 9 1 (.slice ph H.length ch) H.length (H.map Value.string) := owns_base (roh.alloc _) rle
      have HON : Hid ((w3.alloc (.cells #[.slice pn N.length cn, .slice ph H.length ch] 83)).ownsRow w2.heap.size 3 1 (.slice pn N.length cn) N.length (N.map fun n => .int .i64 (n : Nat))) := on
      have HOH : Hid ((w3.alloc (.cells #[.slice pn N.length cn, .slice ph H.length ch] 83)).ownsRow w2.heap.size 9 1 (.slice ph H.length ch) H.length (H.map Value.string)) := oh
      have HBF : Hid (Below w2.heap.size w2 (w3.alloc (.cells #[.slice pn N.length cn, .slice ph H.length ch] 83))) := hbf
      obtain ⟨wb, hwb⟩ : ∃ wb, wb = w3.heap.size := ⟨_, rfl⟩
      clear on oh ron roh rle hb3 hb3' hbf hcal
      generalize (w3.alloc (.cells #[.slice pn N.length cn, .slice ph H.length ch] 83)) = wf at *
      rw [← hwb] at g0 g1
      rw [← hwb]
      clear hwb
      obtain ⟨k0', k1', k2', k3'⟩ := HC.out wf HBF.out
      have x0 := HX0.out wf HBF.out
      have hclo := HCLO.out wf _ _ (below_then (below_then HB1.out HB2.out) HBF.out) w2.heap.size (Nat.le_trans HB1.out.size HB2.out.size) HON.out HOH.out
      clear HC HX0 HON HOH k0 k1 k2 k3 hb0 c0 hlk HCLO
      go_wp2_with (go_at_fn f; refine hclo.mono ?_; rintro e w5 ⟨tv, ev, rfl, hE5⟩)
      have HE5 : Hid (LineE w0 a p q m F st s W (.returned (.tuple #[.string tv, ev])) w5) := hE5
      clear hclo hE5
      go_ret2
      exact HE5.out
    · obtain ⟨ron, roh, rle⟩ := hrow
      have hbf : Below w2.heap.size w2 ((w3.setCell ⟨w2.heap.size, 0, none⟩ (.slice pn N.length cn)).setCell ⟨w2.heap.size, 1, none⟩ (.slice ph H.length ch)) := (hb3'.setCell (p := ⟨w2.heap.size, 0, none⟩) (Nat.le_refl _) _).setCell (p := ⟨w2.heap.size, 1, none⟩) (Nat.le_refl _) _
      have g0 : ((w3.setCell ⟨w2.heap.size, 0, none⟩ (.slice pn N.length cn)).setCell ⟨w2.heap.size, 1, none⟩ (.slice ph H.length ch)).cell? ⟨w2.heap.size, 0, none⟩ = some (.slice pn N.length cn) := by
        rw [World.cell?_setCell_other _ _ _ _ (by simp)]
        exact World.cell?_setCell_same' _ _ _ (by rw [c0']; rfl)
      have g1 : ((w3.setCell ⟨w2.heap.size, 0, none⟩ (.slice pn N.length cn)).setCell ⟨w2.heap.size, 1, none⟩ (.slice ph H.length ch)).cell? ⟨w2.heap.size, 1, none⟩ = some (.slice ph H.length ch) := World.cell?_setCell_same' _ _ _ (by rw [World.cell?_setCell_other _ _ _ _ (by simp), c1']; rfl)
      have rlt : w2.heap.size < ((w2.alloc (.cells #[.slice none 0 0, .slice none 0 0] 83)).drew).heap.size := by simp
      have on : ((w3.setCell ⟨w2.heap.size, 0, none⟩ (.slice pn N.length cn)).setCell ⟨w2.heap.size, 1, none⟩ (.slice ph H.length ch)).ownsRow w2.heap.size 3 1 (.slice pn N.length cn) N.length (N.map fun n => .int .i64 (n : Nat)) := owns_base (howns_setCell (howns_setCell ron rlt _) rlt _) rle
      have oh : ((w3.setCell ⟨w2.heap.size, 0, none⟩ (.slice pn N.length cn)).setCell ⟨w2.heap.size, 1, none⟩ (.slice ph H.length ch)).ownsRow w2.heap.size 9 1 (.slice ph H.length ch) H.length (H.map Value.string) := owns_base (howns_setCell (howns_setCell roh rlt _) rlt _) rle
      have HON : Hid (((w3.setCell ⟨w2.heap.size, 0, none⟩ (.slice pn N.length cn)).setCell ⟨w2.heap.size, 1, none⟩ (.slice ph H.length ch)).ownsRow w2.heap.size 3 1 (.slice pn N.length cn) N.length (N.map fun n => .int .i64 (n : Nat))) := on
      have HOH : Hid (((w3.setCell ⟨w2.heap.size, 0, none⟩ (.slice pn N.length cn)).setCell ⟨w2.heap.size, 1, none⟩ (.slice ph H.length ch)).ownsRow w2.heap.size 9 1 (.slice ph H.length ch) H.length (H.map Value.string)) := oh
      have HBF : Hid (Below w2.heap.size w2 ((w3.setCell ⟨w2.heap.size, 0, none⟩ (.slice pn N.length cn)).setCell ⟨w2.heap.size, 1, none⟩ (.slice ph H.length ch))) := hbf
      obtain ⟨wb, hwb⟩ : ∃ wb, wb = w2.heap.size := ⟨_, rfl⟩
      clear on oh ron roh rle hb3 hb3' hbf hcal rlt c0' c1' f0' f1'
      generalize ((w3.setCell ⟨w2.heap.size, 0, none⟩ (.slice pn N.length cn)).setCell ⟨w2.heap.size, 1, none⟩ (.slice ph H.length ch)) = wf at *
      rw [← hwb] at g0 g1
      rw [← hwb]
      clear hwb
      obtain ⟨k0', k1', k2', k3'⟩ := HC.out wf HBF.out
      have x0 := HX0.out wf HBF.out
      have hclo := HCLO.out wf _ _ (below_then (below_then HB1.out HB2.out) HBF.out) w2.heap.size (Nat.le_trans HB1.out.size HB2.out.size) HON.out HOH.out
      clear HC HX0 HON HOH k0 k1 k2 k3 hb0 c0 hlk HCLO
      go_wp2_with (go_at_fn f; refine hclo.mono ?_; rintro e w5 ⟨tv, ev, rfl, hE5⟩)
      have HE5 : Hid (LineE w0 a p q m F st s W (.returned (.tuple #[.string tv, ev])) w5) := hE5
      clear hclo hE5
      go_ret2
      exact HE5.out
end Go.Proofs.YtfhmfjcpggddkaaGreatDoor
