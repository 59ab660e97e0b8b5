/- The landed script: a line obeyed. -/
import Derived.Test.YtfhmfjcpggddkaaGreatDoorSxD
import Derived.Laws.EntriesVeiled
namespace Go.Proofs.YtfhmfjcpggddkaaGreatDoor
open Go.RowKit Lh

theorem cutL_count : ∀ s : List UInt8, (cutL 32 s).length ≤ s.length + 1
  | [] => by simp [cutL]
  | c :: cs => by
    have h := cutL_count cs
    unfold cutL
    split
    · simp
      omega
    · split
      · simp
      · rename_i w ws hw
        rw [hw] at h
        simp at h ⊢
        omega
theorem cutL_word : ∀ (s : List UInt8), ∀ x ∈ cutL 32 s, x.length ≤ s.length
  | [], x, h => by
    simp [cutL] at h
    subst h
    simp
  | c :: cs, x, h => by
    have ih := cutL_word cs
    unfold cutL at h
    split at h
    · rcases List.mem_cons.1 h with rfl | h
      · simp
      · have := ih x h
        simp
        omega
    · split at h
      · rename_i hw
        simp at h
        subst h
        simp
      · rename_i w ws hw
        rcases List.mem_cons.1 h with rfl | h
        · have := ih w (by rw [hw]; simp)
          simp
          omega
        · have := ih x (by rw [hw]; simp [h])
          simp
          omega
/-- what a line leaves -/
def LineE (w0 : World) (a : Nat → Addr) (p q m : Nat) (F : Nat → Prop) (st : Option Sc) (s : List UInt8) (W : World) (e : Ending) (W' : World) : Prop :=
  ∃ st' F' ans, LineR nwB st s st' ans ∧ AnsE a W' ans e ∧ PlC w0 a p q m F' W' ∧ PlIs st' F' p W' ∧ (∀ b, F' b → F b ∨ W.heap.size ≤ b) ∧ Tur (fun b => F b ∨ b = p) W W'
theorem cut_some (s : List UInt8) : ∃ wd r, cutL 32 s = wd :: r := by
  cases h : cutL 32 s with
  | nil => exact absurd h (cutL_ne 32 s)
  | cons w r => exact ⟨w, r, rfl⟩
/-- a line that leaves all as it was, and tells an error -/
theorem lineE_err {w0 W W' : World} {a : Nat → Addr} {p q m : Nat} {F : Nat → Prop} {st : Option Sc} {s : List UInt8} {c : Nat} {tv : ByteArray} {ev : Value} (hP : PlC w0 a p q m F W) (hI : PlIs st F p W) (hn : ∀ S, st = some S → S.hosts ≠ []) (hb : Below W.heap.size W W') (hL : LineR nwB st s st (errT c)) (he : ErrIs a W' c (-1) ev) (hc : c ≠ 0) (ht : Told (c - 1)) : LineE w0 a p q m F st s W (.returned (.tuple #[.string tv, ev])) W' :=
  ⟨st, F, _, hL, ansE_err he hc ht, hP.later hb, hI.later (fun h => (hP.F0 p h).2.1 rfl) hn hb, fun _ h => Or.inl h, Tur.of_below hb⟩
set_option maxHeartbeats 4000000 in
set_option maxRecDepth 100000 in
/-- a word that is no command -/
theorem obey_miss (w0 W : World) (a : Nat → Addr) (p q m : Nat) (F : Nat → Prop) (st : Option Sc) (s wd : List UInt8) (r : List (List UInt8)) (hs : s.length ≤ 5000) (hcut : cutL 32 s = wd :: r) (hP : PlC w0 a p q m F W) (hI : PlIs st F p W) (hn : ∀ S, st = some S → S.hosts ≠ []) (hno : ∀ v, (bt wd, v) ∉ cmTab q) :
    Calls Tryz.prog 60 #[.pointer (some ⟨p, 0, none⟩), .map (some m), .string (bt s)] W (LineE w0 a p q m F st s W) := by
  have hsp := split_any s 32 (by omega) W hP.ea.c
  rw [hcut] at hsp
  have hcm : cmOf s = none := by
    unfold cmOf
    rw [hcut]
    show (match formW wd with | none => none | some (h, n) => restW wd h n r) = none
    rw [tab_none hno]
  have HEND : Hid (∀ tv w', Below W.heap.size W w' → LineE w0 a p q m F st s W (.returned (.tuple #[.string tv, .iface 378 (.pointer (some (a 0)))])) w') := fun tv w' hb => lineE_err hP hI hn hb (Or.inl ⟨hcm, rfl, rfl⟩) (Or.inr ⟨0, by decide, rfl, Or.inl ⟨rfl, rfl⟩⟩) (by decide) (Or.inl rfl)
  have HMAP : Hid (MapIs W m (cmTab q)) := hP.map
  have HS0 : Hid (EC a W) := hP.ea.c
  clear hP hI hcut hcm
  go_enter Tryz.func60, Tryz.ntmps60
  go_wp2_with fail
  refine hsp.mono ?_
  rintro e w1 ⟨rfl, hb1, hl1, hcell⟩
  have c0 := hcell 0 (by simp)
  rw [List.getElem_cons_zero] at c0
  have hmap := HMAP.out.same (hb1.block m HMAP.out.lt)
  have hlk : (Instr.lookup 52 (.map (some m)) (.string (bt wd)) true).run Tryz.prog w1 = .ok (.tuple #[.agg #[.string ⟨#[]⟩, .bool false, .bool false, .nilFunc], .bool false]) w1 := by
    rcases hmap.look (P := Tryz.prog) (bt wd) Tryz.underlying52 Tryz.underlying9 (z := .agg #[.string ⟨#[]⟩, .bool false, .bool false, .nilFunc]) (by simp [Tryz.zeroValue87]) with ⟨v, hv, _⟩ | ⟨_, h⟩
    · exact absurd hv (hno v)
    · exact h
  have s0 := (HS0.out.later hb1).s0
  have HB1 : Hid (Below W.heap.size W w1) := hb1
  clear hsp hcell hmap hb1 hno
  obtain ⟨w2, hw2⟩ : ∃ w2, w2 = w1.alloc (.cells #[.string ⟨#[]⟩, .bool false, .bool false, .nilFunc] 87) := ⟨_, rfl⟩
  have hb2 : Below w1.heap.size w1 w2 := by rw [hw2]; exact (Below.refl _ _).alloc (Nat.le_refl _) _
  have HB2 : Hid (Below w1.heap.size w1 w2.drew) := below_then hb2 (below_drewN (Below.refl _ _) 1)
  have s2 := below_cell hb2 s0
  clear hb2
  go_wp2_with fail
  rw [← hw2]
  clear hw2

  go_region
  go_wp2
  go_ret2
  exact HEND.out _ _ (below_then HB1.out HB2.out)
theorem cut_lens (s : List UInt8) (hs : s.length ≤ 5000) : (cutL 32 s).length ≤ 5001 ∧ ∀ x ∈ cutL 32 s, x.length ≤ 5000 := by
  refine ⟨Nat.le_trans (cutL_count s) (by omega), fun x hx => Nat.le_trans (cutL_word s x hx) hs⟩
/-- a line's command -/
theorem lineS_cm {s wd form : List UInt8} {more : Bool} {r : List (List UInt8)} (hcut : cutL 32 s = wd :: r) (hf : formR wd form more) : cmOf s = (readW form more r).map fun z => ⟨wd, z.2, z.1⟩ := by
  unfold cmOf
  rw [hcut]
  exact hf r
theorem tab_one {q : Nat} {w : List UInt8} {v v' : Value} (h : (bt w, v) ∈ cmTab q) (h' : (bt w, v') ∈ cmTab q) : v = v' := by
  have hnd : (cmTab q).Pairwise fun x y => tx x.1 ≠ tx y.1 := by
    have : ((cmTab q).map fun x => tx x.1).Pairwise (· ≠ ·) := by
      show List.Pairwise (· ≠ ·) [wHosts, wTable, wMoves, wRing, wRival, wJump, wPick, wLook, wDrain, wTick, wUp, wFlows, wExport]
      decide
    exact List.pairwise_map.1 this
  by_cases hne : v = v'
  · exact hne
  · exfalso
    obtain ⟨i, hi, e1⟩ := List.mem_iff_getElem.1 h
    obtain ⟨j, hj, e2⟩ := List.mem_iff_getElem.1 h'
    have hp := List.pairwise_iff_getElem.1 hnd
    rcases Nat.lt_trichotomy i j with q | q | q
    · have := hp i j hi hj q
      rw [e1, e2] at this
      exact this rfl
    · subst q
      rw [e1] at e2
      injection e2 with _ e3
      exact hne e3
    · have := hp j i hj hi q
      rw [e1, e2] at this
      exact this rfl
theorem scanW_len {form : List UInt8} : ∀ (ws : List (List UInt8)) (i : Nat) (A B : List Nat × List ByteArray), scanW form i ws A = some B → B.2.length ≤ A.2.length + ws.length
  | [], _, A, B, h => by
    obtain rfl := Option.some.inj h
    simp
  | x :: xs, i, A, B, h => by
    unfold scanW at h
    cases hs : stepW (kindW form i) x A with
    | none => rw [hs] at h; cases h
    | some C =>
      rw [hs] at h
      have h1 := scanW_len xs (i + 1) C B h
      have h2 := (stepW_len hs).2
      rw [List.length_cons]
      omega
theorem readW_len {form : List UInt8} {more : Bool} {ws : List (List UInt8)} {N : List Nat} {H : List ByteArray} (h : readW form more ws = some (N, H)) : H.length ≤ ws.length := by
  unfold readW at h
  split at h
  · cases h
  · have := scanW_len ws 0 _ _ h
    simpa using this
set_option maxHeartbeats 4000000 in
set_option maxRecDepth 100000 in
/-- words that are not of their kind -/
theorem obey_bad (w0 W : World) (a : Nat → Addr) (p q m : Nat) (F : Nat → Prop) (st : Option Sc) (s wd : List UInt8) (r : List (List UInt8)) (hs : s.length ≤ 5000) (hcut : cutL 32 s = wd :: r) (hP : PlC w0 a p q m F W) (hI : PlIs st F p W) (hn : ∀ S, st = some S → S.hosts ≠ []) (form : List UInt8) (more early : Bool) (f : Nat) (caps : Array Value) (hv : (bt wd, cmA form more early (.func (.func f) #[] caps)) ∈ cmTab q) (hE : EntR q wd form more early f caps) (hr : readW form more r = none) :
    Calls Tryz.prog 60 #[.pointer (some ⟨p, 0, none⟩), .map (some m), .string (bt s)] W (LineE w0 a p q m F st s W) := by
  have hsp := split_any s 32 (by omega) W hP.ea.c
  have hwl := cut_lens s hs
  rw [hcut] at hsp hwl
  have hcm : cmOf s = none := by rw [lineS_cm hcut hE.form_, hr]; rfl
  have HEND : Hid (∀ tv w', Below W.heap.size W w' → LineE w0 a p q m F st s W (.returned (.tuple #[.string tv, .iface 378 (.pointer (some (a 0)))])) w') := fun tv w' hb => lineE_err hP hI hn hb (Or.inl ⟨hcm, rfl, rfl⟩) (Or.inr ⟨0, by decide, rfl, Or.inl ⟨rfl, rfl⟩⟩) (by decide) (Or.inl rfl)
  have HMAP : Hid (MapIs W m (cmTab q)) := hP.map
  have HS0 : Hid (EA a W) := hP.ea
  have HRD : Hid (∀ w' sp sc, EA a w' → WordsAt w' sp r → Calls Tryz.prog 109 #[cmA form more early (.func (.func f) #[] caps), .slice sp r.length sc] w' fun e w'' => e = .returned (.tuple #[.agg #[.slice none 0 0, .slice none 0 0], .bool false]) ∧ Below w'.heap.size w' w'') := fun w' sp sc he hw => (readC_any a form more early _ sp sc r w' he.c he.e4 hE.pos hE.kind (by have := hwl.1; simp only [List.length_cons] at this; omega) (fun x hx => hwl.2 x (List.mem_cons_of_mem _ hx)) hw).mono fun _ _ ⟨q1, q2⟩ => by
    rcases q2 with ⟨N, H, vn, vh, h1, _⟩ | ⟨_, h2⟩
    · rw [hr] at h1
      cases h1
    · exact ⟨h2, q1⟩
  clear hP hI hcut hcm hE hr
  go_enter Tryz.func60, Tryz.ntmps60
  go_wp2_with fail
  refine hsp.mono ?_
  rintro e w1 ⟨rfl, hb1, hl1, hcell⟩
  have c0 := hcell 0 (by simp)
  rw [List.getElem_cons_zero] at c0
  have hmap := HMAP.out.same (hb1.block m HMAP.out.lt)
  have hlk : (Instr.lookup 52 (.map (some m)) (.string (bt wd)) true).run Tryz.prog w1 = .ok (.tuple #[cmA form more early (.func (.func f) #[] caps), .bool true]) w1 := by
    rcases hmap.look (P := Tryz.prog) (bt wd) Tryz.underlying52 Tryz.underlying9 (z := .agg #[.string ⟨#[]⟩, .bool false, .bool false, .nilFunc]) (by simp [Tryz.zeroValue87]) with ⟨v, h1, h2⟩ | ⟨h, _⟩
    · rw [tab_one h1 hv] at h2
      exact h2
    · exact absurd hv (h _)
  unfold cmA at hlk
  have HB1 : Hid (Below W.heap.size W w1) := hb1
  have HWA : Hid (∀ w', Below w1.heap.size w1 w' → WordsAt w' (some ⟨W.heap.size, 1, none⟩) r) := fun w' hb k hk => ⟨W.heap.size, 1, rfl, by
    have := below_cell hb (hcell (k + 1) (by simp; omega))
    rw [List.getElem_cons_succ] at this
    rw [Nat.add_comm 1 k]
    exact this⟩
  clear hsp hcell hmap hv
  obtain ⟨w2, hw2⟩ : ∃ w2, w2 = w1.alloc (.cells #[.string (bt form), .bool more, .bool early, .func (.func f) #[] caps] 87) := ⟨_, rfl⟩
  have hb2 : Below w1.heap.size w1 w2 := by rw [hw2]; exact (Below.refl _ _).alloc (Nat.le_refl _) _
  have HB2 : Hid (Below w1.heap.size w1 w2) := hb2
  have k0 : w2.cell? ⟨w1.heap.size, 0, none⟩ = some (.string (bt form)) := by rw [hw2]; simp
  have k1 : w2.cell? ⟨w1.heap.size, 1, none⟩ = some (.bool more) := by rw [hw2]; simp
  have k2 : w2.cell? ⟨w1.heap.size, 2, none⟩ = some (.bool early) := by rw [hw2]; simp
  have k3 : w2.cell? ⟨w1.heap.size, 3, none⟩ = some (.func (.func f) #[] caps) := by rw [hw2]; simp
  have hb0 : Below w2.heap.size w2 w2.drew := below_drewN (Below.refl _ _) 1
  have HC : Hid (∀ w', Below w2.heap.size w2 w' → w'.cell? ⟨w1.heap.size, 0, none⟩ = some (.string (bt form)) ∧ w'.cell? ⟨w1.heap.size, 1, none⟩ = some (.bool more) ∧ w'.cell? ⟨w1.heap.size, 2, none⟩ = some (.bool early) ∧ w'.cell? ⟨w1.heap.size, 3, none⟩ = some (.func (.func f) #[] caps)) := fun w' hb => ⟨below_cell hb k0, below_cell hb k1, below_cell hb k2, below_cell hb k3⟩
  clear hb1 hb2
  have hcal : ∀ w' sp sc, Below w2.heap.size w2 w' → (r = [] ∨ sp = some ⟨W.heap.size, 1, none⟩) → Calls Tryz.prog 109 #[.agg #[.string (bt form), .bool more, .bool early, .func (.func f) #[] caps], .slice sp r.length sc] w' fun e w'' => e = .returned (.tuple #[.agg #[.slice none 0 0, .slice none 0 0], .bool false]) ∧ Below w'.heap.size w' w'' ∧ Below w2.heap.size w2 w'' := fun w' sp sc hb hsp => (HRD.out w' sp sc (HS0.out.later (below_then (below_then HB1.out HB2.out) hb)) (by
    rcases hsp with rfl | rfl
    · exact fun k hk => absurd hk (Nat.not_lt_zero k)
    · exact HWA.out w' (below_then HB2.out hb))).mono fun _ _ ⟨q1, q2⟩ => ⟨q1, q2, below_then hb q2⟩
  have s2 := below_cell HB2.out (HS0.out.later HB1.out).c.s0
  have HST : Hid (∀ w', Below w2.heap.size w2 w' → w'.cell? ⟨1, 0, none⟩ = some (.iface 378 (.pointer (some (a 0))))) := fun w' hb => below_cell hb s2
  clear HRD HWA hwl s2
  by_cases hre : r = []
  · subst hre
    go_wp2_with fail
    rw [← hw2]
    clear hw2
    go_region_held3 (fun w' => w'.cell? ⟨w1.heap.size, 0, none⟩ = some (.string (bt form)) ∧ w'.cell? ⟨w1.heap.size, 1, none⟩ = some (.bool more) ∧ w'.cell? ⟨w1.heap.size, 2, none⟩ = some (.bool early) ∧ w'.cell? ⟨w1.heap.size, 3, none⟩ = some (.func (.func f) #[] caps))
      (first | exact HC.out _ (by first | assumption | exact below_al (by assumption) _ | exact below_ald _ | exact ((by assumption : Below w2.heap.size w2 w3).setCell (Nat.le_refl _) _).setCell (Nat.le_refl _) _))
      (first
        | (go_at_call 109; refine (hcal _ _ _ (by first | assumption | exact below_ald _) (by simp)).mono ?_; rintro e w3 ⟨rfl, hb3, hb3'⟩; try (have hcf := al_cells hb3; obtain ⟨c0', c1', f0', f1'⟩ := hcf)))
    · have hbf : Below w2.heap.size w2 (w3.alloc (.cells #[.slice none 0 0, .slice none 0 0] 83)) := below_al hb3' _
      generalize (w3.alloc (.cells #[.slice none 0 0, .slice none 0 0] 83)) = wf at *
      have s3 := HST.out wf hbf
      have HBF : Hid (Below w2.heap.size w2 wf.drew) := below_then hbf (below_drewN (Below.refl _ _) 1)
      clear hcal HC HST k0 k1 k2 k3 hb0 hbf hb3 hb3' c0 hlk
      go_wp2_with fail
      go_region
      go_wp2
      go_ret2
      exact HEND.out _ _ (below_then (below_then HB1.out HB2.out) HBF.out)
    · have hbf : Below w2.heap.size w2 ((w3.setCell ⟨w2.heap.size, 0, none⟩ (.slice none 0 0)).setCell ⟨w2.heap.size, 1, none⟩ (.slice none 0 0)) := (hb3'.setCell (p := ⟨w2.heap.size, 0, none⟩) (Nat.le_refl _) _).setCell (p := ⟨w2.heap.size, 1, none⟩) (Nat.le_refl _) _
      generalize ((w3.setCell ⟨w2.heap.size, 0, none⟩ (.slice none 0 0)).setCell ⟨w2.heap.size, 1, none⟩ (.slice none 0 0)) = wf at *
      have s3 := HST.out wf hbf
      have HBF : Hid (Below w2.heap.size w2 wf.drew) := below_then hbf (below_drewN (Below.refl _ _) 1)
      clear hcal HC HST k0 k1 k2 k3 hb0 hbf hb3 hb3' c0 hlk
      go_wp2_with fail
      go_region
      go_wp2
      go_ret2
      exact HEND.out _ _ (below_then (below_then HB1.out HB2.out) HBF.out)
  · have hl0 : ¬ r.length = 0 := fun h => hre (List.length_eq_zero_iff.1 h)
    have hi1 : (1 : Int) ≤ (r.length : Int) + 1 := by omega
    go_wp2_with fail
    rw [← hw2]
    clear hw2
    go_region_held3 (fun w' => w'.cell? ⟨w1.heap.size, 0, none⟩ = some (.string (bt form)) ∧ w'.cell? ⟨w1.heap.size, 1, none⟩ = some (.bool more) ∧ w'.cell? ⟨w1.heap.size, 2, none⟩ = some (.bool early) ∧ w'.cell? ⟨w1.heap.size, 3, none⟩ = some (.func (.func f) #[] caps))
      (first | exact HC.out _ (by first | assumption | exact below_al (by assumption) _ | exact below_ald _ | exact ((by assumption : Below w2.heap.size w2 w3).setCell (Nat.le_refl _) _).setCell (Nat.le_refl _) _))
      (first
        | (go_at_call 109; refine (hcal _ _ _ (by first | assumption | exact below_ald _) (Or.inr rfl)).mono ?_; rintro e w3 ⟨rfl, hb3, hb3'⟩; try (have hcf := al_cells hb3; obtain ⟨c0', c1', f0', f1'⟩ := hcf)))
    · have hbf : Below w2.heap.size w2 (w3.alloc (.cells #[.slice none 0 0, .slice none 0 0] 83)) := below_al hb3' _
      generalize (w3.alloc (.cells #[.slice none 0 0, .slice none 0 0] 83)) = wf at *
      have s3 := HST.out wf hbf
      have HBF : Hid (Below w2.heap.size w2 wf.drew) := below_then hbf (below_drewN (Below.refl _ _) 1)
      clear hcal HC HST k0 k1 k2 k3 hb0 hbf hb3 hb3' c0 hlk
      go_wp2_with fail
      go_region
      go_wp2
      go_ret2
      exact HEND.out _ _ (below_then (below_then HB1.out HB2.out) HBF.out)
    · have hbf : Below w2.heap.size w2 ((w3.setCell ⟨w2.heap.size, 0, none⟩ (.slice none 0 0)).setCell ⟨w2.heap.size, 1, none⟩ (.slice none 0 0)) := (hb3'.setCell (p := ⟨w2.heap.size, 0, none⟩) (Nat.le_refl _) _).setCell (p := ⟨w2.heap.size, 1, none⟩) (Nat.le_refl _) _
      generalize ((w3.setCell ⟨w2.heap.size, 0, none⟩ (.slice none 0 0)).setCell ⟨w2.heap.size, 1, none⟩ (.slice none 0 0)) = wf at *
      have s3 := HST.out wf hbf
      have HBF : Hid (Below w2.heap.size w2 wf.drew) := below_then hbf (below_drewN (Below.refl _ _) 1)
      clear hcal HC HST k0 k1 k2 k3 hb0 hbf hb3 hb3' c0 hlk
      go_wp2_with fail
      go_region
      go_wp2
      go_ret2
      exact HEND.out _ _ (below_then (below_then HB1.out HB2.out) HBF.out)
end Go.Proofs.YtfhmfjcpggddkaaGreatDoor

/- The landed script: a line that wants hosts. -/
namespace Go.Proofs.YtfhmfjcpggddkaaGreatDoor
open Go.RowKit Lh

set_option maxHeartbeats 4000000 in
set_option maxRecDepth 100000 in
/-- no hosts yet -/
theorem obey_none (w0 W : World) (a : Nat → Addr) (p q m : Nat) (F : Nat → Prop) (st : Option Sc) (s wd : List UInt8) (r : List (List UInt8)) (hs : s.length ≤ 5000) (hcut : cutL 32 s = wd :: r) (hP : PlC w0 a p q m F W) (hI : PlIs st F p W) (hn : ∀ S, st = some S → S.hosts ≠ []) (form : List UInt8) (more : Bool) (f : Nat) (caps : Array Value) (hv : (bt wd, cmA form more false (.func (.func f) #[] caps)) ∈ cmTab q) (hE : EntR q wd form more false f caps) (N : List Nat) (H : List ByteArray) (hr : readW form more r = some (N, H)) (hst : st = none) :
    Calls Tryz.prog 60 #[.pointer (some ⟨p, 0, none⟩), .map (some m), .string (bt s)] W (LineE w0 a p q m F st s W) := by
  have hsp := split_any s 32 (by omega) W hP.ea.c
  have hwl := cut_lens s hs
  rw [hcut] at hsp hwl
  have hcm : cmOf s = some ⟨wd, H, N⟩ := by rw [lineS_cm hcut hE.form_, hr]; rfl
  have HMAP : Hid (MapIs W m (cmTab q)) := hP.map
  have HS0 : Hid (EA a W) := hP.ea
  have HRD : Hid (∀ w' sp sc, EA a w' → WordsAt w' sp r → Calls Tryz.prog 109 #[cmA form more false (.func (.func f) #[] caps), .slice sp r.length sc] w' fun e w'' => ∃ pn cn ph ch, e = .returned (.tuple #[.agg #[.slice pn N.length cn, .slice ph H.length ch], .bool true]) ∧ (w''.ownsRow w'.heap.size 3 1 (.slice pn N.length cn) N.length (N.map fun n => .int .i64 (n : Nat)) ∧ w''.ownsRow w'.heap.size 9 1 (.slice ph H.length ch) H.length (H.map Value.string)) ∧ Below w'.heap.size w' w'') := fun w' sp sc he hw => (readC_any a form more false _ sp sc r w' he.c he.e4 hE.pos hE.kind (by have := hwl.1; simp only [List.length_cons] at this; omega) (fun x hx => hwl.2 x (List.mem_cons_of_mem _ hx)) hw).mono fun _ _ ⟨q1, q2⟩ => by
    rcases q2 with ⟨N', H', vn, vh, h1, h2, h3, h4⟩ | ⟨h1, _⟩
    · rw [hr] at h1
      obtain ⟨rfl, rfl⟩ : N' = N ∧ H' = H := by
        injection h1 with h1
        injection h1 with h5 h6
        exact ⟨h5.symm, h6.symm⟩
      obtain ⟨pn, cn, rfl⟩ := own_shape h3
      obtain ⟨ph, ch, rfl⟩ := own_shape h4
      exact ⟨pn, cn, ph, ch, h2, ⟨h3, h4⟩, q1⟩
    · rw [hr] at h1
      cases h1
  have hx0 : W.cell? ⟨p, 0, none⟩ = some (.pointer none) := by
    rcases hI with ⟨_, h⟩ | ⟨S, _, _, _, h, _⟩
    · exact h.c0
    · rw [hst] at h
      cases h
  have hea := hE.early_.1 rfl
  have HEND : Hid (∀ tv w', Below W.heap.size W w' → LineE w0 a p q m F st s W (.returned (.tuple #[.string tv, .iface 378 (.pointer (some (a 4)))])) w') := fun tv w' hb => lineE_err (c := 5) hP hI hn hb (Or.inr ⟨_, hcm, by rw [hst]; exact Or.inr (Or.inr (Or.inl ⟨hea.1, hea.2, rfl, rfl, rfl⟩))⟩) (Or.inr ⟨4, by decide, rfl, Or.inl ⟨rfl, rfl⟩⟩) (by decide) (by unfold Told; omega)
  have HX : Hid (W.cell? ⟨p, 0, none⟩ = some (.pointer none)) := hx0
  clear hP hI hcut hcm hE hr hx0 hst hea
  go_enter Tryz.func60, Tryz.ntmps60
  go_wp2_with fail
  refine hsp.mono ?_
  rintro e w1 ⟨rfl, hb1, hl1, hcell⟩
  have c0 := hcell 0 (by simp)
  rw [List.getElem_cons_zero] at c0
  have hmap := HMAP.out.same (hb1.block m HMAP.out.lt)
  have hlk : (Instr.lookup 52 (.map (some m)) (.string (bt wd)) true).run Tryz.prog w1 = .ok (.tuple #[cmA form more false (.func (.func f) #[] caps), .bool true]) w1 := by
    rcases hmap.look (P := Tryz.prog) (bt wd) Tryz.underlying52 Tryz.underlying9 (z := .agg #[.string ⟨#[]⟩, .bool false, .bool false, .nilFunc]) (by simp [Tryz.zeroValue87]) with ⟨v, h1, h2⟩ | ⟨h, _⟩
    · rw [tab_one h1 hv] at h2
      exact h2
    · exact absurd hv (h _)
  unfold cmA at hlk
  have HB1 : Hid (Below W.heap.size W w1) := hb1
  have HWA : Hid (∀ w', Below w1.heap.size w1 w' → WordsAt w' (some ⟨W.heap.size, 1, none⟩) r) := fun w' hb k hk => ⟨W.heap.size, 1, rfl, by
    have := below_cell hb (hcell (k + 1) (by simp; omega))
    rw [List.getElem_cons_succ] at this
    rw [Nat.add_comm 1 k]
    exact this⟩
  clear hsp hcell hmap hv
  obtain ⟨w2, hw2⟩ : ∃ w2, w2 = w1.alloc (.cells #[.string (bt form), .bool more, .bool false, .func (.func f) #[] caps] 87) := ⟨_, rfl⟩
  have hb2 : Below w1.heap.size w1 w2 := by rw [hw2]; exact (Below.refl _ _).alloc (Nat.le_refl _) _
  have HB2 : Hid (Below w1.heap.size w1 w2) := hb2
  have k0 : w2.cell? ⟨w1.heap.size, 0, none⟩ = some (.string (bt form)) := by rw [hw2]; simp
  have k1 : w2.cell? ⟨w1.heap.size, 1, none⟩ = some (.bool more) := by rw [hw2]; simp
  have k2 : w2.cell? ⟨w1.heap.size, 2, none⟩ = some (.bool false) := by rw [hw2]; simp
  have k3 : w2.cell? ⟨w1.heap.size, 3, none⟩ = some (.func (.func f) #[] caps) := by rw [hw2]; simp
  have hb0 : Below w2.heap.size w2 w2.drew := below_drewN (Below.refl _ _) 1
  have HC : Hid (∀ w', Below w2.heap.size w2 w' → w'.cell? ⟨w1.heap.size, 0, none⟩ = some (.string (bt form)) ∧ w'.cell? ⟨w1.heap.size, 1, none⟩ = some (.bool more) ∧ w'.cell? ⟨w1.heap.size, 2, none⟩ = some (.bool false) ∧ w'.cell? ⟨w1.heap.size, 3, none⟩ = some (.func (.func f) #[] caps)) := fun w' hb => ⟨below_cell hb k0, below_cell hb k1, below_cell hb k2, below_cell hb k3⟩
  clear hb1 hb2
  have hcal : ∀ w' sp sc, Below w2.heap.size w2 w' → (r = [] ∨ sp = some ⟨W.heap.size, 1, none⟩) → Calls Tryz.prog 109 #[.agg #[.string (bt form), .bool more, .bool false, .func (.func f) #[] caps], .slice sp r.length sc] w' fun e w'' => ∃ pn cn ph ch, e = .returned (.tuple #[.agg #[.slice pn N.length cn, .slice ph H.length ch], .bool true]) ∧ (w''.ownsRow w'.heap.size 3 1 (.slice pn N.length cn) N.length (N.map fun n => .int .i64 (n : Nat)) ∧ w''.ownsRow w'.heap.size 9 1 (.slice ph H.length ch) H.length (H.map Value.string) ∧ w2.heap.size ≤ w'.heap.size) ∧ Below w'.heap.size w' w'' ∧ Below w2.heap.size w2 w'' := fun w' sp sc hb hsp => (HRD.out w' sp sc (HS0.out.later (below_then (below_then HB1.out HB2.out) hb)) (by
    rcases hsp with rfl | rfl
    · exact fun k hk => absurd hk (Nat.not_lt_zero k)
    · exact HWA.out w' (below_then HB2.out hb))).mono fun _ _ ⟨pn, cn, ph, ch, q1, ⟨q3, q4⟩, q2⟩ => ⟨pn, cn, ph, ch, q1, ⟨q3, q4, hb.size⟩, q2, below_then hb q2⟩
  have HX0 : Hid (∀ w', Below w2.heap.size w2 w' → w'.cell? ⟨p, 0, none⟩ = some (.pointer none)) := fun w' hb => below_cell (below_then (below_then HB1.out HB2.out) hb) HX.out
  have s2 := below_cell HB2.out (HS0.out.later HB1.out).b.e5.s4
  have HST : Hid (∀ w', Below w2.heap.size w2 w' → w'.cell? ⟨4, 0, none⟩ = some (.iface 378 (.pointer (some (a 4))))) := fun w' hb => below_cell hb s2
  clear HRD HWA hwl s2 HX
  by_cases hre : r = []
  · subst hre
    go_wp2_with fail
    rw [← hw2]
    clear hw2
    go_region_held3 (fun w' => w'.cell? ⟨w1.heap.size, 0, none⟩ = some (.string (bt form)) ∧ w'.cell? ⟨w1.heap.size, 1, none⟩ = some (.bool more) ∧ w'.cell? ⟨w1.heap.size, 2, none⟩ = some (.bool false) ∧ w'.cell? ⟨w1.heap.size, 3, none⟩ = some (.func (.func f) #[] caps))
      (first | exact HC.out _ (by first | assumption | exact below_al (by assumption) _ | exact below_ald _ | exact ((by assumption : Below w2.heap.size w2 w3).setCell (Nat.le_refl _) _).setCell (Nat.le_refl _) _))
      (first
        | (go_at_call 109; refine (hcal _ _ _ (by first | assumption | exact below_ald _) (by simp)).mono ?_; rintro e w3 ⟨pn, cn, ph, ch, rfl, hrow, hb3, hb3'⟩; try (have hcf := al_cells hb3; obtain ⟨c0', c1', f0', f1'⟩ := hcf)))
    · obtain ⟨ron, roh, rle⟩ := hrow
      have hbf : Below w2.heap.size w2 (w3.alloc (.cells #[.slice pn N.length cn, .slice ph H.length ch] 83)) := below_al hb3' _
      have g0 : (w3.alloc (.cells #[.slice pn N.length cn, .slice ph H.length ch] 83)).cell? ⟨w3.heap.size, 0, none⟩ = some (.slice pn N.length cn) := by simp
      have g1 : (w3.alloc (.cells #[.slice pn N.length cn, .slice ph H.length ch] 83)).cell? ⟨w3.heap.size, 1, none⟩ = some (.slice ph H.length ch) := by simp
      have on : (w3.alloc (.cells #[.slice pn N.length cn, .slice ph H.length ch] 83)).ownsRow w2.heap.size 3 1 (.slice pn N.length cn) N.length (N.map fun n => .int .i64 (n : Nat)) := owns_base (ron.alloc _) rle
      have oh : (w3.alloc (.cells #[.slice pn N.length cn, .slice ph H.length ch] 83)).ownsRow w2.heap.size 9 1 (.slice ph H.length ch) H.length (H.map Value.string) := owns_base (roh.alloc _) rle
      have HON : Hid ((w3.alloc (.cells #[.slice pn N.length cn, .slice ph H.length ch] 83)).ownsRow w2.heap.size 3 1 (.slice pn N.length cn) N.length (N.map fun n => .int .i64 (n : Nat))) := on
      have HOH : Hid ((w3.alloc (.cells #[.slice pn N.length cn, .slice ph H.length ch] 83)).ownsRow w2.heap.size 9 1 (.slice ph H.length ch) H.length (H.map Value.string)) := oh
      have HBF : Hid (Below w2.heap.size w2 (w3.alloc (.cells #[.slice pn N.length cn, .slice ph H.length ch] 83))) := hbf
      obtain ⟨wb, hwb⟩ : ∃ wb, wb = w3.heap.size := ⟨_, rfl⟩
      clear on oh ron roh rle hb3 hb3' hbf hcal
      generalize (w3.alloc (.cells #[.slice pn N.length cn, .slice ph H.length ch] 83)) = wf at *
      rw [← hwb] at g0 g1
      rw [← hwb]
      clear hwb
      obtain ⟨k0', k1', k2', k3'⟩ := HC.out wf HBF.out
      have x0 := HX0.out wf HBF.out
      have s3 := HST.out wf HBF.out
      have HBG : Hid (Below w2.heap.size w2 wf.drew) := below_then HBF.out (below_drewN (Below.refl _ _) 1)
      clear HC HST HX0 HON HOH k0 k1 k2 k3 hb0 c0 hlk
      go_wp2_with fail
      go_region
      go_wp2
      go_ret2
      exact HEND.out _ _ (below_then (below_then HB1.out HB2.out) HBG.out)
    · obtain ⟨ron, roh, rle⟩ := hrow
      have hbf : Below w2.heap.size w2 ((w3.setCell ⟨w2.heap.size, 0, none⟩ (.slice pn N.length cn)).setCell ⟨w2.heap.size, 1, none⟩ (.slice ph H.length ch)) := (hb3'.setCell (p := ⟨w2.heap.size, 0, none⟩) (Nat.le_refl _) _).setCell (p := ⟨w2.heap.size, 1, none⟩) (Nat.le_refl _) _
      have g0 : ((w3.setCell ⟨w2.heap.size, 0, none⟩ (.slice pn N.length cn)).setCell ⟨w2.heap.size, 1, none⟩ (.slice ph H.length ch)).cell? ⟨w2.heap.size, 0, none⟩ = some (.slice pn N.length cn) := by
        rw [World.cell?_setCell_other _ _ _ _ (by simp)]
        exact World.cell?_setCell_same' _ _ _ (by rw [c0']; rfl)
      have g1 : ((w3.setCell ⟨w2.heap.size, 0, none⟩ (.slice pn N.length cn)).setCell ⟨w2.heap.size, 1, none⟩ (.slice ph H.length ch)).cell? ⟨w2.heap.size, 1, none⟩ = some (.slice ph H.length ch) := World.cell?_setCell_same' _ _ _ (by rw [World.cell?_setCell_other _ _ _ _ (by simp), c1']; rfl)
      have rlt : w2.heap.size < ((w2.alloc (.cells #[.slice none 0 0, .slice none 0 0] 83)).drew).heap.size := by simp
      have on : ((w3.setCell ⟨w2.heap.size, 0, none⟩ (.slice pn N.length cn)).setCell ⟨w2.heap.size, 1, none⟩ (.slice ph H.length ch)).ownsRow w2.heap.size 3 1 (.slice pn N.length cn) N.length (N.map fun n => .int .i64 (n : Nat)) := owns_base (howns_setCell (howns_setCell ron rlt _) rlt _) rle
      have oh : ((w3.setCell ⟨w2.heap.size, 0, none⟩ (.slice pn N.length cn)).setCell ⟨w2.heap.size, 1, none⟩ (.slice ph H.length ch)).ownsRow w2.heap.size 9 1 (.slice ph H.length ch) H.length (H.map Value.string) := owns_base (howns_setCell (howns_setCell roh rlt _) rlt _) rle
      have HON : Hid (((w3.setCell ⟨w2.heap.size, 0, none⟩ (.slice pn N.length cn)).setCell ⟨w2.heap.size, 1, none⟩ (.slice ph H.length ch)).ownsRow w2.heap.size 3 1 (.slice pn N.length cn) N.length (N.map fun n => .int .i64 (n : Nat))) := on
      have HOH : Hid (((w3.setCell ⟨w2.heap.size, 0, none⟩ (.slice pn N.length cn)).setCell ⟨w2.heap.size, 1, none⟩ (.slice ph H.length ch)).ownsRow w2.heap.size 9 1 (.slice ph H.length ch) H.length (H.map Value.string)) := oh
      have HBF : Hid (Below w2.heap.size w2 ((w3.setCell ⟨w2.heap.size, 0, none⟩ (.slice pn N.length cn)).setCell ⟨w2.heap.size, 1, none⟩ (.slice ph H.length ch))) := hbf
      obtain ⟨wb, hwb⟩ : ∃ wb, wb = w2.heap.size := ⟨_, rfl⟩
      clear on oh ron roh rle hb3 hb3' hbf hcal rlt c0' c1' f0' f1'
      generalize ((w3.setCell ⟨w2.heap.size, 0, none⟩ (.slice pn N.length cn)).setCell ⟨w2.heap.size, 1, none⟩ (.slice ph H.length ch)) = wf at *
      rw [← hwb] at g0 g1
      rw [← hwb]
      clear hwb
      obtain ⟨k0', k1', k2', k3'⟩ := HC.out wf HBF.out
      have x0 := HX0.out wf HBF.out
      have s3 := HST.out wf HBF.out
      have HBG : Hid (Below w2.heap.size w2 wf.drew) := below_then HBF.out (below_drewN (Below.refl _ _) 1)
      clear HC HST HX0 HON HOH k0 k1 k2 k3 hb0 c0 hlk
      go_wp2_with fail
      go_region
      go_wp2
      go_ret2
      exact HEND.out _ _ (below_then (below_then HB1.out HB2.out) HBG.out)
  · have hl0 : ¬ r.length = 0 := fun h => hre (List.length_eq_zero_iff.1 h)
    have hi1 : (1 : Int) ≤ (r.length : Int) + 1 := by omega
    go_wp2_with fail
    rw [← hw2]
    clear hw2
    go_region_held3 (fun w' => w'.cell? ⟨w1.heap.size, 0, none⟩ = some (.string (bt form)) ∧ w'.cell? ⟨w1.heap.size, 1, none⟩ = some (.bool more) ∧ w'.cell? ⟨w1.heap.size, 2, none⟩ = some (.bool false) ∧ w'.cell? ⟨w1.heap.size, 3, none⟩ = some (.func (.func f) #[] caps))
      (first | exact HC.out _ (by first | assumption | exact below_al (by assumption) _ | exact below_ald _ | exact ((by assumption : Below w2.heap.size w2 w3).setCell (Nat.le_refl _) _).setCell (Nat.le_refl _) _))
      (first
        | (go_at_call 109; refine (hcal _ _ _ (by first | assumption | exact below_ald _) (Or.inr rfl)).mono ?_; rintro e w3 ⟨pn, cn, ph, ch, rfl, hrow, hb3, hb3'⟩; try (have hcf := al_cells hb3; obtain ⟨c0', c1', f0', f1'⟩ := hcf)))
    · obtain ⟨ron, roh, rle⟩ := hrow
      have hbf : Below w2.heap.size w2 (w3.alloc (.cells #[.slice pn N.length cn, .slice ph H.length ch] 83)) := below_al hb3' _
      have g0 : (w3.alloc (.cells #[.slice pn N.length cn, .slice ph H.length ch] 83)).cell? ⟨w3.heap.size, 0, none⟩ = some (.slice pn N.length cn) := by simp
      have g1 : (w3.alloc (.cells #[.slice pn N.length cn, .slice ph H.length ch] 83)).cell? ⟨w3.heap.size, 1, none⟩ = some (.slice ph H.length ch) := by simp
      have on : (w3.alloc (.cells #[.slice pn N.length cn, .slice ph H.length ch] 83)).ownsRow w2.heap.size 3 1 (.slice pn N.length cn) N.length (N.map fun n => .int .i64 (n : Nat)) := owns_base (ron.alloc _) rle
      have oh : (w3.alloc (.cells #[.slice pn N.length cn, .slice ph H.length ch] 83)).ownsRow w2.heap.size 9 1 (.slice ph H.length ch) H.length (H.map Value.string) := owns_base (roh.alloc _) rle
      have HON : Hid ((w3.alloc (.cells #[.slice pn N.length cn, .slice ph H.length ch] 83)).ownsRow w2.heap.size 3 1 (.slice pn N.length cn) N.length (N.map fun n => .int .i64 (n : Nat))) := on
      have HOH : Hid ((w3.alloc (.cells #[.slice pn N.length cn, .slice ph H.length ch] 83)).ownsRow w2.heap.size 9 1 (.slice ph H.length ch) H.length (H.map Value.string)) := oh
      have HBF : Hid (Below w2.heap.size w2 (w3.alloc (.cells #[.slice pn N.length cn, .slice ph H.length ch] 83))) := hbf
      obtain ⟨wb, hwb⟩ : ∃ wb, wb = w3.heap.size := ⟨_, rfl⟩
      clear on oh ron roh rle hb3 hb3' hbf hcal
      generalize (w3.alloc (.cells #[.slice pn N.length cn, .slice ph H.length ch] 83)) = wf at *
      rw [← hwb] at g0 g1
      rw [← hwb]
      clear hwb
      obtain ⟨k0', k1', k2', k3'⟩ := HC.out wf HBF.out
      have x0 := HX0.out wf HBF.out
      have s3 := HST.out wf HBF.out
      have HBG : Hid (Below w2.heap.size w2 wf.drew) := below_then HBF.out (below_drewN (Below.refl _ _) 1)
      clear HC HST HX0 HON HOH k0 k1 k2 k3 hb0 c0 hlk
      go_wp2_with fail
      go_region
      go_wp2
      go_ret2
      exact HEND.out _ _ (below_then (below_then HB1.out HB2.out) HBG.out)
    · obtain ⟨ron, roh, rle⟩ := hrow
      have hbf : Below w2.heap.size w2 ((w3.setCell ⟨w2.heap.size, 0, none⟩ (.slice pn N.length cn)).setCell ⟨w2.heap.size, 1, none⟩ (.slice ph H.length ch)) := (hb3'.setCell (p := ⟨w2.heap.size, 0, none⟩) (Nat.le_refl _) _).setCell (p := ⟨w2.heap.size, 1, none⟩) (Nat.le_refl _) _
      have g0 : ((w3.setCell ⟨w2.heap.size, 0, none⟩ (.slice pn N.length cn)).setCell ⟨w2.heap.size, 1, none⟩ (.slice ph H.length ch)).cell? ⟨w2.heap.size, 0, none⟩ = some (.slice pn N.length cn) := by
        rw [World.cell?_setCell_other _ _ _ _ (by simp)]
        exact World.cell?_setCell_same' _ _ _ (by rw [c0']; rfl)
      have g1 : ((w3.setCell ⟨w2.heap.size, 0, none⟩ (.slice pn N.length cn)).setCell ⟨w2.heap.size, 1, none⟩ (.slice ph H.length ch)).cell? ⟨w2.heap.size, 1, none⟩ = some (.slice ph H.length ch) := World.cell?_setCell_same' _ _ _ (by rw [World.cell?_setCell_other _ _ _ _ (by simp), c1']; rfl)
      have rlt : w2.heap.size < ((w2.alloc (.cells #[.slice none 0 0, .slice none 0 0] 83)).drew).heap.size := by simp
      have on : ((w3.setCell ⟨w2.heap.size, 0, none⟩ (.slice pn N.length cn)).setCell ⟨w2.heap.size, 1, none⟩ (.slice ph H.length ch)).ownsRow w2.heap.size 3 1 (.slice pn N.length cn) N.length (N.map fun n => .int .i64 (n : Nat)) := owns_base (howns_setCell (howns_setCell ron rlt _) rlt _) rle
      have oh : ((w3.setCell ⟨w2.heap.size, 0, none⟩ (.slice pn N.length cn)).setCell ⟨w2.heap.size, 1, none⟩ (.slice ph H.length ch)).ownsRow w2.heap.size 9 1 (.slice ph H.length ch) H.length (H.map Value.string) := owns_base (howns_setCell (howns_setCell roh rlt _) rlt _) rle
      have HON : Hid (((w3.setCell ⟨w2.heap.size, 0, none⟩ (.slice pn N.length cn)).setCell ⟨w2.heap.size, 1, none⟩ (.slice ph H.length ch)).ownsRow w2.heap.size 3 1 (.slice pn N.length cn) N.length (N.map fun n => .int .i64 (n : Nat))) := on
      have HOH : Hid (((w3.setCell ⟨w2.heap.size, 0, none⟩ (.slice pn N.length cn)).setCell ⟨w2.heap.size, 1, none⟩ (.slice ph H.length ch)).ownsRow w2.heap.size 9 1 (.slice ph H.length ch) H.length (H.map Value.string)) := oh
      have HBF : Hid (Below w2.heap.size w2 ((w3.setCell ⟨w2.heap.size, 0, none⟩ (.slice pn N.length cn)).setCell ⟨w2.heap.size, 1, none⟩ (.slice ph H.length ch))) := hbf
      obtain ⟨wb, hwb⟩ : ∃ wb, wb = w2.heap.size := ⟨_, rfl⟩
      clear on oh ron roh rle hb3 hb3' hbf hcal rlt c0' c1' f0' f1'
      generalize ((w3.setCell ⟨w2.heap.size, 0, none⟩ (.slice pn N.length cn)).setCell ⟨w2.heap.size, 1, none⟩ (.slice ph H.length ch)) = wf at *
      rw [← hwb] at g0 g1
      rw [← hwb]
      clear hwb
      obtain ⟨k0', k1', k2', k3'⟩ := HC.out wf HBF.out
      have x0 := HX0.out wf HBF.out
      have s3 := HST.out wf HBF.out
      have HBG : Hid (Below w2.heap.size w2 wf.drew) := below_then HBF.out (below_drewN (Below.refl _ _) 1)
      clear HC HST HX0 HON HOH k0 k1 k2 k3 hb0 c0 hlk
      go_wp2_with fail
      go_region
      go_wp2
      go_ret2
      exact HEND.out _ _ (below_then (below_then HB1.out HB2.out) HBG.out)
end Go.Proofs.YtfhmfjcpggddkaaGreatDoor
