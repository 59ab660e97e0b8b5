/- The model of flows: lay. -/
import Derived.Test.YtmdckddenelneaaGreatDoorM21
import Derived.BigQuiet
import Derived.Deep.QuietTactic
import Derived.Laws.AppendOwnNone
import Derived.Test.YtmdckddenelneaaGreatDoorM20
namespace Go.Proofs.YtmdckddenelneaaGreatDoor
open Go.RowKit

theorem flay_at {L : List Lh.Fl} {x : Lh.Fl} {k : Nat} (hk : k ≤ L.length) (h1 : ∀ j (h : j < L.length), j < k → (L[j]).1 < x.1) (h2 : ∀ h : k < L.length, ¬ (L[k]).1 < x.1) : Lh.flay x L = L.take k ++ x :: L.drop k := by
  induction L generalizing k with
  | nil =>
    simp at hk
    subst hk
    rfl
  | cons y L ih =>
    match k with
    | 0 =>
      have hy : ¬ y.1 < x.1 := h2 (by simp)
      simp [Lh.flay, hy]
    | k + 1 =>
      have hy : y.1 < x.1 := h1 0 (by simp) (by omega)
      have := ih (k := k) (by simpa using hk) (fun j h hj => h1 (j + 1) (by simpa using h) (by omega)) (fun h => h2 (by simpa using h))
      simp only [Lh.flay] at this ⊢
      rw [List.takeWhile_cons_of_pos (by simpa using hy), List.dropWhile_cons_of_pos (by simpa using hy), List.take_succ_cons, List.drop_succ_cons, List.cons_append, this, List.cons_append]
theorem cellsX {w : World} {t : TypeId} (x : Lh.Fl) : ∀ j u, (encF x)[j]? = some u → (w.alloc (.cells #[.int .u64 (x.1 : Nat), .string x.2.1, .int .i64 x.2.2] t)).cell? ((⟨w.heap.size, 0, none⟩ : Addr).add j) = some u := by
  intro j u hu
  match j, hu with
  | 0, hu => simp [encF] at hu; subst hu; simp [Addr.add]
  | 1, hu => simp [encF] at hu; subst hu; simp [Addr.add]
  | 2, hu => simp [encF] at hu; subst hu; simp [Addr.add]
  | j + 3, hu => simp [encF] at hu
theorem encF_one (x : Lh.Fl) : ∀ u ∈ encF x, u.oneCell' = true := by
  intro u hu
  simp [encF] at hu
  rcases hu with rfl | rfl | rfl <;> rfl

set_option maxRecDepth 100000 in
set_option maxHeartbeats 2000000 in
theorem flay_some {W : World} {m t : Nat} {la : Int} {L : List Lh.Fl} {g cap : Nat} (h : MF W m t la L (.slice (some ⟨g, 0, none⟩) L.length cap)) (hl : L.length ≤ 1000) (hcap : L.length ≤ cap) (hcm : cap ≤ maxLen) (x : Lh.Fl) :
    Calls Tryz.prog 137 #[.pointer (some ⟨m, 0, none⟩), .agg #[.int .u64 (x.1 : Nat), .string x.2.1, .int .i64 x.2.2]] W fun e w' => ∃ lv', e = .returned (.tuple #[]) ∧ MF w' m t la (Lh.flay x L) lv' ∧ Tur (FFoot m (.slice (some ⟨g, 0, none⟩) L.length cap)) W w' ∧ ∀ b, FFoot m lv' b → FFoot m (.slice (some ⟨g, 0, none⟩) L.length cap) b ∨ W.heap.size ≤ b := by
  obtain ⟨i, hi, hz0, hz1, hz2⟩ := info_parts infoFl
  have hb0 : Below W.heap.size W (W.alloc (.cells #[.int .u64 (x.1 : Nat), .string x.2.1, .int .i64 x.2.2] 82)) := (Below.refl _ _).alloc (Nat.le_refl _) _
  have HM : Hid (MF W m t la L (.slice (some ⟨g, 0, none⟩) L.length cap)) := h
  have hmlt := h.mlt
  have HX0 : Hid (∀ w', Below (W.alloc (.cells #[.int .u64 (x.1 : Nat), .string x.2.1, .int .i64 x.2.2] 82)).heap.size (W.alloc (.cells #[.int .u64 (x.1 : Nat), .string x.2.1, .int .i64 x.2.2] 82)) w' → w'.cell? ⟨W.heap.size, 0, none⟩ = some (.int .u64 (x.1 : Nat)) ∧ w'.cell? ⟨W.heap.size, 1, none⟩ = some (.string x.2.1) ∧ w'.cell? ⟨W.heap.size, 2, none⟩ = some (.int .i64 x.2.2)) := fun w' hb => ⟨below_cell hb (by simp), below_cell hb (by simp), below_cell hb (by simp)⟩
  have HK : Hid (∀ k (hk : k < L.length) w', Below W.heap.size W w' → w'.cell? ⟨g, k * 3, none⟩ = some (.int .u64 ((L[k]).1 : Nat))) := fun k hk w' hb => below_cell hb (frow_cells h.own _ _ (flatF_get L k hk).1)
  have HB0 : Hid (Below W.heap.size W (W.alloc (.cells #[.int .u64 (x.1 : Nat), .string x.2.1, .int .i64 x.2.2] 82))) := hb0
  have hcm' := hcm
  unfold maxLen at hcm'
  clear h hb0
  go_enter Tryz.func137, Tryz.ntmps137
  go_wp2_with fail
  generalize W.alloc (.cells #[.int .u64 (x.1 : Nat), .string x.2.1, .int .i64 x.2.2] 82) = W0 at *
  go_loopw [4] (fun u w' => Below W0.heap.size W0 w' ∧ ∃ k : Nat, k ≤ L.length ∧ u = .int .i64 (k : Nat) ∧ ∀ j (h : j < L.length), j < k → (L[j]).1 < x.1) (fun u _ => L.length - (intOf u).toNat)
  case atStart => exact ⟨Below.refl _ _, 0, Nat.zero_le _, rfl, fun j _ h => absurd h (by omega)⟩
  case round =>
    obtain ⟨hb, k, hk, rfl, hp⟩ := hrel
    have HP : Hid (∀ j (h : j < L.length), j < k → (L[j]).1 < x.1) := hp
    clear hp
    have hbW := below_then HB0.out hb
    obtain ⟨x0, x1, x2⟩ := HX0.out wr hb
    have c2 : wr.cell? ⟨m, 2, none⟩ = some (.slice (some ⟨g, 0, none⟩) L.length cap) := below_cell hbW HM.out.c2
    by_cases hlt : k < L.length
    · have hki : (k : Int) < (L.length : Int) := by omega
      have ck := HK.out k hlt wr hbW
      by_cases hkx : (L[k]).1 < x.1
      · have d : decide (((L[k]).1 : Int) < (x.1 : Int)) = true := by simp; omega
        have HPN : Hid (∀ j (h : j < L.length), j < k + 1 → (L[j]).1 < x.1) := fun j h hj => by
          by_cases e : j = k
          · subst e; exact hkx
          · exact HP.out j h (by omega)
        generalize (L[k]).1 = z at *
        generalize x.1 = xk at *
        go_wp2_with fail
        go_quiet (fail)
        go_wp2
        exact ⟨⟨below_drewN hb nq, k + 1, by omega, by go_num, HPN.out⟩, by simp [intOf]; omega⟩
      · have d : decide (((L[k]).1 : Int) < (x.1 : Int)) = false := by simp; omega
        have HFL : Hid (Lh.flay x L = L.take k ++ x :: L.drop k) := flay_at hk HP.out (fun _ => hkx)
        have hkc : k < cap := by omega
        go_wp2_with fail
        go_quiet (fail)
        clear ck d hkx
        have hbx : Below W0.heap.size W0 (wr.drewN nq) := below_drewN hb nq
        clear x0 x1 x2 c2 hb hbW
        generalize wr.drewN nq = wx at *
        have hbW := below_then HB0.out hbx
        have c2 : wx.cell? ⟨m, 2, none⟩ = some (.slice (some ⟨g, 0, none⟩) L.length cap) := below_cell hbW HM.out.c2
        have hs1 : ∀ j u, (flatF (L.take k))[j]? = some u → wx.cell? ((⟨g, 0, none⟩ : Addr).add j) = some u := fun j u hu => by
          have hj : j < (flatF (L.take k)).length := (List.getElem?_eq_some_iff.1 hu).1
          rw [flatF_length, List.length_take] at hj
          rw [flatF_take, List.getElem?_take_of_lt (by omega)] at hu
          rw [Addr.add_lit, Nat.zero_add]
          exact below_cell hbW (frow_cells HM.out.own j u hu)
        have hl1 : (flatF (L.take k)).length = k * 3 := by rw [flatF_length, List.length_take]; congr 1; omega
        have hm1 : 0 + k ≤ maxLen := by unfold maxLen; omega
        go_wp2_with (at_builtin; refine wpList_append_own _ rfl _ _ 48 rfl W.heap.size 82 i _ 3 32 Tryz.underlying48 hi hz0 hz1 hz2 rfl (by decide) (.slice none 0 0) 0 [] rfl (World.ownsRow_nil _ _ _ _) ⟨g, 0, none⟩ k cap (flatF (L.take k)) rfl hl1 hs1 (flatF_one _) hm1 (by omega) hbW.size ?_)
        intro v4 w4 hown4 hg4 _
        have hR4 : Below wx.heap.size wx w4 := below_grown hg4 (fun k h => by cases h)
        have hb4 : Below W.heap.size W w4 := below_then hbW hR4
        obtain ⟨x0, x1, x2⟩ := HX0.out w4 (below_then hbx hR4)
        have hown4' := hown4.alloc (.cells #[.int .u64 (x.1 : Nat), .string x.2.1, .int .i64 x.2.2] 82)
        have hnews := cellsX (w := w4) (t := 82) x
        have hb4' : Below W.heap.size W (w4.alloc (.cells #[.int .u64 (x.1 : Nat), .string x.2.1, .int .i64 x.2.2] 82)) := hb4.alloc hb4.size _
        have hm2 : k + 1 ≤ maxLen := by unfold maxLen; omega
        clear hs1 hl1 hg4 c2 hown4
        go_wp2_with (at_builtin; refine wpList_append_own _ rfl _ _ 48 rfl W.heap.size 82 i _ 3 32 Tryz.underlying48 hi hz0 hz1 hz2 rfl (by decide) v4 k (flatF (L.take k)) rfl hown4' ⟨w4.heap.size, 0, none⟩ 1 1 (encF x) rfl rfl hnews (encF_one x) hm2 (by omega) hb4'.size ?_)
        intro v5 w5 hown5 hg5 _
        have hb5 : Below W.heap.size W w5 := hb4'.grown hg5 hb4'.size (fun k h => (hown4'.lt k h).1)
        have c5 : w5.cell? ⟨m, 2, none⟩ = some (.slice (some ⟨g, 0, none⟩) L.length cap) := below_cell hb5 HM.out.c2
        clear hg5 hown4' hnews hb4' hb4 x0 x1 x2
        have hs2 : ∀ j u, (flatF (L.drop k))[j]? = some u → w5.cell? ((⟨g, k * 3, none⟩ : Addr).add j) = some u := fun j u hu => by
          rw [flatF_drop, List.getElem?_drop] at hu
          rw [Addr.add_lit]
          exact below_cell hb5 (frow_cells HM.out.own _ u hu)
        have hl2 : (flatF (L.drop k)).length = (L.length - k) * 3 := by rw [flatF_length, List.length_drop]
        have hm3 : k + 1 + (L.length - k) ≤ maxLen := by unfold maxLen; omega
        go_wp2_with (at_builtin; refine wpList_append_own _ rfl _ _ 48 rfl W.heap.size 82 i _ 3 32 Tryz.underlying48 hi hz0 hz1 hz2 rfl (by decide) v5 (k + 1) (flatF (L.take k) ++ encF x) rfl hown5 ⟨g, k * 3, none⟩ (L.length - k) _ (flatF (L.drop k)) rfl hl2 hs2 (flatF_one _) hm3 (by omega) hb5.size ?_)
        intro v6 w6 hown6 hg6 _
        have hb6 : Below W.heap.size W w6 := hb5.grown hg6 hb5.size (fun k h => (hown5.lt k h).1)
        have hown7 : w6.ownsRow W.heap.size 82 3 v6 (Lh.flay x L).length (flatF (Lh.flay x L)) := by
          have e2 : (L.take k ++ x :: L.drop k).length = k + 1 + (L.length - k) := by rw [List.length_append, List.length_cons, List.length_take, List.length_drop]; omega
          have e3 : flatF (L.take k ++ x :: L.drop k) = flatF (L.take k) ++ (encF x ++ flatF (L.drop k)) := by
            rw [flatF_append]
            rfl
          rw [HFL.out, e2, e3]
          exact hown6
        clear hs2 hl2
        obtain ⟨p6, cp6, rfl⟩ := fown_shape hown6
        have HEH : Hid _ := HM.out.laid hb6 hown7
        have c6 : w6.cell? ⟨m, 2, none⟩ = some (.slice (some ⟨g, 0, none⟩) L.length cap) := below_cell hb6 HM.out.c2
        have f6 : w6.frozen? ⟨m, 2, none⟩ = false := by rw [hb6.frozen hmlt]; exact HM.out.fz 2
        clear hown5 hown6 hown7 hg6 hm1 hm2 hm3 c5
        go_wp2
        go_end0
        exact ⟨_, rfl, HEH.out⟩
    · have hki : decide ((k : Int) < (L.length : Int)) = false := by simp; omega
      have hkl : k = L.length := by omega
      have HFL : Hid (Lh.flay x L = L.take k ++ x :: L.drop k) := flay_at hk HP.out (fun h => absurd h hlt)
      by_cases hkc : k < cap
      · clear hkl
        go_wp2_with fail
        go_quiet (fail)
        clear hki
        have hbx : Below W0.heap.size W0 (wr.drewN nq) := below_drewN hb nq
        clear x0 x1 x2 c2 hb hbW
        generalize wr.drewN nq = wx at *
        have hbW := below_then HB0.out hbx
        have c2 : wx.cell? ⟨m, 2, none⟩ = some (.slice (some ⟨g, 0, none⟩) L.length cap) := below_cell hbW HM.out.c2
        have hs1 : ∀ j u, (flatF (L.take k))[j]? = some u → wx.cell? ((⟨g, 0, none⟩ : Addr).add j) = some u := fun j u hu => by
          have hj : j < (flatF (L.take k)).length := (List.getElem?_eq_some_iff.1 hu).1
          rw [flatF_length, List.length_take] at hj
          rw [flatF_take, List.getElem?_take_of_lt (by omega)] at hu
          rw [Addr.add_lit, Nat.zero_add]
          exact below_cell hbW (frow_cells HM.out.own j u hu)
        have hl1 : (flatF (L.take k)).length = k * 3 := by rw [flatF_length, List.length_take]; congr 1; omega
        have hm1 : 0 + k ≤ maxLen := by unfold maxLen; omega
        go_wp2_with (at_builtin; refine wpList_append_own _ rfl _ _ 48 rfl W.heap.size 82 i _ 3 32 Tryz.underlying48 hi hz0 hz1 hz2 rfl (by decide) (.slice none 0 0) 0 [] rfl (World.ownsRow_nil _ _ _ _) ⟨g, 0, none⟩ k cap (flatF (L.take k)) rfl hl1 hs1 (flatF_one _) hm1 (by omega) hbW.size ?_)
        intro v4 w4 hown4 hg4 _
        have hR4 : Below wx.heap.size wx w4 := below_grown hg4 (fun k h => by cases h)
        have hb4 : Below W.heap.size W w4 := below_then hbW hR4
        obtain ⟨x0, x1, x2⟩ := HX0.out w4 (below_then hbx hR4)
        have hown4' := hown4.alloc (.cells #[.int .u64 (x.1 : Nat), .string x.2.1, .int .i64 x.2.2] 82)
        have hnews := cellsX (w := w4) (t := 82) x
        have hb4' : Below W.heap.size W (w4.alloc (.cells #[.int .u64 (x.1 : Nat), .string x.2.1, .int .i64 x.2.2] 82)) := hb4.alloc hb4.size _
        have hm2 : k + 1 ≤ maxLen := by unfold maxLen; omega
        clear hs1 hl1 hg4 c2 hown4
        go_wp2_with (at_builtin; refine wpList_append_own _ rfl _ _ 48 rfl W.heap.size 82 i _ 3 32 Tryz.underlying48 hi hz0 hz1 hz2 rfl (by decide) v4 k (flatF (L.take k)) rfl hown4' ⟨w4.heap.size, 0, none⟩ 1 1 (encF x) rfl rfl hnews (encF_one x) hm2 (by omega) hb4'.size ?_)
        intro v5 w5 hown5 hg5 _
        have hb5 : Below W.heap.size W w5 := hb4'.grown hg5 hb4'.size (fun k h => (hown4'.lt k h).1)
        have c5 : w5.cell? ⟨m, 2, none⟩ = some (.slice (some ⟨g, 0, none⟩) L.length cap) := below_cell hb5 HM.out.c2
        clear hg5 hown4' hnews hb4' hb4 x0 x1 x2
        have hs2 : ∀ j u, (flatF (L.drop k))[j]? = some u → w5.cell? ((⟨g, k * 3, none⟩ : Addr).add j) = some u := fun j u hu => by
          rw [flatF_drop, List.getElem?_drop] at hu
          rw [Addr.add_lit]
          exact below_cell hb5 (frow_cells HM.out.own _ u hu)
        have hl2 : (flatF (L.drop k)).length = (L.length - k) * 3 := by rw [flatF_length, List.length_drop]
        have hm3 : k + 1 + (L.length - k) ≤ maxLen := by unfold maxLen; omega
        go_wp2_with (at_builtin; refine wpList_append_own _ rfl _ _ 48 rfl W.heap.size 82 i _ 3 32 Tryz.underlying48 hi hz0 hz1 hz2 rfl (by decide) v5 (k + 1) (flatF (L.take k) ++ encF x) rfl hown5 ⟨g, k * 3, none⟩ (L.length - k) _ (flatF (L.drop k)) rfl hl2 hs2 (flatF_one _) hm3 (by omega) hb5.size ?_)
        intro v6 w6 hown6 hg6 _
        have hb6 : Below W.heap.size W w6 := hb5.grown hg6 hb5.size (fun k h => (hown5.lt k h).1)
        have hown7 : w6.ownsRow W.heap.size 82 3 v6 (Lh.flay x L).length (flatF (Lh.flay x L)) := by
          have e2 : (L.take k ++ x :: L.drop k).length = k + 1 + (L.length - k) := by rw [List.length_append, List.length_cons, List.length_take, List.length_drop]; omega
          have e3 : flatF (L.take k ++ x :: L.drop k) = flatF (L.take k) ++ (encF x ++ flatF (L.drop k)) := by
            rw [flatF_append]
            rfl
          rw [HFL.out, e2, e3]
          exact hown6
        clear hs2 hl2
        obtain ⟨p6, cp6, rfl⟩ := fown_shape hown6
        have HEH : Hid _ := HM.out.laid hb6 hown7
        have c6 : w6.cell? ⟨m, 2, none⟩ = some (.slice (some ⟨g, 0, none⟩) L.length cap) := below_cell hb6 HM.out.c2
        have f6 : w6.frozen? ⟨m, 2, none⟩ = false := by rw [hb6.frozen hmlt]; exact HM.out.fz 2
        clear hown5 hown6 hown7 hg6 hm1 hm2 hm3 c5
        go_wp2
        go_end0
        exact ⟨_, rfl, HEH.out⟩
      · have hke : k = cap := by omega
        subst hke
        clear hkl hkc
        go_wp2_with fail
        go_quiet (fail)
        clear hki
        have hbx : Below W0.heap.size W0 (wr.drewN nq) := below_drewN hb nq
        clear x0 x1 x2 c2 hb hbW
        generalize wr.drewN nq = wx at *
        have hbW := below_then HB0.out hbx
        have c2 : wx.cell? ⟨m, 2, none⟩ = some (.slice (some ⟨g, 0, none⟩) L.length k) := below_cell hbW HM.out.c2
        have hs1 : ∀ j u, (flatF (L.take k))[j]? = some u → wx.cell? ((⟨g, 0, none⟩ : Addr).add j) = some u := fun j u hu => by
          have hj : j < (flatF (L.take k)).length := (List.getElem?_eq_some_iff.1 hu).1
          rw [flatF_length, List.length_take] at hj
          rw [flatF_take, List.getElem?_take_of_lt (by omega)] at hu
          rw [Addr.add_lit, Nat.zero_add]
          exact below_cell hbW (frow_cells HM.out.own j u hu)
        have hl1 : (flatF (L.take k)).length = k * 3 := by rw [flatF_length, List.length_take]; congr 1; omega
        have hm1 : 0 + k ≤ maxLen := by unfold maxLen; omega
        go_wp2_with (at_builtin; refine wpList_append_own _ rfl _ _ 48 rfl W.heap.size 82 i _ 3 32 Tryz.underlying48 hi hz0 hz1 hz2 rfl (by decide) (.slice none 0 0) 0 [] rfl (World.ownsRow_nil _ _ _ _) ⟨g, 0, none⟩ k k (flatF (L.take k)) rfl hl1 hs1 (flatF_one _) hm1 (by omega) hbW.size ?_)
        intro v4 w4 hown4 hg4 _
        have hR4 : Below wx.heap.size wx w4 := below_grown hg4 (fun k h => by cases h)
        have hb4 : Below W.heap.size W w4 := below_then hbW hR4
        obtain ⟨x0, x1, x2⟩ := HX0.out w4 (below_then hbx hR4)
        have hown4' := hown4.alloc (.cells #[.int .u64 (x.1 : Nat), .string x.2.1, .int .i64 x.2.2] 82)
        have hnews := cellsX (w := w4) (t := 82) x
        have hb4' : Below W.heap.size W (w4.alloc (.cells #[.int .u64 (x.1 : Nat), .string x.2.1, .int .i64 x.2.2] 82)) := hb4.alloc hb4.size _
        have hm2 : k + 1 ≤ maxLen := by unfold maxLen; omega
        clear hs1 hl1 hg4 c2 hown4
        go_wp2_with (at_builtin; refine wpList_append_own _ rfl _ _ 48 rfl W.heap.size 82 i _ 3 32 Tryz.underlying48 hi hz0 hz1 hz2 rfl (by decide) v4 k (flatF (L.take k)) rfl hown4' ⟨w4.heap.size, 0, none⟩ 1 1 (encF x) rfl rfl hnews (encF_one x) hm2 (by omega) hb4'.size ?_)
        intro v5 w5 hown5 hg5 _
        have hb5 : Below W.heap.size W w5 := hb4'.grown hg5 hb4'.size (fun k h => (hown4'.lt k h).1)
        have c5 : w5.cell? ⟨m, 2, none⟩ = some (.slice (some ⟨g, 0, none⟩) L.length k) := below_cell hb5 HM.out.c2
        clear hg5 hown4' hnews hb4' hb4 x0 x1 x2
        have hs2 : ∀ j u, ([] : List Value)[j]? = some u → w5.cell? ((⟨g, 0, none⟩ : Addr).add j) = some u := fun j u hu => by
          simp at hu
        have hm3 : k + 1 + 0 ≤ maxLen := by unfold maxLen; omega
        go_wp2_with (at_builtin; refine wpList_append_own _ rfl _ _ 48 rfl W.heap.size 82 i _ 3 32 Tryz.underlying48 hi hz0 hz1 hz2 rfl (by decide) v5 (k + 1) (flatF (L.take k) ++ encF x) rfl hown5 ⟨g, 0, none⟩ 0 _ [] rfl rfl hs2 (fun u hu => by cases hu) hm3 (by omega) hb5.size ?_)
        intro v6 w6 hown6 hg6 _
        have hb6 : Below W.heap.size W w6 := hb5.grown hg6 hb5.size (fun k h => (hown5.lt k h).1)
        have hown7 : w6.ownsRow W.heap.size 82 3 v6 (Lh.flay x L).length (flatF (Lh.flay x L)) := by
          have e2 : (L.take k ++ x :: L.drop k).length = k + 1 + 0 := by rw [List.length_append, List.length_cons, List.length_take, List.length_drop]; omega
          have e3 : flatF (L.take k ++ x :: L.drop k) = flatF (L.take k) ++ encF x := by
            rw [flatF_append, List.drop_eq_nil_of_le (by omega)]
            rfl
          rw [HFL.out, e2, e3]
          exact hown6
        clear hs2
        obtain ⟨p6, cp6, rfl⟩ := fown_shape hown6
        have HEH : Hid _ := HM.out.laid hb6 hown7
        have c6 : w6.cell? ⟨m, 2, none⟩ = some (.slice (some ⟨g, 0, none⟩) L.length k) := below_cell hb6 HM.out.c2
        have f6 : w6.frozen? ⟨m, 2, none⟩ = false := by rw [hb6.frozen hmlt]; exact HM.out.fz 2
        clear hown5 hown6 hown7 hg6 hm1 hm2 hm3 c5
        go_wp2
        go_end0
        exact ⟨_, rfl, HEH.out⟩
end Go.Proofs.YtmdckddenelneaaGreatDoor

/- The law FlowsActs: LongFlows and OwnFlows. -/
namespace Go.Proofs.YtmdckddenelneaaGreatDoor
open Go.RowKit

theorem flows_of_owns {w : World} {base : Nat} {v : Value} {l : List Lh.Fl} (h : w.ownsRow base 82 3 v l.length (flatF l)) : Flows1 w v l ∧ ∀ b o n c, v = .slice (some ⟨b, o, none⟩) n c → base ≤ b := by
  rcases h with ⟨hl, ⟨rfl, h0⟩ | ⟨g, cap, cur, rfl, h2, h3, h4, h5, h6, h7⟩⟩
  · exact ⟨Or.inl ⟨List.eq_nil_of_length_eq_zero h0, Or.inl rfl⟩, fun b o n c e => by cases e⟩
  · have hown : w.ownsRow base 82 3 (.slice (some ⟨g, 0, none⟩) l.length cap) l.length (flatF l) := ⟨hl, Or.inr ⟨g, cap, cur, rfl, h2, h3, h4, h5, h6, h7⟩⟩
    refine ⟨Or.inr ⟨g, 0, cap, rfl, h4, fun i hi => ?_⟩, fun b o n c e => by cases e; exact h2⟩
    obtain ⟨g0, g1, g2⟩ := flatF_get l i hi
    simp only [Nat.zero_add]
    exact ⟨frow_cells hown _ _ g0, frow_cells hown _ _ g1, frow_cells hown _ _ g2⟩

end Go.Proofs.YtmdckddenelneaaGreatDoor
