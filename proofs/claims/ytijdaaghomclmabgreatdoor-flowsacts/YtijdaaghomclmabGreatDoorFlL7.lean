/- The landed flows: slices.IndexFunc of the first whose host is no name. -/
import Derived.Test.YtijdaaghomclmabGreatDoorFlL6
import Derived.Test.YtijdaaghomclmabGreatDoorFlRef8
namespace Go.Proofs.YtijdaaghomclmabGreatDoor
open Go.RowKit Go.Maps Go.ChangeMaps Go.Shelf
section
variable {W W' : World} {p mb t : Nat} {la : Int} {L : List Lh.Fl}

set_option maxHeartbeats 2000000 in
theorem addC (a : Nat → Addr) (he : EF a W) (x : Lh.Fl) (hs : x.2.1.size ≤ 300) :
    Calls Tryz.prog 37 #[.agg #[.int .u64 (x.1 : Nat), .string x.2.1, .int .i64 x.2.2]] W fun e W' => e = .returned (.bool (!Lh.isNm x.2.1)) ∧ Below W.heap.size W W' := by
  have hb0 : Below W.heap.size W (W.alloc (.cells #[.int .u64 (x.1 : Nat), .string x.2.1, .int .i64 x.2.2] 64)) := (Below.refl _ _).alloc (Nat.le_refl _) _
  have hnm := isNameF_any a (he.later hb0) x.2.1 hs
  clear he
  generalize Lh.isNm x.2.1 = q at *
  go_enter Tryz.func37, Tryz.ntmps37
  go_wp2_with fail
  refine hnm.mono ?_
  rintro e w1 ⟨rfl, hb1⟩
  clear hnm
  go_wp2
  go_ret
  exact ⟨rfl, below_then hb0 hb1⟩

set_option maxRecDepth 100000 in
set_option maxHeartbeats 4000000 in
theorem indexF (a : Nat → Addr) (he : EF a W) (pv : Option Addr) (c : Nat) (l : List Lh.Fl) (hl : l.length ≤ 1000) (hin : ∀ x ∈ l, x.2.1.size ≤ 300)
    (hc : ∀ i (hi : i < l.length), ∃ b o, pv = some ⟨b, o, none⟩ ∧ W.cell? ⟨b, o + i * 3, none⟩ = some (.int .u64 (l[i].1 : Nat)) ∧ W.cell? ⟨b, o + i * 3 + 1, none⟩ = some (.string l[i].2.1) ∧ W.cell? ⟨b, o + i * 3 + 2, none⟩ = some (.int .i64 l[i].2.2)) :
    Calls Tryz.prog 36 #[.slice pv l.length c, .func (.func 37) #[] #[]] W fun e W' => Below W.heap.size W W' ∧ (((∀ x ∈ l, Lh.isNm x.2.1 = true) ∧ e = .returned (.int .i64 (-1))) ∨ ∃ i, NmAt l i ∧ e = .returned (.int .i64 (i : Nat))) := by
  have HC : Hid (∀ i (hi : i < l.length), ∃ b o, pv = some ⟨b, o, none⟩ ∧ W.cell? ⟨b, o + i * 3, none⟩ = some (.int .u64 (l[i].1 : Nat)) ∧ W.cell? ⟨b, o + i * 3 + 1, none⟩ = some (.string l[i].2.1) ∧ W.cell? ⟨b, o + i * 3 + 2, none⟩ = some (.int .i64 l[i].2.2)) := hc
  have HE : Hid (EF a W) := he
  have HI : Hid (∀ x ∈ l, x.2.1.size ≤ 300) := hin
  have eg := enters_of Tryz.func37 (by kernel_rfl) rfl
  clear hc he hin
  go_enter Tryz.func36, Tryz.ntmps36
  go_wp2_with fail
  go_loopw [5, 8] (fun _ u wr => Below W.heap.size W wr ∧ ∃ k : Nat, k ≤ l.length ∧ u = .int .i64 (k : Nat) ∧ ∀ j (hj : j < l.length), j < k → Lh.isNm (l[j]).2.1 = true) (fun _ u _ => l.length - (intOf u).toNat)
  case atStart => exact ⟨Below.refl _ _, 0, Nat.zero_le _, rfl, fun j _ h => absurd h (by omega)⟩
  case round =>
    obtain ⟨hb, k, hk, rfl, hp⟩ := hrel
    have HP : Hid (∀ j (hj : j < l.length), j < k → Lh.isNm (l[j]).2.1 = true) := hp
    clear hp
    by_cases hlt : k < l.length
    · have hki : (k : Int) < (l.length : Int) := by omega
      obtain ⟨b, o, rfl, x0, x1, x2⟩ := HC.out k hlt
      replace x0 := below_cell hb x0
      replace x1 := below_cell hb x1
      replace x2 := below_cell hb x2
      have hsz := HI.out _ (List.getElem_mem hlt)
      obtain ⟨x, hx⟩ : ∃ x, l[k] = x := ⟨_, rfl⟩
      rw [hx] at x0 x1 x2 hsz
      have HX : Hid (l[k] = x) := hx
      have hcall := addC a (HE.out.later hb) x hsz
      clear hx hsz
      cases hn : Lh.isNm x.2.1 with
      | true =>
        rw [hn] at hcall
        simp only [Bool.not_true] at hcall
        have HN : Hid (∀ j (hj : j < l.length), j < k + 1 → Lh.isNm (l[j]).2.1 = true) := fun j hj h => by
          by_cases e : j = k
          · subst e; rw [HX.out]; exact hn
          · exact HP.out j hj (by omega)
        clear hn
        go_wp2_with fail
        refine hcall.mono ?_
        rintro e w1 ⟨rfl, hb1⟩
        have hbW : Below W.heap.size W w1 := below_then hb hb1
        clear hcall hb1 x0 x1 x2
        go_wp2
        exact ⟨⟨hbW, k + 1, by omega, by go_num, HN.out⟩, by simp [intOf]; omega⟩
      | false =>
        rw [hn] at hcall
        simp only [Bool.not_false] at hcall
        have HN : Hid (NmAt l k) := ⟨hlt, by rw [HX.out]; exact hn, fun j hj h => HP.out j hj h⟩
        clear hn
        go_wp2_with fail
        refine hcall.mono ?_
        rintro e w1 ⟨rfl, hb1⟩
        have hbW : Below W.heap.size W w1 := below_then hb hb1
        clear hcall hb1 x0 x1 x2
        go_wp2
        go_ret
        exact ⟨hbW, Or.inr ⟨k, HN.out, rfl⟩⟩
    · obtain rfl : k = l.length := by omega
      have HA : Hid (∀ x ∈ l, Lh.isNm x.2.1 = true) := fun x hx => by
        obtain ⟨j, hj, rfl⟩ := List.getElem_of_mem hx
        exact HP.out j hj hj
      go_wp2
      go_ret
      exact ⟨hb, Or.inl ⟨HA.out, rfl⟩⟩
theorem nmAt_unique {l : List Lh.Fl} {i j : Nat} (hi : NmAt l i) (hj : NmAt l j) : i = j := by
  obtain ⟨h1, h2, h3⟩ := hi
  obtain ⟨k1, k2, k3⟩ := hj
  rcases Nat.lt_trichotomy i j with h | h | h
  · have := k3 i h1 h
    rw [h2] at this
    cases this
  · exact h
  · have := h3 j k1 h
    rw [k2] at this
    cases this

set_option maxHeartbeats 2000000 in
theorem addF_bad (a : Nat → Addr) (he : EF a W) (h : FR W p mb t la L) (pv : Option Addr) (n c : Nat) (now : Int) (j : Nat) (hf : TickF la now j) :
    Calls Tryz.prog 16 #[.pointer (some ⟨p, 0, none⟩), .slice pv n c, .int .i64 now] W fun e W' => e = .returned (.tuple #[.int .i64 0, .iface 153 (.pointer (some (a j)))]) ∧ Below W.heap.size W W' := by
  have hchk := checkF_bad a he h now j hf
  clear h he
  go_enter Tryz.func16, Tryz.ntmps16
  go_wp2_with fail
  refine hchk.mono ?_
  rintro e w1 ⟨rfl, hb1⟩
  clear hchk
  go_wp2
  go_ret2
  exact ⟨rfl, hb1⟩

set_option maxHeartbeats 4000000 in
theorem addF_name (a : Nat → Addr) (he : EF a W) (h : FR W p mb t la L) (pv : Option Addr) (c : Nat) (l : List Lh.Fl) (hl : l.length ≤ 1000) (hin : ∀ x ∈ l, x.2.1.size ≤ 300) (now : Int) (hok : TickOk la now) (i : Nat) (hi : NmAt l i)
    (hc : ∀ i (hi : i < l.length), ∃ b o, pv = some ⟨b, o, none⟩ ∧ W.cell? ⟨b, o + i * 3, none⟩ = some (.int .u64 (l[i].1 : Nat)) ∧ W.cell? ⟨b, o + i * 3 + 1, none⟩ = some (.string l[i].2.1) ∧ W.cell? ⟨b, o + i * 3 + 2, none⟩ = some (.int .i64 l[i].2.2)) :
    Calls Tryz.prog 16 #[.pointer (some ⟨p, 0, none⟩), .slice pv l.length c, .int .i64 now] W fun e W' => ∃ b, e = .returned (.tuple #[.int .i64 0, .iface 76 (.pointer (some ⟨b, 0, none⟩))]) ∧ W.heap.size ≤ b ∧ W'.cell? ⟨b, 0, none⟩ = some (.int .i64 (i : Nat)) ∧ W'.cell? ⟨b, 1, none⟩ = some (.iface 153 (.pointer (some (a 3)))) ∧ Below W.heap.size W W' := by
  have hchk := checkF_ok h now hok
  have HE : Hid (EF a W) := he
  have HIX : Hid (∀ w1, Below W.heap.size W w1 → Calls Tryz.prog 36 #[.slice pv l.length c, .func (.func 37) #[] #[]] w1 fun e W' => Below w1.heap.size w1 W' ∧ e = .returned (.int .i64 (i : Nat))) := fun w1 hb => by
    refine (indexF a (he.later hb) pv c l hl hin fun i hi => ?_).mono ?_
    · obtain ⟨b, o, e, h1, h2, h3⟩ := hc i hi
      exact ⟨b, o, e, below_cell hb h1, below_cell hb h2, below_cell hb h3⟩
    · rintro e w' ⟨hb', ⟨hall, rfl⟩ | ⟨j, hj, rfl⟩⟩
      · obtain ⟨h1, h2, _⟩ := hi
        rw [hall _ (List.getElem_mem h1)] at h2
        cases h2
      · exact ⟨hb', by rw [nmAt_unique hi hj]⟩
  have d : decide ((0 : Int) ≤ (i : Int)) = true := by simp
  clear h he hc hin hok hi
  go_enter Tryz.func16, Tryz.ntmps16
  go_wp2_with fail
  refine hchk.mono ?_
  rintro e w1 ⟨rfl, hb1⟩
  have hix := HIX.out w1 hb1
  clear hchk HIX
  go_wp2_with fail
  refine hix.mono ?_
  rintro e w2 ⟨hb2, rfl⟩
  have hbW : Below W.heap.size W w2 := below_then hb1 hb2
  have s3 := (HE.out.later hbW).e4.s3
  clear hix hb1 hb2
  go_wp2
  go_region
  all_goals go_wp2
  all_goals go_ret2
  all_goals exact ⟨w2.heap.size, rfl, hbW.size, by simp, by simp, (below_drewN hbW 1).alloc hbW.size _⟩
end
end Go.Proofs.YtijdaaghomclmabGreatDoor
