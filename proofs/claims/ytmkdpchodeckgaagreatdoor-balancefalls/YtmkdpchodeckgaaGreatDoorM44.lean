/- The landed balance: Export. -/
import Derived.Test.YtmkdpchodeckgaaGreatDoorM27
import Derived.Test.YtmkdpchodeckgaaGreatDoorM37
import Derived.Test.YtmkdpchodeckgaaGreatDoorFlL4
import Derived.Test.YtmkdpchodeckgaaGreatDoorCbTxt
import Derived.Test.YtmkdpchodeckgaaGreatDoorM29
namespace Go.Proofs.YtmkdpchodeckgaaGreatDoor
open Go.RowKit Go.Shelf Go.Maps Go.ChangeMaps

theorem flIn_of {S : Lh.Bl} (h : Lh.BOk S) : FlIn S.L := fun x hx => by
  have h1 := h.ok.key x hx
  have h2 := h.ok.lo x hx
  have h3 := h.hi x hx
  have h4 := (nm_word (h.host x hx)).2.2.2
  exact ⟨h1, by omega, by omega, by omega⟩
set_option maxHeartbeats 1000000 in
theorem check_bound {a : Nat → Addr} (e : Int) (p : Option Addr) (n c : Nat) (w : World) (he : EC a w) (h2 : 1099511627776 < e) :
    Calls Tryz.prog 51 #[.int .i64 e, .slice p n c] w fun r w' => r = .returned (.iface 236 (.pointer (some (a 1)))) ∧ w' = w := by
  have s1 := he.s1
  have d1 : decide (e < 0) = false := by simp; omega
  clear he
  go_enter Tryz.func51, Tryz.ntmps51
  go_wp2
  go_ret
  exact ⟨rfl, rfl⟩
set_option maxHeartbeats 1000000 in
theorem text_bound {a : Nat → Addr} (e : Int) (p : Option Addr) (n c : Nat) (w : World) (he : EC a w) (h2 : 1099511627776 < e) :
    Calls Tryz.prog 27 #[.int .i64 e, .slice p n c] w fun r w' => r = .returned (.tuple #[.string ByteArray.empty, .iface 236 (.pointer (some (a 1)))]) ∧ w' = w := by
  have hck := check_bound e p n c w he h2
  clear he h2
  go_enter Tryz.func27, Tryz.ntmps27
  go_wp2_with fail
  refine hck.mono ?_
  rintro r w1 ⟨rfl, rfl⟩
  clear hck
  go_wp2
  go_ret2
  exact ⟨rfl, rfl⟩
section
variable {W W' : World} {p hp fp fm db : Nat} {bs : List Nat} {lv : Value} {S : Lh.Bl}
set_option maxRecDepth 100000 in
set_option maxHeartbeats 4000000 in
/-- Export, at an epoch that can be told. -/
theorem export_good (a : Nat → Addr) (he : EC a W) (h : BR W p hp fp fm db bs lv S) (hk : Lh.BOk S) (hep : S.ep < 1099511627776) :
    Calls Tryz.prog 11 #[.pointer (some ⟨p, 0, none⟩)] W fun e w' => e = .returned (.tuple #[.string (Lh.bt (Lh.textL (S.ep + 1).toNat S.L)), .nilIface]) ∧ BR w' p hp fp fm db bs lv { S with ep := S.ep + 1 } ∧ Tur (BFt p hp fp fm db bs lv) W w' := by
  have HH : Hid (BR W p hp fp fm db bs lv S) := h
  have h0 := hk.ep0
  have hlen : S.L.length ≤ 200 := hk.ok.len
  have HLI : Hid (∀ w', Below W.heap.size W w' → Calls Tryz.prog 28 #[.pointer (some ⟨fp, 0, none⟩)] w' fun e w'' => ∃ v, e = .returned v ∧ Flows1 w'' v S.L ∧ Below W.heap.size W w'') := fun w' hb => (listF_flows (h.later hb).f hk.ok.rise (by omega)).mono fun _ _ ⟨v, q1, q2, q3⟩ => ⟨v, q1, q2, below_then hb q3⟩
  have HTX : Hid (∀ w' v, Below W.heap.size W w' → Flows1 w' v S.L → Calls Tryz.prog 27 #[.int .i64 (S.ep + 1), v] w' fun r w'' => r = .returned (.tuple #[.string (Lh.bt (Lh.textL (S.ep + 1).toNat S.L)), .nilIface]) ∧ Below W.heap.size W w'') := fun w' v hb hv => (text_carry (S.ep + 1) v S.L w' (he.later hb) hv (by omega) (flIn_of hk)).mono fun _ _ ⟨c, pl, q1, q2, q3⟩ => by
    obtain ⟨rfl, rfl⟩ := caF_one q1 (caF_of hk (by omega) (by omega))
    rcases q3 with ⟨_, rfl⟩ | ⟨h, _⟩
    · exact ⟨rfl, below_then hb q2⟩
    · exact absurd rfl h
  have hw : IntKind.i64.wrap (S.ep + 1) = S.ep + 1 := by simp [IntKind.wrap, IntKind.signed, IntKind.bits]; omega
  have H2 : Hid (∀ w', Below W.heap.size W w' → w'.cell? ⟨p, 2, none⟩ = some (.pointer (some ⟨fp, 0, none⟩))) := fun w' hb => (h.later hb).c2
  have H4 : Hid (∀ w', Below W.heap.size W w' → w'.cell? ⟨p, 4, none⟩ = some (.int .i64 S.ep)) := fun w' hb => (h.later hb).c4
  have hp4 : W.frozen? ⟨p, 4, none⟩ = false := h.fz 4
  have hpl := h.plt
  clear he h hk
  generalize Lh.bt (Lh.textL (S.ep + 1).toNat S.L) = tx at *
  go_enter Tryz.func11, Tryz.ntmps11
  go_wp2_with fail
  go_region_held3 (fun w' => Below W.heap.size W w' ∧ w'.cell? ⟨p, 2, none⟩ = some (.pointer (some ⟨fp, 0, none⟩)) ∧ w'.cell? ⟨p, 4, none⟩ = some (.int .i64 S.ep))
    (first | exact ⟨by assumption, H2.out _ (by assumption), H4.out _ (by assumption)⟩ | exact ⟨below_drewN (Below.refl _ _) 1, H2.out _ (below_drewN (Below.refl _ _) 1), H4.out _ (below_drewN (Below.refl _ _) 1)⟩)
    (first
      | (go_at_call 28; refine (HLI.out _ (by first | assumption | exact below_drewN (Below.refl _ _) 1)).mono ?_; rintro e w1 ⟨v, rfl, hv, hb1⟩)
      | (go_at_call 27; refine (HTX.out _ _ (by assumption) (by assumption)).mono ?_; rintro e w2 ⟨rfl, hb2⟩))
  all_goals
    have hB := HH.out.later hb2
    have HB : Hid (BR w2 p hp fp fm db bs lv S) := hB
    have c4 := hB.c4
    have f4 := hB.fz 4
    have HB2 : Hid (Below W.heap.size W w2) := hb2
    clear hB
    go_wp2
    go_ret2
    exact ⟨rfl, HB.out.epoch _, (Tur.of_below HB2.out).setCell _ (Or.inl (Or.inl rfl)) _⟩

set_option maxRecDepth 100000 in
set_option maxHeartbeats 4000000 in
/-- Export, at the last epoch. -/
theorem export_bad (a : Nat → Addr) (he : EC a W) (h : BR W p hp fp fm db bs lv S) (hk : Lh.BOk S) (hep : ¬ S.ep < 1099511627776) :
    Calls Tryz.prog 11 #[.pointer (some ⟨p, 0, none⟩)] W fun e w' => e = .returned (.tuple #[.string ByteArray.empty, .iface 236 (.pointer (some (a 1)))]) ∧ Below W.heap.size W w' := by
  have h1 := hk.ep1
  have hlen : S.L.length ≤ 200 := hk.ok.len
  have HLI : Hid (∀ w', Below W.heap.size W w' → Calls Tryz.prog 28 #[.pointer (some ⟨fp, 0, none⟩)] w' fun e w'' => ∃ q c, e = .returned (.slice q S.L.length c) ∧ Below W.heap.size W w'') := fun w' hb => (listF_flows (h.later hb).f hk.ok.rise (by omega)).mono fun _ _ ⟨v, q1, q2, q3⟩ => by
    obtain ⟨q, c, rfl⟩ := q2.shape
    exact ⟨q, c, q1, below_then hb q3⟩
  have HTX : Hid (∀ w' q c, Below W.heap.size W w' → Calls Tryz.prog 27 #[.int .i64 (S.ep + 1), .slice q S.L.length c] w' fun r w'' => r = .returned (.tuple #[.string ByteArray.empty, .iface 236 (.pointer (some (a 1)))]) ∧ Below W.heap.size W w'') := fun w' q c hb => (text_bound (S.ep + 1) q _ c w' (he.later hb) (by omega)).mono fun _ _ ⟨q1, q2⟩ => by
    subst q2
    exact ⟨q1, hb⟩
  have hw : IntKind.i64.wrap (S.ep + 1) = S.ep + 1 := by simp [IntKind.wrap, IntKind.signed, IntKind.bits]; omega
  have H2 : Hid (∀ w', Below W.heap.size W w' → w'.cell? ⟨p, 2, none⟩ = some (.pointer (some ⟨fp, 0, none⟩))) := fun w' hb => (h.later hb).c2
  have H4 : Hid (∀ w', Below W.heap.size W w' → w'.cell? ⟨p, 4, none⟩ = some (.int .i64 S.ep)) := fun w' hb => (h.later hb).c4
  clear he h hk
  go_enter Tryz.func11, Tryz.ntmps11
  go_wp2_with fail
  go_region_held3 (fun w' => Below W.heap.size W w' ∧ w'.cell? ⟨p, 2, none⟩ = some (.pointer (some ⟨fp, 0, none⟩)) ∧ w'.cell? ⟨p, 4, none⟩ = some (.int .i64 S.ep))
    (first | exact ⟨by assumption, H2.out _ (by assumption), H4.out _ (by assumption)⟩ | exact ⟨below_drewN (Below.refl _ _) 1, H2.out _ (below_drewN (Below.refl _ _) 1), H4.out _ (below_drewN (Below.refl _ _) 1)⟩)
    (first
      | (go_at_call 28; refine (HLI.out _ (by first | assumption | exact below_drewN (Below.refl _ _) 1)).mono ?_; rintro e w1 ⟨q, c, rfl, hb1⟩)
      | (go_at_call 27; refine (HTX.out _ _ _ (by assumption)).mono ?_; rintro e w2 ⟨rfl, hb2⟩))
  all_goals
    go_wp2
    go_ret2
    exact ⟨rfl, hb2⟩
end
end Go.Proofs.YtmkdpchodeckgaaGreatDoor

/- The landed flows: slices.IndexFunc of the first whose host is no name. -/
namespace Go.Proofs.YtmkdpchodeckgaaGreatDoor
open Go.RowKit Go.Maps Go.ChangeMaps Go.Shelf
section
variable {W W' : World} {p mb t : Nat} {la : Int} {L : List Lh.Fl}

set_option maxHeartbeats 2000000 in
theorem addC (a : Nat → Addr) (he : EF a W) (x : Lh.Fl) (hs : x.2.1.size ≤ 300) :
    Calls Tryz.prog 65 #[.agg #[.int .u64 (x.1 : Nat), .string x.2.1, .int .i64 x.2.2]] W fun e W' => e = .returned (.bool (!Lh.isNm x.2.1)) ∧ Below W.heap.size W W' := by
  have hb0 : Below W.heap.size W (W.alloc (.cells #[.int .u64 (x.1 : Nat), .string x.2.1, .int .i64 x.2.2] 48)) := (Below.refl _ _).alloc (Nat.le_refl _) _
  have hnm := isNameF_any a (he.later hb0) x.2.1 hs
  clear he
  generalize Lh.isNm x.2.1 = q at *
  go_enter Tryz.func65, Tryz.ntmps65
  go_wp2_with fail
  refine hnm.mono ?_
  rintro e w1 ⟨rfl, hb1⟩
  clear hnm
  go_wp2
  go_ret
  exact ⟨rfl, below_then hb0 hb1⟩

set_option maxRecDepth 100000 in
set_option maxHeartbeats 4000000 in
theorem indexF (a : Nat → Addr) (he : EF a W) (pv : Option Addr) (c : Nat) (l : List Lh.Fl) (hl : l.length ≤ 1000) (hin : ∀ x ∈ l, x.2.1.size ≤ 300)
    (hc : ∀ i (hi : i < l.length), ∃ b o, pv = some ⟨b, o, none⟩ ∧ W.cell? ⟨b, o + i * 3, none⟩ = some (.int .u64 (l[i].1 : Nat)) ∧ W.cell? ⟨b, o + i * 3 + 1, none⟩ = some (.string l[i].2.1) ∧ W.cell? ⟨b, o + i * 3 + 2, none⟩ = some (.int .i64 l[i].2.2)) :
    Calls Tryz.prog 64 #[.slice pv l.length c, .func (.func 65) #[] #[]] W fun e W' => Below W.heap.size W W' ∧ (((∀ x ∈ l, Lh.isNm x.2.1 = true) ∧ e = .returned (.int .i64 (-1))) ∨ ∃ i, NmAt l i ∧ e = .returned (.int .i64 (i : Nat))) := by
  have HC : Hid (∀ i (hi : i < l.length), ∃ b o, pv = some ⟨b, o, none⟩ ∧ W.cell? ⟨b, o + i * 3, none⟩ = some (.int .u64 (l[i].1 : Nat)) ∧ W.cell? ⟨b, o + i * 3 + 1, none⟩ = some (.string l[i].2.1) ∧ W.cell? ⟨b, o + i * 3 + 2, none⟩ = some (.int .i64 l[i].2.2)) := hc
  have HE : Hid (EF a W) := he
  have HI : Hid (∀ x ∈ l, x.2.1.size ≤ 300) := hin
  have eg := enters_of Tryz.func65 (by kernel_rfl) rfl
  clear hc he hin
  go_enter Tryz.func64, Tryz.ntmps64
  go_wp2_with fail
  go_loopw [5, 8] (fun _ u wr => Below W.heap.size W wr ∧ ∃ k : Nat, k ≤ l.length ∧ u = .int .i64 (k : Nat) ∧ ∀ j (hj : j < l.length), j < k → Lh.isNm (l[j]).2.1 = true) (fun _ u _ => l.length - (intOf u).toNat)
  case atStart => exact ⟨Below.refl _ _, 0, Nat.zero_le _, rfl, fun j _ h => absurd h (by omega)⟩
  case round =>
    obtain ⟨hb, k, hk, rfl, hp⟩ := hrel
    have HP : Hid (∀ j (hj : j < l.length), j < k → Lh.isNm (l[j]).2.1 = true) := hp
    clear hp
    by_cases hlt : k < l.length
    · have hki : (k : Int) < (l.length : Int) := by omega
      obtain ⟨b, o, rfl, x0, x1, x2⟩ := HC.out k hlt
      replace x0 := below_cell hb x0
      replace x1 := below_cell hb x1
      replace x2 := below_cell hb x2
      have hsz := HI.out _ (List.getElem_mem hlt)
      obtain ⟨x, hx⟩ : ∃ x, l[k] = x := ⟨_, rfl⟩
      rw [hx] at x0 x1 x2 hsz
      have HX : Hid (l[k] = x) := hx
      have hcall := addC a (HE.out.later hb) x hsz
      clear hx hsz
      cases hn : Lh.isNm x.2.1 with
      | true =>
        rw [hn] at hcall
        simp only [Bool.not_true] at hcall
        have HN : Hid (∀ j (hj : j < l.length), j < k + 1 → Lh.isNm (l[j]).2.1 = true) := fun j hj h => by
          by_cases e : j = k
          · subst e; rw [HX.out]; exact hn
          · exact HP.out j hj (by omega)
        clear hn
        go_wp2_with fail
        refine hcall.mono ?_
        rintro e w1 ⟨rfl, hb1⟩
        have hbW : Below W.heap.size W w1 := below_then hb hb1
        clear hcall hb1 x0 x1 x2
        go_wp2
        exact ⟨⟨hbW, k + 1, by omega, by go_num, HN.out⟩, by simp [intOf]; omega⟩
      | false =>
        rw [hn] at hcall
        simp only [Bool.not_false] at hcall
        have HN : Hid (NmAt l k) := ⟨hlt, by rw [HX.out]; exact hn, fun j hj h => HP.out j hj h⟩
        clear hn
        go_wp2_with fail
        refine hcall.mono ?_
        rintro e w1 ⟨rfl, hb1⟩
        have hbW : Below W.heap.size W w1 := below_then hb hb1
        clear hcall hb1 x0 x1 x2
        go_wp2
        go_ret
        exact ⟨hbW, Or.inr ⟨k, HN.out, rfl⟩⟩
    · obtain rfl : k = l.length := by omega
      have HA : Hid (∀ x ∈ l, Lh.isNm x.2.1 = true) := fun x hx => by
        obtain ⟨j, hj, rfl⟩ := List.getElem_of_mem hx
        exact HP.out j hj hj
      go_wp2
      go_ret
      exact ⟨hb, Or.inl ⟨HA.out, rfl⟩⟩
theorem nmAt_unique {l : List Lh.Fl} {i j : Nat} (hi : NmAt l i) (hj : NmAt l j) : i = j := by
  obtain ⟨h1, h2, h3⟩ := hi
  obtain ⟨k1, k2, k3⟩ := hj
  rcases Nat.lt_trichotomy i j with h | h | h
  · have := k3 i h1 h
    rw [h2] at this
    cases this
  · exact h
  · have := h3 j k1 h
    rw [k2] at this
    cases this

set_option maxHeartbeats 2000000 in
theorem addF_bad (a : Nat → Addr) (he : EF a W) (h : FR W p mb t la L) (pv : Option Addr) (n c : Nat) (now : Int) (j : Nat) (hf : TickF la now j) :
    Calls Tryz.prog 32 #[.pointer (some ⟨p, 0, none⟩), .slice pv n c, .int .i64 now] W fun e W' => e = .returned (.tuple #[.int .i64 0, .iface 236 (.pointer (some (a j)))]) ∧ Below W.heap.size W W' := by
  have hchk := checkF_bad a he h now j hf
  clear h he
  go_enter Tryz.func32, Tryz.ntmps32
  go_wp2_with fail
  refine hchk.mono ?_
  rintro e w1 ⟨rfl, hb1⟩
  clear hchk
  go_wp2
  go_ret2
  exact ⟨rfl, hb1⟩

set_option maxHeartbeats 4000000 in
theorem addF_name (a : Nat → Addr) (he : EF a W) (h : FR W p mb t la L) (pv : Option Addr) (c : Nat) (l : List Lh.Fl) (hl : l.length ≤ 1000) (hin : ∀ x ∈ l, x.2.1.size ≤ 300) (now : Int) (hok : TickOk la now) (i : Nat) (hi : NmAt l i)
    (hc : ∀ i (hi : i < l.length), ∃ b o, pv = some ⟨b, o, none⟩ ∧ W.cell? ⟨b, o + i * 3, none⟩ = some (.int .u64 (l[i].1 : Nat)) ∧ W.cell? ⟨b, o + i * 3 + 1, none⟩ = some (.string l[i].2.1) ∧ W.cell? ⟨b, o + i * 3 + 2, none⟩ = some (.int .i64 l[i].2.2)) :
    Calls Tryz.prog 32 #[.pointer (some ⟨p, 0, none⟩), .slice pv l.length c, .int .i64 now] W fun e W' => ∃ b, e = .returned (.tuple #[.int .i64 0, .iface 125 (.pointer (some ⟨b, 0, none⟩))]) ∧ W.heap.size ≤ b ∧ W'.cell? ⟨b, 0, none⟩ = some (.int .i64 (i : Nat)) ∧ W'.cell? ⟨b, 1, none⟩ = some (.iface 236 (.pointer (some (a 3)))) ∧ Below W.heap.size W W' := by
  have hchk := checkF_ok h now hok
  have HE : Hid (EF a W) := he
  have HIX : Hid (∀ w1, Below W.heap.size W w1 → Calls Tryz.prog 64 #[.slice pv l.length c, .func (.func 65) #[] #[]] w1 fun e W' => Below w1.heap.size w1 W' ∧ e = .returned (.int .i64 (i : Nat))) := fun w1 hb => by
    refine (indexF a (he.later hb) pv c l hl hin fun i hi => ?_).mono ?_
    · obtain ⟨b, o, e, h1, h2, h3⟩ := hc i hi
      exact ⟨b, o, e, below_cell hb h1, below_cell hb h2, below_cell hb h3⟩
    · rintro e w' ⟨hb', ⟨hall, rfl⟩ | ⟨j, hj, rfl⟩⟩
      · obtain ⟨h1, h2, _⟩ := hi
        rw [hall _ (List.getElem_mem h1)] at h2
        cases h2
      · exact ⟨hb', by rw [nmAt_unique hi hj]⟩
  have d : decide ((0 : Int) ≤ (i : Int)) = true := by simp
  clear h he hc hin hok hi
  go_enter Tryz.func32, Tryz.ntmps32
  go_wp2_with fail
  refine hchk.mono ?_
  rintro e w1 ⟨rfl, hb1⟩
  have hix := HIX.out w1 hb1
  clear hchk HIX
  go_wp2_with fail
  refine hix.mono ?_
  rintro e w2 ⟨hb2, rfl⟩
  have hbW : Below W.heap.size W w2 := below_then hb1 hb2
  have s3 := (HE.out.later hbW).e4.s3
  clear hix hb1 hb2
  go_wp2
  go_region
  all_goals go_wp2
  all_goals go_ret2
  all_goals exact ⟨w2.heap.size, rfl, hbW.size, by simp, by simp, (below_drewN hbW 1).alloc hbW.size _⟩
end
end Go.Proofs.YtmkdpchodeckgaaGreatDoor
