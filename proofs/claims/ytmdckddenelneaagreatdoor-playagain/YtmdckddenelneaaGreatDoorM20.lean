/- Which host a new key goes to. -/
import Derived.Test.YtmdckddenelneaaGreatDoorM15
import Derived.Test.YtmdckddenelneaaGreatDoorM12
import Derived.Test.YtmdckddenelneaaGreatDoorM13
import Derived.Test.YtmdckddenelneaaGreatDoorM19
import Derived.Test.YtmdckddenelneaaGreatDoorM5
namespace Go.Proofs.YtmdckddenelneaaGreatDoor
open Go.RowKit

/-- the host of a key's slot -/
def nwB (xs : List ByteArray) (n k : Nat) : ByteArray := if h : ((Lh.tab xs n n).getD (Lh.turn k % n) 0).toNat < xs.length then xs[((Lh.tab xs n n).getD (Lh.turn k % n) 0).toNat] else xs.headD ByteArray.empty
theorem nwB_in {xs : List ByteArray} {n : Nat} (k : Nat) (h : xs ≠ []) : nwB xs n k ∈ xs := by
  unfold nwB
  split
  · exact List.getElem_mem _
  · cases xs with
    | nil => exact absurd rfl h
    | cons x l => simp
theorem bopen_facts {S : Lh.Bl} (h : Lh.BOk S) : (Lh.bopen S).length ≤ 12 ∧ (Lh.bopen S).Nodup ∧ ∀ s ∈ Lh.bopen S, Lh.isNm s = true ∧ s.size ≤ 300 := by
  have hsub : (Lh.bopen S).Sublist (S.hs.map fun x => x.1) := List.filter_sublist.trans (List.filter_sublist.map _)
  refine ⟨?_, h.h.nodup.sublist hsub, fun s hs => Lh.hup_nm h (Lh.bopen_mem.1 hs).1⟩
  have := hsub.length_le
  rw [List.length_map] at this
  exact Nat.le_trans this h.h.len
end Go.Proofs.YtmdckddenelneaaGreatDoor

/- The landed balance: byTable. -/
namespace Go.Proofs.YtmdckddenelneaaGreatDoor
open Go.RowKit Go.Shelf Go.Maps Go.ChangeMaps

section
variable {W W' : World} {p hp fp fm db : Nat} {bs : List Nat} {lv : Value} {S : Lh.Bl}
set_option maxHeartbeats 2000000 in
theorem byTable_none (a : Nat → Addr) (he : Errs5 a W) (h : BR W p hp fp fm db bs lv S) (hk : Lh.BOk S) (k : Nat) (ho : Lh.bopen S = []) :
    Calls Tryz.prog 117 #[.pointer (some ⟨p, 0, none⟩), .int .u64 (k : Nat)] W fun e w' => e = .returned (.tuple #[.string ByteArray.empty, .iface 331 (.pointer (some (a 4)))]) ∧ Below W.heap.size W w' := by
  have hop := openB h hk
  rw [ho] at hop
  have HE : Hid (Errs5 a W) := he
  have HC3 : Hid (∀ w', Below W.heap.size W w' → w'.cell? ⟨p, 3, none⟩ = some (.int .i64 (S.size : Nat))) := fun w' hb => (h.later hb).c3
  clear h hk ho he
  go_enter Tryz.func117, Tryz.ntmps117
  go_wp2_with fail
  refine hop.mono ?_
  rintro e w1 ⟨v, rfl, hv, hb1⟩
  obtain ⟨p0, c0, rfl⟩ : ∃ p0 c0, v = .slice p0 0 c0 := by
    rcases hv with ⟨_, rfl | ⟨ad, c, rfl⟩⟩ | ⟨b, o, c, rfl, _⟩
    · exact ⟨_, _, rfl⟩
    · exact ⟨_, _, rfl⟩
    · exact ⟨_, _, rfl⟩
  have c3 := HC3.out w1 hb1
  have hmk := make_none5 a p0 c0 (S.size : Nat) w1 (HE.out.later hb1)
  clear hop hv
  go_wp2_with fail
  refine hmk.mono ?_
  rintro e w2 ⟨rfl, hb2⟩
  clear hmk
  go_wp2
  go_ret2
  exact ⟨rfl, below_then hb1 hb2⟩

set_option maxRecDepth 100000 in
set_option maxHeartbeats 4000000 in
theorem byTable_good (a : Nat → Addr) (he : Errs5 a W) (h : BR W p hp fp fm db bs lv S) (hk : Lh.BOk S) (k : Nat) (ho : Lh.bopen S ≠ []) :
    Calls Tryz.prog 117 #[.pointer (some ⟨p, 0, none⟩), .int .u64 (k : Nat)] W fun e w' => e = .returned (.tuple #[.string (nwB (Lh.bopen S) S.size k), .nilIface]) ∧ Below W.heap.size W w' := by
  have hop := openB h hk
  have HE : Hid (Errs5 a W) := he
  have HC3 : Hid (∀ w', Below W.heap.size W w' → w'.cell? ⟨p, 3, none⟩ = some (.int .i64 (S.size : Nat))) := fun w' hb => (h.later hb).c3
  obtain ⟨hl12, hnd, hnm⟩ := bopen_facts hk
  have h0 : 0 < (Lh.bopen S).length := by
    rcases Nat.eq_zero_or_pos (Lh.bopen S).length with h | h
    · exact absurd (List.length_eq_zero_iff.1 h) ho
    · exact h
  have hprm := hk.prm
  have h5 := hk.s5
  have h2 : 2 ≤ S.size := hprm.1
  have htl := Lh.turn_lt k
  obtain ⟨i, hi, hti⟩ := Lh.tab_full hprm h0 (x := Lh.turn k % S.size) (Nat.mod_lt _ (by omega))
  have HNW : Hid (nwB (Lh.bopen S) S.size k = (Lh.bopen S)[i]) := by
    show _ = _
    unfold nwB
    rw [hti, dif_pos (by simpa using hi)]
    simp
  have hf : IsFault (Lh.bopen S) 0 (-1) := fault_of hl12 (fun s hs => (hnm s hs).1) hnd
  have HMK : Hid (∀ v w', Below W.heap.size W w' → Strs1 w' v (Lh.bopen S) → Calls Tryz.prog 29 #[v, .int .i64 (S.size : Nat)] w' fun e w'' => ∃ g, e = .returned (.tuple #[.slice (some ⟨g, 0, none⟩) S.size S.size, .nilIface]) ∧ w'.heap.size ≤ g ∧ IntRow w'' g (Lh.tab (Lh.bopen S) S.size S.size) ∧ Below w'.heap.size w' w'') := fun v w' hb hv => make_good5 a v _ S.size w' (HE.out.later hb) hv h0 hf (fun k hk => (hnm _ (List.getElem_mem hk)).2) hprm h5
  have HTL : Hid ((Lh.tab (Lh.bopen S) S.size S.size).length = S.size) := Lh.tab_length _ _ _
  rw [HNW.out]
  clear h hk ho he hf hnm hnd HE HNW hprm
  generalize Lh.bopen S = xs at *
  generalize S.size = n at *
  go_enter Tryz.func117, Tryz.ntmps117
  go_wp2_with fail
  refine hop.mono ?_
  rintro e w1 ⟨v, rfl, hv, hb1⟩
  have c3 := HC3.out w1 hb1
  have hmk := HMK.out v w1 hb1 hv
  obtain ⟨b, o, c, rfl, hx⟩ := strs1_pos hv h0
  have cx := hx i hi
  clear hop hv hx HMK
  go_wp2_with fail
  refine hmk.mono ?_
  rintro e w2 ⟨g, rfl, hg, hrow, hb2⟩
  have hb12 := below_then hb1 hb2
  have hmod : Lh.turn k % n < n := Nat.mod_lt _ (by omega)
  have cs : w2.cell? ⟨g, Lh.turn k % n, none⟩ = some (.int .i64 (i : Nat)) := by
    have h1 := hrow.cell (k := Lh.turn k % n) (by rw [HTL.out]; exact hmod)
    rw [h1]
    have h2 := hti
    rw [List.getD_eq_getElem?_getD, List.getElem?_eq_getElem (by rw [HTL.out]; exact hmod)] at h2
    simp at h2
    rw [h2]
  have cx2 := below_cell hb2 cx
  have c32 := HC3.out w2 hb12
  have hrem : ((Lh.turn k : Nat) : Int).tmod (n : Int) = ((Lh.turn k % n : Nat) : Int) := rfl
  have hz : ((n : Int) == 0) = false := by rw [beq_eq_false_iff_ne]; omega
  have hil : (i : Int) < (xs.length : Int) := by omega
  have hml : ((Lh.turn k % n : Nat) : Int) < (n : Int) := by omega
  have HTU : Hid (∀ w', Calls Tryz.prog 28 #[.int .u64 k] w' fun e w'' => e = .returned (.int .u64 (Lh.turn k : Nat)) ∧ Below w'.heap.size w' w'') := fun w' => turn_any k w'
  clear hmk hrow hti HTL HC3 cx c3 hb1 hmod
  obtain ⟨s, hs⟩ : ∃ s, xs[i]'hi = s := ⟨_, rfl⟩
  rw [hs] at cx2
  have HS : Hid (xs[i]'hi = s) := hs
  clear hs
  generalize Lh.turn k = z at *
  have hz64 : z < 18446744073709551616 := htl
  have hw1 : IntKind.u64.wrap (n : Int) = (n : Int) := by simp [IntKind.wrap, IntKind.signed, IntKind.bits]; omega
  have hn0 : ¬ n = 0 := by omega
  have hst : ∀ W', Below w2.heap.size w2 W' → Calls Tryz.prog 28 #[.int .u64 k] W' fun e w' => e = .returned (.int .u64 (z : Nat)) ∧ Below w2.heap.size w2 w' := fun W' hb => (HTU.out W').mono fun e w' ⟨h1, h2⟩ => ⟨h1, below_then hb h2⟩
  have h3c := fun W' (hb : Below w2.heap.size w2 W') => below_cell hb c32
  have hsc := fun W' (hb : Below w2.heap.size w2 W') => below_cell hb cs
  have hxc := fun W' (hb : Below w2.heap.size w2 W') => below_cell hb cx2
  obtain ⟨m, hm⟩ : ∃ m, z % n = m := ⟨_, rfl⟩
  rw [hm] at cs hsc hrem hml
  have HB12 : Hid (Below W.heap.size W w2) := hb12
  clear hm hb12 HTU hz
  go_wp2_with fail
  go_region_held3 (fun w' => Below w2.heap.size w2 w' ∧ w'.cell? ⟨p, 3, none⟩ = some (.int .i64 (n : Nat)) ∧ w'.cell? ⟨g, m, none⟩ = some (.int .i64 (i : Nat)) ∧ w'.cell? ⟨b, o + i, none⟩ = some (.string s))
    (first | exact ⟨by assumption, h3c _ (by assumption), hsc _ (by assumption), hxc _ (by assumption)⟩ | exact ⟨below_drewN (Below.refl _ _) 1, h3c _ (below_drewN (Below.refl _ _) 1), hsc _ (below_drewN (Below.refl _ _) 1), hxc _ (below_drewN (Below.refl _ _) 1)⟩)
    (first
      | (go_at_call 28; refine (hst _ (by first | assumption | exact below_drewN (Below.refl _ _) 1)).mono ?_; rintro e w' ⟨rfl, hbn⟩))
  all_goals
    go_wp2
    go_ret2
    exact ⟨by rw [HS.out]; rfl, below_then HB12.out (by assumption)⟩
end
end Go.Proofs.YtmdckddenelneaaGreatDoor

/- The landed balance: Pick, over what byTable and Put do. -/
namespace Go.Proofs.YtmdckddenelneaaGreatDoor
open Go.RowKit Go.Shelf Go.Maps Go.ChangeMaps

section
variable {W W' : World} {p hp fp fm db : Nat} {bs : List Nat} {lv : Value} {S : Lh.Bl}
set_option maxHeartbeats 1000000 in
theorem pick_tick (a : Nat → Addr) (he : EF a W) (h : BR W p hp fp fm db bs lv S) (k : Nat) (now : Int) (j : Nat) (hf : TickF S.la now j) :
    Calls Tryz.prog 87 #[.pointer (some ⟨p, 0, none⟩), .int .u64 (k : Nat), .int .i64 now] W fun e w' => e = .returned (.tuple #[.string ByteArray.empty, .bool false, .iface 331 (.pointer (some (a j)))]) ∧ Below W.heap.size W w' := by
  have hget := getF_bad a he h.f k now j hf
  have c2 := h.c2
  clear h he hf
  go_enter Tryz.func87, Tryz.ntmps87
  go_wp2_with fail
  refine hget.mono ?_
  rintro e w1 ⟨rfl, hb1⟩
  clear hget
  go_wp2
  go_ret3
  exact ⟨rfl, hb1⟩

/-- what Get leaves: the tick is told -/
theorem BR.ticked (h : BR W p hp fp fm db bs lv S) {now : Int} (hT : Tur (FFt fp fm) W W') (hF : FR W' fp fm S.t now S.L) : BR W' p hp fp fm db bs lv { S with la := now } := h.flows hT hF

set_option maxHeartbeats 2000000 in
theorem pick_keep (h : BR W p hp fp fm db bs lv S) (hk : Lh.BOk S) (k : Nat) (hkk : k < 18446744073709551616) (now : Int) (hok : TickOk S.la now) (s : ByteArray) (hks : Lh.BKeeps S k now s)
    (hput : ∀ w1, Tur (FFt fp fm) W w1 → FR w1 fp fm S.t now S.L → Calls Tryz.prog 118 #[.pointer (some ⟨fp, 0, none⟩), .int .u64 (k : Nat), .string s, .int .i64 now] w1 fun e w' => e = .returned .nilIface ∧ FR w' fp fm S.t now (Lh.fput S.t S.L k s now) ∧ Tur (FFt fp fm) w1 w') :
    Calls Tryz.prog 87 #[.pointer (some ⟨p, 0, none⟩), .int .u64 (k : Nat), .int .i64 now] W fun e w' => e = .returned (.tuple #[.string s, .bool true, .nilIface]) ∧ BR w' p hp fp fm db bs lv { S with la := now, L := Lh.fput S.t S.L k s now } ∧ Tur (FFt fp fm) W w' := by
  have hget := getF_ok h.f k hkk now hok
  have c2 := h.c2
  have HH : Hid (BR W p hp fp fm db bs lv S) := h
  have HK : Hid (Lh.BOk S) := hk
  have HP : Hid (∀ w1, Tur (FFt fp fm) W w1 → FR w1 fp fm S.t now S.L → Calls Tryz.prog 118 #[.pointer (some ⟨fp, 0, none⟩), .int .u64 (k : Nat), .string s, .int .i64 now] w1 fun e w' => e = .returned .nilIface ∧ FR w' fp fm S.t now (Lh.fput S.t S.L k s now) ∧ Tur (FFt fp fm) w1 w') := hput
  obtain ⟨hix, hlt, hsx, hup⟩ := hks
  have HUP : Hid (Lh.hup S.hs s = true) := hup
  have HSX : Hid ((S.L[Lh.fix S.L k]).2.1 = s) := hsx
  have HLT : Hid (now < (S.L[Lh.fix S.L k]).2.2) := hlt
  have HIX : Hid (Lh.fix S.L k < S.L.length) := hix
  clear h hk hok hput hlt hsx hup
  go_enter Tryz.func87, Tryz.ntmps87
  go_wp2_with fail
  refine hget.mono ?_
  rintro e w1 ⟨hF1, hT1, ⟨hi, hl, rfl⟩ | ⟨hn, rfl⟩⟩
  case inr =>
    have h1 := hn HIX.out
    have h2 := HLT.out
    omega
  rw [HSX.out]
  have hB1 := HH.out.ticked hT1 hF1
  have c0 := hB1.c0
  have c2' := hB1.c2
  have his := isS_any hB1.h HK.out.h s
  rw [show Lh.hup ({ S with la := now } : Lh.Bl).hs s = true from HUP.out] at his
  have HB1 : Hid (BR w1 p hp fp fm db bs lv { S with la := now }) := hB1
  have HF1 : Hid (FR w1 fp fm S.t now S.L) := hF1
  have HT1 : Hid (Tur (FFt fp fm) W w1) := hT1
  clear hget hF1 hT1 hB1 c2 hl HSX HLT HIX
  go_wp2_with fail
  refine his.mono ?_
  rintro e w2 ⟨rfl, hb2⟩
  have c2'' := below_cell hb2 c2'
  have hp2 := HP.out w2 (HT1.out.behind hb2) (HF1.out.later hb2)
  clear his c0 c2'
  go_wp2_with fail
  refine hp2.mono ?_
  rintro e w3 ⟨rfl, hF3, hT3⟩
  have HB3 : Hid (BR w3 p hp fp fm db bs lv { S with la := now, L := Lh.fput S.t S.L k s now }) := (HB1.out.later hb2).flows hT3 hF3
  have HT3 : Hid (Tur (FFt fp fm) W w3) := (HT1.out.behind hb2).trans hT3 fun b hb => Or.inl hb
  clear hp2 hF3 hT3 c2''
  go_wp2
  go_ret3
  exact ⟨rfl, HB3.out, HT3.out⟩

set_option maxHeartbeats 2000000 in
theorem pick_none (a : Nat → Addr) (h : BR W p hp fp fm db bs lv S) (hk : Lh.BOk S) (k : Nat) (hkk : k < 18446744073709551616) (now : Int) (hok : TickOk S.la now) (hks : ∀ z, ¬ Lh.BKeeps S k now z)
    (hby : ∀ w1, Tur (FFt fp fm) W w1 → BR w1 p hp fp fm db bs lv { S with la := now } → Calls Tryz.prog 117 #[.pointer (some ⟨p, 0, none⟩), .int .u64 (k : Nat)] w1 fun e w' => e = .returned (.tuple #[.string ByteArray.empty, .iface 331 (.pointer (some (a 4)))]) ∧ Below w1.heap.size w1 w') :
    Calls Tryz.prog 87 #[.pointer (some ⟨p, 0, none⟩), .int .u64 (k : Nat), .int .i64 now] W fun e w' => e = .returned (.tuple #[.string ByteArray.empty, .bool false, .iface 331 (.pointer (some (a 4)))]) ∧ BR w' p hp fp fm db bs lv { S with la := now } ∧ Tur (FFt fp fm) W w' := by
  have hget := getF_ok h.f k hkk now hok
  have c2 := h.c2
  have HH : Hid (BR W p hp fp fm db bs lv S) := h
  have HK : Hid (Lh.BOk S) := hk
  have HBY : Hid (∀ w1, Tur (FFt fp fm) W w1 → BR w1 p hp fp fm db bs lv { S with la := now } → Calls Tryz.prog 117 #[.pointer (some ⟨p, 0, none⟩), .int .u64 (k : Nat)] w1 fun e w' => e = .returned (.tuple #[.string ByteArray.empty, .iface 331 (.pointer (some (a 4)))]) ∧ Below w1.heap.size w1 w') := hby
  have HKS : Hid (∀ z, ¬ Lh.BKeeps S k now z) := hks
  clear h hk hok hks hby
  go_enter Tryz.func87, Tryz.ntmps87
  go_wp2_with fail
  refine hget.mono ?_
  rintro e w1 ⟨hF1, hT1, ⟨hi, hl, rfl⟩ | ⟨hn, rfl⟩⟩
  · have hup : Lh.hup S.hs (S.L[Lh.fix S.L k]).2.1 = false := by
      cases hu : Lh.hup S.hs (S.L[Lh.fix S.L k]).2.1 with
      | false => rfl
      | true => exact absurd ⟨hi, hl, rfl, hu⟩ (HKS.out _)
    have hB1 := HH.out.ticked hT1 hF1
    have c0 := hB1.c0
    have his := isS_any hB1.h HK.out.h (S.L[Lh.fix S.L k]).2.1
    rw [show Lh.hup ({ S with la := now } : Lh.Bl).hs (S.L[Lh.fix S.L k]).2.1 = false from hup] at his
    have HB1 : Hid (BR w1 p hp fp fm db bs lv { S with la := now }) := hB1
    have HF1 : Hid (FR w1 fp fm S.t now S.L) := hF1
    have HT1 : Hid (Tur (FFt fp fm) W w1) := hT1
    clear hget hF1 hT1 hB1 c2 hl hup HKS
    generalize (S.L[Lh.fix S.L k]).2.1 = z at *
    go_wp2_with fail
    refine his.mono ?_
    rintro e w2 ⟨rfl, hb2⟩
    have HB2 : Hid (BR w2 p hp fp fm db bs lv { S with la := now }) := HB1.out.later hb2
    have HF2 : Hid (FR w2 fp fm S.t now S.L) := HF1.out.later hb2
    have HT2 : Hid (Tur (FFt fp fm) W w2) := HT1.out.behind hb2
    clear his c0 hb2 HB1 HF1 HT1
    have hby := HBY.out w2 HT2.out HB2.out
    clear HBY HF2
    go_wp2_with fail
    refine hby.mono ?_
    rintro e w4 ⟨rfl, hb4⟩
    have HB4 : Hid (BR w4 p hp fp fm db bs lv { S with la := now }) := HB2.out.later hb4
    have HT4 : Hid (Tur (FFt fp fm) W w4) := HT2.out.behind hb4
    clear hby hb4 HB2 HT2
    go_wp2
    go_ret3
    exact ⟨rfl, HB4.out, HT4.out⟩
  · have HB2 : Hid (BR w1 p hp fp fm db bs lv { S with la := now }) := HH.out.ticked hT1 hF1
    have HF2 : Hid (FR w1 fp fm S.t now S.L) := hF1
    have HT2 : Hid (Tur (FFt fp fm) W w1) := hT1
    clear hget hF1 hT1 c2 hn HKS
    have hby := HBY.out w1 HT2.out HB2.out
    clear HBY HF2
    go_wp2_with fail
    refine hby.mono ?_
    rintro e w4 ⟨rfl, hb4⟩
    have HB4 : Hid (BR w4 p hp fp fm db bs lv { S with la := now }) := HB2.out.later hb4
    have HT4 : Hid (Tur (FFt fp fm) W w4) := HT2.out.behind hb4
    clear hby hb4 HB2 HT2
    go_wp2
    go_ret3
    exact ⟨rfl, HB4.out, HT4.out⟩

set_option maxHeartbeats 2000000 in
theorem pick_new (h : BR W p hp fp fm db bs lv S) (hk : Lh.BOk S) (k : Nat) (hkk : k < 18446744073709551616) (now : Int) (hok : TickOk S.la now) (hks : ∀ z, ¬ Lh.BKeeps S k now z) (s : ByteArray)
    (hby : ∀ w1, Tur (FFt fp fm) W w1 → BR w1 p hp fp fm db bs lv { S with la := now } → Calls Tryz.prog 117 #[.pointer (some ⟨p, 0, none⟩), .int .u64 (k : Nat)] w1 fun e w' => e = .returned (.tuple #[.string s, .nilIface]) ∧ Below w1.heap.size w1 w')
    (hput : ∀ w1, Tur (FFt fp fm) W w1 → FR w1 fp fm S.t now S.L → Calls Tryz.prog 118 #[.pointer (some ⟨fp, 0, none⟩), .int .u64 (k : Nat), .string s, .int .i64 now] w1 fun e w' => e = .returned .nilIface ∧ FR w' fp fm S.t now (Lh.fput S.t S.L k s now) ∧ Tur (FFt fp fm) w1 w') :
    Calls Tryz.prog 87 #[.pointer (some ⟨p, 0, none⟩), .int .u64 (k : Nat), .int .i64 now] W fun e w' => e = .returned (.tuple #[.string s, .bool false, .nilIface]) ∧ BR w' p hp fp fm db bs lv { S with la := now, L := Lh.fput S.t S.L k s now } ∧ Tur (FFt fp fm) W w' := by
  have hget := getF_ok h.f k hkk now hok
  have c2 := h.c2
  have HH : Hid (BR W p hp fp fm db bs lv S) := h
  have HK : Hid (Lh.BOk S) := hk
  have HBY : Hid (∀ w1, Tur (FFt fp fm) W w1 → BR w1 p hp fp fm db bs lv { S with la := now } → Calls Tryz.prog 117 #[.pointer (some ⟨p, 0, none⟩), .int .u64 (k : Nat)] w1 fun e w' => e = .returned (.tuple #[.string s, .nilIface]) ∧ Below w1.heap.size w1 w') := hby
  have HP : Hid (∀ w1, Tur (FFt fp fm) W w1 → FR w1 fp fm S.t now S.L → Calls Tryz.prog 118 #[.pointer (some ⟨fp, 0, none⟩), .int .u64 (k : Nat), .string s, .int .i64 now] w1 fun e w' => e = .returned .nilIface ∧ FR w' fp fm S.t now (Lh.fput S.t S.L k s now) ∧ Tur (FFt fp fm) w1 w') := hput
  have HKS : Hid (∀ z, ¬ Lh.BKeeps S k now z) := hks
  clear h hk hok hks hby hput
  go_enter Tryz.func87, Tryz.ntmps87
  go_wp2_with fail
  refine hget.mono ?_
  rintro e w1 ⟨hF1, hT1, ⟨hi, hl, rfl⟩ | ⟨hn, rfl⟩⟩
  · have hup : Lh.hup S.hs (S.L[Lh.fix S.L k]).2.1 = false := by
      cases hu : Lh.hup S.hs (S.L[Lh.fix S.L k]).2.1 with
      | false => rfl
      | true => exact absurd ⟨hi, hl, rfl, hu⟩ (HKS.out _)
    have hB1 := HH.out.ticked hT1 hF1
    have c0 := hB1.c0
    have his := isS_any hB1.h HK.out.h (S.L[Lh.fix S.L k]).2.1
    rw [show Lh.hup ({ S with la := now } : Lh.Bl).hs (S.L[Lh.fix S.L k]).2.1 = false from hup] at his
    have HB1 : Hid (BR w1 p hp fp fm db bs lv { S with la := now }) := hB1
    have HF1 : Hid (FR w1 fp fm S.t now S.L) := hF1
    have HT1 : Hid (Tur (FFt fp fm) W w1) := hT1
    clear hget hF1 hT1 hB1 c2 hl hup HKS
    generalize (S.L[Lh.fix S.L k]).2.1 = z at *
    go_wp2_with fail
    refine his.mono ?_
    rintro e w2 ⟨rfl, hb2⟩
    have HB2 : Hid (BR w2 p hp fp fm db bs lv { S with la := now }) := HB1.out.later hb2
    have HF2 : Hid (FR w2 fp fm S.t now S.L) := HF1.out.later hb2
    have HT2 : Hid (Tur (FFt fp fm) W w2) := HT1.out.behind hb2
    clear his c0 hb2 HB1 HF1 HT1
    have hby := HBY.out w2 HT2.out HB2.out
    clear HBY
    go_wp2_with fail
    refine hby.mono ?_
    rintro e w4 ⟨rfl, hb4⟩
    have hB4 := HB2.out.later hb4
    have c2' := hB4.c2
    have HB4 : Hid (BR w4 p hp fp fm db bs lv { S with la := now }) := hB4
    have HT4 : Hid (Tur (FFt fp fm) W w4) := HT2.out.behind hb4
    have hpt := HP.out w4 HT4.out (HF2.out.later hb4)
    clear hby hb4 HB2 HT2 hB4 HP HF2
    go_wp2_with fail
    refine hpt.mono ?_
    rintro e w5 ⟨rfl, hF5, hT5⟩
    have HB5 : Hid (BR w5 p hp fp fm db bs lv { S with la := now, L := Lh.fput S.t S.L k s now }) := HB4.out.flows hT5 hF5
    have HT5 : Hid (Tur (FFt fp fm) W w5) := HT4.out.trans hT5 fun b hb => Or.inl hb
    clear hpt hF5 hT5 c2' HB4 HT4
    go_wp2
    go_ret3
    exact ⟨rfl, HB5.out, HT5.out⟩
  · have HB2 : Hid (BR w1 p hp fp fm db bs lv { S with la := now }) := HH.out.ticked hT1 hF1
    have HF2 : Hid (FR w1 fp fm S.t now S.L) := hF1
    have HT2 : Hid (Tur (FFt fp fm) W w1) := hT1
    clear hget hF1 hT1 c2 hn HKS
    have hby := HBY.out w1 HT2.out HB2.out
    clear HBY
    go_wp2_with fail
    refine hby.mono ?_
    rintro e w4 ⟨rfl, hb4⟩
    have hB4 := HB2.out.later hb4
    have c2' := hB4.c2
    have HB4 : Hid (BR w4 p hp fp fm db bs lv { S with la := now }) := hB4
    have HT4 : Hid (Tur (FFt fp fm) W w4) := HT2.out.behind hb4
    have hpt := HP.out w4 HT4.out (HF2.out.later hb4)
    clear hby hb4 HB2 HT2 hB4 HP HF2
    go_wp2_with fail
    refine hpt.mono ?_
    rintro e w5 ⟨rfl, hF5, hT5⟩
    have HB5 : Hid (BR w5 p hp fp fm db bs lv { S with la := now, L := Lh.fput S.t S.L k s now }) := HB4.out.flows hT5 hF5
    have HT5 : Hid (Tur (FFt fp fm) W w5) := HT4.out.trans hT5 fun b hb => Or.inl hb
    clear hpt hF5 hT5 c2' HB4 HT4
    go_wp2
    go_ret3
    exact ⟨rfl, HB5.out, HT5.out⟩
end
end Go.Proofs.YtmdckddenelneaaGreatDoor
