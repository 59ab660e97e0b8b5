/- Flows: the contracts where a tick is right; the closed fact. -/
import Derived.Test.YtijdaaghomclmabDoorFlCon
namespace Go.Proofs.YtijdaaghomclmabDoor
open Go.RowKit

theorem tick_not {la now : Int} {k : Nat} (h : TickOk la now) : ¬ TickF la now k := by
  obtain ⟨h1, h2, h3⟩ := h
  rintro (⟨h, _⟩ | ⟨_, _, h, _⟩) <;> omega
section
variable (hC : FlowsC) {a : Nat → Addr} {t : Nat} {la : Int} {L : List Lh.Fl} {F : Nat → Prop} {p : Nat} {W : World} {B : Nat}
theorem fput_ok (he : hC.E a W) (hR : hC.Rep t la L F p W) (hok : Lh.FlOk L) (ht1 : 1 ≤ t) (ht : t ≤ 1000) (hla : 0 ≤ la) (hF : ∀ b, F b → B ≤ b) (hB : B ≤ W.heap.size) (k : Nat) (hk : k < 18446744073709551616) (s : ByteArray) (hs : s.size ≤ 300) (hn : Lh.isNm s = true) (now : Int) (hT : TickOk la now) :
    Calls Tryd.prog 48 #[.pointer (some ⟨p, 0, none⟩), .int .u64 (k : Nat), .string s, .int .i64 now] W fun e W' => ∃ F', e = .returned .nilIface ∧ hC.Rep t now (Lh.fput t L k s now) F' p W' ∧ (∀ b, F' b → B ≤ b) ∧ Below B W W' := by
  refine (hC.put a t la L F p k s now W he hR hok ht1 ht hla hk hs).mono ?_
  rintro e W' ⟨F', h1, h2, ⟨_, _, rfl, h3⟩ | ⟨j, h | ⟨_, h, _⟩, _⟩⟩
  · refine ⟨F', rfl, h3, fun b hb => ?_, h2.below hF (Below.refl _ _) hB⟩
    rcases h1 b hb with h | h
    · exact hF b h
    · omega
  · exact absurd h (tick_not hT)
  · rw [hn] at h
    cases h
theorem fget_hit (he : hC.E a W) (hR : hC.Rep t la L F p W) (hok : Lh.FlOk L) (hla : 0 ≤ la) (hF : ∀ b, F b → B ≤ b) (hB : B ≤ W.heap.size) (k : Nat) (hk : k < 18446744073709551616) (now : Int) (hT : TickOk la now) (hx : Lh.fix L k < L.length) (hu : now < (L[Lh.fix L k]).2.2) :
    Calls Tryd.prog 50 #[.pointer (some ⟨p, 0, none⟩), .int .u64 (k : Nat), .int .i64 now] W fun e W' => ∃ F', e = .returned (.tuple #[.string (L[Lh.fix L k]).2.1, .bool true, .nilIface]) ∧ hC.Rep t now L F' p W' ∧ (∀ b, F' b → B ≤ b) ∧ Below B W W' := by
  refine (hC.get a t la L F p k now W he hR hok hla hk).mono ?_
  rintro e W' ⟨F', h1, h2, ⟨_, h3, ⟨_, _, rfl⟩ | ⟨h, _⟩⟩ | ⟨j, h, _⟩⟩
  · refine ⟨F', rfl, h3, fun b hb => ?_, h2.below hF (Below.refl _ _) hB⟩
    rcases h1 b hb with h | h
    · exact hF b h
    · omega
  · have := h hx
    omega
  · exact absurd h (tick_not hT)
theorem fget_miss (he : hC.E a W) (hR : hC.Rep t la L F p W) (hok : Lh.FlOk L) (hla : 0 ≤ la) (hF : ∀ b, F b → B ≤ b) (hB : B ≤ W.heap.size) (k : Nat) (hk : k < 18446744073709551616) (now : Int) (hT : TickOk la now) (hu : ∀ h : Lh.fix L k < L.length, (L[Lh.fix L k]).2.2 ≤ now) :
    Calls Tryd.prog 50 #[.pointer (some ⟨p, 0, none⟩), .int .u64 (k : Nat), .int .i64 now] W fun e W' => ∃ F', e = .returned (.tuple #[.string ByteArray.empty, .bool false, .nilIface]) ∧ hC.Rep t now L F' p W' ∧ (∀ b, F' b → B ≤ b) ∧ Below B W W' := by
  refine (hC.get a t la L F p k now W he hR hok hla hk).mono ?_
  rintro e W' ⟨F', h1, h2, ⟨_, h3, ⟨hx, h, _⟩ | ⟨_, rfl⟩⟩ | ⟨j, h, _⟩⟩
  · have := hu hx
    omega
  · refine ⟨F', rfl, h3, fun b hb => ?_, h2.below hF (Below.refl _ _) hB⟩
    rcases h1 b hb with h | h
    · exact hF b h
    · omega
  · exact absurd h (tick_not hT)
theorem fexp_ok (he : hC.E a W) (hR : hC.Rep t la L F p W) (hok : Lh.FlOk L) (hla : 0 ≤ la) (hF : ∀ b, F b → B ≤ b) (hB : B ≤ W.heap.size) (now : Int) (hT : TickOk la now) :
    Calls Tryd.prog 52 #[.pointer (some ⟨p, 0, none⟩), .int .i64 now] W fun e W' => ∃ F', e = .returned (.tuple #[.int .i64 ((L.length - (Lh.fexp L now).length : Nat) : Int), .nilIface]) ∧ hC.Rep t now (Lh.fexp L now) F' p W' ∧ (∀ b, F' b → B ≤ b) ∧ Below B W W' := by
  refine (hC.expire a t la L F p now W he hR hok hla).mono ?_
  rintro e W' ⟨F', h1, h2, ⟨_, rfl, h3⟩ | ⟨j, h, _⟩⟩
  · refine ⟨F', rfl, h3, fun b hb => ?_, h2.below hF (Below.refl _ _) hB⟩
    rcases h1 b hb with h | h
    · exact hF b h
    · omega
  · exact absurd h (tick_not hT)
theorem fdrop_ok (hR : hC.Rep t la L F p W) (hok : Lh.FlOk L) (hF : ∀ b, F b → B ≤ b) (hB : B ≤ W.heap.size) (s : ByteArray) (hs : s.size ≤ 300) :
    Calls Tryd.prog 49 #[.pointer (some ⟨p, 0, none⟩), .string s] W fun e W' => ∃ F', e = .returned (.int .i64 ((L.length - (Lh.fdrop L s).length : Nat) : Int)) ∧ hC.Rep t la (Lh.fdrop L s) F' p W' ∧ (∀ b, F' b → B ≤ b) ∧ Below B W W' := by
  refine (hC.drop t la L F p s W hR hok hs).mono ?_
  rintro e W' ⟨F', h1, h2, rfl, h3⟩
  refine ⟨F', rfl, h3, fun b hb => ?_, h2.below hF (Below.refl _ _) hB⟩
  rcases h1 b hb with h | h
  · exact hF b h
  · omega
end
theorem one_ok {s : ByteArray} (hs : s.size ≤ 300) {k : Nat} (hk : k < 18446744073709551616) {u : Int} (hu : 0 ≤ u) (hu2 : u ≤ 2000000000000) : Lh.FlOk [(k, s, u)] := by
  refine ⟨by simp, by simp, ?_, ?_, ?_, ?_⟩ <;> simp [hs, hk, hu, hu2]
theorem fput_one (t k : Nat) (s : ByteArray) (now : Int) : Lh.fput t [] k s now = [(k, s, now + t)] := rfl
theorem fix_one (k : Nat) (s : ByteArray) (u : Int) : Lh.fix [(k, s, u)] k = 0 := by simp [Lh.fix]

set_option maxHeartbeats 2000000 in
theorem flowed_any (hC : FlowsC) (a : Nat → Addr) (w : World) (he : hC.E a w) :
    Calls Tryd.prog 46 #[] w fun e w' => e = .returned (.bool true) ∧ Below w.heap.size w w' := by
  have HE : Hid (hC.E a w) := he
  have hnew := hC.newG 5 w (by decide) (by decide)
  clear he
  go_enter Tryd.func46, Tryd.ntmps46
  go_wp2_with fail
  refine hnew.mono ?_
  rintro e w1 ⟨p, F, rfl, hR, hF, hb1⟩
  have hput := fput_ok hC (hC.eLater HE.out hb1) hR Lh.FlOk.nil (by decide) (by decide) (by decide) hF hb1.size 7 (by decide) hostA lenA hostA_nm 10 ⟨by decide, by decide, by decide⟩
  rw [fput_one] at hput
  clear hnew hR hF
  go_wp2_with fail
  refine hput.mono ?_
  rintro e w2 ⟨F2, rfl, hR2, hF2, hb2⟩
  have hbw2 : Below w.heap.size w w2 := hb1.trans hb2
  have hok : Lh.FlOk [(7, hostA, 10 + 5)] := one_ok lenA (by decide) (by decide) (by decide)
  have hg1 := fget_hit hC (hC.eLater HE.out hbw2) hR2 hok (by decide) hF2 hbw2.size 7 (by decide) 14 ⟨by decide, by decide, by decide⟩ (by rw [fix_one]; decide) (by simp [fix_one])
  simp only [fix_one, List.getElem_cons_zero] at hg1
  have HOK : Hid (Lh.FlOk [(7, hostA, 10 + 5)]) := hok
  have hq : (hostA.toList == [97]) = true := by decide +kernel
  clear hput hR2 hF2 hb2 hok
  go_wp2_with fail
  refine hg1.mono ?_
  rintro e w3 ⟨F3, rfl, hR3, hF3, hb3⟩
  have hbw3 : Below w.heap.size w w3 := hbw2.trans hb3
  have hg2 := fget_miss hC (hC.eLater HE.out hbw3) hR3 HOK.out (by decide) hF3 hbw3.size 7 (by decide) 15 ⟨by decide, by decide, by decide⟩ (fun h => by simp [fix_one])
  clear hg1 hR3 hF3 hb3 hbw2
  go_wp2_with fail
  refine hg2.mono ?_
  rintro e w4 ⟨F4, rfl, hR4, hF4, hb4⟩
  have hbw4 : Below w.heap.size w w4 := hbw3.trans hb4
  have hls := hC.list _ _ _ F4 p w4 hR4 HOK.out
  clear hg2 hR4 hF4 hb4 hbw3
  go_wp2_with fail
  refine hls.mono ?_
  rintro e w5 ⟨v5, rfl, hv5, hb5⟩
  obtain ⟨p5, c5, rfl⟩ := hv5.shape
  clear hls hv5
  go_wp2
  go_ret
  exact ⟨rfl, below_then hbw4 hb5⟩
end Go.Proofs.YtijdaaghomclmabDoor
