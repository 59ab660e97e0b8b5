/- The landed balance: Pick, over what byTable and Put do. -/
import Derived.Test.YtmkdpchodeckgaaDoorBbU
namespace Go.Proofs.YtmkdpchodeckgaaDoor
open Go.RowKit Go.Shelf Go.Maps Go.ChangeMaps

section
variable {W W' : World} {p hp fp fm db : Nat} {bs : List Nat} {lv : Value} {S : Lh.Bl}
set_option maxHeartbeats 1000000 in
theorem pick_tick (a : Nat → Addr) (he : EF a W) (h : BR W p hp fp fm db bs lv S) (k : Nat) (now : Int) (j : Nat) (hf : TickF S.la now j) :
    Calls Tryd.prog 6 #[.pointer (some ⟨p, 0, none⟩), .int .u64 (k : Nat), .int .i64 now] W fun e w' => e = .returned (.tuple #[.string ByteArray.empty, .bool false, .iface 142 (.pointer (some (a j)))]) ∧ Below W.heap.size W w' := by
  have hget := getF_bad a he h.f k now j hf
  have c2 := h.c2
  clear h he hf
  go_enter Tryd.func6, Tryd.ntmps6
  go_wp2_with fail
  refine hget.mono ?_
  rintro e w1 ⟨rfl, hb1⟩
  clear hget
  go_wp2
  go_ret3
  exact ⟨rfl, hb1⟩

/-- what Get leaves: the tick is told -/
theorem BR.ticked (h : BR W p hp fp fm db bs lv S) {now : Int} (hT : Tur (FFt fp fm) W W') (hF : FR W' fp fm S.t now S.L) : BR W' p hp fp fm db bs lv { S with la := now } := h.flows hT hF

set_option maxHeartbeats 2000000 in
theorem pick_keep (h : BR W p hp fp fm db bs lv S) (hk : Lh.BOk S) (k : Nat) (hkk : k < 18446744073709551616) (now : Int) (hok : TickOk S.la now) (s : ByteArray) (hks : Lh.BKeeps S k now s)
    (hput : ∀ w1, Tur (FFt fp fm) W w1 → FR w1 fp fm S.t now S.L → Calls Tryd.prog 17 #[.pointer (some ⟨fp, 0, none⟩), .int .u64 (k : Nat), .string s, .int .i64 now] w1 fun e w' => e = .returned .nilIface ∧ FR w' fp fm S.t now (Lh.fput S.t S.L k s now) ∧ Tur (FFt fp fm) w1 w') :
    Calls Tryd.prog 6 #[.pointer (some ⟨p, 0, none⟩), .int .u64 (k : Nat), .int .i64 now] W fun e w' => e = .returned (.tuple #[.string s, .bool true, .nilIface]) ∧ BR w' p hp fp fm db bs lv { S with la := now, L := Lh.fput S.t S.L k s now } ∧ Tur (FFt fp fm) W w' := by
  have hget := getF_ok h.f k hkk now hok
  have c2 := h.c2
  have HH : Hid (BR W p hp fp fm db bs lv S) := h
  have HK : Hid (Lh.BOk S) := hk
  have HP : Hid (∀ w1, Tur (FFt fp fm) W w1 → FR w1 fp fm S.t now S.L → Calls Tryd.prog 17 #[.pointer (some ⟨fp, 0, none⟩), .int .u64 (k : Nat), .string s, .int .i64 now] w1 fun e w' => e = .returned .nilIface ∧ FR w' fp fm S.t now (Lh.fput S.t S.L k s now) ∧ Tur (FFt fp fm) w1 w') := hput
  obtain ⟨hix, hlt, hsx, hup⟩ := hks
  have HUP : Hid (Lh.hup S.hs s = true) := hup
  have HSX : Hid ((S.L[Lh.fix S.L k]).2.1 = s) := hsx
  have HLT : Hid (now < (S.L[Lh.fix S.L k]).2.2) := hlt
  have HIX : Hid (Lh.fix S.L k < S.L.length) := hix
  clear h hk hok hput hlt hsx hup
  go_enter Tryd.func6, Tryd.ntmps6
  go_wp2_with fail
  refine hget.mono ?_
  rintro e w1 ⟨hF1, hT1, ⟨hi, hl, rfl⟩ | ⟨hn, rfl⟩⟩
  case inr =>
    have h1 := hn HIX.out
    have h2 := HLT.out
    omega
  rw [HSX.out]
  have hB1 := HH.out.ticked hT1 hF1
  have c0 := hB1.c0
  have c2' := hB1.c2
  have his := isS_any hB1.h HK.out.h s
  rw [show Lh.hup ({ S with la := now } : Lh.Bl).hs s = true from HUP.out] at his
  have HB1 : Hid (BR w1 p hp fp fm db bs lv { S with la := now }) := hB1
  have HF1 : Hid (FR w1 fp fm S.t now S.L) := hF1
  have HT1 : Hid (Tur (FFt fp fm) W w1) := hT1
  clear hget hF1 hT1 hB1 c2 hl HSX HLT HIX
  go_wp2_with fail
  refine his.mono ?_
  rintro e w2 ⟨rfl, hb2⟩
  have c2'' := below_cell hb2 c2'
  have hp2 := HP.out w2 (HT1.out.behind hb2) (HF1.out.later hb2)
  clear his c0 c2'
  go_wp2_with fail
  refine hp2.mono ?_
  rintro e w3 ⟨rfl, hF3, hT3⟩
  have HB3 : Hid (BR w3 p hp fp fm db bs lv { S with la := now, L := Lh.fput S.t S.L k s now }) := (HB1.out.later hb2).flows hT3 hF3
  have HT3 : Hid (Tur (FFt fp fm) W w3) := (HT1.out.behind hb2).trans hT3 fun b hb => Or.inl hb
  clear hp2 hF3 hT3 c2''
  go_wp2
  go_ret3
  exact ⟨rfl, HB3.out, HT3.out⟩

set_option maxHeartbeats 2000000 in
theorem pick_none (a : Nat → Addr) (h : BR W p hp fp fm db bs lv S) (hk : Lh.BOk S) (k : Nat) (hkk : k < 18446744073709551616) (now : Int) (hok : TickOk S.la now) (hks : ∀ z, ¬ Lh.BKeeps S k now z)
    (hby : ∀ w1, Tur (FFt fp fm) W w1 → BR w1 p hp fp fm db bs lv { S with la := now } → Calls Tryd.prog 16 #[.pointer (some ⟨p, 0, none⟩), .int .u64 (k : Nat)] w1 fun e w' => e = .returned (.tuple #[.string ByteArray.empty, .iface 142 (.pointer (some (a 4)))]) ∧ Below w1.heap.size w1 w') :
    Calls Tryd.prog 6 #[.pointer (some ⟨p, 0, none⟩), .int .u64 (k : Nat), .int .i64 now] W fun e w' => e = .returned (.tuple #[.string ByteArray.empty, .bool false, .iface 142 (.pointer (some (a 4)))]) ∧ BR w' p hp fp fm db bs lv { S with la := now } ∧ Tur (FFt fp fm) W w' := by
  have hget := getF_ok h.f k hkk now hok
  have c2 := h.c2
  have HH : Hid (BR W p hp fp fm db bs lv S) := h
  have HK : Hid (Lh.BOk S) := hk
  have HBY : Hid (∀ w1, Tur (FFt fp fm) W w1 → BR w1 p hp fp fm db bs lv { S with la := now } → Calls Tryd.prog 16 #[.pointer (some ⟨p, 0, none⟩), .int .u64 (k : Nat)] w1 fun e w' => e = .returned (.tuple #[.string ByteArray.empty, .iface 142 (.pointer (some (a 4)))]) ∧ Below w1.heap.size w1 w') := hby
  have HKS : Hid (∀ z, ¬ Lh.BKeeps S k now z) := hks
  clear h hk hok hks hby
  go_enter Tryd.func6, Tryd.ntmps6
  go_wp2_with fail
  refine hget.mono ?_
  rintro e w1 ⟨hF1, hT1, ⟨hi, hl, rfl⟩ | ⟨hn, rfl⟩⟩
  · have hup : Lh.hup S.hs (S.L[Lh.fix S.L k]).2.1 = false := by
      cases hu : Lh.hup S.hs (S.L[Lh.fix S.L k]).2.1 with
      | false => rfl
      | true => exact absurd ⟨hi, hl, rfl, hu⟩ (HKS.out _)
    have hB1 := HH.out.ticked hT1 hF1
    have c0 := hB1.c0
    have his := isS_any hB1.h HK.out.h (S.L[Lh.fix S.L k]).2.1
    rw [show Lh.hup ({ S with la := now } : Lh.Bl).hs (S.L[Lh.fix S.L k]).2.1 = false from hup] at his
    have HB1 : Hid (BR w1 p hp fp fm db bs lv { S with la := now }) := hB1
    have HF1 : Hid (FR w1 fp fm S.t now S.L) := hF1
    have HT1 : Hid (Tur (FFt fp fm) W w1) := hT1
    clear hget hF1 hT1 hB1 c2 hl hup HKS
    generalize (S.L[Lh.fix S.L k]).2.1 = z at *
    go_wp2_with fail
    refine his.mono ?_
    rintro e w2 ⟨rfl, hb2⟩
    have HB2 : Hid (BR w2 p hp fp fm db bs lv { S with la := now }) := HB1.out.later hb2
    have HF2 : Hid (FR w2 fp fm S.t now S.L) := HF1.out.later hb2
    have HT2 : Hid (Tur (FFt fp fm) W w2) := HT1.out.behind hb2
    clear his c0 hb2 HB1 HF1 HT1
    have hby := HBY.out w2 HT2.out HB2.out
    clear HBY HF2
    go_wp2_with fail
    refine hby.mono ?_
    rintro e w4 ⟨rfl, hb4⟩
    have HB4 : Hid (BR w4 p hp fp fm db bs lv { S with la := now }) := HB2.out.later hb4
    have HT4 : Hid (Tur (FFt fp fm) W w4) := HT2.out.behind hb4
    clear hby hb4 HB2 HT2
    go_wp2
    go_ret3
    exact ⟨rfl, HB4.out, HT4.out⟩
  · have HB2 : Hid (BR w1 p hp fp fm db bs lv { S with la := now }) := HH.out.ticked hT1 hF1
    have HF2 : Hid (FR w1 fp fm S.t now S.L) := hF1
    have HT2 : Hid (Tur (FFt fp fm) W w1) := hT1
    clear hget hF1 hT1 c2 hn HKS
    have hby := HBY.out w1 HT2.out HB2.out
    clear HBY HF2
    go_wp2_with fail
    refine hby.mono ?_
    rintro e w4 ⟨rfl, hb4⟩
    have HB4 : Hid (BR w4 p hp fp fm db bs lv { S with la := now }) := HB2.out.later hb4
    have HT4 : Hid (Tur (FFt fp fm) W w4) := HT2.out.behind hb4
    clear hby hb4 HB2 HT2
    go_wp2
    go_ret3
    exact ⟨rfl, HB4.out, HT4.out⟩

set_option maxHeartbeats 2000000 in
theorem pick_new (h : BR W p hp fp fm db bs lv S) (hk : Lh.BOk S) (k : Nat) (hkk : k < 18446744073709551616) (now : Int) (hok : TickOk S.la now) (hks : ∀ z, ¬ Lh.BKeeps S k now z) (s : ByteArray)
    (hby : ∀ w1, Tur (FFt fp fm) W w1 → BR w1 p hp fp fm db bs lv { S with la := now } → Calls Tryd.prog 16 #[.pointer (some ⟨p, 0, none⟩), .int .u64 (k : Nat)] w1 fun e w' => e = .returned (.tuple #[.string s, .nilIface]) ∧ Below w1.heap.size w1 w')
    (hput : ∀ w1, Tur (FFt fp fm) W w1 → FR w1 fp fm S.t now S.L → Calls Tryd.prog 17 #[.pointer (some ⟨fp, 0, none⟩), .int .u64 (k : Nat), .string s, .int .i64 now] w1 fun e w' => e = .returned .nilIface ∧ FR w' fp fm S.t now (Lh.fput S.t S.L k s now) ∧ Tur (FFt fp fm) w1 w') :
    Calls Tryd.prog 6 #[.pointer (some ⟨p, 0, none⟩), .int .u64 (k : Nat), .int .i64 now] W fun e w' => e = .returned (.tuple #[.string s, .bool false, .nilIface]) ∧ BR w' p hp fp fm db bs lv { S with la := now, L := Lh.fput S.t S.L k s now } ∧ Tur (FFt fp fm) W w' := by
  have hget := getF_ok h.f k hkk now hok
  have c2 := h.c2
  have HH : Hid (BR W p hp fp fm db bs lv S) := h
  have HK : Hid (Lh.BOk S) := hk
  have HBY : Hid (∀ w1, Tur (FFt fp fm) W w1 → BR w1 p hp fp fm db bs lv { S with la := now } → Calls Tryd.prog 16 #[.pointer (some ⟨p, 0, none⟩), .int .u64 (k : Nat)] w1 fun e w' => e = .returned (.tuple #[.string s, .nilIface]) ∧ Below w1.heap.size w1 w') := hby
  have HP : Hid (∀ w1, Tur (FFt fp fm) W w1 → FR w1 fp fm S.t now S.L → Calls Tryd.prog 17 #[.pointer (some ⟨fp, 0, none⟩), .int .u64 (k : Nat), .string s, .int .i64 now] w1 fun e w' => e = .returned .nilIface ∧ FR w' fp fm S.t now (Lh.fput S.t S.L k s now) ∧ Tur (FFt fp fm) w1 w') := hput
  have HKS : Hid (∀ z, ¬ Lh.BKeeps S k now z) := hks
  clear h hk hok hks hby hput
  go_enter Tryd.func6, Tryd.ntmps6
  go_wp2_with fail
  refine hget.mono ?_
  rintro e w1 ⟨hF1, hT1, ⟨hi, hl, rfl⟩ | ⟨hn, rfl⟩⟩
  · have hup : Lh.hup S.hs (S.L[Lh.fix S.L k]).2.1 = false := by
      cases hu : Lh.hup S.hs (S.L[Lh.fix S.L k]).2.1 with
      | false => rfl
      | true => exact absurd ⟨hi, hl, rfl, hu⟩ (HKS.out _)
    have hB1 := HH.out.ticked hT1 hF1
    have c0 := hB1.c0
    have his := isS_any hB1.h HK.out.h (S.L[Lh.fix S.L k]).2.1
    rw [show Lh.hup ({ S with la := now } : Lh.Bl).hs (S.L[Lh.fix S.L k]).2.1 = false from hup] at his
    have HB1 : Hid (BR w1 p hp fp fm db bs lv { S with la := now }) := hB1
    have HF1 : Hid (FR w1 fp fm S.t now S.L) := hF1
    have HT1 : Hid (Tur (FFt fp fm) W w1) := hT1
    clear hget hF1 hT1 hB1 c2 hl hup HKS
    generalize (S.L[Lh.fix S.L k]).2.1 = z at *
    go_wp2_with fail
    refine his.mono ?_
    rintro e w2 ⟨rfl, hb2⟩
    have HB2 : Hid (BR w2 p hp fp fm db bs lv { S with la := now }) := HB1.out.later hb2
    have HF2 : Hid (FR w2 fp fm S.t now S.L) := HF1.out.later hb2
    have HT2 : Hid (Tur (FFt fp fm) W w2) := HT1.out.behind hb2
    clear his c0 hb2 HB1 HF1 HT1
    have hby := HBY.out w2 HT2.out HB2.out
    clear HBY
    go_wp2_with fail
    refine hby.mono ?_
    rintro e w4 ⟨rfl, hb4⟩
    have hB4 := HB2.out.later hb4
    have c2' := hB4.c2
    have HB4 : Hid (BR w4 p hp fp fm db bs lv { S with la := now }) := hB4
    have HT4 : Hid (Tur (FFt fp fm) W w4) := HT2.out.behind hb4
    have hpt := HP.out w4 HT4.out (HF2.out.later hb4)
    clear hby hb4 HB2 HT2 hB4 HP HF2
    go_wp2_with fail
    refine hpt.mono ?_
    rintro e w5 ⟨rfl, hF5, hT5⟩
    have HB5 : Hid (BR w5 p hp fp fm db bs lv { S with la := now, L := Lh.fput S.t S.L k s now }) := HB4.out.flows hT5 hF5
    have HT5 : Hid (Tur (FFt fp fm) W w5) := HT4.out.trans hT5 fun b hb => Or.inl hb
    clear hpt hF5 hT5 c2' HB4 HT4
    go_wp2
    go_ret3
    exact ⟨rfl, HB5.out, HT5.out⟩
  · have HB2 : Hid (BR w1 p hp fp fm db bs lv { S with la := now }) := HH.out.ticked hT1 hF1
    have HF2 : Hid (FR w1 fp fm S.t now S.L) := hF1
    have HT2 : Hid (Tur (FFt fp fm) W w1) := hT1
    clear hget hF1 hT1 c2 hn HKS
    have hby := HBY.out w1 HT2.out HB2.out
    clear HBY
    go_wp2_with fail
    refine hby.mono ?_
    rintro e w4 ⟨rfl, hb4⟩
    have hB4 := HB2.out.later hb4
    have c2' := hB4.c2
    have HB4 : Hid (BR w4 p hp fp fm db bs lv { S with la := now }) := hB4
    have HT4 : Hid (Tur (FFt fp fm) W w4) := HT2.out.behind hb4
    have hpt := HP.out w4 HT4.out (HF2.out.later hb4)
    clear hby hb4 HB2 HT2 hB4 HP HF2
    go_wp2_with fail
    refine hpt.mono ?_
    rintro e w5 ⟨rfl, hF5, hT5⟩
    have HB5 : Hid (BR w5 p hp fp fm db bs lv { S with la := now, L := Lh.fput S.t S.L k s now }) := HB4.out.flows hT5 hF5
    have HT5 : Hid (Tur (FFt fp fm) W w5) := HT4.out.trans hT5 fun b hb => Or.inl hb
    clear hpt hF5 hT5 c2' HB4 HT4
    go_wp2
    go_ret3
    exact ⟨rfl, HB5.out, HT5.out⟩
end
end Go.Proofs.YtmkdpchodeckgaaDoor
