/- The landed hexText and readHex. -/
import Derived.Test.YtfhmfjcpggddkaaGreatDoorM7
import Derived.Test.YtfhmfjcpggddkaaGreatDoorM4
import Derived.Test.YtfhmfjcpggddkaaGreatDoorM6
import Derived.Lib.ConvBytes
import Derived.Test.YtfhmfjcpggddkaaGreatDoorM5
import Derived.Deep.RegionHeld3
namespace Go.Proofs.YtfhmfjcpggddkaaGreatDoor
open Go.RowKit
set_option maxHeartbeats 2000000 in
set_option maxRecDepth 100000 in
theorem fmt_any (n : Nat) (hn : n < 18446744073709551616) (w : World) (h : w.cell? ⟨15, 15, none⟩ = some (.int .u8 4)) :
    Calls Tryz.prog 104 #[.int .u64 (n : Nat), .int .i64 16] w fun e w' => e = .returned (.string (Lh.bt (Lh.hexD n))) ∧ Below w.heap.size w w' := by
  have hf := fbits_any n hn w h
  go_enter Tryz.func104, Tryz.ntmps104
  go_wp2_with (first | (go_at_call 162; go_in) | (go_at_call 207; refine hf.mono ?_; rintro e w1 ⟨rfl, hb1⟩))
  go_ret
  exact ⟨rfl, hb1⟩
set_option maxHeartbeats 2000000 in
set_option maxRecDepth 100000 in
/-- hexText: so many digits. -/
theorem hexT_any {a : Nat → Addr} (n d : Nat) (hd : d ≤ 16) (hd0 : 0 < d) (hn : n < 16 ^ d) (w : World) (he : EC a w) :
    Calls Tryz.prog 210 #[.int .u64 (n : Nat), .int .i64 (d : Nat)] w fun e w' => e = .returned (.string (Lh.bt (Lh.hexL d n))) ∧ Below w.heap.size w w' := by
  have hn64 : n < 18446744073709551616 := Nat.lt_of_lt_of_le hn (Nat.le_trans (Nat.pow_le_pow_right (by decide) hd) (by decide))
  have hf := fmt_any n hn64 w he.brj
  obtain ⟨hl, hfill⟩ : (Lh.hexD n).length ≤ d ∧ List.replicate (d - (Lh.hexD n).length) 48 ++ Lh.hexD n = Lh.hexL d n := by
    obtain ⟨k, rfl⟩ : ∃ k, d = k + 1 := ⟨d - 1, by omega⟩
    exact Lh.hexD_fill k n hn
  have HF : Hid (List.replicate (d - (Lh.hexD n).length) 48 ++ Lh.hexD n = Lh.hexL d n) := hfill
  have hsz : (Lh.bt (Lh.hexD n)).size = (Lh.hexD n).length := by simp [Lh.bt, ByteArray.size]
  clear hfill he
  go_enter Tryz.func210, Tryz.ntmps210
  go_wp2_with fail
  refine hf.mono ?_
  rintro e w1 ⟨rfl, hb1⟩
  clear hf
  have hr := repeat_any (d - (Lh.hexD n).length) (by omega) w1
  have hsub : (d : Int) - ((Lh.hexD n).length : Int) = ((d - (Lh.hexD n).length : Nat) : Int) := by omega
  have hs2 : (Lh.bt (List.replicate (d - (Lh.hexD n).length) 48)).size + (Lh.bt (Lh.hexD n)).size ≤ 1000 := by
    simp [Lh.bt, ByteArray.size]
    omega
  go_wp2_with fail
  refine hr.mono ?_
  rintro e w2 ⟨rfl, hb2⟩
  clear hr
  go_wp2
  go_ret
  refine ⟨?_, below_then hb1 hb2⟩
  rw [← HF.out, ← Lh.bt_append]
  rfl
end Go.Proofs.YtfhmfjcpggddkaaGreatDoor

/- The landed sum. -/
namespace Go.Proofs.YtfhmfjcpggddkaaGreatDoor
open Go.RowKit
theorem u32_of (a : Nat) (h : a < 2 ^ 32) : (BitVec.ofInt 32 (a : Int)).toNat = a := by
  rw [BitVec.ofInt_natCast, BitVec.toNat_ofNat]; exact Nat.mod_eq_of_lt (by omega)
theorem xorU32 (a b : Nat) (ha : a < 2 ^ 32) (hb : b < 2 ^ 32) : bits .xor .u32 (a : Int) (b : Int) = ((a ^^^ b : Nat) : Int) := by
  have hx : a ^^^ b < 2 ^ 32 := Nat.xor_lt_two_pow ha hb
  show IntKind.u32.wrap ((BitVec.ofInt 32 (a : Int) ^^^ BitVec.ofInt 32 (b : Int)).toNat : Int) = _
  rw [BitVec.toNat_xor, u32_of a ha, u32_of b hb, IntKind.wrap_u32]
  omega
theorem and1U (a : Nat) (ha : a < 2 ^ 32) : bits .and .u32 (a : Int) 1 = ((a % 2 : Nat) : Int) := by
  show IntKind.u32.wrap ((BitVec.ofInt 32 (a : Int) &&& BitVec.ofInt 32 ((1 : Nat) : Int)).toNat : Int) = _
  rw [BitVec.toNat_and, u32_of a ha, u32_of 1 (by decide), IntKind.wrap_u32, Nat.and_one_is_mod]
  omega
set_option maxRecDepth 100000 in
set_option maxHeartbeats 2000000 in
theorem sumOf_any (s : List UInt8) (hs : s.length ≤ 100000) (W : World) :
    Calls Tryz.prog 211 #[.string (Lh.bt s)] W fun e w' => e = .returned (.int .u32 ((Lh.crcL s : Nat) : Int)) ∧ w' = W := by
  go_enter Tryz.func211, Tryz.ntmps211
  have hsz := Lh.bt_size s
  go_wp2_with fail
  go_loop [3, 8] (fun u3 u8 => ∃ i : Nat, i ≤ s.length ∧ u8 = .int .i64 (i : Nat) ∧ u3 = .int .u32 (((s.take i).foldl Lh.crcByte 4294967295 : Nat) : Int)) (fun _ u8 => s.length - (intOf u8).toNat)
  case atStart => exact ⟨0, Nat.zero_le _, rfl, rfl⟩
  case round =>
    obtain ⟨i, hi, rfl, rfl⟩ := hrel
    by_cases hlt : i < s.length
    · have hii : (i : Int) < (s.length : Int) := by omega
      have hbs : i < (Lh.bt s).size := by rw [hsz]; exact hlt
      obtain ⟨b, hb⟩ : ∃ b, (Lh.bt s)[i] = b := ⟨_, rfl⟩
      have hb2 : s[i] = b := hb
      have HSU : Hid ((s.take (i + 1)).foldl Lh.crcByte 4294967295 = Lh.crcByte ((s.take i).foldl Lh.crcByte 4294967295) b) := fold_take Lh.crcByte 4294967295 hlt hb2
      have hc32 : (s.take i).foldl Lh.crcByte 4294967295 < 2 ^ 32 := Lh.crcFold_lt _ (by decide)
      generalize (s.take i).foldl Lh.crcByte 4294967295 = c at *
      have hbt := b.toNat_lt
      have hx0 := xorU32 c b.toNat hc32 (by omega)
      have hbw : IntKind.u32.wrap (b.toNat : Int) = (b.toNat : Int) := by rw [IntKind.wrap_u32]; omega
      have HCX : Hid (c ^^^ b.toNat < 2 ^ 32) := Lh.crcX_lt hc32 b
      have HBY : Hid (Lh.crcByte c b = (List.range 8).foldl (Lh.crcBit 0) (c ^^^ b.toNat)) := Lh.crcByte_xor c b
      go_wp2_with fail
      go_loop [3, 17] (fun u3 u17 => ∃ k : Nat, k ≤ 8 ∧ u17 = .int .i64 (k : Nat) ∧ u3 = .int .u32 (((List.range k).foldl (Lh.crcBit 0) (c ^^^ b.toNat) : Nat) : Int)) (fun _ u17 => 8 - (intOf u17).toNat)
      case atStart => exact ⟨0, Nat.zero_le _, rfl, rfl⟩
      case round =>
        obtain ⟨k, hk, rfl, rfl⟩ := hrel
        by_cases hk8 : k < 8
        · have hki : (k : Int) < 8 := by omega
          have hd32 : (List.range k).foldl (Lh.crcBit 0) (c ^^^ b.toNat) < 2 ^ 32 := Lh.crcK_lt _ HCX.out
          have HSK : Hid ((List.range (k + 1)).foldl (Lh.crcBit 0) (c ^^^ b.toNat) = Lh.crcBit 0 ((List.range k).foldl (Lh.crcBit 0) (c ^^^ b.toNat)) k) := fold_range (Lh.crcBit 0) (c ^^^ b.toNat) k
          generalize (List.range k).foldl (Lh.crcBit 0) (c ^^^ b.toNat) = d at *
          have ha1 := and1U d hd32
          have hd2 : ((d : Int) / 2) = ((d / 2 : Nat) : Int) := by omega
          have hx2 := xorU32 (d / 2) 3988292384 (by omega) (by decide)
          have e0 : (d ^^^ (0 >>> k)) = d := by simp
          cases hbit : (bits .and .u32 (d : Int) 1 == 1) with
          | true =>
            have HB : Hid (d % 2 = 1) := by
              rw [ha1] at hbit
              have : ((d % 2 : Nat) : Int) = 1 := by simpa using hbit
              show _ = 1
              omega
            have HX3 : Hid (bits .xor .u32 ((d : Int) / 2) 3988292384 = ((d / 2 ^^^ 3988292384 : Nat) : Int)) := by
              have : bits .xor .u32 ((d : Int) / 2) 3988292384 = ((d / 2 ^^^ 3988292384 : Nat) : Int) := by rw [hd2]; exact hx2
              exact this
            have HE0 : Hid ((d ^^^ (0 >>> k)) = d) := e0
            clear ha1 hd2 hx2 e0 hx0 hbw hb hb2
            go_wp2
            refine ⟨⟨k + 1, by omega, by go_num, ?_⟩, by simp [intOf]; omega⟩
            rw [HX3.out, HSK.out]
            unfold Lh.crcBit
            rw [HE0.out, if_pos HB.out]
          | false =>
            have HB : Hid (¬ d % 2 = 1) := by
              rw [ha1] at hbit
              show ¬ _
              intro e
              rw [e] at hbit
              cases hbit
            have HD2 : Hid (((d : Int) / 2) = ((d / 2 : Nat) : Int)) := hd2
            have HE0 : Hid ((d ^^^ (0 >>> k)) = d) := e0
            clear ha1 hd2 hx2 e0 hx0 hbw hb hb2
            go_wp2
            refine ⟨⟨k + 1, by omega, by go_num, ?_⟩, by simp [intOf]; omega⟩
            rw [HD2.out, HSK.out]
            unfold Lh.crcBit
            rw [HE0.out, if_neg HB.out]
        · have hk9 : k = 8 := by omega
          have hki : decide ((k : Int) < 8) = false := by simp; omega
          have HK8 : Hid ((List.range k).foldl (Lh.crcBit 0) (c ^^^ b.toNat) = Lh.crcByte c b) := by
            have : (List.range k).foldl (Lh.crcBit 0) (c ^^^ b.toNat) = Lh.crcByte c b := by rw [hk9, HBY.out]
            exact this
          clear hk9
          generalize (List.range k).foldl (Lh.crcBit 0) (c ^^^ b.toNat) = d at *
          clear hx0 hbw hb hb2
          go_wp2
          refine ⟨⟨i + 1, by omega, by go_num, ?_⟩, by simp [intOf]; omega⟩
          rw [HSU.out, HK8.out]
    · have hii : decide ((i : Int) < (s.length : Int)) = false := by simp; omega
      have hie : i = s.length := by omega
      have HR : Hid ((s.take i).foldl Lh.crcByte 4294967295 = Lh.crcRaw s) := by rw [hie, List.take_length]; rfl
      have hc32 : (s.take i).foldl Lh.crcByte 4294967295 < 2 ^ 32 := Lh.crcFold_lt _ (by decide)
      clear hie
      generalize (s.take i).foldl Lh.crcByte 4294967295 = c at *
      have HX : Hid (bits .xor .u32 IntKind.u32.max (c : Int) = ((Lh.crcL s : Nat) : Int)) := by
        have e1 : bits .xor .u32 IntKind.u32.max (c : Int) = ((4294967295 ^^^ c : Nat) : Int) := xorU32 4294967295 c (by decide) hc32
        have e2 : Lh.crcL s = c ^^^ 4294967295 := by rw [HR.out]; rfl
        have e3 : bits .xor .u32 IntKind.u32.max (c : Int) = ((Lh.crcL s : Nat) : Int) := by rw [e1, e2, Nat.xor_comm]
        exact e3
      go_wp2
      go_ret
      refine ⟨?_, rfl⟩
      rw [← HX.out]
      rfl
end Go.Proofs.YtfhmfjcpggddkaaGreatDoor

/- The landed Text. -/
namespace Go.Proofs.YtfhmfjcpggddkaaGreatDoor
open Go.RowKit
theorem ErrIs.zero {a : Nat → Addr} {W : World} {pl : Int} {v : Value} (h : ErrIs a W 0 pl v) : v = .nilIface := by
  rcases h with ⟨_, _, h⟩ | ⟨i, _, h, _⟩
  · exact h
  · exact absurd h (by omega)
theorem ErrIs.box {a : Nat → Addr} {W : World} {c : Nat} {pl : Int} {v : Value} (h : ErrIs a W c pl v) (hc : c ≠ 0) : ∃ t p, v = .iface t p := by
  rcases h with ⟨h, _⟩ | ⟨i, _, _, ⟨_, h⟩ | ⟨b, h, _⟩⟩
  · exact absurd h hc
  · exact ⟨_, _, h⟩
  · exact ⟨_, _, h⟩
/-- one line more -/
theorem line_step {l : List Lh.Fl} {i : Nat} (hil : i < l.length) (hg : GoodF l i hil) (hin : FlIn l) : ∃ (k : Nat) (s : ByteArray) (q : Nat), (l[i]).1 = k ∧ (l[i]).2.1 = s ∧ (l[i]).2.2 = (q : Int) ∧ k < 18446744073709551616 ∧ q < 100000000000000 ∧ (Lh.joinL 32 [Lh.hexL 16 k, s.data.toList, Lh.decL q]).length ≤ 92 ∧
    ∀ H : List UInt8, H ++ Lh.rowsB (l.take (i + 1)) = H ++ Lh.rowsB (l.take i) ++ (Lh.joinL 32 [Lh.hexL 16 k, s.data.toList, Lh.decL q] ++ [10]) := by
  obtain ⟨g1, g2, g3, _⟩ := hg
  have hnm := (nm_word g1).2.2.2
  have hx := (hin _ (List.getElem_mem hil)).1
  have hl := Lh.lineF_len (x := l[i]) (by omega) (by omega)
  have hr := Lh.rowsB_take hil
  obtain ⟨x, ex⟩ : ∃ x, l[i]'hil = x := ⟨_, rfl⟩
  rw [ex] at g1 g2 g3 hx hl hr
  rw [ex]
  clear ex hnm
  obtain ⟨k, s, u⟩ := x
  obtain ⟨q, rfl⟩ : ∃ q : Nat, u = (q : Int) := ⟨u.toNat, by simp only at g2; omega⟩
  refine ⟨k, s, q, rfl, rfl, rfl, hx, by simp only at g3; omega, ?_, fun H => ?_⟩
  · simpa [Lh.lineF] using hl
  · rw [hr, ← List.append_assoc]
    simp [Lh.lineF]
set_option maxRecDepth 100000 in
set_option maxHeartbeats 2000000 in
theorem text_carry {a : Nat → Addr} (e : Int) (v : Value) (l : List Lh.Fl) (W : World) (he : EC a W) (hv : Flows1 W v l) (hl : l.length ≤ 201) (hin : FlIn l) :
    Calls Tryz.prog 163 #[.int .i64 e, v] W fun r w' => ∃ c pl, CaF e l c pl ∧ Below W.heap.size W w' ∧
      ((c = 0 ∧ r = .returned (.tuple #[.string (Lh.bt (Lh.textL e.toNat l)), .nilIface])) ∨
       (c ≠ 0 ∧ ∃ ev, r = .returned (.tuple #[.string ByteArray.empty, ev]) ∧ ErrIs a w' c pl ev ∧ ev ≠ .nilIface)) := by
  have hck := check_carry e v l W he hv (by omega) (fun x hx => ⟨(hin x hx).1, by have := (hin x hx).2.1; omega, (hin x hx).2.2⟩)
  obtain ⟨p, cp, rfl, hc⟩ := hv.cells
  have HC : Hid _ := hc
  have HE : Hid (EC a W) := he
  have HI : Hid (FlIn l) := hin
  clear hc hv he hin
  go_enter Tryz.func163, Tryz.ntmps163
  go_wp2_with fail
  refine hck.mono ?_
  rintro r w1 ⟨c, pl, ev, rfl, hcf, herr, hnil, hb1⟩
  clear hck
  by_cases h0 : c = 0
  case neg =>
    obtain ⟨t, q, rfl⟩ := herr.box h0
    have HF : Hid (CaF e l c pl) := hcf
    have HR : Hid (ErrIs a w1 c pl (.iface t q)) := herr
    clear hcf herr hnil
    go_wp2
    go_ret2
    exact ⟨c, pl, HF.out, hb1, Or.inr ⟨h0, _, rfl, HR.out, by simp⟩⟩
  subst h0
  obtain rfl := herr.zero
  have HF : Hid (CaF e l 0 pl) := hcf
  obtain ⟨⟨he0, he1, hl2⟩, hgood, rfl⟩ := caF_good hcf
  obtain ⟨n, rfl⟩ := Int.eq_ofNat_of_zero_le he0
  have HGD : Hid (∀ j, ∀ hj : j < l.length, GoodF l j hj) := hgood
  clear hcf herr hnil hgood he0
  have hlen : ∀ i, (Lh.headL n l.length ++ [10] ++ Lh.rowsB (l.take i)).length ≤ 19000 := fun i => by
    have h1 := Lh.headL_len (e := n) (n := l.length) (by omega) (by omega)
    have h2 := Lh.rowsB_len (l := l.take i) (fun x hx => by
      obtain ⟨j, hj, rfl⟩ := List.getElem_of_mem (List.mem_of_mem_take hx)
      obtain ⟨g1, g2, g3, _⟩ := HGD.out j hj
      have := (nm_word g1).2.2.2
      exact ⟨by omega, by omega⟩)
    have h3 : (l.take i).length ≤ 200 := by rw [List.length_take]; omega
    simp only [List.length_append, List.length_cons, List.length_nil]
    omega
  have HLEN : Hid (∀ i, (Lh.headL n l.length ++ [10] ++ Lh.rowsB (l.take i)).length ≤ 19000) := hlen
  clear hlen
  obtain ⟨B, hB⟩ : ∃ B, B = w1.heap.size := ⟨_, rfl⟩
  have hWB : W.heap.size ≤ B := by rw [hB]; exact hb1.size
  go_wp2_with fail
  have hp2 := Pg.made w1
  have hb2 : Below W.heap.size W (w1.alloc (.cells #[.pointer none, .slice none 0 0] 285)) := hb1.alloc hb1.size _
  have hB2 : B ≤ (w1.alloc (.cells #[.pointer none, .slice none 0 0] 285)).heap.size := by rw [hB]; simp
  rw [← hB] at hp2 ⊢
  generalize w1.alloc (.cells #[.pointer none, .slice none 0 0] 285) = w2 at *
  clear hb1 hB
  refine (itoa_any n (by omega) w2 (HE.out.later hb2)).mono ?_
  rintro r w3 ⟨rfl, hb3⟩
  dsimp only
  go_wp2_with fail
  refine (itoa_any l.length (by omega) w3 (HE.out.later (below_then hb2 hb3))).mono ?_
  rintro r w4 ⟨rfl, hb4⟩
  dsimp only
  have hb24 := below_then hb3 hb4
  have hp4 := hp2.later hb24
  have hbW4 := below_then hb2 hb24
  have hB4 : B ≤ w4.heap.size := Nat.le_trans hB2 hb24.size
  clear hb3 hb4 hb24 hp2 hb2 hB2
  go_wp2_with fail
  refine (line3_any B B [] Lh.flowsW (Lh.decL n) (Lh.decL l.length) w4 hp4 hB4 (by simp) (by
    have := Lh.headL_len (e := n) (n := l.length) (by omega) (by omega)
    have e1 : (Lh.joinL 32 [Lh.flowsW, Lh.decL n, Lh.decL l.length]).length = (Lh.headL n l.length).length := rfl
    omega)).mono ?_
  rintro r w5 ⟨rfl, hp5, hb5, _⟩
  have hbW5 : Below W.heap.size W w5 := hbW4.trans (hb5.mono hWB)
  have hB5 : B ≤ w5.heap.size := Nat.le_trans hB4 hb5.size
  have hp5' : Pg B B (Lh.headL n l.length ++ [10] ++ Lh.rowsB (l.take 0)) w5 := by
    have e1 : Lh.headL n l.length ++ [10] ++ Lh.rowsB (l.take 0) = [] ++ (Lh.joinL 32 [Lh.flowsW, Lh.decL n, Lh.decL l.length] ++ [10]) := by simp [Lh.headL, Lh.rowsB]
    rw [e1]
    exact hp5
  clear hp5 hb5 hbW4 hB4 hp4
  dsimp only
  go_wp2_with fail
  go_loopw [28] (fun u28 w' => Below W.heap.size W w' ∧ B ≤ w'.heap.size ∧ ∃ i : Nat, i ≤ l.length ∧ u28 = .int .i64 (i : Nat) ∧ Pg B B (Lh.headL n l.length ++ [10] ++ Lh.rowsB (l.take i)) w') (fun u28 _ => l.length - (intOf u28).toNat)
  case atStart => exact ⟨hbW5, hB5, 0, Nat.zero_le _, rfl, hp5'⟩
  case round =>
    obtain ⟨hb, hBr, i, hi, rfl, hpg⟩ := hrel
    have HPG : Hid (Pg B B (Lh.headL n l.length ++ [10] ++ Lh.rowsB (l.take i)) wr) := hpg
    clear hpg hbW5 hB5 hp5'
    by_cases hil : i < l.length
    · have hii : (i : Int) < (l.length : Int) := by omega
      obtain ⟨b, o, rfl, x0, x1, x2⟩ := HC.out i hil
      have x0' := below_cell hb x0
      have x1' := below_cell hb x1
      have x2' := below_cell hb x2
      obtain ⟨k, s, q, hk, hs, hq, hk64, hqb, hll, hrw⟩ := line_step hil (HGD.out i hil) HI.out
      rw [hk] at x0'
      rw [hs] at x1'
      rw [hq] at x2'
      have HRW : Hid (∀ H : List UInt8, H ++ Lh.rowsB (l.take (i + 1)) = H ++ Lh.rowsB (l.take i) ++ (Lh.joinL 32 [Lh.hexL 16 k, s.data.toList, Lh.decL q] ++ [10])) := hrw
      have HLL : Hid ((Lh.joinL 32 [Lh.hexL 16 k, s.data.toList, Lh.decL q]).length ≤ 92) := hll
      clear x0 x1 x2 hrw hll hq hk hs
      go_wp2_with fail
      have hb0 := (Below.refl wr.heap.size wr).alloc (Nat.le_refl _) (.cells #[.int .u64 (k : Nat), .string s, .int .i64 (q : Nat)] 80)
      have hh0 := heap_newC wr (.cells #[.int .u64 (k : Nat), .string s, .int .i64 (q : Nat)] 80)
      have hfb : B ≠ wr.heap.size := by have := HPG.out.base; omega
      generalize wr.alloc (.cells #[.int .u64 (k : Nat), .string s, .int .i64 (q : Nat)] 80) = wb at *
      have hbb : Below W.heap.size W wb := below_then hb hb0
      have hBb : B ≤ wb.heap.size := Nat.le_trans hBr hb0.size
      have hpb := HPG.out.later hb0
      have HCL : Hid (∀ W' : World, W'.heap[wr.heap.size]? = some (.cells #[.int .u64 (k : Nat), .string s, .int .i64 (q : Nat)] 80) → W'.cell? ⟨wr.heap.size, 0, none⟩ = some (.int .u64 (k : Nat)) ∧ W'.cell? ⟨wr.heap.size, 1, none⟩ = some (.string s) ∧ W'.cell? ⟨wr.heap.size, 2, none⟩ = some (.int .i64 (q : Nat))) := fun W' h => ⟨by rw [Lib.cell_of_heap h]; rfl, by rw [Lib.cell_of_heap h]; rfl, by rw [Lib.cell_of_heap h]; rfl⟩
      have HKC : Hid (∀ W' : World, Below wb.heap.size wb W' → W'.cell? ⟨wr.heap.size, 0, none⟩ = some (.int .u64 (k : Nat)) ∧ W'.cell? ⟨wr.heap.size, 1, none⟩ = some (.string s) ∧ W'.cell? ⟨wr.heap.size, 2, none⟩ = some (.int .i64 (q : Nat))) := fun W' h => HCL.out W' ((h.block _ (block_lt hh0)).trans hh0)
      have HXW : Hid (∀ W' : World, Below wb.heap.size wb W' → Calls Tryz.prog 210 #[.int .u64 (k : Nat), .int .i64 16] W' fun e w' => e = .returned (.string (Lh.bt (Lh.hexL 16 k))) ∧ Below wb.heap.size wb w') := fun W' h => (hexT_any k 16 (by decide) (by decide) (by omega) W' (HE.out.later (below_then hbb h))).mono fun _ _ ⟨q1, q2⟩ => ⟨q1, below_then h q2⟩
      have HDW : Hid (∀ W' : World, Below wb.heap.size wb W' → Calls Tryz.prog 87 #[.int .i64 (q : Nat)] W' fun e w' => e = .returned (.string (Lh.bt (Lh.decL q))) ∧ Below wb.heap.size wb w') := fun W' h => (itoa_any q (by omega) W' (HE.out.later (below_then hbb h))).mono fun _ _ ⟨q1, q2⟩ => ⟨q1, below_then h q2⟩
      have HLN : Hid (∀ W' : World, Below wb.heap.size wb W' → Calls Tryz.prog 209 #[.pointer (some ⟨B, 0, none⟩), .slice (some ⟨W'.heap.size, 0, none⟩) 3 3] (W'.alloc (.cells #[.string (Lh.bt (Lh.hexL 16 k)), .string s, .string (Lh.bt (Lh.decL q))] 9)) fun e w' => e = .returned (.tuple #[]) ∧ Pg B B (Lh.headL n l.length ++ [10] ++ Lh.rowsB (l.take (i + 1))) w' ∧ Below W.heap.size W w' ∧ B ≤ w'.heap.size ∧ (w'.cell? ⟨wr.heap.size, 0, none⟩ = some (.int .u64 (k : Nat)) ∧ w'.cell? ⟨wr.heap.size, 1, none⟩ = some (.string s) ∧ w'.cell? ⟨wr.heap.size, 2, none⟩ = some (.int .i64 (q : Nat)))) := fun W' h =>
        (line3_any B B _ (Lh.hexL 16 k) s.data.toList (Lh.decL q) W' (hpb.later h) (Nat.le_trans hBb h.size) (by have := HLEN.out i; omega) (by have := HLL.out; omega)).mono fun _ w' ⟨q1, q2, q3, q4⟩ => ⟨q1, by rw [HRW.out]; exact q2, (below_then hbb h).trans (q3.mono hWB), Nat.le_trans (Nat.le_trans hBb h.size) q3.size, HCL.out w' (q4 _ _ ((h.block _ (block_lt hh0)).trans hh0) (fun e => hfb (Option.some.inj e).symm) (fun c fz e => by cases e))⟩
      clear hpb hh0 hb0 hbb hBb HPG x0' x1' x2'
      go_region_held3 (fun w' => w'.cell? ⟨wr.heap.size, 0, none⟩ = some (.int .u64 (k : Nat)) ∧ w'.cell? ⟨wr.heap.size, 1, none⟩ = some (.string s) ∧ w'.cell? ⟨wr.heap.size, 2, none⟩ = some (.int .i64 (q : Nat)))
        (first | assumption | exact HKC.out _ (by assumption) | exact HKC.out _ (Below.refl _ _) | exact HKC.out _ (below_drewN (Below.refl _ _) 1) | exact HKC.out _ (Below.alloc (by assumption) (Below.size (by assumption)) _))
        (first
          | (go_at_call 210; refine (HXW.out _ (by first | assumption | exact Below.refl _ _ | exact below_drewN (Below.refl _ _) 1)).mono ?_; rintro e w7 ⟨rfl, hb7⟩)
          | (go_at_call 87; refine (HDW.out _ (by first | assumption | exact Below.refl _ _ | exact below_drewN (Below.refl _ _) 1)).mono ?_; rintro e w8 ⟨rfl, hb8⟩)
          | (go_at_call 209; refine (HLN.out _ (by assumption)).mono ?_; rintro e w9 ⟨rfl, hp9, hb9, hB9, hS9⟩))
      all_goals
        go_wp2
        exact ⟨⟨hb9, hB9, i + 1, by omega, by go_num, hp9⟩, by simp [intOf]; omega⟩
    · have hii : decide ((i : Int) < (l.length : Int)) = false := by simp; omega
      have hie : l.take i = l := List.take_of_length_le (by omega)
      have hpg : Pg B B (Lh.bodyL n l) wr := by
        have := HPG.out
        rw [hie] at this
        rw [Lh.body_rows]
        exact this
      have hbl : (Lh.bodyL n l).length ≤ 19000 := by
        have := HLEN.out i
        rw [hie] at this
        rw [Lh.body_rows]
        exact this
      have hne : Lh.bodyL n l ≠ [] := by
        rw [Lh.body_rows]
        simp
      have HTX : Hid (Lh.textL n l = Lh.bodyL n l ++ (Lh.joinL 32 [Lh.sumW, Lh.hexL 8 (Lh.crcL (Lh.bodyL n l))] ++ [10])) := by
        have e1 : Lh.textL n l = Lh.bodyL n l ++ (Lh.joinL 32 [Lh.sumW, Lh.hexL 8 (Lh.crcL (Lh.bodyL n l))] ++ [10]) := by
          rw [← List.append_assoc]
          rfl
        exact e1
      have hjl : (Lh.joinL 32 [Lh.sumW, Lh.hexL 8 (Lh.crcL (Lh.bodyL n l))]).length ≤ 100 := by
        have := Lh.hexL_len 8 (Lh.crcL (Lh.bodyL n l))
        simp [Lh.joinL, Lh.sumW, this]
      have hcr := Lh.crcL_lt (Lh.bodyL n l)
      clear HPG hie
      generalize Lh.bodyL n l = T at *
      generalize hcv : Lh.crcL T = cv at *
      have hst := pgString B B T wr hpg hne
      go_wp2_with fail
      refine hst.mono ?_
      rintro r w6 ⟨rfl, hp6, hb6⟩
      have hbW6 : Below W.heap.size W w6 := hb.trans (hb6.mono hWB)
      have hB6 : B ≤ w6.heap.size := Nat.le_trans hBr hb6.size
      clear hst hpg hb6
      dsimp only
      have hsm := sumOf_any T (by omega) w6
      rw [hcv] at hsm
      go_wp2_with fail
      refine hsm.mono ?_
      rintro r w7 ⟨rfl, rfl⟩
      clear hsm
      dsimp only
      have hcw : IntKind.u64.wrap (cv : Int) = (cv : Int) := by rw [IntKind.wrap_u64]; omega
      have hht := hexT_any cv 8 (by decide) (by decide) (by omega) w7 (HE.out.later hbW6)
      go_wp2_with fail
      refine hht.mono ?_
      rintro r w8 ⟨rfl, hb8⟩
      have hp8 := hp6.later hb8
      have hbW8 := below_then hbW6 hb8
      have hB8 : B ≤ w8.heap.size := Nat.le_trans hB6 hb8.size
      clear hht hp6 hbW6 hb8 hB6
      dsimp only
      have hln := line2_any B B T Lh.sumW (Lh.hexL 8 cv) w8 hp8 hB8 (by omega) (by omega)
      go_wp2_with fail
      refine hln.mono ?_
      rintro r w9 ⟨rfl, hp9, hb9, _⟩
      have hbW9 : Below W.heap.size W w9 := hbW8.trans (hb9.mono hWB)
      rw [← HTX.out] at hp9
      have hst2 := pgString B B (Lh.textL n l) w9 hp9 (by rw [HTX.out]; simp)
      clear hln hp8 hbW8 hb9 hB8 hp9
      dsimp only
      go_wp2_with fail
      refine hst2.mono ?_
      rintro r w10 ⟨rfl, hp10, hb10⟩
      have hbW10 : Below W.heap.size W w10 := hbW9.trans (hb10.mono hWB)
      clear hst2 hp10 hb10 hbW9
      dsimp only
      go_wp2
      go_ret2
      exact ⟨0, -1, HF.out, hbW10, Or.inl ⟨rfl, rfl⟩⟩
end Go.Proofs.YtfhmfjcpggddkaaGreatDoor
