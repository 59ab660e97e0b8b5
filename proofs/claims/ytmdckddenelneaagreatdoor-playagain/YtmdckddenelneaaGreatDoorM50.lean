/- The closed fact: a play of three numbers. -/
import Derived.Test.YtmdckddenelneaaGreatDoorM42
import Derived.Deep.RegionHeld3
import Derived.Test.YtmdckddenelneaaGreatDoorM15
import Derived.Test.YtmdckddenelneaaGreatDoorM26
namespace Go.Proofs.YtmdckddenelneaaGreatDoor
open Go.RowKit

theorem pick_first {nw : List ByteArray → Nat → Nat → ByteArray} {k : Nat} {S' : Lh.Bl} {s : ByteArray} {kept : Bool} {c : Nat} (h : PickR nw duoB k 0 S' s kept c) : c = 0 := by
  have hno : ∀ z, ¬ Lh.BKeeps duoB k 0 z := fun z ⟨h, _⟩ => absurd h (by simp [duoB])
  have ho : Lh.bopen duoB ≠ [] := open_some (s := nA) (Lh.bopen_mem.2 ⟨hup_new.2 (by simp [four]), by simp [duoB]⟩)
  obtain ⟨_, _, h, _⟩ := h.new ⟨by decide, by decide, by decide⟩ hno ho
  exact h
/-- numbers 0, -1, 40 -/
theorem run_first {nw : List ByteArray → Nat → Nat → ByteArray} {es : List Int} {D : Lh.Duo} (h : RunR nw ⟨duoB, duoB, 0⟩ [0, -1, 40] es D) : es = [0, -1, 0] := by
  obtain ⟨e1, D1, es1, h1, rfl, e2, D2, es2, h2, rfl, e3, D3, es3, h3, rfl, rfl, _⟩ := h
  rcases h1 with ⟨h1, _⟩ | ⟨n1, c1, hn1, rfl, h1⟩
  · omega
  obtain rfl : n1 = 0 := by omega
  obtain ⟨q, b, host, is, rfl, rfl, rfl, rfl, h1⟩ := h1
  rcases h1 with ⟨_, S1, s1, k1, hp1, rfl⟩ | ⟨m, _⟩ | ⟨m, _⟩ | ⟨m, _⟩ | ⟨m, _⟩ | ⟨m, _⟩
  rotate_left
  iterate 5 omega
  obtain rfl := pick_first hp1
  rcases h2 with ⟨_, rfl, rfl⟩ | ⟨n2, c2, hn2, _⟩
  rotate_left
  · omega
  rcases h3 with ⟨h3, _⟩ | ⟨n3, c3, hn3, rfl, h3⟩
  · omega
  obtain rfl : n3 = 40 := by omega
  obtain ⟨q, b, host, is, rfl, rfl, rfl, rfl, h3⟩ := h3
  rcases h3 with ⟨_, S3, s3, k3, hp3, rfl⟩ | ⟨m, _⟩ | ⟨m, _⟩ | ⟨m, _⟩ | ⟨m, _⟩ | ⟨m, _⟩
  rotate_left
  iterate 5 omega
  obtain rfl := pick_first hp3
  rfl

set_option maxRecDepth 100000 in
set_option maxHeartbeats 4000000 in
theorem played_any (hC : BalanceC) (hP : PlayC hC) (a : Nat → Addr) (w : World) (he : hP.E a w) :
    Calls Tryz.prog 6 #[] w fun e w' => e = .returned (.bool true) ∧ Below w.heap.size w w' := by
  have HE : Hid (hP.E a w) := he
  have hnew := hP.newD a w he
  clear he
  go_enter Tryz.func6, Tryz.ntmps6
  go_wp2_with fail
  refine hnew.mono ?_
  rintro e w1 ⟨x, rfl, hx, hxA, hxB, hxF, hb1⟩
  obtain ⟨wA, hwA⟩ : ∃ wA, wA = w1.alloc (.cells #[.int .i64 0, .int .i64 (-1), .int .i64 40] 3) := ⟨_, rfl⟩
  have hbA : Below w1.heap.size w1 wA := by rw [hwA]; exact (Below.refl _ _).alloc (Nat.le_refl _) _
  have hbwA : Below w.heap.size w wA := below_then hb1 hbA
  have hsc : Ints wA (.slice (some ⟨w1.heap.size, 0, none⟩) 3 3) [0, -1, 40] := Or.inr ⟨w1.heap.size, 0, 3, rfl, fun k hk => by
    have : k = 0 ∨ k = 1 ∨ k = 2 := by simp at hk; omega
    rw [hwA]
    rcases this with rfl | rfl | rfl <;> simp⟩
  have hrun := hP.run a x _ [0, -1, 40] wA (hP.eLater HE.out hbwA) (hx.later hbA) hsc (fun p n c e => by injection e; omega) (fun b o k c e _ hf => by
    have h1 := hx.lt b hf
    injection e with e _ _
    injection e with e
    injection e with e
    omega) (by decide) (by decide)
  have HF : Hid (∀ b, x.F b → w.heap.size ≤ b) := hxF
  have HXD : Hid (x.A = duoB ∧ x.B = duoB) := ⟨hxA, hxB⟩
  have HBA : Hid (Below w.heap.size w wA) := hbwA
  clear hnew hx hxA hxB hxF hb1 hbA hsc hbwA
  go_wp2_with fail
  rw [← hwA]
  refine hrun.mono ?_
  rintro e w2 ⟨y, es, now, v2, rfl, hR, hy, _, _, _, hyF, hT, hv2⟩
  rw [HXD.out.1, HXD.out.2] at hR
  obtain rfl := run_first hR
  have hbw2 : Below w.heap.size w w2 := hT.below HF.out HBA.out (Nat.le_refl _)
  have HV2 : Hid (Ints w2 v2 [0, -1, 0]) := hv2.ints
  clear hrun hR hy hyF hT hv2 HBA HXD HF hwA
  go_wp2_with fail
  obtain ⟨wB, hwB⟩ : ∃ wB, wB = w2.alloc (.cells #[.int .i64 0, .int .i64 (-1), .int .i64 0] 3) := ⟨_, rfl⟩
  have hbB : Below w2.heap.size w2 wB := by rw [hwB]; exact (Below.refl _ _).alloc (Nat.le_refl _) _
  have hsc : Ints wB (.slice (some ⟨w2.heap.size, 0, none⟩) 3 3) [0, -1, 0] := Or.inr ⟨w2.heap.size, 0, 3, rfl, fun k hk => by
    have : k = 0 ∨ k = 1 ∨ k = 2 := by simp at hk; omega
    rw [hwB]
    rcases this with rfl | rfl | rfl <;> simp⟩
  rw [← hwB]
  refine (sameInts_any v2 _ _ _ wB (HV2.out.later hbB) hsc (by decide) (by decide)).mono ?_
  rintro e w3 ⟨rfl, hb3⟩
  have hbw3 : Below w.heap.size w w3 := below_then (below_then hbw2 hbB) hb3
  have hk3 := hP.keys 3 w3
  clear hsc hbB hwB HV2 hbw2 hb3
  go_wp2_with fail
  refine hk3.mono ?_
  rintro e w4 ⟨v4, rfl, ⟨p4, c4, rfl, _⟩, hb4⟩
  have hbw4 := below_then hbw3 hb4
  have e3 : ((List.range (min (3 : Int).toNat 500)).map Lh.turn).length = 3 := by simp
  rw [e3]
  clear hk3 hb4 hbw3 e3
  go_wp2
  go_ret
  exact ⟨rfl, hbw4⟩
end Go.Proofs.YtmdckddenelneaaGreatDoor

/- The law PlayAgain, over the landed package's contracts. -/
namespace Go.Proofs.YtmdckddenelneaaGreatDoor
open Go.RowKit

/-- A list of numbers, as a caller hands it over. -/
def IntsP (w : World) (v : Value) (xs : List Int) : Prop :=
  (xs = [] ∧ v = .slice none 0 0) ∨ ∃ ad c, v = .slice (some ad) xs.length c ∧ xs.length ≤ c ∧ (∀ j u, (xs.map (Value.int .i64))[j]? = some u → w.cell? (ad.add j) = some u) ∧ (0 < xs.length → ad.spot = none)
theorem IntsP.later {w w' : World} {v : Value} {xs : List Int} (h : IntsP w v xs) (hb : Below w.heap.size w w') : IntsP w' v xs := by
  rcases h with h | ⟨ad, c, rfl, hcp, hc, hs⟩
  · exact Or.inl h
  · exact Or.inr ⟨ad, c, rfl, hcp, fun j u hu => below_cell hb (hc j u hu), hs⟩
theorem IntsP.room {w : World} {v : Value} {xs : List Int} (h : IntsP w v xs) : Room v := by
  rcases h with ⟨rfl, rfl⟩ | ⟨ad, c, rfl, hcp, _⟩
  · intro p n c e
    injection e
    omega
  · intro p n c e
    injection e
    omega
/-- where it lies -/
theorem IntsP.ints {w : World} {v : Value} {xs : List Int} (h : IntsP w v xs) : Ints w v xs ∧ IntsOff (fun b => w.heap.size ≤ b) v xs.length := by
  rcases h with ⟨rfl, rfl⟩ | ⟨⟨b, o, sp⟩, c, rfl, _, hc, hs⟩
  · exact ⟨Or.inl ⟨rfl, _, _, rfl⟩, fun b o k c h => by cases h⟩
  · by_cases h0 : 0 < xs.length
    · obtain rfl : sp = none := hs h0
      have hcell : ∀ k (h : k < xs.length), w.cell? ⟨b, o + k, none⟩ = some (.int .i64 xs[k]) := fun k hk => by
        have := hc k (.int .i64 xs[k]) (by simp [hk])
        rwa [Addr.add_lit] at this
      refine ⟨Or.inr ⟨b, o, c, rfl, hcell⟩, fun b' o' k' c' e _ hb => ?_⟩
      have e' : b = b' := by injection e with e _ _; injection e with e; injection e
      subst e'
      have := World.block_lt_of_cell? _ _ (hcell 0 h0)
      exact absurd hb (Nat.not_le.2 this)
    · have hx : xs = [] := List.length_eq_zero_iff.1 (by omega)
      subst hx
      exact ⟨Or.inl ⟨rfl, _, _, rfl⟩, fun _ _ _ _ _ h => absurd h (by simp)⟩
theorem ints_oneCellP (xs : List Int) : ∀ u ∈ xs.map (Value.int .i64), u.oneCell' = true := by
  intro u hu
  obtain ⟨_, _, rfl⟩ := List.mem_map.1 hu
  rfl
/-- 'append(own, l...)' where own is nil, at the operation. -/
theorem wpList_append_intsP (w : World) {ops : Array Oper} {rest : List Oper} {o : Oper} {a : Act} {Q : Exit → Act → World → Prop} (hgd : o.guard = none) (s x : Operand)
    (ho : o.op = .call { callee := .builtin .append, args := #[s, x], argTypes := #[29, 29] }) (hs : a.eval s = .slice none 0 0) (v : Value) (xs : List Int) (hx : a.eval x = v) (hv : IntsP w v xs) (hm : xs.length ≤ 1000000)
    (h : ∀ v' w', w'.ownsRow w.heap.size 3 1 v' xs.length (xs.map (Value.int .i64)) → w.grownBy w' none → wpList Tryz.prog ops Q rest (a.put o.dst v') w') : wpList Tryz.prog ops Q (o :: rest) a w := by
  obtain ⟨i, hi, hz0, hz1, hz2⟩ := info_parts infoI
  rcases hv with ⟨rfl, rfl⟩ | ⟨ad, c, rfl, _, hc, _⟩
  · exact wpList_append_own_none hgd s x 29 ho w.heap.size 3 i 1 Tryz.underlying29 hi (.slice none 0 0) 0 [] hs (World.ownsRow_nil _ _ _ _) hx (h _ _ (World.ownsRow_nil _ _ _ _) ⟨rfl, rfl, rfl, Nat.le_refl _, fun _ _ _ => rfl⟩)
  · refine wpList_append_own w hgd s x 29 ho w.heap.size 3 i _ 1 8 Tryz.underlying29 hi hz0 hz1 hz2 rfl (by decide) (.slice none 0 0) 0 [] hs (World.ownsRow_nil _ _ _ _) ad xs.length c (xs.map (Value.int .i64)) hx (by simp) hc (ints_oneCellP xs) (by unfold maxLen; omega) (by omega) (Nat.le_refl _) ?_
    intro v' w' h1 h2 _
    refine h v' w' ?_ h2
    simpa using h1

theorem ints_ownP {w : World} {base : Nat} {v : Value} {xs : List Int} (h : w.ownsRow base 3 1 v xs.length (xs.map (Value.int .i64))) : Ints w v xs ∧ IntsOff (fun b => b < base) v xs.length := by
  obtain ⟨hl, ⟨rfl, h0⟩ | ⟨g, cap, cur, rfl, hbase, hb, hn, hm, hsz, ht⟩⟩ := h
  · have hx : xs = [] := by
      have : xs.length = 0 := by simpa using h0
      exact List.length_eq_zero_iff.1 this
    subst hx
    exact ⟨Or.inl ⟨rfl, _, _, rfl⟩, fun b o k c e => by cases e⟩
  · refine ⟨Or.inr ⟨g, 0, cap, rfl, fun k hk => ?_⟩, fun b o k c e _ hlt => ?_⟩
    · have hk' : (cur.toList.take (xs.length * 1))[k]? = some (.int .i64 xs[k]) := by rw [ht]; simp [hk]
      rw [List.getElem?_take_of_lt (by omega)] at hk'
      simp only [World.cell?, hb]
      simpa using hk'
    · injection e with e _ _
      injection e with e
      injection e with e
      omega
theorem owns_room {w : World} {base m : Nat} {v : Value} {xs : List Int} (h : w.ownsRow base 3 1 v m (xs.map (Value.int .i64))) : Room v := by
  rcases h.2 with ⟨rfl, hn⟩ | ⟨g, cap, cur, rfl, _, _, hmc, _⟩
  · intro p n c e
    injection e
    omega
  · intro p n c e
    injection e
    omega
theorem IntsOff.mono {F G : Nat → Prop} {v : Value} {n : Nat} (h : IntsOff F v n) (hG : ∀ b, G b → F b) : IntsOff G v n := fun b o k c e h0 hg => h b o k c e h0 (hG b hg)
theorem IntsNew.turned {B : Nat} {F : Nat → Prop} {W W' : World} {v : Value} {xs : List Int} (h : IntsNew B W v xs) (hT : Tur F W W') (hF : ∀ b, F b → b < B) : IntsNew B W' v xs := by
  rcases h with h | ⟨b, o, c, h1, h2, h3⟩
  · exact Or.inl h
  · refine Or.inr ⟨b, o, c, h1, h2, fun k hk => cell_same (hT.block b (World.block_lt_of_cell? _ _ (h3 k hk)) fun hf => ?_) (h3 k hk)⟩
    have := hF b hf
    omega
theorem IntsNew.later {B : Nat} {W W' : World} {v : Value} {xs : List Int} (h : IntsNew B W v xs) (hb : Below W.heap.size W W') : IntsNew B W' v xs := by
  rcases h with h | ⟨b, o, c, h1, h2, h3⟩
  · exact Or.inl h
  · exact Or.inr ⟨b, o, c, h1, h2, fun k hk => below_cell hb (h3 k hk)⟩
theorem grown_below {W W' : World} (h : W.grownBy W' none) : Below W.heap.size W W' := (Below.refl _ _).grown h (Nat.le_refl _) (fun _ h => by cases h)
theorem FlowsNew.flowsP {B : Nat} {W : World} {v : Value} {L : List Lh.Fl} (h : FlowsNew B W v L) : Flows1 W v L := by
  rcases h with h | ⟨g, c, h1, h2, _, h3, _⟩
  · exact Or.inl h
  · exact Or.inr ⟨g, 0, c, h1, h2, by simpa only [Nat.zero_add] using h3⟩

set_option maxRecDepth 100000 in
set_option maxHeartbeats 8000000 in
theorem again_core (hC : BalanceC) (hP : PlayC hC) (a : Nat → Addr) (lp op : Option Addr) (lc oc : Nat) (l o : List Int) (w : World) (he : hP.E a w) (hl : l.length ≤ 200) (hol : o.length ≤ 200) (hla : IntsP w (.slice lp l.length lc) l) (hoa : IntsP w (.slice op o.length oc) o) (hlz : ∀ z ∈ l, z < 9223372036854775808) (hoz : ∀ z ∈ o, z < 9223372036854775808) :
    Calls Tryz.prog 4 #[.slice lp l.length lc, .slice op o.length oc] w fun e w' => e = .returned (.bool true) ∧ Below w.heap.size w w' := by
  have HE : Hid (hP.E a w) := he
  have HL : Hid (IntsP w (.slice lp l.length lc) l) := hla
  have HO : Hid (IntsP w (.slice op o.length oc) o) := hoa
  have HLZ : Hid (∀ z ∈ l, z < 9223372036854775808) := hlz
  have HOZ : Hid (∀ z ∈ o, z < 9223372036854775808) := hoz
  have hpl := played_any hC hP a w he
  have d1 : decide (200 < (l.length : Int)) = false := by simp; omega
  have d2 : decide (200 < (o.length : Int)) = false := by simp; omega
  clear he hla hoa hlz hoz
  go_enter Tryz.func4, Tryz.ntmps4
  go_wp2_with fail
  refine hpl.mono ?_
  rintro e w1 ⟨rfl, hb1⟩
  have hn1 := hP.newD a w1 (hP.eLater HE.out hb1)
  have HB1 : Hid (Below w.heap.size w w1) := hb1
  clear hpl hb1
  go_wp2_with fail
  refine hn1.mono ?_
  rintro e w2 ⟨x, rfl, hx, hxA, hxB, hxF, hb2⟩
  have hbw2 := below_then HB1.out hb2
  have hn2 := hP.newD a w2 (hP.eLater HE.out hbw2)
  have HX : Hid (x.At hC w2 ∧ x.A = duoB ∧ x.B = duoB ∧ ∀ b, x.F b → w1.heap.size ≤ b) := ⟨hx, hxA, hxB, hxF⟩
  have HB2 : Hid (Below w1.heap.size w1 w2) := hb2
  clear hn1 hx hxA hxB hxF hb2 hbw2
  go_wp2_with fail
  refine hn2.mono ?_
  rintro e w3 ⟨y, rfl, hy, hyA, hyB, hyF, hb3⟩
  have hbw3 := below_then (below_then HB1.out HB2.out) hb3
  have hn3 := hP.newD a w3 (hP.eLater HE.out hbw3)
  have hpair : Pair hC w1.heap.size w1 w3 x y := ⟨Nat.le_refl _, below_then HB2.out hb3, HX.out.1.later hb3, hy, HX.out.2.2.2, fun b hb => Nat.le_trans HB2.out.size (hyF b hb), fun b hb hg => by
    have h1 := HX.out.1.lt b hb
    have h2 := hyF b hg
    omega⟩
  have HP3 : Hid (Pair hC w1.heap.size w1 w3 x y) := hpair
  have HXD : Hid (x.A = duoB ∧ x.B = duoB) := ⟨HX.out.2.1, HX.out.2.2.1⟩
  have HYD : Hid (y.A = duoB ∧ y.B = duoB) := ⟨hyA, hyB⟩
  clear hn2 hy hyA hyB hyF hb3 hbw3 hpair HX HB2
  go_wp2_with fail
  refine hn3.mono ?_
  rintro e w4 ⟨z, rfl, hz, _, _, hzF, hb4⟩
  have HP4 : Hid (Pair hC w1.heap.size w1 w4 x y) := HP3.out.later hb4
  have HZ4 : Hid (z.At hC w4) := hz
  have HZO : Hid (∀ b, z.F b → w1.heap.size ≤ b ∧ ¬ x.F b ∧ ¬ y.F b) := fun b hb => by
    have h1 := hzF b hb
    refine ⟨Nat.le_trans HP3.out.size h1, fun h => ?_, fun h => ?_⟩
    · have := HP3.out.ax.lt b h
      omega
    · have := HP3.out.ay.lt b h
      omega
  clear hn3 hz hzF hb4 HP3
  have hla4 := (HL.out.later HB1.out).later HP4.out.below
  go_wp2_with (at_builtin; refine wpList_append_intsP _ rfl _ _ rfl rfl _ l rfl hla4 (by omega) ?_; intro v5 w5 hown5 hgr5)
  have hb5 := grown_below hgr5
  obtain ⟨hi5, ho5⟩ := ints_ownP hown5
  have HRM5 : Hid (Room v5) := owns_room hown5
  have hP5 := HP4.out.later hb5
  have hZ5 := HZ4.out.later hb5
  have hrun := hP.run a x v5 l w5 (hP.eLater HE.out (below_then HB1.out hP5.below)) hP5.ax hi5 HRM5.out (ho5.mono fun b hb => HP4.out.ax.lt b hb) (by omega) HLZ.out
  have HZ5 : Hid (z.At hC w5) := hZ5
  have HP5 : Hid (Pair hC w1.heap.size w1 w5 x y) := hP5
  clear hla4 hown5 hgr5 hb5 hi5 ho5 hP5 hZ5 HZ4 HP4
  refine hrun.mono ?_
  rintro e w6 ⟨x6, es6, now6, v6, rfl, hR6, hx6, hd6, hp6, hq6, hF6, hT6, hv6⟩
  have hP6 := HP5.out.turned hx6 hF6 hT6
  have hZ6 : z.At hC w6 := HZ5.out.stay hT6.size fun b hb => hT6.block b (HZ5.out.lt b hb) fun hf => (HZO.out b hb).2.1 hf
  have HZX : Hid (∀ b, z.F b → ¬ x6.F b) := fun b hb hf => by
    rcases hF6 b hf with h | h
    · exact (HZO.out b hb).2.1 h
    · have := HZ5.out.lt b hb
      omega
  obtain ⟨hio, hoo⟩ := HO.out.ints
  have hbw6 := below_then HB1.out hP6.below
  have hrun7 := hP.run a z (.slice op o.length oc) o w6 (hP.eLater HE.out hbw6) hZ6 (hio.later hbw6) HO.out.room (hoo.mono fun b hb => Nat.le_trans HB1.out.size (HZO.out b hb).1) (by omega) HOZ.out
  have HP6 : Hid (Pair hC w1.heap.size w1 w6 x6 y) := hP6
  have HD6 : Hid (x6.d = x.d) := hd6
  have HR6 : Hid (RunR hC.nw ⟨x.A, x.B, 0⟩ l es6 ⟨x6.A, x6.B, now6⟩) := hR6
  have HV6 : Hid (IntsNew w5.heap.size w6 v6 es6) := hv6
  clear hrun hR6 hx6 hd6 hp6 hq6 hF6 hT6 hv6 hP6 hZ6 hio hoo hbw6
  go_wp2_with fail
  refine hrun7.mono ?_
  rintro e w7 ⟨z7, es7, now7, v7, rfl, _, _, _, _, _, _, hT7, _⟩
  have hP7 := HP6.out.other hT7 (fun b hb => (HZO.out b hb).1) HZX.out (fun b hb => (HZO.out b hb).2.2)
  have HP7 : Hid (Pair hC w1.heap.size w1 w7 x6 y) := hP7
  have HV7 : Hid (IntsNew w5.heap.size w7 v6 es6) := HV6.out.turned hT7 fun b hb => HZ5.out.lt b hb
  have hla7 := (HL.out.later HB1.out).later hP7.below
  clear hrun7 hT7 hP7 HV6 HP6
  go_wp2_with (at_builtin; refine wpList_append_intsP _ rfl _ _ rfl rfl _ l rfl hla7 (by omega) ?_; intro v8 w8 hown8 hgr8)
  have hb8 := grown_below hgr8
  obtain ⟨hi8, ho8⟩ := ints_ownP hown8
  have HRM8 : Hid (Room v8) := owns_room hown8
  have hP8 := HP7.out.later hb8
  have hrun9 := hP.run a y v8 l w8 (hP.eLater HE.out (below_then HB1.out hP8.below)) hP8.ay hi8 HRM8.out (ho8.mono fun b hb => HP7.out.ay.lt b hb) (by omega) HLZ.out
  have HP8 : Hid (Pair hC w1.heap.size w1 w8 x6 y) := hP8
  have HV8 : Hid (IntsNew w5.heap.size w8 v6 es6) := HV7.out.later hb8
  clear hla7 hown8 hgr8 hb8 hi8 ho8 hP8 HP7 HV7
  refine hrun9.mono ?_
  rintro e w9 ⟨y9, es9, now9, v9, rfl, hR9, hy9, hd9, hp9, hq9, hF9, hT9, hv9⟩
  have hP9 := (HP8.out.swap.turned hy9 hF9 hT9).swap
  have hV9 : Ints w9 v6 es6 := (HV8.out.turned hT9 fun b hb => HP5.out.ay.lt b hb).ints
  have h6 := HR6.out
  rw [HXD.out.1, HXD.out.2] at h6
  rw [HYD.out.1, HYD.out.2] at hR9
  obtain ⟨hDD, rfl⟩ := runR_one h6 hR9
  injection hDD with hAA hBB _
  have hlen : es6.length = l.length := runR_len h6
  have hd6 := HD6.out
  have k0 := hP9.ax.c0
  have k1 := hP9.ax.c1
  have k2 := hP9.ay.c0
  have k3 := hP9.ay.c1
  rw [hd6] at k0 k1
  rw [hd9] at k2 k3
  have HP9 : Hid (Pair hC w1.heap.size w1 w9 x6 y9) := hP9
  have HAA : Hid (x6.A = y9.A ∧ x6.B = y9.B) := ⟨hAA, hBB⟩
  have HSI : Hid (∀ W, Below w9.heap.size w9 W → Calls Tryz.prog 17 #[v6, v9] W fun e w' => e = .returned (.bool true) ∧ Below w9.heap.size w9 w') := fun W hW => (sameInts_any v6 v9 es6 es6 W (hV9.later hW) (hv9.ints.later hW) (by omega) (by omega)).mono fun _ _ ⟨q1, q2⟩ => ⟨by rw [q1]; simp, below_then hW q2⟩
  have HFX : Hid (∀ W, Below w9.heap.size w9 W → Calls Tryz.prog 21 #[.pointer (some ⟨x6.p, 0, none⟩)] W fun e w' => ∃ v, e = .returned v ∧ Flows1 w' v x6.A.L ∧ Below w9.heap.size w9 w') := fun W hW => (hC.flows _ x6.FA x6.p W (hC.later HP9.out.ax.ra hW) HP9.out.ax.oka).mono fun _ _ ⟨v, q1, q2, q3⟩ => ⟨v, q1, q2.flowsP, below_then hW q3⟩
  have HFY : Hid (∀ W u, Below w9.heap.size w9 W → Flows1 W u x6.A.L → Calls Tryz.prog 21 #[.pointer (some ⟨y9.p, 0, none⟩)] W fun e w' => ∃ v, e = .returned v ∧ (Flows1 w' u x6.A.L ∧ Flows1 w' v x6.A.L ∧ x6.A.L.length ≤ 1000) ∧ Below w9.heap.size w9 w') := fun W u hW hu => (hC.flows _ y9.FA y9.p W (hC.later HP9.out.ay.ra hW) HP9.out.ay.oka).mono fun _ _ ⟨v, q1, q2, q3⟩ => ⟨v, q1, ⟨hu.later q3, by rw [HAA.out.1]; exact q2.flowsP, by have := HP9.out.ax.oka.ok.len; omega⟩, below_then hW q3⟩
  have HGX : Hid (∀ W, Below w9.heap.size w9 W → Calls Tryz.prog 21 #[.pointer (some ⟨x6.q, 0, none⟩)] W fun e w' => ∃ v, e = .returned v ∧ Flows1 w' v x6.B.L ∧ Below w9.heap.size w9 w') := fun W hW => (hC.flows _ x6.FB x6.q W (hC.later HP9.out.ax.rb hW) HP9.out.ax.okb).mono fun _ _ ⟨v, q1, q2, q3⟩ => ⟨v, q1, q2.flowsP, below_then hW q3⟩
  have HGY : Hid (∀ W u, Below w9.heap.size w9 W → Flows1 W u x6.B.L → Calls Tryz.prog 21 #[.pointer (some ⟨y9.q, 0, none⟩)] W fun e w' => ∃ v, e = .returned v ∧ (Flows1 w' u x6.B.L ∧ Flows1 w' v x6.B.L ∧ x6.B.L.length ≤ 1000) ∧ Below w9.heap.size w9 w') := fun W u hW hu => (hC.flows _ y9.FB y9.q W (hC.later HP9.out.ay.rb hW) HP9.out.ay.okb).mono fun _ _ ⟨v, q1, q2, q3⟩ => ⟨v, q1, ⟨hu.later q3, by rw [HAA.out.2]; exact q2.flowsP, by have := HP9.out.ax.okb.ok.len; omega⟩, below_then hW q3⟩
  have HSA : Hid (∀ W u v L, Below w9.heap.size w9 W → (Flows1 W u L ∧ Flows1 W v L ∧ L.length ≤ 1000) → Calls Tryz.prog 20 #[u, v] W fun e w' => e = .returned (.bool true) ∧ Below w9.heap.size w9 w') := fun W u v L hW hh => (sameFlows_same u v L W hh.1 hh.2.1 hh.2.2).mono fun _ _ ⟨q1, q2⟩ => ⟨q1, below_then hW q2⟩
  have HKC : Hid (∀ W, Below w9.heap.size w9 W → Below w9.heap.size w9 W ∧ W.cell? ⟨x.d, 0, none⟩ = some (.pointer (some ⟨x6.p, 0, none⟩)) ∧ W.cell? ⟨x.d, 1, none⟩ = some (.pointer (some ⟨x6.q, 0, none⟩)) ∧ W.cell? ⟨y.d, 0, none⟩ = some (.pointer (some ⟨y9.p, 0, none⟩)) ∧ W.cell? ⟨y.d, 1, none⟩ = some (.pointer (some ⟨y9.q, 0, none⟩))) := fun W hW => ⟨hW, below_cell hW k0, below_cell hW k1, below_cell hW k2, below_cell hW k3⟩
  clear hrun9 h6 hR9 hy9 hd9 hp9 hq9 hF9 hT9 hv9 hP9 hV9 hAA hBB hlen hd6 HR6 HP8 HV8 HP5 HZ5 HZO HZX HXD HYD HD6 HAA
  go_wp2_with fail
  go_region_held3 (fun w' => Below w9.heap.size w9 w' ∧ w'.cell? ⟨x.d, 0, none⟩ = some (.pointer (some ⟨x6.p, 0, none⟩)) ∧ w'.cell? ⟨x.d, 1, none⟩ = some (.pointer (some ⟨x6.q, 0, none⟩)) ∧ w'.cell? ⟨y.d, 0, none⟩ = some (.pointer (some ⟨y9.p, 0, none⟩)) ∧ w'.cell? ⟨y.d, 1, none⟩ = some (.pointer (some ⟨y9.q, 0, none⟩)))
    (first | exact HKC.out _ (by assumption) | exact HKC.out _ (below_drewN (Below.refl _ _) 1) | exact HKC.out _ (Below.refl _ _))
    (first
      | (go_at_call 17; refine (HSI.out _ (by first | assumption | exact Below.refl _ _ | exact below_drewN (Below.refl _ _) 1)).mono ?_; rintro e w10 ⟨rfl, hb10⟩)
      | (go_at_call 21; with_reducible (show Calls _ _ #[.pointer (some ⟨x6.p, 0, none⟩)] _ _); refine (HFX.out _ (by assumption)).mono ?_; rintro e w11 ⟨v11, rfl, hv11, hb11⟩)
      | (go_at_call 21; with_reducible (show Calls _ _ #[.pointer (some ⟨y9.p, 0, none⟩)] _ _); refine (HFY.out _ _ (by assumption) (by assumption)).mono ?_; rintro e w12 ⟨v12, rfl, hv12, hb12⟩)
      | (go_at_call 21; with_reducible (show Calls _ _ #[.pointer (some ⟨x6.q, 0, none⟩)] _ _); refine (HGX.out _ (by assumption)).mono ?_; rintro e w14 ⟨v14, rfl, hv14, hb14⟩)
      | (go_at_call 21; with_reducible (show Calls _ _ #[.pointer (some ⟨y9.q, 0, none⟩)] _ _); refine (HGY.out _ _ (by assumption) (by assumption)).mono ?_; rintro e w15 ⟨v15, rfl, hv15, hb15⟩)
      | (go_at_call 20; refine (HSA.out _ _ _ _ (by assumption) (by assumption)).mono ?_; rintro e w13 ⟨rfl, hb13⟩))
  all_goals
    go_wp2
    go_ret
    exact ⟨rfl, below_then (below_then HB1.out HP9.out.below) (by assumption)⟩
end Go.Proofs.YtmdckddenelneaaGreatDoor

/- The law PlayAgain, over the landed package's contracts: all lists. -/
namespace Go.Proofs.YtmdckddenelneaaGreatDoor
open Go.RowKit

set_option maxHeartbeats 1000000 in
theorem again_e1 (hC : BalanceC) (hP : PlayC hC) (a : Nat → Addr) (lp op : Option Addr) (n lc m oc : Nat) (w : World) (he : hP.E a w) (hl : n ≤ maxLen) (hm : m ≤ maxLen) (c1 : 200 < n) :
    Calls Tryz.prog 4 #[.slice lp n lc, .slice op m oc] w fun e w' => e = .returned (.bool true) ∧ Below w.heap.size w w' := by
  have hpl := played_any hC hP a w he
  have hn2 : n ≤ 9223372036854775807 := by unfold maxLen at hl; omega
  have hm2 : m ≤ 9223372036854775807 := by unfold maxLen at hm; omega
  have d1 : decide (200 < (n : Int)) = true := by simp; omega
  clear he hl hm c1
  go_enter Tryz.func4, Tryz.ntmps4
  go_wp2_with fail
  refine hpl.mono ?_
  rintro e w1 ⟨rfl, hb1⟩
  clear hpl
  go_wp2
  go_ret
  exact ⟨rfl, hb1⟩
set_option maxHeartbeats 1000000 in
theorem again_e2 (hC : BalanceC) (hP : PlayC hC) (a : Nat → Addr) (lp op : Option Addr) (n lc m oc : Nat) (w : World) (he : hP.E a w) (hl : n ≤ maxLen) (hm : m ≤ maxLen) (c1 : ¬ 200 < n) (c2 : 200 < m) :
    Calls Tryz.prog 4 #[.slice lp n lc, .slice op m oc] w fun e w' => e = .returned (.bool true) ∧ Below w.heap.size w w' := by
  have hpl := played_any hC hP a w he
  have hn2 : n ≤ 9223372036854775807 := by unfold maxLen at hl; omega
  have hm2 : m ≤ 9223372036854775807 := by unfold maxLen at hm; omega
  have d1 : decide (200 < (n : Int)) = false := by simp; omega
  have d2 : decide (200 < (m : Int)) = true := by simp; omega
  clear he hl hm c1 c2
  go_enter Tryz.func4, Tryz.ntmps4
  go_wp2_with fail
  refine hpl.mono ?_
  rintro e w1 ⟨rfl, hb1⟩
  clear hpl
  go_wp2
  go_ret
  exact ⟨rfl, hb1⟩
/-- PlayAgain of any two lists. -/
theorem again_any (hC : BalanceC) (hP : PlayC hC) (a : Nat → Addr) (lp op : Option Addr) (lc oc : Nat) (l o : List Int) (w : World) (he : hP.E a w) (hl : l.length ≤ maxLen) (hol : o.length ≤ maxLen) (hla : IntsP w (.slice lp l.length lc) l) (hoa : IntsP w (.slice op o.length oc) o) (hlz : ∀ z ∈ l, z < 9223372036854775808) (hoz : ∀ z ∈ o, z < 9223372036854775808) :
    Calls Tryz.prog 4 #[.slice lp l.length lc, .slice op o.length oc] w fun e w' => e = .returned (.bool true) ∧ Below w.heap.size w w' := by
  by_cases c1 : 200 < l.length
  · exact again_e1 hC hP a lp op l.length lc o.length oc w he hl hol c1
  · by_cases c2 : 200 < o.length
    · exact again_e2 hC hP a lp op l.length lc o.length oc w he hl hol c1 c2
    · exact again_core hC hP a lp op lc oc l o w he (by omega) (by omega) hla hoa hlz hoz
end Go.Proofs.YtmdckddenelneaaGreatDoor
