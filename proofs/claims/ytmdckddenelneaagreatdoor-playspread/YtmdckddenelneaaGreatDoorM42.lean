/- The landed play: a script. -/
import Derived.Test.YtmdckddenelneaaGreatDoorM41
import Derived.Test.YtmdckddenelneaaGreatDoorM14
import Derived.Test.YtmdckddenelneaaGreatDoorM2
import Derived.Test.YtmdckddenelneaaGreatDoorM0
import Derived.Test.YtmdckddenelneaaGreatDoorM39
import Derived.Test.YtmdckddenelneaaGreatDoorM4
namespace Go.Proofs.YtmdckddenelneaaGreatDoor
open Go.RowKit

theorem ints_slice {w : World} {v : Value} {xs : List Int} (h : Ints w v xs) : ∃ p c, v = .slice p xs.length c ∧ ∀ k (h : k < xs.length), ∃ b o, p = some ⟨b, o, none⟩ ∧ w.cell? ⟨b, o + k, none⟩ = some (.int .i64 xs[k]) := by
  rcases h with ⟨rfl, p, c, rfl⟩ | ⟨b, o, c, rfl, hc⟩
  · exact ⟨p, c, rfl, fun k hk => absurd hk (Nat.not_lt_zero k)⟩
  · exact ⟨_, c, rfl, fun k hk => ⟨b, o, rfl, hc k hk⟩⟩
/-- a script under way: j numbers are played -/
structure RI (hC : BalanceC) (hB : BalP hC) (a : Nat → Addr) (W : World) (x : DR) (sc : List Int) (g ab : Nat) (j : Nat) (es : List Int) (y : DR) (now : Int) (Wj : World) : Prop where
  gs : GS hC hB a g y now Wj
  d : y.d = x.d
  p : y.p = x.p
  q : y.q = x.q
  new : ∀ b, y.FA b ∨ y.FB b → x.FA b ∨ x.FB b ∨ W.heap.size ≤ b
  tur : Tur (fun b => x.FA b ∨ x.FB b) W Wj
  row : IntRow Wj ab (es ++ List.replicate (sc.length - j) 0)
  off : ¬ y.F ab
  ne : ab ≠ g
  ga : W.heap.size ≤ g
  aa : W.heap.size ≤ ab
  len : es.length = j
  run : RunR hC.nw ⟨x.A, x.B, 0⟩ (sc.take j) es ⟨y.A, y.B, now⟩
  n0 : 0 ≤ now
  n9 : now ≤ 8 * (j : Int)
  kw : hB.K ≤ W.heap.size
section
variable {hC : BalanceC} {hB : BalP hC} {a : Nat → Addr} {W Wj W' : World} {x y : DR} {sc es : List Int} {g ab j : Nat} {now : Int}
/-- one number more -/
theorem RI.step (h : RI hC hB a W x sc g ab j es y now Wj) (hj : j < sc.length) {r : Int} {D' : Lh.Duo} (hO : OneR hC.nw ⟨y.A, y.B, now⟩ (sc[j]) D' r) (hS : StepTo hC hB a g y Wj D' W') : ∃ z, RI hC hB a W x sc g ab (j + 1) (es ++ [r]) z D'.now (W'.setCell ⟨ab, j, none⟩ (.int .i64 r)) := by
  obtain ⟨z, hG, hTo, hA, hBb⟩ := hS
  have hal := h.row.lt
  have hzab : ¬ z.F ab := fun hf => by
    rcases hf with h1 | h1 | h1
    · rcases hTo.new ab (Or.inl h1) with q | q | q
      · exact h.off (Or.inl q)
      · exact h.off (Or.inr (Or.inl q))
      · omega
    · rcases hTo.new ab (Or.inr h1) with q | q | q
      · exact h.off (Or.inl q)
      · exact h.off (Or.inr (Or.inl q))
      · omega
    · exact h.off (Or.inr (Or.inr (by rw [← hTo.d]; exact h1)))
  have hyab : ¬ (y.FA ab ∨ y.FB ab ∨ ab = g) := fun hf => by
    rcases hf with q | q | q
    · exact h.off (Or.inl q)
    · exact h.off (Or.inr (Or.inl q))
    · exact h.ne q
  have hD : (⟨z.A, z.B, D'.now⟩ : Lh.Duo) = D' := by rw [hA, hBb]
  have hnow := oneR_now hO
  have h0 := h.n0
  have h9 := h.n9
  have hset : (es ++ List.replicate (sc.length - j) 0).set j r = (es ++ [r]) ++ List.replicate (sc.length - (j + 1)) 0 := by
    have hl := h.len
    have e1 : sc.length - j = (sc.length - (j + 1)) + 1 := by omega
    rw [e1, List.replicate_succ, List.set_append, if_neg (by omega), hl, Nat.sub_self]
    simp
  have hrow := (h.row.same (hTo.tur.block ab hal hyab)).set j r
  rw [hset] at hrow
  have hrun := runR_snoc h.run hO
  rw [← List.take_succ_eq_append_getElem hj, ← hD] at hrun
  refine ⟨z, hG.other hzab h.ne (Nat.le_trans h.kw h.aa) j _, hTo.d.trans h.d, hTo.p.trans h.p, hTo.q.trans h.q, fun b hb => ?_, ?_, hrow, hzab, h.ne, h.ga, h.aa, by rw [List.length_append, h.len]; rfl, hrun, by simp only at hnow; omega, by simp only at hnow; push_cast; omega, h.kw⟩
  · rcases hTo.new b hb with q | q | q
    · exact h.new b (Or.inl q)
    · exact h.new b (Or.inr q)
    · exact Or.inr (Or.inr (Nat.le_trans h.tur.size q))
  · refine (h.tur.trans hTo.tur fun b hb => ?_).trans (tur_setP W' ab j _) fun b hb => Or.inr (by subst hb; exact h.aa)
    rcases hb with q | q | q
    · rcases h.new b (Or.inl q) with k | k | k
      · exact Or.inl (Or.inl k)
      · exact Or.inl (Or.inr k)
      · exact Or.inr k
    · rcases h.new b (Or.inr q) with k | k | k
      · exact Or.inl (Or.inl k)
      · exact Or.inl (Or.inr k)
      · exact Or.inr k
    · subst q
      exact Or.inr h.ga
/-- the slot of a number -/
theorem RI.slot (h : RI hC hB a W x sc g ab j es y now Wj) (hj : j < sc.length) {D' : Lh.Duo} (hS : StepTo hC hB a g y Wj D' W') : W'.cell? ⟨ab, j, none⟩ = some (.int .i64 0) ∧ W'.frozen? ⟨ab, j, none⟩ = false := by
  obtain ⟨z, hG, hTo, hA, hBb⟩ := hS
  have hyab : ¬ (y.FA ab ∨ y.FB ab ∨ ab = g) := fun hf => by
    rcases hf with q | q | q
    · exact h.off (Or.inl q)
    · exact h.off (Or.inr (Or.inl q))
    · exact h.ne q
  have hrow := h.row.same (hTo.tur.block ab h.row.lt hyab)
  have hl := h.len
  refine ⟨?_, hrow.frozen j⟩
  rw [hrow.cell (k := j) (by simp; omega)]
  rw [List.getElem_append_right (by omega)]
  simp
/-- as a script begins -/
theorem RI.start (hE : hC.E a W) (hx : x.At hC W) {w1 w2 : World} (hw1 : w1 = W.alloc (.cells #[.pointer (some ⟨x.d, 0, none⟩), .int .i64 0] 80)) (hb : Below w1.heap.size w1 w2) (hrow : IntRow w2 ab (List.replicate sc.length 0)) (hab : w1.heap.size ≤ ab) : RI hC hB a W x sc W.heap.size ab 0 [] x 0 w2 := by
  have hb1 : Below W.heap.size W w1 := by rw [hw1]; exact (Below.refl _ _).alloc (Nat.le_refl _) _
  have hs1 : w1.heap.size = W.heap.size + 1 := by rw [hw1]; simp
  have hbw := below_then hb1 hb
  refine ⟨⟨hC.eLater hE hbw, hx.later hbw, below_cell hb (by rw [hw1]; simp), below_cell hb (by rw [hw1]; simp), fun hf => ?_, hB.low hE, (World.frozen?_of_block (w := w1) (w' := w2) (a := ⟨W.heap.size, 1, none⟩) (hb.block _ (by simp only; omega))).trans (by rw [hw1]; simp)⟩, rfl, rfl, rfl, fun b h => h.elim Or.inl fun h => Or.inr (Or.inl h), Tur.of_below hbw, by simpa using hrow, fun hf => ?_, by omega, Nat.le_refl _, by omega, rfl, ⟨rfl, rfl⟩, Int.le_refl _, by simp, hB.low hE⟩
  · exact absurd (hx.lt _ hf) (by omega)
  · have := hx.lt _ hf
    omega
set_option maxRecDepth 100000 in
set_option maxHeartbeats 4000000 in
theorem run_some (hB : BalP hC) (hE : hC.E a W) (hx : x.At hC W) (p : Option Addr) (c n : Nat) (hn : sc.length = n) (hsc : ∀ k (h : k < sc.length), ∃ b o, p = some ⟨b, o, none⟩ ∧ W.cell? ⟨b, o + k, none⟩ = some (.int .i64 sc[k]) ∧ ¬ x.F b) (hnc : n ≤ c) (hl : n ≤ 3000) (hv : ∀ z ∈ sc, z < 9223372036854775808) :
    Calls Tryz.prog 19 #[.pointer (some ⟨x.d, 0, none⟩), .slice p n c] W fun e W' => ∃ g ab es y now, e = .returned (.slice (some ⟨ab, 0, none⟩) n n) ∧ RI hC hB a W x sc g ab n es y now W' := by
  obtain ⟨i, hi, hz0, hz1, hz2⟩ := info_parts infoI
  have HS : Hid (∀ k (h : k < sc.length), ∃ b o, p = some ⟨b, o, none⟩ ∧ W.cell? ⟨b, o + k, none⟩ = some (.int .i64 sc[k]) ∧ ¬ x.F b) := hsc
  have HV : Hid (∀ z ∈ sc, z < 9223372036854775808) := hv
  have HN : Hid (sc.length = n) := hn
  have HE : Hid (hC.E a W) := hE
  have HX : Hid (x.At hC W) := hx
  have hmin : min (n : Int) 3000 = (n : Int) := by omega
  have hbyt : i.bytes * n ≤ 281474976710656 := by rw [hz2]; omega
  have hmax : n ≤ maxLen := by unfold maxLen; omega
  obtain ⟨w1, hw1⟩ : ∃ w1, w1 = W.alloc (.cells #[.pointer (some ⟨x.d, 0, none⟩), .int .i64 0] 80) := ⟨_, rfl⟩
  have HW1 : Hid (w1 = W.alloc (.cells #[.pointer (some ⟨x.d, 0, none⟩), .int .i64 0] 80)) := hw1
  clear hsc hv hn hE hx
  cases p with
  | none =>
    obtain rfl : n = 0 := by
      rcases Nat.eq_zero_or_pos n with h | h
      · exact h
      · obtain ⟨b, o, hp, _⟩ := HS.out 0 (by rw [HN.out]; exact h)
        exact absurd hp (by simp)
    have hm0 : min (0 : Int) 3000 = 0 := by decide
    go_enter Tryz.func19, Tryz.ntmps19
    go_wp2_with (at_make; refine wpList_make_full _ rfl _ _ 29 rfl (W.alloc (.cells #[.pointer (some ⟨x.d, 0, none⟩), .int .i64 0] 80)).heap.size 3 i _ 1 Tryz.underlying29 hi hz0 hz1 _ _ _ _ 0 rfl rfl rfl rfl hbyt hmax (Nat.le_refl _) ?_)
    intro w2 hown hgrow
    rw [← hw1] at hgrow
    have hb2 : Below w1.heap.size w1 w2 := below_grown hgrow (fun k h => by cases h)
    rw [made_ints2] at hown
    have hrow0 := IntRow.of_owns hown
    have hs1 : w1.heap.size = W.heap.size + 1 := by rw [hw1]; simp
    have HRI : Hid (RI hC hB a W x sc W.heap.size (W.heap.size + 1) 0 [] x 0 w2) := RI.start HE.out HX.out hw1 hb2 (by rw [HN.out]; exact hrow0) (by omega)
    clear hown hgrow hrow0 hb2 hw1 HW1 hs1
    obtain ⟨g, hg⟩ : ∃ g, g = W.heap.size := ⟨_, rfl⟩
    obtain ⟨ab, hab⟩ : ∃ ab, ab = W.heap.size + 1 := ⟨_, rfl⟩
    rw [← hab, ← hg] at HRI
    rw [← hab, ← hg]
    clear hg hab w1
    go_wp2_with fail
    go_loopw [8, 9, 23] (fun _ _ u23 Wj => ∃ (j : Nat) (es : List Int) (y : DR) (now : Int), j ≤ 0 ∧ u23 = .int .i64 (j : Nat) ∧ RI hC hB a W x sc g ab j es y now Wj) (fun _ _ u23 _ => 0 - (intOf u23).toNat)
    case atStart => exact ⟨0, [], x, 0, Nat.zero_le _, rfl, HRI.out⟩
    case round =>
      obtain ⟨j, es, y, now, hjn, rfl, hRI⟩ := hrel
      obtain ⟨wo, hwo⟩ : ∃ wo, wo = wr := ⟨_, rfl⟩
      subst hwo
      clear HRI
      have HR : Hid (RI hC hB a W x sc g ab j es y now wo) := hRI
      obtain rfl : j = 0 := by omega
      clear hRI
      go_wp2
      go_ret
      exact ⟨g, ab, es, y, now, rfl, HR.out⟩
  | some ad =>
  go_enter Tryz.func19, Tryz.ntmps19
  go_wp2_with (at_make; refine wpList_make_full _ rfl _ _ 29 rfl (W.alloc (.cells #[.pointer (some ⟨x.d, 0, none⟩), .int .i64 0] 80)).heap.size 3 i _ 1 Tryz.underlying29 hi hz0 hz1 _ _ _ _ n rfl rfl rfl rfl hbyt hmax (Nat.le_refl _) ?_)
  intro w2 hown hgrow
  rw [← hw1] at hgrow
  have hb2 : Below w1.heap.size w1 w2 := below_grown hgrow (fun k h => by cases h)
  rw [made_ints2] at hown
  have hrow0 := IntRow.of_owns hown
  have hs1 : w1.heap.size = W.heap.size + 1 := by rw [hw1]; simp
  have HRI : Hid (RI hC hB a W x sc W.heap.size (W.heap.size + 1) 0 [] x 0 w2) := RI.start HE.out HX.out hw1 hb2 (by rw [HN.out]; exact hrow0) (by omega)
  clear hown hgrow hrow0 hb2 hw1 HW1 hs1
  obtain ⟨g, hg⟩ : ∃ g, g = W.heap.size := ⟨_, rfl⟩
  obtain ⟨ab, hab⟩ : ∃ ab, ab = W.heap.size + 1 := ⟨_, rfl⟩
  rw [← hab, ← hg] at HRI
  rw [← hab, ← hg]
  clear hg hab w1
  go_wp2_with fail
  go_loopw [8, 9, 23] (fun _ _ u23 Wj => ∃ (j : Nat) (es : List Int) (y : DR) (now : Int), j ≤ n ∧ u23 = .int .i64 (j : Nat) ∧ RI hC hB a W x sc g ab j es y now Wj) (fun _ _ u23 _ => n - (intOf u23).toNat)
  case atStart => exact ⟨0, [], x, 0, Nat.zero_le _, rfl, HRI.out⟩
  case round =>
    obtain ⟨j, es, y, now, hjn, rfl, hRI⟩ := hrel
    obtain ⟨wo, hwo⟩ : ∃ wo, wo = wr := ⟨_, rfl⟩
    subst hwo
    clear HRI
    have HR : Hid (RI hC hB a W x sc g ab j es y now wo) := hRI
    by_cases hlt : j < n
    · have hls : j < sc.length := by rw [HN.out]; exact hlt
      have hji : (j : Int) < (n : Int) := by omega
      obtain ⟨z, hz⟩ : ∃ z, z = sc[j]'hls := ⟨_, rfl⟩
      obtain ⟨b, o, hp, ck, hno⟩ := HS.out j hls
      rw [← hz] at ck
      have hzv : z < 9223372036854775808 := by rw [hz]; exact HV.out _ (List.getElem_mem hls)
      have HZ : Hid (∀ h : j < sc.length, sc[j]'h = z) := fun _ => hz.symm
      obtain rfl : ad = ⟨b, o, none⟩ := by simpa using hp
      have ckj : wo.cell? ⟨b, o + j, none⟩ = some (.int .i64 z) := foot_cell hRI.tur (fun q => hno (q.elim Or.inl fun q => Or.inr (Or.inl q))) ck
      have hans := answer_any hRI.gs hRI.n0 (by have := hRI.n9; omega) z hzv
      clear hz hRI ck hno
      go_wp2_with fail
      refine hans.mono ?_
      rintro e w4 ⟨r, D', rfl, hO, hS⟩
      have hO' : OneR hC.nw ⟨y.A, y.B, now⟩ (sc[j]'hls) D' r := by rw [HZ.out hls]; exact hO
      obtain ⟨y', hRI'⟩ := HR.out.step hls hO' hS
      have HR' : Hid (RI hC hB a W x sc g ab (j + 1) (es ++ [r]) y' D'.now (w4.setCell ⟨ab, j, none⟩ (.int .i64 r))) := hRI'
      obtain ⟨hc4, hf4⟩ := HR.out.slot hls hS
      clear hans hO hO' hS hRI' ckj
      go_wp2_with fail
      go_roundw
      case rel => exact ⟨j + 1, es ++ [r], y', D'.now, by omega, by go_num, HR'.out⟩
      case measure => simp [intOf]; omega
    · obtain rfl : j = n := by omega
      clear hRI
      go_wp2
      go_ret
      exact ⟨g, ab, es, y, now, rfl, HR.out⟩
end
end Go.Proofs.YtmdckddenelneaaGreatDoor

/- Keys in memory, as a caller hands them over; the law's OwnKeys. -/
namespace Go.Proofs.YtmdckddenelneaaGreatDoor
open Go.RowKit

def encU (k : Nat) : Value := .int .u64 (k : Nat)
theorem encU_one (ks : List Nat) : ∀ u ∈ ks.map encU, u.oneCell' = true := by
  intro u hu
  obtain ⟨_, _, rfl⟩ := List.mem_map.1 hu
  rfl
theorem infoU : (Tryz.prog.info? 27).map (fun i => (i.zero, i.size, i.bytes)) = some (some (.int .u64 0), 1, 8) := by kernel_rfl
/-- A list of keys, as a caller hands it over. -/
def Keys1 (w : World) (v : Value) (ks : List Nat) : Prop :=
  (ks = [] ∧ (v = .slice none 0 0 ∨ ∃ a c, v = .slice (some a) 0 c)) ∨ ∃ b o c, v = .slice (some ⟨b, o, none⟩) ks.length c ∧ ks.length ≤ c ∧ ∀ k (h : k < ks.length), w.cell? ⟨b, o + k, none⟩ = some (.int .u64 (ks[k] : Nat))
theorem Keys1.later {w w' : World} {v : Value} {ks : List Nat} (h : Keys1 w v ks) (hb : Below w.heap.size w w') : Keys1 w' v ks := by
  rcases h with h | ⟨b, o, c, rfl, hcap, hc⟩
  · exact Or.inl h
  · exact Or.inr ⟨b, o, c, rfl, hcap, fun k hk => below_cell hb (hc k hk)⟩
theorem Keys1.u64s {w : World} {v : Value} {ks : List Nat} (h : Keys1 w v ks) : U64s w v ks := by
  rcases h with ⟨rfl, rfl | ⟨a, c, rfl⟩⟩ | ⟨b, o, c, rfl, _, hc⟩
  · exact ⟨_, _, rfl, fun k h => absurd h (by simp)⟩
  · exact ⟨_, _, rfl, fun k h => absurd h (by simp)⟩
  · exact ⟨_, _, rfl, fun k h => ⟨b, o, rfl, hc k h⟩⟩
theorem cells_keys {w : World} {b o : Nat} {ks : List Nat} (hx : ∀ k (h : k < ks.length), w.cell? ⟨b, o + k, none⟩ = some (.int .u64 (ks[k] : Nat))) : ∀ j u, (ks.map encU)[j]? = some u → w.cell? ((⟨b, o, none⟩ : Addr).add j) = some u := by
  intro j u hu
  obtain ⟨hj, rfl⟩ := List.getElem?_eq_some_iff.1 hu
  rw [Addr.add_lit, hx j (by simpa using hj)]
  simp [encU]
theorem keys_of_owns {w : World} {base n : Nat} {v : Value} {e : TypeId} {ks : List Nat} (h : w.ownsRow base e 1 v n (ks.map encU)) : Keys1 w v ks := by
  obtain ⟨hl, ⟨rfl, rfl⟩ | ⟨g, cap, cur, rfl, hbase, hb, hn, hm, hsz, ht⟩⟩ := h
  · have : ks = [] := by simpa using hl
    exact Or.inl ⟨this, Or.inl rfl⟩
  · have hl' : ks.length = n := by simpa using hl
    refine Or.inr ⟨g, 0, cap, by rw [hl'], by omega, fun k hk => ?_⟩
    have hk' : (cur.toList.take (n * 1))[k]? = some (.int .u64 (ks[k] : Nat)) := by rw [ht]; simp [hk, encU]
    rw [List.getElem?_take_of_lt (by omega)] at hk'
    simp only [World.cell?, hb, Nat.zero_add]
    simpa using hk'
set_option maxHeartbeats 1000000 in
theorem ownKeys_any (v : Value) (ks : List Nat) (w : World) (hv : Keys1 w v ks) (hm : ks.length < 1000000) :
    Calls Tryz.prog 12 #[v] w fun e w' => ∃ v', e = .returned v' ∧ Keys1 w' v' ks ∧ Below w.heap.size w w' := by
  obtain ⟨i, hi, hz0, hz1, hz2⟩ := info_parts infoU
  have hmax : 0 + ks.length ≤ maxLen := by unfold maxLen; omega
  rcases hv with ⟨rfl, rfl | ⟨ad, c, rfl⟩⟩ | ⟨b, o, c, rfl, hcap, hx⟩
  · go_enter Tryz.func12, Tryz.ntmps12
    go_wp2_with (at_builtin; refine wpList_append_own_none rfl _ _ 23 rfl w.heap.size 27 i 1 Tryz.underlying23 hi (.slice none 0 0) 0 _ rfl (World.ownsRow_nil w _ _ _) rfl ?_)
    go_ret
    exact ⟨_, rfl, Or.inl ⟨rfl, Or.inl rfl⟩, Below.refl _ _⟩
  · have hnews : ∀ j u, (([] : List Nat).map encU)[j]? = some u → w.cell? (ad.add j) = some u := fun j u h => by simp at h
    go_enter Tryz.func12, Tryz.ntmps12
    go_wp2_with (at_builtin; refine wpList_append_own w rfl _ _ 23 rfl w.heap.size 27 i _ 1 8 Tryz.underlying23 hi hz0 hz1 hz2 rfl (by decide) (.slice none 0 0) 0 _ rfl (World.ownsRow_nil w _ _ _) ad 0 c (([] : List Nat).map encU) rfl rfl hnews (encU_one []) (by unfold maxLen; omega) (by omega) (Nat.le_refl _) ?_)
    intro v' w' hown hg _
    have hkk : Keys1 w' v' [] := keys_of_owns (by simpa using hown)
    have HKK : Hid (Keys1 w' v' []) := hkk
    clear hkk hown
    go_wp2
    go_ret
    exact ⟨_, rfl, HKK.out, below_grown hg (fun k h => by cases h)⟩
  · have hnews := cells_keys hx
    go_enter Tryz.func12, Tryz.ntmps12
    go_wp2_with (at_builtin; refine wpList_append_own w rfl _ _ 23 rfl w.heap.size 27 i _ 1 8 Tryz.underlying23 hi hz0 hz1 hz2 rfl (by decide) (.slice none 0 0) 0 _ rfl (World.ownsRow_nil w _ _ _) ⟨b, o, none⟩ ks.length c (ks.map encU) rfl (by simp) hnews (encU_one ks) hmax (by omega) (Nat.le_refl _) ?_)
    intro v' w' hown hg _
    have hkk : Keys1 w' v' ks := keys_of_owns (by simpa using hown)
    have HKK : Hid (Keys1 w' v' ks) := hkk
    clear hkk hown hnews hx
    go_wp2
    go_ret
    exact ⟨_, rfl, HKK.out, below_grown hg (fun k h => by cases h)⟩
/-- keys in memory, where they are read -/
def KeysAt (w : World) (p : Option Addr) (ks : List Nat) : Prop := ∀ k (h : k < ks.length), ∃ b o, p = some ⟨b, o, none⟩ ∧ w.cell? ⟨b, o + k, none⟩ = some (.int .u64 (ks[k] : Nat))
theorem KeysAt.later {w w' : World} {p : Option Addr} {ks : List Nat} (h : KeysAt w p ks) (hb : Below w.heap.size w w') : KeysAt w' p ks := fun k hk => by
  obtain ⟨b, o, h1, h2⟩ := h k hk
  exact ⟨b, o, h1, below_cell hb h2⟩
theorem Keys1.at {w : World} {v : Value} {ks : List Nat} (h : Keys1 w v ks) : ∃ p c, v = .slice p ks.length c ∧ KeysAt w p ks := h.u64s
end Go.Proofs.YtmdckddenelneaaGreatDoor

/- The landed play: keys to play with. -/
namespace Go.Proofs.YtmdckddenelneaaGreatDoor
open Go.RowKit

/-- Block g of w is a row of keys, whole. -/
def KeyRow (w : World) (g : Nat) (xs : List Nat) : Prop := w.heap[g]? = some (.cells (xs.map fun x => Value.int .u64 ((x : Nat) : Int)).toArray 27 (0, 0))
section
variable {w w' : World} {g : Nat} {xs : List Nat}
theorem KeyRow.cell (h : KeyRow w g xs) {k : Nat} (hk : k < xs.length) : w.cell? ⟨g, k, none⟩ = some (.int .u64 (xs[k] : Nat)) := by
  rw [cell_of_row w g k _ _ _ h]
  simp [hk]
theorem KeyRow.frozen (h : KeyRow w g xs) (k : Nat) : w.frozen? ⟨g, k, none⟩ = false := frozen_of_row w g k _ _ h
theorem KeyRow.set (h : KeyRow w g xs) (k v : Nat) : KeyRow (w.setCell ⟨g, k, none⟩ (.int .u64 (v : Nat))) g (xs.set k v) := by
  have := heap_setCell_same w g k _ _ (.int .u64 (v : Nat)) h
  unfold KeyRow
  rw [this]
  simp [List.map_set]
theorem KeyRow.same (h : KeyRow w g xs) (he : w'.heap[g]? = w.heap[g]?) : KeyRow w' g xs := by
  unfold KeyRow
  rw [he]
  exact h
theorem KeyRow.lt (h : KeyRow w g xs) : g < w.heap.size := (Array.getElem?_eq_some_iff.1 h).1
theorem KeyRow.later (h : KeyRow w g xs) (hb : Below w.heap.size w w') : KeyRow w' g xs := h.same (hb.block g h.lt)
theorem KeyRow.keys (h : KeyRow w g xs) (c : Nat) : U64s w (.slice (some ⟨g, 0, none⟩) xs.length c) xs := ⟨_, c, rfl, fun k hk => ⟨g, 0, rfl, by rw [Nat.zero_add]; exact h.cell hk⟩⟩
theorem KeyRow.of_owns {base n : Nat} (h : w.ownsRow base 27 1 (.slice (some ⟨g, 0, none⟩) n n) n (xs.map fun x => Value.int .u64 ((x : Nat) : Int))) : KeyRow w g xs := by
  rcases h.2 with ⟨h', _⟩ | ⟨g', cap', cur, h', _, hg, _, _, hcs, ht⟩
  · simp at h'
  · simp only [Value.slice.injEq, Option.some.injEq, Addr.mk.injEq, and_true, true_and] at h'
    obtain ⟨rfl, rfl⟩ := h'
    unfold KeyRow
    rw [hg, ← ht, List.take_of_length_le (by simp; omega)]
end
theorem made_keys (n : Nat) : (madeCells #[Value.int .u64 0] n).toList = (List.replicate n (0 : Nat)).map fun x => Value.int .u64 ((x : Nat) : Int) := by
  rw [toList_madeCells_one]
  simp
theorem turns_set {N j : Nat} (h : j < N) : (((List.range j).map Lh.turn) ++ List.replicate (N - j) 0).set j (Lh.turn j) = ((List.range (j + 1)).map Lh.turn) ++ List.replicate (N - (j + 1)) 0 := by
  have e1 : N - j = (N - (j + 1)) + 1 := by omega
  rw [e1, List.replicate_succ, List.set_append, if_neg (by simp), List.length_map, List.length_range, Nat.sub_self, List.range_succ, List.map_append]
  simp
set_option maxRecDepth 100000 in
set_option maxHeartbeats 2000000 in
theorem keys_a (n : Int) (W : World) (hn : n < 0) :
    Calls Tryz.prog 8 #[.int .i64 n] W fun e W' => ∃ g, e = .returned (.slice (some ⟨g, 0, none⟩) 0 0) ∧ W.heap.size ≤ g ∧ KeyRow W' g ((List.range 0).map Lh.turn) ∧ Below W.heap.size W W' := by
  obtain ⟨i, hi, hz0, hz1, hz2⟩ := info_parts infoU
  have hbyt : i.bytes * 0 ≤ 281474976710656 := by rw [hz2]; omega
  have hmax : 0 ≤ maxLen := by unfold maxLen; omega
  have d1 : decide (n < 0) = true := by simpa using hn
  have m1 : max n 0 = 0 := by omega
  have m2 : min (0 : Int) 500 = 0 := by decide
  go_enter Tryz.func8, Tryz.ntmps8
  go_wp2_with (at_make; refine wpList_make_full _ rfl _ _ 23 rfl W.heap.size 27 i _ 1 Tryz.underlying23 hi hz0 hz1 _ _ _ _ 0 rfl rfl rfl rfl hbyt hmax (Nat.le_refl _) ?_)
  intro w2 hown hgrow
  have hb2 : Below W.heap.size W w2 := below_grown hgrow (fun k h => by cases h)
  rw [made_keys] at hown
  have hrow0 := KeyRow.of_owns hown
  clear hown hgrow
  obtain ⟨q, hqq⟩ : ∃ q, W.heap.size = q := ⟨_, rfl⟩
  rw [hqq] at hrow0
  rw [hqq]
  have hql : W.heap.size ≤ q := by omega
  clear hqq
  go_wp2_with fail
  go_loopw [4, 11] (fun _ u11 w' => Below W.heap.size W w' ∧ ∃ k : Nat, k ≤ 0 ∧ u11 = .int .i64 (k : Nat) ∧ KeyRow w' q (((List.range k).map Lh.turn) ++ List.replicate (0 - k) 0)) (fun _ u11 _ => 0 - (intOf u11).toNat)
  case atStart => exact ⟨hb2, 0, Nat.zero_le _, rfl, by simpa using hrow0⟩
  case round =>
    obtain ⟨hbr, k, hk, rfl, hrow⟩ := hrel
    obtain ⟨wo, hwo⟩ : ∃ wo, wo = wr := ⟨_, rfl⟩
    subst hwo
    clear hb2 hrow0
    by_cases hlt : k < 0
    · exact absurd hlt (Nat.not_lt_zero _)
    · have hd : decide ((k : Int) < 0) = false := by simp
      have HFI : Hid (KeyRow wo q ((List.range 0).map Lh.turn)) := by
        obtain rfl : k = 0 := by omega
        show KeyRow _ _ _
        simpa using hrow
      clear hrow
      go_wp2
      go_ret
      exact ⟨q, rfl, hql, HFI.out, hbr⟩
set_option maxRecDepth 100000 in
set_option maxHeartbeats 2000000 in
theorem keys_b (N : Nat) (W : World) (hN : N ≤ 500) :
    Calls Tryz.prog 8 #[.int .i64 (N : Nat)] W fun e W' => ∃ g, e = .returned (.slice (some ⟨g, 0, none⟩) N N) ∧ W.heap.size ≤ g ∧ KeyRow W' g ((List.range N).map Lh.turn) ∧ Below W.heap.size W W' := by
  obtain ⟨i, hi, hz0, hz1, hz2⟩ := info_parts infoU
  have hbyt : i.bytes * N ≤ 281474976710656 := by rw [hz2]; omega
  have hmax : N ≤ maxLen := by unfold maxLen; omega
  have d1 : decide ((N : Int) < 0) = false := by simp
  have m1 : max (N : Int) 0 = (N : Int) := by omega
  have m2 : min (N : Int) 500 = (N : Int) := by omega
  go_enter Tryz.func8, Tryz.ntmps8
  go_wp2_with (at_make; refine wpList_make_full _ rfl _ _ 23 rfl W.heap.size 27 i _ 1 Tryz.underlying23 hi hz0 hz1 _ _ _ _ N rfl rfl rfl rfl hbyt hmax (Nat.le_refl _) ?_)
  intro w2 hown hgrow
  have hb2 : Below W.heap.size W w2 := below_grown hgrow (fun k h => by cases h)
  rw [made_keys] at hown
  have hrow0 := KeyRow.of_owns hown
  clear hown hgrow
  obtain ⟨q, hqq⟩ : ∃ q, W.heap.size = q := ⟨_, rfl⟩
  rw [hqq] at hrow0
  rw [hqq]
  have hql : W.heap.size ≤ q := by omega
  clear hqq
  go_wp2_with fail
  go_loopw [4, 11] (fun _ u11 w' => Below W.heap.size W w' ∧ ∃ k : Nat, k ≤ N ∧ u11 = .int .i64 (k : Nat) ∧ KeyRow w' q (((List.range k).map Lh.turn) ++ List.replicate (N - k) 0)) (fun _ u11 _ => N - (intOf u11).toNat)
  case atStart => exact ⟨hb2, 0, Nat.zero_le _, rfl, by simpa using hrow0⟩
  case round =>
    obtain ⟨hbr, k, hk, rfl, hrow⟩ := hrel
    obtain ⟨wo, hwo⟩ : ∃ wo, wo = wr := ⟨_, rfl⟩
    subst hwo
    clear hb2 hrow0
    by_cases hlt : k < N
    · have hki : (k : Int) < (N : Int) := by omega
      have hku : IntKind.u64.wrap (k : Int) = (k : Int) := by simp [IntKind.wrap, IntKind.signed, IntKind.bits]; omega
      have HR : Hid (KeyRow wo q (((List.range k).map Lh.turn) ++ List.replicate (N - k) 0)) := hrow
      have HT : Hid (Calls Tryz.prog 28 #[.int .u64 (k : Nat)] wo fun e w' => e = .returned (.int .u64 (Lh.turn k : Nat)) ∧ Below wo.heap.size wo w') := (turn_gr k wo).mono fun e w' ⟨h1, h2⟩ => ⟨h1, h2.below⟩
      clear hrow
      go_wp2_with fail
      refine HT.out.mono ?_
      rintro e w4 ⟨rfl, hb4⟩
      have hrow4 := HR.out.later hb4
      have fy4 := hrow4.frozen k
      have cy4 := hrow4.cell (k := k) (by simp; omega)
      have HN4 : Hid (KeyRow (w4.setCell ⟨q, k, none⟩ (.int .u64 (Lh.turn k : Nat))) q (((List.range (k + 1)).map Lh.turn) ++ List.replicate (N - (k + 1)) 0)) := by
        have h1 := hrow4.set k (Lh.turn k)
        rw [turns_set hlt] at h1
        exact h1
      have hb14 : Below W.heap.size W w4 := below_then hbr hb4
      clear HT hrow4 hbr hb4
      generalize Lh.turn k = z at *
      go_wp2_with fail
      go_roundw
      case rel => exact ⟨hb14.setCell hql _, k + 1, by omega, by go_num, HN4.out⟩
      case measure => simp [intOf]; omega
    · have hd : decide ((k : Int) < (N : Int)) = false := by simp; omega
      have HFI : Hid (KeyRow wo q ((List.range N).map Lh.turn)) := by
        obtain rfl : k = N := by omega
        show KeyRow _ _ _
        simpa using hrow
      clear hrow
      go_wp2
      go_ret
      exact ⟨q, rfl, hql, HFI.out, hbr⟩
set_option maxRecDepth 100000 in
set_option maxHeartbeats 2000000 in
theorem keys_c (n : Int) (W : World) (hn : 500 < n) :
    Calls Tryz.prog 8 #[.int .i64 n] W fun e W' => ∃ g, e = .returned (.slice (some ⟨g, 0, none⟩) 500 500) ∧ W.heap.size ≤ g ∧ KeyRow W' g ((List.range 500).map Lh.turn) ∧ Below W.heap.size W W' := by
  obtain ⟨i, hi, hz0, hz1, hz2⟩ := info_parts infoU
  have hbyt : i.bytes * 500 ≤ 281474976710656 := by rw [hz2]; omega
  have hmax : 500 ≤ maxLen := by unfold maxLen; omega
  have d1 : decide (n < 0) = false := by simp; omega
  have m1 : max n 0 = n := by omega
  have m2 : min n 500 = 500 := by omega
  go_enter Tryz.func8, Tryz.ntmps8
  go_wp2_with (at_make; refine wpList_make_full _ rfl _ _ 23 rfl W.heap.size 27 i _ 1 Tryz.underlying23 hi hz0 hz1 _ _ _ _ 500 rfl rfl rfl rfl hbyt hmax (Nat.le_refl _) ?_)
  intro w2 hown hgrow
  have hb2 : Below W.heap.size W w2 := below_grown hgrow (fun k h => by cases h)
  rw [made_keys] at hown
  have hrow0 := KeyRow.of_owns hown
  clear hown hgrow
  obtain ⟨q, hqq⟩ : ∃ q, W.heap.size = q := ⟨_, rfl⟩
  rw [hqq] at hrow0
  rw [hqq]
  have hql : W.heap.size ≤ q := by omega
  clear hqq
  go_wp2_with fail
  go_loopw [4, 11] (fun _ u11 w' => Below W.heap.size W w' ∧ ∃ k : Nat, k ≤ 500 ∧ u11 = .int .i64 (k : Nat) ∧ KeyRow w' q (((List.range k).map Lh.turn) ++ List.replicate (500 - k) 0)) (fun _ u11 _ => 500 - (intOf u11).toNat)
  case atStart => exact ⟨hb2, 0, Nat.zero_le _, rfl, by simpa using hrow0⟩
  case round =>
    obtain ⟨hbr, k, hk, rfl, hrow⟩ := hrel
    obtain ⟨wo, hwo⟩ : ∃ wo, wo = wr := ⟨_, rfl⟩
    subst hwo
    clear hb2 hrow0
    by_cases hlt : k < 500
    · have hki : (k : Int) < 500 := by omega
      have hku : IntKind.u64.wrap (k : Int) = (k : Int) := by simp [IntKind.wrap, IntKind.signed, IntKind.bits]; omega
      have HR : Hid (KeyRow wo q (((List.range k).map Lh.turn) ++ List.replicate (500 - k) 0)) := hrow
      have HT : Hid (Calls Tryz.prog 28 #[.int .u64 (k : Nat)] wo fun e w' => e = .returned (.int .u64 (Lh.turn k : Nat)) ∧ Below wo.heap.size wo w') := (turn_gr k wo).mono fun e w' ⟨h1, h2⟩ => ⟨h1, h2.below⟩
      clear hrow
      go_wp2_with fail
      refine HT.out.mono ?_
      rintro e w4 ⟨rfl, hb4⟩
      have hrow4 := HR.out.later hb4
      have fy4 := hrow4.frozen k
      have cy4 := hrow4.cell (k := k) (by simp; omega)
      have HN4 : Hid (KeyRow (w4.setCell ⟨q, k, none⟩ (.int .u64 (Lh.turn k : Nat))) q (((List.range (k + 1)).map Lh.turn) ++ List.replicate (500 - (k + 1)) 0)) := by
        have h1 := hrow4.set k (Lh.turn k)
        rw [turns_set hlt] at h1
        exact h1
      have hb14 : Below W.heap.size W w4 := below_then hbr hb4
      clear HT hrow4 hbr hb4
      generalize Lh.turn k = z at *
      go_wp2_with fail
      go_roundw
      case rel => exact ⟨hb14.setCell hql _, k + 1, by omega, by go_num, HN4.out⟩
      case measure => simp [intOf]; omega
    · have hd : decide ((k : Int) < 500) = false := by simp; omega
      have HFI : Hid (KeyRow wo q ((List.range 500).map Lh.turn)) := by
        obtain rfl : k = 500 := by omega
        show KeyRow _ _ _
        simpa using hrow
      clear hrow
      go_wp2
      go_ret
      exact ⟨q, rfl, hql, HFI.out, hbr⟩
theorem keys_any (n : Int) (W : World) :
    Calls Tryz.prog 8 #[.int .i64 n] W fun e W' => ∃ v, e = .returned v ∧ U64s W' v ((List.range (min n.toNat 500)).map Lh.turn) ∧ Below W.heap.size W W' := by
  have key : ∀ (N : Nat), min n.toNat 500 = N → (Calls Tryz.prog 8 #[.int .i64 n] W fun e W' => ∃ g, e = .returned (.slice (some ⟨g, 0, none⟩) N N) ∧ W.heap.size ≤ g ∧ KeyRow W' g ((List.range N).map Lh.turn) ∧ Below W.heap.size W W') → Calls Tryz.prog 8 #[.int .i64 n] W fun e W' => ∃ v, e = .returned v ∧ U64s W' v ((List.range (min n.toNat 500)).map Lh.turn) ∧ Below W.heap.size W W' := fun N hN h => by
    rw [hN]
    refine h.mono ?_
    rintro e W' ⟨g, rfl, _, hr, hb⟩
    refine ⟨_, rfl, ?_, hb⟩
    have := hr.keys N
    rwa [List.length_map, List.length_range] at this
  by_cases h0 : n < 0
  · exact key 0 (by omega) (keys_a n W h0)
  · by_cases h5 : 500 < n
    · exact key 500 (by omega) (keys_c n W h5)
    · obtain ⟨N, rfl⟩ := Int.eq_ofNat_of_zero_le (show 0 ≤ n by omega)
      exact key N (by omega) (keys_b N W (by omega))
end Go.Proofs.YtmdckddenelneaaGreatDoor
