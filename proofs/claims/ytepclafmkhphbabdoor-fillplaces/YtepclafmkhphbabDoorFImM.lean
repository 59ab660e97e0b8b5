/- Maps of the call's own: numbers by name, and keys that were seen. -/
import Derived.Test.YtepclafmkhphbabDoorFMath
import Derived.Test.YtepclafmkhphbabDoorBase
import Derived.Test.YtepclafmkhphbabDoorLists
import Derived.Maps.OwnOps
import Derived.Maps.OwnSet
import Derived.Carry
import Derived.Test.YtepclafmkhphbabDoorFCap
import Derived.Test.YtepclafmkhphbabDoorKeysI
import Derived.Test.YtepclafmkhphbabDoorE4
import Derived.Test.YtepclafmkhphbabDoorFPlM
import Derived.Shelf.Abstract
import Derived.Test.YtepclafmkhphbabDoorFew
import Derived.Test.YtepclafmkhphbabDoorBlkI
namespace Go.Proofs.YtepclafmkhphbabDoor
open Go.RowKit Go.Maps Go.ChangeMaps

theorem fmakeN (w : World) (n : Nat) : (Instr.makeMap 65 (some (.int .i64 (n : Nat)))).run Tryd.prog w = .ok (.map (some w.heap.size)) (w.alloc (.map #[] 0)) := by
  simp [Instr.makeMap, asInt, asIntOf]
theorem fmakeU (w : World) (n : Nat) : (Instr.makeMap 95 (some (.int .i64 (n : Nat)))).run Tryd.prog w = .ok (.map (some w.heap.size)) (w.alloc (.map #[] 0)) := by
  simp [Instr.makeMap, asInt, asIntOf]
theorem fkeyS (s : ByteArray) (hs : s.size ≤ 300) : keyOf Tryd.prog 9 (.string s) = some (.string s.data.toList) := Go.WideMaps.keyOf_string_mk Tryd.underlying9 (Nat.le_trans hs (by unfold maxLen; omega))
theorem wfU {z : Nat} (h : z < 18446744073709551616) : (Lit.int .u64 (z : Nat)).wf = true := by
  simp [Lit.wf, IntKind.min, IntKind.max, IntKind.signed, IntKind.bits]
  omega
theorem fkeyU (z : Nat) (h : z < 18446744073709551616) : keyOf Tryd.prog 32 (.int .u64 (z : Nat)) = some (.int .u64 (z : Nat)) := keyOf_int_mk Tryd.underlying32 (wfU h)
theorem wfI {n : Nat} (h : n ≤ 1000000) : (Lit.int .i64 (n : Nat)).wf = true := by
  simp [Lit.wf, IntKind.min, IntKind.max, IntKind.signed, IntKind.bits]
  omega
theorem strs_lit_ne {s t : ByteArray} (h : s ≠ t) : Lit.string s.data.toList ≠ Lit.string t.data.toList := by
  intro e
  simp only [Lit.string.injEq] at e
  apply h
  cases s
  cases t
  simpa using e
theorem ownsMap_later {k : TypeId} {R : Value → Option (DataW Unit × List MemPlace)} {w w' : World} {b n : Nat} {D : DataW Unit} (h : w.ownsMap Tryd.prog k R b n D) (he : w'.heap[b]? = w.heap[b]?) : w'.ownsMap Tryd.prog k R b n D := by
  obtain ⟨es, clock, hb, r⟩ := h
  exact ⟨es, clock, he.trans hb, r⟩

/-- a datum that has a number for each name -/
def NumD (D : DataW Unit) (f : ByteArray → Nat) : Prop := IsMap D ∧ ∀ s : ByteArray, D.atKey (.string s.data.toList) (.lit (.int .i64 0)) = .lit (.int .i64 (f s : Nat))
theorem NumD.zero : NumD (.map []) fun _ => 0 := ⟨isMap_empty, fun _ => rfl⟩
theorem NumD.put {D : DataW Unit} {f : ByteArray → Nat} (h : NumD D f) (s : ByteArray) (v : Nat) : NumD (D.put (.string s.data.toList) (.lit (.int .i64 (v : Nat)))) fun t => if t = s then v else f t := by
  refine ⟨h.1.put _ _, fun t => ?_⟩
  by_cases e : t = s
  · subst e
    simp only [if_true]
    exact atKey_put_same (k := .string _) h.1 (by simp [WideAt.IsKeyLit]) _ _
  · simp only [if_neg e]
    rw [atKey_put_other (strs_lit_ne e)]
    exact h.2 t
/-- a map from names to numbers -/
def NumMap (W : World) (b n : Nat) (f : ByteArray → Nat) : Prop := ∃ D : DataW Unit, W.ownsMap Tryd.prog 9 (plainElem Tryd.prog 3) b n D ∧ NumD D f
theorem NumMap.lt {W : World} {b n : Nat} {f : ByteArray → Nat} (h : NumMap W b n f) : b < W.heap.size := by
  obtain ⟨D, h, _⟩ := h
  exact h.lt
theorem NumMap.same {W W' : World} {b n : Nat} {f : ByteArray → Nat} (h : NumMap W b n f) (he : W'.heap[b]? = W.heap[b]?) : NumMap W' b n f := by
  obtain ⟨D, h1, h2⟩ := h
  exact ⟨D, ownsMap_later h1 he, h2⟩
theorem NumMap.later {W W' : World} {b n : Nat} {f : ByteArray → Nat} (h : NumMap W b n f) (hb : Below W.heap.size W W') : NumMap W' b n f := h.same (hb.block b h.lt)
theorem NumMap.congr {W : World} {b n : Nat} {f g : ByteArray → Nat} (h : NumMap W b n f) (e : ∀ t, f t = g t) : NumMap W b n g := by
  have : f = g := funext e
  rwa [← this]
theorem NumMap.made (w : World) : NumMap (w.alloc (.map #[] 0)) w.heap.size 0 fun _ => 0 := ⟨_, World.ownsMap_made w _ _ _, NumD.zero⟩
/-- what a look into such a map gives -/
theorem NumMap.look {W : World} {b n : Nat} {f : ByteArray → Nat} (h : NumMap W b n f) (s : ByteArray) (hs : s.size ≤ 300) : (Instr.lookup 65 (.map (some b)) (.string s) false).run Tryd.prog W = .ok (.int .i64 (f s : Nat)) W := by
  obtain ⟨D, h1, h2⟩ := h
  obtain ⟨c, hrun, hat, _⟩ := h1.lookup_int (string_keyed Tryd.underlying9) Tryd.underlying65 Tryd.underlying3 (Tryd.zeroValue3 W) (fkeyS s hs)
  rw [h2.2 s] at hat
  simp only [DataW.lit.injEq, Lit.int.injEq, true_and] at hat
  rw [hrun, ← hat]

/-- a datum that is a set of keys -/
def SetD (D : DataW Unit) (ks : List Nat) : Prop := IsMap D ∧ ∀ z : Nat, has D (.int .u64 (z : Nat)) = decide (z ∈ ks)
theorem SetD.zero : SetD (.map []) [] := ⟨isMap_empty, fun _ => by simp [has]⟩
theorem SetD.put {D : DataW Unit} {ks : List Nat} (h : SetD D ks) (x : Nat) : SetD (D.put (.int .u64 (x : Nat)) (.agg [])) (ks ++ [x]) := by
  refine ⟨h.1.put _ _, fun z => ?_⟩
  by_cases e : z = x
  · subst e
    rw [has_put_same (k := .int .u64 _) h.1 (by simp [WideAt.IsKeyLit])]
    simp
  · have hne : Lit.int .u64 (z : Nat) ≠ Lit.int .u64 (x : Nat) := by
      intro e2
      simp only [Lit.int.injEq, true_and] at e2
      omega
    rw [has_put_other hne, h.2 z]
    simp [e]
end Go.Proofs.YtepclafmkhphbabDoor

/- The landed Cap, checkOnce and numbersOf. -/
namespace Go.Proofs.YtepclafmkhphbabDoor
open Go.RowKit Go.Maps Go.ChangeMaps

theorem Errs4.one {a : Nat → Addr} {w : World} (h : Errs4 a w) : Errs1 a w := ⟨h.s1⟩

set_option maxHeartbeats 2000000 in
theorem fcap_good (K H p : Nat) (W : World) (hK : K ≤ 500) (hH1 : 1 ≤ H) (hH : H ≤ 12) (hp : p ≤ 100) :
    Calls Tryd.prog 22 #[.int .i64 (K : Nat), .int .i64 (H : Nat), .int .i64 (p : Nat)] W fun e w' => e = .returned (.tuple #[.int .i64 (Lh.capN K H p : Nat), .nilIface]) ∧ Below W.heap.size W w' := by
  have d1 : decide ((K : Int) < 0) = false := by simp
  have d2 : decide (500 < (K : Int)) = false := by simp; omega
  have d3 : decide ((H : Int) < 1) = false := by simp; omega
  have d4 : decide (12 < (H : Int)) = false := by simp; omega
  have d5 : decide ((p : Int) < 0) = false := by simp
  have d6 : decide (100 < (p : Int)) = false := by simp; omega
  have hX : K * (100 + p) ≤ 100000 := Nat.le_trans (Nat.mul_le_mul hK (show 100 + p ≤ 200 by omega)) (by decide)
  have hXi : (K : Int) * (100 + (p : Int)) = ((K * (100 + p) : Nat) : Int) := by simp
  have eX : IntKind.i64.wrap ((K : Int) * (100 + (p : Int))) = ((K * (100 + p) : Nat) : Int) := by rw [hXi, IntKind.wrap_i64]; omega
  have HC : Hid (Lh.capN K H p = (K * (100 + p) + 100 * H - 1) / (100 * H)) := rfl
  generalize Lh.capN K H p = C at *
  generalize K * (100 + p) = X at *
  have hq0 : ((100 * (H : Int)) == 0) = false := by rw [beq_eq_false_iff_ne]; omega
  have HQ2 : Hid (((X : Int) + 100 * (H : Int) - 1) / (100 * (H : Int)) = (((X + 100 * H - 1) / (100 * H) : Nat) : Int)) := by
    show ((X : Int) + 100 * (H : Int) - 1) / (100 * (H : Int)) = (((X + 100 * H - 1) / (100 * H) : Nat) : Int)
    have e : (X : Int) + 100 * (H : Int) - 1 = ((X + 100 * H - 1 : Nat) : Int) := by omega
    rw [e]
    simp
  clear hXi
  go_enter Tryd.func22, Tryd.ntmps22
  go_wp2
  go_ret2
  exact ⟨by rw [HC.out, ← HQ2.out]; rfl, Below.refl _ _⟩

set_option maxHeartbeats 2000000 in
theorem fcap_bad (a : Nat → Addr) (k h p : Int) (W : World) (he : Errs1 a W) (hb : ¬ CapIn k h p) :
    Calls Tryd.prog 22 #[.int .i64 k, .int .i64 h, .int .i64 p] W fun e w' => e = .returned (.tuple #[.int .i64 0, .iface 165 (.pointer (some (a 1)))]) ∧ Below W.heap.size W w' := by
  unfold CapIn at hb
  have s1 := he.s1
  clear he
  by_cases c0 : k < 0
  · have d0 : decide (k < 0) = true := by simpa using c0
    clear hb
    go_enter Tryd.func22, Tryd.ntmps22
    go_wp2_with fail
    go_quiet (fail)
    go_wp2
    go_ret2
    exact ⟨rfl, below_drewN (Below.refl _ _) nq⟩
  · have d0 : decide (k < 0) = false := by simp; omega
    by_cases c1 : 500 < k
    · have d1 : decide (500 < k) = true := by simpa using c1
      clear hb
      go_enter Tryd.func22, Tryd.ntmps22
      go_wp2_with fail
      go_quiet (fail)
      go_wp2
      go_ret2
      exact ⟨rfl, below_drewN (Below.refl _ _) nq⟩
    · have d1 : decide (500 < k) = false := by simp; omega
      by_cases c2 : h < 1
      · have d2 : decide (h < 1) = true := by simpa using c2
        clear hb
        go_enter Tryd.func22, Tryd.ntmps22
        go_wp2_with fail
        go_quiet (fail)
        go_wp2
        go_ret2
        exact ⟨rfl, below_drewN (Below.refl _ _) nq⟩
      · have d2 : decide (h < 1) = false := by simp; omega
        by_cases c3 : 12 < h
        · have d3 : decide (12 < h) = true := by simpa using c3
          clear hb
          go_enter Tryd.func22, Tryd.ntmps22
          go_wp2_with fail
          go_quiet (fail)
          go_wp2
          go_ret2
          exact ⟨rfl, below_drewN (Below.refl _ _) nq⟩
        · have d3 : decide (12 < h) = false := by simp; omega
          by_cases c4 : p < 0
          · have d4 : decide (p < 0) = true := by simpa using c4
            clear hb
            go_enter Tryd.func22, Tryd.ntmps22
            go_wp2_with fail
            go_quiet (fail)
            go_wp2
            go_ret2
            exact ⟨rfl, below_drewN (Below.refl _ _) nq⟩
          · have d4 : decide (p < 0) = false := by simp; omega
            have d5 : decide (100 < p) = true := by simp; omega
            clear hb
            go_enter Tryd.func22, Tryd.ntmps22
            go_wp2_with fail
            go_quiet (fail)
            go_wp2
            go_ret2
            exact ⟨rfl, below_drewN (Below.refl _ _) nq⟩
end Go.Proofs.YtepclafmkhphbabDoor

/- The landed checkOnce and numbersOf. -/
namespace Go.Proofs.YtepclafmkhphbabDoor
open Go.RowKit Go.Maps Go.ChangeMaps

set_option maxRecDepth 100000 in
set_option maxHeartbeats 2000000 in
/-- checkOnce of any keys. -/
theorem once_any (a : Nat → Addr) (kp : Option Addr) (kc : Nat) (ks : List Nat) (w : World) (he : Errs4 a w) (hk : KeysAt w kp ks) (hkl : ks.length < 1000) (hz : ∀ z ∈ ks, z < 18446744073709551616) (cc : Nat) (pl : Int) (hkf : Lh.KeyFault ks cc pl) :
    Calls Tryd.prog 30 #[.slice kp ks.length kc] w fun e w' => ∃ ev, e = .returned ev ∧ ErrIs a w' cc pl ev ∧ Below w.heap.size w w' := by
  have HK : Hid (KeysAt w kp ks) := hk
  have HZ : Hid (∀ z ∈ ks, z < 18446744073709551616) := hz
  have HKF : Hid (Lh.KeyFault ks cc pl) := hkf
  have HE : Hid (Errs4 a w) := he
  clear hk hz hkf he
  have hmm := fmakeU w ks.length
  go_enter Tryd.func30, Tryd.ntmps30
  go_wp2_with fail
  go_loopw [13] (fun t W => Below w.heap.size w W ∧ ∃ j : Nat, j ≤ ks.length ∧ t = .int .i64 j ∧ (ks.take j).Nodup ∧ ∃ D, W.ownsMap Tryd.prog 32 unitElem w.heap.size j D ∧ SetD D (ks.take j)) (fun t _ => ks.length - (intOf t).toNat)
  case atStart => exact ⟨(Below.refl _ _).alloc (Nat.le_refl _) _, 0, Nat.zero_le _, rfl, by simp, _, World.ownsMap_made w _ _ _, SetD.zero⟩
  case round =>
    obtain ⟨hb, j, hj, rfl, hnd, D, hown, hset⟩ := hrel
    have HND : Hid ((ks.take j).Nodup) := hnd
    have HSET : Hid (SetD D (ks.take j)) := hset
    clear hmm hnd hset
    by_cases hlt : j < ks.length
    · obtain ⟨bk, ok, rfl, hck⟩ := HK.out j hlt
      have cx := below_cell hb hck
      have hzb := HZ.out _ (List.getElem_mem hlt)
      have hkey := fkeyU _ hzb
      have hhas := HSET.out.2 ks[j]
      have hji : (j : Int) < (ks.length : Int) := by omega
      have hjl : j < maxLen := by unfold maxLen; omega
      obtain ⟨z, hze⟩ : ∃ z, ks[j] = z := ⟨_, rfl⟩
      rw [hze] at cx hzb hkey hhas
      have HZE : Hid (ks[j] = z) := hze
      clear hck hze
      have tok1 : True := trivial
      by_cases hm : z ∈ ks.take j
      · have hT : has D (.int .u64 (z : Nat)) = true := by rw [hhas]; simpa using hm
        have HM : Hid (cc = 6 ∧ pl = j) := Lh.keyFault_at HKF.out hlt HND.out (by rw [HZE.out]; exact hm)
        have s5 := (HE.out.later (hb.alloc hb.size (.cells #[] 96))).s5
        clear hhas hm
        go_wp2_with (at_lookup; clear tok1; refine wpList_lookup_own_unit _ rfl _ _ 95 rfl 32 96 (int_keyed Tryd.underlying32) Tryd.underlying95 (Tryd.zeroValue96 _) w.heap.size j D rfl hown _ _ rfl hkey ?_; rw [hT])
        go_ret
        refine ⟨_, rfl, Or.inr ⟨5, by decide, HM.out.1, Or.inr ⟨_, rfl, by rw [HM.out.2]; simp, by simp⟩⟩, ?_⟩
        have h1 := hb.alloc hb.size (.cells #[] 96)
        exact h1.alloc h1.size _
      · have hT : has D (.int .u64 (z : Nat)) = false := by rw [hhas]; simpa using hm
        have HNN : Hid ((ks.take (j + 1)).Nodup) := Lh.take_nodup hlt HND.out (by rw [HZE.out]; exact hm)
        have HSN : Hid (SetD (D.put (.int .u64 (z : Nat)) (.agg [])) (ks.take (j + 1))) := by
          have h1 := HSET.out.put z
          rw [← HZE.out, ← List.take_succ_eq_append_getElem hlt, HZE.out] at h1
          exact h1
        have hown2 := hown.alloc (.cells #[] 96)
        clear hhas hm
        go_wp2_with (first | (at_lookup; clear tok1; refine wpList_lookup_own_unit _ rfl _ _ 95 rfl 32 96 (int_keyed Tryd.underlying32) Tryd.underlying95 (Tryd.zeroValue96 _) w.heap.size j D rfl hown _ _ rfl hkey ?_; rw [hT]) | (at_mapUpdate; refine wpList_mapUpdate_own _ rfl _ _ _ 95 rfl 32 96 (int_keyed Tryd.underlying32) Tryd.underlying95 unitElem w.heap.size j D rfl hown2 hjl _ _ _ rfl rfl hkey (.agg []) [] unitElem_mk ?_; intro w3 hown3 hgr3))
        go_roundw
        case rel =>
          have h1 := hb.alloc hb.size (.cells #[] 96)
          exact ⟨h1.grown hgr3 h1.size (fun k h => by cases h; exact Nat.le_refl _), j + 1, by omega, by go_num, HNN.out, _, hown3, HSN.out⟩
        case measure => simp [intOf]; omega
    · have hji : decide ((j : Int) < (ks.length : Int)) = false := by simp; omega
      have hje : j = ks.length := by omega
      have HC0 : Hid (cc = 0 ∧ pl = -1) := Lh.keyFault_none HKF.out (by
        have h1 := HND.out
        rw [hje, List.take_length] at h1
        exact h1)
      clear hje
      go_wp2
      go_ret
      exact ⟨_, rfl, Or.inl ⟨HC0.out.1, HC0.out.2, rfl⟩, hb⟩

/-- numbers of the first k hosts -/
def numF (xs : List ByteArray) (k : Nat) (t : ByteArray) : Nat := if Lh.ixT xs t < k then Lh.ixT xs t else 0
theorem ixT_at {xs : List ByteArray} (hn : xs.Nodup) {k : Nat} (hk : k < xs.length) : Lh.ixT xs xs[k] = k := by
  have hm := List.getElem_mem hk
  exact (List.getElem_inj hn).1 (Lh.ixT_get hm)
theorem numF_next {xs : List ByteArray} (hn : xs.Nodup) {k : Nat} (hk : k < xs.length) (t : ByteArray) : (if t = xs[k] then k else numF xs k t) = numF xs (k + 1) t := by
  unfold numF
  by_cases e : t = xs[k]
  · subst e
    rw [if_pos rfl, ixT_at hn hk, if_pos (by omega)]
  · rw [if_neg e]
    have hne : Lh.ixT xs t ≠ k := by
      intro e2
      have hl : Lh.ixT xs t < xs.length := by omega
      have hm : ∃ x ∈ xs, decide (x = t) = true := List.findIdx_lt_length.1 hl
      obtain ⟨x, hx, he⟩ := hm
      have he' : x = t := by simpa using he
      subst he'
      have h1 := Lh.ixT_get hx
      apply e
      rw [← h1]
      congr 1
    by_cases e3 : Lh.ixT xs t < k
    · rw [if_pos e3, if_pos (by omega)]
    · rw [if_neg e3, if_neg (by omega)]
theorem numF_last {xs : List ByteArray} {t : ByteArray} (h : t ∈ xs) : numF xs xs.length t = Lh.ixT xs t := by
  unfold numF
  rw [if_pos (Lh.ixT_lt h)]

set_option maxRecDepth 100000 in
set_option maxHeartbeats 2000000 in
/-- numbersOf of hosts. -/
theorem numbersOf_any (b o c : Nat) (xs : List ByteArray) (w : World) (hx : ∀ k (h : k < xs.length), w.cell? ⟨b, o + k, none⟩ = some (.string xs[k])) (hl : xs.length ≤ 12) (hnd : xs.Nodup) (hsz : ∀ k (h : k < xs.length), (xs[k]).size ≤ 300) :
    Calls Tryd.prog 31 #[.slice (some ⟨b, o, none⟩) xs.length c] w fun e w' => ∃ mb, e = .returned (.map (some mb)) ∧ NumMap w' mb xs.length (numF xs xs.length) ∧ Below w.heap.size w w' := by
  have HX : Hid (∀ k (h : k < xs.length), w.cell? ⟨b, o + k, none⟩ = some (.string xs[k])) := hx
  have HND : Hid (xs.Nodup) := hnd
  have HSZ : Hid (∀ k (h : k < xs.length), (xs[k]).size ≤ 300) := hsz
  clear hx hnd hsz
  have hmm := fmakeN w xs.length
  go_enter Tryd.func31, Tryd.ntmps31
  go_wp2_with fail
  go_loopw [11] (fun t W => Below w.heap.size w W ∧ ∃ k : Nat, k ≤ xs.length ∧ t = .int .i64 k ∧ NumMap W w.heap.size k (numF xs k)) (fun t _ => xs.length - (intOf t).toNat)
  case atStart => exact ⟨(Below.refl _ _).alloc (Nat.le_refl _) _, 0, Nat.zero_le _, rfl, (NumMap.made w).congr fun t => by simp [numF]⟩
  case round =>
    obtain ⟨hb, k, hk, rfl, hN⟩ := hrel
    clear hmm
    by_cases hlt : k < xs.length
    · obtain ⟨D, hown, hD⟩ := hN
      have cx := below_cell hb (HX.out k hlt)
      have hsz := HSZ.out k hlt
      have hkey := fkeyS xs[k] hsz
      have HD : Hid (NumD D (numF xs k)) := hD
      clear hD
      have hkl : k < maxLen := by unfold maxLen; omega
      have hpl := plainElem_int (H := Unit) Tryd.underlying3 (wfI (n := k) (by omega))
      go_wp2_with (at_mapUpdate; refine wpList_mapUpdate_own _ rfl _ _ _ 65 rfl 9 3 (string_keyed Tryd.underlying9) Tryd.underlying65 (plainElem Tryd.prog 3) w.heap.size k D rfl hown hkl _ _ (.string (xs[k]).data.toList) rfl rfl hkey (.lit (.int .i64 (k : Nat))) [] hpl ?_; intro w3 hown3 hgr3)
      go_roundw
      case rel =>
        exact ⟨hb.grown hgr3 hb.size (fun k h => by cases h; exact Nat.le_refl _), k + 1, by omega, by go_num, NumMap.congr ⟨_, hown3, HD.out.put xs[k] k⟩ (numF_next HND.out hlt)⟩
      case measure => simp [intOf]; omega
    · have hke : k = xs.length := by omega
      have hd : decide ((k : Int) < (xs.length : Int)) = false := by simp; omega
      have HN : Hid (NumMap wr w.heap.size xs.length (numF xs xs.length)) := hke ▸ hN
      clear hN hke
      go_wp2
      go_ret
      exact ⟨_, rfl, HN.out, hb⟩
end Go.Proofs.YtepclafmkhphbabDoor

/- The landed firstBelow: the first of a key's hosts that has fewer than it may. -/
namespace Go.Proofs.YtepclafmkhphbabDoor
open Go.RowKit Go.Maps Go.ChangeMaps Go.Shelf

set_option maxHeartbeats 2000000 in
/-- the function handed to slices.IndexFunc -/
theorem closureF (b1 b2 mb n most : Nat) (f : ByteArray → Nat) (s : ByteArray) (hs : s.size ≤ 300) (W : World) (h1 : W.cell? ⟨b1, 0, none⟩ = some (.map (some mb))) (h2 : W.cell? ⟨b2, 0, none⟩ = some (.int .i64 (most : Nat))) (hM : NumMap W mb n f) :
    Calls Tryd.prog 50 #[.string s, .pointer (some ⟨b1, 0, none⟩), .pointer (some ⟨b2, 0, none⟩)] W fun e w' => e = .returned (.bool (decide (f s < most))) ∧ w' = W := by
  have hl := hM.look s hs
  clear hM
  generalize f s = q at *
  go_enter Tryd.func50, Tryd.ntmps50
  go_wp2
  go_ret
  exact ⟨by simp, rfl⟩
theorem entersF : ∀ args w, (callFunc 50 args).run Tryd.prog w = .ok (.enter 50 args) w := enters_of Tryd.func50 (by kernel_rfl) rfl

set_option maxRecDepth 100000 in
set_option maxHeartbeats 2000000 in
/-- slices.IndexFunc with it, where there is such a one -/
theorem indexFunc_any (b1 b2 mb n most : Nat) (f : ByteArray → Nat) (b o c : Nat) (D : List ByteArray) (hD : ∀ k (h : k < D.length), (D[k]).size ≤ 300) (hl : D.length ≤ 12) (q : Nat) (hq : q < D.length) (hfull : ∀ k (h : k < D.length), k < q → most ≤ f D[k]) (hfree : f D[q] < most) (W : World) (hc : ∀ k (h : k < D.length), W.cell? ⟨b, o + k, none⟩ = some (.string D[k])) (h1 : W.cell? ⟨b1, 0, none⟩ = some (.map (some mb))) (h2 : W.cell? ⟨b2, 0, none⟩ = some (.int .i64 (most : Nat))) (hM : NumMap W mb n f) :
    Calls Tryd.prog 49 #[.slice (some ⟨b, o, none⟩) D.length c, .func (.func 50) #[] #[.pointer (some ⟨b1, 0, none⟩), .pointer (some ⟨b2, 0, none⟩)]] W fun e w' => e = .returned (.int .i64 (q : Nat)) ∧ w' = W := by
  have HCL : Hid (∀ k (h : k < D.length), Calls Tryd.prog 50 #[.string D[k], .pointer (some ⟨b1, 0, none⟩), .pointer (some ⟨b2, 0, none⟩)] W fun e w' => e = .returned (.bool (decide (f D[k] < most))) ∧ w' = W) := fun k h => closureF b1 b2 mb n most f D[k] (hD k h) W h1 h2 hM
  have HC : Hid (∀ k (h : k < D.length), W.cell? ⟨b, o + k, none⟩ = some (.string D[k])) := hc
  have HF : Hid (∀ k (h : k < D.length), k < q → most ≤ f D[k]) := hfull
  have HQ : Hid (f D[q] < most) := hfree
  have eg := entersF
  clear hc hD h1 h2 hM hfull hfree
  go_enter Tryd.func49, Tryd.ntmps49
  go_wp2_with fail
  go_loop [5, 8] (fun _ t => ∃ k : Nat, k ≤ q ∧ t = .int .i64 (k : Nat)) (fun _ t => q + 1 - (intOf t).toNat)
  case atStart => exact ⟨0, Nat.zero_le _, rfl⟩
  case round =>
    obtain ⟨k, hk, rfl⟩ := hrel
    have hkl : k < D.length := by omega
    have hki : (k : Int) < (D.length : Int) := by omega
    have cx := HC.out k hkl
    have hcall := HCL.out k hkl
    by_cases hkq : k = q
    · have hb : decide (f D[k] < most) = true := by subst hkq; simpa using HQ.out
      rw [hb] at hcall
      generalize D[k] = s at *
      have HKQ : Hid (k = q) := hkq
      clear hb hkq
      go_wp2_with (go_at_fn 50; refine hcall.mono ?_; rintro e w' ⟨rfl, rfl⟩)
      go_ret
      exact ⟨by rw [← HKQ.out]; rfl, rfl⟩
    · have hb : decide (f D[k] < most) = false := by have := HF.out k hkl (by omega); simp; omega
      rw [hb] at hcall
      generalize D[k] = s at *
      clear hb
      go_wp2_with (go_at_fn 50; refine hcall.mono ?_; rintro e w' ⟨rfl, rfl⟩)
      go_round
      case rel => exact ⟨k + 1, by omega, by go_num⟩
      case measure => simp [intOf]; omega

set_option maxRecDepth 100000 in
set_option maxHeartbeats 2000000 in
/-- firstBelow, where there is one -/
theorem firstBelow_any (mb n most : Nat) (f : ByteArray → Nat) (b o c : Nat) (D : List ByteArray) (hD : ∀ k (h : k < D.length), (D[k]).size ≤ 300) (hl : D.length ≤ 12) (q : Nat) (hq : q < D.length) (hfull : ∀ k (h : k < D.length), k < q → most ≤ f D[k]) (hfree : f D[q] < most) (W : World) (hc : ∀ k (h : k < D.length), W.cell? ⟨b, o + k, none⟩ = some (.string D[k])) (hM : NumMap W mb n f) :
    Calls Tryd.prog 32 #[.int .i64 (most : Nat), .slice (some ⟨b, o, none⟩) D.length c, .map (some mb)] W fun e w' => e = .returned (.string D[q]) ∧ Below W.heap.size W w' := by
  have HIX : Hid (∀ (b1 b2 : Nat) (W' : World), Below W.heap.size W W' → W'.cell? ⟨b1, 0, none⟩ = some (.map (some mb)) → W'.cell? ⟨b2, 0, none⟩ = some (.int .i64 (most : Nat)) → Calls Tryd.prog 49 #[.slice (some ⟨b, o, none⟩) D.length c, .func (.func 50) #[] #[.pointer (some ⟨b1, 0, none⟩), .pointer (some ⟨b2, 0, none⟩)]] W' fun e w' => e = .returned (.int .i64 (q : Nat)) ∧ w' = W') := fun b1 b2 W' hb h1 h2 => indexFunc_any b1 b2 mb n most f b o c D hD hl q hq hfull hfree W' (fun k h => below_cell hb (hc k h)) h1 h2 (hM.later hb)
  have hcq := hc q hq
  have hqi : (q : Int) < (D.length : Int) := by omega
  clear hc hM hfull hfree hD
  generalize D[q] = s at *
  go_enter Tryd.func32, Tryd.ntmps32
  go_wp2_with fail
  have hbb : Below W.heap.size W ((W.alloc (.cells #[.int .i64 (most : Nat)] 3)).alloc (.cells #[.map (some mb)] 65)) := ((Below.refl _ _).alloc (Nat.le_refl _) _).alloc (by simp) _
  refine (HIX.out _ _ _ hbb (by simp) (by simp)).mono ?_
  rintro e w' ⟨rfl, rfl⟩
  have hcq' := below_cell hbb hcq
  go_wp2
  go_ret
  exact ⟨rfl, hbb⟩
end Go.Proofs.YtepclafmkhphbabDoor

/- The landed Place, where nothing is wrong: over what New and Next give. -/
namespace Go.Proofs.YtepclafmkhphbabDoor
open Go.RowKit Go.Maps Go.ChangeMaps

def intsZ (l : List Nat) (K : Nat) : List Int := l.map (fun (n : Nat) => ((n : Nat) : Int)) ++ List.replicate (K - l.length) 0
theorem intsZ_nil (K : Nat) : intsZ [] K = List.replicate K 0 := by simp [intsZ]
theorem intsZ_len (l : List Nat) (K : Nat) (h : l.length ≤ K) : (intsZ l K).length = K := by simp [intsZ]; omega
theorem intsZ_snoc (l : List Nat) (K x : Nat) (h : l.length < K) : (intsZ l K).set l.length ((x : Nat) : Int) = intsZ (l ++ [x]) K := by
  unfold intsZ
  have e : K - l.length = (K - (l ++ [x]).length) + 1 := by simp; omega
  rw [e, List.replicate_succ, List.set_append_right _ _ (by simp)]
  simp
theorem intsZ_full (l : List Nat) : intsZ l l.length = l.map (fun (n : Nat) => ((n : Nat) : Int)) := by simp [intsZ]

/-- What keys' hosts and places are to each other. -/
structure PlG (xs : List ByteArray) (ks : List Nat) (most : Nat) (Dz : Nat → List ByteArray) (PL : Nat → List Nat) : Prop where
  zero : PL 0 = []
  len : ∀ j, j ≤ ks.length → (PL j).length = j
  lt : ∀ j, ∀ x ∈ PL j, x < xs.length
  dlen : ∀ z, (Dz z).length ≤ 12
  dmem : ∀ z, ∀ s ∈ Dz z, s ∈ xs
  step : ∀ j (h : j < ks.length), ∃ q, ∃ hq : q < (Dz ks[j]).length, (∀ k (h : k < (Dz ks[j]).length), k < q → most ≤ (PL j).count (Lh.ixT xs (Dz ks[j])[k])) ∧ (PL j).count (Lh.ixT xs (Dz ks[j])[q]) < most ∧ PL (j + 1) = PL j ++ [Lh.ixT xs (Dz ks[j])[q]]
theorem cnt_next {xs : List ByteArray} {L : List Nat} {s : ByteArray} (hs : s ∈ xs) (t : ByteArray) : (if t = s then L.count (Lh.ixT xs s) + 1 else L.count (Lh.ixT xs t)) = (L ++ [Lh.ixT xs s]).count (Lh.ixT xs t) := by
  by_cases e : t = s
  · subst e
    simp [List.count_append]
  · rw [if_neg e, List.count_append]
    have hne : Lh.ixT xs s ≠ Lh.ixT xs t := by
      intro e2
      by_cases ht : t ∈ xs
      · exact e (Lh.ixT_inj hs ht e2).symm
      · have h1 := Lh.ixT_lt hs
        have h2 : ∃ x ∈ xs, decide (x = t) = true := List.findIdx_lt_length.1 (show Lh.ixT xs t < xs.length by omega)
        obtain ⟨x, hx, he⟩ := h2
        have he' : x = t := by simpa using he
        subst he'
        exact ht hx
    simp [hne]

set_option maxRecDepth 100000 in
set_option maxHeartbeats 4000000 in
theorem place_core (R : (Nat → List ByteArray) → (Nat → List Nat) → Prop) (a : Nat → Addr) (b o cap : Nat) (kp : Option Addr) (kc : Nat) (xs : List ByteArray) (ks : List Nat) (c p : Nat) (w : World) (he : Errs4 a w) (hx : ∀ k (h : k < xs.length), w.cell? ⟨b, o + k, none⟩ = some (.string xs[k])) (hs : ∀ k (h : k < xs.length), (xs[k]).size ≤ 300) (h0 : 0 < xs.length) (h12 : xs.length ≤ 12) (hn : xs.Nodup)
    (hk : KeysAt w kp ks) (hk5 : ks.length ≤ 500) (hkn : ks.Nodup) (hz : ∀ z ∈ ks, z < 18446744073709551616) (hp : p ≤ 100)
    (hnew : Calls Tryd.prog 24 #[.slice (some ⟨b, o, none⟩) xs.length cap, .int .i64 (c : Nat)] w fun e w' => ∃ rb Dz PL, e = .returned (.tuple #[.pointer (some ⟨rb, 0, none⟩), .nilIface]) ∧ R Dz PL ∧ PlG xs ks (Lh.capN ks.length xs.length p) Dz PL ∧ (∀ W, Below w'.heap.size w' W → ∀ z : Nat, Calls Tryd.prog 33 #[.pointer (some ⟨rb, 0, none⟩), .int .u64 (z : Nat), .int .i64 xs.length] W fun e w'' => ∃ v, e = .returned v ∧ Strs1 w'' v (Dz z) ∧ Below W.heap.size W w'') ∧ Below w.heap.size w w') :
    Calls Tryd.prog 18 #[.slice (some ⟨b, o, none⟩) xs.length cap, .int .i64 (c : Nat), .slice kp ks.length kc, .int .i64 (p : Nat)] w fun e w' => ∃ Dz PL v', e = .returned (.tuple #[v', .nilIface]) ∧ R Dz PL ∧ Ints w' v' ((PL ks.length).map fun (n : Nat) => ((n : Nat) : Int)) ∧ Below w.heap.size w w' := by
  obtain ⟨i, hi, hz0, hz1, hz2⟩ := info_parts infoI
  have HX : Hid (∀ k (h : k < xs.length), w.cell? ⟨b, o + k, none⟩ = some (.string xs[k])) := hx
  have HS : Hid (∀ k (h : k < xs.length), (xs[k]).size ≤ 300) := hs
  have HN : Hid (xs.Nodup) := hn
  have HK : Hid (KeysAt w kp ks) := hk
  have HKN : Hid (ks.Nodup) := hkn
  have HZ : Hid (∀ z ∈ ks, z < 18446744073709551616) := hz
  have HE : Hid (Errs4 a w) := he
  have hC1000 := Lh.capN_le (K := ks.length) (p := p) h0 hk5 hp
  have HCAP : Hid (∀ W, Calls Tryd.prog 22 #[.int .i64 (ks.length : Nat), .int .i64 (xs.length : Nat), .int .i64 (p : Nat)] W fun e w' => e = .returned (.tuple #[.int .i64 (Lh.capN ks.length xs.length p : Nat), .nilIface]) ∧ Below W.heap.size W w') := fun W => fcap_good ks.length xs.length p W hk5 h0 h12 hp
  generalize Lh.capN ks.length xs.length p = most at *
  clear hx hs hn hk hkn hz he
  have hbyt : i.bytes * ks.length ≤ 281474976710656 := by rw [hz2]; omega
  have hmax : ks.length ≤ maxLen := by unfold maxLen; omega
  go_enter Tryd.func18, Tryd.ntmps18
  go_wp2_with fail
  refine hnew.mono ?_
  rintro e w1 ⟨rb, Dz, PL, rfl, hR, hPG, hnext, hb1⟩
  have HR : Hid (R Dz PL) := hR
  have HPG : Hid (PlG xs ks most Dz PL) := hPG
  have HNX : Hid (∀ W, Below w1.heap.size w1 W → ∀ z : Nat, Calls Tryd.prog 33 #[.pointer (some ⟨rb, 0, none⟩), .int .u64 (z : Nat), .int .i64 xs.length] W fun e w'' => ∃ v, e = .returned v ∧ Strs1 w'' v (Dz z) ∧ Below W.heap.size W w'') := hnext
  clear hnew hR hPG hnext
  go_wp2_with fail
  refine (HCAP.out _).mono ?_
  rintro e w2 ⟨rfl, hb2⟩
  have hbw2 : Below w.heap.size w w2 := below_then hb1 hb2
  go_wp2_with fail
  refine (once_any a kp kc ks w2 (HE.out.later hbw2) (HK.out.later hbw2) (by omega) HZ.out 0 (-1) (Or.inl ⟨HKN.out, rfl, rfl⟩)).mono ?_
  rintro e w3 ⟨ev, rfl, hev, hb3⟩
  obtain rfl := err0 hev
  have hbw3 : Below w.heap.size w w3 := below_then hbw2 hb3
  clear hev
  go_wp2_with fail
  refine (numbersOf_any b o cap xs w3 (fun k h => below_cell hbw3 (HX.out k h)) h12 HN.out HS.out).mono ?_
  rintro e w4 ⟨nb, rfl, hnm, hb4⟩
  have hbw4 : Below w.heap.size w w4 := below_then hbw3 hb4
  have hb14 : Below w1.heap.size w1 w4 := below_then (below_then hb2 hb3) hb4
  have HNM : Hid (NumMap w4 nb xs.length (numF xs xs.length)) := hnm
  have hmm := fmakeN w4 xs.length
  have hnmlt := hnm.lt
  clear hnm hb2 hb3 hb4 hbw2 hbw3
  go_wp2_with (at_make; refine wpList_make_full _ rfl _ _ 24 rfl (w4.heap.size + 1) 3 i _ 1 Tryd.underlying24 hi hz0 hz1 _ _ _ _ ks.length rfl rfl rfl rfl hbyt hmax (by simp) ?_)
  intro w5 hown hgrow
  have hba : Below w4.heap.size w4 (w4.alloc (.map #[] 0)) := (Below.refl _ _).alloc (Nat.le_refl _) _
  have hsa : (w4.alloc (.map #[] 0)).heap.size = w4.heap.size + 1 := by simp
  have hb5 : Below w4.heap.size w4 w5 := hba.grown hgrow (by rw [hsa]; omega) (fun k h => by cases h)
  have hM5 : NumMap w5 w4.heap.size 0 fun s => (PL 0).count (Lh.ixT xs s) := by
    refine NumMap.congr ((NumMap.made w4).same ?_) fun t => by rw [HPG.out.zero]; simp
    exact hgrow.block _ (by rw [hsa]; omega) (fun h => by cases h)
  rw [made_ints2, ← intsZ_nil, ← HPG.out.zero] at hown
  have hrow5 := IntRow.of_owns hown
  clear hown hgrow hmm hba hsa
  go_wp2_with fail
  go_loopw [56] (fun t W => Below w4.heap.size w4 W ∧ ∃ j : Nat, j ≤ ks.length ∧ t = .int .i64 j ∧ NumMap W w4.heap.size j (fun s => (PL j).count (Lh.ixT xs s)) ∧ IntRow W (w4.heap.size + 1) (intsZ (PL j) ks.length)) (fun t _ => ks.length - (intOf t).toNat)
  case atStart => exact ⟨hb5, 0, Nat.zero_le _, rfl, hM5, hrow5⟩
  case round =>
    obtain ⟨hb, j, hj, rfl, hM, hrow⟩ := hrel
    obtain ⟨wo, hwo⟩ : ∃ wo, wo = wr := ⟨_, rfl⟩
    subst hwo
    have HM : Hid (NumMap wo w4.heap.size j (fun s => (PL j).count (Lh.ixT xs s))) := hM
    have HRW : Hid (IntRow wo (w4.heap.size + 1) (intsZ (PL j) ks.length)) := hrow
    clear hM hrow hM5 hrow5 hb5
    by_cases hlt : j < ks.length
    · obtain ⟨bk, ok, rfl, hck⟩ := HK.out j hlt
      have cx := below_cell (below_then hbw4 hb) hck
      have hnx := HNX.out wo (below_then hb14 hb) ks[j]
      obtain ⟨q, hq, hfull, hfree, hsucc⟩ := HPG.out.step j hlt
      have hdl := HPG.out.dlen ks[j]
      have hdm := HPG.out.dmem ks[j]
      have hji : (j : Int) < (ks.length : Int) := by omega
      generalize ks[j] = z at *
      generalize Dz z = D at *
      have HFU : Hid (∀ k (h : k < D.length), k < q → most ≤ (PL j).count (Lh.ixT xs D[k])) := hfull
      have HFR : Hid ((PL j).count (Lh.ixT xs D[q]) < most) := hfree
      have HSU : Hid (PL (j + 1) = PL j ++ [Lh.ixT xs D[q]]) := hsucc
      have HDM : Hid (∀ s ∈ D, s ∈ xs) := hdm
      clear hfull hfree hsucc hdm hck
      go_wp2_with fail
      refine hnx.mono ?_
      rintro e w6 ⟨v6, rfl, hv6, hb6⟩
      obtain ⟨b6, o6, c6, rfl, hc6⟩ := strsPos hv6 (by omega)
      have hD3 : ∀ k (h : k < D.length), (D[k]).size ≤ 300 := fun k h => by
        obtain ⟨m, hm, e⟩ := List.getElem_of_mem (HDM.out _ (List.getElem_mem h))
        rw [← e]
        exact HS.out m hm
      have hfb := firstBelow_any w4.heap.size j most (fun s => (PL j).count (Lh.ixT xs s)) b6 o6 c6 D hD3 hdl q hq HFU.out HFR.out w6 hc6 (HM.out.later hb6)
      have hsz := hD3 q hq
      have hmem := HDM.out _ (List.getElem_mem hq)
      have HDQ : Hid (D[q] ∈ xs) := hmem
      have hcnt : (PL j).count (Lh.ixT xs D[q]) ≤ 500 := Nat.le_trans List.count_le_length (by rw [HPG.out.len j hj]; omega)
      have hixl := Lh.ixT_lt hmem
      clear hnx hv6 hc6 hD3 hmem
      obtain ⟨s, hse⟩ : ∃ s, D[q] = s := ⟨_, rfl⟩
      rw [hse] at hfb hsz HDQ HSU hcnt hixl
      clear hse HFU HFR HDM
      go_wp2_with fail
      refine hfb.mono ?_
      rintro e w7 ⟨rfl, hb7⟩
      have hbo7 : Below wo.heap.size wo w7 := below_then hb6 hb7
      have hM7 := HM.out.later hbo7
      have hl7 := hM7.look s hsz
      obtain ⟨Dm, hom, hDm⟩ := hM7
      have HDm : Hid (NumD Dm (fun s => (PL j).count (Lh.ixT xs s))) := hDm
      have HR7 : Hid (IntRow w7 (w4.heap.size + 1) (intsZ (PL j) ks.length)) := HRW.out.later hbo7
      have hbw7 : Below w4.heap.size w4 w7 := below_then hb hbo7
      have hkey := fkeyS s hsz
      obtain ⟨n, hne⟩ : ∃ n, (PL j).count (Lh.ixT xs s) = n := ⟨_, rfl⟩
      have HNE : Hid ((PL j).count (Lh.ixT xs s) = n) := hne
      simp only [hne] at hl7 hcnt
      clear hfb hDm hne
      have hpl := plainElem_int (H := Unit) (a := (n : Int) + 1) Tryd.underlying3 (by have := wfI (n := n + 1) (by omega); simpa using this)
      have hjm : j < maxLen := by unfold maxLen; omega
      go_wp2_with (at_mapUpdate; refine wpList_mapUpdate_own _ rfl _ _ _ 65 rfl 9 3 (string_keyed Tryd.underlying9) Tryd.underlying65 (plainElem Tryd.prog 3) w4.heap.size j Dm rfl hom hjm _ _ (.string s.data.toList) rfl rfl hkey (.lit (.int .i64 ((n : Int) + 1))) [] hpl ?_)
      intro w8 hown8 hgr8
      have hbw8 : Below w4.heap.size w4 w8 := hbw7.grown hgr8 hbw7.size (fun k h => by cases h; exact Nat.le_refl _)
      have hr7lt := HR7.out.lt
      have hr8 : IntRow w8 (w4.heap.size + 1) (intsZ (PL j) ks.length) := HR7.out.same (hgr8.block _ hr7lt (fun h => by have := Option.some.inj h; omega))
      have hM8 : NumMap w8 w4.heap.size (j + 1) fun s => (PL (j + 1)).count (Lh.ixT xs s) := by
        have e : ((n : Int) + 1) = ((n + 1 : Nat) : Int) := by omega
        rw [e] at hown8
        refine NumMap.congr ⟨_, hown8, HDm.out.put s (n + 1)⟩ fun t => ?_
        rw [HSU.out, ← cnt_next HDQ.out t, HNE.out]
      have hN8 := HNM.out.later hbw8
      have hl8 := hN8.look s hsz
      rw [numF_last HDQ.out] at hl8
      have hpl8 := HPG.out.len j hj
      obtain ⟨u8, c8⟩ : ∃ u : Int, w8.cell? ⟨w4.heap.size + 1, j, none⟩ = some (.int .i64 u) := ⟨_, hr8.cell (k := j) (by rw [intsZ_len _ _ (by omega)]; exact hlt)⟩
      have f8 := hr8.frozen j
      have HM8 : Hid (NumMap w8 w4.heap.size (j + 1) fun s => (PL (j + 1)).count (Lh.ixT xs s)) := hM8
      have HR8 : Hid (IntRow w8 (w4.heap.size + 1) (intsZ (PL j) ks.length)) := hr8
      have HP8 : Hid ((PL j).length = j) := hpl8
      obtain ⟨g, hge⟩ : ∃ g, Lh.ixT xs s = g := ⟨_, rfl⟩
      have HGE : Hid (Lh.ixT xs s = g) := hge
      rw [hge] at hl8
      clear hM8 hr8 hN8 hown8 hgr8 hom hl7 hpl hkey hpl8 hge
      go_wp2_with fail
      go_roundw
      case rel =>
        refine ⟨hbw8.setCell (by simp) _, j + 1, by omega, by go_num, HM8.out.same (Below.heap_setCell _ _ _ _ (by simp)), ?_⟩
        have h1 := HR8.out.set j ((g : Nat) : Int)
        have h2 := intsZ_snoc (PL j) ks.length g (by rw [HP8.out]; exact hlt)
        rw [HP8.out] at h2
        rw [h2] at h1
        rw [HSU.out, HGE.out]
        exact h1
      case measure => simp [intOf]; omega
    · have hji : decide ((j : Int) < (ks.length : Int)) = false := by simp; omega
      obtain rfl : j = ks.length := by omega
      have HI : Hid (IntRow wo (w4.heap.size + 1) ((PL ks.length).map fun (n : Nat) => ((n : Nat) : Int))) := by
        have h1 := HRW.out
        have h2 := intsZ_full (PL ks.length)
        rw [HPG.out.len _ (Nat.le_refl _)] at h2
        rw [h2] at h1
        exact h1
      have hlen := HPG.out.len _ (Nat.le_refl ks.length)
      have HLEN : Hid ((PL ks.length).length = ks.length) := hlen
      clear hlen
      go_wp2
      go_ret2
      refine ⟨Dz, PL, _, rfl, HR.out, ?_, below_then hbw4 hb⟩
      have h1 := HI.out.ints ks.length
      rw [List.length_map, HLEN.out] at h1
      exact h1
end Go.Proofs.YtepclafmkhphbabDoor

/- The landed Place, where something is wrong: over what New gives. -/
namespace Go.Proofs.YtepclafmkhphbabDoor
open Go.RowKit Go.Maps Go.ChangeMaps

set_option maxHeartbeats 1000000 in
theorem place_bad1 (a : Nat → Addr) (v kv : Value) (n pc : Int) (w : World) (c : Nat) (pl : Int) (hc : c ≠ 0)
    (hnew : Calls Tryd.prog 24 #[v, .int .i64 n] w fun e w' => ∃ ev, e = .returned (.tuple #[.pointer none, ev]) ∧ ErrIs a w' c pl ev ∧ Below w.heap.size w w') :
    Calls Tryd.prog 18 #[v, .int .i64 n, kv, .int .i64 pc] w fun e w' => ∃ ev, e = .returned (.tuple #[.slice none 0 0, ev]) ∧ ErrIs a w' c pl ev ∧ Below w.heap.size w w' := by
  go_enter Tryd.func18, Tryd.ntmps18
  go_wp2_with fail
  refine hnew.mono ?_
  rintro e w1 ⟨ev, rfl, hev, hb1⟩
  have HEV : Hid (ErrIs a w1 c pl ev) := hev
  obtain ⟨t, x, rfl⟩ := errPos hev hc
  clear hev hnew
  go_wp2
  go_ret2
  exact ⟨_, rfl, HEV.out, hb1⟩

set_option maxHeartbeats 1000000 in
theorem place_bad2 (a : Nat → Addr) (p kp : Option Addr) (m cap l kc : Nat) (n pc : Int) (w : World) (he : Errs4 a w) (_hl : l < 1000) (_hm : m < 1000) (hbad : ¬ CapIn (l : Nat) (m : Nat) pc)
    (hnew : Calls Tryd.prog 24 #[.slice p m cap, .int .i64 n] w fun e w' => ∃ rb, e = .returned (.tuple #[.pointer (some ⟨rb, 0, none⟩), .nilIface]) ∧ Below w.heap.size w w') :
    Calls Tryd.prog 18 #[.slice p m cap, .int .i64 n, .slice kp l kc, .int .i64 pc] w fun e w' => ∃ ev, e = .returned (.tuple #[.slice none 0 0, ev]) ∧ ErrIs a w' 2 (-1) ev ∧ Below w.heap.size w w' := by
  have HE : Hid (Errs4 a w) := he
  have HB : Hid (¬ CapIn (l : Nat) (m : Nat) pc) := hbad
  clear he hbad
  go_enter Tryd.func18, Tryd.ntmps18
  go_wp2_with fail
  refine hnew.mono ?_
  rintro e w1 ⟨rb, rfl, hb1⟩
  clear hnew
  go_wp2_with fail
  refine (fcap_bad a l m pc w1 (HE.out.later hb1).one HB.out).mono ?_
  rintro e w2 ⟨rfl, hb2⟩
  go_wp2
  go_ret2
  exact ⟨_, rfl, Or.inr ⟨1, by decide, rfl, Or.inl ⟨rfl, rfl⟩⟩, below_then hb1 hb2⟩

set_option maxHeartbeats 1000000 in
theorem place_bad3 (a : Nat → Addr) (p kp : Option Addr) (m cap kc : Nat) (ks : List Nat) (n : Int) (pc : Nat) (w : World) (he : Errs4 a w) (hl : ks.length ≤ 500) (hm1 : 1 ≤ m) (hm : m ≤ 12) (hpc : pc ≤ 100) (hk : KeysAt w kp ks) (hz : ∀ z ∈ ks, z < 18446744073709551616) (cc : Nat) (pl : Int) (hkf : Lh.KeyFault ks cc pl) (hcc : cc ≠ 0)
    (hnew : Calls Tryd.prog 24 #[.slice p m cap, .int .i64 n] w fun e w' => ∃ rb, e = .returned (.tuple #[.pointer (some ⟨rb, 0, none⟩), .nilIface]) ∧ Below w.heap.size w w') :
    Calls Tryd.prog 18 #[.slice p m cap, .int .i64 n, .slice kp ks.length kc, .int .i64 (pc : Nat)] w fun e w' => ∃ ev, e = .returned (.tuple #[.slice none 0 0, ev]) ∧ ErrIs a w' cc pl ev ∧ Below w.heap.size w w' := by
  have HE : Hid (Errs4 a w) := he
  have HK : Hid (KeysAt w kp ks) := hk
  have HZ : Hid (∀ z ∈ ks, z < 18446744073709551616) := hz
  have HKF : Hid (Lh.KeyFault ks cc pl) := hkf
  have HCAP : Hid (∀ W, Calls Tryd.prog 22 #[.int .i64 (ks.length : Nat), .int .i64 (m : Nat), .int .i64 (pc : Nat)] W fun e w' => e = .returned (.tuple #[.int .i64 (Lh.capN ks.length m pc : Nat), .nilIface]) ∧ Below W.heap.size W w') := fun W => fcap_good ks.length m pc W hl hm1 hm hpc
  generalize Lh.capN ks.length m pc = most at *
  clear he hk hz hkf
  go_enter Tryd.func18, Tryd.ntmps18
  go_wp2_with fail
  refine hnew.mono ?_
  rintro e w1 ⟨rb, rfl, hb1⟩
  clear hnew
  go_wp2_with fail
  refine (HCAP.out _).mono ?_
  rintro e w2 ⟨rfl, hb2⟩
  have hbw2 : Below w.heap.size w w2 := below_then hb1 hb2
  go_wp2_with fail
  refine (once_any a kp kc ks w2 (HE.out.later hbw2) (HK.out.later hbw2) (by omega) HZ.out cc pl HKF.out).mono ?_
  rintro e w3 ⟨ev, rfl, hev, hb3⟩
  have HEV : Hid (ErrIs a w3 cc pl ev) := hev
  obtain ⟨t, x, rfl⟩ := errPos hev hcc
  clear hev
  go_wp2
  go_ret2
  exact ⟨_, rfl, HEV.out, below_then hbw2 hb3⟩
end Go.Proofs.YtepclafmkhphbabDoor

/- The landed fill.Cap and fill.Place do what filling asks. -/
namespace Go.Proofs.YtepclafmkhphbabDoor
open Go.RowKit

theorem plG_of {c : Nat} {xs : List ByteArray} {P : List Lh.Pt} {ks : List Nat} {p : Nat} (hI : Lh.IsRing c xs P) (hc : 0 < c) (hn : xs.Nodup) (h0 : 0 < xs.length) (h12 : xs.length ≤ 12) : PlG xs ks (Lh.capN ks.length xs.length p) (fun z => Lh.hostsF (Lh.turn z) P) (plc xs P (Lh.capN ks.length xs.length p) ks) where
  zero := plc_zero _ _ _ _
  len := plc_len hI hc hn h0
  lt := plc_mem hI hc
  dlen := fun z => Nat.le_trans (hosts_len hI hc z) h12
  dmem := fun z s h => (Lh.ring_mem hI hc _ s).1 h
  step := fun j hj => by
    obtain ⟨h, e1, e2⟩ := plc_one (p := p) hI hc hn h0 hj
    rw [List.find?_eq_some_iff_getElem] at e1
    obtain ⟨hfree, q, hq, e3, hfull⟩ := e1
    unfold ordN at hq e3 hfull
    have hq' : q < (Lh.hostsF (Lh.turn ks[j]) P).length := by simpa using hq
    simp only [List.getElem_map] at e3
    refine ⟨q, hq', fun k hk hkq => ?_, ?_, ?_⟩
    · have h1 := hfull k hkq
      simp only [List.getElem_map] at h1
      simpa using h1
    · rw [e3]
      simpa using hfree
    · rw [e3]
      exact e2
/-- The landed functions' contracts hold. -/
theorem fillC : FillC where
  capG := fcap_good
  capB := fcap_bad
  placeG := fun a v kv xs ks c p W he hv hk h0 hf hs hk5 hn hz hc1 hc hp => by
    have hnew := new_good a v xs c W he hv h0 hf hs hc1 hc
    obtain ⟨b, o, cap, rfl, hx⟩ := strsPos hv h0
    obtain ⟨kp, kc, rfl, hka⟩ := hk.at
    obtain ⟨_, h12, hxn⟩ := fault0 hf
    refine (place_core (fun _ PL => ∃ P, Lh.IsRing c xs P ∧ PL = plc xs P (Lh.capN ks.length xs.length p) ks) a b o cap kp kc xs ks c p W he hx hs h0 h12 hxn hka hk5 hn hz hp (hnew.mono ?_)).mono ?_
    · rintro e w' ⟨rb, blk, cp, P, rfl, hR, hI, hb⟩
      obtain ⟨hp0, hpl⟩ := ring_pos hI h0 h12 hc1 hc
      refine ⟨rb, fun z => Lh.hostsF (Lh.turn z) P, plc xs P (Lh.capN ks.length xs.length p) ks, rfl, ⟨P, hI, rfl⟩, plG_of hI hc1 hxn h0 h12, fun W' hW z => ?_, hb⟩
      have h1 := next_any rb blk cp P z xs.length (by omega) W' (hR.later hW) hI.2 hpl hp0
      rw [Int.toNat_natCast, List.take_of_length_le (hosts_len hI hc1 z)] at h1
      exact h1
    · rintro e w' ⟨Dz, PL, v', rfl, ⟨P, hI, rfl⟩, hi, hb⟩
      exact ⟨P, v', hI, rfl, hi, hb⟩
  placeB := fun a v kv xs ks n pc W cc pl he hv hk hf hc hs hm hkl hz => by
    have hs' : ∀ k (h : k < xs.length), (xs[k]).size ≤ 1000000 := fun k h => Nat.le_trans (hs k h) (by decide)
    rcases hf with ⟨_, h⟩ | ⟨h, hi, rfl, rfl⟩ | ⟨h, ⟨_, h2, _, _, h5, h6⟩, hkf⟩
    · exact place_bad1 a v kv n pc W cc pl hc (new_bad a v xs n W cc pl he hv h hc hs' (by omega))
    · obtain ⟨_, h0, hf0, c, rfl, hc1, hc16⟩ := rngFault_zero h
      have hnew := new_good a v xs c W he hv h0 hf0 hs hc1 hc16
      obtain ⟨b, o, cap, rfl, _⟩ := strsPos hv h0
      obtain ⟨kp, kc, rfl, _⟩ := hk.at
      exact place_bad2 a _ kp xs.length cap ks.length kc c pc W he hkl hm hi (hnew.mono fun e w' ⟨rb, _, _, _, h1, _, _, h2⟩ => ⟨rb, h1, h2⟩)
    · obtain ⟨_, h0, hf0, c, rfl, hc1, hc16⟩ := rngFault_zero h
      obtain ⟨p, rfl⟩ := Int.eq_ofNat_of_zero_le h5
      have hnew := new_good a v xs c W he hv h0 hf0 hs hc1 hc16
      obtain ⟨b, o, cap, rfl, _⟩ := strsPos hv h0
      obtain ⟨kp, kc, rfl, hka⟩ := hk.at
      exact place_bad3 a _ kp xs.length cap kc ks c p W he (by omega) h0 (fault0 hf0).2.1 (by omega) hka hz cc pl hkf hc (hnew.mono fun e w' ⟨rb, _, _, _, h1, _, _, h2⟩ => ⟨rb, h1, h2⟩)
end Go.Proofs.YtepclafmkhphbabDoor
