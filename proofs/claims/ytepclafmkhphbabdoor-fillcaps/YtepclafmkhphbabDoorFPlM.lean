/- The reference's PlaceOf. -/
import Derived.Test.YtepclafmkhphbabDoorFCap
import Derived.Test.YtepclafmkhphbabDoorRIdx
import Derived.Test.YtepclafmkhphbabDoorRNext
import Derived.Test.YtepclafmkhphbabDoorRRef2
import Derived.Test.YtepclafmkhphbabDoorRKeys
import Derived.Test.YtepclafmkhphbabDoorRinged
import Derived.Test.YtepclafmkhphbabDoorBlkI
import Derived.Test.YtepclafmkhphbabDoorKeysI
import Derived.Maps.AppendAt
import Derived.Test.YtepclafmkhphbabDoorCode
namespace Go.Proofs.YtepclafmkhphbabDoor
open Go.RowKit

/-- the hosts of a key, as numbers -/
def ordN (xs : List ByteArray) (P : List Lh.Pt) (z : Nat) : List Nat := (Lh.hostsF (Lh.turn z) P).map (Lh.ixT xs)
/-- where the first j keys go -/
def plc (xs : List ByteArray) (P : List Lh.Pt) (most : Nat) (ks : List Nat) (j : Nat) : List Nat := Lh.places most ((ks.take j).map (ordN xs P))
theorem plc_zero (xs : List ByteArray) (P : List Lh.Pt) (most : Nat) (ks : List Nat) : plc xs P most ks 0 = [] := rfl
theorem plc_succ (xs : List ByteArray) (P : List Lh.Pt) (most : Nat) (ks : List Nat) {j : Nat} (h : j < ks.length) : plc xs P most ks (j + 1) = Lh.put1 most (plc xs P most ks j) (ordN xs P ks[j]) := by
  unfold plc
  rw [List.take_succ_eq_append_getElem h, List.map_append, List.map_singleton, Lh.places_snoc]
def intsN (l : List Nat) : List Int := l.map fun (n : Nat) => ((n : Nat) : Int)
/-- a block of two numbers -/
structure TwoAt (W : World) (g : Nat) (x y : Int) : Prop where
  c0 : W.cell? ⟨g, 0, none⟩ = some (.int .i64 x)
  c1 : W.cell? ⟨g, 1, none⟩ = some (.int .i64 y)
  f0 : W.frozen? ⟨g, 0, none⟩ = false
  f1 : W.frozen? ⟨g, 1, none⟩ = false
theorem TwoAt.lt {W : World} {g : Nat} {x y : Int} (h : TwoAt W g x y) : g < W.heap.size := World.block_lt_of_cell? W ⟨g, 0, none⟩ h.c0
theorem TwoAt.later {W W' : World} {g : Nat} {x y : Int} (h : TwoAt W g x y) (hb : Below W.heap.size W W') : TwoAt W' g x y :=
  ⟨below_cell hb h.c0, below_cell hb h.c1, by rw [hb.frozen h.lt]; exact h.f0, by rw [hb.frozen h.lt]; exact h.f1⟩
theorem drew_cell {w : World} {a : Addr} {v : Value} (h : w.cell? a = some v) (n : Nat) : (w.drewN n).cell? a = some v := h
theorem drew_frozen {w : World} {a : Addr} {f : Bool} (h : w.frozen? a = f) (n : Nat) : (w.drewN n).frozen? a = f := h
theorem TwoAt.made (w : World) (x y : Int) (t : TypeId) : TwoAt (w.alloc (.cells #[.int .i64 x, .int .i64 y] t)) w.heap.size x y := ⟨by simp, by simp, by simp, by simp⟩

set_option maxRecDepth 100000 in
set_option maxHeartbeats 4000000 in
theorem placeOf_main (b o cap : Nat) (kp : Option Addr) (kc : Nat) (xs : List ByteArray) (ks : List Nat) (c p : Nat) (w : World) (hl : Strs1 w (.slice (some ⟨b, o, none⟩) xs.length cap) xs) (hx : ∀ k (h : k < xs.length), w.cell? ⟨b, o + k, none⟩ = some (.string xs[k])) (hs : ∀ k (h : k < xs.length), (xs[k]).size ≤ 300) (h0 : 0 < xs.length) (h12 : xs.length ≤ 12)
    (hk : KeysAt w kp ks) (hk5 : ks.length ≤ 500) (hf : IsFault xs 0 (-1)) (hc1 : 1 ≤ c) (hc : c ≤ 16) (hp : p ≤ 100) (cc : Nat) (pl : Int) (hkf : Lh.KeyFault ks cc pl) (P : List Lh.Pt) (hI : Lh.IsRing c xs P) (hD : ∀ z, (Lh.hostsF (Lh.turn z) P).length ≤ xs.length) :
    Calls Tryd.prog 20 #[.slice (some ⟨b, o, none⟩) xs.length cap, .int .i64 (c : Nat), .slice kp ks.length kc, .int .i64 (p : Nat)] w fun e w' => ∃ v, e = .returned (.tuple #[v, .agg #[.int .i64 cc, .int .i64 pl]]) ∧ ((cc = 0 ∧ Ints w' v (intsN (plc xs P (Lh.capN ks.length xs.length p) ks ks.length))) ∨ (cc ≠ 0 ∧ v = .slice none 0 0)) ∧ Below w.heap.size w w' := by
  obtain ⟨i, hi, hz0, hz1, hz2⟩ := info_parts infoI
  have HL : Hid (Strs1 w (.slice (some ⟨b, o, none⟩) xs.length cap) xs) := hl
  have HX : Hid (∀ k (h : k < xs.length), w.cell? ⟨b, o + k, none⟩ = some (.string xs[k])) := hx
  have HK : Hid (KeysAt w kp ks) := hk
  have HS : Hid (∀ k (h : k < xs.length), (xs[k]).size ≤ 300) := hs
  have HF : Hid (IsFault xs 0 (-1)) := hf
  have HKF : Hid (Lh.KeyFault ks cc pl) := hkf
  clear hl hx hk hs hf hkf
  go_enter Tryd.func20, Tryd.ntmps20
  go_wp2_with fail
  have hb0 : Below w.heap.size w (w.alloc (.cells #[.int .i64 0, .int .i64 0] 46)) := (Below.refl _ _).alloc (Nat.le_refl _) _
  refine (ringFault_any _ xs (c : Nat) _ 0 (-1) (HL.out.later hb0) (Or.inr (Or.inr ⟨h0, HF.out, Or.inr ⟨c, rfl, hc1, hc, rfl⟩, rfl⟩)) (fun k h => Nat.le_trans (HS.out k h) (by decide)) (by omega)).mono ?_
  rintro e w1 ⟨rfl, hb1⟩
  have hT0 : TwoAt w1 w.heap.size 0 0 := (TwoAt.made w 0 0 _).later hb1
  have hb01 : Below w.heap.size w w1 := below_then hb0 hb1
  have hb2 : Below w.heap.size w (w1.alloc (.cells #[.int .i64 0, .int .i64 (-1)] 46)) := hb01.alloc hb01.size _
  have hbA : Below w1.heap.size w1 (w1.alloc (.cells #[.int .i64 0, .int .i64 (-1)] 46)) := (Below.refl _ _).alloc (Nat.le_refl _) _
  have hTR : TwoAt (w1.alloc (.cells #[.int .i64 0, .int .i64 (-1)] 46)) w.heap.size 0 0 := hT0.later hbA
  have hTF := TwoAt.made w1 0 (-1) 46
  have hcap := capOf_good ks.length xs.length p (w1.alloc (.cells #[.int .i64 0, .int .i64 (-1)] 46)) hk5 h0 h12 hp
  obtain ⟨most, hmo⟩ : ∃ m, Lh.capN ks.length xs.length p = m := ⟨_, rfl⟩
  have hm1 := Lh.capN_le (K := ks.length) (p := p) h0 hk5 hp
  rw [hmo] at hcap hm1
  have HMO : Hid (Lh.capN ks.length xs.length p = most) := hmo
  clear hmo hT0 hb0 hb1 hb01 hbA
  go_wp2_with fail
  generalize w1.alloc (.cells #[.int .i64 0, .int .i64 (-1)] 46) = w2 at *
  generalize w1.heap.size = fb at *
  clear w1
  refine hcap.mono ?_
  rintro e w2' ⟨rfl, rfl⟩
  clear hcap
  have hro := ringOf_any b o cap xs c w2' (fun k h => below_cell hb2 (HX.out k h)) (Nat.lt_of_lt_of_le (World.block_lt_of_cell? w ⟨b, o + 0, none⟩ (HX.out 0 h0)) hb2.size) h12 h0 hc1 hc HS.out
  go_wp2_with fail
  refine hro.mono ?_
  rintro e w6 ⟨rm, blkm, capm, rfl, hRm, hb6⟩
  have hbw6 : Below w.heap.size w w6 := below_then hb2 hb6
  have hTR6 := hTR.later hb6
  have hTF6 := hTF.later hb6
  have hptl : (Lh.pts c xs).length < 1000000 := by
    rw [← hI.1.length_eq]
    exact (ring_pos hI h0 h12 hc1 hc).2
  have HREF : Hid (∀ z W, Below w6.heap.size w6 W → Calls Tryd.prog 37 #[.pointer (some ⟨rm, 0, none⟩), .int .u64 (z : Nat), .int .i64 (xs.length : Nat)] W fun e w' => ∃ v, e = .returned v ∧ Strs1 w' v (Lh.hostsF (Lh.turn z) P) ∧ Below W.heap.size W w') := fun z W hW =>
    (nextOf_any rm blkm capm (Lh.pts c xs) (Lh.rot (Lh.turn z) P) z (xs.length : Nat) W (hRm.later hW) ((Lh.rot_perm _ _).trans hI.1) (Lh.rot_sorted hI.2) hptl).mono fun _ _ ⟨v, h1, h2, h3⟩ => ⟨v, h1, by
      have e : (Lh.dd [] (Lh.rot (Lh.turn z) P)).take (Int.toNat ((xs.length : Nat) : Int)) = Lh.hostsF (Lh.turn z) P := List.take_of_length_le (by
        have := hD z
        unfold Lh.hostsF at this
        simp
        omega)
      rw [e] at h2
      exact h2, h3⟩
  clear hro hRm hptl hTR hTF hb6 hb2
  have hbyt : i.bytes * xs.length ≤ 281474976710656 := by rw [hz2]; omega
  have hmax : xs.length ≤ maxLen := by unfold maxLen; omega
  go_wp2_with (at_make; refine wpList_make_full _ rfl _ _ 24 rfl w6.heap.size 3 i _ 1 Tryd.underlying24 hi hz0 hz1 _ _ _ _ xs.length rfl rfl rfl rfl hbyt hmax (Nat.le_refl _) ?_)
  intro w7 hown hgrow
  have hb7 : Below w6.heap.size w6 w7 := below_grown hgrow (fun k h => by cases h)
  rw [made_ints2, ← Lh.hasL_nil] at hown
  have hrow0 := IntRow.of_owns hown
  clear hown hgrow
  obtain ⟨r, hr⟩ : ∃ r, w6.heap.size = r := ⟨_, rfl⟩
  rw [hr] at hrow0
  rw [hr]
  have hrle : w6.heap.size ≤ r := by omega
  clear hr
  obtain ⟨PL, hPL⟩ : ∃ PL, plc xs P most ks = PL := ⟨_, rfl⟩
  have HPL : Hid (plc xs P (Lh.capN ks.length xs.length p) ks = PL) := by
    have h1 := hPL
    rw [← HMO.out] at h1
    exact h1
  have HPL0 : Hid (PL 0 = []) := by
    have h1 : PL 0 = [] := by rw [← hPL]; rfl
    exact h1
  have HPLS : Hid (∀ j (h : j < ks.length), PL (j + 1) = Lh.put1 most (PL j) (ordN xs P ks[j])) := fun j h => by rw [← hPL]; exact plc_succ xs P most ks h
  have HPLL : Hid (∀ j, (PL j).length ≤ j) := fun j => by
    rw [← hPL]
    have := Lh.places_len most ((ks.take j).map (ordN xs P))
    rw [List.length_map, List.length_take] at this
    unfold plc
    omega
  clear hPL
  go_wp2_with fail
  go_loopw [15, 16] (fun v t W => Below w6.heap.size w6 W ∧ ∃ j : Nat, j ≤ ks.length ∧ t = .int .i64 j ∧ (ks.take j).Nodup ∧ W.ownsRow (r + 1) 3 1 v (PL j).length ((intsN (PL j)).map (Value.int .i64)) ∧ IntRow W r (Lh.hasL xs.length (PL j))) (fun _ t _ => ks.length - (intOf t).toNat)
  case atStart => exact ⟨hb7, 0, Nat.zero_le _, rfl, by simp, by rw [HPL0.out]; exact World.ownsRow_nil _ _ _ _, by rw [HPL0.out]; exact hrow0⟩
  case round =>
    obtain ⟨hb, j, hj, rfl, hnd, hown, hrow⟩ := hrel
    obtain ⟨wo, hwo⟩ : ∃ wo, wo = wr := ⟨_, rfl⟩
    subst hwo
    obtain ⟨vo, hvo⟩ : ∃ vo, vo = u15 := ⟨_, rfl⟩
    subst hvo
    have HR : Hid (IntRow wo r (Lh.hasL xs.length (PL j))) := hrow
    have HO : Hid (wo.ownsRow (r + 1) 3 1 vo (PL j).length ((intsN (PL j)).map (Value.int .i64))) := hown
    have HND : Hid ((ks.take j).Nodup) := hnd
    have hbw : Below w.heap.size w wo := below_then hbw6 hb
    clear hrow0 hrow hown hnd
    by_cases hlt : j < ks.length
    · obtain ⟨bk, ok, hpp, hck⟩ := HK.out j hlt
      subst hpp
      have HKC : Hid (∀ a (h : a < ks.length), wo.cell? ⟨bk, ok + a, none⟩ = some (.int .u64 (ks[a] : Nat))) := fun a h => by
        obtain ⟨b', o', e, hc'⟩ := HK.out a h
        cases e
        exact below_cell hbw hc'
      clear hck
      have hji : (j : Int) < (ks.length : Int) := by omega
      go_wp2_with fail
      go_loopw [17] (fun t W => Below wo.heap.size wo W ∧ ∃ k : Nat, k ≤ j ∧ t = .int .i64 k ∧ ∀ a (h : a < ks.length), a < k → ks[a] ≠ ks[j]) (fun t _ => j - (intOf t).toNat)
      case atStart => exact ⟨Below.refl _ _, 0, Nat.zero_le _, rfl, fun a _ h => absurd h (by omega)⟩
      case round =>
        obtain ⟨hbi, k, hk, rfl, hdf⟩ := hrel
        obtain ⟨wi, hwi⟩ : ∃ wi, wi = wr := ⟨_, rfl⟩
        subst hwi
        have HDF : Hid (∀ a (h : a < ks.length), a < k → ks[a] ≠ ks[j]) := hdf
        clear hdf
        by_cases hkj : k < j
        · have hkl : k < ks.length := by omega
          have hkli : (k : Int) < (ks.length : Int) := by omega
          have c1 := below_cell hbi (HKC.out k hkl)
          have c2 := below_cell hbi (HKC.out j hlt)
          by_cases heq : ks[k] = ks[j]
          · have HM : Hid (cc = 6 ∧ pl = j) := Lh.keyFault_at HKF.out hlt HND.out (by rw [← heq]; rw [List.mem_take_iff_getElem]; exact ⟨k, by omega, rfl⟩)
            generalize ks[k] = x at *
            generalize ks[j] = y at *
            have he : ((x : Int) == (y : Int)) = true := by simp [heq]
            clear heq
            go_wp2_with fail
            go_quiet (fail)
            have hTq : TwoAt (wi.drewN nq) w.heap.size 0 0 := hTR6.later (below_then hb (below_drewN hbi nq))
            have hbq : Below w.heap.size w (wi.drewN nq) := below_then hbw (below_drewN hbi nq)
            generalize wi.drewN nq = wq at *
            obtain ⟨q0, q1, g0, g1⟩ := hTq
            go_wp2_with fail
            exact bodyPost_ret (v := .tuple #[.slice none 0 0, .agg #[.int .i64 6, .int .i64 (j : Nat)]]) (by simp [results, Tryd.results20, go_sem, q0, q1]) rfl ⟨_, by rw [HM.out.1, HM.out.2]; rfl, Or.inr ⟨by rw [HM.out.1]; decide, rfl⟩, (hbq.setCell (Nat.le_refl _) _).setCell (Nat.le_refl _) _⟩
          · have HNE : Hid (ks[k] ≠ ks[j]) := heq
            have HDN : Hid (∀ a (h : a < ks.length), a < k + 1 → ks[a] ≠ ks[j]) := fun a h hak => by
              by_cases e : a = k
              · subst e; exact HNE.out
              · exact HDF.out a h (by omega)
            generalize ks[k] = x at *
            generalize hyy : ks[j] = y at *
            have he : ((x : Int) == (y : Int)) = false := by rw [beq_eq_false_iff_ne]; omega
            clear heq
            go_wp2_with fail
            go_quiet (fail)
            go_wp2
            exact ⟨⟨below_drewN hbi nq, k + 1, by omega, by go_num, by subst hyy; exact HDN.out⟩, by simp [intOf]; omega⟩
        · have hkj2 : decide ((k : Int) < (j : Int)) = false := by simp; omega
          obtain rfl : k = j := by omega
          have HNM : Hid (¬ ks[k] ∈ ks.take k) := fun hm => by
            rw [List.mem_take_iff_getElem] at hm
            obtain ⟨a, ha, e⟩ := hm
            exact HDF.out a (by omega) (by omega) e
          have HNN : Hid ((ks.take (k + 1)).Nodup) := Lh.take_nodup hlt HND.out HNM.out
          have hbo : Below w6.heap.size w6 wi := below_then hb hbi
          have cj := below_cell hbi (HKC.out k hlt)
          have HRi : Hid (IntRow wi r (Lh.hasL xs.length (PL k))) := HR.out.later hbi
          have HOi : Hid (wi.ownsRow (r + 1) 3 1 vo (PL k).length ((intsN (PL k)).map (Value.int .i64))) := ownsRow_below HO.out hbi
          go_wp2_with fail
          refine (HREF.out ks[k] _ hbo).mono ?_
          rintro e w8 ⟨v8, rfl, hv8, hb8⟩
          have hbw8 : Below w6.heap.size w6 w8 := below_then hbo hb8
          have HR8 : Hid (IntRow w8 r (Lh.hasL xs.length (PL k))) := HRi.out.later hb8
          have HO8 : Hid (w8.ownsRow (r + 1) 3 1 vo (PL k).length ((intsN (PL k)).map (Value.int .i64))) := ownsRow_below HOi.out hb8
          have hPS := HPLS.out k hlt
          unfold ordN at hPS
          have hDm : ∀ s ∈ Lh.hostsF (Lh.turn ks[k]) P, s ∈ xs := fun s hs => (Lh.ring_mem hI (by omega) _ s).1 hs
          have hDl := hD ks[k]
          have hD0 : 0 < (Lh.hostsF (Lh.turn ks[k]) P).length := List.length_pos_of_mem ((Lh.ring_mem hI (by omega) (Lh.turn ks[k]) xs[0]).2 (List.getElem_mem h0))
          have hLL := HPLL.out k
          obtain ⟨D, hDe⟩ : ∃ D, Lh.hostsF (Lh.turn ks[k]) P = D := ⟨_, rfl⟩
          rw [hDe] at hPS hDm hDl hD0 hv8
          clear hDe
          obtain ⟨b8, o8, c8, rfl, hc8⟩ := strsPos hv8 hD0
          have HC8 : Hid (∀ W, Below w8.heap.size w8 W → ∀ t (h : t < D.length), W.cell? ⟨b8, o8 + t, none⟩ = some (.string D[t])) := fun W hW t h => below_cell hW (hc8 t h)
          have HX8 : Hid (∀ W, Below w8.heap.size w8 W → ∀ t (h : t < xs.length), W.cell? ⟨b, o + t, none⟩ = some (.string xs[t])) := fun W hW t h => below_cell (below_then (below_then hbw6 hbw8) hW) (HX.out t h)
          obtain ⟨L, hLe⟩ : ∃ L, PL k = L := ⟨_, rfl⟩
          rw [hLe] at HR8 HO8 hPS hLL
          have HPS : Hid (PL (k + 1) = Lh.put1 most L (D.map (Lh.ixT xs))) := hPS
          have HDM : Hid (∀ s ∈ D, s ∈ xs) := hDm
          clear hLe hv8 hc8 hPS hDm cj HRi HOi hb8 hbi hbo HDF HKC HR HO
          go_wp2_with fail
          go_loopw [15, 19] (fun v t W => Below w8.heap.size w8 W ∧ v = vo ∧ ∃ q : Nat, q ≤ D.length ∧ t = .int .i64 q ∧ ∀ a (h : a < D.length), a < q → most ≤ L.count (Lh.ixT xs D[a])) (fun _ t _ => D.length - (intOf t).toNat)
          case atStart => exact ⟨Below.refl _ _, rfl, 0, Nat.zero_le _, rfl, fun a _ h => absurd h (by omega)⟩
          case round =>
            obtain ⟨hbi, rfl, q, hq, rfl, hfull⟩ := hrel
            obtain ⟨wi2, hwi2⟩ : ∃ wi2, wi2 = wr := ⟨_, rfl⟩
            subst hwi2
            have HFU : Hid (∀ a (h : a < D.length), a < q → most ≤ L.count (Lh.ixT xs D[a])) := hfull
            clear hfull
            by_cases hqD : q < D.length
            · have hqi : (q : Int) < (D.length : Int) := by omega
              have cD := HC8.out _ hbi q hqD
              have hmem := HDM.out _ (List.getElem_mem hqD)
              have hix := rIndex_at b o cap xs D[q] (Lh.ixT xs D[q]) wi2 (HX8.out _ hbi) (by omega) (Lh.ixT_lt hmem) (Lh.ixT_get hmem) (fun j hj hjl => Lh.ixT_first hj hjl)
              have hh := Lh.ixT_lt hmem
              have hrow := HR8.out.later hbi
              have hhl : Lh.ixT xs D[q] < (Lh.hasL xs.length L).length := by rw [Lh.hasL_length]; exact hh
              have ch := hrow.cell hhl
              rw [Lh.hasL_get] at ch
              have fh := hrow.frozen (Lh.ixT xs D[q])
              have HRW : Hid (IntRow wi2 r (Lh.hasL xs.length L)) := hrow
              have HOW : Hid (wi2.ownsRow (r + 1) 3 1 u15 L.length ((intsN L).map (Value.int .i64))) := ownsRow_below HO8.out hbi
              have hcl : L.count (Lh.ixT xs D[q]) ≤ 500 := Nat.le_trans List.count_le_length (by omega)
              obtain ⟨h, hhe⟩ : ∃ h, Lh.ixT xs D[q] = h := ⟨_, rfl⟩
              have HHE : Hid (Lh.ixT xs D[q] = h) := hhe
              obtain ⟨n, hne⟩ : ∃ n, L.count h = n := ⟨_, rfl⟩
              have HNE : Hid (L.count h = n) := hne
              rw [hhe] at hix hh ch fh hcl
              rw [hne] at ch hcl
              have hhi : (h : Int) < (xs.length : Int) := by omega
              clear hhe hne hmem hrow hhl
              by_cases hfree : n < most
              · have hd : decide (n < most) = true := by simpa using hfree
                go_wp2_with fail
                refine hix.mono ?_
                rintro e w9 ⟨rfl, rfl⟩
                clear hix
                have hrw := HRW.out.lt
                have hbS : Below w6.heap.size w6 (w9.setCell ⟨r, h, none⟩ (.int .i64 ((n : Int) + 1))) := (below_then hbw8 hbi).setCell hrle _
                have hszS : (w9.setCell ⟨r, h, none⟩ (.int .i64 ((n : Int) + 1))).heap.size = w9.heap.size := by simp
                have HRS : Hid (IntRow (w9.setCell ⟨r, h, none⟩ (.int .i64 ((n : Int) + 1))) r (Lh.hasL xs.length (L ++ [h]))) := by
                  have h1 := HRW.out.set h ((n : Int) + 1)
                  have h2 := Lh.hasL_snoc xs.length L h
                  rw [HNE.out] at h2
                  rw [← h2] at h1
                  exact h1
                have HOS : Hid ((w9.setCell ⟨r, h, none⟩ (.int .i64 ((n : Int) + 1))).ownsRow (r + 1) 3 1 u15 L.length ((intsN L).map (Value.int .i64))) := owns_setCell HOW.out (Nat.lt_succ_self r) _
                have HPF : Hid (PL (k + 1) = L ++ [h]) := by
                  have h1 := HPS.out
                  have hqm : q < (D.map (Lh.ixT xs)).length := by simpa using hqD
                  have h2 : (D.map (Lh.ixT xs)).find? (fun h => decide (L.count h < most)) = some ((D.map (Lh.ixT xs))[q]) := Lh.find_at hqm (fun a ha haq => by
                    have ha' : a < D.length := by simpa using ha
                    have := HFU.out a ha' haq
                    simp
                    omega) (by
                    simp only [List.getElem_map]
                    rw [HHE.out, HNE.out]
                    simpa using hfree)
                  rw [Lh.put1_some h2] at h1
                  simp only [List.getElem_map] at h1
                  rw [HHE.out] at h1
                  exact h1
                have hnew := cell_one_new (w9.setCell ⟨r, h, none⟩ (.int .i64 ((n : Int) + 1))) (.int .i64 (h : Nat)) 3
                rw [hszS] at hnew
                have hmx : L.length + 1 ≤ maxLen := by unfold maxLen; omega
                have hbs : ∀ q, r + 1 ≤ ((w9.setCell ⟨r, h, none⟩ (.int .i64 ((n : Int) + 1))).alloc q).heap.size := fun q => by
                  have h1 : ((w9.setCell ⟨r, h, none⟩ (.int .i64 ((n : Int) + 1))).alloc q).heap.size = (w9.setCell ⟨r, h, none⟩ (.int .i64 ((n : Int) + 1))).heap.size + 1 := by simp
                  omega
                go_wp2_with (at_builtin; refine wpList_append_own _ rfl _ _ 24 rfl (r + 1) 3 i _ 1 8 Tryd.underlying24 hi hz0 hz1 hz2 rfl (by decide) _ L.length _ rfl (HOS.out.alloc _) ⟨w9.heap.size, 0, none⟩ 1 1 [.int .i64 (h : Nat)] rfl rfl hnew (ints_oneCell1 _) hmx (by omega) (hbs _) ?_)
                intro v2 w10 hown2 hg2 _
                have hbT : Below w6.heap.size w6 w10 := (hbS.alloc hbS.size _).grown hg2 (Nat.le_trans (by omega) (hbs _)) (fun k h => Nat.le_trans (by omega) (HOS.out.lt k h).1)
                have HRT : Hid (IntRow w10 r (Lh.hasL xs.length (L ++ [h]))) := (HRS.out.later ((Below.refl _ _).alloc (Nat.le_refl _) _)).same (((Below.refl (r + 1) _).grown hg2 (hbs _) (fun k h => (HOS.out.lt k h).1)).block r (Nat.lt_succ_self r))
                have HOT : Hid (w10.ownsRow (r + 1) 3 1 v2 (L ++ [h]).length ((intsN (L ++ [h])).map (Value.int .i64))) := by
                  have h1 := hown2
                  unfold intsN at h1 ⊢
                  rw [List.map_append, List.map_append, List.length_append]
                  exact h1
                clear hown2 hg2 hnew hbs
                go_wp2_with fail
                refine ⟨⟨hbT, k + 1, by omega, by go_num, HNN.out, ?_, ?_⟩, by simp [intOf]; omega⟩
                · rw [HPF.out]; exact HOT.out
                · rw [HPF.out]; exact HRT.out
              · have hd : decide (n < most) = false := by simpa using hfree
                have HFN : Hid (∀ a (h : a < D.length), a < q + 1 → most ≤ L.count (Lh.ixT xs D[a])) := fun a ha haq => by
                  by_cases e : a = q
                  · subst e
                    rw [HHE.out, HNE.out]
                    omega
                  · exact HFU.out a ha (by omega)
                go_wp2_with fail
                refine hix.mono ?_
                rintro e w9 ⟨rfl, rfl⟩
                clear hix
                go_wp2_with fail
                exact ⟨⟨hbi, rfl, q + 1, by omega, by go_num, HFN.out⟩, by simp [intOf]; omega⟩
            · have hqi : decide ((q : Int) < (D.length : Int)) = false := by simp; omega
              have HPF : Hid (PL (k + 1) = L) := by
                have h1 := HPS.out
                unfold Lh.put1 at h1
                rw [Lh.find_none (fun a ha => by
                  have ha' : a < D.length := by simpa using ha
                  have := HFU.out a ha' (by omega)
                  simp
                  omega)] at h1
                exact h1
              have hbA : Below w6.heap.size w6 wi2 := below_then hbw8 hbi
              have HRA : Hid (IntRow wi2 r (Lh.hasL xs.length L)) := HR8.out.later hbi
              have HOA : Hid (wi2.ownsRow (r + 1) 3 1 u15 L.length ((intsN L).map (Value.int .i64))) := ownsRow_below HO8.out hbi
              go_wp2_with fail
              refine ⟨⟨hbA, k + 1, by omega, by go_num, HNN.out, ?_, ?_⟩, by simp [intOf]; omega⟩
              · rw [HPF.out]; exact HOA.out
              · rw [HPF.out]; exact HRA.out
    · have hji : decide ((j : Int) < (ks.length : Int)) = false := by simp; omega
      obtain rfl : j = ks.length := by omega
      have HC0 : Hid (cc = 0 ∧ pl = -1) := Lh.keyFault_none HKF.out (by
        have h1 := HND.out
        rw [List.take_length] at h1
        exact h1)
      have hwr : w.heap.size < r + 1 := by have := hTR6.lt; omega
      obtain ⟨q0, q1, g0, g1⟩ := hTR6.later hb
      obtain ⟨p0, p1, _, _⟩ := hTF6.later hb
      go_wp2_with fail
      go_region
      all_goals
        go_wp2
        refine bodyPost_ret (v := .tuple #[vo, .agg #[.int .i64 0, .int .i64 (-1)]]) (by simp [results, Tryd.results20, go_sem, q0, q1]) rfl ⟨vo, by rw [HC0.out.1, HC0.out.2]; rfl, Or.inl ⟨HC0.out.1, ?_⟩, ?_⟩
        · rw [HPL.out]
          exact ints_of_owns (owns_setCell (owns_setCell (w := wo.drew) HO.out hwr _) hwr _)
        · exact (hbw.drew.setCell (Nat.le_refl _) _).setCell (Nat.le_refl _) _
end Go.Proofs.YtepclafmkhphbabDoor

/- The reference's PlaceOf, where hosts, copies, keys or percent are wrong. -/
namespace Go.Proofs.YtepclafmkhphbabDoor
open Go.RowKit

set_option maxHeartbeats 2000000 in
theorem placeOf_ring (v : Value) (xs : List ByteArray) (n pc : Int) (kv : Value) (w : World) (c : Nat) (pl : Int) (hv : Strs1 w v xs) (hf : RngFault xs n c pl) (hc : c ≠ 0) (hs : ∀ k (h : k < xs.length), (xs[k]).size ≤ 1000000) (hm : xs.length < 1000000) :
    Calls Tryd.prog 20 #[v, .int .i64 n, kv, .int .i64 pc] w fun e w' => e = .returned (.tuple #[.slice none 0 0, .agg #[.int .i64 c, .int .i64 pl]]) ∧ Below w.heap.size w w' := by
  have hc0 : decide (0 < (c : Int)) = true := by simp; omega
  have hb0 : Below w.heap.size w (w.alloc (.cells #[.int .i64 0, .int .i64 0] 46)) := (Below.refl _ _).alloc (Nat.le_refl _) _
  have hrf := ringFault_any v xs n _ c pl (hv.later hb0) hf hs hm
  clear hv hf hs
  go_enter Tryd.func20, Tryd.ntmps20
  go_wp2_with fail
  refine hrf.mono ?_
  rintro e w1 ⟨rfl, hb1⟩
  have hT0 : TwoAt w1 w.heap.size 0 0 := (TwoAt.made w 0 0 _).later hb1
  have hb01 : Below w.heap.size w w1 := below_then hb0 hb1
  have hbA : Below w1.heap.size w1 (w1.alloc (.cells #[.int .i64 (c : Nat), .int .i64 pl] 46)) := (Below.refl _ _).alloc (Nat.le_refl _) _
  have hb2 : Below w.heap.size w (w1.alloc (.cells #[.int .i64 (c : Nat), .int .i64 pl] 46)) := below_then hb01 hbA
  have hTR := hT0.later hbA
  have hTF := TwoAt.made w1 (c : Nat) pl 46
  clear hrf hb0 hb1 hbA hT0 hb01
  go_wp2_with fail
  generalize w1.alloc (.cells #[.int .i64 (c : Nat), .int .i64 pl] 46) = w2 at *
  generalize w1.heap.size = fb at *
  obtain ⟨q0, q1, g0, g1⟩ := hTR
  obtain ⟨p0, p1, _, _⟩ := hTF
  go_region
  all_goals
    go_wp2
    exact bodyPost_ret (v := .tuple #[.slice none 0 0, .agg #[.int .i64 c, .int .i64 pl]]) (by simp [results, Tryd.results20, go_sem, q0, q1]) rfl ⟨rfl, (hb2.drew.setCell (Nat.le_refl _) _).setCell (Nat.le_refl _) _⟩

set_option maxHeartbeats 2000000 in
theorem placeOf_cap (v : Value) (p : Option Addr) (m cp xl xc : Nat) (xp : Option Addr) (hvx : v = .slice xp xl xc) (xs : List ByteArray) (hxl : xs.length = xl) (n pc : Int) (w : World) (hv : Strs1 w v xs) (hf : RngFault xs n 0 (-1)) (hs : ∀ k (h : k < xs.length), (xs[k]).size ≤ 1000000) (hm : xs.length < 1000000) (_hmm : m ≤ 1000000) (hbad : ¬ CapIn m xl pc) :
    Calls Tryd.prog 20 #[v, .int .i64 n, .slice p m cp, .int .i64 pc] w fun e w' => e = .returned (.tuple #[.slice none 0 0, .agg #[.int .i64 2, .int .i64 (-1)]]) ∧ Below w.heap.size w w' := by
  have hb0 : Below w.heap.size w (w.alloc (.cells #[.int .i64 0, .int .i64 0] 46)) := (Below.refl _ _).alloc (Nat.le_refl _) _
  have hrf := ringFault_any v xs n _ 0 (-1) (hv.later hb0) hf hs hm
  have hcap := fun W => capOf_bad m xl pc W hbad
  have hxm : xl ≤ 1000000 := by omega
  clear hv hf hs hbad hm hxl
  subst hvx
  go_enter Tryd.func20, Tryd.ntmps20
  go_wp2_with fail
  refine hrf.mono ?_
  rintro e w1 ⟨rfl, hb1⟩
  have hT0 : TwoAt w1 w.heap.size 0 0 := (TwoAt.made w 0 0 _).later hb1
  have hb01 : Below w.heap.size w w1 := below_then hb0 hb1
  have hbA : Below w1.heap.size w1 (w1.alloc (.cells #[.int .i64 0, .int .i64 (-1)] 46)) := (Below.refl _ _).alloc (Nat.le_refl _) _
  have hb2 : Below w.heap.size w (w1.alloc (.cells #[.int .i64 0, .int .i64 (-1)] 46)) := below_then hb01 hbA
  have hTR := hT0.later hbA
  clear hrf hb0 hb1 hbA hT0 hb01
  go_wp2_with fail
  generalize w1.alloc (.cells #[.int .i64 0, .int .i64 (-1)] 46) = w2 at *
  generalize w1.heap.size = fb at *
  refine (hcap _).mono ?_
  rintro e w2' ⟨rfl, rfl⟩
  clear hcap
  go_wp2_with fail
  refine (bare_any 2 _).mono ?_
  rintro e w3 ⟨rfl, hb3⟩
  have hbz : Below w.heap.size w w3 := below_then hb2 hb3
  obtain ⟨q0, q1, g0, g1⟩ := hTR.later hb3
  clear hTR hb3 hb2
  go_wp2
  exact bodyPost_ret (v := .tuple #[.slice none 0 0, .agg #[.int .i64 2, .int .i64 (-1)]]) (by simp [results, Tryd.results20, go_sem, q0, q1]) rfl ⟨rfl, (hbz.setCell (Nat.le_refl _) _).setCell (Nat.le_refl _) _⟩
end Go.Proofs.YtepclafmkhphbabDoor

/- Where keys go: each has a host, none has more than it may, and while none is full it is the ring's first. -/
namespace Go.Proofs.YtepclafmkhphbabDoor
open Go.RowKit

section
variable {c : Nat} {xs : List ByteArray} {P : List Lh.Pt} {ks : List Nat} {p most : Nat}
theorem hosts_len (hI : Lh.IsRing c xs P) (hc : 0 < c) (z : Nat) : (Lh.hostsF (Lh.turn z) P).length ≤ xs.length := Lh.nodup_len (Lh.hosts_nodup _ P) fun s h => (Lh.ring_mem hI hc _ s).1 h
theorem ordN_lt (hI : Lh.IsRing c xs P) (hc : 0 < c) (z : Nat) : ∀ x ∈ ordN xs P z, x < xs.length := by
  intro x hx
  obtain ⟨s, hs, rfl⟩ := List.mem_map.1 hx
  exact Lh.ixT_lt ((Lh.ring_mem hI hc _ s).1 hs)
theorem ordN_all (hI : Lh.IsRing c xs P) (hc : 0 < c) (hn : xs.Nodup) (z : Nat) : ∀ h, h < xs.length → h ∈ ordN xs P z := by
  intro h hh
  refine List.mem_map.2 ⟨xs[h], (Lh.ring_mem hI hc _ _).2 (List.getElem_mem hh), ?_⟩
  have hm := List.getElem_mem hh
  have h1 := Lh.ixT_get hm
  have h2 := Lh.ixT_lt hm
  exact (List.getElem_inj hn).1 h1
theorem plc_len (hI : Lh.IsRing c xs P) (hc : 0 < c) (hn : xs.Nodup) (h0 : 0 < xs.length) (j : Nat) (hj : j ≤ ks.length) : (plc xs P (Lh.capN ks.length xs.length p) ks j).length = j := by
  unfold plc
  have h1 := Lh.places_full (most := Lh.capN ks.length xs.length p) (H := xs.length) ((ks.take j).map (ordN xs P)) (fun o ho => by
    obtain ⟨z, _, rfl⟩ := List.mem_map.1 ho
    exact ordN_lt hI hc z) (fun o ho => by
    obtain ⟨z, _, rfl⟩ := List.mem_map.1 ho
    exact ordN_all hI hc hn z) (by
    have := Lh.capN_room (K := ks.length) (p := p) h0
    rw [List.length_map, List.length_take]
    omega)
  rw [h1, List.length_map, List.length_take]
  omega
theorem plc_mem (hI : Lh.IsRing c xs P) (hc : 0 < c) (j : Nat) : ∀ x ∈ plc xs P most ks j, x < xs.length :=
  Lh.places_mem fun o ho => by
    obtain ⟨z, _, rfl⟩ := List.mem_map.1 ho
    exact ordN_lt hI hc z
theorem plc_cap (j h : Nat) : (plc xs P most ks j).count h ≤ most := Lh.places_cap _ h
/-- one key more -/
theorem plc_one (hI : Lh.IsRing c xs P) (hc : 0 < c) (hn : xs.Nodup) (h0 : 0 < xs.length) {j : Nat} (hj : j < ks.length) : ∃ h, (ordN xs P ks[j]).find? (fun h => decide ((plc xs P (Lh.capN ks.length xs.length p) ks j).count h < Lh.capN ks.length xs.length p)) = some h ∧ plc xs P (Lh.capN ks.length xs.length p) ks (j + 1) = plc xs P (Lh.capN ks.length xs.length p) ks j ++ [h] := by
  obtain ⟨h, e⟩ := Lh.find_free (most := Lh.capN ks.length xs.length p) (H := xs.length) (out := plc xs P (Lh.capN ks.length xs.length p) ks j) (o := ordN xs P ks[j]) (plc_mem hI hc j) (ordN_all hI hc hn _) (by
    rw [plc_len hI hc hn h0 j (by omega)]
    have := Lh.capN_room (K := ks.length) (p := p) h0
    omega)
  exact ⟨h, e, by rw [plc_succ _ _ _ _ hj, Lh.put1_some e]⟩
theorem plc_take (hI : Lh.IsRing c xs P) (hc : 0 < c) (hn : xs.Nodup) (h0 : 0 < xs.length) (j : Nat) : ∀ m, j ≤ m → m ≤ ks.length → (plc xs P (Lh.capN ks.length xs.length p) ks m).take j = plc xs P (Lh.capN ks.length xs.length p) ks j
  | 0, h1, _ => by
    obtain rfl : j = 0 := by omega
    simp [plc_zero]
  | m + 1, h1, h2 => by
    by_cases e : j = m + 1
    · subst e
      exact List.take_of_length_le (by rw [plc_len hI hc hn h0 _ h2]; exact Nat.le_refl _)
    · obtain ⟨h, _, e2⟩ := plc_one (p := p) hI hc hn h0 (show m < ks.length by omega)
      rw [e2, List.take_append_of_le_length (by rw [plc_len hI hc hn h0 _ (by omega)]; omega)]
      exact plc_take hI hc hn h0 j m (by omega) (by omega)
/-- the j-th key's place -/
theorem plc_get (hI : Lh.IsRing c xs P) (hc : 0 < c) (hn : xs.Nodup) (h0 : 0 < xs.length) {j : Nat} (hj : j < ks.length) (hl : j < (plc xs P (Lh.capN ks.length xs.length p) ks ks.length).length) :
    plc xs P (Lh.capN ks.length xs.length p) ks (j + 1) = plc xs P (Lh.capN ks.length xs.length p) ks j ++ [(plc xs P (Lh.capN ks.length xs.length p) ks ks.length)[j]] := by
  have h1 := plc_take (p := p) hI hc hn h0 (j + 1) ks.length (by omega) (Nat.le_refl _)
  have h2 := plc_take (p := p) hI hc hn h0 j ks.length (by omega) (Nat.le_refl _)
  rw [List.take_succ_eq_append_getElem hl, h2] at h1
  exact h1.symm
/-- While none is full, a key goes to the ring's first. -/
theorem plc_first (hI : Lh.IsRing c xs P) (hc : 0 < c) (hn : xs.Nodup) (h0 : 0 < xs.length) {j : Nat} (hj : j < ks.length) (hl : j < (plc xs P (Lh.capN ks.length xs.length p) ks ks.length).length) (hfree : ∀ h, h < xs.length → (plc xs P (Lh.capN ks.length xs.length p) ks j).count h < Lh.capN ks.length xs.length p)
    {s : ByteArray} (hs : (Lh.hostsF (Lh.turn ks[j]) P)[0]? = some s) : s ∈ xs ∧ (plc xs P (Lh.capN ks.length xs.length p) ks ks.length)[j] = Lh.ixT xs s := by
  obtain ⟨hs0, hse⟩ := List.getElem?_eq_some_iff.1 hs
  have hm : s ∈ xs := (Lh.ring_mem hI hc _ s).1 (by rw [← hse]; exact List.getElem_mem _)
  refine ⟨hm, ?_⟩
  have hlen : 0 < (ordN xs P ks[j]).length := by unfold ordN; simpa using hs0
  have h3 : (ordN xs P ks[j])[0] = Lh.ixT xs s := by
    have h4 : (ordN xs P ks[j])[0]? = some (Lh.ixT xs s) := by unfold ordN; rw [List.getElem?_map, hs]; rfl
    exact (List.getElem?_eq_some_iff.1 h4).2
  have h1 := Lh.find_at (f := fun h => decide ((plc xs P (Lh.capN ks.length xs.length p) ks j).count h < Lh.capN ks.length xs.length p)) hlen (fun i _ h => absurd h (by omega)) (by
    rw [h3]
    simpa using hfree _ (Lh.ixT_lt hm))
  obtain ⟨h, e1, e2⟩ := plc_one (p := p) hI hc hn h0 hj
  rw [e1, h3] at h1
  have h4 := plc_get (p := p) hI hc hn h0 hj hl
  rw [e2] at h4
  have h5 := List.append_cancel_left h4
  simp at h5
  rw [← h5, Option.some.inj h1]
end
end Go.Proofs.YtepclafmkhphbabDoor

/- Where only ErrBound is known. -/
namespace Go.Proofs.YtepclafmkhphbabDoor
open Go.RowKit

/-- ErrBound holds a pointer. -/
structure Errs1 (a : Nat → Addr) (w : World) : Prop where
  s1 : w.cell? ⟨0, 0, none⟩ = some (.iface 165 (.pointer (some (a 1))))
theorem Errs1.later {a : Nat → Addr} {w w' : World} (h : Errs1 a w) (hb : Below w.heap.size w w') : Errs1 a w' := ⟨below_cell hb h.s1⟩
theorem Errs.one {a : Nat → Addr} {w : World} (h : Errs a w) : Errs1 a w := ⟨h.s1⟩
end Go.Proofs.YtepclafmkhphbabDoor

/- What filling asks of the landed fill.Cap and fill.Place; the reference beside it. -/
namespace Go.Proofs.YtepclafmkhphbabDoor
open Go.RowKit

open Go.Sort in
theorem ring_ex (c : Nat) (xs : List ByteArray) : ∃ P, Lh.IsRing c xs P := by
  obtain ⟨P, hP⟩ : ∃ P, Lh.pts c xs = P := ⟨_, rfl⟩
  refine ⟨P.mergeSort fun x y => !(ltOf cfP) y x, by rw [hP]; exact List.mergeSort_perm _ _, ?_⟩
  have := List.pairwise_mergeSort (le := fun x y => !(ltOf cfP) y x) (fun a b c h k => by
    simp only [Bool.not_eq_eq_eq_not, Bool.not_true] at h k ⊢
    rw [ltP_false] at *
    exact Lh.leF_trans h k) (fun a b => by
    by_cases h : ltOf cfP b a = false
    · simp [h]
    · have h' : ltOf cfP b a = true := by simpa using h
      have h2 : ltOf cfP a b = false := by
        rw [← Bool.not_eq_true]
        intro h3
        have := swoP.trans _ _ _ h' h3
        rw [swoP.irrefl] at this
        cases this
      simp [h2]) P
  refine this.imp fun {a b} h => ?_
  simp only [Bool.not_eq_eq_eq_not, Bool.not_true] at h
  exact (ltP_false b a).1 h
/-- What is wrong with hosts, copies, keys and percent: the error's number, and where. -/
def PlFault (xs : List ByteArray) (n : Int) (ks : List Nat) (pc : Int) (c : Nat) (pl : Int) : Prop :=
  (c ≠ 0 ∧ RngFault xs n c pl) ∨ (RngFault xs n 0 (-1) ∧ ¬ CapIn (ks.length : Nat) (xs.length : Nat) pc ∧ c = 2 ∧ pl = -1) ∨ (RngFault xs n 0 (-1) ∧ CapIn (ks.length : Nat) (xs.length : Nat) pc ∧ Lh.KeyFault ks c pl)
theorem plFault_ex (xs : List ByteArray) (n : Int) (ks : List Nat) (pc : Int) : ∃ c pl, PlFault xs n ks pc c pl := by
  obtain ⟨c, pl, h⟩ := rngFault_ex xs n
  by_cases hc : c = 0
  · subst hc
    obtain ⟨rfl, _⟩ := rngFault_zero h
    by_cases hi : CapIn (ks.length : Nat) (xs.length : Nat) pc
    · obtain ⟨c, pl, hk⟩ := Lh.keyFault_ex ks
      exact ⟨c, pl, Or.inr (Or.inr ⟨h, hi, hk⟩)⟩
    · exact ⟨2, -1, Or.inr (Or.inl ⟨h, hi, rfl, rfl⟩)⟩
  · exact ⟨c, pl, Or.inl ⟨hc, h⟩⟩
/-- where nothing is wrong -/
theorem plFault_zero {xs : List ByteArray} {n : Int} {ks : List Nat} {pc : Int} {pl : Int} (h : PlFault xs n ks pc 0 pl) : pl = -1 ∧ 0 < xs.length ∧ xs.length ≤ 12 ∧ IsFault xs 0 (-1) ∧ ks.length ≤ 500 ∧ ks.Nodup ∧ (∃ c : Nat, n = c ∧ 1 ≤ c ∧ c ≤ 16) ∧ ∃ p : Nat, pc = p ∧ p ≤ 100 := by
  rcases h with ⟨h, _⟩ | ⟨_, _, h, _⟩ | ⟨hr, ⟨_, h2, _, _, h5, h6⟩, ⟨hn, _, hp⟩ | ⟨_, _, _, _, h, _⟩⟩
  · exact absurd rfl h
  · cases h
  · obtain ⟨_, h0, hf, hc⟩ := rngFault_zero hr
    obtain ⟨p, rfl⟩ := Int.eq_ofNat_of_zero_le h5
    exact ⟨hp, h0, (fault0 hf).2.1, hf, by omega, hn, hc, p, rfl, by omega⟩
  · cases h
/-- The landed functions' contracts. -/
structure FillC : Prop where
  capG : ∀ (K H p : Nat) (W : World), K ≤ 500 → 1 ≤ H → H ≤ 12 → p ≤ 100 → Calls Tryd.prog 22 #[.int .i64 (K : Nat), .int .i64 (H : Nat), .int .i64 (p : Nat)] W fun e w' => e = .returned (.tuple #[.int .i64 (Lh.capN K H p : Nat), .nilIface]) ∧ Below W.heap.size W w'
  capB : ∀ (a : Nat → Addr) (k h p : Int) (W : World), Errs1 a W → ¬ CapIn k h p → Calls Tryd.prog 22 #[.int .i64 k, .int .i64 h, .int .i64 p] W fun e w' => e = .returned (.tuple #[.int .i64 0, .iface 165 (.pointer (some (a 1)))]) ∧ Below W.heap.size W w'
  placeG : ∀ (a : Nat → Addr) (v kv : Value) (xs : List ByteArray) (ks : List Nat) (c p : Nat) (W : World), Errs4 a W → Strs1 W v xs → Keys1 W kv ks → 0 < xs.length → IsFault xs 0 (-1) → (∀ k (h : k < xs.length), (xs[k]).size ≤ 300) → ks.length ≤ 500 → ks.Nodup → (∀ z ∈ ks, z < 18446744073709551616) → 1 ≤ c → c ≤ 16 → p ≤ 100 →
    Calls Tryd.prog 18 #[v, .int .i64 (c : Nat), kv, .int .i64 (p : Nat)] W fun e w' => ∃ P v', Lh.IsRing c xs P ∧ e = .returned (.tuple #[v', .nilIface]) ∧ Ints w' v' (intsN (plc xs P (Lh.capN ks.length xs.length p) ks ks.length)) ∧ Below W.heap.size W w'
  placeB : ∀ (a : Nat → Addr) (v kv : Value) (xs : List ByteArray) (ks : List Nat) (n pc : Int) (W : World) (cc : Nat) (pl : Int), Errs4 a W → Strs1 W v xs → Keys1 W kv ks → PlFault xs n ks pc cc pl → cc ≠ 0 → (∀ k (h : k < xs.length), (xs[k]).size ≤ 300) → xs.length < 1000 → ks.length < 1000 → (∀ z ∈ ks, z < 18446744073709551616) →
    Calls Tryd.prog 18 #[v, .int .i64 n, kv, .int .i64 pc] W fun e w' => ∃ ev, e = .returned (.tuple #[.slice none 0 0, ev]) ∧ ErrIs a w' cc pl ev ∧ Below W.heap.size W w'
/-- The reference's PlaceOf, where something is wrong. -/
theorem placeOf_bad (v kv : Value) (xs : List ByteArray) (ks : List Nat) (n pc : Int) (w : World) (cc : Nat) (pl : Int) (hv : Strs1 w v xs) (hk : Keys1 w kv ks) (hf : PlFault xs n ks pc cc pl) (hc : cc ≠ 0) (hs : ∀ k (h : k < xs.length), (xs[k]).size ≤ 300) (hm : xs.length < 1000) (hkl : ks.length < 1000) :
    Calls Tryd.prog 20 #[v, .int .i64 n, kv, .int .i64 pc] w fun e w' => e = .returned (.tuple #[.slice none 0 0, .agg #[.int .i64 cc, .int .i64 pl]]) ∧ Below w.heap.size w w' := by
  have hs' : ∀ k (h : k < xs.length), (xs[k]).size ≤ 1000000 := fun k h => Nat.le_trans (hs k h) (by decide)
  rcases hf with ⟨_, h⟩ | ⟨h, hi, rfl, rfl⟩ | ⟨h, ⟨_, h2, _, _, h5, h6⟩, hkf⟩
  · exact placeOf_ring v xs n pc kv w cc pl hv h hc hs' (by omega)
  · obtain ⟨_, h0, _⟩ := rngFault_zero h
    obtain ⟨b, o, cap, rfl, _⟩ := strsPos hv h0
    obtain ⟨kp, kc, rfl, _⟩ := hk.at
    exact placeOf_cap _ kp ks.length kc xs.length cap _ rfl xs rfl n pc w hv h hs' (by omega) (by omega) hi
  · obtain ⟨_, h0, hf, c, rfl, hc1, hc16⟩ := rngFault_zero h
    obtain ⟨p, rfl⟩ := Int.eq_ofNat_of_zero_le h5
    obtain ⟨b, o, cap, rfl, hx⟩ := strsPos hv h0
    obtain ⟨kp, kc, rfl, hka⟩ := hk.at
    obtain ⟨P, hI⟩ := ring_ex c xs
    refine (placeOf_main b o cap kp kc xs ks c p w hv hx hs h0 (fault0 hf).2.1 hka (by omega) hf hc1 hc16 (by omega) cc pl hkf P hI (hosts_len hI (by omega))).mono fun e w' ⟨v', h1, h2, h3⟩ => ?_
    rcases h2 with ⟨h2, _⟩ | ⟨_, h2⟩
    · exact absurd h2 hc
    · exact ⟨by rw [h1, h2], h3⟩
/-- The reference's PlaceOf, where nothing is wrong. -/
theorem placeOf_good (v kv : Value) (xs : List ByteArray) (ks : List Nat) (c p : Nat) (w : World) (hv : Strs1 w v xs) (hk : Keys1 w kv ks) (h0 : 0 < xs.length) (hf : IsFault xs 0 (-1)) (hs : ∀ k (h : k < xs.length), (xs[k]).size ≤ 300) (hk5 : ks.length ≤ 500) (hn : ks.Nodup) (hc1 : 1 ≤ c) (hc : c ≤ 16) (hp : p ≤ 100) (P : List Lh.Pt) (hI : Lh.IsRing c xs P) :
    Calls Tryd.prog 20 #[v, .int .i64 (c : Nat), kv, .int .i64 (p : Nat)] w fun e w' => ∃ v', e = .returned (.tuple #[v', .agg #[.int .i64 0, .int .i64 (-1)]]) ∧ Ints w' v' (intsN (plc xs P (Lh.capN ks.length xs.length p) ks ks.length)) ∧ Below w.heap.size w w' := by
  obtain ⟨b, o, cap, rfl, hx⟩ := strsPos hv h0
  obtain ⟨kp, kc, rfl, hka⟩ := hk.at
  refine (placeOf_main b o cap kp kc xs ks c p w hv hx hs h0 (fault0 hf).2.1 hka hk5 hf hc1 hc hp 0 (-1) (Or.inl ⟨hn, rfl, rfl⟩) P hI (hosts_len hI (by omega))).mono fun e w' ⟨v', h1, h2, h3⟩ => ?_
  rcases h2 with ⟨_, h2⟩ | ⟨h2, _⟩
  · exact ⟨v', h1, h2, h3⟩
  · exact absurd rfl h2
end Go.Proofs.YtepclafmkhphbabDoor
