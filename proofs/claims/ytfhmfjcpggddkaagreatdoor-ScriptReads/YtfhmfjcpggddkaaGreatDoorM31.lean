/- The law ScriptReads, over the landed package's contract. -/
import Derived.Test.YtfhmfjcpggddkaaGreatDoorM30
import Derived.Deep.RegionHeld3
import Derived.Test.YtfhmfjcpggddkaaGreatDoorM4
import Derived.Test.YtfhmfjcpggddkaaGreatDoorM5
import Derived.Test.YtfhmfjcpggddkaaGreatDoorM13
import Derived.Test.YtfhmfjcpggddkaaGreatDoorM29
namespace Go.Proofs.YtfhmfjcpggddkaaGreatDoor
open Go.RowKit Lh

theorem strs1_sl {w : World} {v : Value} {xs : List ByteArray} (h : Strs1 w v xs) : ∃ q c, v = .slice q xs.length c ∧ ∀ j (h : j < xs.length), ∃ b o, q = some ⟨b, o, none⟩ ∧ w.cell? ⟨b, o + j, none⟩ = some (.string xs[j]) := by
  rcases h with ⟨rfl, rfl | ⟨ad, c, rfl⟩⟩ | ⟨b, o, c, rfl, _, hc⟩
  · exact ⟨_, _, rfl, fun k hk => absurd hk (Nat.not_lt_zero k)⟩
  · exact ⟨_, _, rfl, fun k hk => absurd hk (Nat.not_lt_zero k)⟩
  · exact ⟨_, c, rfl, fun k hk => ⟨b, o, rfl, hc k hk⟩⟩
theorem take_one {l : List UInt8} {j : Nat} (h : j < l.length) : l.take j ++ (l.drop j).take (j + 1 - j) = l.take (j + 1) := by
  have e : j + 1 - j = 1 := by omega
  rw [List.take_succ_eq_append_getElem h, List.drop_eq_getElem_cons h, e]
  rfl
theorem take_word {l : List UInt8} {j : Nat} (h1 : ∀ i (h : i < l.length), i < j → l[i] ≠ 32) (h2 : j = l.length ∨ ∃ h : j < l.length, l[j] = 32) : headW l = l.take j := by
  unfold headW
  induction l generalizing j with
  | nil => simp
  | cons c l ih =>
    cases j with
    | zero =>
      rcases h2 with h | ⟨_, h⟩
      · simp at h
      · simp at h
        simp [h]
    | succ j =>
      have hc : c ≠ 32 := h1 0 (by simp) (by omega)
      rw [List.takeWhile_cons]
      simp only [hc, ne_eq, not_false_eq_true, decide_true, if_true, List.take_succ_cons]
      rw [ih (j := j) (fun i hi hj => h1 (i + 1) (by simpa using hi) (by omega)) (by
        rcases h2 with h | ⟨h, e⟩
        · left; simpa using h
        · right; exact ⟨by simpa using h, by simpa using e⟩)]
set_option maxRecDepth 100000 in
set_option maxHeartbeats 4000000 in
theorem reads_core (hS : ScriptC) (a : Nat → Addr) (p : Option Addr) (c n : Nat) (xs : List ByteArray) (w : World) (he : hS.E a w) (hE : Errs a w) (hn : xs.length = n) (hx : ∀ k (h : k < xs.length), ∃ b o, p = some ⟨b, o, none⟩ ∧ w.cell? ⟨b, o + k, none⟩ = some (.string xs[k])) (hsz : ∀ k (h : k < xs.length), (xs[k]).size ≤ maxLen) (hl : n ≤ 110) :
    Calls Tryz.prog 3 #[.slice p n c] w fun e w' => e = .returned (.bool true) ∧ Below w.heap.size w w' := by
  obtain ⟨i0, hi0, hz0, hz1, hz2⟩ := info_parts infoS
  have HE : Hid (hS.E a w) := he
  have HR : Hid (Errs a w) := hE
  have HN : Hid (xs.length = n) := hn
  have HX : Hid (∀ k (h : k < xs.length), ∃ b o, p = some ⟨b, o, none⟩ ∧ w.cell? ⟨b, o + k, none⟩ = some (.string xs[k])) := hx
  have HZ : Hid (∀ k (h : k < xs.length), (xs[k]).size ≤ maxLen) := hsz
  have hhel := hello_any hS a w he
  have d1 : decide (110 < (n : Int)) = false := by simp; omega
  clear he hE hn hx hsz
  go_enter Tryz.func3, Tryz.ntmps3
  go_wp2_with fail
  refine hhel.mono ?_
  rintro e w1 ⟨rfl, hb1⟩
  have HB1 : Hid (Below w.heap.size w w1) := hb1
  clear hhel hb1
  go_wp2_with fail
  go_loopw [4, 5] (fun own iv W => Below w1.heap.size w1 W ∧ ∃ k : Nat, k ≤ n ∧ iv = .int .i64 (k : Nat) ∧ (∀ j (h : j < xs.length), j < k → (xs[j]).size ≤ 100) ∧ W.ownsRow w1.heap.size 9 1 own k ((xs.take k).map Value.string)) (fun _ iv _ => n - (intOf iv).toNat)
  case atStart => exact ⟨Below.refl _ _, 0, Nat.zero_le _, rfl, fun j _ h => absurd h (Nat.not_lt_zero j), owns_nil _ _ _⟩
  case round =>
    obtain ⟨hbr, k, hk, rfl, hsm, hown⟩ := hrel
    obtain ⟨wo, hwo⟩ : ∃ wo, wo = wr := ⟨_, rfl⟩
    subst hwo
    have HSM : Hid (∀ j (h : j < xs.length), j < k → (xs[j]).size ≤ 100) := hsm
    have HOW : Hid (wo.ownsRow w1.heap.size 9 1 u4 k ((xs.take k).map Value.string)) := hown
    clear hsm hown
    by_cases hlt : k < n
    · have hls : k < xs.length := by rw [HN.out]; exact hlt
      obtain ⟨b, o, rfl, ck⟩ := HX.out k hls
      have hki : (k : Int) < (n : Int) := by omega
      have ckr := below_cell (below_then HB1.out hbr) ck
      have hs64 := HZ.out k hls
      unfold maxLen at hs64
      have HTK : Hid ((xs.take (k + 1)).map Value.string = (xs.take k).map Value.string ++ [.string (xs[k]'hls)]) := by
        show _ = _
        rw [List.take_succ_eq_append_getElem hls, List.map_append]
        rfl
      have HSX : Hid (xs[k]'hls = xs[k]'hls) := rfl
      by_cases h100 : 100 < (xs[k]'hls).size
      · have d2 : decide (100 < ((xs[k]'hls).size : Int)) = true := by simp; omega
        clear ck
        go_wp2
        go_ret
        exact ⟨rfl, below_then HB1.out hbr⟩
      · have d2 : decide (100 < ((xs[k]'hls).size : Int)) = false := by simp; omega
        have HSN : Hid (∀ j (h : j < xs.length), j < k + 1 → (xs[j]).size ≤ 100) := fun j h hj => by
          by_cases e : j = k
          · subst e; omega
          · exact HSM.out j h (by omega)
        generalize xs[k]'hls = s at *
        have own4 := HOW.out.alloc (.cells #[.string s] 9)
        have hmx : k + 1 ≤ maxLen := by unfold maxLen; omega
        have hby : (k + 1) * 16 ≤ 140737488355328 := by omega
        have hbs : w1.heap.size ≤ (wo.alloc (.cells #[.string s] 9)).heap.size := Nat.le_trans hbr.size (by simp)
        have hsz4 : (wo.alloc (.cells #[.string s] 9)).heap.size = wo.heap.size + 1 := by simp
        have hnews : ∀ j u, [Value.string s][j]? = some u → (wo.alloc (.cells #[.string s] 9)).cell? ((⟨wo.heap.size, 0, none⟩ : Addr).add j) = some u := fun j u hu => by
          match j with
          | 0 => simp at hu; subst hu; simp [Addr.add]
          | j + 1 => simp at hu
        clear ck
        go_wp2_with (at_builtin; refine wpList_append_lies _ rfl _ _ 22 rfl w1.heap.size 9 i0 _ 1 16 Tryz.underlying22 hi0 hz0 hz1 hz2 rfl (by decide) u4 k ((xs.take k).map Value.string) rfl own4 ⟨wo.heap.size, 0, none⟩ 1 1 [.string s] rfl rfl hnews (fun u hu => by simp at hu; subst hu; rfl) (by decide) hmx hby hbs (wo.heap.size + 1) hsz4 ?_; intro g1 cap1 w5 hown5 hgr5 hor5 hlt5)
        have hb5 : Below w1.heap.size w1 w5 := (hbr.alloc hbr.size _).grown hgr5 (Nat.le_trans hbr.size (by simp)) fun k hk => (HOW.out.lt k hk).1
        exact ⟨⟨hb5, k + 1, by omega, by go_num, HSN.out, by rw [HTK.out]; exact hown5⟩, by simp [intOf]; omega⟩
    · obtain rfl : k = n := by omega
      have hall : xs.take k = xs := List.take_of_length_le (by rw [HN.out]; exact Nat.le_refl _)
      have hown := HOW.out
      rw [hall] at hown
      have HST : Hid (Strs1 wo u4 xs) := strs_of_owns hown
      have HSZ : Hid (∀ s ∈ xs, s.size ≤ 100) := fun s hs => by
        obtain ⟨j, hj, rfl⟩ := List.getElem_of_mem hs
        exact HSM.out j hj (by have := HN.out; omega)
      have hd : decide ((k : Int) < (k : Int)) = false := by simp
      clear hown HOW HSM hall
      by_cases h100 : 100 < k
      · have d3 : decide (100 < (k : Int)) = true := by simp; omega
        have hrun := hS.many a u4 xs wo (hS.eLater HE.out (below_then HB1.out hbr)) HST.out (by rw [HN.out]; exact h100) (by have := HN.out; omega)
        go_wp2_with fail
        refine hrun.mono ?_
        rintro e w2 ⟨p2, c2, rfl, hb2⟩
        have hbw2 := below_then (below_then HB1.out hbr) hb2
        have hcd := coded3_any (HR.out.later hbw2)
        clear hrun hb2
        go_wp2_with fail
        refine hcd.mono ?_
        rintro e w3 ⟨rfl, hb3⟩
        have hbw3 := below_then hbw2 hb3
        clear hcd hb3 hbw2
        go_wp2
        go_ret
        exact ⟨rfl, hbw3⟩
      · have d3 : decide (100 < (k : Int)) = false := by simp; omega
        have hrun := hS.run a u4 xs wo (hS.eLater HE.out (below_then HB1.out hbr)) HST.out (by rw [HN.out]; omega) (fun s hs => Nat.le_trans (HSZ.out s hs) (by decide))
        go_wp2_with fail
        refine hrun.mono ?_
        rintro e w2 ⟨rs, st, v2, rfl, hv2, hL, hb2⟩
        have hbw2 := below_then (below_then HB1.out hbr) hb2
        have hlen : rs.length = k := by rw [linesR_len hL, List.length_map, HN.out]
        have HV2 : Hid (Strs1 w2 v2 (rs.map bt)) := hv2
        have HL : Hid (LinesR hS.nw none (xs.map tx) rs st) := hL
        have HLN : Hid (rs.length = k) := hlen
        obtain ⟨q2, c2, rfl, hx2⟩ : ∃ q c, v2 = .slice q k c ∧ ∀ j (h : j < (rs.map bt).length), ∃ b o, q = some ⟨b, o, none⟩ ∧ w2.cell? ⟨b, o + j, none⟩ = some (.string (rs.map bt)[j]) := by
          obtain ⟨q, c, e1, e2⟩ := strs1_sl hv2
          rw [List.length_map, hlen] at e1
          exact ⟨q, c, e1, e2⟩
        have HX2 : Hid (∀ j (h : j < (rs.map bt).length), ∃ b o, q2 = some ⟨b, o, none⟩ ∧ w2.cell? ⟨b, o + j, none⟩ = some (.string (rs.map bt)[j])) := hx2
        have HB2 : Hid (Below w.heap.size w w2) := hbw2
        clear hrun hv2 hL hb2 hbw2 hlen hx2 hbr HST
        have HAT : Hid (∀ i (h1 : i < xs.length) (h2 : i < rs.length), rs[i] ≠ [] ∧ (formW (headW (tx (xs[i]))) = none → rs[i] = errT 1)) := fun i h1 h2 => by
          obtain ⟨s1, s2, hk1, hr⟩ := linesR_at (fun k h1 h2 => hS.nwIn k h1 h2) (fun S q => by cases q) HL.out i (by rw [List.length_map]; exact h1) h2
          rw [List.getElem_map] at hr
          exact ⟨lineR_ne hk1 hr, lineR_text hr⟩
        go_wp2_with fail
        go_loopw [8] (fun u8 W => Below w2.heap.size w2 W ∧ ∃ i : Nat, i ≤ k ∧ u8 = .int .i64 (i : Nat)) (fun u8 _ => k - (intOf u8).toNat)
        case atStart => exact ⟨Below.refl _ _, 0, Nat.zero_le _, rfl⟩
        case round =>
          obtain ⟨hb3, i, hi, rfl⟩ := hrel
          obtain ⟨w3, hw3⟩ : ∃ w3, w3 = wr := ⟨_, rfl⟩
          subst hw3
          by_cases hlt2 : i < k
          · have hii : (i : Int) < (k : Int) := by omega
            have hls : i < xs.length := by rw [HN.out]; exact hlt2
            have hlr : i < rs.length := by rw [HLN.out]; exact hlt2
            obtain ⟨b, o, rfl, ck⟩ := HX.out i hls
            obtain ⟨b2, o2, rfl, ck2⟩ := HX2.out i (by rw [List.length_map]; exact hlr)
            rw [List.getElem_map] at ck2
            have ckr := below_cell (below_then HB2.out hb3) ck
            have ckr2 := below_cell hb3 ck2
            obtain ⟨hne, htx⟩ := HAT.out i hls hlr
            have hs1 := HSZ.out (xs[i]'hls) (List.getElem_mem hls)
            have HCK : Hid (∀ W, Below w3.heap.size w3 W → W.cell? ⟨b, o + i, none⟩ = some (.string (xs[i]'hls)) ∧ W.cell? ⟨b2, o2 + i, none⟩ = some (.string (bt (rs[i]'hlr)))) := fun W hb => ⟨below_cell hb ckr, below_cell hb ckr2⟩
            have HTX : Hid (formW (headW (tx (xs[i]'hls))) = none → rs[i]'hlr = errT 1) := htx
            have HNE : Hid (rs[i]'hlr ≠ []) := hne
            clear ck ck2 hne htx
            generalize xs[i]'hls = s at *
            generalize rs[i]'hlr = r at *
            go_wp2_with fail
            go_loopw [9, 10] (fun u9 u10 W => Below w3.heap.size w3 W ∧ ∃ j : Nat, j ≤ s.size ∧ u10 = .int .i64 (j : Nat) ∧ u9 = .string (bt ((tx s).take j)) ∧ ∀ i (h : i < (tx s).length), i < j → (tx s)[i] ≠ 32) (fun _ u10 _ => s.size - (intOf u10).toNat)
            case atStart => exact ⟨Below.refl _ _, 0, Nat.zero_le _, rfl, rfl, fun i _ h => absurd h (Nat.not_lt_zero i)⟩
            case round =>
              obtain ⟨hb4, j, hj, rfl, rfl, hpre⟩ := hrel
              obtain ⟨w4, hw4⟩ : ∃ w4, w4 = wr := ⟨_, rfl⟩
              subst hw4
              obtain ⟨ckr4, ckr5⟩ := HCK.out w4 hb4
              have htl : (tx s).length = s.size := rfl
              have HPRE : Hid (∀ i (h : i < (tx s).length), i < j → (tx s)[i] ≠ 32) := hpre
              have hdone : ∀ (hw : headW (tx s) = (tx s).take j), True := fun _ => trivial
              clear hpre hdone ckr ckr2
              by_cases hjs : j < s.size
              · have hji : (j : Int) < (s.size : Int) := by omega
                have hsj : s[j] = (tx s)[j]'hjs := rfl
                by_cases hc : s[j] = 32
                · have HHW : Hid (headW (tx s) = (tx s).take j) := take_word HPRE.out (Or.inr ⟨hjs, hsj ▸ hc⟩)
                  have d5 : (((s[j].toNat : Nat) : Int) != 32) = false := by rw [hc]; rfl
                  have hfo := formOf_any (bt ((tx s).take j)) w4
                  clear hc hsj
                  go_wp2_with fail
                  refine hfo.mono ?_
                  rintro e w5 ⟨hh, nn, is, rfl, hcase, hb5⟩
                  have hb35 := below_then hb4 hb5
                  obtain ⟨q1, q2⟩ := HCK.out w5 hb35
                  have hb5w : Below w2.heap.size w2 w5 := below_then hb3 hb35
                  have hrn : ((bt r).toList == ([] : List UInt8)) = false := by
                    rw [ByteArray.toList_eq, beq_eq_false_iff_ne]
                    exact HNE.out
                  clear hfo hb4 hb5 ckr4 ckr5
                  rcases hcase with ⟨rfl, _⟩ | ⟨rfl, hfn⟩
                  · go_wp2_with fail
                    go_quiet (fail)
                    have hb6 : Below w2.heap.size w2 (w5.drewN nq) := below_drewN hb5w nq
                    go_wp2_with fail
                    go_roundw
                    case rel => exact ⟨hb6, i + 1, by omega, by go_num⟩
                    case measure => simp [intOf]; omega
                  · have hr1 : r = errT 1 := HTX.out (by rw [HHW.out]; exact hfn)
                    subst hr1
                    have het : ∀ W, Below w5.heap.size w5 W → Calls Tryz.prog 10 #[.int .i64 1] W fun e w' => e = .returned (.string (bt (errT 1))) ∧ Below w5.heap.size w5 w' := fun W hb => (errorText_any 1 (by decide) (by decide) W).mono fun _ _ ⟨h1, h2⟩ => ⟨h1, below_then hb h2⟩
                    have hq2 : ∀ W, Below w5.heap.size w5 W → W.cell? ⟨b2, o2 + i, none⟩ = some (.string (bt (errT 1))) := fun W hb => below_cell hb q2
                    have hself : ((bt (errT 1)).toList == (bt (errT 1)).toList) = true := beq_self_eq_true _
                    have hb5d : Below w5.heap.size w5 w5.drew := below_drewN (Below.refl _ _) 1
                    generalize bt (errT 1) = et at *
                    go_wp2_with fail
                    go_region_held3 (fun w' => Below w5.heap.size w5 w' ∧ w'.cell? ⟨b2, o2 + i, none⟩ = some (.string et))
                      (first | exact ⟨by assumption, hq2 _ (by assumption)⟩)
                      (first
                        | (go_at_call 10; refine (het _ (by assumption)).mono ?_; rintro e w6 ⟨rfl, hb6⟩))
                    all_goals
                      have hb7 := below_then hb5w hb6
                      go_wp2_with fail
                      go_roundw
                      case rel => exact ⟨hb7, i + 1, by omega, by go_num⟩
                      case measure => simp [intOf]; omega
                · have d4 : ¬ s[j].toNat = 32 := fun e => hc (UInt8.toNat_inj.1 e)
                  have d5 : (((s[j].toNat : Nat) : Int) != 32) = true := by
                    rw [bne_iff_ne]
                    omega
                  have hbs : (bt ((tx s).take j)).size ≤ 100 := by
                    have h1 : (bt ((tx s).take j)).size = ((tx s).take j).length := by simp [bt, ByteArray.size]
                    rw [h1, List.length_take]
                    omega
                  have hov : ¬ 9223372036854775807 < (bt ((tx s).take j)).size + (min (j + 1) s.size - j) := by omega
                  have HPN : Hid (∀ i (h : i < (tx s).length), i < j + 1 → (tx s)[i] ≠ 32) := fun i h hi => by
                    by_cases e : i = j
                    · subst e; exact hsj ▸ hc
                    · exact HPRE.out i h (by omega)
                  have HBX : Hid (bt ((tx s).take j) ++ s.extract j (j + 1) = bt ((tx s).take (j + 1))) := by
                    show _ = _
                    have e1 : s = bt (tx s) := (bt_back s).symm
                    have e2 := bt_extract (tx s) j (j + 1)
                    rw [← e1] at e2
                    rw [e2, bt_append]
                    exact congrArg bt (take_one hjs)
                  clear hc hsj d4
                  go_wp2
                  exact ⟨⟨hb4, j + 1, by omega, by go_num, congrArg Value.string HBX.out, HPN.out⟩, by simp [intOf]; omega⟩
              · obtain rfl : j = s.size := by omega
                have HHW : Hid (headW (tx s) = (tx s).take s.size) := take_word HPRE.out (Or.inl rfl)
                have hd5 : decide ((s.size : Int) < (s.size : Int)) = false := by simp
                have hfo := formOf_any (bt ((tx s).take s.size)) w4
                go_wp2_with fail
                refine hfo.mono ?_
                rintro e w5 ⟨hh, nn, is, rfl, hcase, hb5⟩
                have hb35 := below_then hb4 hb5
                obtain ⟨q1, q2⟩ := HCK.out w5 hb35
                have hb5w : Below w2.heap.size w2 w5 := below_then hb3 hb35
                have hrn : ((bt r).toList == ([] : List UInt8)) = false := by
                  rw [ByteArray.toList_eq, beq_eq_false_iff_ne]
                  exact HNE.out
                clear hfo hb4 hb5 ckr4 ckr5
                rcases hcase with ⟨rfl, _⟩ | ⟨rfl, hfn⟩
                · go_wp2_with fail
                  go_quiet (fail)
                  have hb6 : Below w2.heap.size w2 (w5.drewN nq) := below_drewN hb5w nq
                  go_wp2_with fail
                  go_roundw
                  case rel => exact ⟨hb6, i + 1, by omega, by go_num⟩
                  case measure => simp [intOf]; omega
                · have hr1 : r = errT 1 := HTX.out (by rw [HHW.out]; exact hfn)
                  subst hr1
                  have het : ∀ W, Below w5.heap.size w5 W → Calls Tryz.prog 10 #[.int .i64 1] W fun e w' => e = .returned (.string (bt (errT 1))) ∧ Below w5.heap.size w5 w' := fun W hb => (errorText_any 1 (by decide) (by decide) W).mono fun _ _ ⟨h1, h2⟩ => ⟨h1, below_then hb h2⟩
                  have hq2 : ∀ W, Below w5.heap.size w5 W → W.cell? ⟨b2, o2 + i, none⟩ = some (.string (bt (errT 1))) := fun W hb => below_cell hb q2
                  have hself : ((bt (errT 1)).toList == (bt (errT 1)).toList) = true := beq_self_eq_true _
                  have hb5d : Below w5.heap.size w5 w5.drew := below_drewN (Below.refl _ _) 1
                  generalize bt (errT 1) = et at *
                  go_wp2_with fail
                  go_region_held3 (fun w' => Below w5.heap.size w5 w' ∧ w'.cell? ⟨b2, o2 + i, none⟩ = some (.string et))
                    (first | exact ⟨by assumption, hq2 _ (by assumption)⟩)
                    (first
                      | (go_at_call 10; refine (het _ (by assumption)).mono ?_; rintro e w6 ⟨rfl, hb6⟩))
                  all_goals
                    have hb7 := below_then hb5w hb6
                    go_wp2_with fail
                    go_roundw
                    case rel => exact ⟨hb7, i + 1, by omega, by go_num⟩
                    case measure => simp [intOf]; omega
          · obtain rfl : i = k := by omega
            have hbz := below_then HB2.out hb3
            go_wp2
            go_ret
            exact ⟨rfl, hbz⟩
set_option maxHeartbeats 1000000 in
theorem reads_long (hS : ScriptC) (a : Nat → Addr) (p : Option Addr) (c n : Nat) (w : World) (he : hS.E a w) (hl : n ≤ maxLen) (h : 110 < n) :
    Calls Tryz.prog 3 #[.slice p n c] w fun e w' => e = .returned (.bool true) ∧ Below w.heap.size w w' := by
  have hhel := hello_any hS a w he
  unfold maxLen at hl
  have d1 : decide (110 < (n : Int)) = true := by simp; omega
  clear he
  go_enter Tryz.func3, Tryz.ntmps3
  go_wp2_with fail
  refine hhel.mono ?_
  rintro e w1 ⟨rfl, hb1⟩
  clear hhel
  go_wp2
  go_ret
  exact ⟨rfl, hb1⟩
/-- ScriptReads of any lines. -/
theorem reads_any (hS : ScriptC) (a : Nat → Addr) (v : Value) (xs : List ByteArray) (w : World) (he : hS.E a w) (hE : Errs a w) (hv : Strs1 w v xs) (hl : xs.length ≤ maxLen) (hsz : ∀ k (h : k < xs.length), (xs[k]).size ≤ maxLen) :
    Calls Tryz.prog 3 #[v] w fun e w' => e = .returned (.bool true) ∧ Below w.heap.size w w' := by
  obtain ⟨p, c, rfl, hx⟩ := strs1_sl hv
  by_cases h : 110 < xs.length
  · exact reads_long hS a p c xs.length w he hl h
  · exact reads_core hS a p c xs.length xs w he hE rfl hx hsz (by omega)
end Go.Proofs.YtfhmfjcpggddkaaGreatDoor

/- The law ScriptAgain, over the landed package's contract. -/
namespace Go.Proofs.YtfhmfjcpggddkaaGreatDoor
open Go.RowKit Lh

theorem Strs1.cut {w : World} {p : Option Addr} {c n : Nat} {xs : List ByteArray} (h : Strs1 w (.slice p n c) xs) (hn : xs.length = n) {m : Nat} (hm : m ≤ n) : m ≤ c ∧ Strs1 w (.slice p m c) (xs.take m) := by
  subst hn
  rcases h with ⟨rfl, e | ⟨ad, c', e⟩⟩ | ⟨b, o, c', e, hcap, hc⟩
  · injection e with e1 _ e3
    subst e1
    subst e3
    obtain rfl : m = 0 := by simpa using hm
    exact ⟨Nat.le_refl _, Or.inl ⟨rfl, Or.inl rfl⟩⟩
  · injection e with e1 _ e3
    subst e1
    subst e3
    obtain rfl : m = 0 := by simpa using hm
    exact ⟨Nat.zero_le _, Or.inl ⟨rfl, Or.inr ⟨_, _, rfl⟩⟩⟩
  · injection e with e1 _ e3
    subst e1
    subst e3
    refine ⟨by omega, Or.inr ⟨b, o, c, by rw [List.length_take, Nat.min_eq_left hm], by rw [List.length_take]; omega, fun k hk => ?_⟩⟩
    have hk' : k < xs.length := by rw [List.length_take] at hk; omega
    rw [hc k hk', List.getElem_take]
end Go.Proofs.YtfhmfjcpggddkaaGreatDoor

/- The law's model of a script: texts put together, an error or a text. -/
namespace Go.Proofs.YtfhmfjcpggddkaaGreatDoor
open Go.RowKit Lh

theorem joinS_len {y : List UInt8} {m : Nat} : ∀ {ws : List (List UInt8)}, (∀ x ∈ ws, x.length ≤ m) → (joinS y ws).length ≤ ws.length * (m + y.length)
  | [], _ => by simp [joinS]
  | [w], h => by
    have := h w (by simp)
    show w.length ≤ 1 * (m + y.length)
    omega
  | u :: v :: ws, h => by
    have h1 := joinS_len (y := y) (ws := v :: ws) fun z hz => h z (by simp [hz])
    have h2 := h u (by simp)
    have h3 : (joinS y (u :: v :: ws)).length = u.length + (y.length + (joinS y (v :: ws)).length) := by simp [joinS]
    rw [h3, List.length_cons, Nat.succ_mul]
    omega
theorem joinL_joinS (y : UInt8) : ∀ (ws : List (List UInt8)), joinL y ws = joinS [y] ws
  | [] => rfl
  | [w] => rfl
  | u :: v :: ws => by
    have := joinL_joinS y (v :: ws)
    show u ++ y :: joinL y (v :: ws) = u ++ ([y] ++ joinS [y] (v :: ws))
    rw [this]
    rfl
end Go.Proofs.YtfhmfjcpggddkaaGreatDoor

/- What the laws of a play ask of the landed package. -/
namespace Go.Proofs.YtfhmfjcpggddkaaGreatDoor
open Go.RowKit

/-- a duo: two balances, their blocks; the block that holds both; where they begin -/
structure DR where
  A : Lh.Bl
  B : Lh.Bl
  FA : Nat → Prop
  FB : Nat → Prop
  d : Nat
  p : Nat
  q : Nat
def DR.F (x : DR) (b : Nat) : Prop := x.FA b ∨ x.FB b ∨ b = x.d
section
variable {hC : BalanceC} {x y z x' : DR} {W W' : World}
end
end Go.Proofs.YtfhmfjcpggddkaaGreatDoor

/- What a play asks of the landed balance besides its contracts. -/
namespace Go.Proofs.YtfhmfjcpggddkaaGreatDoor
open Go.RowKit

/-- all that a balance owns lies behind K, and what it asks of the variables lies ahead of K -/
structure BalP (hC : BalanceC) where
  K : Nat
  low : ∀ {a : Nat → Addr} {W : World}, hC.E a W → K ≤ W.heap.size
  rep : ∀ {S : Lh.Bl} {F : Nat → Prop} {p : Nat} {W : World}, hC.Rep S F p W → ∀ b, F b → K ≤ b
  tur : ∀ {a : Nat → Addr} {F : Nat → Prop} {W W' : World}, hC.E a W → Tur F W W' → (∀ b, F b → K ≤ b) → hC.E a W'
  errs : ∀ {a : Nat → Addr} {W : World}, hC.E a W → Errs a W
  x : ∀ {a : Nat → Addr} {W : World}, hC.E a W → hC.X a W

theorem evOf_is {a : Nat → Addr} {W : World} {c : Nat} {ev : Value} (h : EvOf a c ev) (hc : c ≤ 9) : ErrIs a W c (-1) ev := by
  rcases h with ⟨rfl, rfl⟩ | ⟨j, rfl, rfl⟩
  · exact Or.inl ⟨rfl, rfl, rfl⟩
  · exact Or.inr ⟨j, by omega, rfl, Or.inl ⟨rfl, rfl⟩⟩
theorem pickR_c {nw : List ByteArray → Nat → Nat → ByteArray} {S S' : Lh.Bl} {k : Nat} {now : Int} {s : ByteArray} {kept : Bool} {c : Nat} (h : PickR nw S k now S' s kept c) : c ≤ 9 := by
  rcases h with ⟨j, hf, _, _, _, rfl⟩ | ⟨_, _, _, rfl, _⟩ | ⟨_, _, _, _, _, rfl, _⟩ | ⟨_, _, _, _, _, rfl, _⟩
  · rcases hf with ⟨_, rfl⟩ | ⟨_, _, _, rfl⟩ <;> decide
  all_goals decide
theorem lookR_c {S S' : Lh.Bl} {s : ByteArray} {w t : Bool} {c : Nat} (h : LookR S s w S' t c) : c ≤ 9 := by
  rcases h with ⟨_, _, rfl, _⟩ | ⟨_, _, rfl, _⟩ <;> decide
theorem drainR_c {S S' : Lh.Bl} {s : ByteArray} {w : Bool} {c : Nat} (h : DrainR S s w S' c) : c ≤ 9 := by
  rcases h with ⟨_, rfl, _⟩ | ⟨_, rfl, _⟩ <;> decide
theorem exportR_c {S S' : Lh.Bl} {s : ByteArray} {c : Nat} (h : ExportR S S' s c) : c ≤ 9 := by
  rcases h with ⟨_, _, rfl, _⟩ | ⟨_, _, rfl, _⟩ <;> decide

theorem Tur.wideP {F G : Nat → Prop} {w w1 : World} (h : Tur F w w1) (hG : ∀ b, F b → G b) : Tur G w w1 := ⟨h.os, h.tape, h.output, h.size, fun k hk hf => h.block k hk fun hb => hf (hG k hb)⟩
theorem tur_setP (W : World) (g i : Nat) (v : Value) : Tur (fun b => b = g) W (W.setCell ⟨g, i, none⟩ v) :=
  ⟨rfl, rfl, rfl, by simp [World.setCell], fun j _ hf => heap_setCell_other W ⟨g, i, none⟩ j v fun e => hf e⟩
def DR.ptr (x : DR) (b : Bool) : Nat := if b then x.q else x.p
def DR.put (x : DR) (b : Bool) (S : Lh.Bl) (F : Nat → Prop) : DR := if b then { x with B := S, FB := F } else { x with A := S, FA := F }
section
variable {hC : BalanceC} {hB : BalP hC} {a : Nat → Addr} {g : Nat} {x y z : DR} {now : Int} {W W' W'' : World}
end
end Go.Proofs.YtfhmfjcpggddkaaGreatDoor

/- The landed script: its small functions. -/
namespace Go.Proofs.YtfhmfjcpggddkaaGreatDoor
open Go.RowKit Lh

theorem join_lib (y : List UInt8) : ∀ ws : List (List UInt8), Lib.join ws y = joinS y ws
  | [] => rfl
  | [w] => Lib.join_one w y
  | u :: v :: ws => by
    have h := join_lib y (v :: ws)
    rw [Lib.join_cons] at h ⊢
    show u ++ ((y ++ v) ++ Lib.joinTail y ws) = u ++ (y ++ joinS y (v :: ws))
    rw [← h, List.append_assoc]
theorem tx_bt (l : List UInt8) : tx (bt l) = l := rfl
/-- strings.Join of texts -/
theorem joinT_any (v : Value) (xs : List ByteArray) (y : ByteArray) (W : World) (hv : Strs1 W v xs) (hl : xs.length ≤ 1000) (hs : ∀ s ∈ xs, s.size ≤ 1000) (hy : y.size ≤ 10) :
    Calls Tryz.prog 42 #[v, .string y] W fun r w' => r = .returned (.string (bt (joinS (tx y) (xs.map tx)))) ∧ Below W.heap.size W w' := by
  have hlen : (joinS (tx y) (xs.map tx)).length ≤ 140737488355328 := by
    have h1 : ∀ x ∈ xs.map tx, x.length ≤ 1000 := by
      intro x hx
      obtain ⟨s, hs', rfl⟩ := List.mem_map.1 hx
      have h5 := hs s hs'
      rw [Lib.size_eq] at h5
      exact h5
    have h2 := joinS_len (y := tx y) h1
    have h3 : (tx y).length ≤ 10 := by
      have h5 := hy
      rw [Lib.size_eq] at h5
      exact h5
    rw [List.length_map] at h2
    have h4 : xs.length * (1000 + (tx y).length) ≤ 1000 * 1010 := Nat.mul_le_mul hl (by omega)
    omega
  rcases hv with ⟨rfl, rfl | ⟨ad, c, rfl⟩⟩ | ⟨b, o, c, rfl, hcap, hc⟩
  · exact (Any.strings_Join_none lays156 Builder_Extra_156 none 0 y W).mono fun e w' ⟨he, hw⟩ => ⟨he, hw ▸ Below.refl _ _⟩
  · exact (Any.strings_Join_none lays156 Builder_Extra_156 (some ad) c y W).mono fun e w' ⟨he, hw⟩ => ⟨he, hw ▸ Below.refl _ _⟩
  · by_cases h0 : xs = []
    · subst h0
      exact (Any.strings_Join_none lays156 Builder_Extra_156 (some ⟨b, o, none⟩) c y W).mono fun e w' ⟨he, hw⟩ => ⟨he, hw ▸ Below.refl _ _⟩
    · have e : Lib.join (xs.map (·.data.toList)) y.data.toList = joinS (tx y) (xs.map tx) := join_lib _ _
      have h := Any.strings_Join lays156 Builder_Extra_156 b o c xs y W (fun j s hj => by
        obtain ⟨hj', rfl⟩ := List.getElem?_eq_some_iff.1 hj
        exact hc j hj') (World.block_lt_of_cell? W _ (hc 0 (List.length_pos_iff.2 h0))) (by omega) hcap (by rw [e]; exact hlen)
      rw [e] at h
      exact h
theorem listed_any (v : Value) (xs : List ByteArray) (y : ByteArray) (W : World) (hv : Strs1 W v xs) (hl : xs.length ≤ 1000) (hs : ∀ s ∈ xs, s.size ≤ 1000) (hy : y.size ≤ 10) :
    Calls Tryz.prog 54 #[v, .string y] W fun r w' => r = .returned (.string (bt (joinedS (tx y) (xs.map tx)))) ∧ Below W.heap.size W w' := by
  obtain ⟨p, c, rfl, _⟩ := strs1_sl hv
  have hj := joinT_any _ xs y W hv hl hs hy
  by_cases h0 : xs = []
  · subst h0
    go_enter Tryz.func54, Tryz.ntmps54
    go_wp2
    go_ret
    exact ⟨rfl, Below.refl _ _⟩
  · have hp := List.length_pos_iff.2 h0
    have hne : ((xs.length : Int) == 0) = false := by rw [beq_eq_false_iff_ne]; omega
    have hne2 : ¬ xs.length = 0 := by omega
    have HR : Hid (joinedS (tx y) (xs.map tx) = joinS (tx y) (xs.map tx)) := by
      show _ = _
      unfold joinedS
      rw [if_neg (by simpa using h0)]
    clear h0 hp hs hv
    go_enter Tryz.func54, Tryz.ntmps54
    go_wp2_with fail
    refine hj.mono ?_
    rintro e w' ⟨rfl, hb⟩
    go_wp2
    go_ret
    exact ⟨by rw [HR.out]; rfl, hb⟩
theorem either_any (is : Bool) (x y : ByteArray) (W : World) : Calls Tryz.prog 49 #[.bool is, .string x, .string y] W fun e w' => e = .returned (.string (if is then x else y)) ∧ w' = W := by
  cases is
  · go_enter Tryz.func49, Tryz.ntmps49
    go_wp2
    go_ret
    exact ⟨rfl, rfl⟩
  · go_enter Tryz.func49, Tryz.ntmps49
    go_wp2
    go_ret
    exact ⟨rfl, rfl⟩
theorem digits_any {a : Nat → Addr} (n : Nat) (hn : n ≤ 9223372036854775807) (ev : Value) (w : World) (he : EC a w) : Calls Tryz.prog 36 #[.int .i64 (n : Nat), ev] w fun e w' => e = .returned (.tuple #[.string (bt (decL n)), ev]) ∧ Below w.heap.size w w' := by
  have h := itoa_any n hn w he
  go_enter Tryz.func36, Tryz.ntmps36
  go_wp2_with fail
  refine h.mono ?_
  rintro e w' ⟨rfl, hb⟩
  go_wp2
  go_ret2
  exact ⟨rfl, hb⟩
end Go.Proofs.YtfhmfjcpggddkaaGreatDoor

/- The landed script: what a command leaves. -/
namespace Go.Proofs.YtfhmfjcpggddkaaGreatDoor
open Go.RowKit Lh

/-- a text, or an error -/
def AnsE (a : Nat → Addr) (W' : World) (ans : List UInt8) (e : Ending) : Prop := ∃ tv ev c pl, e = .returned (.tuple #[.string tv, ev]) ∧ ErrIs a W' c pl ev ∧ ((c = 0 ∧ tv = bt ans) ∨ (c ≠ 0 ∧ ans = errT c ∧ Told (c - 1)))
theorem ansE_ok {a : Nat → Addr} {W' : World} {ans : List UInt8} {tv : ByteArray} (h : tv = bt ans) : AnsE a W' ans (.returned (.tuple #[.string tv, .nilIface])) := ⟨tv, .nilIface, 0, -1, rfl, Or.inl ⟨rfl, rfl, rfl⟩, Or.inl ⟨rfl, h⟩⟩
theorem ansE_err {a : Nat → Addr} {W' : World} {c : Nat} {pl : Int} {ev : Value} {tv : ByteArray} (h : ErrIs a W' c pl ev) (h0 : c ≠ 0) (ht : Told (c - 1)) : AnsE a W' (errT c) (.returned (.tuple #[.string tv, ev])) := ⟨tv, ev, c, pl, rfl, h, Or.inr ⟨h0, rfl, ht⟩⟩
theorem ansE_ev {a : Nat → Addr} {W' : World} {c : Nat} {ev : Value} {ans : List UInt8} {tv : ByteArray} (h : EvOf a c ev) (hc : c ≤ 9) (h7 : c ≠ 7) (h9 : c ≠ 9) (ht : c = 0 → tv = bt ans) : AnsE a W' (if c = 0 then ans else errT c) (.returned (.tuple #[.string tv, ev])) := by
  by_cases h0 : c = 0
  · rw [if_pos h0]
    exact ⟨tv, ev, c, -1, rfl, evOf_is h hc, Or.inl ⟨h0, ht h0⟩⟩
  · rw [if_neg h0]
    exact ⟨tv, ev, c, -1, rfl, evOf_is h hc, Or.inr ⟨h0, rfl, errTold hc h7 h9⟩⟩
/-- what a command leaves -/
def CmdE (w0 : World) (a : Nat → Addr) (p q m : Nat) (F : Nat → Prop) (st : Option Sc) (c : Cm) (W : World) (e : Ending) (W' : World) : Prop :=
  ∃ st' F' ans, CmR nwB st c st' ans ∧ AnsE a W' ans e ∧ PlC w0 a p q m F' W' ∧ PlIs st' F' p W' ∧ (∀ b, F' b → F b ∨ W.heap.size ≤ b) ∧ Tur (fun b => F b ∨ b = p) W W'
section
variable {w0 W wa W' : World} {a : Nat → Addr} {p q m r g cap : Nat} {F F' : Nat → Prop} {S : Sc}
theorem cmd_turned (hP : PlC w0 a p q m F W) (hY : PlY S F p r g cap W) (hn : S.hosts ≠ []) (hba : Below W.heap.size W wa) (hT : Tur F wa W') (hF : ∀ b, F' b → F b ∨ wa.heap.size ≤ b) {b' : Bl} (hR : RepB b' F' r W') :
    PlC w0 a p q m F' W' ∧ PlIs (some { S with b := b' }) F' p W' ∧ (∀ b, F' b → F b ∨ W.heap.size ≤ b) ∧ Tur (fun b => F b ∨ b = p) W W' := by
  have hpF : ¬ F p := fun h => (hP.F0 p h).2.1 rfl
  have hPa := hP.later hba
  have hYa := hY.later hpF hn hba
  have hT' : Tur (fun b => F b ∨ b = p) wa W' := hT.wideP fun b hb => Or.inl hb
  refine ⟨hPa.tur hT' hF fun k => (World.frozen?_of_block (w := wa) (w' := W') (a := ⟨p, k, none⟩) (hT.block p hPa.pl hpF)).trans (hPa.fz k), Or.inr ⟨_, r, g, cap, rfl, hYa.turned hpF hn hT hF hR⟩, fun b hb => ?_, (Tur.of_below hba).trans hT' fun b hb => Or.inl hb⟩
  rcases hF b hb with h | h
  · exact Or.inl h
  · exact Or.inr (Nat.le_trans hba.size h)
theorem cmd_below (hP : PlC w0 a p q m F W) (hY : PlY S F p r g cap W) (hn : S.hosts ≠ []) (hb : Below W.heap.size W W') :
    PlC w0 a p q m F W' ∧ PlIs (some S) F p W' ∧ (∀ b, F b → F b ∨ W.heap.size ≤ b) ∧ Tur (fun b => F b ∨ b = p) W W' :=
  ⟨hP.later hb, Or.inr ⟨S, r, g, cap, rfl, hY.later (fun h => (hP.F0 p h).2.1 rfl) hn hb⟩, fun _ h => Or.inl h, Tur.of_below hb⟩
end
theorem nums_at {W : World} {B : Nat} {vn : Value} {N : List Nat} (h : W.ownsRow B 3 1 vn N.length (N.map fun n => .int .i64 (n : Nat))) (hn : 0 < N.length) : ∃ nb cn, vn = .slice (some ⟨nb, 0, none⟩) N.length cn ∧ B ≤ nb ∧ N.length ≤ cn ∧ ∀ i (hi : i < N.length), W.cell? ⟨nb, i, none⟩ = some (.int .i64 (N[i] : Nat)) := by
  have hc := fun g => h.cells (g := g)
  rcases h.2 with ⟨_, h0⟩ | ⟨g, cap, cur, rfl, hb, _, hle, _⟩
  · omega
  · refine ⟨g, cap, rfl, hb, hle, fun i hi => ?_⟩
    have := hc g rfl i (.int .i64 (N[i] : Nat)) (by simp [hi])
    simpa [Lib.add_plain] using this
theorem hosts_at {W : World} {B : Nat} {vh : Value} {H : List ByteArray} (h : W.ownsRow B 9 1 vh H.length (H.map Value.string)) (hn : 0 < H.length) : ∃ hb ch, vh = .slice (some ⟨hb, 0, none⟩) H.length ch ∧ B ≤ hb ∧ H.length ≤ ch ∧ ∀ i (hi : i < H.length), W.cell? ⟨hb, i, none⟩ = some (.string H[i]) := by
  have hc := fun g => h.cells (g := g)
  rcases h.2 with ⟨_, h0⟩ | ⟨g, cap, cur, rfl, hb, _, hle, _⟩
  · omega
  · refine ⟨g, cap, rfl, hb, hle, fun i hi => ?_⟩
    have := hc g rfl i (.string H[i]) (by simp [hi])
    simpa [Lib.add_plain] using this
end Go.Proofs.YtfhmfjcpggddkaaGreatDoor
