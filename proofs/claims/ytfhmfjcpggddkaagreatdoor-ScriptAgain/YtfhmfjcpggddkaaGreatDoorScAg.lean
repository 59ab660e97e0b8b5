/- The law ScriptAgain, over the landed package's contract. -/
import Derived.Test.YtfhmfjcpggddkaaGreatDoorM30
namespace Go.Proofs.YtfhmfjcpggddkaaGreatDoor
open Go.RowKit Lh

/-- a line of the law: its word, its hosts, its numbers -/
structure Ln where
  w : ByteArray
  H : List ByteArray
  N : List Int
def LnsAt (W : World) (p : Option Addr) (l : List Ln) : Prop := ∀ k (h : k < l.length), ∃ b o hv nv, p = some ⟨b, o, none⟩ ∧ W.cell? ⟨b, o + k * 3, none⟩ = some (.string l[k].w) ∧ W.cell? ⟨b, o + k * 3 + 1, none⟩ = some hv ∧ W.cell? ⟨b, o + k * 3 + 2, none⟩ = some nv ∧ Strs1 W hv l[k].H ∧ Ints W nv l[k].N
structure LnOk (x : Ln) : Prop where
  w : x.w.size ≤ maxLen
  hl : x.H.length ≤ maxLen
  hs : ∀ k (h : k < x.H.length), (x.H[k]).size ≤ maxLen
  nl : x.N.length ≤ maxLen
/-- texts as a caller hands them over -/
def StrsP (w : World) (v : Value) (xs : List ByteArray) : Prop := (xs = [] ∧ v = .slice none 0 0) ∨ ∃ ad c, v = .slice (some ad) xs.length c ∧ xs.length ≤ c ∧ ∀ j u, (xs.map Value.string)[j]? = some u → w.cell? (ad.add j) = some u
/-- 'append(own, l...)' where own is nil, at the operation. -/
theorem wpList_append_strsP (w : World) {ops : Array Oper} {rest : List Oper} {o : Oper} {a : Act} {Q : Exit → Act → World → Prop} (hgd : o.guard = none) (s x : Operand)
    (ho : o.op = .call { callee := .builtin .append, args := #[s, x], argTypes := #[22, 22] }) (hs : a.eval s = .slice none 0 0) (v : Value) (xs : List ByteArray) (hx : a.eval x = v) (hv : StrsP w v xs) (hm : xs.length ≤ 1000000)
    (h : ∀ v' w', w'.ownsRow w.heap.size 9 1 v' xs.length (xs.map Value.string) → w.grownBy w' none → wpList Tryz.prog ops Q rest (a.put o.dst v') w') : wpList Tryz.prog ops Q (o :: rest) a w := by
  obtain ⟨i, hi, hz0, hz1, hz2⟩ := info_parts infoS
  rcases hv with ⟨rfl, rfl⟩ | ⟨ad, c, rfl, _, hc⟩
  · exact wpList_append_own_none hgd s x 22 ho w.heap.size 9 i 1 Tryz.underlying22 hi (.slice none 0 0) 0 [] hs (World.ownsRow_nil _ _ _ _) hx (h _ _ (World.ownsRow_nil _ _ _ _) ⟨rfl, rfl, rfl, Nat.le_refl _, fun _ _ _ => rfl⟩)
  · refine wpList_append_own w hgd s x 22 ho w.heap.size 9 i _ 1 16 Tryz.underlying22 hi hz0 hz1 hz2 rfl (by decide) (.slice none 0 0) 0 [] hs (World.ownsRow_nil _ _ _ _) ad xs.length c (xs.map Value.string) hx (by simp) hc (strs_oneCell xs) (by unfold maxLen; omega) (by omega) (Nat.le_refl _) ?_
    intro v' w' h1 h2 _
    refine h v' w' ?_ h2
    simpa using h1
theorem owns_strsP {w : World} {base : Nat} {v : Value} {xs : List ByteArray} (h : w.ownsRow base 9 1 v xs.length (xs.map Value.string)) : StrsP w v xs := by
  obtain ⟨hl, ⟨rfl, h0⟩ | ⟨g, cap, cur, rfl, hbase, hb, hn, hm, hsz, ht⟩⟩ := h
  · exact Or.inl ⟨List.length_eq_zero_iff.1 h0, rfl⟩
  · refine Or.inr ⟨⟨g, 0, none⟩, cap, rfl, by omega, fun j u hu => ?_⟩
    obtain ⟨hj, rfl⟩ := List.getElem?_eq_some_iff.1 hu
    have hj' : j < xs.length := by simpa using hj
    have hk' : (cur.toList.take (xs.length * 1))[j]? = some ((xs.map Value.string)[j]) := by rw [ht]; exact List.getElem?_eq_getElem hj
    rw [List.getElem?_take_of_lt (by omega)] at hk'
    rw [Addr.add_lit]
    simp only [World.cell?, hb, Nat.zero_add]
    simpa using hk'
theorem StrsP.take {w : World} {p : Option Addr} {c : Nat} {xs : List ByteArray} (h : StrsP w (.slice p xs.length c) xs) {m : Nat} (hm : m ≤ xs.length) : m ≤ c ∧ Strs1 w (.slice p m c) (xs.take m) := by
  rcases h with ⟨rfl, e⟩ | ⟨ad, c', e, hcc, hc⟩
  · injection e with e1 _ e3
    subst e1
    subst e3
    obtain rfl : m = 0 := by simpa using hm
    exact ⟨Nat.le_refl _, Or.inl ⟨rfl, Or.inl rfl⟩⟩
  · injection e with e1 _ e3
    subst e1
    subst e3
    refine ⟨by omega, ?_⟩
    by_cases h0 : m = 0
    · subst h0
      exact Or.inl ⟨rfl, Or.inr ⟨_, _, rfl⟩⟩
    · obtain ⟨b, o, sp⟩ := ad
      have hsp : sp = none := by
        have := hc 0 (.string (xs[0]'(by omega))) (by simp)
        have h2 := World.cell?_spot this
        simpa [Addr.add] using h2
      subst hsp
      refine Or.inr ⟨b, o, c, by rw [List.length_take, Nat.min_eq_left hm], by rw [List.length_take]; omega, fun k hk => ?_⟩
      have hk' : k < xs.length := by rw [List.length_take] at hk; omega
      have := hc k (.string xs[k]) (by simp [hk'])
      rw [Addr.add_lit] at this
      rw [this, List.getElem_take]
theorem Strs1.cut {w : World} {p : Option Addr} {c n : Nat} {xs : List ByteArray} (h : Strs1 w (.slice p n c) xs) (hn : xs.length = n) {m : Nat} (hm : m ≤ n) : m ≤ c ∧ Strs1 w (.slice p m c) (xs.take m) := by
  subst hn
  rcases h with ⟨rfl, e | ⟨ad, c', e⟩⟩ | ⟨b, o, c', e, hcap, hc⟩
  · injection e with e1 _ e3
    subst e1
    subst e3
    obtain rfl : m = 0 := by simpa using hm
    exact ⟨Nat.le_refl _, Or.inl ⟨rfl, Or.inl rfl⟩⟩
  · injection e with e1 _ e3
    subst e1
    subst e3
    obtain rfl : m = 0 := by simpa using hm
    exact ⟨Nat.zero_le _, Or.inl ⟨rfl, Or.inr ⟨_, _, rfl⟩⟩⟩
  · injection e with e1 _ e3
    subst e1
    subst e3
    refine ⟨by omega, Or.inr ⟨b, o, c, by rw [List.length_take, Nat.min_eq_left hm], by rw [List.length_take]; omega, fun k hk => ?_⟩⟩
    have hk' : k < xs.length := by rw [List.length_take] at hk; omega
    rw [hc k hk', List.getElem_take]
theorem line_size {c : Cm} {hh : Int} {n : Nat} (h : CmOk c hh n) (hw : c.w.length ≤ 60) (hl : c.H.length ≤ 30) (hn : c.N.length ≤ 5) : (bt (lineL c)).size ≤ 5000 := by
  rw [bt_size]
  have h1 : ∀ x ∈ c.H.map tx, x.length ≤ 12 := fun x hx => by
    obtain ⟨s, hs, rfl⟩ := List.mem_map.1 hx
    exact (nm_word (h.nm s hs)).2.2.2
  have h2 : ∀ x ∈ c.N.map decL, x.length ≤ 7 := fun x hx => by
    obtain ⟨k, hk, rfl⟩ := List.mem_map.1 hx
    exact decL_len (by decide) (by have := h.hi k hk; omega)
  have f1 := flatB_len h1
  have f2 := flatB_len h2
  rw [List.length_map] at f1 f2
  have g1 : c.H.length * (12 + 1) ≤ 30 * 13 := Nat.mul_le_mul hl (by decide)
  have g2 : c.N.length * (7 + 1) ≤ 5 * 8 := Nat.mul_le_mul hn (by decide)
  unfold lineL wordsOf
  split
  · rw [join_flat]
    have e : flatB (c.N.map decL ++ c.H.map fun s => s.data.toList) = flatB (c.N.map decL) ++ flatB (c.H.map tx) := by
      unfold flatB
      rw [List.flatMap_append]
      rfl
    rw [e, List.length_append, List.length_append]
    omega
  · rw [join_flat]
    have e : flatB ((c.H.map fun s => s.data.toList) ++ c.N.map decL) = flatB (c.H.map tx) ++ flatB (c.N.map decL) := by
      unfold flatB
      rw [List.flatMap_append]
      rfl
    rw [e, List.length_append, List.length_append]
    omega
set_option maxRecDepth 100000 in
set_option maxHeartbeats 4000000 in
theorem sagain_core (hS : ScriptC) (a : Nat → Addr) (p : Option Addr) (c n cut : Nat) (l : List Ln) (w : World) (he : hS.E a w) (hn : l.length = n) (hl : n ≤ 40) (hcut : cut ≤ n) (hla : LnsAt w p l) (hok : ∀ x ∈ l, LnOk x) :
    Calls Tryz.prog 4 #[.slice p n c, .int .i64 (cut : Nat)] w fun e w' => e = .returned (.bool true) ∧ Below w.heap.size w w' := by
  obtain ⟨i0, hi0, hz0, hz1, hz2⟩ := info_parts infoS
  have HE : Hid (hS.E a w) := he
  have HN : Hid (l.length = n) := hn
  have HLA : Hid (LnsAt w p l) := hla
  have HOK : Hid (∀ x ∈ l, LnOk x) := hok
  have hhel := hello_any hS a w he
  have d1 : decide (40 < (n : Int)) = false := by simp; omega
  have d2 : decide ((cut : Int) < 0) = false := by simp
  have d3 : ¬ n < cut := by omega
  clear he hn hla hok
  go_enter Tryz.func4, Tryz.ntmps4
  go_wp2_with fail
  refine hhel.mono ?_
  rintro e w1 ⟨rfl, hb1⟩
  have HB1 : Hid (Below w.heap.size w w1) := hb1
  clear hhel hb1
  go_wp2_with fail
  go_loopw [6, 7, 8] (fun u6 u7 u8 W => Below w1.heap.size w1 W ∧ ∃ (k ah : Nat) (ls : List ByteArray), k ≤ n ∧ u8 = .int .i64 (k : Nat) ∧ ls.length ≤ k ∧ ah ≤ ls.length ∧ u7 = .int .i64 (ah : Nat) ∧ (∀ s ∈ ls, s.size ≤ 5000) ∧ W.ownsRow w1.heap.size 9 1 u6 ls.length (ls.map Value.string)) (fun _ _ u8 _ => n - (intOf u8).toNat)
  case atStart => exact ⟨Below.refl _ _, 0, 0, [], Nat.zero_le _, rfl, Nat.le_refl _, Nat.le_refl _, rfl, (fun s hs => by cases hs), owns_nil _ _ _⟩
  case round =>
    obtain ⟨hbr, k, ah, ls, hk, rfl, hlk, hah, rfl, hss, hown⟩ := hrel
    obtain ⟨wo, hwo⟩ : ∃ wo, wo = wr := ⟨_, rfl⟩
    subst hwo
    have HSS : Hid (∀ s ∈ ls, s.size ≤ 5000) := hss
    have HOW : Hid (wo.ownsRow w1.heap.size 9 1 u6 ls.length (ls.map Value.string)) := hown
    obtain ⟨lp, lc, rfl⟩ : ∃ lp lc, u6 = .slice lp ls.length lc := by
      rcases hown.2 with ⟨rfl, hz⟩ | ⟨g, cap, cur, rfl, _⟩
      · exact ⟨none, 0, by rw [hz]⟩
      · exact ⟨_, _, rfl⟩
    clear hss hown
    by_cases hlt : k < n
    · have hls : k < l.length := by rw [HN.out]; exact hlt
      have hki : (k : Int) < (n : Int) := by omega
      obtain ⟨b, o, hv, nv, rfl, c0, c1, c2, hst, hin⟩ := HLA.out k hls
      have hbw := below_then HB1.out hbr
      have c0r := below_cell hbw c0
      have c1r := below_cell hbw c1
      have c2r := below_cell hbw c2
      have hstr := hst.later hbw
      have hinr := hin.later hbw
      have hokx := HOK.out _ (List.getElem_mem hls)
      clear c0 c1 c2 hst hin
      generalize l[k]'hls = x at *
      obtain ⟨xw, xH, xN⟩ := x
      obtain ⟨hw1, hl1, hs1, hn1⟩ := hokx
      simp only at c0r hstr hinr hw1 hl1 hs1 hn1
      have hlong := long_any hv xH wo hstr.strs hs1 hl1
      obtain ⟨np, nc, rfl⟩ : ∃ np nc, nv = .slice np xN.length nc := by
        rcases hinr with ⟨rfl, p, c, rfl⟩ | ⟨b, o, c, rfl, _⟩
        · exact ⟨_, _, rfl⟩
        · exact ⟨_, _, rfl⟩
      unfold maxLen at hw1 hn1
      by_cases t1 : 5 < xN.length
      · have t1' : decide (5 < (xN.length : Int)) = true := by simp; omega
        go_wp2
        go_ret
        exact ⟨rfl, hbw⟩
      have t1' : decide (5 < (xN.length : Int)) = false := by simp; omega
      by_cases t2 : 60 < xw.size
      · have t2' : decide (60 < (xw.size : Int)) = true := by simp; omega
        go_wp2
        go_ret
        exact ⟨rfl, hbw⟩
      have t2' : decide (60 < (xw.size : Int)) = false := by simp; omega
      go_wp2_with fail
      refine hlong.mono ?_
      rintro e w2 ⟨hlo, rfl⟩
      clear hlong
      rcases hlo with rfl | ⟨rfl, h30, h60⟩
      · go_wp2
        go_ret
        exact ⟨rfl, hbw⟩
      have hline := lineOf_any xw hv (.slice np xN.length nc) xH xN w2 ⟨hstr, hinr, by omega, h30, fun s hs => by
        obtain ⟨j, hj, rfl⟩ := List.getElem_of_mem hs
        exact h60 j hj, by omega⟩
      have HXS : Hid (xw.size ≤ 60 ∧ xH.length ≤ 30 ∧ xN.length ≤ 5) := ⟨by omega, h30, by omega⟩
      clear hstr hinr hs1 h60
      go_wp2_with fail
      refine hline.mono ?_
      intro e w3 hout
      obtain ⟨s, is, rfl, hcase, hb3⟩ := hout
      have hb13 := below_then hbr hb3
      have own3 := ownsRow_below HOW.out hb3
      clear hline hb3 c0r c1r c2r
      rcases hcase with rfl | ⟨cm, hh, nn, rfl, hcm, hcw, hcH, hcN, hs⟩
      · by_cases hkc : k < cut
        · have hd : (k : Int) < (cut : Int) := by omega
          have HO3 : Hid (w3.ownsRow w1.heap.size 9 1 (.slice lp ls.length lc) ls.length (ls.map Value.string)) := own3
          clear own3
          go_wp2_with fail
          go_roundw
          case rel => exact ⟨hb13, k + 1, ls.length, ls, by omega, by go_num, by omega, Nat.le_refl _, rfl, HSS.out, HO3.out⟩
          case measure => simp [intOf]; omega
        · have hd : ¬ (k : Int) < (cut : Int) := by omega
          have HO3 : Hid (w3.ownsRow w1.heap.size 9 1 (.slice lp ls.length lc) ls.length (ls.map Value.string)) := own3
          clear own3
          go_wp2_with fail
          go_roundw
          case rel => exact ⟨hb13, k + 1, ah, ls, by omega, by go_num, by omega, hah, rfl, HSS.out, HO3.out⟩
          case measure => simp [intOf]; omega
      · have hs5 : s.size ≤ 5000 := by
          rw [hs]
          refine line_size hcm ?_ ?_ ?_
          · rw [hcw]; exact HXS.out.1
          · rw [hcH]; exact HXS.out.2.1
          · have h1 := congrArg List.length hcN
            rw [List.length_map] at h1
            rw [← h1]
            exact HXS.out.2.2
        have HSN : Hid (∀ z ∈ ls ++ [s], z.size ≤ 5000) := fun z hz => by
          rcases List.mem_append.1 hz with q | q
          · exact HSS.out z q
          · obtain rfl : z = s := by simpa using q
            exact hs5
        have own4 := own3.alloc (.cells #[.string s] 9)
        have hmx : ls.length + 1 ≤ maxLen := by unfold maxLen; omega
        have hby : (ls.length + 1) * 16 ≤ 140737488355328 := by omega
        have hbs : w1.heap.size ≤ (w3.alloc (.cells #[.string s] 9)).heap.size := Nat.le_trans hb13.size (by simp)
        have hsz4 : (w3.alloc (.cells #[.string s] 9)).heap.size = w3.heap.size + 1 := by simp
        have hnews : ∀ j u, [Value.string s][j]? = some u → (w3.alloc (.cells #[.string s] 9)).cell? ((⟨w3.heap.size, 0, none⟩ : Addr).add j) = some u := fun j u hu => by
          match j with
          | 0 => simp at hu; subst hu; simp [Addr.add]
          | j + 1 => simp at hu
        have HO3 : Hid (∀ k, (Value.slice lp ls.length lc).ownBlock = some k → w1.heap.size ≤ k) := fun k hk => (own3.lt k hk).1
        have HLN : Hid ((ls ++ [s]).length = ls.length + 1) := by show _ = _; simp
        clear hcm hcw hcH hcN hs own3
        by_cases hkc : k < cut
        · have hd : (k : Int) < (cut : Int) := by omega
          go_wp2_with (at_builtin; refine wpList_append_lies _ rfl _ _ 22 rfl w1.heap.size 9 i0 _ 1 16 Tryz.underlying22 hi0 hz0 hz1 hz2 rfl (by decide) (.slice lp ls.length lc) ls.length (ls.map Value.string) rfl own4 ⟨w3.heap.size, 0, none⟩ 1 1 [.string s] rfl rfl hnews (fun u hu => by simp at hu; subst hu; rfl) (by decide) hmx hby hbs (w3.heap.size + 1) hsz4 ?_; intro g1 cap1 w5 hown5 hgr5 hor5 hlt5)
          have hb5 : Below w1.heap.size w1 w5 := (hb13.alloc hb13.size _).grown hgr5 (Nat.le_trans hb13.size (by simp)) fun k hk => HO3.out k hk
          have HO5 : Hid (w5.ownsRow w1.heap.size 9 1 (.slice (some ⟨g1, 0, none⟩) (ls.length + 1) cap1) (ls ++ [s]).length ((ls ++ [s]).map Value.string)) := by
            show World.ownsRow _ _ _ _ _ _ _
            rw [HLN.out, List.map_append]
            exact hown5
          clear own4 hnews hown5 hgr5 hor5 hlt5
          exact ⟨⟨hb5, k + 1, ls.length + 1, ls ++ [s], by omega, by go_num, by rw [HLN.out]; omega, by rw [HLN.out]; exact Nat.le_refl _, by go_num, HSN.out, HO5.out⟩, by simp [intOf]; omega⟩
        · have hd : ¬ (k : Int) < (cut : Int) := by omega
          go_wp2_with (at_builtin; refine wpList_append_lies _ rfl _ _ 22 rfl w1.heap.size 9 i0 _ 1 16 Tryz.underlying22 hi0 hz0 hz1 hz2 rfl (by decide) (.slice lp ls.length lc) ls.length (ls.map Value.string) rfl own4 ⟨w3.heap.size, 0, none⟩ 1 1 [.string s] rfl rfl hnews (fun u hu => by simp at hu; subst hu; rfl) (by decide) hmx hby hbs (w3.heap.size + 1) hsz4 ?_; intro g1 cap1 w5 hown5 hgr5 hor5 hlt5)
          have hb5 : Below w1.heap.size w1 w5 := (hb13.alloc hb13.size _).grown hgr5 (Nat.le_trans hb13.size (by simp)) fun k hk => HO3.out k hk
          have HO5 : Hid (w5.ownsRow w1.heap.size 9 1 (.slice (some ⟨g1, 0, none⟩) (ls.length + 1) cap1) (ls ++ [s]).length ((ls ++ [s]).map Value.string)) := by
            show World.ownsRow _ _ _ _ _ _ _
            rw [HLN.out, List.map_append]
            exact hown5
          clear own4 hnews hown5 hgr5 hor5 hlt5
          exact ⟨⟨hb5, k + 1, ah, ls ++ [s], by omega, by go_num, by rw [HLN.out]; omega, by rw [HLN.out]; omega, rfl, HSN.out, HO5.out⟩, by simp [intOf]; omega⟩
    · obtain rfl : k = n := by omega
      have hd8 : decide ((k : Int) < (k : Int)) = false := by simp
      have HB : Hid (Below w.heap.size w wo) := below_then HB1.out hbr
      have hP := owns_strsP HOW.out
      obtain ⟨hac, hst2⟩ := hP.take hah
      have hl9 : ls.length ≤ 40 := by omega
      have haci : (ah : Int) ≤ (lc : Int) := by omega
      have HPP : Hid (StrsP wo (.slice lp ls.length lc) ls) := hP
      have HS2 : Hid (Strs1 wo (.slice lp ah lc) (ls.take ah)) := hst2
      clear hst2 HOW
      go_wp2_with (at_builtin; refine wpList_append_strsP _ rfl _ _ rfl rfl _ ls rfl HPP.out (by omega) ?_; intro v5 w5 hown5 hgr5)
      have hb5 : Below wo.heap.size wo w5 := (Below.refl _ _).grown hgr5 (Nat.le_refl _) (fun _ h => by cases h)
      have hst5 : Strs1 w5 v5 ls := strs_of_owns hown5
      have hrun := hS.run a v5 ls w5 (hS.eLater HE.out (below_then HB.out hb5)) hst5 (by omega) HSS.out
      have HB5 : Hid (Below wo.heap.size wo w5) := hb5
      clear hown5 hgr5 hst5 hb5
      refine hrun.mono ?_
      rintro e w6 ⟨rs, st, v6, rfl, hv6, hL6, hb6⟩
      have hb56 := below_then HB5.out hb6
      have hbw6 := below_then HB.out hb56
      have hst7 := HS2.out.later hb56
      have hrun2 := hS.run a (.slice lp ah lc) (ls.take ah) w6 (hS.eLater HE.out hbw6) hst7 (by rw [List.length_take]; omega) (fun s hs => HSS.out s (List.mem_of_mem_take hs))
      have hlen6 : rs.length = ls.length := by rw [linesR_len hL6, List.length_map]
      have HL6 : Hid (LinesR hS.nw none (ls.map tx) rs st) := hL6
      have HV6 : Hid (Strs1 w6 v6 (rs.map bt)) := hv6
      have HLN6 : Hid (rs.length = ls.length) := hlen6
      have HBW6 : Hid (Below w.heap.size w w6) := hbw6
      clear hrun hv6 hL6 hb6 hb56 hbw6 hst7 hlen6
      go_wp2_with fail
      refine hrun2.mono ?_
      rintro e w7 ⟨rs2, st2, v7, rfl, hv7, hL7, hb7⟩
      have hbw7 := below_then HBW6.out hb7
      obtain ⟨st3, hL8⟩ := linesR_take (k := ah) HL6.out
      rw [← List.map_take] at hL8
      obtain ⟨_, hrs⟩ := linesR_one hL8 hL7
      have hlen7 : rs2.length = ah := by rw [← hrs, List.length_take, HLN6.out]; omega
      have hv6 := HV6.out.later hb7
      obtain ⟨q6, c6, rfl⟩ : ∃ q c, v6 = .slice q ls.length c := by
        obtain ⟨q, c, e1, _⟩ := strs1_sl hv6
        rw [List.length_map, HLN6.out] at e1
        exact ⟨q, c, e1⟩
      obtain ⟨q7, c7, rfl⟩ : ∃ q c, v7 = .slice q ah c := by
        obtain ⟨q, c, e1, _⟩ := strs1_sl hv7
        rw [List.length_map, hlen7] at e1
        exact ⟨q, c, e1⟩
      obtain ⟨hc6, hs6⟩ := hv6.cut (by rw [List.length_map, HLN6.out]) hah
      have hc6i : (ah : Int) ≤ (c6 : Int) := by omega
      rw [← List.map_take, hrs] at hs6
      have hsame := sameTexts_any (.slice q6 ah c6) (.slice q7 ah c7) (rs2.map bt) (rs2.map bt) w7 hs6.strs hv7.strs (by rw [List.length_map]; omega) (by rw [List.length_map]; omega)
      rw [decide_eq_true rfl] at hsame
      clear hrun2 hv7 hL7 hb7 hL8 hrs hv6 hs6 hlen7
      go_wp2_with fail
      refine hsame.mono ?_
      rintro e w8 ⟨rfl, hb8⟩
      have hbz := below_then hbw7 hb8
      clear hsame hb8 hbw7
      go_wp2
      go_ret
      exact ⟨rfl, hbz⟩
set_option maxHeartbeats 1000000 in
theorem sagain_out (hS : ScriptC) (a : Nat → Addr) (p : Option Addr) (c n : Nat) (cut : Int) (w : World) (he : hS.E a w) (hl : n ≤ maxLen) (h : 40 < n ∨ (¬ 40 < n ∧ cut < 0) ∨ (¬ 40 < n ∧ ¬ cut < 0 ∧ (n : Int) < cut)) :
    Calls Tryz.prog 4 #[.slice p n c, .int .i64 cut] w fun e w' => e = .returned (.bool true) ∧ Below w.heap.size w w' := by
  have hhel := hello_any hS a w he
  unfold maxLen at hl
  clear he
  rcases h with h1 | ⟨h1, h2⟩ | ⟨h1, h2, h3⟩
  all_goals
    go_enter Tryz.func4, Tryz.ntmps4
    go_wp2_with fail
    refine hhel.mono ?_
    rintro e w1 ⟨rfl, hb1⟩
    clear hhel
    go_wp2
    go_ret
    exact ⟨rfl, hb1⟩
/-- ScriptAgain of any lines, any number. -/
theorem sagain_any (hS : ScriptC) (a : Nat → Addr) (p : Option Addr) (c : Nat) (cut : Int) (l : List Ln) (w : World) (he : hS.E a w) (hl : l.length ≤ maxLen) (hla : LnsAt w p l) (hok : ∀ x ∈ l, LnOk x) :
    Calls Tryz.prog 4 #[.slice p l.length c, .int .i64 cut] w fun e w' => e = .returned (.bool true) ∧ Below w.heap.size w w' := by
  by_cases h1 : 40 < l.length
  · exact sagain_out hS a p c l.length cut w he hl (Or.inl h1)
  · by_cases h2 : cut < 0
    · exact sagain_out hS a p c l.length cut w he hl (Or.inr (Or.inl ⟨h1, h2⟩))
    · by_cases h3 : (l.length : Int) < cut
      · exact sagain_out hS a p c l.length cut w he hl (Or.inr (Or.inr ⟨h1, h2, h3⟩))
      · obtain ⟨m, rfl⟩ := Int.eq_ofNat_of_zero_le (show 0 ≤ cut by omega)
        exact sagain_core hS a p c l.length m l w he rfl (by omega) (by omega) hla hok
end Go.Proofs.YtfhmfjcpggddkaaGreatDoor
