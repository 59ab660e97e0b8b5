/- The landed health: those, Up. -/
import Derived.Test.YtmkdpchodeckgaaGreatDoorM5
namespace Go.Proofs.YtmkdpchodeckgaaGreatDoor
open Go.RowKit Go.Shelf

/-- the names of those of the first k that q takes -/
def thoseN (q : Lh.Hh → Bool) (l : List Lh.Hh) (k : Nat) : List ByteArray := ((l.take k).filter q).map fun x => x.1
theorem thoseN_succ (q : Lh.Hh → Bool) (l : List Lh.Hh) {k : Nat} (h : k < l.length) : thoseN q l (k + 1) = thoseN q l k ++ (if q l[k] then [(l[k]).1] else []) := by
  unfold thoseN
  rw [List.take_succ_eq_append_getElem h, List.filter_append, List.map_append]
  congr 1
  cases e : q l[k] <;> simp [e]
theorem thoseN_len (q : Lh.Hh → Bool) (l : List Lh.Hh) (k : Nat) : (thoseN q l k).length ≤ k := by
  unfold thoseN
  rw [List.length_map]
  refine Nat.le_trans (List.length_filter_le _ _) ?_
  rw [List.length_take]
  omega

set_option maxRecDepth 100000 in
set_option maxHeartbeats 2000000 in
theorem those_core (fn : Nat) (eg : ∀ args w, (callFunc fn args).run Tryz.prog w = .ok (.enter fn args) w) (q : Lh.Hh → Bool) {W : World} {p f r : Nat} {l : List Lh.Hh} {bs : List Nat} {lv : Value} (h : HR W p f r l bs lv) (hl : l.length ≤ 12)
    (hq : ∀ k (h1 : k < l.length) (h2 : k < bs.length) W', Below W.heap.size W W' → Calls Tryz.prog fn #[.pointer (some ⟨bs[k], 0, none⟩)] W' fun e w' => e = .returned (.bool (q l[k])) ∧ w' = W') :
    Calls Tryz.prog 66 #[.pointer (some ⟨p, 0, none⟩), .func (.func fn) #[] #[]] W fun e w' => ∃ v, e = .returned v ∧ w'.ownsRow W.heap.size 9 1 v (thoseN q l l.length).length ((thoseN q l l.length).map Value.string) ∧ Below W.heap.size W w' := by
  obtain ⟨i, hi, hz0, hz1, hz2⟩ := info_parts infoS
  obtain ⟨p0, cap, hlv⟩ := h.shape
  have HC : Hid (∀ i (hi : i < l.length) (h2 : i < bs.length), ∃ g, p0 = some ⟨g, 0, none⟩ ∧ W.cell? ⟨g, i, none⟩ = some (.pointer (some ⟨bs[i], 0, none⟩)) ∧ W.cell? ⟨bs[i], 0, none⟩ = some (.string (l[i]).1)) := fun i hi h2 => by
    obtain ⟨g, cap', e, _, _, _, hc, _⟩ := h.row (by omega)
    rw [hlv] at e
    cases e
    exact ⟨g, rfl, hc i h2, (h.st i hi h2).c0⟩
  have HQ : Hid (∀ k (h1 : k < l.length) (h2 : k < bs.length) W', Below W.heap.size W W' → Calls Tryz.prog fn #[.pointer (some ⟨bs[k], 0, none⟩)] W' fun e w' => e = .returned (.bool (q l[k])) ∧ w' = W') := hq
  have HLN : Hid (bs.length = l.length) := h.len
  have c2 := h.c2
  subst hlv
  clear h hq
  go_enter Tryz.func66, Tryz.ntmps66
  go_wp2_with fail
  go_loopw [5, 7, 15] (fun v _ t W' => Below W.heap.size W W' ∧ ∃ k : Nat, k ≤ l.length ∧ t = .int .i64 (k : Nat) ∧ W'.ownsRow W.heap.size 9 1 v (thoseN q l k).length ((thoseN q l k).map Value.string)) (fun _ _ t _ => l.length - (intOf t).toNat)
  case atStart => exact ⟨Below.refl _ _, 0, Nat.zero_le _, rfl, World.ownsRow_nil _ _ _ _⟩
  case round =>
    obtain ⟨hb, k, hk, rfl, hown⟩ := hrel
    obtain ⟨wo, hwo⟩ : ∃ wo, wo = wr := ⟨_, rfl⟩
    subst hwo
    obtain ⟨vo, hvo⟩ : ∃ vo, vo = u5 := ⟨_, rfl⟩
    subst hvo
    clear c2
    by_cases hlt : k < l.length
    · have hlt2 : k < bs.length := by rw [HLN.out]; exact hlt
      obtain ⟨g, rfl, cn, cu⟩ := HC.out k hlt hlt2
      have cn' := below_cell hb cn
      have cu' := below_cell hb cu
      have hcall := HQ.out k hlt hlt2 wo hb
      have hki : (k : Int) < (l.length : Int) := by omega
      have hul := thoseN_len q l k
      have hsu := thoseN_succ q l hlt
      clear cn cu
      generalize (l[k]).1 = s at *
      generalize bs[k] = b at *
      cases hu : q l[k] with
      | true =>
        rw [hu] at hcall hsu
        simp only [if_true] at hsu
        have HSU : Hid (thoseN q l (k + 1) = thoseN q l k ++ [s]) := hsu
        clear hu hsu
        generalize thoseN q l k = out at *
        have hown3 := hown.alloc (.cells #[.string s] 9)
        have hnews := cells_one (w := wo) (t := 9) s
        have hbw3 : Below W.heap.size W (wo.alloc (.cells #[.string s] 9)) := hb.alloc hb.size _
        have hmax : out.length + 1 ≤ maxLen := by unfold maxLen; omega
        clear hown
        go_wp2_with (first | (go_at_fn fn; refine hcall.mono ?_; rintro e w' ⟨rfl, rfl⟩; clear hcall) | (at_builtin; refine wpList_append_own _ rfl _ _ 24 rfl W.heap.size 9 i _ 1 16 Tryz.underlying24 hi hz0 hz1 hz2 rfl (by decide) vo out.length (out.map Value.string) rfl hown3 ⟨_, 0, none⟩ 1 1 [.string s] rfl rfl hnews (fun u hu => by simp at hu; subst hu; rfl) hmax (by omega) hbw3.size ?_))
        intro v' w4 hown4 hg4 _
        have hlo := hown3.lt
        have hb4 : Below W.heap.size W w4 := hbw3.grown hg4 hbw3.size (fun k hk => (hlo k hk).1)
        have hown5 := owns_snoc hown4
        have HOUT : Hid (w4.ownsRow W.heap.size 9 1 v' (out ++ [s]).length ((out ++ [s]).map Value.string)) := by rw [List.length_append]; exact hown5
        clear hown3 hnews hlo hg4 hbw3 hmax hown4 hown5
        go_wp2
        exact ⟨⟨hb4, k + 1, by omega, by go_num, by rw [HSU.out]; exact HOUT.out⟩, by simp [intOf]; omega⟩
      | false =>
        rw [hu] at hcall hsu
        simp only [Bool.false_eq_true, if_false, List.append_nil] at hsu
        have HOUT : Hid (wo.ownsRow W.heap.size 9 1 vo (thoseN q l (k + 1)).length ((thoseN q l (k + 1)).map Value.string)) := by rw [hsu]; exact hown
        clear hu hsu hown
        go_wp2_with (go_at_fn fn; refine hcall.mono ?_; rintro e w' ⟨rfl, rfl⟩; clear hcall)
        exact ⟨⟨hb, k + 1, by omega, by go_num, HOUT.out⟩, by simp [intOf]; omega⟩
    · have hki : decide ((k : Int) < (l.length : Int)) = false := by simp; omega
      have HS : Hid (wo.ownsRow W.heap.size 9 1 vo (thoseN q l l.length).length ((thoseN q l l.length).map Value.string)) := by
        have e : k = l.length := by omega
        rw [← e]
        exact hown
      clear hown
      go_wp2
      go_ret
      exact ⟨_, rfl, HS.out, hb⟩

set_option maxHeartbeats 1000000 in
theorem upC (b : Nat) (u : Bool) (W : World) (h1 : W.cell? ⟨b, 1, none⟩ = some (.bool u)) :
    Calls Tryz.prog 67 #[.pointer (some ⟨b, 0, none⟩)] W fun e w' => e = .returned (.bool u) ∧ w' = W := by
  go_enter Tryz.func67, Tryz.ntmps67
  go_wp2
  go_ret
  exact ⟨rfl, rfl⟩
theorem entersUp : ∀ args w, (callFunc 67 args).run Tryz.prog w = .ok (.enter 67 args) w := enters_of Tryz.func67 (by kernel_rfl) rfl
section
variable {W : World} {p f r : Nat} {l : List Lh.Hh} {bs : List Nat} {lv : Value}
set_option maxHeartbeats 1000000 in
/-- Up. -/
theorem upS_any (h : HR W p f r l bs lv) (hl : l.length ≤ 12) :
    Calls Tryz.prog 33 #[.pointer (some ⟨p, 0, none⟩)] W fun e w' => ∃ v, e = .returned v ∧ Strs1 w' v (Lh.hups l) ∧ Below W.heap.size W w' := by
  have h1 := those_core 67 entersUp (fun x => x.2.1) h hl fun k hk h2 W' hB => upC _ _ W' (below_cell hB (h.st k hk h2).c1)
  have e : thoseN (fun x => x.2.1) l l.length = Lh.hups l := by
    unfold thoseN Lh.hups
    rw [List.take_length]
  rw [e] at h1
  have h2 : Calls Tryz.prog 66 #[.pointer (some ⟨p, 0, none⟩), .func (.func 67) #[] #[]] W fun e w' => ∃ v, e = .returned v ∧ Strs1 w' v (Lh.hups l) ∧ Below W.heap.size W w' := h1.mono fun _ _ ⟨v, q1, q2, q3⟩ => ⟨v, q1, strs_of_owns q2, q3⟩
  clear h1 e h
  generalize Lh.hups l = ys at *
  go_enter Tryz.func33, Tryz.ntmps33
  go_wp2_with fail
  refine h2.mono ?_
  rintro e w1 ⟨v, rfl, hv, hb⟩
  clear h2
  go_wp2
  go_ret
  exact ⟨_, rfl, hv, hb⟩
end
end Go.Proofs.YtmkdpchodeckgaaGreatDoor

/- Flows, as lists by key: a key, its host, and the tick at which it is gone. -/
namespace Go.Proofs.YtmkdpchodeckgaaGreatDoor
namespace Lh

abbrev Fl := Nat × ByteArray × Int
/-- the place of a key (the list's length: none) -/
def fix (L : List Fl) (k : Nat) : Nat := L.findIdx fun x => decide (x.1 = k)
/-- a flow is laid in, by key -/
def flay (x : Fl) (L : List Fl) : List Fl := (L.takeWhile fun y => decide (y.1 < x.1)) ++ x :: L.dropWhile fun y => decide (y.1 < x.1)
/-- the one that is gone first: the first of the least tick -/
def fleast (L : List Fl) : Nat := (List.range L.length).foldl (fun b i => if ((L.map fun x => x.2.2).getD i 0) < ((L.map fun x => x.2.2).getD b 0) then i else b) 0
/-- what a Put leaves -/
def frest (L : List Fl) (k : Nat) : List Fl := if fix L k < L.length then L.eraseIdx (fix L k) else if 200 ≤ L.length then L.eraseIdx (fleast L) else L
def fput (time : Nat) (L : List Fl) (k : Nat) (h : ByteArray) (now : Int) : List Fl := flay (k, h, now + time) (frest L k)
/-- what is gone by now -/
def fexp (L : List Fl) (now : Int) : List Fl := L.filter fun x => decide (now < x.2.2)
def fdrop (L : List Fl) (h : ByteArray) : List Fl := L.filter fun x => !decide (x.2.1 = h)
/-- one flow more, if it may come -/
def fadd1 (now : Int) (L : List Fl) (x : Fl) : List Fl := if fix L x.1 < L.length ∨ x.2.2 ≤ now ∨ 1000 < x.2.2 - now ∨ 200 ≤ L.length then L else flay x L
def fadd (now : Int) (L l : List Fl) : List Fl := l.foldl (fadd1 now) L
/-- by key, each once; not too many; hosts are names; ticks in bounds -/
structure FlOk (L : List Fl) : Prop where
  rise : L.Pairwise fun x y => x.1 < y.1
  len : L.length ≤ 200
  key : ∀ x ∈ L, x.1 < 18446744073709551616
  size : ∀ x ∈ L, x.2.1.size ≤ 300
  lo : ∀ x ∈ L, 0 ≤ x.2.2
  hi : ∀ x ∈ L, x.2.2 ≤ 2000000000000
theorem flay_mem {x y : Fl} {L : List Fl} : y ∈ flay x L ↔ y = x ∨ y ∈ L := by
  unfold flay
  rw [List.mem_append, List.mem_cons]
  constructor
  · rintro (h | h | h)
    · exact Or.inr ((List.takeWhile_prefix _).sublist.mem h)
    · exact Or.inl h
    · exact Or.inr ((List.dropWhile_suffix _).sublist.mem h)
  · rintro (h | h)
    · exact Or.inr (Or.inl h)
    · rw [← List.takeWhile_append_dropWhile (p := fun y : Fl => decide (y.1 < x.1)) (l := L)] at h
      rcases List.mem_append.1 h with h | h
      · exact Or.inl h
      · exact Or.inr (Or.inr h)
theorem flay_len (x : Fl) (L : List Fl) : (flay x L).length = L.length + 1 := by
  unfold flay
  rw [List.length_append, List.length_cons]
  have h : (L.takeWhile (fun y : Fl => decide (y.1 < x.1)) ++ L.dropWhile (fun y : Fl => decide (y.1 < x.1))).length = L.length := by rw [List.takeWhile_append_dropWhile]
  rw [List.length_append] at h
  omega
theorem takeWhile_lt {k : Nat} : ∀ {L : List Fl} {y : Fl}, y ∈ L.takeWhile (fun y => decide (y.1 < k)) → y.1 < k
  | a :: L, y, h => by
    rw [List.takeWhile_cons] at h
    split at h
    · rename_i ha
      rcases List.mem_cons.1 h with rfl | h
      · simpa using ha
      · exact takeWhile_lt h
    · cases h
theorem dropWhile_ge {k : Nat} : ∀ {L : List Fl} {y : Fl}, L.Pairwise (fun x y => x.1 < y.1) → y ∈ L.dropWhile (fun y => decide (y.1 < k)) → k ≤ y.1
  | a :: L, y, hp, h => by
    rw [List.dropWhile_cons] at h
    rw [List.pairwise_cons] at hp
    split at h
    · exact dropWhile_ge hp.2 h
    · rename_i ha
      have ha' : k ≤ a.1 := by simpa using ha
      rcases List.mem_cons.1 h with rfl | h
      · exact ha'
      · have := hp.1 y h
        omega
theorem flay_rise {x : Fl} {L : List Fl} (h : L.Pairwise fun x y => x.1 < y.1) (hx : ∀ y ∈ L, y.1 ≠ x.1) : (flay x L).Pairwise fun x y => x.1 < y.1 := by
  unfold flay
  rw [List.pairwise_append]
  refine ⟨h.sublist (List.takeWhile_prefix _).sublist, ?_, fun a ha b hb => ?_⟩
  · rw [List.pairwise_cons]
    refine ⟨fun y hy => ?_, h.sublist (List.dropWhile_suffix _).sublist⟩
    have h1 := dropWhile_ge h hy
    have h2 := hx y ((List.dropWhile_suffix _).sublist.mem hy)
    show x.1 < y.1
    omega
  · have h1 := takeWhile_lt ha
    rcases List.mem_cons.1 hb with rfl | hb
    · exact h1
    · have h2 := dropWhile_ge h hb
      omega
theorem fix_lt {L : List Fl} {k : Nat} : fix L k < L.length ↔ ∃ x ∈ L, x.1 = k := by
  unfold fix
  rw [List.findIdx_lt_length]
  simp
theorem fix_get {L : List Fl} {k : Nat} (h : fix L k < L.length) : (L[fix L k]).1 = k := by
  have := List.findIdx_getElem (xs := L) (p := fun x : Fl => decide (x.1 = k)) (w := h)
  exact of_decide_eq_true this
theorem erase_key {L : List Fl} (hp : L.Pairwise fun x y => x.1 < y.1) {i : Nat} (hi : i < L.length) : ∀ y ∈ L.eraseIdx i, y.1 ≠ (L[i]).1 := by
  intro y hy
  rw [List.eraseIdx_eq_take_drop_succ] at hy
  rcases List.mem_append.1 hy with h | h
  · rw [List.mem_take_iff_getElem] at h
    obtain ⟨j, hj, rfl⟩ := h
    have := List.pairwise_iff_getElem.1 hp j i (by omega) hi (by omega)
    omega
  · rw [List.mem_drop_iff_getElem] at h
    obtain ⟨j, hj, rfl⟩ := h
    have := List.pairwise_iff_getElem.1 hp i (i + 1 + j) hi (by omega) (by omega)
    omega
theorem frest_sub (L : List Fl) (k : Nat) : (frest L k).Sublist L := by
  unfold frest
  split
  · exact List.eraseIdx_sublist _ _
  · split
    · exact List.eraseIdx_sublist _ _
    · exact List.Sublist.refl _
theorem frest_key {L : List Fl} (hp : L.Pairwise fun x y => x.1 < y.1) (k : Nat) : ∀ y ∈ frest L k, y.1 ≠ k := by
  intro y hy
  unfold frest at hy
  split at hy
  · rename_i h
    have := erase_key hp h y hy
    rwa [fix_get h] at this
  · rename_i h
    have hy2 : y ∈ L := by
      split at hy
      · exact (List.eraseIdx_sublist _ _).mem hy
      · exact hy
    intro e
    exact h (fix_lt.2 ⟨y, hy2, e⟩)
theorem foldl_lt {n : Nat} (f : Nat → Nat → Nat) (hf : ∀ b i, f b i = b ∨ f b i = i) : ∀ (l : List Nat) (b : Nat), b < n → (∀ i ∈ l, i < n) → l.foldl f b < n
  | [], b, hb, _ => hb
  | i :: l, b, hb, h => by
    rw [List.foldl_cons]
    refine foldl_lt f hf l _ ?_ fun j hj => h j (by simp [hj])
    rcases hf b i with e | e
    · rw [e]; exact hb
    · rw [e]; exact h i (by simp)
theorem fleast_lt {L : List Fl} (h : 0 < L.length) : fleast L < L.length := by
  unfold fleast
  refine foldl_lt _ (fun b i => ?_) _ _ h fun i hi => List.mem_range.1 hi
  split
  · exact Or.inr rfl
  · exact Or.inl rfl
theorem frest_len {L : List Fl} (h : L.length ≤ 200) (k : Nat) : (frest L k).length < 200 := by
  unfold frest
  split
  · rename_i hx
    rw [List.length_eraseIdx_of_lt hx]
    omega
  · split
    · rename_i h2
      rw [List.length_eraseIdx_of_lt (fleast_lt (by omega))]
      omega
    · omega
theorem FlOk.put {L : List Fl} (h : FlOk L) {time k : Nat} {s : ByteArray} {now : Int} (hk : k < 18446744073709551616) (hs : s.size ≤ 300) (hn : 0 ≤ now) (hn2 : now ≤ 1099511627776) (ht : time ≤ 1000) : FlOk (fput time L k s now) := by
  have hsub := frest_sub L k
  unfold fput
  refine ⟨flay_rise (h.rise.sublist hsub) (frest_key h.rise k), ?_, fun x hx => ?_, fun x hx => ?_, fun x hx => ?_, fun x hx => ?_⟩
  · rw [flay_len]
    have := frest_len h.len k
    omega
  all_goals
    rcases flay_mem.1 hx with rfl | hx
  · exact hk
  · exact h.key x (hsub.mem hx)
  · exact hs
  · exact h.size x (hsub.mem hx)
  · show 0 ≤ now + (time : Int)
    omega
  · exact h.lo x (hsub.mem hx)
  · show now + (time : Int) ≤ 2000000000000
    omega
  · exact h.hi x (hsub.mem hx)
theorem FlOk.sub {L M : List Fl} (h : FlOk L) (hs : M.Sublist L) : FlOk M :=
  ⟨h.rise.sublist hs, Nat.le_trans hs.length_le h.len, fun x hx => h.key x (hs.mem hx), fun x hx => h.size x (hs.mem hx), fun x hx => h.lo x (hs.mem hx), fun x hx => h.hi x (hs.mem hx)⟩
theorem FlOk.add1 {L : List Fl} (h : FlOk L) {now : Int} (hn : 0 ≤ now) (hn2 : now ≤ 1099511627776) {x : Fl} (hk : x.1 < 18446744073709551616) (hs : x.2.1.size ≤ 300) : FlOk (fadd1 now L x) := by
  unfold fadd1
  split
  · exact h
  · rename_i hc
    have h1 : ¬ fix L x.1 < L.length := fun e => hc (Or.inl e)
    have h2 : now < x.2.2 := by
      have : ¬ x.2.2 ≤ now := fun e => hc (Or.inr (Or.inl e))
      omega
    have h3 : x.2.2 - now ≤ 1000 := by
      have : ¬ 1000 < x.2.2 - now := fun e => hc (Or.inr (Or.inr (Or.inl e)))
      omega
    have h4 : L.length < 200 := by
      have : ¬ 200 ≤ L.length := fun e => hc (Or.inr (Or.inr (Or.inr e)))
      omega
    refine ⟨flay_rise h.rise (fun y hy e => h1 (fix_lt.2 ⟨y, hy, e⟩)), by rw [flay_len]; omega, fun y hy => ?_, fun y hy => ?_, fun y hy => ?_, fun y hy => ?_⟩
    all_goals
      rcases flay_mem.1 hy with rfl | hy
    · exact hk
    · exact h.key y hy
    · exact hs
    · exact h.size y hy
    · omega
    · exact h.lo y hy
    · omega
    · exact h.hi y hy
theorem FlOk.add {now : Int} (hn : 0 ≤ now) (hn2 : now ≤ 1099511627776) : ∀ (l : List Fl) {L : List Fl}, FlOk L → (∀ x ∈ l, x.1 < 18446744073709551616 ∧ x.2.1.size ≤ 300) → FlOk (fadd now L l)
  | [], _, h, _ => h
  | x :: l, L, h, hl => by
    show FlOk (fadd now (fadd1 now L x) l)
    exact FlOk.add hn hn2 l (h.add1 hn hn2 (hl x (by simp)).1 (hl x (by simp)).2) fun y hy => hl y (by simp [hy])
theorem fadd1_len (now : Int) (L : List Fl) (x : Fl) : L.length ≤ (fadd1 now L x).length := by
  unfold fadd1
  split
  · exact Nat.le_refl _
  · rw [flay_len]; omega
theorem fadd_len (now : Int) : ∀ (l L : List Fl), L.length ≤ (fadd now L l).length
  | [], _ => Nat.le_refl _
  | x :: l, L => Nat.le_trans (fadd1_len now L x) (fadd_len now l (fadd1 now L x))
theorem fadd_snoc (now : Int) (L l : List Fl) (x : Fl) : fadd now L (l ++ [x]) = fadd1 now (fadd now L l) x := by simp [fadd, List.foldl_append]
theorem FlOk.nil : FlOk [] := by refine ⟨List.Pairwise.nil, by simp, ?_, ?_, ?_, ?_⟩ <;> simp
end Lh
end Go.Proofs.YtmkdpchodeckgaaGreatDoor
