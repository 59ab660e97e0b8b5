/- The closed fact: a script of some commands. -/
import Derived.Test.YtfhmfjcpggddkaaGreatDoorM29
import Derived.Test.YtfhmfjcpggddkaaGreatDoorM3
import Derived.Test.YtfhmfjcpggddkaaGreatDoorM17
namespace Go.Proofs.YtfhmfjcpggddkaaGreatDoor
open Go.RowKit Lh

theorem x_ok : isNm nX = true ∧ nX.size ≤ 300 := by decide
theorem x_fault : IsFault [nX] 0 (-1) := fault_of (by decide) (fun s hs => by simp at hs; subst hs; exact x_ok.1) (by simp)
section
variable {nw : List ByteArray → Nat → Nat → ByteArray}
theorem line_cm {st st' : Option Sc} {s a : List UInt8} {c : Cm} (h : LineR nw st s st' a) (hc : cmOf s = some c) : CmR nw st c st' a := by
  rcases h with ⟨q, _⟩ | ⟨c', q, h⟩
  · rw [hc] at q; cases q
  · rw [hc] at q
    injection q with e
    subst e
    exact h
theorem up_none {st' : Option Sc} {a : List UInt8} (h : CmR nw none ⟨wUp, [], []⟩ st' a) : st' = none ∧ a = errT 5 := by
  rcases h with ⟨w, _⟩ | ⟨w, _⟩ | ⟨_, _, _, rfl, rfl⟩ | ⟨_, _, S, h, _⟩
  · exact absurd w (by decide)
  · exact absurd w (by decide)
  · exact ⟨rfl, rfl⟩
  · cases h
theorem hosts_x {st st' : Option Sc} {a : List UInt8} (h : CmR nw st ⟨wHosts, [nX], []⟩ st' a) : st' = some ⟨[nX], newB [nX], 0⟩ ∧ a = tOk := by
  rcases h with ⟨_, e, pl, hf, hh⟩ | ⟨w, _⟩ | ⟨w, _⟩ | ⟨w, _⟩
  · obtain ⟨rfl, _⟩ := isFault_one hf x_fault
    rcases hh with ⟨q, _⟩ | ⟨_, rfl, rfl⟩
    · exact absurd rfl q
    · exact ⟨rfl, rfl⟩
  · exact absurd w (by decide)
  · exact absurd rfl w
  · exact absurd rfl w
/-- a command that asks the balance -/
theorem cm_bal {S : Sc} {st' : Option Sc} {c : Cm} {a : List UInt8} (h : CmR nw (some S) c st' a) (h1 : c.w ≠ wHosts) (h2 : c.w ≠ wJump) (h3 : c.w ≠ wTable) (h4 : c.w ≠ wMoves) (h5 : c.w ≠ wRing) (h6 : c.w ≠ wRival) : ∃ S', BalR nw S c S' a ∧ st' = some S' := by
  rcases h with ⟨w, _⟩ | ⟨w, _⟩ | ⟨_, _, q, _⟩ | ⟨_, _, S1, q, hh⟩
  · exact absurd w h1
  · exact absurd w h2
  · cases q
  · injection q with e
    subst e
    rcases hh with h | ⟨⟨w, _⟩ | ⟨w, _⟩ | ⟨w, _⟩ | ⟨w, _⟩, _⟩
    · exact h
    · exact absurd w h3
    · exact absurd w h4
    · exact absurd w h5
    · exact absurd w h6
theorem bal_pick {S S' : Sc} {c : Cm} {k : Nat} {a : List UInt8} (h : BalR nw S c S' a) (hw : c.w = wPick) (hN : c.N = [k]) : ∃ b' s kept e, PickR nw S.b k S.now b' s kept e ∧ S' = { S with b := b' } ∧ a = (if e = 0 then tx s ++ (if kept then tKept else tNew) else errT e) := by
  rcases h with ⟨_, k', b', s, kept, e, q, hp, rfl, rfl⟩ | ⟨w, _⟩ | ⟨w, _⟩ | ⟨w, _⟩ | ⟨w, _⟩ | ⟨w, _⟩ | ⟨w, _⟩
  · obtain rfl : k' = k := by simpa using q.symm.trans hN
    exact ⟨b', s, kept, e, hp, rfl, rfl⟩
  all_goals exact absurd (w.symm.trans hw) (by decide)
theorem bal_up {S S' : Sc} {c : Cm} {a : List UInt8} (h : BalR nw S c S' a) (hw : c.w = wUp) : S' = S ∧ a = joinedS [32] ((hups S.b.hs).map tx) := by
  rcases h with ⟨w, _⟩ | ⟨w, _⟩ | ⟨w, _⟩ | ⟨w, _⟩ | ⟨_, rfl, rfl⟩ | ⟨w, _⟩ | ⟨w, _⟩
  case inr.inr.inr.inr.inl => exact ⟨rfl, rfl⟩
  all_goals exact absurd (w.symm.trans hw) (by decide)
/-- the first script of all -/
theorem hello_ans (hnw : ∀ {xs : List ByteArray} {n : Nat} (k : Nat), xs ≠ [] → Lh.Prm n → nw xs n k ∈ xs) {rs : List (List UInt8)} {st : Option Sc} (h : LinesR nw none helloL rs st) : rs = helloA := by
  obtain ⟨s1, a1, r1, h1, rfl, s2, a2, r2, h2, rfl, s3, a3, r3, h3, rfl, s4, a4, r4, h4, rfl, s5, a5, r5, h5, rfl, rfl, _⟩ := h
  obtain ⟨rfl, rfl⟩ := up_none (line_cm h1 cm_up)
  obtain ⟨rfl, rfl⟩ := hosts_x (line_cm h2 cm_hosts)
  obtain ⟨S3, hb3, rfl⟩ := cm_bal (line_cm h3 cm_pick) (by decide) (by decide) (by decide) (by decide) (by decide) (by decide)
  obtain ⟨b3, t3, k3, e3, hp3, rfl, rfl⟩ := bal_pick hb3 rfl rfl
  have ho : bopen (newB [nX]) = [nX] := by decide
  have hno : ∀ z, ¬ BKeeps (newB [nX]) 5 0 z := fun z ⟨h, _⟩ => absurd h (by simp [newB])
  obtain ⟨ht, rfl, rfl, rfl⟩ := PickR.new hp3 ⟨by decide, by decide, by decide⟩ hno (by rw [ho]; simp)
  have htx : t3 = nX := by
    rw [ht]
    have := hnw (xs := bopen (newB [nX])) (n := 31) 5 (by rw [ho]; simp) prm31
    rw [ho] at this ⊢
    show nw [nX] 31 5 = nX
    simpa using this
  subst htx
  obtain ⟨S4, hb4, rfl⟩ := cm_bal (line_cm h4 cm_pick) (by decide) (by decide) (by decide) (by decide) (by decide) (by decide)
  obtain ⟨b4, t4, k4, e4, hp4, rfl, rfl⟩ := bal_pick hb4 rfl rfl
  have hL : fput 20 [] 5 nX 0 = [(5, nX, 20)] := by rfl
  have hkp : BKeeps { newB [nX] with la := 0, L := fput (newB [nX]).t (newB [nX]).L 5 nX 0 } 5 0 nX := by
    show BKeeps { newB [nX] with la := 0, L := fput 20 [] 5 nX 0 } 5 0 nX
    rw [hL]
    exact ⟨by decide, by decide, rfl, by decide⟩
  obtain ⟨rfl, rfl, rfl, rfl⟩ := PickR.keep hp4 ⟨by decide, by decide, by decide⟩ hkp
  obtain ⟨S5, hb5, rfl⟩ := cm_bal (line_cm h5 cm_up) (by decide) (by decide) (by decide) (by decide) (by decide) (by decide)
  obtain ⟨rfl, rfl⟩ := bal_up hb5 rfl
  rfl
end
set_option maxRecDepth 100000 in
set_option maxHeartbeats 2000000 in
theorem hello_any (hS : ScriptC) (a : Nat → Addr) (w : World) (he : hS.E a w) :
    Calls Tryz.prog 6 #[] w fun e w' => e = .returned (.bool true) ∧ Below w.heap.size w w' := by
  obtain ⟨wA, hwA⟩ : ∃ wA, wA = w.alloc (.cells #[.string ⟨#[117, 112]⟩, .string ⟨#[104, 111, 115, 116, 115, 32, 120]⟩, .string ⟨#[112, 105, 99, 107, 32, 53]⟩, .string ⟨#[112, 105, 99, 107, 32, 53]⟩, .string ⟨#[117, 112]⟩] 9) := ⟨_, rfl⟩
  have hbA : Below w.heap.size w wA := by rw [hwA]; exact (Below.refl _ _).alloc (Nat.le_refl _) _
  have hst : Strs1 wA (.slice (some ⟨w.heap.size, 0, none⟩) 5 5) (helloL.map bt) := Or.inr ⟨w.heap.size, 0, 5, rfl, by decide, fun k hk => by
    have : k = 0 ∨ k = 1 ∨ k = 2 ∨ k = 3 ∨ k = 4 := by simp [helloL] at hk; omega
    rw [hwA]
    rcases this with rfl | rfl | rfl | rfl | rfl <;> simp [helloL, bt]⟩
  have hrun := hS.run a _ (helloL.map bt) wA (hS.eLater he hbA) hst (by decide) (by decide)
  have htx : (helloL.map bt).map tx = helloL := by rfl
  rw [htx] at hrun
  have HNW : Hid (∀ {rs : List (List UInt8)} {st : Option Sc}, LinesR hS.nw none helloL rs st → rs = helloA) := fun h => hello_ans (fun k h1 h2 => hS.nwIn k h1 h2) h
  clear he hst htx
  go_enter Tryz.func6, Tryz.ntmps6
  go_wp2_with fail
  rw [← hwA]
  refine hrun.mono ?_
  rintro e w1 ⟨rs, st, v1, rfl, hv1, hR, hb1⟩
  obtain rfl := HNW.out hR
  have hbw1 := below_then hbA hb1
  have HV1 : Hid (Strs1 w1 v1 (helloA.map bt)) := hv1
  clear hrun hR hv1 hb1 hbA hwA HNW
  go_wp2_with fail
  obtain ⟨wB, hwB⟩ : ∃ wB, wB = w1.alloc (.cells #[.string ⟨#[108, 101, 118, 101, 108, 104, 97, 110, 100, 58, 32, 110, 111, 110, 101]⟩, .string ⟨#[111, 107]⟩, .string ⟨#[120, 32, 110, 101, 119]⟩, .string ⟨#[120, 32, 107, 101, 112, 116]⟩, .string ⟨#[120]⟩] 9) := ⟨_, rfl⟩
  have hbB : Below w1.heap.size w1 wB := by rw [hwB]; exact (Below.refl _ _).alloc (Nat.le_refl _) _
  have hsB : Strs wB (.slice (some ⟨w1.heap.size, 0, none⟩) 5 5) (helloA.map bt) := Or.inr ⟨w1.heap.size, 0, 5, rfl, by decide, fun k hk => by
    have : k = 0 ∨ k = 1 ∨ k = 2 ∨ k = 3 ∨ k = 4 := by simp [helloA] at hk; omega
    rw [hwB]
    rcases this with rfl | rfl | rfl | rfl | rfl <;> simp [helloA, bt, errT, tLev, tOk, tNew, tKept]⟩
  rw [← hwB]
  refine (sameTexts_any v1 _ (helloA.map bt) (helloA.map bt) wB (HV1.out.later hbB).strs hsB (by decide) (by decide)).mono ?_
  rintro e w2 ⟨rfl, hb2⟩
  have hbw2 := below_then (below_then hbw1 hbB) hb2
  clear hsB hbB hb2 hwB
  rw [decide_eq_true rfl]
  go_wp2
  go_ret
  exact ⟨rfl, hbw2⟩
end Go.Proofs.YtfhmfjcpggddkaaGreatDoor

/- Scripts: no answer is empty; what is no command's word is no line. -/
namespace Go.Proofs.YtfhmfjcpggddkaaGreatDoor
open Go.RowKit Lh

theorem errT_ne {c : Nat} (h1 : 1 ≤ c) (h9 : c ≤ 9) : errT c ≠ [] := by
  have hc : c = 1 ∨ c = 2 ∨ c = 3 ∨ c = 4 ∨ c = 5 ∨ c = 6 ∨ c = 7 ∨ c = 8 ∨ c = 9 := by omega
  rcases hc with rfl | rfl | rfl | rfl | rfl | rfl | rfl | rfl | rfl <;> decide
theorem isFault_le {xs : List ByteArray} {c : Nat} {pl : Int} (h : IsFault xs c pl) : c ≤ 9 := by
  rcases h with ⟨_, rfl, _⟩ | ⟨_, i, hi, _, _, ⟨_, rfl⟩ | ⟨_, _, rfl⟩⟩ | ⟨_, _, rfl, _⟩ <;> decide
theorem tabFault_le {xs : List ByteArray} {n : Int} {c : Nat} {pl : Int} (h : TabFault xs n c pl) : c ≤ 9 := by
  rcases h with ⟨_, rfl, _⟩ | ⟨_, hf, _⟩ | ⟨_, _, hs, _⟩
  · decide
  · exact isFault_le hf
  · rcases hs with ⟨_, rfl⟩ | ⟨m, _, _, _, ⟨_, rfl⟩ | ⟨_, rfl⟩⟩ <;> decide
theorem joinL_two (y : UInt8) (u v : List UInt8) (l : List (List UInt8)) : joinL y (u :: v :: l) ≠ [] := by
  unfold joinL
  simp
theorem joinL_ne {y : UInt8} : ∀ {l : List (List UInt8)}, l ≠ [] → (∀ x ∈ l, x ≠ []) → joinL y l ≠ []
  | [], h, _ => absurd rfl h
  | [x], _, hx => hx x (by simp)
  | u :: v :: l, _, _ => joinL_two y u v l
theorem joinS_ne {y : List UInt8} : ∀ {l : List (List UInt8)}, l ≠ [] → (∀ x ∈ l, x ≠ []) → joinS y l ≠ []
  | [], h, _ => absurd rfl h
  | [x], _, hx => hx x (by simp)
  | u :: v :: l, _, hx => by
    have h1 := hx u (by simp)
    unfold joinS
    simp [h1]
theorem joinedS_ne {y : List UInt8} {l : List (List UInt8)} (hx : ∀ x ∈ l, x ≠ []) : joinedS y l ≠ [] := by
  unfold joinedS
  split
  · decide
  · exact joinS_ne ‹_› hx
theorem nm_ne {s : ByteArray} (h : isNm s = true) : tx s ≠ [] := (nm_word h).1
theorem textL_long (e : Nat) (l : List Fl) : 13 ≤ (textL e l).length := by
  unfold textL sumL
  have := hexL_len 8 (crcL (bodyL e l))
  simp only [List.length_append, List.length_cons, List.length_nil, joinL, sumW, this]
  omega
theorem expT_ne {s : List UInt8} (h : 2 ≤ s.length) : expT s ≠ [] := by
  unfold expT
  have hd : s.dropLast ≠ [] := fun e => by
    have := congrArg List.length e
    rw [List.length_dropLast] at this
    simp at this
    omega
  obtain ⟨c, l, hc⟩ := List.exists_cons_of_ne_nil hd
  rw [hc, List.flatMap_cons]
  split <;> simp
section
variable {nw : List ByteArray → Nat → Nat → ByteArray}
theorem askR_ne {S : Sc} {c : Cm} {a : List UInt8} (hS : SOk S) (h : AskR S.hosts c a) : a ≠ [] := by
  rcases h with ⟨_, n, e, pl, _, hf, hh⟩ | ⟨_, n, e1, p1, e2, p2, _, hf, hg, hh⟩ | ⟨_, k, z, _, hh⟩ | ⟨_, k, _, rfl⟩
  · rcases hh with ⟨q, rfl⟩ | ⟨rfl, rfl⟩
    · exact errT_ne (by omega) (tabFault_le hf)
    · obtain ⟨_, _, _, m, hm, _, h2, _⟩ := tabFault_zero hf
      have hl : ((tab S.hosts n n).map fun i => tx (nameAt S.hosts i.toNat)).length = n := by rw [List.length_map, tab_length]
      match e : (tab S.hosts n n).map fun i => tx (nameAt S.hosts i.toNat) with
      | [] => rw [e] at hl; simp at hl; omega
      | [u] => rw [e] at hl; simp at hl; omega
      | u :: v :: l => rw [e]; exact joinL_two 32 u v l
  · rcases hh with ⟨q, rfl⟩ | ⟨_, q, rfl⟩ | ⟨_, _, rfl⟩
    · exact errT_ne (by omega) (tabFault_le hf)
    · exact errT_ne (by omega) (tabFault_le hg)
    · exact decL_ne _
  · rcases hh with ⟨_, rfl⟩ | ⟨hk, P, s, hP, hs, rfl⟩
    · exact errT_ne (by decide) (by decide)
    · have hm : s ∈ hostsF (turn z) P := by
        obtain ⟨hi, e⟩ := List.getElem?_eq_some_iff.1 hs
        rw [← e]
        exact List.getElem_mem _
      exact nm_ne ((fault_facts hS.f).2.2.1 s ((ring_mem hP (by omega) _ s).1 hm))
  · refine joinL_ne (fun e => hS.ne ?_) fun x hx => ?_
    · have h1 := (order_perm (score k) S.hosts).length_eq
      have h2 := congrArg List.length e
      rw [List.length_map, h1] at h2
      exact List.length_eq_zero_iff.1 h2
    · obtain ⟨s, hs, rfl⟩ := List.mem_map.1 hx
      exact nm_ne ((fault_facts hS.f).2.2.1 s ((order_perm (score k) S.hosts).mem_iff.1 hs))
theorem pickR_e {S S' : Lh.Bl} {k : Nat} {now : Int} {s : ByteArray} {kept : Bool} {c : Nat} (h : PickR nw S k now S' s kept c) : c ≤ 9 := by
  rcases h with ⟨j, hf, _, _, _, rfl⟩ | ⟨_, _, _, rfl, _⟩ | ⟨_, _, _, _, _, rfl, _⟩ | ⟨_, _, _, _, _, rfl, _⟩
  · rcases hf with ⟨_, rfl⟩ | ⟨_, _, _, rfl⟩ <;> decide
  all_goals decide
theorem balR_ne {S S' : Sc} {c : Cm} {a : List UInt8} (hS : SOk S) (h : BalR nw S c S' a) : a ≠ [] := by
  rcases h with ⟨_, k, b', s, kept, e, hN, hp, rfl, rfl⟩ | ⟨_, x, k, b', t, e, _, _, hp, rfl, rfl⟩ | ⟨_, x, k, b', e, _, _, hp, rfl, rfl⟩ | ⟨_, k, _, rfl, rfl⟩ | ⟨_, rfl, rfl⟩ | ⟨_, rfl, rfl⟩ | ⟨_, b', s, e, hp, rfl, rfl⟩
  · split
    · cases kept <;> simp [tKept, tNew]
    · exact errT_ne (by omega) (pickR_e hp)
  · split
    · cases t <;> decide
    · rename_i hne
      have : e = 0 ∨ e = 5 := by rcases hp with ⟨_, _, q, _⟩ | ⟨_, _, q, _⟩ <;> omega
      exact errT_ne (by omega) (by omega)
  · split
    · decide
    · have : e = 0 ∨ e = 5 := by rcases hp with ⟨_, q, _⟩ | ⟨_, q, _⟩ <;> omega
      exact errT_ne (by omega) (by omega)
  · decide
  · refine joinedS_ne fun x hx => ?_
    obtain ⟨s, hs, rfl⟩ := List.mem_map.1 hx
    obtain ⟨y, hy, rfl⟩ := List.mem_map.1 hs
    exact nm_ne (hS.ok.nm y (List.mem_filter.1 hy).1)
  · refine joinedS_ne fun x hx => ?_
    obtain ⟨s, hs, rfl⟩ := List.mem_map.1 hx
    unfold flowT
    simp
  · split
    · exact expT_ne (by have := textL_long (S.b.ep + 1).toNat S.b.L; omega)
    · have : e = 0 ∨ e = 2 := by rcases hp with ⟨_, _, q, _⟩ | ⟨_, _, q, _⟩ <;> omega
      exact errT_ne (by omega) (by omega)
/-- no answer is empty -/
theorem lineR_ne {st st' : Option Sc} {s a : List UInt8} (h : StOk st) (hr : LineR nw st s st' a) : a ≠ [] := by
  rcases hr with ⟨_, _, rfl⟩ | ⟨c, hc, hr⟩
  · exact errT_ne (by decide) (by decide)
  · rcases hr with ⟨w, e, pl, hf, hq⟩ | ⟨_, _, k, n, _, hq⟩ | ⟨_, _, _, _, rfl⟩ | ⟨_, _, S, rfl, hq⟩
    · rcases hq with ⟨q, _, rfl⟩ | ⟨_, _, rfl⟩
      · exact errT_ne (by omega) (isFault_le hf)
      · decide
    · rcases hq with ⟨_, rfl⟩ | ⟨_, rfl⟩
      · exact errT_ne (by decide) (by decide)
      · exact decL_ne _
    · exact errT_ne (by decide) (by decide)
    · rcases hq with ⟨S', hb, _⟩ | ⟨ha, _⟩
      · exact balR_ne (h S rfl) hb
      · exact askR_ne (h S rfl) ha
end
/-- the first word -/
def headW (s : List UInt8) : List UInt8 := s.takeWhile fun c => decide (c ≠ 32)
theorem cutL_head : ∀ (s : List UInt8), ∃ r, cutL 32 s = headW s :: r
  | [] => ⟨[], rfl⟩
  | c :: s => by
    obtain ⟨r, hr⟩ := cutL_head s
    rw [cutL_cons, hr]
    unfold headW
    by_cases h : c = 32
    · subst h
      exact ⟨headW s :: r, by simp [headW]⟩
    · exact ⟨r, by simp [h]⟩
theorem cmOf_none {s : List UInt8} (h : formW (headW s) = none) : cmOf s = none := by
  obtain ⟨r, hr⟩ := cutL_head s
  unfold cmOf wordsC
  rw [hr]
  simp only [h]
theorem lineR_text {nw : List ByteArray → Nat → Nat → ByteArray} {st st' : Option Sc} {s a : List UInt8} (hr : LineR nw st s st' a) (h : formW (headW s) = none) : a = errT 1 := by
  rcases hr with ⟨_, _, rfl⟩ | ⟨c, hc, _⟩
  · rfl
  · rw [cmOf_none h] at hc; cases hc
end Go.Proofs.YtfhmfjcpggddkaaGreatDoor
