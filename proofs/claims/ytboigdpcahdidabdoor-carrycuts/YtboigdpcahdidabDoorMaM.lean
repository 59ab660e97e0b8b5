/- What is carried over, as lists of bytes: hex digits and the sum. -/
import Derived.Test.YtboigdpcahdidabDoorCaMath
namespace Go.Proofs.YtboigdpcahdidabDoor
namespace Lh

def hxU (d : Nat) : UInt8 := UInt8.ofNat (if d < 10 then 48 + d else 87 + d)
/-- the last k hex digits of a number -/
def hexL : Nat → Nat → List UInt8
  | 0, _ => []
  | k + 1, n => hexL k (n / 16) ++ [hxU (n % 16)]
def hxV (c : UInt8) : Option Nat := if 48 ≤ c.toNat ∧ c.toNat ≤ 57 then some (c.toNat - 48) else if 97 ≤ c.toNat ∧ c.toNat ≤ 102 then some (c.toNat - 87) else none
def hexV (l : List UInt8) : Option Nat := l.foldl (fun n c => n.bind fun n => (hxV c).map fun d => 16 * n + d) (some 0)
theorem hxU_nat {d : Nat} (h : d < 16) : (hxU d).toNat = if d < 10 then 48 + d else 87 + d := by
  unfold hxU
  rw [UInt8.toNat_ofNat']
  split <;> omega
theorem hxV_hxU {d : Nat} (h : d < 16) : hxV (hxU d) = some d := by
  unfold hxV
  rw [hxU_nat h]
  by_cases h1 : d < 10
  · rw [if_pos h1, if_pos (by omega)]
    congr 1
    omega
  · rw [if_neg h1, if_neg (by omega), if_pos (by omega)]
    congr 1
    omega
theorem hxU_hxV {c : UInt8} {d : Nat} (h : hxV c = some d) : hxU d = c ∧ d < 16 := by
  unfold hxV at h
  split at h
  · rename_i h1
    obtain rfl := Option.some.inj h
    refine ⟨?_, by omega⟩
    unfold hxU
    rw [if_pos (by omega), show 48 + (c.toNat - 48) = c.toNat by omega]
    simp
  · split at h
    · rename_i h1 h2
      obtain rfl := Option.some.inj h
      refine ⟨?_, by omega⟩
      unfold hxU
      rw [if_neg (by omega), show 87 + (c.toNat - 87) = c.toNat by omega]
      simp
    · cases h
theorem hexL_len : ∀ k n, (hexL k n).length = k
  | 0, _ => rfl
  | k + 1, n => by
    show (hexL k (n / 16) ++ [hxU (n % 16)]).length = _
    rw [List.length_append, hexL_len k]
    rfl
theorem hexV_snoc (l : List UInt8) (c : UInt8) : hexV (l ++ [c]) = (hexV l).bind fun n => (hxV c).map fun d => 16 * n + d := by simp [hexV, List.foldl_append]
theorem hexV_hexL : ∀ k n, n < 16 ^ k → hexV (hexL k n) = some n
  | 0, n, h => by
    have : n = 0 := by simp at h; exact h
    subst this
    rfl
  | k + 1, n, h => by
    have h2 : n / 16 < 16 ^ k := by
      rw [Nat.pow_succ] at h
      omega
    show hexV (hexL k (n / 16) ++ [hxU (n % 16)]) = _
    rw [hexV_snoc, hexV_hexL k _ h2, hxV_hxU (Nat.mod_lt _ (by decide))]
    simp
    omega
theorem hexL_hexV : ∀ {l : List UInt8} {n : Nat}, hexV l = some n → hexL l.length n = l ∧ n < 16 ^ l.length := by
  intro l
  induction hn : l.length generalizing l with
  | zero =>
    intro n h
    have : l = [] := List.eq_nil_of_length_eq_zero hn
    subst this
    have : n = 0 := (Option.some.inj h).symm
    subst this
    exact ⟨rfl, by decide⟩
  | succ k ih =>
    intro n h
    have hne : l ≠ [] := fun e => by rw [e] at hn; cases hn
    obtain ⟨m, c, rfl⟩ : ∃ m c, l = m ++ [c] := ⟨l.dropLast, l.getLast hne, (List.dropLast_concat_getLast hne).symm⟩
    have hlm : m.length = k := by simp at hn; exact hn
    rw [hexV_snoc] at h
    cases hm : hexV m with
    | none => rw [hm] at h; cases h
    | some a =>
      rw [hm] at h
      cases hc : hxV c with
      | none => rw [hc] at h; cases h
      | some d =>
        rw [hc] at h
        obtain rfl : 16 * a + d = n := by simpa using h
        obtain ⟨h1, h2⟩ := ih hlm hm
        obtain ⟨h3, h4⟩ := hxU_hxV hc
        refine ⟨?_, ?_⟩
        · show hexL k ((16 * a + d) / 16) ++ [hxU ((16 * a + d) % 16)] = _
          rw [show (16 * a + d) / 16 = a by omega, show (16 * a + d) % 16 = d by omega, h1, h3]
        · rw [Nat.pow_succ]
          omega

/-- one bit of the long division -/
def crcBit (b c k : Nat) : Nat := if (c ^^^ (b >>> k)) % 2 = 1 then (c / 2) ^^^ 3988292384 else c / 2
def crcByte (c : Nat) (b : UInt8) : Nat := (List.range 8).foldl (crcBit b.toNat) c
def crcRaw (l : List UInt8) : Nat := l.foldl crcByte 4294967295
/-- the sum of a text -/
def crcL (l : List UInt8) : Nat := crcRaw l ^^^ 4294967295
theorem crcBit_lt {b c k : Nat} (h : c < 2 ^ 32) : crcBit b c k < 2 ^ 32 := by
  unfold crcBit
  split
  · exact Nat.xor_lt_two_pow (by omega) (by decide)
  · omega
theorem crcK_lt {b : Nat} : ∀ (ks : List Nat) {c : Nat}, c < 2 ^ 32 → ks.foldl (crcBit b) c < 2 ^ 32
  | [], _, h => h
  | _ :: ks, _, h => crcK_lt ks (crcBit_lt h)
theorem crcByte_lt {c : Nat} (b : UInt8) (h : c < 2 ^ 32) : crcByte c b < 2 ^ 32 := crcK_lt _ h
theorem crcFold_lt : ∀ (l : List UInt8) {c : Nat}, c < 2 ^ 32 → l.foldl crcByte c < 2 ^ 32
  | [], _, h => h
  | b :: l, _, h => crcFold_lt l (crcByte_lt b h)
theorem crcL_lt (l : List UInt8) : crcL l < 2 ^ 32 := Nat.xor_lt_two_pow (crcFold_lt l (by decide)) (by decide)
/-- a step tells what it came from -/
theorem zero_inj {c c' : Nat} (h : c < 2 ^ 32) (h' : c' < 2 ^ 32) {k : Nat} (e : crcBit 0 c k = crcBit 0 c' k) : c = c' := by
  unfold crcBit at e
  simp only [Nat.zero_shiftRight, Nat.xor_zero] at e
  have t1 : (c / 2).testBit 31 = false := Nat.testBit_lt_two_pow (by omega)
  have t2 : (c' / 2).testBit 31 = false := Nat.testBit_lt_two_pow (by omega)
  have tp : (3988292384 : Nat).testBit 31 = true := by decide
  by_cases h1 : c % 2 = 1 <;> by_cases h2 : c' % 2 = 1
  · rw [if_pos h1, if_pos h2] at e
    have e2 := congrArg (· ^^^ 3988292384) e
    simp only [Nat.xor_assoc, Nat.xor_self, Nat.xor_zero] at e2
    omega
  · rw [if_pos h1, if_neg h2] at e
    have := congrArg (fun n => n.testBit 31) e
    simp only [Nat.testBit_xor, t1, t2, tp] at this
    cases this
  · rw [if_neg h1, if_pos h2] at e
    have := congrArg (fun n => n.testBit 31) e
    simp only [Nat.testBit_xor, t1, t2, tp] at this
    cases this
  · rw [if_neg h1, if_neg h2] at e
    omega
theorem zeros_inj : ∀ (ks : List Nat) {c c' : Nat}, c < 2 ^ 32 → c' < 2 ^ 32 → ks.foldl (crcBit 0) c = ks.foldl (crcBit 0) c' → c = c'
  | [], _, _, _, _, e => e
  | _ :: ks, _, _, h, h', e => zero_inj h h' (zeros_inj ks (crcBit_lt h) (crcBit_lt h') e)
theorem bit_xor (b c k : Nat) : crcBit 0 (c ^^^ (b >>> k)) k = crcBit b c k ^^^ (b >>> (k + 1)) := by
  have hd : (c ^^^ (b >>> k)) / 2 = (c / 2) ^^^ (b >>> (k + 1)) := by
    have h1 : (b >>> k) / 2 = b >>> (k + 1) := by rw [Nat.shiftRight_succ]
    rw [← h1]
    exact Nat.xor_div_two
  unfold crcBit
  simp only [Nat.zero_shiftRight, Nat.xor_zero]
  rw [hd]
  split
  · rw [Nat.xor_assoc, Nat.xor_assoc, Nat.xor_comm (b >>> (k + 1))]
  · rfl
theorem fold_xor (b : Nat) : ∀ n c, (List.range n).foldl (crcBit 0) (c ^^^ b) = (List.range n).foldl (crcBit b) c ^^^ (b >>> n)
  | 0, c => by simp
  | n + 1, c => by
    rw [List.range_succ, List.foldl_append, List.foldl_append, fold_xor b n c]
    exact bit_xor b _ n
theorem crcByte_xor (c : Nat) (b : UInt8) : crcByte c b = (List.range 8).foldl (crcBit 0) (c ^^^ b.toNat) := by
  rw [fold_xor b.toNat 8 c]
  have : b.toNat >>> 8 = 0 := by
    rw [Nat.shiftRight_eq_div_pow]
    have := b.toNat_lt
    omega
  rw [this, Nat.xor_zero]
  rfl
theorem crcX_lt {c : Nat} (h : c < 2 ^ 32) (b : UInt8) : c ^^^ b.toNat < 2 ^ 32 := Nat.xor_lt_two_pow h (by have := b.toNat_lt; omega)
theorem xor_cancel {a b c : Nat} (h : a ^^^ c = b ^^^ c) : a = b := by
  have := congrArg (· ^^^ c) h
  simpa [Nat.xor_assoc] using this
theorem crcByte_inj {c c' : Nat} (b : UInt8) (h : c < 2 ^ 32) (h' : c' < 2 ^ 32) (e : crcByte c b = crcByte c' b) : c = c' := by
  rw [crcByte_xor, crcByte_xor] at e
  exact xor_cancel (zeros_inj _ (crcX_lt h b) (crcX_lt h' b) e)
theorem crcByte_turn {c : Nat} {b b' : UInt8} (h : c < 2 ^ 32) (e : crcByte c b = crcByte c b') : b = b' := by
  rw [crcByte_xor, crcByte_xor] at e
  have := zeros_inj _ (crcX_lt h b) (crcX_lt h b') e
  rw [Nat.xor_comm c, Nat.xor_comm c] at this
  exact UInt8.toNat_inj.1 (xor_cancel this)
theorem fold_inj : ∀ (l : List UInt8) {c c' : Nat}, c < 2 ^ 32 → c' < 2 ^ 32 → l.foldl crcByte c = l.foldl crcByte c' → c = c'
  | [], _, _, _, _, e => e
  | b :: l, _, _, h, h', e => crcByte_inj b h h' (fold_inj l (crcByte_lt b h) (crcByte_lt b h') e)
/-- texts that part at one byte have different sums -/
theorem crc_turn (p q : List UInt8) {b b' : UInt8} (h : b ≠ b') : crcL (p ++ b :: q) ≠ crcL (p ++ b' :: q) := by
  intro e
  have e1 := xor_cancel e
  unfold crcRaw at e1
  rw [List.foldl_append, List.foldl_append] at e1
  have hp := crcFold_lt p (c := 4294967295) (by decide)
  have e2 := fold_inj q (crcByte_lt b hp) (crcByte_lt b' hp) e1
  exact h (crcByte_turn hp e2)
end Lh
end Go.Proofs.YtboigdpcahdidabDoor

/- Flows, as lists by key: a key, its host, and the tick at which it is gone. -/
namespace Go.Proofs.YtboigdpcahdidabDoor
namespace Lh

abbrev Fl := Nat × ByteArray × Int
/-- the place of a key (the list's length: none) -/
def fix (L : List Fl) (k : Nat) : Nat := L.findIdx fun x => decide (x.1 = k)
/-- a flow is laid in, by key -/
def flay (x : Fl) (L : List Fl) : List Fl := (L.takeWhile fun y => decide (y.1 < x.1)) ++ x :: L.dropWhile fun y => decide (y.1 < x.1)
/-- the one that is gone first: the first of the least tick -/
def fleast (L : List Fl) : Nat := (List.range L.length).foldl (fun b i => if ((L.map fun x => x.2.2).getD i 0) < ((L.map fun x => x.2.2).getD b 0) then i else b) 0
/-- what a Put leaves -/
def frest (L : List Fl) (k : Nat) : List Fl := if fix L k < L.length then L.eraseIdx (fix L k) else if 200 ≤ L.length then L.eraseIdx (fleast L) else L
def fput (time : Nat) (L : List Fl) (k : Nat) (h : ByteArray) (now : Int) : List Fl := flay (k, h, now + time) (frest L k)
/-- what is gone by now -/
def fexp (L : List Fl) (now : Int) : List Fl := L.filter fun x => decide (now < x.2.2)
def fdrop (L : List Fl) (h : ByteArray) : List Fl := L.filter fun x => !decide (x.2.1 = h)
/-- one flow more, if it may come -/
def fadd1 (now : Int) (L : List Fl) (x : Fl) : List Fl := if fix L x.1 < L.length ∨ x.2.2 ≤ now ∨ 1000 < x.2.2 - now ∨ 200 ≤ L.length then L else flay x L
def fadd (now : Int) (L l : List Fl) : List Fl := l.foldl (fadd1 now) L
/-- by key, each once; not too many; hosts are names; ticks in bounds -/
structure FlOk (L : List Fl) : Prop where
  rise : L.Pairwise fun x y => x.1 < y.1
  len : L.length ≤ 200
  key : ∀ x ∈ L, x.1 < 18446744073709551616
  size : ∀ x ∈ L, x.2.1.size ≤ 300
  lo : ∀ x ∈ L, 0 ≤ x.2.2
  hi : ∀ x ∈ L, x.2.2 ≤ 2000000000000
theorem flay_mem {x y : Fl} {L : List Fl} : y ∈ flay x L ↔ y = x ∨ y ∈ L := by
  unfold flay
  rw [List.mem_append, List.mem_cons]
  constructor
  · rintro (h | h | h)
    · exact Or.inr ((List.takeWhile_prefix _).sublist.mem h)
    · exact Or.inl h
    · exact Or.inr ((List.dropWhile_suffix _).sublist.mem h)
  · rintro (h | h)
    · exact Or.inr (Or.inl h)
    · rw [← List.takeWhile_append_dropWhile (p := fun y : Fl => decide (y.1 < x.1)) (l := L)] at h
      rcases List.mem_append.1 h with h | h
      · exact Or.inl h
      · exact Or.inr (Or.inr h)
theorem flay_len (x : Fl) (L : List Fl) : (flay x L).length = L.length + 1 := by
  unfold flay
  rw [List.length_append, List.length_cons]
  have h : (L.takeWhile (fun y : Fl => decide (y.1 < x.1)) ++ L.dropWhile (fun y : Fl => decide (y.1 < x.1))).length = L.length := by rw [List.takeWhile_append_dropWhile]
  rw [List.length_append] at h
  omega
theorem takeWhile_lt {k : Nat} : ∀ {L : List Fl} {y : Fl}, y ∈ L.takeWhile (fun y => decide (y.1 < k)) → y.1 < k
  | a :: L, y, h => by
    rw [List.takeWhile_cons] at h
    split at h
    · rename_i ha
      rcases List.mem_cons.1 h with rfl | h
      · simpa using ha
      · exact takeWhile_lt h
    · cases h
theorem dropWhile_ge {k : Nat} : ∀ {L : List Fl} {y : Fl}, L.Pairwise (fun x y => x.1 < y.1) → y ∈ L.dropWhile (fun y => decide (y.1 < k)) → k ≤ y.1
  | a :: L, y, hp, h => by
    rw [List.dropWhile_cons] at h
    rw [List.pairwise_cons] at hp
    split at h
    · exact dropWhile_ge hp.2 h
    · rename_i ha
      have ha' : k ≤ a.1 := by simpa using ha
      rcases List.mem_cons.1 h with rfl | h
      · exact ha'
      · have := hp.1 y h
        omega
theorem flay_rise {x : Fl} {L : List Fl} (h : L.Pairwise fun x y => x.1 < y.1) (hx : ∀ y ∈ L, y.1 ≠ x.1) : (flay x L).Pairwise fun x y => x.1 < y.1 := by
  unfold flay
  rw [List.pairwise_append]
  refine ⟨h.sublist (List.takeWhile_prefix _).sublist, ?_, fun a ha b hb => ?_⟩
  · rw [List.pairwise_cons]
    refine ⟨fun y hy => ?_, h.sublist (List.dropWhile_suffix _).sublist⟩
    have h1 := dropWhile_ge h hy
    have h2 := hx y ((List.dropWhile_suffix _).sublist.mem hy)
    show x.1 < y.1
    omega
  · have h1 := takeWhile_lt ha
    rcases List.mem_cons.1 hb with rfl | hb
    · exact h1
    · have h2 := dropWhile_ge h hb
      omega
theorem fix_lt {L : List Fl} {k : Nat} : fix L k < L.length ↔ ∃ x ∈ L, x.1 = k := by
  unfold fix
  rw [List.findIdx_lt_length]
  simp
theorem fix_get {L : List Fl} {k : Nat} (h : fix L k < L.length) : (L[fix L k]).1 = k := by
  have := List.findIdx_getElem (xs := L) (p := fun x : Fl => decide (x.1 = k)) (w := h)
  exact of_decide_eq_true this
theorem erase_key {L : List Fl} (hp : L.Pairwise fun x y => x.1 < y.1) {i : Nat} (hi : i < L.length) : ∀ y ∈ L.eraseIdx i, y.1 ≠ (L[i]).1 := by
  intro y hy
  rw [List.eraseIdx_eq_take_drop_succ] at hy
  rcases List.mem_append.1 hy with h | h
  · rw [List.mem_take_iff_getElem] at h
    obtain ⟨j, hj, rfl⟩ := h
    have := List.pairwise_iff_getElem.1 hp j i (by omega) hi (by omega)
    omega
  · rw [List.mem_drop_iff_getElem] at h
    obtain ⟨j, hj, rfl⟩ := h
    have := List.pairwise_iff_getElem.1 hp i (i + 1 + j) hi (by omega) (by omega)
    omega
theorem frest_sub (L : List Fl) (k : Nat) : (frest L k).Sublist L := by
  unfold frest
  split
  · exact List.eraseIdx_sublist _ _
  · split
    · exact List.eraseIdx_sublist _ _
    · exact List.Sublist.refl _
theorem frest_key {L : List Fl} (hp : L.Pairwise fun x y => x.1 < y.1) (k : Nat) : ∀ y ∈ frest L k, y.1 ≠ k := by
  intro y hy
  unfold frest at hy
  split at hy
  · rename_i h
    have := erase_key hp h y hy
    rwa [fix_get h] at this
  · rename_i h
    have hy2 : y ∈ L := by
      split at hy
      · exact (List.eraseIdx_sublist _ _).mem hy
      · exact hy
    intro e
    exact h (fix_lt.2 ⟨y, hy2, e⟩)
theorem foldl_lt {n : Nat} (f : Nat → Nat → Nat) (hf : ∀ b i, f b i = b ∨ f b i = i) : ∀ (l : List Nat) (b : Nat), b < n → (∀ i ∈ l, i < n) → l.foldl f b < n
  | [], b, hb, _ => hb
  | i :: l, b, hb, h => by
    rw [List.foldl_cons]
    refine foldl_lt f hf l _ ?_ fun j hj => h j (by simp [hj])
    rcases hf b i with e | e
    · rw [e]; exact hb
    · rw [e]; exact h i (by simp)
theorem fleast_lt {L : List Fl} (h : 0 < L.length) : fleast L < L.length := by
  unfold fleast
  refine foldl_lt _ (fun b i => ?_) _ _ h fun i hi => List.mem_range.1 hi
  split
  · exact Or.inr rfl
  · exact Or.inl rfl
theorem frest_len {L : List Fl} (h : L.length ≤ 200) (k : Nat) : (frest L k).length < 200 := by
  unfold frest
  split
  · rename_i hx
    rw [List.length_eraseIdx_of_lt hx]
    omega
  · split
    · rename_i h2
      rw [List.length_eraseIdx_of_lt (fleast_lt (by omega))]
      omega
    · omega
theorem FlOk.put {L : List Fl} (h : FlOk L) {time k : Nat} {s : ByteArray} {now : Int} (hk : k < 18446744073709551616) (hs : s.size ≤ 300) (hn : 0 ≤ now) (hn2 : now ≤ 1099511627776) (ht : time ≤ 1000) : FlOk (fput time L k s now) := by
  have hsub := frest_sub L k
  unfold fput
  refine ⟨flay_rise (h.rise.sublist hsub) (frest_key h.rise k), ?_, fun x hx => ?_, fun x hx => ?_, fun x hx => ?_, fun x hx => ?_⟩
  · rw [flay_len]
    have := frest_len h.len k
    omega
  all_goals
    rcases flay_mem.1 hx with rfl | hx
  · exact hk
  · exact h.key x (hsub.mem hx)
  · exact hs
  · exact h.size x (hsub.mem hx)
  · show 0 ≤ now + (time : Int)
    omega
  · exact h.lo x (hsub.mem hx)
  · show now + (time : Int) ≤ 2000000000000
    omega
  · exact h.hi x (hsub.mem hx)
theorem FlOk.sub {L M : List Fl} (h : FlOk L) (hs : M.Sublist L) : FlOk M :=
  ⟨h.rise.sublist hs, Nat.le_trans hs.length_le h.len, fun x hx => h.key x (hs.mem hx), fun x hx => h.size x (hs.mem hx), fun x hx => h.lo x (hs.mem hx), fun x hx => h.hi x (hs.mem hx)⟩
theorem FlOk.add1 {L : List Fl} (h : FlOk L) {now : Int} (hn : 0 ≤ now) (hn2 : now ≤ 1099511627776) {x : Fl} (hk : x.1 < 18446744073709551616) (hs : x.2.1.size ≤ 300) : FlOk (fadd1 now L x) := by
  unfold fadd1
  split
  · exact h
  · rename_i hc
    have h1 : ¬ fix L x.1 < L.length := fun e => hc (Or.inl e)
    have h2 : now < x.2.2 := by
      have : ¬ x.2.2 ≤ now := fun e => hc (Or.inr (Or.inl e))
      omega
    have h3 : x.2.2 - now ≤ 1000 := by
      have : ¬ 1000 < x.2.2 - now := fun e => hc (Or.inr (Or.inr (Or.inl e)))
      omega
    have h4 : L.length < 200 := by
      have : ¬ 200 ≤ L.length := fun e => hc (Or.inr (Or.inr (Or.inr e)))
      omega
    refine ⟨flay_rise h.rise (fun y hy e => h1 (fix_lt.2 ⟨y, hy, e⟩)), by rw [flay_len]; omega, fun y hy => ?_, fun y hy => ?_, fun y hy => ?_, fun y hy => ?_⟩
    all_goals
      rcases flay_mem.1 hy with rfl | hy
    · exact hk
    · exact h.key y hy
    · exact hs
    · exact h.size y hy
    · omega
    · exact h.lo y hy
    · omega
    · exact h.hi y hy
theorem FlOk.add {now : Int} (hn : 0 ≤ now) (hn2 : now ≤ 1099511627776) : ∀ (l : List Fl) {L : List Fl}, FlOk L → (∀ x ∈ l, x.1 < 18446744073709551616 ∧ x.2.1.size ≤ 300) → FlOk (fadd now L l)
  | [], _, h, _ => h
  | x :: l, L, h, hl => by
    show FlOk (fadd now (fadd1 now L x) l)
    exact FlOk.add hn hn2 l (h.add1 hn hn2 (hl x (by simp)).1 (hl x (by simp)).2) fun y hy => hl y (by simp [hy])
theorem fadd1_len (now : Int) (L : List Fl) (x : Fl) : L.length ≤ (fadd1 now L x).length := by
  unfold fadd1
  split
  · exact Nat.le_refl _
  · rw [flay_len]; omega
theorem fadd_len (now : Int) : ∀ (l L : List Fl), L.length ≤ (fadd now L l).length
  | [], _ => Nat.le_refl _
  | x :: l, L => Nat.le_trans (fadd1_len now L x) (fadd_len now l (fadd1 now L x))
theorem fadd_snoc (now : Int) (L l : List Fl) (x : Fl) : fadd now L (l ++ [x]) = fadd1 now (fadd now L l) x := by simp [fadd, List.foldl_append]
theorem FlOk.nil : FlOk [] := by refine ⟨List.Pairwise.nil, by simp, ?_, ?_, ?_, ?_⟩ <;> simp
end Lh
end Go.Proofs.YtboigdpcahdidabDoor

/- What is carried over, as lists of bytes: the text of flows, and what a text is. -/
namespace Go.Proofs.YtboigdpcahdidabDoor
namespace Lh

def flowsW : List UInt8 := [102, 108, 111, 119, 115]
def sumW : List UInt8 := [115, 117, 109]
def bt (l : List UInt8) : ByteArray := ⟨l.toArray⟩
theorem bt_data (l : List UInt8) : (bt l).data.toList = l := rfl
theorem bt_eta (b : ByteArray) : bt b.data.toList = b := rfl
/-- a flow's line -/
def lineF (x : Fl) : List UInt8 := joinL 32 [hexL 16 x.1, x.2.1.data.toList, decL x.2.2.toNat]
def headL (e n : Nat) : List UInt8 := joinL 32 [flowsW, decL e, decL n]
/-- the lines ahead of the sum -/
def bodyL (e : Nat) (l : List Fl) : List UInt8 := joinL 10 (headL e l.length :: l.map lineF) ++ [10]
def sumL (s : List UInt8) : List UInt8 := joinL 32 [sumW, hexL 8 (crcL s)]
/-- the text of flows -/
def textL (e : Nat) (l : List Fl) : List UInt8 := bodyL e l ++ sumL (bodyL e l) ++ [10]
/-- a line as a flow -/
def lineV (w : List UInt8) : Option Fl := match cutL 32 w with
  | [a, b, c] => if b = [] ∨ a.length ≠ 16 then none else match hexV a, numL c with
    | some k, some u => some (k, bt b, (u : Int))
    | _, _ => none
  | _ => none
def rowsL : List (List UInt8) → Option (List Fl)
  | [] => some []
  | w :: ws => match lineV w, rowsL ws with
    | some x, some l => some (x :: l)
    | _, _ => none
/-- the first line: epoch, how many -/
def firstL (w : List UInt8) : Option (Nat × Nat) := match cutL 32 w with
  | [a, b, c] => if a ≠ flowsW then none else match numL b, numL c with
    | some e, some n => some (e, n)
    | _, _ => none
  | _ => none
/-- the last line: the sum -/
def lastL (w : List UInt8) : Option Nat := match cutL 32 w with
  | [a, b] => if a ≠ sumW ∨ b.length ≠ 8 then none else hexV b
  | _ => none
/-- lines: epoch, flows, the sum, and the lines ahead of it -/
def partsL (ls : List (List UInt8)) : Option (Nat × List Fl × Nat × List (List UInt8)) :=
  if ls.length < 3 ∨ ls.getD (ls.length - 1) [] ≠ [] then none else
  match firstL (ls.getD 0 []), rowsL ((ls.drop 1).take (ls.length - 3)), lastL (ls.getD (ls.length - 2) []) with
  | some (e, n), some l, some k => if n + 3 ≠ ls.length then none else some (e, l, k, ls.take (ls.length - 2))
  | _, _, _ => none
theorem lineV_inv {w : List UInt8} {x : Fl} (h : lineV w = some x) : lineF x = w := by
  have hj := cut_join 32 w
  unfold lineV at h
  split at h
  · rename_i a b c e
    rw [e] at hj
    split at h
    · cases h
    · rename_i hc
      simp only [not_or, Decidable.not_not] at hc
      split at h
      · rename_i k u hk hu
        obtain rfl := Option.some.inj h
        have h1 := (hexL_hexV hk).1
        rw [hc.2] at h1
        unfold lineF
        show joinL 32 [hexL 16 k, b, decL (u : Int).toNat] = w
        rw [h1, Int.toNat_natCast, numL_inv hu]
        exact hj
      · cases h
  · cases h
theorem lineV_key {w : List UInt8} {x : Fl} (h : lineV w = some x) : x.1 < 18446744073709551616 ∧ 0 ≤ x.2.2 := by
  unfold lineV at h
  split at h
  · split at h
    · cases h
    · rename_i hc
      simp only [not_or, Decidable.not_not] at hc
      split at h
      · rename_i k u hk hu
        obtain rfl := Option.some.inj h
        have h1 := (hexL_hexV hk).2
        rw [hc.2] at h1
        exact ⟨h1, Int.natCast_nonneg _⟩
      · cases h
  · cases h
theorem rowsL_inv : ∀ {ws : List (List UInt8)} {l : List Fl}, rowsL ws = some l → l.map lineF = ws ∧ l.length = ws.length
  | [], l, h => by
    obtain rfl := Option.some.inj h
    exact ⟨rfl, rfl⟩
  | w :: ws, l, h => by
    unfold rowsL at h
    split at h
    · rename_i x l' hx hl
      obtain rfl := Option.some.inj h
      obtain ⟨h1, h2⟩ := rowsL_inv hl
      exact ⟨by rw [List.map_cons, lineV_inv hx, h1], by rw [List.length_cons, h2, List.length_cons]⟩
    · cases h
theorem firstL_inv {w : List UInt8} {e n : Nat} (h : firstL w = some (e, n)) : headL e n = w := by
  have hj := cut_join 32 w
  unfold firstL at h
  split at h
  · rename_i a b c ec
    rw [ec] at hj
    split at h
    · cases h
    · rename_i hc
      simp only [Decidable.not_not] at hc
      split at h
      · rename_i e' n' he hn
        cases h
        unfold headL
        rw [numL_inv he, numL_inv hn, ← hc]
        exact hj
      · cases h
  · cases h
theorem lastL_inv {w : List UInt8} {k : Nat} (h : lastL w = some k) : joinL 32 [sumW, hexL 8 k] = w := by
  have hj := cut_join 32 w
  unfold lastL at h
  split at h
  · rename_i a b ec
    rw [ec] at hj
    split at h
    · cases h
    · rename_i hc
      simp only [not_or, Decidable.not_not] at hc
      have h1 := (hexL_hexV h).1
      rw [hc.2] at h1
      rw [h1, ← hc.1]
      exact hj
  · cases h
theorem joinL_snoc (y : UInt8) : ∀ (ws : List (List UInt8)) (w : List UInt8), ws ≠ [] → joinL y (ws ++ [w]) = joinL y ws ++ y :: w
  | [v], w, _ => rfl
  | v :: u :: ws, w, _ => by
    show v ++ y :: joinL y ((u :: ws) ++ [w]) = _
    rw [joinL_snoc y (u :: ws) w (by simp)]
    show _ = (v ++ y :: joinL y (u :: ws)) ++ y :: w
    simp
/-- A text that is one is the text of what it is. -/
theorem parts_text {s : List UInt8} {e k : Nat} {l : List Fl} {ps : List (List UInt8)} (h : partsL (cutL 10 s) = some (e, l, k, ps)) : joinL 10 ps ++ [10] = bodyL e l ∧ (k = crcL (bodyL e l) → s = textL e l) ∧ s.length = (bodyL e l).length + 13 := by
  have hj := cut_join 10 s
  generalize cutL 10 s = ls at h hj
  unfold partsL at h
  split at h
  · cases h
  · rename_i hc
    simp only [not_or, Decidable.not_not, Nat.not_lt] at hc
    split at h
    · rename_i e' n l' k' hf hr hs
      split at h
      · cases h
      · rename_i hn
        simp only [Decidable.not_not] at hn
        cases h
        have h1 := firstL_inv hf
        obtain ⟨h2, h3⟩ := rowsL_inv hr
        have h4 := lastL_inv hs
        have hlen : l.length = ls.length - 3 := by rw [h3, List.length_take, List.length_drop]; omega
        have hnl : n = l.length := by omega
        have hps : ls.take (ls.length - 2) = headL e l.length :: l.map lineF := by
          rw [h2, ← hnl, h1]
          match ls, hc.1 with
          | w :: ws, hc1 =>
            rw [show (w :: ws).length - 2 = ((w :: ws).length - 3) + 1 by simp at hc1 ⊢; omega, List.take_succ_cons]
            rfl
        have hls : ls = ls.take (ls.length - 2) ++ [ls.getD (ls.length - 2) []] ++ [ls.getD (ls.length - 1) []] := by
          rw [List.getD_eq_getElem?_getD, List.getD_eq_getElem?_getD, List.getElem?_eq_getElem (by omega), List.getElem?_eq_getElem (by omega)]
          simp only [Option.getD_some]
          have q1 := List.take_succ_eq_append_getElem (l := ls) (i := ls.length - 2) (by omega)
          have q2 := List.take_succ_eq_append_getElem (l := ls) (i := ls.length - 2 + 1) (by omega)
          rw [q1] at q2
          have q3 : ls.take (ls.length - 2 + 1 + 1) = ls := List.take_of_length_le (by omega)
          rw [q3] at q2
          have q4 : ls[ls.length - 1] = ls[ls.length - 2 + 1]'(by omega) := by congr 1; omega
          rw [q4]
          exact q2
        rw [hc.2, ← h4, hps] at hls
        have hs2 : s = joinL 10 (headL e l.length :: l.map lineF) ++ 10 :: (joinL 32 [sumW, hexL 8 k]) ++ [10] := by
          rw [← hj, hls, joinL_snoc _ _ _ (by simp), joinL_snoc _ _ _ (by simp)]
        refine ⟨by rw [hps]; rfl, fun hk => ?_, ?_⟩
        · rw [hs2, hk]
          show _ = (joinL 10 (headL e l.length :: l.map lineF) ++ [10]) ++ sumL (bodyL e l) ++ [10]
          simp [sumL]
        · rw [hs2]
          show _ = (joinL 10 (headL e l.length :: l.map lineF) ++ [10]).length + 13
          have := hexL_len 8 k
          simp only [List.length_append, List.length_cons, List.length_nil, joinL, sumW, this]
    · cases h
end Lh
end Go.Proofs.YtboigdpcahdidabDoor

/- What is carried over: it comes back; what is cut off, and a byte that is turned, are seen. -/
namespace Go.Proofs.YtboigdpcahdidabDoor
namespace Lh

theorem dig_not {c y : UInt8} (h : isDg c = true) (hy : y.toNat < 48) : c ≠ y := by
  intro e
  subst e
  unfold isDg at h
  simp at h
  omega
theorem decL_no (n : Nat) {y : UInt8} (hy : y.toNat < 48) : y ∉ decL n := fun h => dig_not (List.all_eq_true.1 (decL_dig n) y h) hy rfl
theorem hexL_no (k n : Nat) {y : UInt8} (hy : y.toNat < 48) : y ∉ hexL k n := by
  induction k generalizing n with
  | zero => simp [hexL]
  | succ k ih =>
    show y ∉ hexL k (n / 16) ++ [hxU (n % 16)]
    rw [List.mem_append, not_or]
    refine ⟨ih _, fun h => ?_⟩
    have e : y = hxU (n % 16) := by simpa using h
    have := hxU_nat (Nat.mod_lt n (show 0 < 16 by decide))
    rw [← e] at this
    split at this <;> omega
theorem join3_no {y z : UInt8} {a b c : List UInt8} (hyz : y ≠ z) (ha : y ∉ a) (hb : y ∉ b) (hc : y ∉ c) : y ∉ joinL z [a, b, c] := by
  show y ∉ a ++ z :: (b ++ z :: c)
  simp [ha, hb, hc, hyz]
/-- flows that may be carried: keys and ticks in bounds, hosts that are words -/
def WordF (l : List Fl) : Prop := ∀ x ∈ l, x.1 < 18446744073709551616 ∧ 0 ≤ x.2.2 ∧ x.2.2 < 100000000000000 ∧ x.2.1.data.toList ≠ [] ∧ (32 : UInt8) ∉ x.2.1.data.toList ∧ (10 : UInt8) ∉ x.2.1.data.toList
theorem lineF_no {l : List Fl} (h : WordF l) {x : Fl} (hx : x ∈ l) : (10 : UInt8) ∉ lineF x := by
  obtain ⟨_, _, _, _, _, h6⟩ := h x hx
  exact join3_no (by decide) (hexL_no _ _ (by decide)) h6 (decL_no _ (by decide))
theorem lineF_row {l : List Fl} (h : WordF l) {x : Fl} (hx : x ∈ l) : lineV (lineF x) = some x := by
  obtain ⟨h1, h2, h3, h4, h5, _⟩ := h x hx
  have hc : cutL 32 (lineF x) = [hexL 16 x.1, x.2.1.data.toList, decL x.2.2.toNat] := join_cut (by simp) fun w hw => by
    simp at hw
    rcases hw with rfl | rfl | rfl
    · exact hexL_no _ _ (by decide)
    · exact h5
    · exact decL_no _ (by decide)
  unfold lineV
  rw [hc]
  dsimp only
  rw [if_neg (by rw [hexL_len]; simp [h4]), hexV_hexL 16 _ (by simpa using h1), numL_dec (by omega)]
  show some (x.1, bt x.2.1.data.toList, ((x.2.2.toNat : Nat) : Int)) = some x
  rw [bt_eta, Int.toNat_of_nonneg h2]
theorem rows_back {l : List Fl} (h : WordF l) : rowsL (l.map lineF) = some l := by
  induction l with
  | nil => rfl
  | cons x l ih =>
    have h1 := lineF_row h (x := x) (by simp)
    have h2 := ih (fun y hy => h y (by simp [hy]))
    rw [List.map_cons]
    simp only [rowsL, h1, h2]
theorem headL_no (e n : Nat) : (10 : UInt8) ∉ headL e n := join3_no (by decide) (by decide) (decL_no _ (by decide)) (decL_no _ (by decide))
theorem head_back {e n : Nat} (he : e < 100000000000000) (hn : n < 100000000000000) : firstL (headL e n) = some (e, n) := by
  have hc : cutL 32 (headL e n) = [flowsW, decL e, decL n] := join_cut (by simp) fun w hw => by
    simp at hw
    rcases hw with rfl | rfl | rfl
    · decide
    · exact decL_no _ (by decide)
    · exact decL_no _ (by decide)
  unfold firstL
  rw [hc]
  dsimp only
  rw [if_neg (by simp), numL_dec (by omega), numL_dec (by omega)]
theorem sum_no (k : Nat) : (10 : UInt8) ∉ joinL 32 [sumW, hexL 8 k] := by
  show (10 : UInt8) ∉ sumW ++ 32 :: hexL 8 k
  have := hexL_no 8 k (y := 10) (by decide)
  simp [sumW, this]
theorem sum_back {k : Nat} (hk : k < 2 ^ 32) : lastL (joinL 32 [sumW, hexL 8 k]) = some k := by
  have hc : cutL 32 (joinL 32 [sumW, hexL 8 k]) = [sumW, hexL 8 k] := join_cut (by simp) fun w hw => by
    simp at hw
    rcases hw with rfl | rfl
    · decide
    · exact hexL_no _ _ (by decide)
  unfold lastL
  rw [hc]
  dsimp only
  rw [if_neg (by simp [hexL_len]), hexV_hexL 8 k (by simpa using hk)]
theorem text_lines (e : Nat) (l : List Fl) : textL e l = joinL 10 ((headL e l.length :: l.map lineF) ++ [sumL (bodyL e l)] ++ [[]]) := by
  rw [joinL_snoc _ _ _ (by simp), joinL_snoc _ _ _ (by simp)]
  show (joinL 10 (headL e l.length :: l.map lineF) ++ [10]) ++ sumL (bodyL e l) ++ [10] = _
  simp
theorem text_cut {e : Nat} {l : List Fl} (h : WordF l) : cutL 10 (textL e l) = (headL e l.length :: l.map lineF) ++ [sumL (bodyL e l)] ++ [[]] := by
  rw [text_lines]
  refine join_cut (by simp) fun w hw => ?_
  simp only [List.mem_append, List.mem_cons, List.mem_map, List.not_mem_nil, or_false] at hw
  rcases hw with ((rfl | ⟨x, hx, rfl⟩) | rfl) | rfl
  · exact headL_no _ _
  · exact lineF_no h hx
  · exact sum_no _
  · simp
/-- The text of flows is read as these flows. -/
theorem text_back {e : Nat} {l : List Fl} (he : e < 100000000000000) (hl : l.length < 100000000000000) (h : WordF l) : partsL (cutL 10 (textL e l)) = some (e, l, crcL (bodyL e l), headL e l.length :: l.map lineF) := by
  rw [text_cut h]
  have hlen : ((headL e l.length :: l.map lineF) ++ [sumL (bodyL e l)] ++ [[]]).length = l.length + 3 := by simp
  have g0 : ((headL e l.length :: l.map lineF) ++ [sumL (bodyL e l)] ++ [[]]).getD 0 [] = headL e l.length := rfl
  have g1 : ((headL e l.length :: l.map lineF) ++ [sumL (bodyL e l)] ++ [[]]).getD (l.length + 3 - 1) [] = [] := by
    rw [List.getD_eq_getElem?_getD, List.getElem?_append_right (by simp)]
    simp
  have g2 : ((headL e l.length :: l.map lineF) ++ [sumL (bodyL e l)] ++ [[]]).getD (l.length + 3 - 2) [] = sumL (bodyL e l) := by
    rw [List.getD_eq_getElem?_getD, List.getElem?_append_left (by simp), List.getElem?_append_right (by simp)]
    simp
  have g3 : (((headL e l.length :: l.map lineF) ++ [sumL (bodyL e l)] ++ [[]]).drop 1).take (l.length + 3 - 3) = l.map lineF := by
    show ((l.map lineF ++ [sumL (bodyL e l)]) ++ [[]]).take (l.length + 3 - 3) = _
    rw [List.append_assoc, List.take_append_of_le_length (by simp), List.take_of_length_le (by simp)]
  have g4 : ((headL e l.length :: l.map lineF) ++ [sumL (bodyL e l)] ++ [[]]).take (l.length + 3 - 2) = headL e l.length :: l.map lineF := by
    rw [List.append_assoc, List.take_append_of_le_length (by simp), List.take_of_length_le (by simp)]
  unfold partsL
  rw [hlen, g0, g1, g2, g3, g4, if_neg (by simp), head_back he hl, rows_back h]
  have hs : lastL (sumL (bodyL e l)) = some (crcL (bodyL e l)) := sum_back (crcL_lt _)
  rw [hs]
  dsimp only
  rw [if_neg (by omega)]
/-- Two texts of flows that part at one byte alone: there are none. -/
theorem text_turn {e e' : Nat} {l l' : List Fl} {p q : List UInt8} {b b' : UInt8} (h : textL e l = p ++ b :: q) (h' : textL e' l' = p ++ b' :: q) (hne : b ≠ b') : False := by
  have hlen : ∀ (e : Nat) (l : List Fl), (textL e l).length = (bodyL e l).length + 13 := fun e l => by
    unfold textL sumL
    have := hexL_len 8 (crcL (bodyL e l))
    simp only [List.length_append, List.length_cons, List.length_nil, joinL, sumW, this]
  have hsl : ∀ s, (sumL s ++ [10]).length = 13 := fun s => by
    unfold sumL
    have := hexL_len 8 (crcL s)
    simp only [List.length_append, List.length_cons, List.length_nil, joinL, sumW, this]
  have l1 := congrArg List.length h
  have l2 := congrArg List.length h'
  rw [hlen] at l1 l2
  simp only [List.length_append, List.length_cons] at l1 l2
  have hbl : (bodyL e l).length = (bodyL e' l').length := by omega
  unfold textL at h h'
  rw [List.append_assoc] at h h'
  have sum_inj : ∀ s s', sumL s ++ [10] = sumL s' ++ [10] → crcL s = crcL s' := fun s s' e => by
    have e1 := List.append_cancel_right e
    unfold sumL at e1
    have e2 : sumW ++ 32 :: hexL 8 (crcL s) = sumW ++ 32 :: hexL 8 (crcL s') := e1
    have e3 := List.append_cancel_left e2
    have e4 : hexL 8 (crcL s) = hexL 8 (crcL s') := (List.cons.inj e3).2
    have a1 := hexV_hexL 8 (crcL s) (by simpa using crcL_lt s)
    have a2 := hexV_hexL 8 (crcL s') (by simpa using crcL_lt s')
    rw [e4] at a1
    exact Option.some.inj (a1.symm.trans a2)
  rcases Nat.lt_or_ge p.length (bodyL e l).length with hp | hp
  · -- the byte lies in the body: the rest of both is one, so the sums are
    have t1 := congrArg (List.drop (bodyL e l).length) h
    have t2 := congrArg (List.drop (bodyL e l).length) h'
    rw [List.drop_left] at t1
    rw [hbl, List.drop_left] at t2
    have q1 : ∀ b : UInt8, (p ++ b :: q).drop (bodyL e l).length = q.drop ((bodyL e l).length - p.length - 1) := fun b => by
      rw [List.drop_append, List.drop_eq_nil_of_le (by omega), List.nil_append]
      obtain ⟨m, hm⟩ : ∃ m, (bodyL e l).length - p.length = m + 1 := ⟨(bodyL e l).length - p.length - 1, by omega⟩
      rw [hm, List.drop_succ_cons, Nat.add_sub_cancel]
    rw [q1] at t1
    rw [← hbl, q1] at t2
    have hcr := sum_inj _ _ (t1.trans t2.symm)
    have r1 := congrArg (List.take (bodyL e l).length) h
    have r2 := congrArg (List.take (bodyL e l).length) h'
    rw [List.take_left] at r1
    rw [hbl, List.take_left] at r2
    have q2 : ∀ b : UInt8, (p ++ b :: q).take (bodyL e l).length = p ++ b :: q.take ((bodyL e l).length - p.length - 1) := fun b => by
      rw [List.take_append, List.take_of_length_le (by omega)]
      obtain ⟨m, hm⟩ : ∃ m, (bodyL e l).length - p.length = m + 1 := ⟨(bodyL e l).length - p.length - 1, by omega⟩
      rw [hm, List.take_succ_cons, Nat.add_sub_cancel]
    rw [q2] at r1
    rw [← hbl, q2] at r2
    rw [r1, r2] at hcr
    exact crc_turn _ _ hne hcr
  · -- the byte lies behind the body: the bodies are one, so the texts are
    have r1 := congrArg (List.take (bodyL e l).length) h
    have r2 := congrArg (List.take (bodyL e l).length) h'
    rw [List.take_left, List.take_append_of_le_length hp] at r1
    rw [hbl, List.take_left, ← hbl, List.take_append_of_le_length hp] at r2
    have hb : bodyL e l = bodyL e' l' := r1.trans r2.symm
    rw [hb] at h
    have e1 : p ++ b :: q = p ++ b' :: q := h.symm.trans h'
    have e2 := List.append_cancel_left e1
    exact hne (List.cons.inj e2).1
end Lh
end Go.Proofs.YtboigdpcahdidabDoor
