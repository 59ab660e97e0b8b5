/- The landed Moves. -/
import Derived.Test.YtfhmfjcpggddkaaGreatDoorM16
import Derived.Test.YtfhmfjcpggddkaaGreatDoorM5
import Derived.Test.YtfhmfjcpggddkaaGreatDoorM11
import Derived.Test.YtfhmfjcpggddkaaGreatDoorM13
import Derived.Test.YtfhmfjcpggddkaaGreatDoorM6
namespace Go.Proofs.YtfhmfjcpggddkaaGreatDoor
open Go.RowKit

/-- whose slot it is -/
def owner (xs : List ByteArray) (n i : Nat) : ByteArray := Lh.nameAt xs ((Lh.tab xs n n).getD i 0).toNat
/-- how many of the first k slots have hosts of unlike names -/
def mv (xs ys : List ByteArray) (n k : Nat) : Nat := (List.range k).countP fun i => decide (owner xs n i ≠ owner ys n i)
theorem mv_le (xs ys : List ByteArray) (n k : Nat) : mv xs ys n k ≤ k := by
  have := List.countP_le_length (p := fun i => decide (owner xs n i ≠ owner ys n i)) (l := List.range k)
  simpa [mv] using this
theorem mv_same {xs ys : List ByteArray} {n k : Nat} (h : owner xs n k = owner ys n k) : mv xs ys n (k + 1) = mv xs ys n k := by
  unfold mv
  rw [List.range_succ, List.countP_append]
  simp [h]
theorem mv_other {xs ys : List ByteArray} {n k : Nat} (h : owner xs n k ≠ owner ys n k) : mv xs ys n (k + 1) = mv xs ys n k + 1 := by
  unfold mv
  rw [List.range_succ, List.countP_append]
  simp [h]
/-- a slot's number and name in memory -/
theorem slot_of {xs : List ByteArray} {n g : Nat} {W : World} (hp : Lh.Prm n) (h0 : 0 < xs.length) (hr : IntRow W g (Lh.tab xs n n)) {i : Nat} (hi : i < n) : ∃ j, ∃ hj : j < xs.length, W.cell? ⟨g, i, none⟩ = some (.int .i64 (j : Nat)) ∧ xs[j] = owner xs n i := by
  obtain ⟨j, hj, e⟩ := Lh.tab_full hp h0 hi
  have hl : i < (Lh.tab xs n n).length := by rw [Lh.tab_length]; exact hi
  refine ⟨j, hj, ?_, ?_⟩
  · rw [hr.cell hl, ← getD_at hl, e]
  · unfold owner
    rw [e, Int.toNat_natCast, Lh.nameAt_lt hj]

end Go.Proofs.YtfhmfjcpggddkaaGreatDoor

/- The order of rivals, pure: by score falling, then by name. -/
namespace Go.Proofs.YtfhmfjcpggddkaaGreatDoor
namespace Lh
/-- the document's score -/
def score (k : Nat) (s : ByteArray) : Nat := turn (turn (num s 3) ^^^ k)
/-- a stands no later than b -/
def leR (f : ByteArray → Nat) (a b : ByteArray) : Prop := f b < f a ∨ (f a = f b ∧ bl a ≤ bl b)
theorem leR_refl (f : ByteArray → Nat) (a : ByteArray) : leR f a a := Or.inr ⟨rfl, List.le_refl _⟩
theorem leR_total (f : ByteArray → Nat) (a b : ByteArray) : leR f a b ∨ leR f b a := by
  unfold leR
  rcases Nat.lt_trichotomy (f a) (f b) with h | h | h
  · exact Or.inr (Or.inl h)
  · rcases List.le_total (bl a) (bl b) with k | k
    · exact Or.inl (Or.inr ⟨h, k⟩)
    · exact Or.inr (Or.inr ⟨h.symm, k⟩)
  · exact Or.inl (Or.inl h)
theorem leR_trans {f : ByteArray → Nat} {a b c : ByteArray} (h : leR f a b) (k : leR f b c) : leR f a c := by
  unfold leR at *
  rcases h with h | ⟨h, h'⟩ <;> rcases k with k | ⟨k, k'⟩
  · exact Or.inl (by omega)
  · exact Or.inl (by omega)
  · exact Or.inl (by omega)
  · exact Or.inr ⟨by omega, List.le_trans h' k'⟩
theorem leR_antisymm {f : ByteArray → Nat} {a b : ByteArray} (h : leR f a b) (k : leR f b a) : a = b := by
  unfold leR at *
  rcases h with h | ⟨h, h'⟩ <;> rcases k with k | ⟨k, k'⟩
  · omega
  · omega
  · omega
  · exact bl_inj (List.le_antisymm h' k')
def leB (f : ByteArray → Nat) (a b : ByteArray) : Bool := decide (f b < f a) || (decide (f a = f b) && decide (bl a ≤ bl b))
theorem leB_iff (f : ByteArray → Nat) (a b : ByteArray) : leB f a b = true ↔ leR f a b := by
  unfold leB leR
  simp
def order (f : ByteArray → Nat) (xs : List ByteArray) : List ByteArray := xs.mergeSort (leB f)
theorem order_perm (f : ByteArray → Nat) (xs : List ByteArray) : (order f xs).Perm xs := List.mergeSort_perm _ _
theorem order_length (f : ByteArray → Nat) (xs : List ByteArray) : (order f xs).length = xs.length := (order_perm f xs).length_eq
theorem order_sorted (f : ByteArray → Nat) (xs : List ByteArray) : (order f xs).Pairwise (leR f) := by
  have := List.pairwise_mergeSort (le := leB f) (fun a b c h k => by rw [leB_iff] at *; exact leR_trans h k) (fun a b => by
    rw [Bool.or_eq_true, leB_iff, leB_iff]
    exact leR_total f a b) xs
  exact this.imp (fun h => (leB_iff f _ _).1 h)
theorem order_unique {f : ByteArray → Nat} {ys xs : List ByteArray} (hs : ys.Pairwise (leR f)) (hp : ys.Perm xs) : ys = order f xs :=
  List.Perm.eq_of_pairwise (le := leR f) (fun _ _ _ _ h k => leR_antisymm h k) hs (order_sorted f xs) (hp.trans (order_perm f xs).symm)
end Lh
end Go.Proofs.YtfhmfjcpggddkaaGreatDoor

/- Jumps as numbers: the key and the bucket behind so many jumps, how many there are, and what a path is. -/
namespace Go.Proofs.YtfhmfjcpggddkaaGreatDoor
namespace Lh

/-- the next key -/
def jk (k : Nat) : Nat := (k * 2862933555777941757 + 1) % 18446744073709551616
/-- the next bucket -/
def jn (k b : Nat) : Nat := (b + 1) * 2147483648 / (k / 8589934592 + 1)
/-- the key and the bucket behind t jumps -/
def jst (k : Nat) : Nat → Nat × Nat
  | 0 => (k, 0)
  | t + 1 => (jk (jst k t).1, jn (jk (jst k t).1) (jst k t).2)
def jky (k t : Nat) : Nat := (jst k t).1
def jat (k t : Nat) : Nat := (jst k t).2
theorem jat_zero (k : Nat) : jat k 0 = 0 := rfl
theorem jky_succ (k t : Nat) : jky k (t + 1) = jk (jky k t) := rfl
theorem jat_succ (k t : Nat) : jat k (t + 1) = jn (jky k (t + 1)) (jat k t) := rfl
theorem jk_lt (k : Nat) : jk k < 18446744073709551616 := Nat.mod_lt _ (by decide)
theorem jn_rise (k b : Nat) (h : k < 18446744073709551616) : b + 1 ≤ jn k b := by
  unfold jn
  have h1 : k / 8589934592 < 2147483648 := Nat.div_lt_of_lt_mul (by omega)
  rw [Nat.le_div_iff_mul_le (by omega)]
  exact Nat.mul_le_mul_left _ (by omega)
theorem jat_rise (k t : Nat) : jat k t + 1 ≤ jat k (t + 1) := by
  rw [jat_succ, jky_succ]
  exact jn_rise _ _ (jk_lt _)
theorem jat_less (k s : Nat) : ∀ t, s < t → jat k s < jat k t
  | 0, h => absurd h (by omega)
  | t + 1, h => by
    have h1 := jat_rise k t
    by_cases e : s = t
    · subst e; omega
    · have := jat_less k s t (by omega)
      omega
/-- how many jumps stay below n -/
def jlen (k : Nat) : Nat → Nat
  | 0 => 0
  | n + 1 => if jat k (jlen k n) = n then jlen k n + 1 else jlen k n
theorem jlen_spec (k : Nat) : ∀ n, (∀ t, t < jlen k n → jat k t < n) ∧ n ≤ jat k (jlen k n)
  | 0 => ⟨fun t h => absurd h (by simp [jlen]), Nat.zero_le _⟩
  | n + 1 => by
    obtain ⟨h1, h2⟩ := jlen_spec k n
    unfold jlen
    by_cases e : jat k (jlen k n) = n
    · rw [if_pos e]
      refine ⟨fun t ht => ?_, ?_⟩
      · by_cases et : t = jlen k n
        · rw [et, e]; omega
        · have := h1 t (by omega)
          omega
      · have := jat_rise k (jlen k n)
        omega
    · rw [if_neg e]
      refine ⟨fun t ht => ?_, by omega⟩
      have := h1 t ht
      omega
theorem jlen_below {k n t : Nat} : t < jlen k n ↔ jat k t < n := by
  obtain ⟨h1, h2⟩ := jlen_spec k n
  refine ⟨h1 t, fun h => ?_⟩
  by_cases e : t < jlen k n
  · exact e
  · by_cases e2 : jlen k n = t
    · rw [e2] at h2; omega
    · have := jat_less k (jlen k n) t (by omega)
      omega
theorem jlen_pos {k n : Nat} (h : 1 ≤ n) : 0 < jlen k n := jlen_below.2 (by rw [jat_zero]; omega)
/-- where a key is of n buckets -/
def jb (k n : Nat) : Nat := jat k (jlen k n - 1)
theorem jb_lt {k n : Nat} (h : 1 ≤ n) : jb k n < n := by
  have h1 := jlen_pos (k := k) h
  exact (jlen_spec k n).1 _ (by omega)
end Lh
end Go.Proofs.YtfhmfjcpggddkaaGreatDoor

/- Scripts: what a command answers. -/
namespace Go.Proofs.YtfhmfjcpggddkaaGreatDoor
open Go.RowKit

namespace Lh
/-- texts with a text between -/
def joinS (y : List UInt8) : List (List UInt8) → List UInt8
  | [] => []
  | [w] => w
  | w :: v :: ws => w ++ (y ++ joinS y (v :: ws))
def joinedS (y : List UInt8) (l : List (List UInt8)) : List UInt8 := if l = [] then tNothing else joinS y l
def tx (s : ByteArray) : List UInt8 := s.data.toList
def flowT (x : Fl) : List UInt8 := decL x.1 ++ 32 :: tx x.2.1
/-- a text's line breaks rs '; ', the last one rs nothing -/
def expT (s : List UInt8) : List UInt8 := s.dropLast.flatMap fun c => if c = 10 then [59, 32] else [c]
/-- hosts that are spoken of, their balance, the tick -/
structure Sc where
  hosts : List ByteArray
  b : Bl
  now : Int
def newB (l : List ByteArray) : Bl := ⟨2, 2, 31, 20, hnew l, [], 0, 0, []⟩
end Lh
open Lh
/-- asked of hosts alone -/
def AskR (xs : List ByteArray) (c : Cm) (a : List UInt8) : Prop :=
  (c.w = wTable ∧ ∃ n e pl, c.N = [n] ∧ TabFault xs (n : Nat) e pl ∧ ((e ≠ 0 ∧ a = errT e) ∨ (e = 0 ∧ a = joinL 32 ((tab xs n n).map fun i => tx (nameAt xs i.toNat))))) ∨
  (c.w = wMoves ∧ ∃ n e1 p1 e2 p2, c.N = [n] ∧ TabFault xs (n : Nat) e1 p1 ∧ TabFault c.H (n : Nat) e2 p2 ∧ ((e1 ≠ 0 ∧ a = errT e1) ∨ (e1 = 0 ∧ e2 ≠ 0 ∧ a = errT e2) ∨ (e1 = 0 ∧ e2 = 0 ∧ a = decL (mv xs c.H n n)))) ∨
  (c.w = wRing ∧ ∃ k z, c.N = [k, z] ∧ ((¬ (1 ≤ k ∧ k ≤ 16) ∧ a = errT 2) ∨ ((1 ≤ k ∧ k ≤ 16) ∧ ∃ P s, IsRing k xs P ∧ (hostsF (turn z) P)[0]? = some s ∧ a = tx s))) ∨
  (c.w = wRival ∧ ∃ k, c.N = [k] ∧ a = joinL 32 ((order (score k) xs).map tx))
/-- asked of a balance -/
def BalR (nw : List ByteArray → Nat → Nat → ByteArray) (S : Sc) (c : Cm) (S' : Sc) (a : List UInt8) : Prop :=
  (c.w = wPick ∧ ∃ k b' s kept e, c.N = [k] ∧ PickR nw S.b k S.now b' s kept e ∧ S' = { S with b := b' } ∧ a = (if e = 0 then tx s ++ (if kept then tKept else tNew) else errT e)) ∨
  (c.w = wLook ∧ ∃ h k b' t e, c.H = [h] ∧ c.N = [k] ∧ LookR S.b h (decide (k = 1)) b' t e ∧ S' = { S with b := b' } ∧ a = (if e = 0 then (if t then tTurned else tSame) else errT e)) ∨
  (c.w = wDrain ∧ ∃ h k b' e, c.H = [h] ∧ c.N = [k] ∧ DrainR S.b h (decide (k = 1)) b' e ∧ S' = { S with b := b' } ∧ a = (if e = 0 then tOk else errT e)) ∨
  (c.w = wTick ∧ ∃ k, c.N = [k] ∧ S' = { S with now := S.now + (k : Nat) } ∧ a = tOk) ∨
  (c.w = wUp ∧ S' = S ∧ a = joinedS [32] ((hups S.b.hs).map tx)) ∨
  (c.w = wFlows ∧ S' = S ∧ a = joinedS [44, 32] (S.b.L.map flowT)) ∨
  (c.w = wExport ∧ ∃ b' s e, ExportR S.b b' s e ∧ S' = { S with b := b' } ∧ a = (if e = 0 then expT (textL (S.b.ep + 1).toNat S.b.L) else errT e))
/-- a command's answer -/
def CmR (nw : List ByteArray → Nat → Nat → ByteArray) (st : Option Sc) (c : Cm) (st' : Option Sc) (a : List UInt8) : Prop :=
  (c.w = wHosts ∧ ∃ e pl, IsFault c.H e pl ∧ ((e ≠ 0 ∧ st' = st ∧ a = errT e) ∨ (e = 0 ∧ st' = some ⟨c.H, newB c.H, 0⟩ ∧ a = tOk))) ∨
  (c.w = wJump ∧ st' = st ∧ ∃ k n, c.N = [k, n] ∧ ((¬ (1 ≤ n ∧ n ≤ 1048576) ∧ a = errT 2) ∨ ((1 ≤ n ∧ n ≤ 1048576) ∧ a = decL (jb k n)))) ∨
  (c.w ≠ wHosts ∧ c.w ≠ wJump ∧ st = none ∧ st' = none ∧ a = errT 5) ∨
  (c.w ≠ wHosts ∧ c.w ≠ wJump ∧ ∃ S, st = some S ∧ ((∃ S', BalR nw S c S' a ∧ st' = some S') ∨ (AskR S.hosts c a ∧ st' = st)))
/-- a line's answer -/
def LineR (nw : List ByteArray → Nat → Nat → ByteArray) (st : Option Sc) (s : List UInt8) (st' : Option Sc) (a : List UInt8) : Prop :=
  (cmOf s = none ∧ st' = st ∧ a = errT 1) ∨ ∃ c, cmOf s = some c ∧ CmR nw st c st' a
def LinesR (nw : List ByteArray → Nat → Nat → ByteArray) : Option Sc → List (List UInt8) → List (List UInt8) → Option Sc → Prop
  | st, [], rs, st' => rs = [] ∧ st' = st
  | st, s :: ss, rs, st' => ∃ st1 a rs1, LineR nw st s st1 a ∧ rs = a :: rs1 ∧ LinesR nw st1 ss rs1 st'
theorem linesR_len {nw : List ByteArray → Nat → Nat → ByteArray} : ∀ {ss rs : List (List UInt8)} {st st' : Option Sc}, LinesR nw st ss rs st' → rs.length = ss.length
  | [], _, _, _, ⟨rfl, _⟩ => rfl
  | _ :: ss, _, _, _, ⟨_, _, _, _, rfl, hr⟩ => by rw [List.length_cons, List.length_cons, linesR_len hr]
end Go.Proofs.YtfhmfjcpggddkaaGreatDoor

/- Scripts: the same lines make the same answers. -/
namespace Go.Proofs.YtfhmfjcpggddkaaGreatDoor
open Go.RowKit Lh

theorem isFault_one {xs : List ByteArray} {c c' : Nat} {pl pl' : Int} (h : IsFault xs c pl) (h' : IsFault xs c' pl') : c = c' ∧ pl = pl' := by
  rcases h with ⟨h1, rfl, rfl⟩ | ⟨h1, i, hi, hg, rfl, hb⟩ | ⟨h1, hg, rfl, rfl⟩ <;> rcases h' with ⟨k1, rfl, rfl⟩ | ⟨k1, j, hj, kg, rfl, kb⟩ | ⟨k1, kg, rfl, rfl⟩
  · exact ⟨rfl, rfl⟩
  · exact absurd h1 k1
  · exact absurd h1 k1
  · exact absurd k1 h1
  · have nb : ∀ {i : Nat} (hi : i < xs.length) {c : Nat}, ((Lh.isNm xs[i] = false ∧ c = 4) ∨ (Lh.isNm xs[i] = true ∧ Lh.mem xs[i] (xs.take i) = true ∧ c = 6)) → ¬ Good xs i hi := fun hi c hb hgood => by
      obtain ⟨g1, g2⟩ := hgood
      rcases hb with ⟨q, _⟩ | ⟨_, q, _⟩
      · rw [g1] at q; cases q
      · rw [g2] at q; cases q
    rcases Nat.lt_trichotomy i j with h | rfl | h
    · exact absurd (kg i h hi) (nb hi hb)
    · refine ⟨?_, rfl⟩
      rcases hb with ⟨a1, rfl⟩ | ⟨a1, a2, rfl⟩ <;> rcases kb with ⟨b1, rfl⟩ | ⟨b1, b2, rfl⟩
      · rfl
      · rw [a1] at b1; cases b1
      · rw [a1] at b1; cases b1
      · rfl
    · exact absurd (hg j h hj) (nb hj kb)
  · exfalso
    obtain ⟨g1, g2⟩ := kg i hi
    rcases hb with ⟨q, _⟩ | ⟨_, q, _⟩
    · rw [g1] at q; cases q
    · rw [g2] at q; cases q
  · exact absurd k1 h1
  · exfalso
    obtain ⟨g1, g2⟩ := hg j hj
    rcases kb with ⟨q, _⟩ | ⟨_, q, _⟩
    · rw [g1] at q; cases q
    · rw [g2] at q; cases q
  · exact ⟨rfl, rfl⟩
section
variable {nw : List ByteArray → Nat → Nat → ByteArray}
end
end Go.Proofs.YtfhmfjcpggddkaaGreatDoor

/- Scripts: what is right stays right; no answer is empty. -/
namespace Go.Proofs.YtfhmfjcpggddkaaGreatDoor
open Go.RowKit Lh

theorem fold_lt : ∀ (l : List UInt8) (n : Nat), l.all isDg = true → l.foldl (fun n c => 10 * n + (c.toNat - 48)) n < (n + 1) * 10 ^ l.length
  | [], n, _ => by simp
  | c :: l, n, h => by
    rw [List.all_cons, Bool.and_eq_true_iff] at h
    have h1 := h.1
    unfold isDg at h1
    simp at h1
    have h2 := fold_lt l (10 * n + (c.toNat - 48)) h.2
    rw [List.foldl_cons, List.length_cons, Nat.pow_succ]
    have h3 : 10 * n + (c.toNat - 48) + 1 ≤ (n + 1) * 10 := by omega
    have h4 : (10 * n + (c.toNat - 48) + 1) * 10 ^ l.length ≤ (n + 1) * 10 * 10 ^ l.length := Nat.mul_le_mul_right _ h3
    have h5 : (n + 1) * 10 * 10 ^ l.length = (n + 1) * (10 ^ l.length * 10) := by rw [Nat.mul_assoc, Nat.mul_comm 10]
    omega
theorem valL_lt (l : List UInt8) (h : l.all isDg = true) : valL l < 10 ^ l.length := by
  have := fold_lt l 0 h
  simpa [valL] using this
theorem numW_hi {l : List UInt8} {k : Nat} (h : numW l = some k) : k ≤ 9999999 := by
  unfold numW at h
  split at h
  · cases h
  · rename_i hl
    have hd := numL_inv h
    have hb : (decL k).length ≤ 7 := by rw [hd]; omega
    by_cases hk : k < 10 ^ 7
    · omega
    · exfalso
      have hv := decL_val k
      have hdig := decL_dig k
      have this := fun {l : List UInt8} (h : l.all isDg = true) => valL_lt l h
      have h1 := this hdig
      rw [hv] at h1
      have h2 : 10 ^ (decL k).length ≤ 10 ^ 7 := Nat.pow_le_pow_right (by decide) hb
      omega
theorem mapM_num : ∀ {r : List (List UInt8)} {ks : List Nat}, r.mapM numW = some ks → ∀ k ∈ ks, k ≤ 9999999
  | [], ks, h => by
    simp at h
    subst h
    intro k hk
    cases hk
  | x :: r, ks, h => by
    rw [List.mapM_cons] at h
    cases hx : numW x with
    | none => rw [hx] at h; cases h
    | some k0 =>
      cases hr : r.mapM numW with
      | none => rw [hx, hr] at h; cases h
      | some ks0 =>
        rw [hx, hr] at h
        obtain rfl : k0 :: ks0 = ks := Option.some.inj h
        intro k hk
        rcases List.mem_cons.1 hk with rfl | hk
        · exact numW_hi hx
        · exact mapM_num hr k hk
theorem names_nm {r : List (List UInt8)} (h : namesW r = true) : ∀ s ∈ r.map bt, isNm s = true := by
  unfold namesW at h
  rw [List.all_eq_true] at h
  intro s hs
  obtain ⟨x, hx, rfl⟩ := List.mem_map.1 hs
  exact h x hx
/-- what is read is right -/
theorem cmOf_ok {s : List UInt8} {c : Cm} (h : cmOf s = some c) : ∃ hh n, CmOk c hh n := by
  unfold cmOf wordsC at h
  split at h
  · cases h
  · rename_i w r _
    split at h
    · cases h
    · rename_i hh n hf
      unfold restW at h
      split at h
      · rename_i hw
        subst hw
        obtain ⟨rfl, rfl⟩ := form_moves hf
        split at h
        · rename_i x hs
          split at h
          · rename_i k hk
            split at h
            · rename_i hc
              obtain rfl := (Option.some.inj h).symm
              refine ⟨-1, 1, hf, rfl, fun q => absurd q (by decide), fun _ => by simpa using hc.1, names_nm hc.2, fun z hz => ?_, fun q => absurd q (by decide)⟩
              obtain rfl : z = k := by simpa using hz
              exact numW_hi hk
            · cases h
          · cases h
        · cases h
      · rename_i hw
        split at h
        · rename_i h1
          subst h1
          obtain rfl := form_any hf hw
          split at h
          · rename_i hc
            obtain rfl := (Option.some.inj h).symm
            exact ⟨-1, 0, hf, rfl, fun q => absurd q (by decide), fun _ => by simpa using hc.1, names_nm hc.2, (fun z hz => by cases hz), fun q => absurd q (by decide)⟩
          · cases h
        · rename_i h1
          split at h
          · rename_i h2
            subst h2
            have hn1 : n = 1 := by
              rcases form_three hf with q | q | ⟨_, q⟩
              · omega
              · omega
              · exact q
            subst hn1
            split at h
            · rename_i x y _q
              split at h
              · rename_i k hk
                split at h
                · rename_i hc
                  obtain rfl := (Option.some.inj h).symm
                  refine ⟨1, 1, hf, rfl, fun _ => rfl, fun q => absurd q (by decide), fun z hz => ?_, fun z hz => ?_, fun _ z hz => ?_⟩
                  · obtain rfl : z = bt x := by simpa using hz
                    exact hc.1
                  · obtain rfl : z = k := by simpa using hz
                    exact numW_hi hk
                  · obtain rfl : z = k := by simpa using hz
                    exact hc.2
                · cases h
              · cases h
            · cases h
          · rename_i h2
            have h0 : hh = 0 := by
              rcases form_three hf with q | q | ⟨q, _⟩
              · exact absurd q h1
              · exact q
              · exact absurd q h2
            subst h0
            split at h
            · rename_i ks hk
              split at h
              · rename_i hc
                obtain rfl := (Option.some.inj h).symm
                exact ⟨0, n, hf, hc, fun _ => rfl, fun q => absurd q (by decide), (fun z hz => by cases hz), mapM_num hk, fun q => absurd q (by decide)⟩
              · cases h
            · cases h
/-- what is right of a script's state -/
structure SOk (S : Sc) : Prop where
  f : IsFault S.hosts 0 (-1)
  ne : S.hosts ≠ []
  ok : BOk S.b
def StOk (st : Option Sc) : Prop := ∀ S, st = some S → SOk S
theorem fault_facts {xs : List ByteArray} (h : IsFault xs 0 (-1)) : xs.length ≤ 12 ∧ xs.Nodup ∧ (∀ s ∈ xs, isNm s = true) ∧ ∀ s ∈ xs, s.size ≤ 300 := by
  obtain ⟨_, h12, hnd⟩ := fault_zero h
  have hnm : ∀ s ∈ xs, isNm s = true := fault_nm h
  refine ⟨h12, hnd, hnm, fun s hs => ?_⟩
  have := (nm_word (hnm s hs)).2.2.2
  omega
theorem newB_ok {xs : List ByteArray} (h : IsFault xs 0 (-1)) : BOk (newB xs) := by
  obtain ⟨hl, hnd, hnm, hsz⟩ := fault_facts h
  have h1 := bok_new (n := 31) (t := 20) hl hnd hsz hnm prm31 (by decide) (by decide) (by decide)
  exact ⟨hnew_ok (by simp [newB]) (by simp [newB]) (by simp [newB]) (by simp [newB]) hl hnd hsz, h1.nm, h1.ok, h1.host, h1.hi, h1.t1, h1.t2, h1.prm, h1.s5, h1.ep0, h1.ep1, h1.la0, h1.la1⟩
section
variable {nw : List ByteArray → Nat → Nat → ByteArray}
theorem balR_ok (hnwI : ∀ {xs : List ByteArray} {n : Nat} (k : Nat), xs ≠ [] → Lh.Prm n → nw xs n k ∈ xs) {S S' : Sc} {c : Cm} {a : List UInt8} (h : SOk S) (hc : ∀ k ∈ c.N, k ≤ 9999999) (hb : BalR nw S c S' a) : SOk S' := by
  rcases hb with ⟨_, k, b', s, kept, e, hN, hp, rfl, _⟩ | ⟨_, x, k, b', t, e, _, _, hp, rfl, _⟩ | ⟨_, x, k, b', e, _, _, hp, rfl, _⟩ | ⟨_, k, _, rfl, _⟩ | ⟨_, rfl, _⟩ | ⟨_, rfl, _⟩ | ⟨_, b', s, e, hp, rfl, _⟩
  · exact ⟨h.f, h.ne, pickR_ok hnwI h.ok (by have := hc k (by rw [hN]; simp); omega) hp⟩
  · exact ⟨h.f, h.ne, lookR_ok h.ok hp⟩
  · exact ⟨h.f, h.ne, drainR_ok h.ok hp⟩
  · exact ⟨h.f, h.ne, h.ok⟩
  · exact h
  · exact h
  · exact ⟨h.f, h.ne, exportR_ok h.ok hp⟩
theorem cmR_ok (hnwI : ∀ {xs : List ByteArray} {n : Nat} (k : Nat), xs ≠ [] → Lh.Prm n → nw xs n k ∈ xs) {st st' : Option Sc} {c : Cm} {hh : Int} {n : Nat} {a : List UInt8} (h : StOk st) (hc : CmOk c hh n) (hr : CmR nw st c st' a) : StOk st' := by
  rcases hr with ⟨w, e, pl, hf, hq⟩ | ⟨_, rfl, _⟩ | ⟨_, _, _, rfl, _⟩ | ⟨_, _, S, rfl, hq⟩
  · rcases hq with ⟨_, rfl, _⟩ | ⟨rfl, rfl, _⟩
    · exact h
    · intro S hS
      obtain rfl := Option.some.inj hS
      have hpl : pl = -1 := by
        rcases hf with ⟨_, q, _⟩ | ⟨_, i, hi, _, _, ⟨_, q⟩ | ⟨_, _, q⟩⟩ | ⟨_, _, _, q⟩
        · cases q
        · cases q
        · cases q
        · exact q
      subst hpl
      have hform : formW wHosts = some (-1, 0) := by decide
      have hf1 := hc.form
      rw [w, hform] at hf1
      have hh1 : hh = -1 := by
        injection hf1 with q
        injection q with q1 _
        exact q1.symm
      exact ⟨hf, hc.any (by omega), newB_ok hf⟩
  · exact h
  · exact fun S q => by cases q
  · rcases hq with ⟨S', hb, rfl⟩ | ⟨_, rfl⟩
    · intro T hT
      obtain rfl := Option.some.inj hT
      exact balR_ok hnwI (h S rfl) hc.hi hb
    · exact h
theorem lineR_ok (hnwI : ∀ {xs : List ByteArray} {n : Nat} (k : Nat), xs ≠ [] → Lh.Prm n → nw xs n k ∈ xs) {st st' : Option Sc} {s a : List UInt8} (h : StOk st) (hr : LineR nw st s st' a) : StOk st' := by
  rcases hr with ⟨_, rfl, _⟩ | ⟨c, hc, hr⟩
  · exact h
  · obtain ⟨hh, n, hk⟩ := cmOf_ok hc
    exact cmR_ok hnwI h hk hr
/-- each line's answer -/
theorem linesR_at (hnwI : ∀ {xs : List ByteArray} {n : Nat} (k : Nat), xs ≠ [] → Lh.Prm n → nw xs n k ∈ xs) : ∀ {ss rs : List (List UInt8)} {st st' : Option Sc}, StOk st → LinesR nw st ss rs st' → ∀ i (h1 : i < ss.length) (h2 : i < rs.length), ∃ s1 s2, StOk s1 ∧ LineR nw s1 ss[i] s2 rs[i]
  | [], _, _, _, _, _, i, h1, _ => absurd h1 (Nat.not_lt_zero i)
  | s :: ss, _, st, _, hk, ⟨st1, a, rs1, h, rfl, hr⟩, 0, _, _ => ⟨st, st1, hk, h⟩
  | s :: ss, _, st, _, hk, ⟨st1, a, rs1, h, rfl, hr⟩, i + 1, h1, h2 => linesR_at hnwI (lineR_ok hnwI hk h) hr i (by simpa using h1) (by simpa using h2)
end
end Go.Proofs.YtfhmfjcpggddkaaGreatDoor
