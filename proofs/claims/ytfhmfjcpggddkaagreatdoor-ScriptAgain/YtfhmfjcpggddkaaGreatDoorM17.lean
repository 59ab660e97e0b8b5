/- The landed Moves. -/
import Derived.Test.YtfhmfjcpggddkaaGreatDoorM16
import Derived.Test.YtfhmfjcpggddkaaGreatDoorM5
import Derived.Test.YtfhmfjcpggddkaaGreatDoorM11
import Derived.Test.YtfhmfjcpggddkaaGreatDoorM13
namespace Go.Proofs.YtfhmfjcpggddkaaGreatDoor
open Go.RowKit

/-- whose slot it is -/
def owner (xs : List ByteArray) (n i : Nat) : ByteArray := Lh.nameAt xs ((Lh.tab xs n n).getD i 0).toNat
/-- how many of the first k slots have hosts of unlike names -/
def mv (xs ys : List ByteArray) (n k : Nat) : Nat := (List.range k).countP fun i => decide (owner xs n i ≠ owner ys n i)
theorem mv_le (xs ys : List ByteArray) (n k : Nat) : mv xs ys n k ≤ k := by
  have := List.countP_le_length (p := fun i => decide (owner xs n i ≠ owner ys n i)) (l := List.range k)
  simpa [mv] using this
theorem mv_same {xs ys : List ByteArray} {n k : Nat} (h : owner xs n k = owner ys n k) : mv xs ys n (k + 1) = mv xs ys n k := by
  unfold mv
  rw [List.range_succ, List.countP_append]
  simp [h]
theorem mv_other {xs ys : List ByteArray} {n k : Nat} (h : owner xs n k ≠ owner ys n k) : mv xs ys n (k + 1) = mv xs ys n k + 1 := by
  unfold mv
  rw [List.range_succ, List.countP_append]
  simp [h]
/-- a slot's number and name in memory -/
theorem slot_of {xs : List ByteArray} {n g : Nat} {W : World} (hp : Lh.Prm n) (h0 : 0 < xs.length) (hr : IntRow W g (Lh.tab xs n n)) {i : Nat} (hi : i < n) : ∃ j, ∃ hj : j < xs.length, W.cell? ⟨g, i, none⟩ = some (.int .i64 (j : Nat)) ∧ xs[j] = owner xs n i := by
  obtain ⟨j, hj, e⟩ := Lh.tab_full hp h0 hi
  have hl : i < (Lh.tab xs n n).length := by rw [Lh.tab_length]; exact hi
  refine ⟨j, hj, ?_, ?_⟩
  · rw [hr.cell hl, ← getD_at hl, e]
  · unfold owner
    rw [e, Int.toNat_natCast, Lh.nameAt_lt hj]

end Go.Proofs.YtfhmfjcpggddkaaGreatDoor

/- The order of rivals, pure: by score falling, then by name. -/
namespace Go.Proofs.YtfhmfjcpggddkaaGreatDoor
namespace Lh
/-- the document's score -/
def score (k : Nat) (s : ByteArray) : Nat := turn (turn (num s 3) ^^^ k)
/-- a stands no later than b -/
def leR (f : ByteArray → Nat) (a b : ByteArray) : Prop := f b < f a ∨ (f a = f b ∧ bl a ≤ bl b)
theorem leR_refl (f : ByteArray → Nat) (a : ByteArray) : leR f a a := Or.inr ⟨rfl, List.le_refl _⟩
theorem leR_total (f : ByteArray → Nat) (a b : ByteArray) : leR f a b ∨ leR f b a := by
  unfold leR
  rcases Nat.lt_trichotomy (f a) (f b) with h | h | h
  · exact Or.inr (Or.inl h)
  · rcases List.le_total (bl a) (bl b) with k | k
    · exact Or.inl (Or.inr ⟨h, k⟩)
    · exact Or.inr (Or.inr ⟨h.symm, k⟩)
  · exact Or.inl (Or.inl h)
theorem leR_trans {f : ByteArray → Nat} {a b c : ByteArray} (h : leR f a b) (k : leR f b c) : leR f a c := by
  unfold leR at *
  rcases h with h | ⟨h, h'⟩ <;> rcases k with k | ⟨k, k'⟩
  · exact Or.inl (by omega)
  · exact Or.inl (by omega)
  · exact Or.inl (by omega)
  · exact Or.inr ⟨by omega, List.le_trans h' k'⟩
theorem leR_antisymm {f : ByteArray → Nat} {a b : ByteArray} (h : leR f a b) (k : leR f b a) : a = b := by
  unfold leR at *
  rcases h with h | ⟨h, h'⟩ <;> rcases k with k | ⟨k, k'⟩
  · omega
  · omega
  · omega
  · exact bl_inj (List.le_antisymm h' k')
def leB (f : ByteArray → Nat) (a b : ByteArray) : Bool := decide (f b < f a) || (decide (f a = f b) && decide (bl a ≤ bl b))
theorem leB_iff (f : ByteArray → Nat) (a b : ByteArray) : leB f a b = true ↔ leR f a b := by
  unfold leB leR
  simp
def order (f : ByteArray → Nat) (xs : List ByteArray) : List ByteArray := xs.mergeSort (leB f)
theorem order_perm (f : ByteArray → Nat) (xs : List ByteArray) : (order f xs).Perm xs := List.mergeSort_perm _ _
theorem order_length (f : ByteArray → Nat) (xs : List ByteArray) : (order f xs).length = xs.length := (order_perm f xs).length_eq
theorem order_sorted (f : ByteArray → Nat) (xs : List ByteArray) : (order f xs).Pairwise (leR f) := by
  have := List.pairwise_mergeSort (le := leB f) (fun a b c h k => by rw [leB_iff] at *; exact leR_trans h k) (fun a b => by
    rw [Bool.or_eq_true, leB_iff, leB_iff]
    exact leR_total f a b) xs
  exact this.imp (fun h => (leB_iff f _ _).1 h)
theorem order_unique {f : ByteArray → Nat} {ys xs : List ByteArray} (hs : ys.Pairwise (leR f)) (hp : ys.Perm xs) : ys = order f xs :=
  List.Perm.eq_of_pairwise (le := leR f) (fun _ _ _ _ h k => leR_antisymm h k) hs (order_sorted f xs) (hp.trans (order_perm f xs).symm)
end Lh
end Go.Proofs.YtfhmfjcpggddkaaGreatDoor

/- Jumps as numbers: the key and the bucket behind so many jumps, how many there are, and what a path is. -/
namespace Go.Proofs.YtfhmfjcpggddkaaGreatDoor
namespace Lh

/-- the next key -/
def jk (k : Nat) : Nat := (k * 2862933555777941757 + 1) % 18446744073709551616
/-- the next bucket -/
def jn (k b : Nat) : Nat := (b + 1) * 2147483648 / (k / 8589934592 + 1)
/-- the key and the bucket behind t jumps -/
def jst (k : Nat) : Nat → Nat × Nat
  | 0 => (k, 0)
  | t + 1 => (jk (jst k t).1, jn (jk (jst k t).1) (jst k t).2)
def jky (k t : Nat) : Nat := (jst k t).1
def jat (k t : Nat) : Nat := (jst k t).2
theorem jat_zero (k : Nat) : jat k 0 = 0 := rfl
theorem jky_succ (k t : Nat) : jky k (t + 1) = jk (jky k t) := rfl
theorem jat_succ (k t : Nat) : jat k (t + 1) = jn (jky k (t + 1)) (jat k t) := rfl
theorem jk_lt (k : Nat) : jk k < 18446744073709551616 := Nat.mod_lt _ (by decide)
theorem jn_rise (k b : Nat) (h : k < 18446744073709551616) : b + 1 ≤ jn k b := by
  unfold jn
  have h1 : k / 8589934592 < 2147483648 := Nat.div_lt_of_lt_mul (by omega)
  rw [Nat.le_div_iff_mul_le (by omega)]
  exact Nat.mul_le_mul_left _ (by omega)
theorem jat_rise (k t : Nat) : jat k t + 1 ≤ jat k (t + 1) := by
  rw [jat_succ, jky_succ]
  exact jn_rise _ _ (jk_lt _)
theorem jat_less (k s : Nat) : ∀ t, s < t → jat k s < jat k t
  | 0, h => absurd h (by omega)
  | t + 1, h => by
    have h1 := jat_rise k t
    by_cases e : s = t
    · subst e; omega
    · have := jat_less k s t (by omega)
      omega
/-- how many jumps stay below n -/
def jlen (k : Nat) : Nat → Nat
  | 0 => 0
  | n + 1 => if jat k (jlen k n) = n then jlen k n + 1 else jlen k n
theorem jlen_spec (k : Nat) : ∀ n, (∀ t, t < jlen k n → jat k t < n) ∧ n ≤ jat k (jlen k n)
  | 0 => ⟨fun t h => absurd h (by simp [jlen]), Nat.zero_le _⟩
  | n + 1 => by
    obtain ⟨h1, h2⟩ := jlen_spec k n
    unfold jlen
    by_cases e : jat k (jlen k n) = n
    · rw [if_pos e]
      refine ⟨fun t ht => ?_, ?_⟩
      · by_cases et : t = jlen k n
        · rw [et, e]; omega
        · have := h1 t (by omega)
          omega
      · have := jat_rise k (jlen k n)
        omega
    · rw [if_neg e]
      refine ⟨fun t ht => ?_, by omega⟩
      have := h1 t ht
      omega
theorem jlen_below {k n t : Nat} : t < jlen k n ↔ jat k t < n := by
  obtain ⟨h1, h2⟩ := jlen_spec k n
  refine ⟨h1 t, fun h => ?_⟩
  by_cases e : t < jlen k n
  · exact e
  · by_cases e2 : jlen k n = t
    · rw [e2] at h2; omega
    · have := jat_less k (jlen k n) t (by omega)
      omega
theorem jlen_pos {k n : Nat} (h : 1 ≤ n) : 0 < jlen k n := jlen_below.2 (by rw [jat_zero]; omega)
/-- where a key is of n buckets -/
def jb (k n : Nat) : Nat := jat k (jlen k n - 1)
theorem jb_lt {k n : Nat} (h : 1 ≤ n) : jb k n < n := by
  have h1 := jlen_pos (k := k) h
  exact (jlen_spec k n).1 _ (by omega)
end Lh
end Go.Proofs.YtfhmfjcpggddkaaGreatDoor

/- Scripts: what a command answers. -/
namespace Go.Proofs.YtfhmfjcpggddkaaGreatDoor
open Go.RowKit

namespace Lh
/-- texts with a text between -/
def joinS (y : List UInt8) : List (List UInt8) → List UInt8
  | [] => []
  | [w] => w
  | w :: v :: ws => w ++ (y ++ joinS y (v :: ws))
def joinedS (y : List UInt8) (l : List (List UInt8)) : List UInt8 := if l = [] then tNothing else joinS y l
def tx (s : ByteArray) : List UInt8 := s.data.toList
def flowT (x : Fl) : List UInt8 := decL x.1 ++ 32 :: tx x.2.1
/-- a text's line breaks rs '; ', the last one rs nothing -/
def expT (s : List UInt8) : List UInt8 := s.dropLast.flatMap fun c => if c = 10 then [59, 32] else [c]
/-- hosts that are spoken of, their balance, the tick -/
structure Sc where
  hosts : List ByteArray
  b : Bl
  now : Int
def newB (l : List ByteArray) : Bl := ⟨2, 2, 31, 20, hnew l, [], 0, 0, []⟩
end Lh
open Lh
/-- asked of hosts alone -/
def AskR (xs : List ByteArray) (c : Cm) (a : List UInt8) : Prop :=
  (c.w = wTable ∧ ∃ n e pl, c.N = [n] ∧ TabFault xs (n : Nat) e pl ∧ ((e ≠ 0 ∧ a = errT e) ∨ (e = 0 ∧ a = joinL 32 ((tab xs n n).map fun i => tx (nameAt xs i.toNat))))) ∨
  (c.w = wMoves ∧ ∃ n e1 p1 e2 p2, c.N = [n] ∧ TabFault xs (n : Nat) e1 p1 ∧ TabFault c.H (n : Nat) e2 p2 ∧ ((e1 ≠ 0 ∧ a = errT e1) ∨ (e1 = 0 ∧ e2 ≠ 0 ∧ a = errT e2) ∨ (e1 = 0 ∧ e2 = 0 ∧ a = decL (mv xs c.H n n)))) ∨
  (c.w = wRing ∧ ∃ k z, c.N = [k, z] ∧ ((¬ (1 ≤ k ∧ k ≤ 16) ∧ a = errT 2) ∨ ((1 ≤ k ∧ k ≤ 16) ∧ ∃ P s, IsRing k xs P ∧ (hostsF (turn z) P)[0]? = some s ∧ a = tx s))) ∨
  (c.w = wRival ∧ ∃ k, c.N = [k] ∧ a = joinL 32 ((order (score k) xs).map tx))
/-- asked of a balance -/
def BalR (nw : List ByteArray → Nat → Nat → ByteArray) (S : Sc) (c : Cm) (S' : Sc) (a : List UInt8) : Prop :=
  (c.w = wPick ∧ ∃ k b' s kept e, c.N = [k] ∧ PickR nw S.b k S.now b' s kept e ∧ S' = { S with b := b' } ∧ a = (if e = 0 then tx s ++ (if kept then tKept else tNew) else errT e)) ∨
  (c.w = wLook ∧ ∃ h k b' t e, c.H = [h] ∧ c.N = [k] ∧ LookR S.b h (decide (k = 1)) b' t e ∧ S' = { S with b := b' } ∧ a = (if e = 0 then (if t then tTurned else tSame) else errT e)) ∨
  (c.w = wDrain ∧ ∃ h k b' e, c.H = [h] ∧ c.N = [k] ∧ DrainR S.b h (decide (k = 1)) b' e ∧ S' = { S with b := b' } ∧ a = (if e = 0 then tOk else errT e)) ∨
  (c.w = wTick ∧ ∃ k, c.N = [k] ∧ S' = { S with now := S.now + (k : Nat) } ∧ a = tOk) ∨
  (c.w = wUp ∧ S' = S ∧ a = joinedS [32] ((hups S.b.hs).map tx)) ∨
  (c.w = wFlows ∧ S' = S ∧ a = joinedS [44, 32] (S.b.L.map flowT)) ∨
  (c.w = wExport ∧ ∃ b' s e, ExportR S.b b' s e ∧ S' = { S with b := b' } ∧ a = (if e = 0 then expT (textL (S.b.ep + 1).toNat S.b.L) else errT e))
/-- a command's answer -/
def CmR (nw : List ByteArray → Nat → Nat → ByteArray) (st : Option Sc) (c : Cm) (st' : Option Sc) (a : List UInt8) : Prop :=
  (c.w = wHosts ∧ ∃ e pl, IsFault c.H e pl ∧ ((e ≠ 0 ∧ st' = st ∧ a = errT e) ∨ (e = 0 ∧ st' = some ⟨c.H, newB c.H, 0⟩ ∧ a = tOk))) ∨
  (c.w = wJump ∧ st' = st ∧ ∃ k n, c.N = [k, n] ∧ ((¬ (1 ≤ n ∧ n ≤ 1048576) ∧ a = errT 2) ∨ ((1 ≤ n ∧ n ≤ 1048576) ∧ a = decL (jb k n)))) ∨
  (c.w ≠ wHosts ∧ c.w ≠ wJump ∧ st = none ∧ st' = none ∧ a = errT 5) ∨
  (c.w ≠ wHosts ∧ c.w ≠ wJump ∧ ∃ S, st = some S ∧ ((∃ S', BalR nw S c S' a ∧ st' = some S') ∨ (AskR S.hosts c a ∧ st' = st)))
/-- a line's answer -/
def LineR (nw : List ByteArray → Nat → Nat → ByteArray) (st : Option Sc) (s : List UInt8) (st' : Option Sc) (a : List UInt8) : Prop :=
  (cmOf s = none ∧ st' = st ∧ a = errT 1) ∨ ∃ c, cmOf s = some c ∧ CmR nw st c st' a
def LinesR (nw : List ByteArray → Nat → Nat → ByteArray) : Option Sc → List (List UInt8) → List (List UInt8) → Option Sc → Prop
  | st, [], rs, st' => rs = [] ∧ st' = st
  | st, s :: ss, rs, st' => ∃ st1 a rs1, LineR nw st s st1 a ∧ rs = a :: rs1 ∧ LinesR nw st1 ss rs1 st'
theorem linesR_len {nw : List ByteArray → Nat → Nat → ByteArray} : ∀ {ss rs : List (List UInt8)} {st st' : Option Sc}, LinesR nw st ss rs st' → rs.length = ss.length
  | [], _, _, _, ⟨rfl, _⟩ => rfl
  | _ :: ss, _, _, _, ⟨_, _, _, _, rfl, hr⟩ => by rw [List.length_cons, List.length_cons, linesR_len hr]
/-- a script's beginning -/
theorem linesR_take {nw : List ByteArray → Nat → Nat → ByteArray} : ∀ {k : Nat} {ss rs : List (List UInt8)} {st st' : Option Sc}, LinesR nw st ss rs st' → ∃ st1, LinesR nw st (ss.take k) (rs.take k) st1
  | 0, _, _, st, _, _ => ⟨st, rfl, rfl⟩
  | k + 1, [], _, _, _, ⟨rfl, rfl⟩ => ⟨_, rfl, rfl⟩
  | k + 1, s :: ss, _, _, _, ⟨st1, a, rs1, h, rfl, hr⟩ => by
    obtain ⟨st2, h2⟩ := linesR_take (k := k) hr
    exact ⟨st2, st1, a, _, h, rfl, h2⟩
end Go.Proofs.YtfhmfjcpggddkaaGreatDoor

/- Scripts: the same lines make the same answers. -/
namespace Go.Proofs.YtfhmfjcpggddkaaGreatDoor
open Go.RowKit Lh

theorem isFault_one {xs : List ByteArray} {c c' : Nat} {pl pl' : Int} (h : IsFault xs c pl) (h' : IsFault xs c' pl') : c = c' ∧ pl = pl' := by
  rcases h with ⟨h1, rfl, rfl⟩ | ⟨h1, i, hi, hg, rfl, hb⟩ | ⟨h1, hg, rfl, rfl⟩ <;> rcases h' with ⟨k1, rfl, rfl⟩ | ⟨k1, j, hj, kg, rfl, kb⟩ | ⟨k1, kg, rfl, rfl⟩
  · exact ⟨rfl, rfl⟩
  · exact absurd h1 k1
  · exact absurd h1 k1
  · exact absurd k1 h1
  · have nb : ∀ {i : Nat} (hi : i < xs.length) {c : Nat}, ((Lh.isNm xs[i] = false ∧ c = 4) ∨ (Lh.isNm xs[i] = true ∧ Lh.mem xs[i] (xs.take i) = true ∧ c = 6)) → ¬ Good xs i hi := fun hi c hb hgood => by
      obtain ⟨g1, g2⟩ := hgood
      rcases hb with ⟨q, _⟩ | ⟨_, q, _⟩
      · rw [g1] at q; cases q
      · rw [g2] at q; cases q
    rcases Nat.lt_trichotomy i j with h | rfl | h
    · exact absurd (kg i h hi) (nb hi hb)
    · refine ⟨?_, rfl⟩
      rcases hb with ⟨a1, rfl⟩ | ⟨a1, a2, rfl⟩ <;> rcases kb with ⟨b1, rfl⟩ | ⟨b1, b2, rfl⟩
      · rfl
      · rw [a1] at b1; cases b1
      · rw [a1] at b1; cases b1
      · rfl
    · exact absurd (hg j h hj) (nb hj kb)
  · exfalso
    obtain ⟨g1, g2⟩ := kg i hi
    rcases hb with ⟨q, _⟩ | ⟨_, q, _⟩
    · rw [g1] at q; cases q
    · rw [g2] at q; cases q
  · exact absurd k1 h1
  · exfalso
    obtain ⟨g1, g2⟩ := hg j hj
    rcases kb with ⟨q, _⟩ | ⟨_, q, _⟩
    · rw [g1] at q; cases q
    · rw [g2] at q; cases q
  · exact ⟨rfl, rfl⟩
theorem sizeIs_one {n : Int} {e e' : Nat} (h : SizeIs n e) (h' : SizeIs n e') : e = e' := by
  rcases h with ⟨h1, rfl⟩ | ⟨m, rfl, h2, h5, ⟨hp, rfl⟩ | ⟨hp, rfl⟩⟩ <;> rcases h' with ⟨k1, rfl⟩ | ⟨m', hm, k2, k5, ⟨kp, rfl⟩ | ⟨kp, rfl⟩⟩
  all_goals first | rfl | omega | skip
  all_goals
    obtain rfl : m = m' := by omega
    first | exact absurd kp hp | exact absurd hp kp
theorem tabFault_one {xs : List ByteArray} {n : Int} {c c' : Nat} {pl pl' : Int} (h : TabFault xs n c pl) (h' : TabFault xs n c' pl') : c = c' := by
  rcases h with ⟨rfl, rfl, _⟩ | ⟨h0, hf, hc⟩ | ⟨h0, hf, hs, _⟩ <;> rcases h' with ⟨k, rfl, _⟩ | ⟨k0, kf, kc⟩ | ⟨k0, kf, ks, _⟩
  · rfl
  · simp at k0
  · simp at k0
  · subst k; simp at h0
  · exact (isFault_one hf kf).1
  · exact absurd (isFault_one hf kf).1 hc
  · subst k; simp at h0
  · exact absurd (isFault_one kf hf).1 kc
  · exact sizeIs_one hs ks
section
variable {nw : List ByteArray → Nat → Nat → ByteArray}
theorem askR_one {xs : List ByteArray} {c : Cm} {a a' : List UInt8} (h : AskR xs c a) (h' : AskR xs c a') : a = a' := by
  rcases h with ⟨w, h⟩ | ⟨w, h⟩ | ⟨w, h⟩ | ⟨w, h⟩ <;> rcases h' with ⟨w', h'⟩ | ⟨w', h'⟩ | ⟨w', h'⟩ | ⟨w', h'⟩
  all_goals first | exact absurd (w.symm.trans w') (by decide) | skip
  · obtain ⟨n, e, pl, hn, hf, hh⟩ := h
    obtain ⟨n', e', pl', hn', hf', hh'⟩ := h'
    obtain rfl : n = n' := by simpa using hn.symm.trans hn'
    obtain rfl := tabFault_one hf hf'
    rcases hh with ⟨q, rfl⟩ | ⟨q, rfl⟩ <;> rcases hh' with ⟨q', rfl⟩ | ⟨q', rfl⟩
    · rfl
    · exact absurd q' q
    · exact absurd q q'
    · rfl
  · obtain ⟨n, e1, p1, e2, p2, hn, hf, hg, hh⟩ := h
    obtain ⟨n', e1', p1', e2', p2', hn', hf', hg', hh'⟩ := h'
    obtain rfl : n = n' := by simpa using hn.symm.trans hn'
    obtain rfl := tabFault_one hf hf'
    obtain rfl := tabFault_one hg hg'
    rcases hh with ⟨q, rfl⟩ | ⟨q, r, rfl⟩ | ⟨q, r, rfl⟩ <;> rcases hh' with ⟨q', rfl⟩ | ⟨q', r', rfl⟩ | ⟨q', r', rfl⟩
    all_goals first | rfl | exact absurd q' q | exact absurd q q' | exact absurd r' r | exact absurd r r'
  · obtain ⟨k, z, hn, hh⟩ := h
    obtain ⟨k', z', hn', hh'⟩ := h'
    obtain ⟨rfl, rfl⟩ : k = k' ∧ z = z' := by simpa using hn.symm.trans hn'
    rcases hh with ⟨q, rfl⟩ | ⟨q, P, s, hP, hs, rfl⟩ <;> rcases hh' with ⟨q', rfl⟩ | ⟨q', P', s', hP', hs', rfl⟩
    · rfl
    · exact absurd q' q
    · exact absurd q q'
    · obtain rfl := ring_one hP hP'
      rw [hs] at hs'
      injection hs' with e
      rw [e]
  · obtain ⟨k, hn, rfl⟩ := h
    obtain ⟨k', hn', rfl⟩ := h'
    obtain rfl : k = k' := by simpa using hn.symm.trans hn'
    rfl
theorem pickR_all {S S1 S2 : Lh.Bl} {k : Nat} {now : Int} {s1 s2 : ByteArray} {k1 k2 : Bool} {c1 c2 : Nat} (h : PickR nw S k now S1 s1 k1 c1) (h' : PickR nw S k now S2 s2 k2 c2) : S1 = S2 ∧ c1 = c2 ∧ s1 = s2 ∧ k1 = k2 := by
  obtain ⟨e1, e2⟩ := pickR_one h h'
  refine ⟨e1, e2, ?_⟩
  rcases h with ⟨j, hf, rfl, rfl, rfl, rfl⟩ | ⟨ht, hk, rfl, rfl, rfl⟩ | ⟨ht, hn, ho, rfl, rfl, rfl, rfl⟩ | ⟨ht, hn, ho, rfl, rfl, rfl, rfl⟩
  · rcases h' with ⟨j', hf', rfl, rfl, rfl, rfl⟩ | ⟨ht', _⟩ | ⟨ht', _⟩ | ⟨ht', _⟩
    · exact ⟨rfl, rfl⟩
    all_goals exact (ok_not ht' hf).elim
  · obtain ⟨rfl, rfl, rfl, rfl⟩ := PickR.keep h' ht hk
    exact ⟨rfl, rfl⟩
  · rcases h' with ⟨j', hf', _⟩ | ⟨_, hk', _⟩ | ⟨_, _, _, rfl, rfl, rfl, rfl⟩ | ⟨_, _, ho', _⟩
    · exact (ok_not ht hf').elim
    · exact absurd hk' (hn _)
    · exact ⟨rfl, rfl⟩
    · exact absurd ho ho'
  · obtain ⟨rfl, rfl, rfl, rfl⟩ := PickR.new h' ht hn ho
    exact ⟨rfl, rfl⟩
theorem lookR_all {S S1 S2 : Lh.Bl} {s : ByteArray} {w t1 t2 : Bool} {c1 c2 : Nat} (h : LookR S s w S1 t1 c1) (h' : LookR S s w S2 t2 c2) : S1 = S2 ∧ c1 = c2 ∧ t1 = t2 := by
  rcases h with ⟨hx, rfl, rfl, rfl⟩ | ⟨hx, rfl, rfl, rfl⟩ <;> rcases h' with ⟨hx', rfl, rfl, rfl⟩ | ⟨hx', rfl, rfl, rfl⟩
  · exact ⟨rfl, rfl, rfl⟩
  · exact absurd hx hx'
  · exact absurd hx' hx
  · exact ⟨rfl, rfl, rfl⟩
theorem balR_one {S S1 S2 : Sc} {c : Cm} {a a' : List UInt8} (h : BalR nw S c S1 a) (h' : BalR nw S c S2 a') : S1 = S2 ∧ a = a' := by
  rcases h with ⟨w, h⟩ | ⟨w, h⟩ | ⟨w, h⟩ | ⟨w, h⟩ | ⟨w, h⟩ | ⟨w, h⟩ | ⟨w, h⟩ <;> rcases h' with ⟨w', h'⟩ | ⟨w', h'⟩ | ⟨w', h'⟩ | ⟨w', h'⟩ | ⟨w', h'⟩ | ⟨w', h'⟩ | ⟨w', h'⟩
  all_goals first | exact absurd (w.symm.trans w') (by decide) | skip
  · obtain ⟨k, b', s, kept, e, hn, hp, rfl, rfl⟩ := h
    obtain ⟨k2, b2, s2, kept2, e2, hn2, hp2, rfl, rfl⟩ := h'
    obtain rfl : k = k2 := by simpa using hn.symm.trans hn2
    obtain ⟨rfl, rfl, rfl, rfl⟩ := pickR_all hp hp2
    exact ⟨rfl, rfl⟩
  · obtain ⟨x, k, b', t, e, hh, hn, hp, rfl, rfl⟩ := h
    obtain ⟨x2, k2, b2, t2, e2, hh2, hn2, hp2, rfl, rfl⟩ := h'
    obtain rfl : k = k2 := by simpa using hn.symm.trans hn2
    obtain rfl : x = x2 := by simpa using hh.symm.trans hh2
    obtain ⟨rfl, rfl, rfl⟩ := lookR_all hp hp2
    exact ⟨rfl, rfl⟩
  · obtain ⟨x, k, b', e, hh, hn, hp, rfl, rfl⟩ := h
    obtain ⟨x2, k2, b2, e2, hh2, hn2, hp2, rfl, rfl⟩ := h'
    obtain rfl : k = k2 := by simpa using hn.symm.trans hn2
    obtain rfl : x = x2 := by simpa using hh.symm.trans hh2
    obtain ⟨rfl, rfl⟩ := drainR_one hp hp2
    exact ⟨rfl, rfl⟩
  · obtain ⟨k, hn, rfl, rfl⟩ := h
    obtain ⟨k2, hn2, rfl, rfl⟩ := h'
    obtain rfl : k = k2 := by simpa using hn.symm.trans hn2
    exact ⟨rfl, rfl⟩
  · obtain ⟨rfl, rfl⟩ := h
    obtain ⟨rfl, rfl⟩ := h'
    exact ⟨rfl, rfl⟩
  · obtain ⟨rfl, rfl⟩ := h
    obtain ⟨rfl, rfl⟩ := h'
    exact ⟨rfl, rfl⟩
  · obtain ⟨b', s, e, hp, rfl, rfl⟩ := h
    obtain ⟨b2, s2, e2, hp2, rfl, rfl⟩ := h'
    obtain ⟨rfl, rfl⟩ := exportR_one hp hp2
    exact ⟨rfl, rfl⟩
theorem bal_ask {S S' : Sc} {c : Cm} {xs : List ByteArray} {a a' : List UInt8} (h : BalR nw S c S' a) (h' : AskR xs c a') : False := by
  rcases h with ⟨w, h⟩ | ⟨w, h⟩ | ⟨w, h⟩ | ⟨w, h⟩ | ⟨w, h⟩ | ⟨w, h⟩ | ⟨w, h⟩ <;> rcases h' with ⟨w', h'⟩ | ⟨w', h'⟩ | ⟨w', h'⟩ | ⟨w', h'⟩
  all_goals exact absurd (w.symm.trans w') (by decide)
theorem cmR_one {st s1 s2 : Option Sc} {c : Cm} {a a' : List UInt8} (h : CmR nw st c s1 a) (h' : CmR nw st c s2 a') : s1 = s2 ∧ a = a' := by
  rcases h with ⟨w, e, pl, hf, hh⟩ | ⟨w, rfl, k, n, hn, hh⟩ | ⟨w, v, hs, rfl, rfl⟩ | ⟨w, v, S, hs, hh⟩ <;>
    rcases h' with ⟨w', e', pl', hf', hh'⟩ | ⟨w', rfl, k', n', hn', hh'⟩ | ⟨w', v', hs', rfl, rfl⟩ | ⟨w', v', S', hs', hh'⟩
  · obtain ⟨rfl, rfl⟩ := isFault_one hf hf'
    rcases hh with ⟨q, rfl, rfl⟩ | ⟨q, rfl, rfl⟩ <;> rcases hh' with ⟨q', rfl, rfl⟩ | ⟨q', rfl, rfl⟩
    · exact ⟨rfl, rfl⟩
    · exact absurd q' q
    · exact absurd q q'
    · exact ⟨rfl, rfl⟩
  · exact absurd (w.symm.trans w') (by decide)
  · exact absurd w w'
  · exact absurd w w'
  · exact absurd (w.symm.trans w') (by decide)
  · obtain ⟨rfl, rfl⟩ : k = k' ∧ n = n' := by simpa using hn.symm.trans hn'
    rcases hh with ⟨q, rfl⟩ | ⟨q, rfl⟩ <;> rcases hh' with ⟨q', rfl⟩ | ⟨q', rfl⟩
    · exact ⟨rfl, rfl⟩
    · exact absurd q' q
    · exact absurd q q'
    · exact ⟨rfl, rfl⟩
  · exact absurd w v'
  · exact absurd w v'
  · exact absurd w' w
  · exact absurd w' v
  · exact ⟨rfl, rfl⟩
  · rw [hs] at hs'; cases hs'
  · exact absurd w' w
  · exact absurd w' v
  · rw [hs] at hs'; cases hs'
  · obtain rfl : S = S' := by rw [hs] at hs'; exact Option.some.inj hs'
    rcases hh with ⟨T, hb, rfl⟩ | ⟨ha, rfl⟩ <;> rcases hh' with ⟨T', hb', rfl⟩ | ⟨ha', rfl⟩
    · obtain ⟨rfl, rfl⟩ := balR_one hb hb'
      exact ⟨rfl, rfl⟩
    · exact (bal_ask hb ha').elim
    · exact (bal_ask hb' ha).elim
    · exact ⟨rfl, askR_one ha ha'⟩
theorem lineR_one {st s1 s2 : Option Sc} {s : List UInt8} {a a' : List UInt8} (h : LineR nw st s s1 a) (h' : LineR nw st s s2 a') : s1 = s2 ∧ a = a' := by
  rcases h with ⟨q, rfl, rfl⟩ | ⟨c, q, h⟩ <;> rcases h' with ⟨q', rfl, rfl⟩ | ⟨c', q', h'⟩
  · exact ⟨rfl, rfl⟩
  · rw [q] at q'; cases q'
  · rw [q] at q'; cases q'
  · rw [q] at q'
    injection q' with e
    subst e
    exact cmR_one h h'
/-- the same lines make the same answers -/
theorem linesR_one : ∀ {ss rs rs' : List (List UInt8)} {st s1 s2 : Option Sc}, LinesR nw st ss rs s1 → LinesR nw st ss rs' s2 → s1 = s2 ∧ rs = rs'
  | [], _, _, _, _, _, ⟨rfl, rfl⟩, ⟨rfl, rfl⟩ => ⟨rfl, rfl⟩
  | s :: ss, _, _, _, _, _, ⟨t, a, rs, h, rfl, hr⟩, ⟨t', a', rs', h', rfl, hr'⟩ => by
    obtain ⟨rfl, rfl⟩ := lineR_one h h'
    obtain ⟨rfl, rfl⟩ := linesR_one hr hr'
    exact ⟨rfl, rfl⟩
end
end Go.Proofs.YtfhmfjcpggddkaaGreatDoor
