/- The reference's HostsFault, and LongHosts. -/
import Derived.Test.YtfhmfjcpggddkaaGreatDoorM4
import Derived.Laws.AppendOwnNone
import Derived.Laws.CopyOwn
import Derived.Test.YtfhmfjcpggddkaaGreatDoorM3
import Derived.Below
import Derived.Test.YtfhmfjcpggddkaaGreatDoorM2
namespace Go.Proofs.YtfhmfjcpggddkaaGreatDoor
open Go.RowKit

set_option maxHeartbeats 1000000 in
theorem long_core (b o cap : Nat) (xs : List ByteArray) (w : World) (hx : ∀ k (h : k < xs.length), w.cell? ⟨b, o + k, none⟩ = some (.string xs[k])) (hs : ∀ k (h : k < xs.length), (xs[k]).size ≤ maxLen) (h30 : ¬ 30 < xs.length) :
    Calls Tryz.prog 11 #[.slice (some ⟨b, o, none⟩) xs.length cap] w fun e w' => (e = .returned (.int .i64 1) ∨ (e = .returned (.int .i64 0) ∧ ∀ k (h : k < xs.length), (xs[k]).size ≤ 60)) ∧ w' = w := by
  have HX : Hid _ := hx
  have HS : Hid _ := hs
  have e30 : decide (30 < (xs.length : Int)) = false := by simp; omega
  clear hx hs
  go_enter Tryz.func11, Tryz.ntmps11
  go_wp2
  go_loop [3] (fun t => ∃ k : Nat, k ≤ xs.length ∧ t = .int .i64 k ∧ ∀ j (h : j < xs.length), j < k → (xs[j]).size ≤ 60) (fun t => xs.length - (intOf t).toNat)
  case atStart => exact ⟨0, Nat.zero_le _, rfl, fun j _ h => absurd h (by omega)⟩
  case round =>
    obtain ⟨k, hk, rfl, hpre⟩ := hrel
    have HP : Hid _ := hpre
    clear hpre
    by_cases hlt : k < xs.length
    · have cx := HX.out k hlt
      have hsz := HS.out k hlt
      unfold maxLen at hsz
      by_cases h60 : 60 < (xs[k]).size
      · have e60 : decide (60 < ((xs[k]).size : Int)) = true := by simp; omega
        go_wp2
        go_ret
        exact ⟨Or.inl rfl, rfl⟩
      · have e60 : decide (60 < ((xs[k]).size : Int)) = false := by simp; omega
        go_wp2
        go_round
        case rel =>
          refine ⟨k + 1, by omega, by go_num, fun j h hj => ?_⟩
          by_cases e : j = k
          · subst e; omega
          · exact HP.out j h (by omega)
        case measure => simp [intOf]; omega
    · go_wp2
      go_ret
      exact ⟨Or.inr ⟨rfl, fun j h => HP.out j h (by omega)⟩, rfl⟩
set_option maxHeartbeats 1000000 in
theorem long_zero (p : Option Addr) (cap : Nat) (w : World) :
    Calls Tryz.prog 11 #[.slice p 0 cap] w fun e w' => e = .returned (.int .i64 0) ∧ w' = w := by
  go_enter Tryz.func11, Tryz.ntmps11
  go_wp2
  refine wp_loop_rounds 1 ?_
  rw [rounds_succ]
  go_wp2
  go_ret
  exact ⟨rfl, rfl⟩
set_option maxHeartbeats 1000000 in
theorem long_long (p : Option Addr) (n cap : Nat) (w : World) (h30 : 30 < n) (hm : n ≤ maxLen) :
    Calls Tryz.prog 11 #[.slice p n cap] w fun e w' => e = .returned (.int .i64 1) ∧ w' = w := by
  unfold maxLen at hm
  have e30 : decide (30 < (n : Int)) = true := by simp; omega
  go_enter Tryz.func11, Tryz.ntmps11
  go_wp2
  go_ret
  exact ⟨rfl, rfl⟩
/-- LongHosts: 1, or 0, and then the list is short. -/
theorem long_any (v : Value) (xs : List ByteArray) (w : World) (hv : Strs w v xs) (hs : ∀ k (h : k < xs.length), (xs[k]).size ≤ maxLen) (hm : xs.length ≤ maxLen) :
    Calls Tryz.prog 11 #[v] w fun e w' => (e = .returned (.int .i64 1) ∨ (e = .returned (.int .i64 0) ∧ xs.length ≤ 30 ∧ ∀ k (h : k < xs.length), (xs[k]).size ≤ 60)) ∧ w' = w := by
  by_cases h30 : 30 < xs.length
  · obtain ⟨p, cap, rfl⟩ := hv.slice
    exact (long_long p _ cap w h30 hm).mono fun e w' ⟨h1, h2⟩ => ⟨Or.inl h1, h2⟩
  · rcases hv with ⟨rfl, p, cap, rfl⟩ | ⟨b, o, cap, rfl, hcap, hx⟩
    · exact (long_zero p cap w).mono fun e w' ⟨h1, h2⟩ => ⟨Or.inr ⟨h1, by simp, fun k h => absurd h (by simp)⟩, h2⟩
    · refine (long_core b o cap xs w hx hs h30).mono fun e w' ⟨h1, h2⟩ => ⟨?_, h2⟩
      rcases h1 with h1 | ⟨h1, h3⟩
      · exact Or.inl h1
      · exact Or.inr ⟨h1, by omega, h3⟩
end Go.Proofs.YtfhmfjcpggddkaaGreatDoor

/- Own memory: OwnTexts. -/
namespace Go.Proofs.YtfhmfjcpggddkaaGreatDoor
open Go.RowKit

/-- As a caller hands it over. -/
def Strs1 (w : World) (v : Value) (xs : List ByteArray) : Prop :=
  (xs = [] ∧ (v = .slice none 0 0 ∨ ∃ a c, v = .slice (some a) 0 c)) ∨ ∃ b o c, v = .slice (some ⟨b, o, none⟩) xs.length c ∧ xs.length ≤ c ∧ ∀ k (h : k < xs.length), w.cell? ⟨b, o + k, none⟩ = some (.string xs[k])
theorem Strs1.strs {w : World} {v : Value} {xs : List ByteArray} (h : Strs1 w v xs) : Strs w v xs := by
  rcases h with ⟨rfl, rfl | ⟨a, c, rfl⟩⟩ | h
  · exact Or.inl ⟨rfl, _, _, rfl⟩
  · exact Or.inl ⟨rfl, _, _, rfl⟩
  · exact Or.inr h
theorem Strs1.later {w w' : World} {v : Value} {xs : List ByteArray} (h : Strs1 w v xs) (hb : Below w.heap.size w w') : Strs1 w' v xs := by
  rcases h with h | ⟨b, o, c, rfl, hcap, hc⟩
  · exact Or.inl h
  · exact Or.inr ⟨b, o, c, rfl, hcap, fun k hk => below_cell hb (hc k hk)⟩

theorem infoS : (Tryz.prog.info? 9).map (fun i => (i.zero, i.size, i.bytes)) = some (some (.string ByteArray.empty), 1, 16) := by kernel_rfl

theorem strs_of_owns {w : World} {base n : Nat} {v : Value} {e : TypeId} {xs : List ByteArray} (h : w.ownsRow base e 1 v n (xs.map Value.string)) : Strs1 w v xs := by
  obtain ⟨hl, ⟨rfl, rfl⟩ | ⟨g, cap, cur, rfl, hbase, hb, hn, hm, hsz, ht⟩⟩ := h
  · have : xs = [] := by simpa using hl
    exact Or.inl ⟨this, Or.inl rfl⟩
  · have hl' : xs.length = n := by simpa using hl
    refine Or.inr ⟨g, 0, cap, by rw [hl'], by omega, fun k hk => ?_⟩
    have hk' : (cur.toList.take (n * 1))[k]? = some (.string xs[k]) := by rw [ht]; simp [hk]
    rw [List.getElem?_take_of_lt (by omega)] at hk'
    simp only [World.cell?, hb, Nat.zero_add]
    simpa using hk'

theorem owns_nil (w : World) (base : Nat) (e : TypeId) : w.ownsRow base e 1 (.slice none 0 0) 0 (([] : List ByteArray).map Value.string) := ⟨rfl, Or.inl ⟨rfl, rfl⟩⟩
theorem strs_oneCell (xs : List ByteArray) : ∀ u ∈ xs.map Value.string, u.oneCell' = true := by
  intro u hu
  obtain ⟨_, _, rfl⟩ := List.mem_map.1 hu
  rfl
theorem cells_strs {w : World} {b o : Nat} {xs : List ByteArray} (hx : ∀ k (h : k < xs.length), w.cell? ⟨b, o + k, none⟩ = some (.string xs[k])) : ∀ j u, (xs.map Value.string)[j]? = some u → w.cell? ((⟨b, o, none⟩ : Addr).add j) = some u := by
  intro j u hu
  obtain ⟨hj, rfl⟩ := List.getElem?_eq_some_iff.1 hu
  rw [Addr.add_lit, hx j (by simpa using hj)]
  simp
end Go.Proofs.YtfhmfjcpggddkaaGreatDoor

/- The ring of points, pure: rotated it is sorted from a place on; different hosts in order; what goes, what comes. -/
namespace Go.Proofs.YtfhmfjcpggddkaaGreatDoor
namespace Lh
abbrev Pt := Nat × ByteArray
def bl (s : ByteArray) : List UInt8 := s.data.toList
theorem bl_inj {a b : ByteArray} (h : bl a = bl b) : a = b := ByteArray.ext (Array.toList_inj.1 h)
/-- a comes no later than b, from the place f on -/
def leF (f : Nat) (a b : Pt) : Prop := (a.1 < f → b.1 < f) ∧ ((b.1 < f → a.1 < f) → a.1 ≤ b.1 ∧ (a.1 = b.1 → bl a.2 ≤ bl b.2))
theorem leF_antisymm {f : Nat} {a b : Pt} (h : leF f a b) (k : leF f b a) : a = b := by
  obtain ⟨h1, h2⟩ := h
  obtain ⟨k1, k2⟩ := k
  obtain ⟨h3, h4⟩ := h2 k1
  obtain ⟨k3, k4⟩ := k2 h1
  have e : a.1 = b.1 := by omega
  exact Prod.ext e (bl_inj (List.le_antisymm (h4 e) (k4 e.symm)))
theorem leF_refl (f : Nat) (a : Pt) : leF f a a := ⟨id, fun _ => ⟨Nat.le_refl _, fun _ => List.le_refl _⟩⟩
theorem leF_trans {f : Nat} {a b c : Pt} (h : leF f a b) (k : leF f b c) : leF f a c := by
  obtain ⟨h1, h2⟩ := h
  obtain ⟨k1, k2⟩ := k
  refine ⟨fun x => k1 (h1 x), fun x => ?_⟩
  have hba : b.1 < f → a.1 < f := fun y => x (k1 y)
  have hcb : c.1 < f → b.1 < f := fun y => h1 (x y)
  obtain ⟨h3, h4⟩ := h2 hba
  obtain ⟨k3, k4⟩ := k2 hcb
  exact ⟨by omega, fun e => List.le_trans (h4 (by omega)) (k4 (by omega))⟩
/- the points of hosts -/
def pts1 (c : Nat) (s : ByteArray) : List Pt := (List.range c).map fun k => (num s (1000 + k), s)
def pts (c : Nat) (xs : List ByteArray) : List Pt := xs.flatMap (pts1 c)
theorem pts1_length (c : Nat) (s : ByteArray) : (pts1 c s).length = c := by simp [pts1]
theorem pts_length (c : Nat) (xs : List ByteArray) : (pts c xs).length = xs.length * c := by
  induction xs with
  | nil => simp [pts]
  | cons x xs ih => 
    have : pts c (x :: xs) = pts1 c x ++ pts c xs := rfl
    rw [this, List.length_append, pts1_length, ih, List.length_cons, Nat.add_mul, Nat.one_mul, Nat.add_comm]
/- rotated -/
def rot (f : Nat) (P : List Pt) : List Pt := (P.filter fun p => decide (f ≤ p.1)) ++ P.filter fun p => !decide (f ≤ p.1)
def cut (f : Nat) (P : List Pt) : Nat := P.countP fun p => !decide (f ≤ p.1)
theorem rot_perm (f : Nat) (P : List Pt) : (rot f P).Perm P := List.filter_append_perm _ _
theorem cut_le (f : Nat) (P : List Pt) : cut f P ≤ P.length := List.countP_le_length
theorem split_at {f : Nat} {P : List Pt} (h : P.Pairwise (leF 0)) : P = (P.filter fun p => !decide (f ≤ p.1)) ++ P.filter fun p => decide (f ≤ p.1) := by
  induction P with
  | nil => rfl
  | cons p P ih =>
    rw [List.pairwise_cons] at h
    by_cases hp : f ≤ p.1
    · have hall : ∀ q ∈ P, f ≤ q.1 := fun q hq => by
        have := ((h.1 q hq).2 (fun h => absurd h (by omega))).1
        omega
      have e1 : P.filter (fun p => !decide (f ≤ p.1)) = [] := by
        rw [List.filter_eq_nil_iff]
        intro q hq
        simpa using hall q hq
      have e2 : P.filter (fun p => decide (f ≤ p.1)) = P := by
        rw [List.filter_eq_self]
        intro q hq
        simpa using hall q hq
      simp [hp, e1, e2]
    · have hp' : p.1 < f := by omega
      have := ih h.2
      rw [List.filter_cons, List.filter_cons]
      simp only [hp, decide_false, Bool.not_false, if_true, Bool.false_eq_true, if_false, List.cons_append]
      rw [← this]
theorem rot_cut {f : Nat} {P : List Pt} (h : P.Pairwise (leF 0)) : rot f P = P.drop (cut f P) ++ P.take (cut f P) := by
  have hs := split_at (f := f) h
  have hc : cut f P = (P.filter fun p => !decide (f ≤ p.1)).length := List.countP_eq_length_filter
  have hd : P.drop (cut f P) = P.filter fun p => decide (f ≤ p.1) := by
    rw [hc]
    generalize (P.filter fun p => !decide (f ≤ p.1)) = A at *
    generalize (P.filter fun p => decide (f ≤ p.1)) = B at *
    rw [hs]
    exact List.drop_left
  have ht : P.take (cut f P) = P.filter fun p => !decide (f ≤ p.1) := by
    rw [hc]
    generalize (P.filter fun p => !decide (f ≤ p.1)) = A at *
    generalize (P.filter fun p => decide (f ≤ p.1)) = B at *
    rw [hs]
    exact List.take_left
  rw [hd, ht]
  rfl
/-- where a key's way begins -/
def start (f : Nat) (P : List Pt) : Nat := if cut f P = P.length then 0 else cut f P
theorem start_lt {f : Nat} {P : List Pt} (h : 0 < P.length) : start f P < P.length := by
  unfold start
  have := cut_le f P
  split <;> omega
theorem rot_length (f : Nat) (P : List Pt) : (rot f P).length = P.length := (rot_perm f P).length_eq
theorem rot_at {f : Nat} {P : List Pt} (h : P.Pairwise (leF 0)) {i : Nat} (hi : i < P.length) :
    (rot f P)[i]'(by rw [rot_length]; exact hi) = P[(start f P + i) % P.length]'(Nat.mod_lt _ (by omega)) := by
  have hle := cut_le f P
  have e : (rot f P)[i]'(by rw [rot_length]; exact hi) = (P.drop (cut f P) ++ P.take (cut f P))[i]'(by simp; omega) := by
    congr 1
    exact rot_cut h
  rw [e, List.getElem_append]
  unfold start
  by_cases hc : cut f P = P.length
  · simp only [hc, if_true, List.length_drop]
    have hm : (0 + i) % P.length = i := by rw [Nat.zero_add, Nat.mod_eq_of_lt hi]
    simp only [hm]
    rw [dif_neg (by omega)]
    simp
  · simp only [hc, if_false, List.length_drop]
    by_cases hlt : i < P.length - cut f P
    · rw [dif_pos hlt, List.getElem_drop]
      congr 1
      rw [Nat.mod_eq_of_lt (by omega)]
    · rw [dif_neg hlt, List.getElem_take]
      congr 1
      rw [Nat.mod_eq_sub_mod (by omega), Nat.mod_eq_of_lt (by omega)]
      omega
theorem sorted_unique {f : Nat} {A B : List Pt} (ha : A.Pairwise (leF f)) (hb : B.Pairwise (leF f)) (h : A.Perm B) : A = B :=
  List.Perm.eq_of_pairwise (le := leF f) (fun _ _ _ _ h k => leF_antisymm h k) ha hb h

/- different hosts in order -/
instance memD (s : ByteArray) (out : List ByteArray) : Decidable (s ∈ out) :=
  if h : mem s out = true then .isTrue (by
    unfold mem at h
    rw [List.any_eq_true] at h
    obtain ⟨x, hx, e⟩ := h
    have := of_decide_eq_true e
    exact this ▸ hx) else .isFalse (fun k => h (mem_true k))
def dd (out : List ByteArray) : List Pt → List ByteArray
  | [] => out
  | r :: R => if r.2 ∈ out then dd out R else dd (out ++ [r.2]) R
theorem dd_prefix (R : List Pt) : ∀ out, ∃ T, dd out R = out ++ T := by
  induction R with
  | nil => intro out; exact ⟨[], by simp [dd]⟩
  | cons r R ih =>
    intro out
    simp only [dd]
    split
    · exact ih _
    · obtain ⟨T, hT⟩ := ih (out ++ [r.2])
      exact ⟨[r.2] ++ T, by rw [hT, List.append_assoc]⟩
theorem dd_head {R : List Pt} (h : 0 < R.length) : (dd [] R)[0]? = some (R[0]).2 := by
  match R, h with
  | r :: R, _ =>
    obtain ⟨T, hT⟩ := dd_prefix R [r.2]
    simp [dd, hT]
/-- the hosts of a ring in order, from a place on: P is any sorted list of its points -/
def hostsF (f : Nat) (P : List Pt) : List ByteArray := dd [] (rot f P)
/-- P is a ring of these hosts -/
def IsRing (c : Nat) (xs : List ByteArray) (P : List Pt) : Prop := P.Perm (pts c xs) ∧ P.Pairwise (leF 0)
theorem ring_one {c : Nat} {xs : List ByteArray} {P Q : List Pt} (h : IsRing c xs P) (k : IsRing c xs Q) : P = Q := sorted_unique h.2 k.2 (h.1.trans k.1.symm)
theorem ring_len {c : Nat} {xs : List ByteArray} {P : List Pt} (h : IsRing c xs P) : P.length = xs.length * c := by rw [h.1.length_eq, pts_length]
theorem hosts_head {f : Nat} {P : List Pt} (h : P.Pairwise (leF 0)) (hp : 0 < P.length) : (hostsF f P)[0]? = some (P[start f P]'(start_lt hp)).2 := by
  unfold hostsF
  rw [dd_head (by rw [rot_length]; exact hp), rot_at h hp]
  congr 2
  simp only [Nat.add_zero, Nat.mod_eq_of_lt (start_lt hp)]
theorem filter_erase {xs : List ByteArray} (hn : xs.Nodup) {i : Nat} (hi : i < xs.length) : xs.take i ++ xs.drop (i + 1) = xs.filter fun s => decide (s ≠ xs[i]) := by
  have e : xs = xs.take i ++ xs[i] :: xs.drop (i + 1) := by rw [List.getElem_cons_drop, List.take_append_drop]
  have hn' := hn
  rw [e, List.nodup_append, List.nodup_cons] at hn'
  obtain ⟨_, ⟨h2, _⟩, h3⟩ := hn'
  generalize hw : xs[i] = w at *
  conv => rhs; rw [e]
  rw [List.filter_append, List.filter_cons]
  simp only [ne_eq, not_true_eq_false, decide_false, Bool.false_eq_true, if_false]
  congr 1
  · symm
    rw [List.filter_eq_self]
    intro a ha
    have := h3 a ha w List.mem_cons_self
    simpa using this
  · symm
    rw [List.filter_eq_self]
    intro a ha
    have : a ≠ w := fun e => h2 (e ▸ ha)
    simpa using this
end Lh
/- the order of the sort -/
def cfP (x y : Lh.Pt) : Int := if x.1 < y.1 then -1 else if y.1 < x.1 then 1 else if Lh.bl x.2 < Lh.bl y.2 then -1 else if Lh.bl y.2 < Lh.bl x.2 then 1 else 0
end Go.Proofs.YtfhmfjcpggddkaaGreatDoor

/- Small things that rings and rivals share: a list without a fault, errors, texts and keys in memory. -/
namespace Go.Proofs.YtfhmfjcpggddkaaGreatDoor
open Go.RowKit

theorem nodup_good {xs : List ByteArray} (h : ∀ j, ∀ hj : j < xs.length, Good xs j hj) : xs.Nodup := by
  refine List.pairwise_iff_getElem.2 fun i j hi hj hij e => ?_
  have h2 := (h j hj).2
  rw [Lh.mem_true] at h2
  · cases h2
  · rw [List.mem_take_iff_getElem]
    exact ⟨i, by omega, e⟩
theorem fault0 {xs : List ByteArray} {pl : Int} (h : IsFault xs 0 pl) : pl = -1 ∧ xs.length ≤ 12 ∧ xs.Nodup := by
  rcases h with ⟨_, h, _⟩ | ⟨_, i, _, _, _, ⟨_, h⟩ | ⟨_, _, h⟩⟩ | ⟨h, hg, _, h'⟩
  · cases h
  · cases h
  · cases h
  · exact ⟨h', by omega, nodup_good hg⟩
theorem err0 {a : Nat → Addr} {W : World} {pl : Int} {v : Value} (h : ErrIs a W 0 pl v) : v = .nilIface := by
  rcases h with ⟨_, _, h⟩ | ⟨i, _, h, _⟩
  · exact h
  · omega
theorem errPos {a : Nat → Addr} {W : World} {c : Nat} {pl : Int} {v : Value} (h : ErrIs a W c pl v) (hc : c ≠ 0) : ∃ t x, v = .iface t x := by
  rcases h with ⟨h, _⟩ | ⟨j, _, _, ⟨_, h⟩ | ⟨b, h, _⟩⟩
  · exact absurd h hc
  · exact ⟨_, _, h⟩
  · exact ⟨_, _, h⟩
theorem strsPos {w : World} {v : Value} {xs : List ByteArray} (h : Strs1 w v xs) (hp : 0 < xs.length) : ∃ b o c, v = .slice (some ⟨b, o, none⟩) xs.length c ∧ ∀ k (h : k < xs.length), w.cell? ⟨b, o + k, none⟩ = some (.string xs[k]) := by
  rcases h with ⟨rfl, _⟩ | ⟨b, o, c, rfl, _, hc⟩
  · cases hp
  · exact ⟨b, o, c, rfl, hc⟩

theorem owns_snoc {w : World} {base n : Nat} {v : Value} {e : TypeId} {out : List ByteArray} {s : ByteArray} (h : w.ownsRow base e 1 v n (out.map Value.string ++ [.string s])) : w.ownsRow base e 1 v n ((out ++ [s]).map Value.string) := by simpa using h
theorem cells_one {w : World} {t : TypeId} (s : ByteArray) : ∀ j u, [Value.string s][j]? = some u → (w.alloc (.cells #[.string s] t)).cell? ((⟨w.heap.size, 0, none⟩ : Addr).add j) = some u := by
  intro j u hu
  match j, hu with
  | 0, hu => simp at hu; subst hu; simp [Addr.add]
  | j + 1, hu => simp at hu
theorem fault_nm {xs : List ByteArray} {pl : Int} (h : IsFault xs 0 pl) : ∀ s ∈ xs, Lh.isNm s = true := by
  rcases h with ⟨_, h, _⟩ | ⟨_, i, _, _, _, ⟨_, h⟩ | ⟨_, _, h⟩⟩ | ⟨_, hg, _, _⟩
  · cases h
  · cases h
  · cases h
  · intro s hs
    obtain ⟨j, hj, rfl⟩ := List.getElem_of_mem hs
    exact (hg j hj).1
theorem fault_of {xs : List ByteArray} (h12 : xs.length ≤ 12) (hn : ∀ s ∈ xs, Lh.isNm s = true) (hd : xs.Nodup) : IsFault xs 0 (-1) := by
  refine Or.inr (Or.inr ⟨by omega, fun j hj => ⟨hn _ (List.getElem_mem hj), Lh.mem_false fun h => ?_⟩, rfl, rfl⟩)
  rw [List.mem_take_iff_getElem] at h
  obtain ⟨i, hi, e⟩ := h
  exact List.pairwise_iff_getElem.1 hd i j (by omega) hj (by omega) e
end Go.Proofs.YtfhmfjcpggddkaaGreatDoor

/- A frame: all blocks but some are as they were. -/
namespace Go.Proofs.YtfhmfjcpggddkaaGreatDoor
open Go.RowKit

/-- All blocks but those of F are as they were. -/
structure Tur (F : Nat → Prop) (w w' : World) : Prop where
  os : w'.os = w.os
  tape : w'.tape = w.tape
  output : w'.output = w.output
  size : w.heap.size ≤ w'.heap.size
  block : ∀ k, k < w.heap.size → ¬ F k → w'.heap[k]? = w.heap[k]?
theorem Tur.below {F : Nat → Prop} {B : Nat} {w W W' : World} (h : Tur F W W') (hF : ∀ k, F k → B ≤ k) (hb : Below B w W) (hB : B ≤ w.heap.size) : Below B w W' :=
  ⟨h.os.trans hb.os, h.tape.trans hb.tape, h.output.trans hb.output, Nat.le_trans hb.size h.size, fun k hk => (h.block k (by have := hb.size; omega) (fun hf => by have := hF k hf; omega)).trans (hb.block k hk)⟩
theorem Tur.of_below {F : Nat → Prop} {w w' : World} (h : Below w.heap.size w w') : Tur F w w' := ⟨h.os, h.tape, h.output, h.size, fun k hk _ => h.block k hk⟩
theorem Tur.trans {F G : Nat → Prop} {w w1 w2 : World} (h : Tur F w w1) (k : Tur G w1 w2) (hG : ∀ b, G b → F b ∨ w.heap.size ≤ b) : Tur F w w2 :=
  ⟨k.os.trans h.os, k.tape.trans h.tape, k.output.trans h.output, Nat.le_trans h.size k.size, fun b hb hf => (k.block b (Nat.lt_of_lt_of_le hb h.size) (fun hg => by rcases hG b hg with h1 | h1; exact hf h1; omega)).trans (h.block b hb hf)⟩
end Go.Proofs.YtfhmfjcpggddkaaGreatDoor

/- What the laws of flows ask of the landed package. -/
namespace Go.Proofs.YtfhmfjcpggddkaaGreatDoor
open Go.RowKit

/-- What is wrong with a tick: the error. -/
def TickF (last now : Int) (k : Nat) : Prop := ((now < 0 ∨ 1099511627776 < now) ∧ k = 1) ∨ (0 ≤ now ∧ now ≤ 1099511627776 ∧ now < last ∧ k = 7)
def TickOk (last now : Int) : Prop := 0 ≤ now ∧ now ≤ 1099511627776 ∧ last ≤ now
theorem tick_ex (last now : Int) : TickOk last now ∨ ∃ k, TickF last now k := by
  by_cases h : now < 0 ∨ 1099511627776 < now
  · exact Or.inr ⟨1, Or.inl ⟨h, rfl⟩⟩
  · by_cases h2 : now < last
    · exact Or.inr ⟨7, Or.inr ⟨by omega, by omega, h2, rfl⟩⟩
    · exact Or.inl ⟨by omega, by omega, by omega⟩
/-- A list of flows in memory. -/
def Flows1 (w : World) (v : Value) (L : List Lh.Fl) : Prop :=
  (L = [] ∧ (v = .slice none 0 0 ∨ ∃ ad c, v = .slice (some ad) 0 c)) ∨ ∃ b o c, v = .slice (some ⟨b, o, none⟩) L.length c ∧ L.length ≤ c ∧ ∀ i (h : i < L.length), w.cell? ⟨b, o + i * 3, none⟩ = some (.int .u64 (L[i].1 : Nat)) ∧ w.cell? ⟨b, o + i * 3 + 1, none⟩ = some (.string L[i].2.1) ∧ w.cell? ⟨b, o + i * 3 + 2, none⟩ = some (.int .i64 L[i].2.2)
theorem Flows1.later {w w' : World} {v : Value} {L : List Lh.Fl} (h : Flows1 w v L) (hb : Below w.heap.size w w') : Flows1 w' v L := by
  rcases h with h | ⟨b, o, c, e, hc, h⟩
  · exact Or.inl h
  · exact Or.inr ⟨b, o, c, e, hc, fun i hi => ⟨below_cell hb (h i hi).1, below_cell hb (h i hi).2.1, below_cell hb (h i hi).2.2⟩⟩
theorem Flows1.shape {w : World} {v : Value} {L : List Lh.Fl} (h : Flows1 w v L) : ∃ p c, v = .slice p L.length c := by
  rcases h with ⟨rfl, rfl | ⟨ad, c, rfl⟩⟩ | ⟨b, o, c, rfl, _⟩
  · exact ⟨_, _, rfl⟩
  · exact ⟨_, c, rfl⟩
  · exact ⟨_, _, rfl⟩
/-- a new list of flows, of the callee's own making -/
def FlowsNew (B : Nat) (w : World) (v : Value) (L : List Lh.Fl) : Prop := (L = [] ∧ (v = .slice none 0 0 ∨ ∃ ad c, v = .slice (some ad) 0 c)) ∨ ∃ g c, v = .slice (some ⟨g, 0, none⟩) L.length c ∧ L.length ≤ c ∧ B ≤ g ∧ (∀ i (h : i < L.length), w.cell? ⟨g, i * 3, none⟩ = some (.int .u64 (L[i].1 : Nat)) ∧ w.cell? ⟨g, i * 3 + 1, none⟩ = some (.string L[i].2.1) ∧ w.cell? ⟨g, i * 3 + 2, none⟩ = some (.int .i64 L[i].2.2)) ∧ ∀ k, k < L.length * 3 → w.frozen? ⟨g, k, none⟩ = false
theorem FlowsNew.flows {B : Nat} {W : World} {v : Value} {L : List Lh.Fl} (h : FlowsNew B W v L) : Flows1 W v L := by
  rcases h with h | ⟨g, c, h1, h2, _, h3, _⟩
  · exact Or.inl h
  · exact Or.inr ⟨g, 0, c, h1, h2, by simpa only [Nat.zero_add] using h3⟩
theorem FlowsNew.later {B : Nat} {W W' : World} {v : Value} {L : List Lh.Fl} (h : FlowsNew B W v L) (hb : Below W.heap.size W W') : FlowsNew B W' v L := by
  rcases h with h | ⟨g, c, h1, h2, hg, h3, h4⟩
  · exact Or.inl h
  · refine Or.inr ⟨g, c, h1, h2, hg, fun i hi => ⟨below_cell hb (h3 i hi).1, below_cell hb (h3 i hi).2.1, below_cell hb (h3 i hi).2.2⟩, fun k hk => ?_⟩
    have hlt : g < W.heap.size := World.block_lt_of_cell? W ⟨g, 0 * 3, none⟩ (h3 0 (by omega)).1
    exact (World.frozen?_of_block (w := W) (w' := W') (a := ⟨g, k, none⟩) (hb.block g hlt)).trans (h4 k hk)
theorem FlowsNew.base {B B' : Nat} {W : World} {v : Value} {L : List Lh.Fl} (h : FlowsNew B W v L) (hb : B' ≤ B) : FlowsNew B' W v L := by
  rcases h with h | ⟨g, c, h1, h2, hg, h3⟩
  · exact Or.inl h
  · exact Or.inr ⟨g, c, h1, h2, Nat.le_trans hb hg, h3⟩
/-- flows as they come: keys and ticks that a machine has, hosts not too long -/
def FlIn (l : List Lh.Fl) : Prop := ∀ x ∈ l, x.1 < 18446744073709551616 ∧ x.2.1.size ≤ 300 ∧ -9223372036854775808 ≤ x.2.2 ∧ x.2.2 ≤ 9223372036854775807
end Go.Proofs.YtfhmfjcpggddkaaGreatDoor
