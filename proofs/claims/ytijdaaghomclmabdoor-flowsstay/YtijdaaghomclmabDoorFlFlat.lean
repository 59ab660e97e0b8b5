/- Flows in a row of cells, three a flow. -/
import Derived.Test.YtijdaaghomclmabDoorFlMath
import Derived.Deep.AppendLies
namespace Go.Proofs.YtijdaaghomclmabDoor
open Go

def encF (x : Lh.Fl) : List Value := [.int .u64 (x.1 : Nat), .string x.2.1, .int .i64 x.2.2]
def flatF (L : List Lh.Fl) : List Value := L.flatMap encF
theorem flatF_append (L M : List Lh.Fl) : flatF (L ++ M) = flatF L ++ flatF M := by simp [flatF, List.flatMap_append]
theorem flatF_length (L : List Lh.Fl) : (flatF L).length = L.length * 3 := by
  induction L with
  | nil => rfl
  | cons p P ih =>
    have : flatF (p :: P) = encF p ++ flatF P := rfl
    rw [this, List.length_append, ih, List.length_cons]
    simp [encF]
    omega
theorem flatF_get (L : List Lh.Fl) : ∀ i (h : i < L.length), (flatF L)[i * 3]? = some (.int .u64 (L[i].1 : Nat)) ∧ (flatF L)[i * 3 + 1]? = some (.string L[i].2.1) ∧ (flatF L)[i * 3 + 2]? = some (.int .i64 L[i].2.2) := by
  induction L with
  | nil => intro i h; cases h
  | cons p P ih =>
    intro i h
    have e : flatF (p :: P) = .int .u64 (p.1 : Nat) :: .string p.2.1 :: .int .i64 p.2.2 :: flatF P := rfl
    rw [e]
    match i, h with
    | 0, _ => exact ⟨rfl, rfl, rfl⟩
    | i + 1, h =>
      have := ih i (by simpa using h)
      rw [show (i + 1) * 3 = i * 3 + 1 + 1 + 1 by omega]
      simpa using this
theorem flatF_take (L : List Lh.Fl) : ∀ k, flatF (L.take k) = (flatF L).take (k * 3) := by
  induction L with
  | nil => intro k; simp [flatF]
  | cons p P ih =>
    intro k
    match k with
    | 0 => rfl
    | k + 1 =>
      rw [List.take_succ_cons, show (k + 1) * 3 = k * 3 + 1 + 1 + 1 by omega]
      have e : ∀ M, flatF (p :: M) = .int .u64 (p.1 : Nat) :: .string p.2.1 :: .int .i64 p.2.2 :: flatF M := fun _ => rfl
      rw [e, e, ih k, List.take_succ_cons, List.take_succ_cons, List.take_succ_cons]
theorem flatF_drop (L : List Lh.Fl) : ∀ k, flatF (L.drop k) = (flatF L).drop (k * 3) := by
  induction L with
  | nil => intro k; simp [flatF]
  | cons p P ih =>
    intro k
    match k with
    | 0 => rfl
    | k + 1 =>
      rw [List.drop_succ_cons, show (k + 1) * 3 = k * 3 + 1 + 1 + 1 by omega]
      have e : ∀ M, flatF (p :: M) = .int .u64 (p.1 : Nat) :: .string p.2.1 :: .int .i64 p.2.2 :: flatF M := fun _ => rfl
      rw [e, ih k, List.drop_succ_cons, List.drop_succ_cons, List.drop_succ_cons]
theorem flatF_one (L : List Lh.Fl) : ∀ u ∈ flatF L, u.oneCell' = true := by
  intro u hu
  obtain ⟨x, hx, hu⟩ := List.mem_flatMap.1 hu
  simp [encF] at hu
  rcases hu with rfl | rfl | rfl <;> rfl
end Go.Proofs.YtijdaaghomclmabDoor
