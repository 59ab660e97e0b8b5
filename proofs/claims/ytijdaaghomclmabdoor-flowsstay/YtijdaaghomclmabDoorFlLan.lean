/- The landed flows keep their contracts. -/
import Derived.Test.YtijdaaghomclmabDoorFlL6
namespace Go.Proofs.YtijdaaghomclmabDoor
open Go.RowKit Go.Maps Go.ChangeMaps Go.Shelf

def RepF (t : Nat) (la : Int) (L : List Lh.Fl) (F : Nat → Prop) (p : Nat) (W : World) : Prop := ∃ mb, FR W p mb t la L ∧ F = FFt p mb
def flowsC : FlowsC where
  E := EF
  eLater := fun h hb => h.later hb
  eOf := EF.of
  Rep := RepF
  lt := by
    rintro t la L F p W ⟨mb, h, rfl⟩ b hb
    exact h.lt b hb
  stay := by
    rintro t la L F p W W' ⟨mb, h, rfl⟩ _ hs
    exact ⟨mb, h.stay hs, rfl⟩
  newG := fun t W h1 h2 => (newF_good t W h1 h2).mono fun e W' ⟨p, mb, he, hF, hp, hm, hb⟩ => ⟨p, FFt p mb, he, ⟨mb, hF, rfl⟩, fun b hb => by rcases hb with rfl | rfl; exact hp; exact hm, hb⟩
  newB := fun a x W he hx => newF_bad a x W he hx
  put := by
    rintro a t la L F p k s now W he ⟨mb, h, rfl⟩ hk h1 h2 _ hkk hs
    rcases tick_ex la now with hok | ⟨j, hf⟩
    · cases hn : Lh.isNm s with
      | true => exact (putF_ok a he h hk h2 k hkk s hs now hok hn).mono fun e W' ⟨q1, q2, q3⟩ => ⟨FFt p mb, fun b hb => Or.inl hb, q3, Or.inl ⟨hok, rfl, q1, mb, q2, rfl⟩⟩
      | false => exact (putF_name a he h k s hs now hok hn).mono fun e W' ⟨q1, q2⟩ => ⟨FFt p mb, fun b hb => Or.inl hb, Tur.of_below q2, Or.inr ⟨3, Or.inr ⟨hok, rfl, rfl⟩, q1, mb, h.later q2, rfl⟩⟩
    · exact (putF_bad a he h k s now j hf).mono fun e W' ⟨q1, q2⟩ => ⟨FFt p mb, fun b hb => Or.inl hb, Tur.of_below q2, Or.inr ⟨j, Or.inl hf, q1, mb, h.later q2, rfl⟩⟩
  get := by
    rintro a t la L F p k now W he ⟨mb, h, rfl⟩ _ _ hkk
    rcases tick_ex la now with hok | ⟨j, hf⟩
    · exact (getF_ok h k hkk now hok).mono fun e W' ⟨q1, q2, q3⟩ => ⟨FFt p mb, fun b hb => Or.inl hb, q2, Or.inl ⟨hok, ⟨mb, q1, rfl⟩, q3⟩⟩
    · exact (getF_bad a he h k now j hf).mono fun e W' ⟨q1, q2⟩ => ⟨FFt p mb, fun b hb => Or.inl hb, Tur.of_below q2, Or.inr ⟨j, hf, q1, mb, h.later q2, rfl⟩⟩
  expire := by
    rintro a t la L F p now W he ⟨mb, h, rfl⟩ hk _
    rcases tick_ex la now with hok | ⟨j, hf⟩
    · exact (expireF_ok h hk now hok).mono fun e W' ⟨q1, q2, q3⟩ => ⟨FFt p mb, fun b hb => Or.inl hb, q3, Or.inl ⟨hok, q1, mb, q2, rfl⟩⟩
    · exact (expireF_bad a he h now j hf).mono fun e W' ⟨q1, q2⟩ => ⟨FFt p mb, fun b hb => Or.inl hb, Tur.of_below q2, Or.inr ⟨j, hf, q1, mb, h.later q2, rfl⟩⟩
  drop := by
    rintro t la L F p s W ⟨mb, h, rfl⟩ hk _
    exact (dropF_any h hk s).mono fun e W' ⟨q1, q2, q3⟩ => ⟨FFt p mb, fun b hb => Or.inl hb, q3, q1, mb, q2, rfl⟩
  list := by
    rintro t la L F p W ⟨mb, h, rfl⟩ hk
    exact listF_flows h hk.rise (Nat.le_trans hk.len (by omega))
end Go.Proofs.YtijdaaghomclmabDoor
