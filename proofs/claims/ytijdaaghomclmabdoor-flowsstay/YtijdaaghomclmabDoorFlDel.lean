/- maps.DeleteFunc of a map of flows. -/
import Derived.Test.YtijdaaghomclmabDoorFlIt
import Derived.Maps.RangeWalk
import Derived.Laws.IdiomRangeMap
import Derived.Deep.LoopGhost
namespace Go.Proofs.YtijdaaghomclmabDoor
open Go.RowKit Go.Maps Go.ChangeMaps Go.Shelf

/-- those that stay, and those that are still to come -/
def stayF (L : List Lh.Fl) (pd : Lh.Fl → Bool) (left : Lit → Bool) : List Lh.Fl := L.filter fun x => left (keyF x.1) || !pd x
theorem stayF_start (L : List Lh.Fl) (pd : Lh.Fl → Bool) : stayF L pd (has (FD L)) = L := by
  unfold stayF
  rw [List.filter_eq_self]
  intro x hx
  rw [FD_has, decide_eq_true (Lh.fix_lt.2 ⟨x, hx, rfl⟩)]
  rfl
theorem stayF_end {L : List Lh.Fl} {pd : Lh.Fl → Bool} {left : Lit → Bool} (h : ∀ kl, left kl = false) : stayF L pd left = L.filter fun x => !pd x := by
  unfold stayF
  exact List.filter_congr fun x _ => by rw [h]; rfl
theorem stayF_no {L : List Lh.Fl} {pd : Lh.Fl → Bool} {left : Lit → Bool} (hp : L.Pairwise fun x y => x.1 < y.1) {x : Lh.Fl} (hx : x ∈ L) (hl : left (keyF x.1) = true) (hd : pd x = false) : stayF L pd (fun z => left z && !z.sameKey (keyF x.1)) = stayF L pd left := by
  unfold stayF
  refine List.filter_congr fun y hy => ?_
  simp only [same_keyF]
  by_cases e : y.1 = x.1
  · obtain rfl := rise_inj hp hy hx e
    simp [hl, hd]
  · simp [e]
theorem stayF_yes {L : List Lh.Fl} {pd : Lh.Fl → Bool} {left : Lit → Bool} (hp : L.Pairwise fun x y => x.1 < y.1) {x : Lh.Fl} (hx : x ∈ L) (hd : pd x = true) : stayF L pd (fun z => left z && !z.sameKey (keyF x.1)) = (stayF L pd left).filter fun y => !decide (y.1 = x.1) := by
  unfold stayF
  rw [List.filter_filter]
  refine List.filter_congr fun y hy => ?_
  simp only [same_keyF]
  by_cases e : y.1 = x.1
  · obtain rfl := rise_inj hp hy hx e
    simp [hd]
  · simp [e]
theorem key_of_lit {key : Value} {k : Nat} (h : keyOf Tryd.prog 32 key = some (keyF k)) : key = .int .u64 (k : Nat) := by
  obtain ⟨x, rfl, e, _⟩ := keyOf_int_inv Tryd.underlying32 h
  simp only [keyF, Lit.int.injEq, true_and] at e
  rw [← e]

set_option maxHeartbeats 4000000 in
set_option maxRecDepth 100000 in
theorem delFuncF (pd : Lh.Fl → Bool) (g : Nat) (cb : Array Value) (b nn : Nat) (L : List Lh.Fl) (hp : L.Pairwise fun x y => x.1 < y.1) (w : World)
    (eg : ∀ args w, (callFunc g args).run Tryd.prog w = .ok (.enter g args) w) (hown : w.ownsMap Tryd.prog 32 flElem b nn (FD L))
    (hdel : ∀ (W : World) (x : Lh.Fl), w.grownBy W (some b) → x ∈ L → Calls Tryd.prog g (#[.int .u64 (x.1 : Nat), valF x] ++ cb) W fun e w' => e = .returned (.bool (pd x)) ∧ W.grownBy w' none) :
    Calls Tryd.prog 122 #[.map (some b), .func (.func g) #[] cb] w fun e w' => e = .returned (.tuple #[]) ∧ w'.ownsMap Tryd.prog 32 flElem b nn (FD (L.filter fun x => !pd x)) ∧ w.grownBy w' (some b) := by
  have HD : Aside _ := hdel
  clear hdel
  go_enter Tryd.func122, Tryd.ntmps122
  go_wp2_with (first
    | (at_range; refine wpList_range_own _ rfl _ 139 rfl 32 88 u64Keyed Tryd.underlying139 flElem b nn _ rfl hown ?_; intro w0 hrg0 hg0 hs0)
    | go_in)
  go_frame
  go_loopw [8] (fun _ wr => ∃ (left : Lit → Bool) (cnt : Nat), wr.ranges Tryd.prog 32 flElem b w.heap.size nn (FD (stayF L pd left)) left cnt ∧ w.grownBy wr (some b))
    (fun _ wr => wr.rangeLeft b w.heap.size)
  case atStart => exact ⟨_, _, by rw [stayF_start]; exact hrg0, hg0.but _⟩
  case round =>
    obtain ⟨left, cnt, hrg, hgw⟩ := hrel
    go_wp2_with (first
      | (at_next; refine wpList_next_ranges _ rfl _ rfl 32 u64Keyed flElem id id (fun key _ _ => ⟨key, rfl⟩) (fun v _ _ => ⟨v, rfl⟩) b w.heap.size nn _ _ _ rfl hrg ?_ ?_)
      | go_in)
    · intro _ hl0
      go_wp2
      go_end0
      exact ⟨rfl, by rw [← stayF_end hl0]; exact hrg.owns, hgw⟩
    · intro key c kl yd yp w1 cnt1 hkey hlx hv hat hrg1 hlt hg1 hs1 hen
      obtain ⟨x, hx', rfl, rfl⟩ := FD_at_all hat
      obtain rfl : c = valF x := flElem_inv hv
      obtain rfl := key_of_lit hkey
      have hx : x ∈ L := (List.mem_filter.1 hx').1
      have hgw1 := hgw.andThen hg1 (fun j hj => by cases hj; exact Or.inl (Nat.le_refl _))
      have hga := World.grownBy_alloc w1 (.cells #[.int .u64 (x.1 : Nat), .string x.2.1, .int .i64 x.2.2] 88) none
      have hgw2 := hgw1.andThen hga (fun j hj => by cases hj)
      have hrg2 := hrg1.kept hga (by simp) (by simp)
      have hc := HD.out _ x hgw2 hx
      have hbl := hrg1.owns.lt
      have hrl := hrg1.lt
      clear hv hat hx' hs1
      unfold valF at hen hc
      cases hpd : pd x <;> rw [hpd] at hc
      · go_wp2_with fail
        refine hc.mono ?_
        rintro e w2 ⟨rfl, hg2⟩
        have hrg3 := hrg2.kept hg2 (by simp) (by simp)
        go_wp2
        go_roundw
        case rel => exact ⟨_, cnt1, by rw [stayF_no hp hx hlx hpd]; exact hrg3, hgw2.andThen hg2 (fun j hj => by cases hj)⟩
        case measure => rw [hrg3.left_eq, hrg.left_eq]; exact hlt
      · go_wp2_with fail
        refine hc.mono ?_
        rintro e w2 ⟨rfl, hg2⟩
        have hrg3 := hrg2.kept hg2 (by simp) (by simp)
        go_wp2_with (first
          | (at_delete; refine wpList_delete_ranges _ rfl _ _ 139 32 rfl 88 u64Keyed Tryd.underlying139 flElem b w.heap.size nn _ _ _ rfl hrg3 _ _ rfl hkey ?_; intro w3 cnt3 hrg4 hle hturn; go_frame)
          | go_in)
        rw [strike_twice, FD_del, ← stayF_yes hp hx hpd] at hrg4
        go_roundw
        case rel => exact ⟨_, cnt3, hrg4, (hgw2.andThen hg2 (fun j hj => by cases hj)).andThen hturn.grown (fun j hj => by cases hj; exact Or.inr rfl)⟩
        case measure => rw [hrg4.left_eq, hrg.left_eq]; omega
end Go.Proofs.YtijdaaghomclmabDoor
