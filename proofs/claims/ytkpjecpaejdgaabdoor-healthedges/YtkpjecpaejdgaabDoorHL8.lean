/- The landed health: Remove. -/
import Derived.Test.YtkpjecpaejdgaabDoorHL3
import Derived.Test.YtkpjecpaejdgaabDoorHDel
import Derived.Lib.OwnBridge
namespace Go.Proofs.YtkpjecpaejdgaabDoor
open Go.RowKit Go.Shelf Go.Lib Go.Sort

/-- a pointer of the row, or none -/
abbrev Sb (bs : List Nat) := { x : Option Nat // ∀ b, x = some b → b ∈ bs }
instance (bs : List Nat) : Inhabited (Sb bs) := ⟨⟨none, fun _ h => by cases h⟩⟩
def encO (bs : List Nat) (x : Sb bs) : Value := .pointer (x.1.map fun b => ⟨b, 0, none⟩)
def subs (bs : List Nat) : List (Sb bs) := bs.attach.map fun b => ⟨some b.1, fun c e => by cases e; exact b.2⟩
theorem subs_enc (bs : List Nat) : (subs bs).map (encO bs) = bs.map ptrS := by
  unfold subs
  rw [List.map_map]
  have e : (encO bs ∘ fun b : { x // x ∈ bs } => (⟨some b.1, fun c e => by cases e; exact b.2⟩ : Sb bs)) = fun b => ptrS b.1 := rfl
  rw [e]
  show bs.attach.map (ptrS ∘ Subtype.val) = _
  rw [← List.map_map, List.attach_map_subtype_val]
theorem subs_filter (bs : List Nat) (gb : Nat) : ((subs bs).filter fun x => !decide (x.1 = some gb)).map (encO bs) = (bs.filter fun b => !decide (b = gb)).map ptrS := by
  unfold subs
  rw [List.filter_map, List.map_map]
  have e : (encO bs ∘ fun b : { x // x ∈ bs } => (⟨some b.1, fun c e => by cases e; exact b.2⟩ : Sb bs)) = fun b => ptrS b.1 := rfl
  have e2 : ((fun x : Sb bs => !decide (x.1 = some gb)) ∘ fun b : { x // x ∈ bs } => (⟨some b.1, fun c e => by cases e; exact b.2⟩ : Sb bs)) = (fun b => !decide (b = gb)) ∘ Subtype.val := by
    funext b
    simp
  rw [e, e2]
  have e3 : (bs.filter fun b => !decide (b = gb)) = ((bs.attach.map Subtype.val).filter fun b => !decide (b = gb)) := by rw [List.attach_map_subtype_val]
  rw [e3, List.filter_map, List.map_map]
  rfl
theorem sizeS : (Tryd.prog.info? 113).map (·.size) = some 3 := by kernel_rfl
theorem eqlP_same (a : Addr) (w : World) : (binOp .eql 111 (.pointer (some a)) (.pointer (some a))).run Tryd.prog w = .ok (.bool true) w := by
  obtain ⟨j, hj, _⟩ := Option.map_eq_some_iff.1 sizeS
  have h : ∀ d : Nat, (Op.equalIn (d + 1) 111 (.pointer (some a)) (.pointer (some a))).run Tryd.prog w = .ok true w := fun d => by
    simp [Op.equalIn, run_underlying Tryd.underlying111, typeInfo, sizeOf, hj, run_sameAddr_same]
  simp only [binOp]
  simp [Op.equal, Op.maxDepth, h 9999]
theorem eqlP_other {a b : Addr} (w : World) (hne : a ≠ b) (ha : ∃ cs t, w.heap[a.block]? = some (.cells cs t (0, 0))) (hb : ∃ cs t, w.heap[b.block]? = some (.cells cs t (0, 0))) : (binOp .eql 111 (.pointer (some a)) (.pointer (some b))).run Tryd.prog w = .ok (.bool false) w := by
  obtain ⟨j, hj, hjs⟩ := Option.map_eq_some_iff.1 sizeS
  obtain ⟨ca, ta, ha⟩ := ha
  obtain ⟨cb, tb, hb⟩ := hb
  have h : ∀ d : Nat, (Op.equalIn (d + 1) 111 (.pointer (some a)) (.pointer (some b))).run Tryd.prog w = .ok false w := fun d => by
    simp [Op.equalIn, run_underlying Tryd.underlying111, typeInfo, sizeOf, hj, hjs, run_sameAddr_other w hne ha hb]
  simp only [binOp]
  simp [Op.equal, Op.maxDepth, h 9999]
theorem eqlP_nil (b : Addr) (w : World) : (binOp .eql 111 (.pointer none) (.pointer (some b))).run Tryd.prog w = .ok (.bool false) w := by
  have h : ∀ d : Nat, (Op.equalIn (d + 1) 111 (.pointer none) (.pointer (some b))).run Tryd.prog w = .ok false w := fun d => by
    simp [Op.equalIn, run_underlying Tryd.underlying111]
  simp only [binOp]
  simp [Op.equal, Op.maxDepth, h 9999]
theorem filter_eraseIdx {bs : List Nat} (hn : bs.Nodup) {k b : Nat} (hb : bs[k]? = some b) : bs.filter (fun x => !decide (x = b)) = bs.eraseIdx k := by
  induction bs generalizing k with
  | nil => simp at hb
  | cons c cs ih =>
    rw [List.nodup_cons] at hn
    match k, hb with
    | 0, hb =>
      simp at hb
      subst hb
      rw [List.eraseIdx_zero, List.tail_cons, List.filter_cons_of_neg (by simp)]
      refine List.filter_eq_self.2 fun x hx => ?_
      have : x ≠ c := fun e => hn.1 (e ▸ hx)
      simpa using this
    | k + 1, hb =>
      have hb' : cs[k]? = some b := by simpa using hb
      have hc : c ≠ b := fun e => hn.1 (e ▸ List.mem_of_getElem? hb')
      rw [List.eraseIdx_cons_succ, List.filter_cons_of_pos (by simpa using hc), ih hn.2 hb']

set_option maxRecDepth 100000 in
set_option maxHeartbeats 2000000 in
/-- the function handed to slices.DeleteFunc -/
theorem removeC (bs : List Nat) (hb gb : Nat) (x : Sb bs) (W : World) (h1 : W.cell? ⟨hb, 0, none⟩ = some (.pointer (some ⟨gb, 0, none⟩))) (hgb : gb ∈ bs) (hbs : ∀ b ∈ bs, ∃ cs t, W.heap[b]? = some (.cells cs t (0, 0))) :
    FnGives Tryd.prog 76 #[.pointer (some ⟨hb, 0, none⟩)] #[encO bs x] (.bool (decide (x.1 = some gb))) W := by
  obtain ⟨x, hx⟩ := x
  match x, hx with
  | none, hx =>
    show Calls Tryd.prog 76 #[.pointer none, .pointer (some ⟨hb, 0, none⟩)] W fun e w' => e = .returned (.bool (decide (none = some gb))) ∧ ∃ q, w' = W.drewN q
    have he := eqlP_nil ⟨gb, 0, none⟩
    clear hbs hx hgb
    go_enter Tryd.func76, Tryd.ntmps76
    go_wp2
    go_ret
    exact ⟨by simp, 0, rfl⟩
  | some b, hx =>
    show Calls Tryd.prog 76 #[.pointer (some ⟨b, 0, none⟩), .pointer (some ⟨hb, 0, none⟩)] W fun e w' => e = .returned (.bool (decide (some b = some gb))) ∧ ∃ q, w' = W.drewN q
    have hm := hx b rfl
    by_cases e : b = gb
    · subst e
      have he := eqlP_same ⟨b, 0, none⟩
      clear hbs hx hgb hm
      go_enter Tryd.func76, Tryd.ntmps76
      go_wp2
      go_ret
      exact ⟨by simp, 0, rfl⟩
    · have he := eqlP_other (a := ⟨b, 0, none⟩) (b := ⟨gb, 0, none⟩) W (fun h => e (congrArg Addr.block h)) (hbs b hm) (hbs gb hgb)
      have HE : Hid (¬ b = gb) := e
      clear hbs hx hgb hm e
      go_enter Tryd.func76, Tryd.ntmps76
      go_wp2
      go_ret
      exact ⟨by simp [HE.out], 0, rfl⟩
theorem entersRm : ∀ args w, (callFunc 76 args).run Tryd.prog w = .ok (.enter 76 args) w := enters_of Tryd.func76 (by kernel_rfl) rfl
theorem sw_heap {α : Type} [Inhabited α] (enc : α → Value) (w : World) (g n : Nat) (dk : Array α) (os : Array Obj) {j : Nat} (hj : j < w.heap.size) (hne : j ≠ g) : (sortWorld enc w g 0 n dk os).heap[j]? = w.heap[j]? := by
  unfold sortWorld
  have hsz : (putRow enc (Sort.ahead w n) g 0 dk).heap.size = w.heap.size := by simp [putRow, mapBlock, Sort.ahead]
  rw [heap_grow_old _ _ (by rw [hsz]; exact hj)]
  have : g ≠ j := fun e => hne e.symm
  simp [putRow, mapBlock, Sort.ahead, Array.getElem?_modify, this]
theorem grownBy_put {α : Type} [Inhabited α] (enc : α → Value) {w : World} {g n : Nat} (d : Array α) : w.grownBy (putRow enc (Sort.ahead w n) g 0 d) (some g) := by
  refine ⟨rfl, rfl, rfl, by simp [putRow, mapBlock, Sort.ahead], fun k hk hne => ?_⟩
  have : g ≠ k := fun e => hne (by rw [e])
  simp [putRow, mapBlock, Sort.ahead, Array.getElem?_modify, this]

set_option maxHeartbeats 1000000 in
/-- slices.DeleteFunc, with it -/
theorem deleteS (base g cap hb gb : Nat) (bs : List Nat) (W : World) (hown : W.ownsRow base 111 1 (.slice (some ⟨g, 0, none⟩) bs.length cap) bs.length (bs.map ptrS)) (h1 : W.cell? ⟨hb, 0, none⟩ = some (.pointer (some ⟨gb, 0, none⟩))) (hbg : hb ≠ g) (hgb : gb ∈ bs) (hbs : ∀ b ∈ bs, b ≠ g ∧ ∃ cs t, W.heap[b]? = some (.cells cs t (0, 0))) :
    Calls Tryd.prog 75 #[.slice (some ⟨g, 0, none⟩) bs.length cap, .func (.func 76) #[] #[.pointer (some ⟨hb, 0, none⟩)]] W fun e w' =>
      e = .returned (.slice (some ⟨g, 0, none⟩) (bs.filter fun b => !decide (b = gb)).length cap) ∧ w'.ownsRow base 111 1 (.slice (some ⟨g, 0, none⟩) (bs.filter fun b => !decide (b = gb)).length cap) (bs.filter fun b => !decide (b = gb)).length ((bs.filter fun b => !decide (b = gb)).map ptrS) ∧ W.grownBy w' (some g) := by
  have hlt : ∀ b ∈ bs, b < W.heap.size := fun b hbm => by
    obtain ⟨_, cs, t, e⟩ := hbs b hbm
    exact (Array.getElem?_eq_some_iff.1 e).1
  have hhl : hb < W.heap.size := World.block_lt_of_cell? W ⟨hb, 0, none⟩ h1
  have hown2 := hown
  rw [← subs_enc bs] at hown2
  have hsl : (subs bs).length = bs.length := by simp [subs]
  obtain ⟨g', cap', e, _, hgl, hcap, hcm, _, hH⟩ := holds_of_ownsRow hown2 (fun e => by cases e)
  cases e
  have hp : PredAt Tryd.prog 76 #[.pointer (some ⟨hb, 0, none⟩)] (encO bs) (fun x => decide (x.1 = some gb)) W := fun W' x hB =>
    removeC bs hb gb x W' (below_cell hB h1) hgb fun b hbm => by
      obtain ⟨_, cs, t, e⟩ := hbs b hbm
      exact ⟨cs, t, (hB.block b (hlt b hbm)).trans e⟩
  have hpo : PredOver Tryd.prog 76 #[.pointer (some ⟨hb, 0, none⟩)] (encO bs) (fun x => decide (x.1 = some gb)) g 0 (subs bs).toArray.size W := fun n os dk x _ =>
    removeC bs hb gb x _ ((World.cell?_of_block (w := W) (a := ⟨hb, 0, none⟩) (sw_heap (encO bs) W g n dk os hhl hbg)).trans h1) hgb fun b hbm => by
      obtain ⟨hne, cs, t, e⟩ := hbs b hbm
      exact ⟨cs, t, (sw_heap (encO bs) W g n dk os (hlt b hbm) hne).trans e⟩
  have hcon := AnyE.slices_DeleteFunc delS (encO bs) (fun _ => rfl) (fun x => decide (x.1 = some gb)) 76 #[.pointer (some ⟨hb, 0, none⟩)] entersRm ⟨none, fun _ h => by cases h⟩ Tryd.zeroValue111 g 0 cap (subs bs).toArray W hp hpo hH (by simp [hsl]; unfold maxLen at hcm; omega) (by simpa [hsl] using hcap)
  change Calls Tryd.prog 75 _ _ _ at hcon
  have e1 : (subs bs).toArray.size = bs.length := by simp [hsl]
  rw [e1] at hcon
  refine hcon.mono ?_
  rintro e w' ⟨rfl, q, rfl⟩
  have hfl : ((subs bs).filter fun x => !decide (x.1 = some gb)).length = (bs.filter fun b => !decide (b = gb)).length := by
    have := congrArg List.length (subs_filter bs gb)
    simpa using this
  have hle : (bs.filter fun b => !decide (b = gb)).length ≤ bs.length := List.length_filter_le _ _
  refine ⟨by rw [← hfl], ?_, grownBy_put _ _⟩
  have h3 := ownsRow_putRow (q := q) (k := (bs.filter fun b => !decide (b = gb)).length) (ys := ((subs bs).filter fun x => !decide (x.1 = some gb)) ++ List.replicate (bs.length - ((subs bs).filter fun x => !decide (x.1 = some gb)).length) ⟨none, fun _ h => by cases h⟩) hown2 (by rw [List.length_append, List.length_replicate, hfl]; omega) hle
  rw [List.take_append_of_le_length (by rw [hfl]; exact Nat.le_refl _), List.take_of_length_le (by rw [hfl]; exact Nat.le_refl _), subs_filter] at h3
  exact h3
end Go.Proofs.YtkpjecpaejdgaabDoor
