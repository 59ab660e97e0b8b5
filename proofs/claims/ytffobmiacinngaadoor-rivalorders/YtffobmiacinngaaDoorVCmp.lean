/- The function handed to slices.SortFunc: by score falling, then by name. -/
import Derived.Test.YtffobmiacinngaaDoorCmpF
import Derived.Test.YtffobmiacinngaaDoorVNum
import Derived.Deep.RegionHeld3
namespace Go.Proofs.YtffobmiacinngaaDoor
open Go.RowKit Go.Sort

def cfR (f : ByteArray → Nat) (x y : ByteArray) : Int := if cmpU (f y) (f x) = 0 then cmpS x y else cmpU (f y) (f x)
set_option maxRecDepth 100000 in
set_option maxHeartbeats 4000000 in
theorem closureR0 (fx fy kb k : Nat) (x y : ByteArray) (W : World) (hc0 : W.cell? ⟨kb, 0, none⟩ = some (.int .u64 (k : Nat)))
    (hx : ∀ W', Calls Tryd.prog 59 #[.string x, .int .u64 (k : Nat)] W' fun e w' => e = .returned (.int .u64 (fx : Nat)) ∧ Gr W' w')
    (hy : ∀ W', Calls Tryd.prog 59 #[.string y, .int .u64 (k : Nat)] W' fun e w' => e = .returned (.int .u64 (fy : Nat)) ∧ Gr W' w') :
    Calls Tryd.prog 100 #[.string x, .string y, .pointer (some ⟨kb, 0, none⟩)] W fun e w' => e = .returned (.int .i64 (if cmpU fy fx = 0 then cmpS x y else cmpU fy fx)) ∧ Gr W w' := by
  have hU := fun W' => compareU fy fx W'
  have hS := fun W' => compareS x y W'
  generalize cmpU fy fx = u at *
  generalize cmpS x y = v at *
  have hO := fun b W' c0 c1 => or_two b u v W' c0 c1
  generalize (if u = 0 then v else u) = r at hO ⊢
  have hx' : ∀ W', Gr W W' → Calls Tryd.prog 59 #[.string x, .int .u64 (k : Nat)] W' fun e w' => e = .returned (.int .u64 (fx : Nat)) ∧ Gr W w' := fun W' h => (hx W').mono fun _ _ ⟨h1, h2⟩ => ⟨h1, h.trans h2⟩
  have hy' : ∀ W', Gr W W' → Calls Tryd.prog 59 #[.string y, .int .u64 (k : Nat)] W' fun e w' => e = .returned (.int .u64 (fy : Nat)) ∧ Gr W w' := fun W' h => (hy W').mono fun _ _ ⟨h1, h2⟩ => ⟨h1, h.trans h2⟩
  have hcc : ∀ W', Gr W W' → W'.cell? ⟨kb, 0, none⟩ = some (.int .u64 (k : Nat)) := fun W' h => h.cell hc0
  have hg1 : Gr W W.drew := (Gr.refl W).drewN 1
  clear hx hy
  go_enter Tryd.func100, Tryd.ntmps100
  go_wp2_with fail
  go_region_held3 (fun w' => Gr W w' ∧ w'.cell? ⟨kb, 0, none⟩ = some (.int .u64 (k : Nat))) (first | exact ⟨by assumption, hcc _ (by assumption)⟩ | exact ⟨Gr.alloc (by assumption) _, hcc _ (Gr.alloc (by assumption) _)⟩)
   (first
    | (go_at_call 59; first | (refine (hx' _ (by assumption)).mono ?_; rintro e w' ⟨rfl, hgn⟩) | (refine (hy' _ (by assumption)).mono ?_; rintro e w' ⟨rfl, hgn⟩))
    | (go_at_call 76; refine (hU _).mono ?_; rintro e w' ⟨rfl, rfl⟩)
    | (go_at_call 77; refine (hS _).mono ?_; rintro e w' ⟨rfl, rfl⟩)
    | (go_at_call 75; refine (hO _ _ (by simp) (by simp)).mono ?_; rintro e w' ⟨rfl, rfl⟩))
  all_goals
    go_wp2
    go_ret
    exact ⟨rfl, by first | assumption | exact Gr.alloc (by assumption) _⟩
theorem closureR (kb k : Nat) (hk : k < 18446744073709551616) (x y : ByteArray) (hx : x.size ≤ 300) (hy : y.size ≤ 300) (W : World) (hc0 : W.cell? ⟨kb, 0, none⟩ = some (.int .u64 (k : Nat))) :
    Calls Tryd.prog 100 #[.string x, .string y, .pointer (some ⟨kb, 0, none⟩)] W fun e w' => e = .returned (.int .i64 (cfR (Lh.score k) x y)) ∧ Gr W w' :=
  closureR0 (Lh.score k x) (Lh.score k y) kb k x y W hc0 (fun W' => score_gr x k hk W' hx) (fun W' => score_gr y k hk W' hy)
end Go.Proofs.YtffobmiacinngaaDoor
