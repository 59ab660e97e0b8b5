/- A row of flows in memory, and one that is put into it. -/
import Derived.Test.YtfhmfjcpggddkaaGreatDoorM5
namespace Go.Proofs.YtfhmfjcpggddkaaGreatDoor
open Go.RowKit
def RowAt (W:World)(g j:Nat)(x:Lh.Fl):Prop:=W.cell? ⟨g,j*3,none⟩=some (.int .u64 (x.1:Nat))∧W.cell? ⟨g,j*3+1,none⟩=some (.string x.2.1)∧W.cell? ⟨g,j*3+2,none⟩=some (.int .i64 x.2.2)
theorem row_cell {n k:Nat}(h:k<n*3):∃j,j<n∧(k=j*3∨k=j*3+1∨k=j*3+2):=⟨k / 3,by omega,by omega⟩
def put3 (W:World)(g k:Nat)(x:Lh.Fl):World:=((W.setCell ⟨g,k*3,none⟩ (.int .u64 (x.1:Nat))).setCell ⟨g,k*3+1,none⟩ (.string x.2.1)).setCell ⟨g,k*3+2,none⟩ (.int .i64 x.2.2)
theorem put3_other {W:World}{g k m:Nat}(x:Lh.Fl)(h0:m≠k*3)(h1:m≠k*3+1)(h2:m≠k*3+2):(put3 W g k x).cell? ⟨g,m,none⟩=W.cell? ⟨g,m,none⟩:=by
 unfold put3
 rw[World.cell?_setCell_other _ _ _ _ (by intro e;injection e with _ e;omega),World.cell?_setCell_other _ _ _ _ (by intro e;injection e with _ e;omega),World.cell?_setCell_other _ _ _ _ (by intro e;injection e with _ e;omega)]
theorem put3_row {W:World}{g k:Nat}(x:Lh.Fl)(h0:(W.cell? ⟨g,k*3,none⟩).isSome=true)(h1:(W.cell? ⟨g,k*3+1,none⟩).isSome=true)(h2:(W.cell? ⟨g,k*3+2,none⟩).isSome=true):RowAt (put3 W g k x) g k x:=by
 unfold put3
 refine⟨?_,?_,World.cell?_setCell_same' _ _ _ ?_⟩
 ·rw[World.cell?_setCell_other _ _ _ _ (by simp),World.cell?_setCell_other _ _ _ _ (by simp)]
  exact World.cell?_setCell_same' _ _ _ h0
 ·rw[World.cell?_setCell_other _ _ _ _ (by simp)]
  exact World.cell?_setCell_same' _ _ _ (by rw[World.cell?_setCell_other _ _ _ _ (by simp)];exact h1)
 ·rw[World.cell?_setCell_other _ _ _ _ (by simp),World.cell?_setCell_other _ _ _ _ (by simp)]
  exact h2
theorem RowAt.put {W:World}{g j k:Nat}{x y:Lh.Fl}(h:RowAt W g j y)(hj:j≠k):RowAt (put3 W g k x) g j y :=
 ⟨(put3_other x (by omega) (by omega) (by omega)).trans h.1,(put3_other x (by omega) (by omega) (by omega)).trans h.2.1,(put3_other x (by omega) (by omega) (by omega)).trans h.2.2⟩
theorem below_put3 {B g:Nat}{w W:World}(h:Below B w W)(hg:B≤g)(k:Nat)(x:Lh.Fl):Below B w (put3 W g k x):=by
 unfold put3
 exact ((h.setCell (p:=⟨g,_,none⟩) hg _).setCell (p:=⟨g,_,none⟩) hg _).setCell (p:=⟨g,_,none⟩) hg _
end Go.Proofs.YtfhmfjcpggddkaaGreatDoor
