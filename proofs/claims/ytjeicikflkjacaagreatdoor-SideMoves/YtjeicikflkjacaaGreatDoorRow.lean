/- The landed Row. -/
import Derived.Test.YtjeicikflkjacaaGreatDoorM4
namespace Go.Proofs.YtjeicikflkjacaaGreatDoor
open Go.RowKit
theorem fault_one {s:ByteArray}{c:Nat}{pl:Int}(h:IsFault [s] c pl):(Lh.isNm s=true∧c=0)∨(Lh.isNm s=false∧c≠0):=by
 rcases h with⟨h,_⟩|⟨_,i,hi,_,_,hc⟩|⟨_,h,hc,_⟩
 ·simp at h
 ·have:i=0:=by simp at hi;omega
  subst this
  rcases hc with⟨h1,h2⟩|⟨_,h2,_⟩
  ·exact Or.inr ⟨h1,by omega⟩
  ·simp[Lh.mem] at h2
 ·exact Or.inl ⟨(h 0 (by simp)).1,hc⟩
theorem size_one {s:ByteArray}(hs:s.size≤300):∀k (h:k < [s].length),([s][k]).size≤1000000:=fun k hk=>by
 have:k=0:=by simp at hk;omega
 subst this
 simp
 omega
theorem strs_one (w:World)(s:ByteArray)(t:TypeId):Strs (w.alloc (.cells #[.string s] t)) (.slice (some ⟨w.heap.size,0,none⟩) 1 1) [s] :=
 Or.inr ⟨w.heap.size,0,1,rfl,by simp,fun k hk=>by
  have:k=0:=by simp at hk;omega
  subst this
  simp⟩
end Go.Proofs.YtjeicikflkjacaaGreatDoor
