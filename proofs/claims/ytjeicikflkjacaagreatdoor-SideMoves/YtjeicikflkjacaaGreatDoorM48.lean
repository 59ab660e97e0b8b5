/- Keys, faults and workers: small contracts for the laws of stage 12. -/
import Derived.Test.YtjeicikflkjacaaGreatDoorM45
import Derived.Test.YtjeicikflkjacaaGreatDoorSmF
import Derived.Test.YtjeicikflkjacaaGreatDoorM0
import Derived.Test.YtjeicikflkjacaaGreatDoorM1
import Derived.Test.YtjeicikflkjacaaGreatDoorM6
import Derived.Test.YtjeicikflkjacaaGreatDoorM3
import Derived.Maps.AppendAt
import Derived.Laws.AppendOwnNone
import Derived.Test.YtjeicikflkjacaaGreatDoorM4
namespace Go.Proofs.YtjeicikflkjacaaGreatDoor.Sh
open Go.RowKit
open Ms
set_option maxHeartbeats 1000000 in
theorem faulted3_is {a:Nat→Addr}{W:World}{c:Nat}{pl:Int}{v:Value}(he:Errs a W)(h:ErrIs a W c pl v) :
  Calls Tryz.prog 12 #[v,.agg #[.int .i64 c,.int .i64 pl]] W fun e w'=>e=.returned (.bool true)∧Below W.heap.size W w':=by
 have hba:Below W.heap.size W (W.alloc (.cells #[.int .i64 c,.int .i64 pl] 33)):=(Below.refl _ _).alloc (Nat.le_refl _) _
 have hc:=code_is (he.later hba) (h.later hba)
 go_enter Tryz.func12,Tryz.ntmps12
 go_wp2_with fail
 refine hc.mono ?_
 rintro e w1 ⟨rfl,hb1⟩
 have c0:w1.cell? ⟨W.heap.size,0,none⟩=some (.int .i64 c):=below_cell hb1 (by simp)
 have c1:w1.cell? ⟨W.heap.size,1,none⟩=some (.int .i64 pl):=below_cell hb1 (by simp)
 have hbz:Below W.heap.size W w1:=hba.trans (hb1.mono (by simp))
 clear hb1 hba hc
 cases hz:((c:Int)==0) with
 | true =>
  go_wp2
  go_ret
  exact⟨rfl,hbz⟩
 | false =>
  go_wp2
  go_ret
  exact⟨by simp,hbz⟩
theorem cells_both {W:World}{b:Nat}{x y x0 y0:Value}(c0:W.cell? ⟨b,0,none⟩=some x0)(c1:W.cell? ⟨b,1,none⟩=some y0):((W.setCell ⟨b,0,none⟩ x).setCell ⟨b,1,none⟩ y).cell? ⟨b,0,none⟩=some x∧((W.setCell ⟨b,0,none⟩ x).setCell ⟨b,1,none⟩ y).cell? ⟨b,1,none⟩=some y:=by
 exact⟨by simp[go_sem,c0],by simp[go_sem,c1]⟩
set_option maxHeartbeats 1000000 in
theorem workersFault_any (wk N most:Int)(w:World):Calls Tryz.prog 9 #[.int .i64 wk,.int .i64 N,.int .i64 most] w fun e w'=>e=.returned (.agg #[.int .i64 (chkN N most wk:Nat),.int .i64 (-1)])∧Below w.heap.size w w':=by
 have hba:Below w.heap.size w (w.alloc (.cells #[.int .i64 0,.int .i64 0] 33)):=(Below.refl _ _).alloc (Nat.le_refl _) _
 have B3:Hid (Calls Tryz.prog 21 #[.int .i64 3] (w.alloc (.cells #[.int .i64 0,.int .i64 0] 33)) fun e w'=>e=.returned (.agg #[.int .i64 3,.int .i64 (-1)])∧Below (w.alloc (.cells #[.int .i64 0,.int .i64 0] 33)).heap.size (w.alloc (.cells #[.int .i64 0,.int .i64 0] 33)) w'):=bare_any 3 _
 have B2:Hid (Calls Tryz.prog 21 #[.int .i64 2] (w.alloc (.cells #[.int .i64 0,.int .i64 0] 33)) fun e w'=>e=.returned (.agg #[.int .i64 2,.int .i64 (-1)])∧Below (w.alloc (.cells #[.int .i64 0,.int .i64 0] 33)).heap.size (w.alloc (.cells #[.int .i64 0,.int .i64 0] 33)) w'):=bare_any 2 _
 have B0:Hid (Calls Tryz.prog 22 #[] (w.alloc (.cells #[.int .i64 0,.int .i64 0] 33)) fun e w'=>e=.returned (.agg #[.int .i64 0,.int .i64 (-1)])∧Below (w.alloc (.cells #[.int .i64 0,.int .i64 0] 33)).heap.size (w.alloc (.cells #[.int .i64 0,.int .i64 0] 33)) w'):=fine_any _
 have fin:∀ {w1:World} {x y:Value},Below (w.alloc (.cells #[.int .i64 0,.int .i64 0] 33)).heap.size (w.alloc (.cells #[.int .i64 0,.int .i64 0] 33)) w1→w1.cell? ⟨w.heap.size,0,none⟩=some (.int .i64 0)∧w1.cell? ⟨w.heap.size,1,none⟩=some (.int .i64 0)∧w1.frozen? ⟨w.heap.size,0,none⟩=false∧w1.frozen? ⟨w.heap.size,1,none⟩=false∧Below w.heap.size w w1:=fun hb=>⟨below_cell hb (by simp),below_cell hb (by simp),by rw[hb.frozen (by simp)];simp,by rw[hb.frozen (by simp)];simp,hba.trans (hb.mono (by simp))⟩
 by_cases hw1:wk<1
 ·rw[show chkN N most wk=3 by simp[chkN,hw1]]
  go_enter Tryz.func9,Tryz.ntmps9
  go_wp2_with fail
  refine B3.out.mono ?_
  rintro e w1 ⟨rfl,hb1⟩
  obtain⟨c0,c1,f0,f1,hb⟩:=fin (x:=undef) (y:=undef) hb1
  clear hb1
  go_wp2
  have hh:=cells_both (x:=.int .i64 3) (y:=.int .i64 (-1)) c0 c1
  exact bodyPost_ret (v:=.agg #[.int .i64 3,.int .i64 (-1)]) (by simp[results,Tryz.results9,go_sem,hh.1,hh.2]) rfl ⟨rfl,(hb.setCell (Nat.le_refl _) _).setCell (Nat.le_refl _) _⟩
 ·by_cases hw2:16<wk
  ·rw[show chkN N most wk=3 by simp[chkN,hw2]]
   go_enter Tryz.func9,Tryz.ntmps9
   go_wp2_with fail
   refine B3.out.mono ?_
   rintro e w1 ⟨rfl,hb1⟩
   obtain⟨c0,c1,f0,f1,hb⟩:=fin (x:=undef) (y:=undef) hb1
   clear hb1
   go_wp2
   have hh:=cells_both (x:=.int .i64 3) (y:=.int .i64 (-1)) c0 c1
   exact bodyPost_ret (v:=.agg #[.int .i64 3,.int .i64 (-1)]) (by simp[results,Tryz.results9,go_sem,hh.1,hh.2]) rfl ⟨rfl,(hb.setCell (Nat.le_refl _) _).setCell (Nat.le_refl _) _⟩
  ·by_cases hm:most<N
   ·rw[show chkN N most wk=2 by simp[chkN,hw1,hw2,hm]]
    go_enter Tryz.func9,Tryz.ntmps9
    go_wp2_with fail
    refine B2.out.mono ?_
    rintro e w1 ⟨rfl,hb1⟩
    obtain⟨c0,c1,f0,f1,hb⟩:=fin (x:=undef) (y:=undef) hb1
    clear hb1
    go_wp2
    have hh:=cells_both (x:=.int .i64 2) (y:=.int .i64 (-1)) c0 c1
    exact bodyPost_ret (v:=.agg #[.int .i64 2,.int .i64 (-1)]) (by simp[results,Tryz.results9,go_sem,hh.1,hh.2]) rfl ⟨rfl,(hb.setCell (Nat.le_refl _) _).setCell (Nat.le_refl _) _⟩
   ·rw[show chkN N most wk=0 by unfold chkN;rw[if_neg (by omega),if_neg (by omega)]]
    go_enter Tryz.func9,Tryz.ntmps9
    go_wp2_with fail
    refine B0.out.mono ?_
    rintro e w1 ⟨rfl,hb1⟩
    obtain⟨c0,c1,f0,f1,hb⟩:=fin (x:=undef) (y:=undef) hb1
    clear hb1
    go_wp2
    have hh:=cells_both (x:=.int .i64 0) (y:=.int .i64 (-1)) c0 c1
    exact bodyPost_ret (v:=.agg #[.int .i64 0,.int .i64 (-1)]) (by simp[results,Tryz.results9,go_sem,hh.1,hh.2]) rfl ⟨rfl,(hb.setCell (Nat.le_refl _) _).setCell (Nat.le_refl _) _⟩
end Go.Proofs.YtjeicikflkjacaaGreatDoor.Sh

/- SideBuckets: behind side.Buckets' return. -/
set_option linter.unusedSimpArgs false
set_option linter.unusedVariables false
namespace Go.Proofs.YtjeicikflkjacaaGreatDoor.Sh
open Go Go.Conc Go.Conc.Lib Go.RowKit Go.ConcN
open Ms Po
open Par (Fm Gr on stopper LocIn)
def Says (w:World)(e:Ending)(w':World):Prop:=∃u,e=.returned u∧u=.bool true∧Below w.heap.size w w'
end Go.Proofs.YtjeicikflkjacaaGreatDoor.Sh

/- SideBuckets: the law says true, whatever the tape, and all that was there stands. -/
set_option linter.unusedSimpArgs false
set_option linter.unusedVariables false
namespace Go.Proofs.YtjeicikflkjacaaGreatDoor.Sh
open Go Go.Conc Go.Conc.Lib Go.RowKit Go.ConcN
open Ms Po
open Par (Fm Gr on stopper LocIn)
theorem Ends.rest0 {v:World}{R:Value→World→Prop}{f:FuncId}(hf:∃fn,PP.funcs[f]?=some fn)(hi:PP.inits.idxOf? f=none){t:Array Value}(ht:SlT lx f t){k:List Item}(hk:todoT lx PP f k)(hsz:∀u v',R u v'→v.heap.size≤v'.heap.size)
  (hC:∀τ d,∃fr v' u,fr.fn=f∧Steps PP (lone (Fm f t k .run) [stopper] (on v τ d)) (lone fr [stopper] v')∧fr.leaving PP v' (.returned u)∧R u v'):Ends (Gr (Fm f t k .run) []) v R:=by
 have:=Ends.rest (v:=v) (R:=R) hf hi ht hk (G:=[]) (K:=[]) .plain hsz (by rw[List.append_nil];exact hC)
 rw[List.append_nil] at this
 exact this
def Yea (v:World)(u:Value)(v':World):Prop:=u=.bool true∧Bel v.heap.size v v'
theorem Ends.mono {g:Goroutine}{v:World}{R R':Value→World→Prop}(h:Ends g v R)(k:∀u v',R u v'→R' u v'):Ends g v R':=fun Zg gs w sl t q τ d M h0 hv=>by
 obtain⟨N,last,o,w',t',e2,e3,e4,u,ho,⟨Z2,v2,τ2,d2,k2,hv2,hr⟩,rest⟩:=h Zg gs w sl t q τ d M h0 hv
 exact⟨N,last,o,w',t',e2,e3,e4,u,ho,⟨Z2,v2,τ2,d2,k2,hv2,k _ _ hr⟩,rest⟩
theorem Yea.from {v v6:World}(hb:Bel v.heap.size v v6){u:Value}{v':World}(h:Yea v6 u v'):Yea v u v':=⟨h.1,hb.trans h.2 hb.size⟩
end Go.Proofs.YtjeicikflkjacaaGreatDoor.Sh

/- LongHosts of a short list; of any list. -/
namespace Go.Proofs.YtjeicikflkjacaaGreatDoor
open Go.RowKit
def Short (xs:List ByteArray):Prop:=xs.length≤30∧∀k (h:k<xs.length),(xs[k]).size≤60
set_option maxHeartbeats 1000000 in
theorem long_short0 (b o cap:Nat)(xs:List ByteArray)(w:World)(hx:∀k (h:k<xs.length),w.cell? ⟨b,o+k,none⟩=some (.string xs[k]))(hs:Short xs) :
  Calls Tryz.prog 6 #[.slice (some ⟨b,o,none⟩) xs.length cap] w fun e w'=>e=.returned (.int .i64 0)∧w'=w:=by
 obtain⟨h30,hs⟩:=hs
 have HX:Hid (∀k (h:k<xs.length),w.cell? ⟨b,o+k,none⟩=some (.string xs[k])):=hx
 have HS:Hid (∀k (h:k<xs.length),(xs[k]).size≤60):=hs
 have e30:decide (30<(xs.length:Int))=false:=by simp;omega
 clear hx hs
 go_enter Tryz.func6,Tryz.ntmps6
 go_wp2
 go_loop [3] (fun t=>∃k:Nat,k≤xs.length∧t=.int .i64 k) (fun t=>xs.length - (intOf t).toNat)
 case atStart=>exact⟨0,Nat.zero_le _,rfl⟩
 case round =>
  obtain⟨k,hk,rfl⟩:=hrel
  by_cases hlt:k<xs.length
  ·have cx:=HX.out k hlt
   have hsz:=HS.out k hlt
   have e60:decide (60<((xs[k]).size:Int))=false:=by simp;omega
   go_wp2
   go_round
   case rel=>exact⟨k+1,by omega,by go_num⟩
   case measure=>simp[intOf];omega
  ·go_wp2
   go_ret
   exact⟨rfl,rfl⟩
theorem long_short (v:Value)(xs:List ByteArray)(w:World)(hv:Strs w v xs)(hs:Short xs) :
  Calls Tryz.prog 6 #[v] w fun e w'=>e=.returned (.int .i64 0)∧w'=w:=by
 rcases hv with⟨rfl,p,cap,rfl⟩|⟨b,o,cap,rfl,hcap,hx⟩
 ·exact long_zero p cap w
 ·exact long_short0 b o cap xs w hx hs
theorem long_not (v:Value)(xs:List ByteArray)(w:World)(hv:Strs w v xs)(hsz:∀k (h:k<xs.length),(xs[k]).size≤maxLen)(hm:xs.length≤maxLen)(hs:¬Short xs) :
  Calls Tryz.prog 6 #[v] w fun e w'=>e=.returned (.int .i64 1)∧w'=w :=
 (long_any v xs w hv hsz hm).mono fun _ _ ⟨h1,h2⟩=>⟨by
  rcases h1 with h1|⟨_,h3,h4⟩
  ·exact h1
  ·exact absurd ⟨h3,h4⟩ hs,h2⟩
end Go.Proofs.YtjeicikflkjacaaGreatDoor

/- The ring of points, pure: rotated it is sorted from a place on; different hosts in order; what goes, what comes. -/
namespace Go.Proofs.YtjeicikflkjacaaGreatDoor
namespace Lh
abbrev Pt:=Nat × ByteArray
def bl (s:ByteArray):List UInt8:=s.data.toList
/- the points of hosts -/
/- rotated -/
def cut (f:Nat)(P:List Pt):Nat:=P.countP fun p=>!decide (f≤p.1)
def start (f:Nat)(P:List Pt):Nat:=if cut f P=P.length then 0 else cut f P
/- different hosts in order -/
instance memD (s:ByteArray) (out:List ByteArray):Decidable (s∈out) :=
 if h:mem s out=true then .isTrue (by
  unfold mem at h
  rw[List.any_eq_true] at h
  obtain⟨x,hx,e⟩:=h
  have:=of_decide_eq_true e
  exact this ▸ hx) else .isFalse (fun k=>h (mem_true k))
def dd (out:List ByteArray):List Pt→List ByteArray
 | []=>out
 | r :: R=>if r.2∈out then dd out R else dd (out++[r.2]) R
end Lh
/- the order of the sort -/
end Go.Proofs.YtjeicikflkjacaaGreatDoor

/- Small things that rings and rivals share: a list without a fault, errors, texts and keys in memory. -/
namespace Go.Proofs.YtjeicikflkjacaaGreatDoor
open Go.RowKit
set_option maxHeartbeats 1000000 in
theorem ownTexts_own (v:Value)(xs:List ByteArray)(w:World)(hv:Strs1 w v xs)(hm:xs.length<1000000) :
  Calls Tryz.prog 7 #[v] w fun e w'=>∃v',e=.returned v'∧w'.ownsRow w.heap.size 9 1 v' xs.length (xs.map Value.string)∧Below w.heap.size w w':=by
 obtain⟨i,hi,hz0,hz1,hz2⟩:=info_parts infoS
 have hmax:0+xs.length≤maxLen:=by unfold maxLen;omega
 rcases hv with⟨rfl,rfl|⟨ad,c,rfl⟩⟩|⟨b,o,c,rfl,hcap,hx⟩
 ·go_enter Tryz.func7,Tryz.ntmps7
  go_wp2_with (at_builtin;refine wpList_append_own_none rfl _ _ 22 rfl w.heap.size 9 i 1 Tryz.underlying22 hi (.slice none 0 0) 0 _ rfl (owns_nil w _ _) rfl ?_)
  go_ret
  exact⟨_,rfl,owns_nil w _ _,Below.refl _ _⟩
 ·have hn:([]:List ByteArray).map Value.string=[]:=rfl
  have hnews:∀j u,(([]:List ByteArray).map Value.string)[j]?=some u→w.cell? (ad.add j)=some u:=fun j u h=>by simp at h
  go_enter Tryz.func7,Tryz.ntmps7
  go_wp2_with fail
  go_ret
  exact⟨_,rfl,owns_nil w _ _,Below.refl _ _⟩
 ·have hnews:=cells_strs hx
  go_enter Tryz.func7,Tryz.ntmps7
  go_wp2_with (at_builtin;refine wpList_append_own w rfl _ _ 22 rfl w.heap.size 9 i _ 1 16 Tryz.underlying22 hi hz0 hz1 hz2 rfl (by decide) (.slice none 0 0) 0 _ rfl (owns_nil w _ _) ⟨b,o,none⟩ xs.length c (xs.map Value.string) rfl (by simp) hnews (strs_oneCell xs) hmax (by omega) (Nat.le_refl _) ?_)
  intro v' w' hown hg _
  go_wp2
  go_ret
  refine⟨_,rfl,by simpa using hown,below_grown hg (fun k h=>by cases h)⟩
end Go.Proofs.YtjeicikflkjacaaGreatDoor

/- SideMoves: its frames, up to the call of side.Moves. -/
set_option linter.unusedSimpArgs false
set_option linter.unusedVariables false
namespace Go.Proofs.YtjeicikflkjacaaGreatDoor.Sh
open Go Go.Conc Go.Conc.Lib Go.RowKit Go.ConcN
open Ms Po
open Par (Fm Gr on stopper LocIn)
noncomputable def opsA3:Array Oper:=match Tryz.f3.body.getD .skip with|.seq _ (.seq (.region _ o _) _)=>o|_=>#[]
noncomputable def restA3:Code:=match Tryz.f3.body.getD .skip with|.seq _ (.seq _ c)=>c|_=>.skip
noncomputable def cutA3 (e:Code):Code:=match restA3 with|.seq a (.seq b (.seq d _))=>.seq a (.seq b (.seq d e))|_=>.skip
noncomputable def restD3:Code:=match restA3 with|.seq _ (.seq _ (.seq _ c))=>c|_=>.skip
noncomputable def opsD3:Array Oper:=match restD3 with|.seq (.region _ o _) _=>o|_=>#[]
noncomputable def restE3:Code:=match restD3 with|.seq _ c=>c|_=>.skip
noncomputable abbrev S3 (cs:List Frame) (t:Array Value) (k:List Item):Goroutine:=G ((base 3).at ⟨t,[]⟩ k) cs
noncomputable def tB0 (pa p:Option Addr)(la ca N c:Nat)(n wk:Int):Array Value:=#[.slice pa la ca,.slice p N c,.int .i64 n,.int .i64 wk,undef,undef,undef,undef,undef,undef,undef,undef,undef,undef,undef,undef,undef,undef,undef,undef,undef,undef,undef,undef,undef,undef,undef,undef,undef,undef,undef,undef,undef,undef,undef,undef,undef,undef,undef,undef,undef,undef,undef,undef,undef,undef,undef,undef,undef,undef,undef,undef,undef,undef,undef,undef,undef,undef,undef,undef,undef,undef,undef,undef,undef,undef,undef,undef,undef,undef,undef,undef,undef,undef,undef,undef,undef,undef,undef,undef,undef,undef,undef,undef,undef,undef,undef,undef,undef,undef,undef,undef,undef,undef,undef,undef,undef,undef,undef,undef,undef,undef,undef,undef,undef,undef,undef,undef,undef,undef,undef,undef,undef,undef,undef,undef,undef,undef,undef,undef,undef,undef,undef,undef,undef,undef,undef,undef,undef,undef,undef,undef,undef,undef,undef,undef,undef,undef,undef,undef,undef,undef,undef,undef,undef]
noncomputable def tB1 (pa p:Option Addr)(la ca N c:Nat)(n wk:Int):Array Value:=#[.slice pa la ca,.slice p N c,.int .i64 n,.int .i64 wk,undef,undef,undef,undef,.bool false,undef,undef,undef,undef,undef,undef,undef,undef,undef,undef,undef,undef,undef,undef,undef,undef,undef,undef,undef,undef,undef,undef,undef,undef,undef,undef,undef,undef,undef,undef,undef,undef,undef,undef,undef,undef,undef,undef,undef,undef,undef,undef,undef,undef,undef,undef,undef,undef,undef,undef,undef,undef,undef,undef,undef,undef,undef,undef,undef,undef,undef,undef,undef,undef,undef,undef,undef,undef,undef,undef,undef,undef,undef,undef,undef,undef,undef,undef,undef,undef,undef,undef,undef,undef,undef,undef,undef,undef,undef,undef,undef,undef,undef,undef,undef,undef,undef,undef,undef,undef,undef,undef,undef,undef,undef,undef,undef,undef,undef,undef,undef,undef,undef,undef,undef,undef,undef,undef,undef,undef,undef,undef,undef,undef,undef,undef,undef,undef,undef,undef,undef,undef,undef,undef,undef,undef]
noncomputable def tB2 (pa p:Option Addr)(la ca N c:Nat)(n wk:Int):Array Value:=#[.slice pa la ca,.slice p N c,.int .i64 n,.int .i64 wk,undef,undef,undef,undef,.bool false,undef,undef,undef,undef,undef,undef,undef,undef,undef,undef,undef,undef,.bool true,undef,undef,undef,undef,undef,undef,undef,undef,undef,undef,undef,undef,undef,undef,undef,undef,undef,undef,undef,undef,undef,undef,undef,undef,undef,undef,undef,undef,undef,undef,undef,undef,undef,undef,undef,undef,undef,undef,undef,undef,undef,undef,undef,undef,undef,undef,undef,undef,undef,undef,undef,undef,undef,undef,undef,undef,undef,undef,undef,undef,undef,undef,undef,undef,undef,undef,undef,undef,undef,undef,undef,undef,undef,undef,undef,undef,undef,undef,undef,undef,undef,undef,undef,undef,undef,undef,undef,undef,undef,undef,undef,undef,undef,undef,undef,undef,undef,undef,undef,undef,undef,undef,undef,undef,undef,undef,undef,undef,undef,undef,undef,undef,undef,undef,undef,undef,undef,undef,undef,undef,undef,undef,undef]
noncomputable def tB3 (pa p:Option Addr)(la ca N c:Nat)(n wk:Int):Array Value:=#[.slice pa la ca,.slice p N c,.int .i64 n,.int .i64 wk,undef,undef,undef,undef,.bool false,.bool true,undef,undef,undef,undef,undef,undef,undef,undef,undef,undef,undef,.bool true,undef,undef,undef,undef,undef,undef,undef,undef,undef,undef,undef,undef,undef,undef,undef,undef,undef,undef,undef,undef,undef,undef,undef,undef,undef,undef,undef,undef,undef,undef,undef,undef,undef,undef,undef,undef,undef,undef,undef,undef,undef,undef,undef,undef,undef,undef,undef,undef,undef,undef,undef,undef,undef,undef,undef,undef,undef,undef,undef,undef,undef,undef,undef,undef,undef,undef,undef,undef,undef,undef,undef,undef,undef,undef,undef,undef,undef,undef,undef,undef,undef,undef,undef,undef,undef,undef,undef,undef,undef,undef,undef,undef,undef,undef,undef,undef,undef,undef,undef,undef,undef,undef,undef,undef,undef,undef,undef,undef,undef,undef,undef,undef,undef,undef,undef,undef,undef,undef,undef,undef,undef,undef,undef]
noncomputable def tM (pa p:Option Addr)(la ca N c:Nat)(n wk:Int)(own:Value)(g:Nat→Value):Array Value:=#[.slice pa la ca,.slice p N c,.int .i64 n,.int .i64 wk,g 4,g 5,g 6,g 7,g 8,g 9,own,g 11,g 12,g 13,g 14,g 15,g 16,g 17,g 18,g 19,g 20,g 21,g 22,g 23,g 24,g 25,g 26,g 27,g 28,g 29,g 30,g 31,g 32,g 33,g 34,g 35,g 36,g 37,g 38,g 39,g 40,g 41,g 42,g 43,g 44,g 45,g 46,g 47,g 48,g 49,g 50,g 51,g 52,g 53,g 54,g 55,g 56,g 57,g 58,g 59,g 60,g 61,g 62,g 63,g 64,g 65,g 66,g 67,g 68,g 69,g 70,g 71,g 72,g 73,g 74,g 75,g 76,g 77,g 78,g 79,g 80,g 81,g 82,g 83,g 84,g 85,g 86,g 87,g 88,g 89,g 90,g 91,g 92,g 93,g 94,g 95,g 96,g 97,g 98,g 99,g 100,g 101,g 102,g 103,g 104,g 105,g 106,g 107,g 108,g 109,g 110,g 111,g 112,g 113,g 114,g 115,g 116,g 117,g 118,g 119,g 120,g 121,g 122,g 123,g 124,g 125,g 126,g 127,g 128,g 129,g 130,g 131,g 132,g 133,g 134,g 135,g 136,g 137,g 138,g 139,g 140,g 141,g 142,g 143,g 144]
noncomputable def tM1 (pa p:Option Addr)(la ca N c:Nat)(n wk:Int)(own:Value)(g:Nat→Value):Array Value:=#[.slice pa la ca,.slice p N c,.int .i64 n,.int .i64 wk,g 4,g 5,g 6,g 7,g 8,g 9,own,g 11,g 12,g 13,g 14,g 15,g 16,g 17,g 18,g 19,g 20,g 21,g 22,g 23,g 24,g 25,g 26,g 27,g 28,g 29,g 30,g 31,g 32,g 33,g 34,g 35,g 36,g 37,g 38,g 39,g 40,g 41,g 42,g 43,g 44,g 45,g 46,g 47,g 48,g 49,g 50,g 51,g 52,g 53,g 54,g 55,g 56,g 57,g 58,g 59,g 60,g 61,g 62,g 63,g 64,g 65,g 66,.slice pa la ca,g 68,g 69,g 70,g 71,g 72,g 73,g 74,g 75,g 76,g 77,g 78,g 79,g 80,g 81,g 82,g 83,g 84,g 85,g 86,g 87,g 88,g 89,g 90,g 91,g 92,g 93,g 94,g 95,g 96,g 97,g 98,g 99,g 100,g 101,g 102,g 103,g 104,g 105,g 106,g 107,g 108,g 109,g 110,g 111,g 112,g 113,g 114,g 115,g 116,g 117,g 118,g 119,g 120,g 121,g 122,g 123,g 124,g 125,g 126,g 127,g 128,g 129,g 130,g 131,g 132,g 133,g 134,g 135,g 136,g 137,g 138,g 139,g 140,g 141,g 142,g 143,g 144]
noncomputable def tM2 (pa p:Option Addr)(la ca N c:Nat)(n wk:Int)(own:Value)(g:Nat→Value)(xa:Value):Array Value:=#[.slice pa la ca,.slice p N c,.int .i64 n,.int .i64 wk,g 4,g 5,g 6,g 7,g 8,g 9,own,g 11,g 12,g 13,g 14,g 15,g 16,g 17,g 18,g 19,g 20,g 21,g 22,g 23,g 24,g 25,g 26,g 27,g 28,g 29,g 30,g 31,g 32,g 33,g 34,g 35,g 36,g 37,g 38,g 39,g 40,g 41,g 42,g 43,g 44,g 45,g 46,g 47,g 48,g 49,g 50,g 51,g 52,g 53,g 54,g 55,g 56,g 57,g 58,g 59,g 60,g 61,g 62,g 63,g 64,g 65,g 66,.slice pa la ca,xa,g 69,g 70,g 71,g 72,g 73,g 74,g 75,g 76,g 77,g 78,g 79,g 80,g 81,g 82,g 83,g 84,g 85,g 86,g 87,g 88,g 89,g 90,g 91,g 92,g 93,g 94,g 95,g 96,g 97,g 98,g 99,g 100,g 101,g 102,g 103,g 104,g 105,g 106,g 107,g 108,g 109,g 110,g 111,g 112,g 113,g 114,g 115,g 116,g 117,g 118,g 119,g 120,g 121,g 122,g 123,g 124,g 125,g 126,g 127,g 128,g 129,g 130,g 131,g 132,g 133,g 134,g 135,g 136,g 137,g 138,g 139,g 140,g 141,g 142,g 143,g 144]
noncomputable def tM3 (pa p:Option Addr)(la ca N c:Nat)(n wk:Int)(own:Value)(g:Nat→Value)(xa:Value):Array Value:=#[.slice pa la ca,.slice p N c,.int .i64 n,.int .i64 wk,g 4,g 5,g 6,g 7,g 8,g 9,own,g 11,g 12,g 13,g 14,g 15,g 16,g 17,g 18,g 19,g 20,g 21,g 22,g 23,g 24,g 25,g 26,g 27,g 28,g 29,g 30,g 31,g 32,g 33,g 34,g 35,g 36,g 37,g 38,g 39,g 40,g 41,g 42,g 43,g 44,g 45,g 46,g 47,g 48,g 49,g 50,g 51,g 52,g 53,g 54,g 55,g 56,g 57,g 58,g 59,g 60,g 61,g 62,g 63,g 64,g 65,g 66,.slice pa la ca,xa,own,.int .i64 n,.int .i64 wk,g 72,g 73,g 74,g 75,g 76,g 77,g 78,g 79,g 80,g 81,g 82,g 83,g 84,g 85,g 86,g 87,g 88,g 89,g 90,g 91,g 92,g 93,g 94,g 95,g 96,g 97,g 98,g 99,g 100,g 101,g 102,g 103,g 104,g 105,g 106,g 107,g 108,g 109,g 110,g 111,g 112,g 113,g 114,g 115,g 116,g 117,g 118,g 119,g 120,g 121,g 122,g 123,g 124,g 125,g 126,g 127,g 128,g 129,g 130,g 131,g 132,g 133,g 134,g 135,g 136,g 137,g 138,g 139,g 140,g 141,g 142,g 143,g 144]
noncomputable def tM4 (pa p:Option Addr)(la ca N c:Nat)(n wk:Int)(own:Value)(g:Nat→Value)(xa u:Value):Array Value:=#[.slice pa la ca,.slice p N c,.int .i64 n,.int .i64 wk,g 4,g 5,g 6,g 7,g 8,g 9,own,g 11,g 12,g 13,g 14,g 15,g 16,g 17,g 18,g 19,g 20,g 21,g 22,g 23,g 24,g 25,g 26,g 27,g 28,g 29,g 30,g 31,g 32,g 33,g 34,g 35,g 36,g 37,g 38,g 39,g 40,g 41,g 42,g 43,g 44,g 45,g 46,g 47,g 48,g 49,g 50,g 51,g 52,g 53,g 54,g 55,g 56,g 57,g 58,g 59,g 60,g 61,g 62,g 63,g 64,g 65,g 66,.slice pa la ca,xa,own,.int .i64 n,.int .i64 wk,u,g 73,g 74,g 75,g 76,g 77,g 78,g 79,g 80,g 81,g 82,g 83,g 84,g 85,g 86,g 87,g 88,g 89,g 90,g 91,g 92,g 93,g 94,g 95,g 96,g 97,g 98,g 99,g 100,g 101,g 102,g 103,g 104,g 105,g 106,g 107,g 108,g 109,g 110,g 111,g 112,g 113,g 114,g 115,g 116,g 117,g 118,g 119,g 120,g 121,g 122,g 123,g 124,g 125,g 126,g 127,g 128,g 129,g 130,g 131,g 132,g 133,g 134,g 135,g 136,g 137,g 138,g 139,g 140,g 141,g 142,g 143,g 144]
theorem arr_lit (t:Array Value){n:Nat}(h:t.size=n):t=((List.range n).map fun i=>t.getD i undef).toArray:=by
 apply Array.ext_getElem?
 intro i
 subst h
 simp only[List.getElem?_toArray,List.getElem?_map]
 by_cases hi:i<t.size
 ·simp[List.getElem?_range hi,hi]
 ·rw[Array.getElem?_eq_none (by omega),List.getElem?_eq_none (by simpa using hi)]
  rfl
theorem tM_of (pa p:Option Addr)(la ca N c:Nat)(n wk:Int)(own:Value){t:Array Value}(h:t.size=145)(h0:t.getD 0 undef=.slice pa la ca)(h1:t.getD 1 undef=.slice p N c)(h2:t.getD 2 undef=.int .i64 n)(h3:t.getD 3 undef=.int .i64 wk)(h10:t.getD 10 undef=own):t=tM pa p la ca N c n wk own (fun i=>t.getD i undef):=by
 have e:=arr_lit t h
 generalize hg:(fun i=>t.getD i undef)=g at e
 have g0:g 0=.slice pa la ca:=by rw[←hg];exact h0
 have g1:g 1=.slice p N c:=by rw[←hg];exact h1
 have g2:g 2=.int .i64 n:=by rw[←hg];exact h2
 have g3:g 3=.int .i64 wk:=by rw[←hg];exact h3
 have g10:g 10=own:=by rw[←hg];exact h10
 unfold tM
 rw[←g0,←g1,←g2,←g3,←g10]
 exact e
theorem rep3 (pa p:Option Addr)(la ca N c:Nat)(n wk:Int):(#[.slice pa la ca,.slice p N c,.int .i64 n,.int .i64 wk]++Array.replicate 141 undef:Array Value)=tB0 pa p la ca N c n wk:=by
 unfold tB0
 rw[←Array.toList_inj]
 simp[List.replicate]
theorem enter3 (pa p:Option Addr)(la ca N c:Nat)(n wk:Int):Frame.enter PP 3 #[.slice pa la ca,.slice p N c,.int .i64 n,.int .i64 wk] .normal=Fm 3 (tB0 pa p la ca N c n wk) [.code (Tryz.f3.body.getD .skip)] .run:=by
 have h1:PP.funcs[3]?=some Tryz.f3:=Tryz.func3
 have h2:Tryz.f3.ntmps=145:=by kernel_rfl
 have h3:Tryz.f3.body=some (Tryz.f3.body.getD .skip):=by kernel_rfl
 rw[←rep3]
 generalize hb:Tryz.f3.body.getD .skip=bd at h3
 unfold Frame.enter
 rw[h1]
 simp only[Option.map_some,Option.getD_some,Option.bind_some,h2,h3]
 rfl
section
variable {B:World→Prop} {Ev:Event→Prop} {cs:List Frame}
noncomputable def frA3 (pa p:Option Addr)(la ca N c:Nat)(n wk:Int):Frame:=Fm 3 (tB1 pa p la ca N c n wk) [.inRegion opsA3 [0,1],.code restA3] .run
set_option maxRecDepth 100000 in
set_option maxHeartbeats 8000000 in
theorem toA3 (pa p:Option Addr)(la ca N c:Nat)(n wk:Int):To PP true B Ev (fun g=>g=Gr (Frame.enter PP 5 #[] .normal) (frA3 pa p la ca N c n wk :: cs)) (Gr (Frame.enter PP 3 #[.slice pa la ca,.slice p N c,.int .i64 n,.int .i64 wk] .normal) cs):=by
 rw[enter3]
 show To PP true B Ev _ (S3 cs (tB0 pa p la ca N c n wk) [.code (Tryz.f3.body.getD .skip)])
 simp only[frA3,tB0,tB1,S3,opsA3,restA3,Tryz.f3,Option.getD_some]
 refine To.ctl rfl (fun _ _=>stepG_seq) ?_
 refine To.ctl rfl (fun _ _=>stepG_region) ?_;simp only[List.size_toArray,List.length_cons,List.length_nil,Nat.reduceAdd,Nat.zero_add,List.range,List.range.loop]
 refine To.value _ rfl rfl (by k_ne) (fun _ _=>by go_simp<;>rfl) (fun _ _=>by first|(simp[go_sem];done)) ?_;walk_nrm
 refine To.ctl rfl (fun _ _=>stepG_region_end) ?_
 refine To.ctl rfl (fun _ _=>stepG_seq) ?_
 refine To.ctl rfl (fun _ _=>stepG_region) ?_;simp only[List.size_toArray,List.length_cons,List.length_nil,Nat.reduceAdd,Nat.zero_add,List.range,List.range.loop]
 refine To.call rfl rfl (by k_ne) rfl Tryz.func5 (by kernel_rfl) (show Tryz.f5.body=some (Tryz.f5.body.getD .skip) from by kernel_rfl) ?_
 refine To.nil ?_
 rw[enter5]
 have h2:Tryz.f5.ntmps=18:=by kernel_rfl
 generalize Tryz.f5.body.getD .skip=bd
 rw[h2]
 simp only[List.map_toArray,List.map_cons,List.map_nil,List.size_toArray,List.length_cons,List.length_nil,Nat.reduceAdd,Nat.reduceSub,Nat.sub_zero]
 rw[rep18]
 rfl
set_option maxRecDepth 100000 in
theorem frA3_finish (pa p:Option Addr)(la ca N c:Nat)(n wk:Int):(frA3 pa p la ca N c n wk).finish (.bool true)=Fm 3 (tB2 pa p la ca N c n wk) [.inRegion opsA3 [1],.code restA3] .run:=by
 have:=Frame.finish_at (b:=base 3) (a:=⟨tB1 pa p la ca N c n wk,[]⟩) (ops:=opsA3) (i:=0) (rest:=[1]) (k:=[.code restA3]) (v:=.bool true)
 refine this.trans ?_
 rfl
set_option maxRecDepth 100000 in
set_option maxHeartbeats 8000000 in
theorem toB3 (pa p:Option Addr)(la ca N c:Nat)(n wk:Int):To PP true B Ev (fun g=>g=Gr (Fm 3 (tB3 pa p la ca N c n wk) [.code restA3] .run) cs) (Gr (Fm 3 (tB2 pa p la ca N c n wk) [.inRegion opsA3 [1],.code restA3] .run) cs):=by
 show To PP true B Ev _ (S3 cs (tB2 pa p la ca N c n wk) [.inRegion opsA3 [1],.code restA3])
 simp only[tB2,tB3,S3,opsA3,restA3,Tryz.f3,Option.getD_some]
 refine To.value _ rfl rfl (by k_ne) (fun _ _=>by go_simp<;>rfl) (fun _ _=>by first|(simp[go_sem];done)) ?_;walk_nrm
 refine To.ctl rfl (fun _ _=>stepG_region_end) ?_
 exact To.nil rfl
noncomputable def frB3 (pa p:Option Addr)(la ca N c:Nat)(n wk:Int)(own:Value)(g:Nat→Value):Frame:=Fm 3 (tM1 pa p la ca N c n wk own g) [.inRegion opsD3 [1,2,3,4,5,6,7,8,9,10],.code restE3] .run
set_option maxRecDepth 100000 in
set_option maxHeartbeats 8000000 in
theorem toC3 (pa p:Option Addr)(la ca N c:Nat)(n wk:Int)(own:Value)(g:Nat→Value):To PP true B Ev (fun x=>x=Gr (Frame.enter PP 7 #[.slice pa la ca] .normal) (frB3 pa p la ca N c n wk own g :: cs)) (Gr (Fm 3 (tM pa p la ca N c n wk own g) [.code restD3] .run) cs):=by
 show To PP true B Ev _ (S3 cs (tM pa p la ca N c n wk own g) [.code restD3])
 simp only[frB3,tM,tM1,S3,opsD3,restD3,restE3,restA3,Tryz.f3,Option.getD_some]
 refine To.ctl rfl (fun _ _=>stepG_seq) ?_
 refine To.ctl rfl (fun _ _=>stepG_region) ?_;simp only[List.size_toArray,List.length_cons,List.length_nil,Nat.reduceAdd,Nat.zero_add,List.range,List.range.loop]
 refine To.value _ rfl rfl (by k_ne) (fun _ _=>by go_simp<;>rfl) (fun _ _=>by first|(simp[go_sem];done)) ?_;walk_nrm
 refine To.call rfl rfl (by k_ne) rfl Tryz.func7 (by kernel_rfl) (show Tryz.f7.body=some (Tryz.f7.body.getD .skip) from by kernel_rfl) ?_
 refine To.nil ?_
 have h1:PP.funcs[7]?=some Tryz.f7:=Tryz.func7
 have h3:Tryz.f7.body=some (Tryz.f7.body.getD .skip):=by kernel_rfl
 generalize Tryz.f7.body.getD .skip=bd at h3
 rw[enter_at _ h1 h3]
 simp only[List.map_toArray,List.map_cons,List.map_nil,List.size_toArray,List.length_cons,List.length_nil,Nat.reduceAdd]
 rfl
set_option maxRecDepth 100000 in
theorem frB3_finish (pa p:Option Addr)(la ca N c:Nat)(n wk:Int)(own:Value)(g:Nat→Value)(xa:Value):(frB3 pa p la ca N c n wk own g).finish xa=Fm 3 (tM2 pa p la ca N c n wk own g xa) [.inRegion opsD3 [2,3,4,5,6,7,8,9,10],.code restE3] .run:=by
 have:=Frame.finish_at (b:=base 3) (a:=⟨tM1 pa p la ca N c n wk own g,[]⟩) (ops:=opsD3) (i:=1) (rest:=[2,3,4,5,6,7,8,9,10]) (k:=[.code restE3]) (v:=xa)
 refine this.trans ?_
 rfl
noncomputable def frC3 (pa p:Option Addr)(la ca N c:Nat)(n wk:Int)(own:Value)(g:Nat→Value)(xa:Value):Frame:=Fm 3 (tM3 pa p la ca N c n wk own g xa) [.inRegion opsD3 [5,6,7,8,9,10],.code restE3] .run
set_option maxRecDepth 100000 in
set_option maxHeartbeats 8000000 in
theorem toD3 (pa p:Option Addr)(la ca N c:Nat)(n wk:Int)(own:Value)(g:Nat→Value)(ho:∃q l r,own=.slice q l r)(xa:Value):To PP true B Ev (fun x=>x=Gr (Frame.enter PP 8 #[xa,own,.int .i64 n,.int .i64 wk] .normal) (frC3 pa p la ca N c n wk own g xa :: cs)) (Gr (Fm 3 (tM2 pa p la ca N c n wk own g xa) [.inRegion opsD3 [2,3,4,5,6,7,8,9,10],.code restE3] .run) cs):=by
 obtain⟨q,l,r,rfl⟩:=ho
 show To PP true B Ev _ (S3 cs (tM2 pa p la ca N c n wk (.slice q l r) g xa) [.inRegion opsD3 [2,3,4,5,6,7,8,9,10],.code restE3])
 simp only[frC3,tM2,tM3,S3,opsD3,restD3,restE3,restA3,Tryz.f3,Option.getD_some]
 refine To.value _ rfl rfl (by k_ne) (fun _ _=>by go_simp<;>rfl) (fun _ _=>by first|(simp[go_sem];done)) ?_;walk_nrm
 refine To.value _ rfl rfl (by k_ne) (fun _ _=>by go_simp<;>rfl) (fun _ _=>by first|(simp[go_sem];done)) ?_;walk_nrm
 refine To.value _ rfl rfl (by k_ne) (fun _ _=>by go_simp<;>rfl) (fun _ _=>by first|(simp[go_sem];done)) ?_;walk_nrm
 refine To.call rfl rfl (by k_ne) rfl Tryz.func8 (by kernel_rfl) (show Tryz.f8.body=some (Tryz.f8.body.getD .skip) from by kernel_rfl) ?_
 refine To.nil ?_
 rw[enter8]
 have h2:Tryz.f8.ntmps=25:=by kernel_rfl
 generalize Tryz.f8.body.getD .skip=bd
 rw[h2]
 simp only[List.map_toArray,List.map_cons,List.map_nil,List.size_toArray,List.length_cons,List.length_nil,Nat.reduceAdd,Nat.reduceSub]
 rw[rep21]
 rfl
set_option maxRecDepth 100000 in
theorem frC3_finish (pa p:Option Addr)(la ca N c:Nat)(n wk:Int)(own:Value)(g:Nat→Value)(xa u:Value):(frC3 pa p la ca N c n wk own g xa).finish u=Fm 3 (tM4 pa p la ca N c n wk own g xa u) (.inRegion opsD3 [6,7,8,9,10] :: [restE3].map Item.code) .run:=by
 have:=Frame.finish_at (b:=base 3) (a:=⟨tM3 pa p la ca N c n wk own g xa,[]⟩) (ops:=opsD3) (i:=5) (rest:=[6,7,8,9,10]) (k:=[.code restE3]) (v:=u)
 refine this.trans ?_
 rfl
end
theorem cutA3_c:CutC lx PP 3 restD3 (cutA3 .skip) restA3:=by
 simp only[cutA3,restA3,restD3,Tryz.f3,Option.getD_some]
 exact .seq (by decide +kernel) (.seq (by decide +kernel) (.seq (by decide +kernel) .here))
theorem cutA3_s:CutS lx PP 3 (cutA3 (.loop .skip)) restA3:=by
 simp only[cutA3,restA3,Tryz.f3,Option.getD_some]
 exact .seq (by decide +kernel) (.seq (by decide +kernel) (.seq (by decide +kernel) (.here _)))
theorem restE3_t:todoT lx PP 3 (.inRegion opsD3 [6,7,8,9,10] :: [restE3].map Item.code):=by
 intro x hx
 simp only[List.map_cons,List.map_nil,List.mem_cons,List.not_mem_nil,or_false] at hx
 rcases hx with rfl|rfl<;>decide +kernel
end Go.Proofs.YtjeicikflkjacaaGreatDoor.Sh
