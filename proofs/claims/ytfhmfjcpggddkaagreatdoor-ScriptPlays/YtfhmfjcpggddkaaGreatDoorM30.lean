/- The landed New. -/
import Derived.Test.YtfhmfjcpggddkaaGreatDoorM29
import Derived.Test.YtfhmfjcpggddkaaGreatDoorM4
import Derived.Shelf.SlSorted.Search
import Derived.Test.YtfhmfjcpggddkaaGreatDoorProg
import Derived.Test.YtfhmfjcpggddkaaGreatDoorM5
set_option maxHeartbeats 20000000
set_option maxRecDepth 100000
namespace Go.Proofs.YtfhmfjcpggddkaaGreatDoor
open Go.RowKit Go.Sort Go.Shelf Go.Lib
def RingBlk (W:World)(rb blk cap:Nat)(P:List Lh.Pt):Prop:=W.cell? ⟨rb,0,none⟩=some (.slice (some ⟨blk,0,none⟩) P.length cap)∧PtsAt W blk P
theorem RingBlk.later {W W':World}{rb blk cap:Nat}{P:List Lh.Pt}(h:RingBlk W rb blk cap P)(hb:Below W.heap.size W W'):RingBlk W' rb blk cap P:=⟨below_cell hb h.1,h.2.later hb⟩
theorem cmpLaysP (blk off size:Nat)(w:World):CmpLays Tryz.prog 140 #[] encP 2 cfP blk off size w:=fun _ _ _ _ x y=>closureP x y _
theorem entersC:∀args w,(callFunc 140 args).run Tryz.prog w=.ok (.enter 140 args) w:=enters_of Tryz.func140 (by kernel_rfl) rfl
theorem sortPts (g cap:Nat)(P:List Lh.Pt)(w:World)(hH:PtsAt w g P)(hf:∀k,w.frozen? ⟨g,k,none⟩=false)(hg:g<w.heap.size)(hsz:P.length<1000000) :
  Calls Tryz.prog 139 #[.slice (some ⟨g,0,none⟩) P.length cap,.func (.func 140) #[] #[]] w fun e w'=>e=.returned (.tuple #[])∧∃P':List Lh.Pt,P'.Perm P∧P'.Pairwise (Lh.leF 0)∧PtsAt w' g P'∧w.grownBy w' (some g):=by
 have h:=AnyQ.slices_SortFunc sortP 2 Tryz.isAgg205 Tryz.sizeOf205 encP (fun _=>rfl) encP_one cfP swoP 140 #[] g 0 cap P.toArray w entersC (cmpLaysP g 0 _ w) (holds_of_pts hH hf) hg (by simp;omega)
 rw[List.size_toArray] at h
 refine Calls.mono h ?_
 rintro e w' ⟨rfl,d',n,os,hp,hs,rfl⟩
 obtain⟨h1,h2⟩:=sortedP (P:=P) (d':=d') (by simpa using hp) (by simpa using hs)
 have hl:d'.size=P.toArray.size:=by
  have:=h1.length_eq
  simpa using this
 refine⟨rfl,d'.toList,h1,h2,?_,grownBy_sortedP d'⟩
 have hh:=sorted_holds (n:=n) (os:=os) hg (holds_of_pts hH hf) hl
 exact pts_of_holds hh
theorem new_good (a:Nat→Addr)(v:Value)(xs:List ByteArray)(c:Nat)(w:World)(he:Errs4 a w)(hv:Strs1 w v xs)(h0:0<xs.length)(hf:IsFault xs 0 (-1))(hsz:∀k (h:k<xs.length),(xs[k]).size≤300)(hc1:1≤c)(hc:c≤16) :
  Calls Tryz.prog 88 #[v,.int .i64 (c:Nat)] w fun e w'=>∃rb blk cap P,e=.returned (.tuple #[.pointer (some ⟨rb,0,none⟩),.nilIface])∧RingBlk w' rb blk cap P∧Lh.IsRing c xs P∧Below w.heap.size w w':=by
 obtain⟨_,h12,_⟩:=fault0 hf
 have hchk:=check_any4 a v xs w 0 (-1) he hv.strs hf (fun k h=>Nat.le_trans (hsz k h) (by decide)) (by omega)
 obtain⟨b,o,cap,rfl,hx⟩:=strsPos hv h0
 have HX:Hid (∀k (h:k<xs.length),w.cell? ⟨b,o+k,none⟩=some (.string xs[k])):=hx
 have HSZ:Hid (∀k (h:k<xs.length),(xs[k]).size≤300):=hsz
 clear hx hsz hv hf he
 have hl0:((xs.length:Int)==0)=false:=by rw[beq_eq_false_iff_ne];omega
 have hd1:decide ((c:Int)<1)=false:=by simp;omega
 have hd2:decide (16<(c:Int))=false:=by simp;omega
 go_enter Tryz.func88,Tryz.ntmps88
 go_wp2_with fail
 refine hchk.mono ?_
 rintro e w1 ⟨ev,rfl,hev,hb1⟩
 obtain rfl:=err0 hev
 clear hev hchk
 go_wp2_with fail
 refine (pointsOf_any b o cap xs c w1 (fun k h=>below_cell hb1 (HX.out k h)) h12 hc1 hc HSZ.out).mono ?_
 rintro e w2 ⟨v2,rfl,hown,hb2⟩
 have hlp:(Lh.pts c xs).length=xs.length*c:=Lh.pts_length c xs
 have hlp1:0<(Lh.pts c xs).length:=by rw[hlp];exact Nat.mul_pos h0 hc1
 have hlp2:(Lh.pts c xs).length<1000000:=by rw[hlp];have:=mul_bound h12 hc;omega
 obtain⟨g,cp,rfl,hg0,hg1,hcap,hpts,hfz⟩:=pts_of_owns hown hlp1
 have hbw2:Below w.heap.size w w2:=below_then hb1 hb2
 have hgw:w.heap.size≤g:=Nat.le_trans hb1.size hg0
 have hsort:=sortPts g cp (Lh.pts c xs) w2 hpts hfz hg1 hlp2
 clear hown hpts hfz hb2 hlp
 go_wp2_with fail
 refine hsort.mono ?_
 rintro e w3 ⟨rfl,P',hp1,hp2,hp3,hgr⟩
 have hbw3:Below w.heap.size w w3:=hbw2.grown hgr hbw2.size (fun k hk=>by cases hk;exact hgw)
 have hlen:(Lh.pts c xs).length=P'.length:=hp1.length_eq.symm
 rw[hlen]
 have HFIN:Hid (P'.Perm (Lh.pts c xs)∧P'.Pairwise (Lh.leF 0)∧PtsAt w3 g P'):=⟨hp1,hp2,hp3⟩
 clear hp1 hp2 hp3 hgr hlen hlp1 hlp2 hsort
 go_wp2
 go_ret2
 refine⟨w3.heap.size,g,cp,P',rfl,⟨by simp,HFIN.out.2.2.later ((Below.refl _ _).alloc (Nat.le_refl _) _)⟩,⟨HFIN.out.1,HFIN.out.2.1⟩,hbw3.alloc hbw3.size _⟩
end Go.Proofs.YtfhmfjcpggddkaaGreatDoor
namespace Go.Proofs.YtfhmfjcpggddkaaGreatDoor
open Go.Shelf
def searchP_ren : Go.Shelf.Ren := ⟨fun | 16 => 184 | n => n, fun | 3 => 3 | 35 => 247 | 4 => 4 | 38 => 261 | n => n, fun | n => n⟩
theorem searchP : Go.Proofs.SlLaysO.n16 Tryz.prog searchP_ren := {
  mixed := by kernel_rfl
  f16 := Tryz.func184.trans (congrArg some (by kernel_rfl))
  t3 := Tryz.underlying3
  a3 := Tryz.isAgg3
  z3 := Tryz.sizeOf3
  v3 := Tryz.zeroValue3
  t4 := Tryz.underlying4
  a4 := Tryz.isAgg4
  z4 := Tryz.sizeOf4
  v4 := Tryz.zeroValue4
  t35 := Tryz.underlying247
  a35 := Tryz.isAgg247
  z35 := Tryz.sizeOf247
  v35 := Tryz.zeroValue247
  t38 := Tryz.underlying261
  a38 := Tryz.isAgg261
  z38 := Tryz.sizeOf261
  v38 := Tryz.zeroValue261 }
end Go.Proofs.YtfhmfjcpggddkaaGreatDoor
namespace Go.Proofs.YtfhmfjcpggddkaaGreatDoor
open Go.RowKit Go.Sort Go.Shelf Go.Lib
theorem closureS (br bf rb blk cap:Nat)(P:List Lh.Pt)(f:Nat)(i:Nat)(hi:i<P.length)(W:World)(hr:W.cell? ⟨br,0,none⟩=some (.pointer (some ⟨rb,0,none⟩)))(hf:W.cell? ⟨bf,0,none⟩=some (.int .u64 (f:Nat)))(hR:RingBlk W rb blk cap P) :
  Calls Tryz.prog 185 (#[.int .i64 i]++#[.pointer (some ⟨br,0,none⟩),.pointer (some ⟨bf,0,none⟩)]) W fun e w'=>e=.returned (.bool (decide (f≤P[i].1)))∧∃q,w'=W.drewN q:=by
 obtain⟨cr,hp⟩:=hR
 have ca:=(hp i hi).1
 clear hp
 generalize P[i].1=at1 at *
 generalize P.length=n at *
 have hiz:(i:Int)<(n:Int):=by omega
 go_enter Tryz.func185,Tryz.ntmps185
 go_wp2_with fail
 go_quiet (fail)
 go_wp2
 go_ret
 exact⟨rfl,nq,rfl⟩
theorem entersS:∀args w,(callFunc 185 args).run Tryz.prog w=.ok (.enter 185 args) w:=enters_of Tryz.func185 (by kernel_rfl) rfl
theorem mono_at {P:List Lh.Pt}(hs:P.Pairwise (Lh.leF 0)){f a b:Nat}(hab:a≤b)(hb:b<P.length)(h:f≤(P[a]'(by omega)).1):f≤P[b].1:=by
 rcases Nat.lt_or_ge a b with h'|h'
 ·have:=(List.pairwise_iff_getElem.1 hs a b (by omega) hb h').2 (fun h=>absurd h (by omega))
  omega
 ·have e:a=b:=by omega
  subst e
  exact h
theorem cut_range (f:Nat)(P:List Lh.Pt):(List.range P.length).countP (fun i=>!decide (f≤(P.toArray[i]!).1))=Lh.cut f P:=by
 have:=Lib.countP_range P.toArray (fun p:Lh.Pt=>!decide (f≤p.1))
 simpa [Lh.cut] using this
theorem searchPts (br bf rb blk cap:Nat)(P:List Lh.Pt)(hs:P.Pairwise (Lh.leF 0))(hl:P.length<1000000)(f:Nat)(W:World)(hr:W.cell? ⟨br,0,none⟩=some (.pointer (some ⟨rb,0,none⟩)))(hf:W.cell? ⟨bf,0,none⟩=some (.int .u64 (f:Nat)))(hR:RingBlk W rb blk cap P) :
  Calls Tryz.prog 184 #[.int .i64 P.length,.func (.func 185) #[] #[.pointer (some ⟨br,0,none⟩),.pointer (some ⟨bf,0,none⟩)]] W fun e w'=>e=.returned (.int .i64 (Lh.cut f P:Nat))∧Below W.heap.size W w':=by
 have h:=Any.sort_Search searchP 185 #[.pointer (some ⟨br,0,none⟩),.pointer (some ⟨bf,0,none⟩)] P.length (fun i=>decide (f≤(P.toArray[i]!).1)) W entersS (by omega)
  (fun m os i hi=>by
   have hb:=below_grown_sl W.heap.size W m os (Nat.le_refl _)
   have hc:=closureS br bf rb blk cap P f i hi _ (below_cell hb hr) (below_cell hb hf) (hR.later hb)
   have e:(P.toArray[i]!)=P[i]:=by simp[hi]
   rw[e]
   exact hc.mono fun _ _ ⟨he,q,hq⟩=>⟨he,q,#[],by rw[hq,grow_empty]⟩)
  (fun a b hab hb h=>by
   have ha:a<P.length:=by omega
   simp only[List.getElem!_toArray,decide_eq_true_eq] at h ⊢
   rw[getElem!_pos P a ha] at h
   rw[getElem!_pos P b hb]
   exact mono_at hs hab hb h)
 rw[cut_range] at h
 refine Calls.mono h ?_
 rintro e w' ⟨rfl,q,os,rfl⟩
 exact⟨rfl,below_grown_sl W.heap.size W q os (Nat.le_refl _)⟩
theorem start_any (rb blk cap:Nat)(P:List Lh.Pt)(z:Nat)(W:World)(hR:RingBlk W rb blk cap P)(hs:P.Pairwise (Lh.leF 0))(hl:P.length<1000000) :
  Calls Tryz.prog 144 #[.pointer (some ⟨rb,0,none⟩),.int .u64 (z:Nat)] W fun e w'=>e=.returned (.int .i64 (Lh.start (Lh.turn z) P:Nat))∧Below W.heap.size W w':=by
 have HT:Hid (∀W',Calls Tryz.prog 183 #[.int .u64 z] W' fun e w'=>e=.returned (.int .u64 (Lh.turn z:Nat))∧Below W'.heap.size W' w'):=fun W'=>turn_any z W'
 generalize Lh.turn z=f at *
 have HR:Hid (RingBlk W rb blk cap P):=hR
 have hcl:=Lh.cut_le f P
 obtain⟨st,hst⟩:∃st,Lh.start f P=st:=⟨_,rfl⟩
 have HST:Hid (st=if Lh.cut f P=P.length then 0 else Lh.cut f P):=hst.symm
 rw[hst]
 clear hst
 clear hR
 go_enter Tryz.func144,Tryz.ntmps144
 go_wp2_with fail
 refine (HT.out _).mono ?_
 rintro e w1 ⟨rfl,hb1⟩
 have hba:Below W.heap.size W w1:=((Below.refl _ W).alloc (Nat.le_refl _) _).trans (hb1.mono (by simp))
 have hbw:Below w1.heap.size w1 (w1.alloc (.cells #[.int .u64 (f:Nat)] 63)):=(Below.refl _ w1).alloc (Nat.le_refl _) _
 have c1:(w1.alloc (.cells #[.int .u64 (f:Nat)] 63)).cell? ⟨W.heap.size,0,none⟩=some (.pointer (some ⟨rb,0,none⟩)):=below_cell hbw (below_cell hb1 (by simp))
 have c2:(w1.alloc (.cells #[.int .u64 (f:Nat)] 63)).cell? ⟨w1.heap.size,0,none⟩=some (.int .u64 (f:Nat)):=by simp
 have hR2:RingBlk (w1.alloc (.cells #[.int .u64 (f:Nat)] 63)) rb blk cap P:=(HR.out.later hba).later hbw
 have hb2:Below W.heap.size W (w1.alloc (.cells #[.int .u64 (f:Nat)] 63)):=below_then hba hbw
 have c3:=hR2.1
 have hse:=searchPts W.heap.size w1.heap.size rb blk cap P hs hl f _ c1 c2 hR2
 clear hb1 hba hbw c2
 go_wp2_with fail
 refine hse.mono ?_
 rintro e w3 ⟨rfl,hb3⟩
 have d1:=below_cell hb3 c1
 have d3:=below_cell hb3 c3
 have hb4:Below W.heap.size W w3:=below_then hb2 hb3
 clear hse hR2 c1 c3 hb2 hb3 hs
 generalize Lh.cut f P=k at *
 generalize P.length=n at *
 by_cases hk:k=n
 ·have hke:((k:Int)==(n:Int))=true:=by simp[hk]
  go_wp2
  go_ret
  refine⟨?_,hb4⟩
  rw[HST.out,if_pos hk]
  rfl
 ·have hke:((k:Int)==(n:Int))=false:=by rw[beq_eq_false_iff_ne];omega
  go_wp2
  go_ret
  refine⟨?_,hb4⟩
  rw[HST.out,if_neg hk]
  rfl
theorem host_any (rb blk cap:Nat)(P:List Lh.Pt)(z:Nat)(W:World)(hR:RingBlk W rb blk cap P)(hs:P.Pairwise (Lh.leF 0))(hl:P.length<1000000)(h0:0<P.length) :
  Calls Tryz.prog 89 #[.pointer (some ⟨rb,0,none⟩),.int .u64 (z:Nat)] W fun e w'=>∃s,e=.returned (.string s)∧(Lh.hostsF (Lh.turn z) P)[0]?=some s∧Below W.heap.size W w':=by
 have hst:∀W',Below W.heap.size W W'→Calls Tryz.prog 144 #[.pointer (some ⟨rb,0,none⟩),.int .u64 (z:Nat)] W' fun e w'=>e=.returned (.int .i64 (Lh.start (Lh.turn z) P:Nat))∧Below W.heap.size W w':=fun W' hb =>
  (start_any rb blk cap P z W' (hR.later hb) hs hl).mono fun e w' ⟨h1,h2⟩=>⟨h1,below_then hb h2⟩
 have HH:Hid ((Lh.hostsF (Lh.turn z) P)[0]?=some (P[Lh.start (Lh.turn z) P]'(Lh.start_lt h0)).2):=Lh.hosts_head hs h0
 have hlt:=Lh.start_lt (f:=Lh.turn z) h0
 have hc:=fun W' (hb:Below W.heap.size W W')=>below_cell hb (hR.2 _ hlt).2
 have hcr:=fun W' (hb:Below W.heap.size W W')=>below_cell hb hR.1
 generalize (P[Lh.start (Lh.turn z) P]'(Lh.start_lt h0)).2=s at *
 generalize Lh.hostsF (Lh.turn z) P=D at *
 generalize Lh.start (Lh.turn z) P=st at *
 clear hR hs
 generalize P.length=n at *
 have c0:=hcr W (Below.refl _ _)
 have hli:(st:Int)<(n:Int):=by omega
 have hne:((n:Int)==0)=false:=by rw[beq_eq_false_iff_ne];omega
 go_enter Tryz.func89,Tryz.ntmps89
 go_wp2_with fail
 go_region_held3 (fun w'=>Below W.heap.size W w'∧w'.cell? ⟨rb,0,none⟩=some (.slice (some ⟨blk,0,none⟩) n cap)∧w'.cell? ⟨blk,st*2+1,none⟩=some (.string s))
  (first|exact⟨by assumption,hcr _ (by assumption),hc _ (by assumption)⟩|exact⟨below_drewN (Below.refl _ _) 1,hcr _ (below_drewN (Below.refl _ _) 1),hc _ (below_drewN (Below.refl _ _) 1)⟩)
  (first
   | (go_at_call 144;refine (hst _ (by first|assumption|exact below_drewN (Below.refl _ _) 1)).mono ?_;rintro e w' ⟨rfl,hbn⟩))
 all_goals
  go_wp2
  go_ret
  exact⟨s,rfl,HH.out,by assumption⟩
end Go.Proofs.YtfhmfjcpggddkaaGreatDoor
namespace Go.Proofs.YtfhmfjcpggddkaaGreatDoor
open Go.RowKit
theorem new_none (a:Nat→Addr)(p:Option Addr)(c:Nat)(n:Int)(w:World)(he:Errs4 a w) :
  Calls Tryz.prog 88 #[.slice p 0 c,.int .i64 n] w fun e w'=>e=.returned (.tuple #[.pointer none,.iface 378 (.pointer (some (a 4)))])∧Below w.heap.size w w':=by
 have s4:=he.s4
 go_enter Tryz.func88,Tryz.ntmps88
 go_wp2_with fail
 go_quiet (fail)
 go_wp2
 go_ret2
 exact⟨rfl,below_drewN (Below.refl _ _) nq⟩
theorem new_fault (a:Nat→Addr)(v:Value)(xs:List ByteArray)(n:Int)(w:World)(c:Nat)(pl:Int)(he:Errs4 a w)(hv:Strs1 w v xs)(h0:0<xs.length)(hf:IsFault xs c pl)(hc:c≠0)(hsz:∀k (h:k<xs.length),(xs[k]).size≤1000000)(hm:xs.length<1000000) :
  Calls Tryz.prog 88 #[v,.int .i64 n] w fun e w'=>∃ev,e=.returned (.tuple #[.pointer none,ev])∧ErrIs a w' c pl ev∧Below w.heap.size w w':=by
 have hchk:=check_any4 a v xs w c pl he hv.strs hf hsz hm
 obtain⟨b,o,cp,rfl,hx⟩:=strsPos hv h0
 clear hv hf hsz hx he
 have hl0:((xs.length:Int)==0)=false:=by rw[beq_eq_false_iff_ne];omega
 go_enter Tryz.func88,Tryz.ntmps88
 go_wp2_with fail
 refine hchk.mono ?_
 rintro e w1 ⟨ev,rfl,hev,hb1⟩
 have HEV:Hid (ErrIs a w1 c pl ev):=hev
 obtain⟨t,x,rfl⟩:=errPos hev hc
 clear hev hchk
 go_wp2
 go_ret2
 exact⟨_,rfl,HEV.out,hb1⟩
theorem new_copies (a:Nat→Addr)(v:Value)(xs:List ByteArray)(n:Int)(w:World)(he:Errs4 a w)(hv:Strs1 w v xs)(h0:0<xs.length)(hf:IsFault xs 0 (-1))(hn:n<1∨16<n)(hsz:∀k (h:k<xs.length),(xs[k]).size≤1000000)(hm:xs.length<1000000) :
  Calls Tryz.prog 88 #[v,.int .i64 n] w fun e w'=>e=.returned (.tuple #[.pointer none,.iface 378 (.pointer (some (a 1)))])∧Below w.heap.size w w':=by
 have hchk:=check_any4 a v xs w 0 (-1) he hv.strs hf hsz hm
 obtain⟨b,o,cp,rfl,hx⟩:=strsPos hv h0
 have HE:Hid (Errs4 a w):=he
 clear hv hf hsz hx he
 have hl0:((xs.length:Int)==0)=false:=by rw[beq_eq_false_iff_ne];omega
 by_cases h1:n<1
 ·have hd1:decide (n<1)=true:=by simpa using h1
  clear hn
  go_enter Tryz.func88,Tryz.ntmps88
  go_wp2_with fail
  refine hchk.mono ?_
  rintro e w1 ⟨ev,rfl,hev,hb1⟩
  obtain rfl:=err0 hev
  have s1:=(HE.out.later hb1).s1
  clear hev hchk
  go_wp2_with fail
  go_quiet (fail)
  go_wp2
  go_ret2
  exact⟨rfl,below_drewN hb1 nq⟩
 ·have h2:16<n:=by omega
  have hd1:decide (n<1)=false:=by simpa using h1
  have hd2:decide (16<n)=true:=by simpa using h2
  clear hn
  go_enter Tryz.func88,Tryz.ntmps88
  go_wp2_with fail
  refine hchk.mono ?_
  rintro e w1 ⟨ev,rfl,hev,hb1⟩
  obtain rfl:=err0 hev
  have s1:=(HE.out.later hb1).s1
  clear hev hchk
  go_wp2_with fail
  go_quiet (fail)
  go_wp2
  go_ret2
  exact⟨rfl,below_drewN hb1 nq⟩
def CopIs (n:Int)(c:Nat):Prop:=((n<1∨16<n)∧c=2)∨(∃m:Nat,n=m∧1≤m∧m≤16∧c=0)
def RngFault (xs:List ByteArray)(n:Int)(c:Nat)(pl:Int):Prop :=
 (xs=[]∧c=5∧pl = -1)∨(0<xs.length∧IsFault xs c pl∧c≠0)∨(0<xs.length∧IsFault xs 0 (-1)∧CopIs n c∧pl = -1)
theorem new_bad (a:Nat→Addr)(v:Value)(xs:List ByteArray)(n:Int)(w:World)(c:Nat)(pl:Int)(he:Errs4 a w)(hv:Strs1 w v xs)(hf:RngFault xs n c pl)(hc:c≠0)(hsz:∀k (h:k<xs.length),(xs[k]).size≤1000000)(hm:xs.length<1000000) :
  Calls Tryz.prog 88 #[v,.int .i64 n] w fun e w'=>∃ev,e=.returned (.tuple #[.pointer none,ev])∧ErrIs a w' c pl ev∧Below w.heap.size w w':=by
 rcases hf with⟨rfl,rfl,rfl⟩|⟨h0,hf,_⟩|⟨h0,hf,⟨hn,rfl⟩|⟨m,_,_,_,h⟩,rfl⟩
 ·obtain⟨p,cp,rfl⟩:=hv.strs.slice
  exact (new_none a p cp n w he).mono fun e w' ⟨h1,h2⟩=>⟨_,h1,Or.inr ⟨4,by decide,rfl,Or.inl ⟨rfl,rfl⟩⟩,h2⟩
 ·exact new_fault a v xs n w c pl he hv h0 hf hc hsz hm
 ·exact (new_copies a v xs n w he hv h0 hf hn hsz hm).mono fun e w' ⟨h1,h2⟩=>⟨_,h1,Or.inr ⟨1,by decide,rfl,Or.inl ⟨rfl,rfl⟩⟩,h2⟩
 ·exact absurd h hc
end Go.Proofs.YtfhmfjcpggddkaaGreatDoor
namespace Go.Proofs.YtfhmfjcpggddkaaGreatDoor
open Go.RowKit Go.Sort Go.Shelf Go.Lib
theorem ring_pos {c:Nat}{xs:List ByteArray}{P:List Lh.Pt}(h:Lh.IsRing c xs P)(h0:0<xs.length)(h12:xs.length≤12)(hc1:1≤c)(hc:c≤16):0<P.length∧P.length<1000000:=by
 rw[Lh.ring_len h]
 have:=mul_bound h12 hc
 exact⟨Nat.mul_pos h0 hc1,by omega⟩
end Go.Proofs.YtfhmfjcpggddkaaGreatDoor
namespace Go.Proofs.YtfhmfjcpggddkaaGreatDoor
open Go.RowKit
theorem someF_none (p:Option Addr)(c:Nat)(w:World) :
  Calls Tryz.prog 64 #[.slice p 0 c] w fun e w'=>e=.returned (.agg #[.int .i64 5,.int .i64 (-1)])∧Below w.heap.size w w':=by
 have hbW:=(Below.refl w.heap.size w).alloc (Nat.le_refl _) (.cells #[.int .i64 0,.int .i64 0] 59)
 go_enter Tryz.func64,Tryz.ntmps64
 go_wp2_with fail
 refine (bare_any _ _).mono ?_
 rintro e w1 ⟨rfl,hb1⟩
 have c0:w1.cell? ⟨w.heap.size,0,none⟩=some (.int .i64 0):=below_cell hb1 (by simp)
 have c1:w1.cell? ⟨w.heap.size,1,none⟩=some (.int .i64 0):=below_cell hb1 (by simp)
 have f0:w1.frozen? ⟨w.heap.size,0,none⟩=false:=by rw[hb1.frozen (by simp)];simp
 have f1:w1.frozen? ⟨w.heap.size,1,none⟩=false:=by rw[hb1.frozen (by simp)];simp
 have hbz:Below w.heap.size w w1:=hbW.trans (hb1.mono (by simp))
 clear hb1 hbW
 go_wp2
 exact bodyPost_ret (v:=.agg #[.int .i64 5,.int .i64 (-1)]) (by simp[results,Tryz.results64,go_sem,c0,c1]) rfl ⟨rfl,(hbz.setCell (Nat.le_refl _) _).setCell (Nat.le_refl _) _⟩
theorem someF_some (v:Value)(xs:List ByteArray)(w:World)(c:Nat)(pl:Int)(hv:Strs1 w v xs)(h0:0<xs.length)(hf:IsFault xs c pl)(hs:∀k (h:k<xs.length),(xs[k]).size≤1000000)(hm:xs.length<1000000) :
  Calls Tryz.prog 64 #[v] w fun e w'=>e=.returned (.agg #[.int .i64 c,.int .i64 pl])∧Below w.heap.size w w':=by
 have hbW:=(Below.refl w.heap.size w).alloc (Nat.le_refl _) (.cells #[.int .i64 0,.int .i64 0] 59)
 have hcall:=hfault_any v xs _ c pl (hv.later hbW).strs hf hs hm
 obtain⟨b,o,cp,rfl,hx⟩:=strsPos hv h0
 have hl0:((xs.length:Int)==0)=false:=by rw[beq_eq_false_iff_ne];omega
 clear hv hx hf hs
 go_enter Tryz.func64,Tryz.ntmps64
 go_wp2_with fail
 refine hcall.mono ?_
 rintro e w1 ⟨rfl,hb1⟩
 have c0:w1.cell? ⟨w.heap.size,0,none⟩=some (.int .i64 0):=below_cell hb1 (by simp)
 have c1:w1.cell? ⟨w.heap.size,1,none⟩=some (.int .i64 0):=below_cell hb1 (by simp)
 have f0:w1.frozen? ⟨w.heap.size,0,none⟩=false:=by rw[hb1.frozen (by simp)];simp
 have f1:w1.frozen? ⟨w.heap.size,1,none⟩=false:=by rw[hb1.frozen (by simp)];simp
 have hbz:Below w.heap.size w w1:=hbW.trans (hb1.mono (by simp))
 clear hb1 hbW hcall
 go_wp2
 exact bodyPost_ret (v:=.agg #[.int .i64 c,.int .i64 pl]) (by simp[results,Tryz.results64,go_sem,c0,c1]) rfl ⟨rfl,(hbz.setCell (Nat.le_refl _) _).setCell (Nat.le_refl _) _⟩
theorem someF_any (v:Value)(xs:List ByteArray)(w:World)(c:Nat)(pl:Int)(hv:Strs1 w v xs)(hf:(xs=[]∧c=5∧pl = -1)∨(0<xs.length∧IsFault xs c pl))(hs:∀k (h:k<xs.length),(xs[k]).size≤1000000)(hm:xs.length<1000000) :
  Calls Tryz.prog 64 #[v] w fun e w'=>e=.returned (.agg #[.int .i64 c,.int .i64 pl])∧Below w.heap.size w w':=by
 rcases hf with⟨rfl,rfl,rfl⟩|⟨h0,hf⟩
 ·obtain⟨p,cp,rfl⟩:=hv.strs.slice
  exact someF_none p cp w
 ·exact someF_some v xs w c pl hv h0 hf hs hm
end Go.Proofs.YtfhmfjcpggddkaaGreatDoor
namespace Go.Proofs.YtfhmfjcpggddkaaGreatDoor
open Go.RowKit Go.Sort Go.Shelf Go.Lib
theorem lessF_val (f p1 q1:Nat)(p2 q2:ByteArray):Lh.lessF f (p1,p2) (q1,q2)=if (!decide (p1<f)==decide (q1<f))=true then decide (q1<f) else if ((p1:Int) != (q1:Int))=true then decide (p1<q1) else Op.bytesLess p2.toList q2.toList:=by
 unfold Lh.lessF
 rw[less_bl]
 by_cases h1:p1<f<;>by_cases h2:q1<f<;>by_cases h3:p1=q1<;>simp[h1,h2,h3]
 all_goals omega
theorem less_any (f p1 q1:Nat)(p2 q2:ByteArray)(w:World) :
  Calls Tryz.prog 128 #[.int .u64 (f:Nat),.agg #[.int .u64 (p1:Nat),.string p2],.agg #[.int .u64 (q1:Nat),.string q2]] w fun e w'=>e=.returned (.bool (Lh.lessF f (p1,p2) (q1,q2)))∧Below w.heap.size w w':=by
 have hb2:∀x y,Below w.heap.size w ((w.alloc x).alloc y):=fun x y=>((Below.refl _ w).alloc (Nat.le_refl _) _).alloc (by simp) _
 rw[lessF_val]
 cases h1:(!decide (p1<f)==decide (q1<f)) with
 | true =>
  rw[if_pos rfl]
  go_enter Tryz.func128,Tryz.ntmps128
  go_wp2
  go_ret
  exact⟨rfl,hb2 _ _⟩
 | false =>
  rw[if_neg (by decide)]
  cases h2:((p1:Int) != (q1:Int)) with
  | true =>
   rw[if_pos rfl]
   go_enter Tryz.func128,Tryz.ntmps128
   go_wp2
   go_ret
   exact⟨rfl,hb2 _ _⟩
  | false =>
   rw[if_neg (by decide)]
   go_enter Tryz.func128,Tryz.ntmps128
   go_wp2
   go_ret
   exact⟨rfl,hb2 _ _⟩
theorem refMem_core (b o c:Nat)(xs:List ByteArray)(s:ByteArray)(w:World)(hx:∀k (h:k<xs.length),w.cell? ⟨b,o+k,none⟩=some (.string xs[k]))(hl:xs.length<1000000) :
  Calls Tryz.prog 73 #[.slice (some ⟨b,o,none⟩) xs.length c,.string s] w fun e w'=>(∃j:Int,e=.returned (.int .i64 j)∧decide (0≤j)=Lh.mem s xs)∧w'=w:=by
 have HX:Hid (∀k (h:k<xs.length),w.cell? ⟨b,o+k,none⟩=some (.string xs[k])):=hx
 clear hx
 go_enter Tryz.func73,Tryz.ntmps73
 go_wp2
 go_loop [5] (fun t=>∃k:Nat,k≤xs.length∧t=.int .i64 k∧∀j (h:j<xs.length),j<k→xs[j]≠s) (fun t=>xs.length - (intOf t).toNat)
 case atStart=>exact⟨0,Nat.zero_le _,rfl,fun j _ h=>absurd h (by omega)⟩
 case round =>
  obtain⟨k,hk,rfl,hpre⟩:=hrel
  have HP:Hid (∀j (h:j<xs.length),j<k→xs[j]≠s):=hpre
  clear hpre
  by_cases hlt:k<xs.length
  ·have cx:=HX.out k hlt
   by_cases heq:xs[k]=s
   ·have HI:Hid (Lh.mem s xs=true):=Lh.mem_true (heq ▸ List.getElem_mem hlt)
    generalize xs[k]=xk at *
    have hne:(xk.toList==s.toList)=true:=bytes_same heq
    clear heq
    go_wp2
    go_ret
    exact⟨⟨_,rfl,by rw[HI.out];simp⟩,rfl⟩
   ·have HE:Hid (xs[k]≠s):=heq
    generalize hxk:xs[k]=xk at *
    have HXK:Hid (xs[k]=xk):=hxk
    have hne:(xk.toList==s.toList)=false:=bytes_parts heq
    clear heq hxk
    go_wp2
    go_round
    case rel =>
     refine⟨k+1,by omega,by go_num,fun j h hj=>?_⟩
     by_cases hjk:j=k
     ·subst hjk;rw[HXK.out];exact HE.out
     ·exact HP.out j h (by omega)
    case measure=>simp[intOf];omega
  ·have HI:Hid (Lh.mem s xs=false):=Lh.mem_false fun h=>by
    obtain⟨j,hj,e⟩:=List.getElem_of_mem h
    exact HP.out j hj (by omega) e
   go_wp2
   go_ret
   exact⟨⟨_,rfl,by rw[HI.out];rfl⟩,rfl⟩
theorem refMem_zero (p:Option Addr)(c:Nat)(s:ByteArray)(w:World) :
  Calls Tryz.prog 73 #[.slice p 0 c,.string s] w fun e w'=>e=.returned (.int .i64 (-1))∧w'=w:=by
 go_enter Tryz.func73,Tryz.ntmps73
 go_wp2
 refine wp_loop_rounds 1 ?_
 rw[rounds_succ]
 go_wp2
 go_ret
 exact⟨rfl,rfl⟩
theorem refMem_any (v:Value)(xs:List ByteArray)(s:ByteArray)(w:World)(hv:Strs w v xs)(hl:xs.length<1000000) :
  Calls Tryz.prog 73 #[v,.string s] w fun e w'=>(∃j:Int,e=.returned (.int .i64 j)∧decide (0≤j)=Lh.mem s xs)∧w'=w:=by
 rcases hv with⟨rfl,p,c,rfl⟩|⟨b,o,c,rfl,_,hc⟩
 ·exact (refMem_zero p c s w).mono fun e w' ⟨h1,h2⟩=>⟨⟨-1,h1,rfl⟩,h2⟩
 ·exact refMem_core b o c xs s w hc hl
theorem cells2 {W:World}{b:Nat}{x y x0 y0:Value}(c0:W.cell? ⟨b,0,none⟩=some x0)(c1:W.cell? ⟨b,1,none⟩=some y0)(q:Obj) :
  (((W.setCell ⟨b,0,none⟩ x).setCell ⟨b,1,none⟩ y).alloc q).cell? ⟨b,0,none⟩=some x∧(((W.setCell ⟨b,0,none⟩ x).setCell ⟨b,1,none⟩ y).alloc q).cell? ⟨b,1,none⟩=some y:=by
 have e0:((W.setCell ⟨b,0,none⟩ x).setCell ⟨b,1,none⟩ y).cell? ⟨b,0,none⟩=some x:=by simp[go_sem,c0]
 have e1:((W.setCell ⟨b,0,none⟩ x).setCell ⟨b,1,none⟩ y).cell? ⟨b,1,none⟩=some y:=by simp[go_sem,c1]
 exact⟨below_cell ((Below.refl _ _).alloc (Nat.le_refl _) _) e0,below_cell ((Below.refl _ _).alloc (Nat.le_refl _) _) e1⟩
theorem ringFault_hosts (v:Value)(xs:List ByteArray)(n:Int)(w:World)(c:Nat)(pl:Int)(hv:Strs1 w v xs)(hf:(xs=[]∧c=5∧pl = -1)∨(0<xs.length∧IsFault xs c pl))(hc:c≠0)(hs:∀k (h:k<xs.length),(xs[k]).size≤1000000)(hm:xs.length<1000000) :
  Calls Tryz.prog 81 #[v,.int .i64 n] w fun e w'=>e=.returned (.agg #[.int .i64 c,.int .i64 pl])∧Below w.heap.size w w':=by
 have hc0:((c:Int)==0)=false:=by rw[beq_eq_false_iff_ne];omega
 have HV:Hid (Strs1 w v xs):=hv
 have HC:Hid (∀W,Below w.heap.size w W→Calls Tryz.prog 64 #[v] W fun e w'=>e=.returned (.agg #[.int .i64 c,.int .i64 pl])∧Below W.heap.size W w'):=fun W hW=>someF_any v xs W c pl (hv.later hW) hf hs hm
 clear hv hf hs
 go_enter Tryz.func81,Tryz.ntmps81
 go_wp2_with fail
 have hbW:=(Below.refl w.heap.size w).alloc (Nat.le_refl _) (.cells #[.int .i64 0,.int .i64 0] 59)
 refine (HC.out _ hbW).mono ?_
 rintro e w1 ⟨rfl,hb1⟩
 have c0:w1.cell? ⟨w.heap.size,0,none⟩=some (.int .i64 0):=below_cell hb1 (by simp)
 have c1:w1.cell? ⟨w.heap.size,1,none⟩=some (.int .i64 0):=below_cell hb1 (by simp)
 have f0:w1.frozen? ⟨w.heap.size,0,none⟩=false:=by rw[hb1.frozen (by simp)];simp
 have f1:w1.frozen? ⟨w.heap.size,1,none⟩=false:=by rw[hb1.frozen (by simp)];simp
 have hsz:w.heap.size<w1.heap.size:=by have:=hb1.size;simp at this;omega
 have hbz:Below w.heap.size w w1:=hbW.trans (hb1.mono (by simp))
 clear hb1 hbW HC
 go_wp2
 have hh:=cells2 (x:=.int .i64 c) (y:=.int .i64 pl) c0 c1 (.cells #[.int .i64 c,.int .i64 pl] 59)
 exact bodyPost_ret (v:=.agg #[.int .i64 c,.int .i64 pl]) (by simp[results,Tryz.results81,go_sem,hh.1,hh.2]) rfl ⟨rfl,((hbz.setCell (Nat.le_refl _) _).setCell (Nat.le_refl _) _).alloc (by have:=hbz.size;simpa using this) _⟩
theorem ringFault_cop (v:Value)(xs:List ByteArray)(n:Int)(w:World)(e0:Nat)(hv:Strs1 w v xs)(h0:0<xs.length)(hf:IsFault xs 0 (-1))(hse:CopIs n e0)(hs:∀k (h:k<xs.length),(xs[k]).size≤1000000)(hm:xs.length<1000000) :
  Calls Tryz.prog 81 #[v,.int .i64 n] w fun e w'=>e=.returned (.agg #[.int .i64 e0,.int .i64 (-1)])∧Below w.heap.size w w':=by
 have HV:Hid (Strs1 w v xs):=hv
 have HC:Hid (∀W,Below w.heap.size w W→Calls Tryz.prog 64 #[v] W fun e w'=>e=.returned (.agg #[.int .i64 0,.int .i64 (-1)])∧Below W.heap.size W w'):=fun W hW=>someF_any v xs W 0 (-1) (hv.later hW) (Or.inr ⟨h0,hf⟩) hs hm
 have HS:Hid (CopIs n e0):=hse
 clear hv hf hs hse
 have hbW:=(Below.refl w.heap.size w).alloc (Nat.le_refl _) (.cells #[.int .i64 0,.int .i64 0] 59)
 have hc2:=HC.out _ hbW
 go_enter Tryz.func81,Tryz.ntmps81
 go_wp2_with fail
 refine hc2.mono ?_
 rintro e w1 ⟨rfl,hb1⟩
 have c0:w1.cell? ⟨w.heap.size,0,none⟩=some (.int .i64 0):=below_cell hb1 (by simp)
 have c1:w1.cell? ⟨w.heap.size,1,none⟩=some (.int .i64 0):=below_cell hb1 (by simp)
 have f0:w1.frozen? ⟨w.heap.size,0,none⟩=false:=by rw[hb1.frozen (by simp)];simp
 have f1:w1.frozen? ⟨w.heap.size,1,none⟩=false:=by rw[hb1.frozen (by simp)];simp
 have hsz:w.heap.size<w1.heap.size:=by have:=hb1.size;simp at this;omega
 have hbz:Below w.heap.size w w1:=hbW.trans (hb1.mono (by simp))
 clear hb1 hbW HC hc2
 rcases HS.out with⟨hnn,rfl⟩|⟨m,rfl,hm1,hm16,rfl⟩
 ·by_cases hn1:n<1
  ·have hd1:decide (n<1)=true:=by simpa using hn1
   go_wp2_with fail
   refine (bare_any _ _).mono ?_
   rintro e w3 ⟨rfl,hb3⟩
   have d0:w3.cell? ⟨w.heap.size,0,none⟩=some (.int .i64 0):=below_cell hb3 (below_cell ((Below.refl _ _).alloc (Nat.le_refl _) _) c0)
   have d1:w3.cell? ⟨w.heap.size,1,none⟩=some (.int .i64 0):=below_cell hb3 (below_cell ((Below.refl _ _).alloc (Nat.le_refl _) _) c1)
   have g0:w3.frozen? ⟨w.heap.size,0,none⟩=false:=by rw[hb3.frozen (by simp;omega),((Below.refl w1.heap.size w1).alloc (Nat.le_refl _) _).frozen hsz];exact f0
   have g1:w3.frozen? ⟨w.heap.size,1,none⟩=false:=by rw[hb3.frozen (by simp;omega),((Below.refl w1.heap.size w1).alloc (Nat.le_refl _) _).frozen hsz];exact f1
   have hby:Below w.heap.size w w3:=(hbz.alloc hbz.size _).trans (hb3.mono (by simp;omega))
   clear hb3 c0 c1 f0 f1
   go_wp2
   exact bodyPost_ret (v:=.agg #[.int .i64 2,.int .i64 (-1)]) (by simp[results,Tryz.results81,go_sem,d0,d1]) rfl ⟨rfl,(hby.setCell (Nat.le_refl _) _).setCell (Nat.le_refl _) _⟩
  ·have hd1:decide (n<1)=false:=by simpa using hn1
   have hd2:decide (16<n)=true:=by simp;omega
   go_wp2_with fail
   refine (bare_any _ _).mono ?_
   rintro e w3 ⟨rfl,hb3⟩
   have d0:w3.cell? ⟨w.heap.size,0,none⟩=some (.int .i64 0):=below_cell hb3 (below_cell ((Below.refl _ _).alloc (Nat.le_refl _) _) c0)
   have d1:w3.cell? ⟨w.heap.size,1,none⟩=some (.int .i64 0):=below_cell hb3 (below_cell ((Below.refl _ _).alloc (Nat.le_refl _) _) c1)
   have g0:w3.frozen? ⟨w.heap.size,0,none⟩=false:=by rw[hb3.frozen (by simp;omega),((Below.refl w1.heap.size w1).alloc (Nat.le_refl _) _).frozen hsz];exact f0
   have g1:w3.frozen? ⟨w.heap.size,1,none⟩=false:=by rw[hb3.frozen (by simp;omega),((Below.refl w1.heap.size w1).alloc (Nat.le_refl _) _).frozen hsz];exact f1
   have hby:Below w.heap.size w w3:=(hbz.alloc hbz.size _).trans (hb3.mono (by simp;omega))
   clear hb3 c0 c1 f0 f1
   go_wp2
   exact bodyPost_ret (v:=.agg #[.int .i64 2,.int .i64 (-1)]) (by simp[results,Tryz.results81,go_sem,d0,d1]) rfl ⟨rfl,(hby.setCell (Nat.le_refl _) _).setCell (Nat.le_refl _) _⟩
 ·have hd1:decide ((m:Int)<1)=false:=by simp;omega
  have hd2:decide (16<(m:Int))=false:=by simp;omega
  go_wp2
  have hh:=cells2 (x:=.int .i64 0) (y:=.int .i64 (-1)) c0 c1 (.cells #[.int .i64 0,.int .i64 (-1)] 59)
  exact bodyPost_ret (v:=.agg #[.int .i64 0,.int .i64 (-1)]) (by simp[results,Tryz.results81,go_sem,hh.1,hh.2]) rfl ⟨rfl,((hbz.setCell (Nat.le_refl _) _).setCell (Nat.le_refl _) _).alloc (by have:=hbz.size;simpa using this) _⟩
theorem ringFault_any (v:Value)(xs:List ByteArray)(n:Int)(w:World)(c:Nat)(pl:Int)(hv:Strs1 w v xs)(hf:RngFault xs n c pl)(hs:∀k (h:k<xs.length),(xs[k]).size≤1000000)(hm:xs.length<1000000) :
  Calls Tryz.prog 81 #[v,.int .i64 n] w fun e w'=>e=.returned (.agg #[.int .i64 c,.int .i64 pl])∧Below w.heap.size w w':=by
 rcases hf with⟨h,rfl,rfl⟩|⟨h0,hf,hc⟩|⟨h0,hf,hse,rfl⟩
 ·exact ringFault_hosts v xs n w 5 (-1) hv (Or.inl ⟨h,rfl,rfl⟩) (by decide) hs hm
 ·exact ringFault_hosts v xs n w c pl hv (Or.inr ⟨h0,hf⟩) hc hs hm
 ·exact ringFault_cop v xs n w c hv h0 hf hse hs hm
end Go.Proofs.YtfhmfjcpggddkaaGreatDoor
