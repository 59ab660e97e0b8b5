/- The landed script: hosts that are spoken of. -/
import Derived.Test.YtfhmfjcpggddkaaGreatDoorM28
import Derived.Test.YtfhmfjcpggddkaaGreatDoorM15
import Derived.Test.YtfhmfjcpggddkaaGreatDoorM21
import Derived.Test.YtfhmfjcpggddkaaGreatDoorM0
import Derived.Test.YtfhmfjcpggddkaaGreatDoorM2
import Derived.Test.YtfhmfjcpggddkaaGreatDoorM10
import Derived.Maps.AppendAt
import Derived.Test.YtfhmfjcpggddkaaGreatDoorM5
import Derived.Test.YtfhmfjcpggddkaaGreatDoorM4
import Derived.Shelf.SlSortCmp.NoneTotal
import Derived.Test.YtfhmfjcpggddkaaGreatDoorM22
import Derived.Shelf.SlSorted.Search
import Derived.Deep.RegionHeld3
import Derived.Shelf.SlGeneric
import Derived.Test.YtfhmfjcpggddkaaGreatDoorProg
set_option maxHeartbeats 20000000
set_option maxRecDepth 100000
namespace Go.Proofs.YtfhmfjcpggddkaaGreatDoor
open Go.RowKit Lh
theorem isFault_told {xs:List ByteArray}{c:Nat}{pl:Int}(h:IsFault xs c pl):c≠7∧c≠9:=by
 rcases h with⟨_,rfl,_⟩|⟨_,i,hi,_,_,⟨_,rfl⟩|⟨_,_,rfl⟩⟩|⟨_,_,rfl,_⟩<;>decide
theorem isFault_pl {xs:List ByteArray}{pl:Int}(h:IsFault xs 0 pl):pl = -1:=by
 rcases h with⟨_,q,_⟩|⟨_,i,hi,_,_,⟨_,q⟩|⟨_,_,q⟩⟩|⟨_,_,_,q⟩
 ·cases q
 ·cases q
 ·cases q
 ·exact q
theorem newS_bad (a:Nat→Addr)(v:Value)(xs:List ByteArray)(x y:Int)(w:World)(c:Nat)(pl:Int)(he:Errs4 a w)(hv:Strs1 w v xs)(hc:c≠0)(hf:IsFault xs c pl)(hs:∀s∈xs,s.size≤300)(hl:xs.length<1000000) :
  Calls Tryz.prog 130 #[v,.int .i64 x,.int .i64 y] w fun e w'=>∃ev,e=.returned (.tuple #[.pointer none,ev])∧ErrIs a w' c pl ev∧Below w.heap.size w w':=by
 have hck:=check_any4 a v xs w c pl he hv.strs hf (fun k h=>Nat.le_trans (hs _ (List.getElem_mem h)) (by decide)) hl
 clear hs hf he hv
 go_enter Tryz.func130,Tryz.ntmps130
 go_wp2_with fail
 refine hck.mono ?_
 rintro e w1 ⟨ev,rfl,hev,hb1⟩
 have HEV:Hid (ErrIs a w1 c pl ev):=hev
 obtain⟨t,z,rfl⟩:=errPos hev hc
 clear hev hck
 go_wp2
 go_ret2
 exact⟨_,rfl,HEV.out,hb1⟩
theorem new_bad_bal (a:Nat→Addr)(v:Value)(xs:List ByteArray)(w:World)(c:Nat)(pl:Int)(he:Errs4 a w)(hv:Strs1 w v xs)(h0:0<xs.length)(hc:c≠0)(hf:IsFault xs c pl)(hs:∀s∈xs,s.size≤300)(hl:xs.length<1000000) :
  Calls Tryz.prog 85 #[v,.int .i64 31,.int .i64 20,.int .i64 2,.int .i64 2] w fun e w'=>∃ev,e=.returned (.tuple #[.pointer none,ev])∧ErrIs a w' c pl ev∧Below w.heap.size w w':=by
 have hck:=newS_bad a v xs 2 2 w c pl he hv hc hf hs hl
 obtain⟨b,o,cp,rfl,_⟩:=strs1_pos hv h0
 have hl0:((xs.length:Int)==0)=false:=by rw[beq_eq_false_iff_ne];omega
 have hl1:¬xs.length=0:=by omega
 clear hs hf he hv
 go_enter Tryz.func85,Tryz.ntmps85
 go_wp2_with fail
 refine hck.mono ?_
 rintro e w1 ⟨ev,rfl,hev,hb1⟩
 have HEV:Hid (ErrIs a w1 c pl ev):=hev
 obtain⟨t,z,rfl⟩:=errPos hev hc
 clear hev hck
 go_wp2
 go_ret2
 exact⟨_,rfl,HEV.out,hb1⟩
theorem PlIs.later {st:Option Sc}{F:Nat→Prop}{p:Nat}{W W':World}(h:PlIs st F p W)(hp:¬F p)(hn:∀S,st=some S→S.hosts≠[])(hb:Below W.heap.size W W'):PlIs st F p W':=by
 rcases h with⟨h1,h2⟩|⟨S,r,g,cap,rfl,h2⟩
 ·exact Or.inl ⟨h1,h2.later hb⟩
 ·exact Or.inr ⟨S,r,g,cap,rfl,h2.later hp (hn S rfl) hb⟩
theorem PlIs.cells {st:Option Sc}{F:Nat→Prop}{p:Nat}{W:World}(h:PlIs st F p W):∃x0 x1 x2,W.cell? ⟨p,0,none⟩=some (.pointer x0)∧W.cell? ⟨p,1,none⟩=some x1∧W.cell? ⟨p,2,none⟩=some (.int .i64 x2):=by
 rcases h with⟨_,h⟩|⟨S,r,g,cap,_,h⟩
 ·exact⟨_,_,_,h.c0,h.c1,h.c2⟩
 ·exact⟨_,_,_,h.c0,h.c1,h.c2⟩
theorem begin_good (w0:World)(a:Nat→Addr)(p q m:Nat)(F:Nat→Prop)(st:Option Sc)(H:List ByteArray)(hb ch:Nat)(W:World)(hP:PlC w0 a p q m F W)(hI:PlIs st F p W)(hh:∀i (hi:i<H.length),W.cell? ⟨hb,i,none⟩=some (.string H[i]))(hc:H.length≤ch)(h0:0<H.length)(hf:IsFault H 0 (-1))(hbl3:p+3<hb) :
  Calls Tryz.prog 32 #[.pointer (some ⟨p,0,none⟩),.slice (some ⟨hb,0,none⟩) H.length ch] W fun e W'=>∃F',e=.returned .nilIface∧PlC w0 a p q m F' W'∧PlIs (some ⟨H,newB H,0⟩) F' p W'∧(∀b,F' b→W.heap.size≤b)∧Tur (fun b=>F b∨b=p) W W':=by
 have hbp:hb≠p:=by omega
 obtain⟨x0,x1,x2,c0,c1,c2⟩:=hI.cells
 have hv:Strs1 W (.slice (some ⟨hb,0,none⟩) H.length ch) H:=Or.inr ⟨hb,0,ch,rfl,hc,fun k hk=>by rw[Nat.zero_add];exact hh k hk⟩
 have hnew:=newG_bal a (.slice (some ⟨hb,0,none⟩) H.length ch) H 31 20 2 2 W hP.ea.b hv h0 hf (fault_facts hf).2.2.2 prm31 (by decide) (by decide) (by decide) (by decide) (by decide) (by decide) (by decide)
 have fz:=hP.fz
 have HP:Hid (PlC w0 a p q m F W):=hP
 have HH:Hid (∀i (hi:i<H.length),W.cell? ⟨hb,i,none⟩=some (.string H[i])):=hh
 have hpl:=hP.pl
 clear hP hI hv hf hh
 go_enter Tryz.func32,Tryz.ntmps32
 go_wp2_with fail
 refine hnew.mono ?_
 rintro e w1 ⟨r,F',rfl,hR,hF,hb1⟩
 have HR:Hid (RepB (newB H) F' r w1):=hR
 have HF:Hid (∀b,F' b→W.heap.size≤b):=hF
 have HB:Hid (Below W.heap.size W w1):=hb1
 have d0:=below_cell hb1 c0
 have d1:=below_cell hb1 c1
 have d2:=below_cell hb1 c2
 have e0:w1.frozen? ⟨p,0,none⟩=false:=(World.frozen?_of_block (w:=W) (w':=w1) (a:=⟨p,0,none⟩) (hb1.block p hpl)).trans (fz 0)
 have e1:w1.frozen? ⟨p,1,none⟩=false:=(World.frozen?_of_block (w:=W) (w':=w1) (a:=⟨p,1,none⟩) (hb1.block p hpl)).trans (fz 1)
 have e2:w1.frozen? ⟨p,2,none⟩=false:=(World.frozen?_of_block (w:=W) (w':=w1) (a:=⟨p,2,none⟩) (hb1.block p hpl)).trans (fz 2)
 clear hnew hR hF hb1 c0 c1 c2 fz
 go_wp2
 go_ret
 have hT:Tur (fun b=>b=p) w1 (((w1.setCell ⟨p,0,none⟩ (.pointer (some ⟨r,0,none⟩))).setCell ⟨p,1,none⟩ (.slice (some ⟨hb,0,none⟩) H.length ch)).setCell ⟨p,2,none⟩ (.int .i64 0)):=((tur_setP _ p 0 _).trans (tur_setP _ p 1 _) fun b hb=>Or.inl hb).trans (tur_setP _ p 2 _) fun b hb=>Or.inl hb
 have hT2:Tur (fun b=>F b∨b=p) w1 (((w1.setCell ⟨p,0,none⟩ (.pointer (some ⟨r,0,none⟩))).setCell ⟨p,1,none⟩ (.slice (some ⟨hb,0,none⟩) H.length ch)).setCell ⟨p,2,none⟩ (.int .i64 0)):=hT.wideP fun b hb=>Or.inr hb
 have hP1:=HP.out.later HB.out
 have hFT:Tur (fun b=>F b∨b=p) W (((w1.setCell ⟨p,0,none⟩ (.pointer (some ⟨r,0,none⟩))).setCell ⟨p,1,none⟩ (.slice (some ⟨hb,0,none⟩) H.length ch)).setCell ⟨p,2,none⟩ (.int .i64 0)):=(Tur.of_below HB.out).trans hT2 fun b hb=>Or.inl hb
 have hbl:hb<W.heap.size:=World.block_lt_of_cell? W _ (HH.out 0 h0)
 have hpF':¬F' p:=fun h=>by have:=HF.out p h;omega
 refine⟨F',rfl,HP.out.tur hFT (fun b h=>Or.inr (HF.out b h)) (fun k=>?_),Or.inr ⟨_,r,hb,ch,rfl,?_⟩,HF.out,hFT⟩
 ·rw[World.frozen?_setCell,World.frozen?_setCell,World.frozen?_setCell]
  exact hP1.fz k
 ·refine⟨?_,?_,?_,HR.out.stay fun b hf=>hT.block b (HR.out.lt b hf) fun e=>hpF' (e ▸ hf),fun i hi=>foot_cellS hT hbp (below_cell HB.out (HH.out i hi)),hc,fun h=>by have:=HF.out hb h;omega,hbp,hbl3⟩
  ·rw[World.cell?_setCell_other _ _ _ _ (by simp),World.cell?_setCell_other _ _ _ _ (by simp)]
   exact World.cell?_setCell_same' _ _ _ (by rw[d0];rfl)
  ·rw[World.cell?_setCell_other _ _ _ _ (by simp)]
   exact World.cell?_setCell_same' _ _ _ (by rw[World.cell?_setCell_other _ _ _ _ (by simp),d1];rfl)
  ·exact World.cell?_setCell_same' _ _ _ (by rw[World.cell?_setCell_other _ _ _ _ (by simp),World.cell?_setCell_other _ _ _ _ (by simp),d2];rfl)
theorem begin_bad (a:Nat→Addr)(p:Nat)(H:List ByteArray)(hb ch:Nat)(W:World)(he:Errs4 a W)(hh:∀i (hi:i<H.length),W.cell? ⟨hb,i,none⟩=some (.string H[i]))(hc:H.length≤ch)(h0:0<H.length)(hl:H.length<1000000)(hs:∀s∈H,s.size≤300)(c:Nat)(pl:Int)(hf:IsFault H c pl)(hc0:c≠0) :
  Calls Tryz.prog 32 #[.pointer (some ⟨p,0,none⟩),.slice (some ⟨hb,0,none⟩) H.length ch] W fun e W'=>∃ev,e=.returned ev∧ErrIs a W' c pl ev∧Below W.heap.size W W':=by
 have hv:Strs1 W (.slice (some ⟨hb,0,none⟩) H.length ch) H:=Or.inr ⟨hb,0,ch,rfl,hc,fun k hk=>by rw[Nat.zero_add];exact hh k hk⟩
 have hnew:=new_bad_bal a _ H W c pl he hv h0 hc0 hf hs hl
 clear hv hf hh hs
 go_enter Tryz.func32,Tryz.ntmps32
 go_wp2_with fail
 refine hnew.mono ?_
 rintro e w1 ⟨ev,rfl,hev,hb1⟩
 have HEV:Hid (ErrIs a w1 c pl ev):=hev
 obtain⟨t,z,rfl⟩:=errPos hev hc0
 clear hev hnew
 go_wp2
 go_ret
 exact⟨_,rfl,HEV.out,hb1⟩
theorem cl_hosts (w0:World)(a:Nat→Addr)(p q m:Nat)(F:Nat→Prop)(st:Option Sc)(H:List ByteArray)(vn:Value)(hb ch:Nat)(W:World)(hP:PlC w0 a p q m F W)(hI:PlIs st F p W)(hst:∀S,st=some S→S.hosts≠[])(hvn:∃x n c,vn=.slice x n c)(hh:∀i (hi:i<H.length),W.cell? ⟨hb,i,none⟩=some (.string H[i]))(hc:H.length≤ch)(h0:0<H.length)(hl:H.length<1000000)(hs:∀s∈H,s.size≤300)(hbl3:p+3<hb) :
  Calls Tryz.prog 31 #[.agg #[vn,.slice (some ⟨hb,0,none⟩) H.length ch],.pointer (some ⟨q,0,none⟩)] W (CmdE w0 a p q m F st ⟨wHosts,H,[]⟩ W):=by
 obtain⟨ux,ul,uc,rfl⟩:=hvn
 obtain⟨c,pl,hf⟩:=isFault_ex H
 have hpF:¬F p:=fun h=>(hP.F0 p h).2.1 rfl
 obtain⟨wa,hwa⟩:∃wa,wa=W.alloc (.cells #[.slice ux ul uc,.slice (some ⟨hb,0,none⟩) H.length ch] 83):=⟨_,rfl⟩
 have hba:Below W.heap.size W wa:=by rw[hwa];exact (Below.refl _ _).alloc (Nat.le_refl _) _
 have hPa:=hP.later hba
 have hIa:=hI.later hpF hst hba
 have kqW:=hPa.q0
 rw[hwa] at kqW
 have hha:∀i (hi:i<H.length),wa.cell? ⟨hb,i,none⟩=some (.string H[i]):=fun i hi=>below_cell hba (hh i hi)
 by_cases hc0:c=0
 ·subst hc0
  obtain rfl:=isFault_pl hf
  have hbg:=begin_good w0 a p q m F st H hb ch wa hPa hIa hha hc h0 hf hbl3
  have HEND:Hid (∀F' w',PlC w0 a p q m F' w'→PlIs (some ⟨H,newB H,0⟩) F' p w'→(∀b,F' b→wa.heap.size≤b)→Tur (fun b=>F b∨b=p) wa w'→CmdE w0 a p q m F st ⟨wHosts,H,[]⟩ W (.returned (.tuple #[.string ⟨#[111,107]⟩,.nilIface])) w'):=fun F' w' q1 q2 q3 q4 =>
   ⟨_,F',tOk,Or.inl ⟨rfl,0,-1,hf,Or.inr ⟨rfl,rfl,rfl⟩⟩,ansE_ok rfl,q1,q2,fun b hb=>Or.inr (Nat.le_trans hba.size (q3 b hb)),(Tur.of_below hba).trans q4 fun b hb=>Or.inl hb⟩
  clear hP hI hPa hIa hh hha hf hs hba
  go_enter Tryz.func31,Tryz.ntmps31
  go_wp2_with fail
  rw[←hwa]
  clear hwa kqW
  refine hbg.mono ?_
  rintro e w1 ⟨F',rfl,q1,q2,q3,q4⟩
  have HE:=HEND.out F' w1 q1 q2 q3 q4
  have HE1:Hid (CmdE w0 a p q m F st ⟨wHosts,H,[]⟩ W (.returned (.tuple #[.string ⟨#[111,107]⟩,.nilIface])) w1):=HE
  clear hbg HEND q1 q2 q3 q4 HE
  go_wp2
  go_ret2
  exact HE1.out
 ·have hbg:=begin_bad a p H hb ch wa hPa.ea.e4 hha hc h0 hl hs c pl hf hc0
  have HEND:Hid (∀ev w',ErrIs a w' c pl ev→Below wa.heap.size wa w'→CmdE w0 a p q m F st ⟨wHosts,H,[]⟩ W (.returned (.tuple #[.string ⟨#[111,107]⟩,ev])) w'):=fun ev w' q1 q2=>by
   obtain⟨y7,y9⟩:=isFault_told hf
   exact⟨st,F,_,Or.inl ⟨rfl,c,pl,hf,Or.inl ⟨hc0,rfl,rfl⟩⟩,ansE_err q1 hc0 (errTold (isFault_le hf) y7 y9),hPa.later q2,hIa.later hpF hst q2,fun b h=>Or.inl h,Tur.of_below (below_then hba q2)⟩
  clear hP hI hPa hIa hh hha hf hs hba
  go_enter Tryz.func31,Tryz.ntmps31
  go_wp2_with fail
  rw[←hwa]
  clear hwa kqW
  refine hbg.mono ?_
  rintro e w1 ⟨ev,rfl,q1,q2⟩
  have HE1:Hid (CmdE w0 a p q m F st ⟨wHosts,H,[]⟩ W (.returned (.tuple #[.string ⟨#[111,107]⟩,ev])) w1):=HEND.out ev w1 q1 q2
  clear hbg HEND q1 q2
  go_wp2
  go_ret2
  exact HE1.out
end Go.Proofs.YtfhmfjcpggddkaaGreatDoor
namespace Go.Proofs.YtfhmfjcpggddkaaGreatDoor
open Go.RowKit
theorem moves_bad15 (a:Nat→Addr)(va vb:Value)(xs:List ByteArray)(n:Int)(w:World)(c:Nat)(pl:Int)(he:Errs5 a w)(hv:Strs1 w va xs)(hf:TabFault xs n c pl)(hc:c≠0)(hn:-9223372036854775808≤n∧n≤9223372036854775807)(hsz:∀k (h:k<xs.length),(xs[k]).size≤1000000)(hm:xs.length<1000000) :
  Calls Tryz.prog 37 #[va,vb,.int .i64 n] w fun e w'=>∃ev,e=.returned (.tuple #[.int .i64 0,ev])∧ErrIs a w' c pl ev∧Below w.heap.size w w':=by
 have hmk:=make_bad5 a va xs n w c pl he hv hf hc hn hsz hm
 clear he hv hf hsz
 go_enter Tryz.func37,Tryz.ntmps37
 go_wp2_with fail
 refine hmk.mono ?_
 rintro e w1 ⟨ev,rfl,hev,hb1⟩
 have HEV:Hid (ErrIs a w1 c pl ev):=hev
 obtain⟨t,x,rfl⟩:=errIs_pos hev hc
 clear hev hmk
 go_wp2
 go_ret2
 exact⟨_,rfl,HEV.out,hb1⟩
theorem moves_bad25 (a:Nat→Addr)(va vb:Value)(xs ys:List ByteArray)(n:Nat)(w:World)(c:Nat)(pl:Int)(he:Errs5 a w)(hv:Strs1 w va xs)(hv2:Strs1 w vb ys)(h0:0<xs.length)(hf1:IsFault xs 0 (-1))(hp:Lh.Prm n)(h5:n≤503)(hsz1:∀k (h:k<xs.length),(xs[k]).size≤300)(hf:TabFault ys n c pl)(hc:c≠0)(hsz:∀k (h:k<ys.length),(ys[k]).size≤1000000)(hm:ys.length<1000000) :
  Calls Tryz.prog 37 #[va,vb,.int .i64 n] w fun e w'=>∃ev,e=.returned (.tuple #[.int .i64 0,ev])∧ErrIs a w' c pl ev∧Below w.heap.size w w':=by
 have hmk:=make_good5 a va xs n w he hv h0 hf1 hsz1 hp h5
 have HMK2:Hid (∀W,Below w.heap.size w W→Calls Tryz.prog 86 #[vb,.int .i64 n] W fun e w'=>∃ev,e=.returned (.tuple #[.slice none 0 0,ev])∧ErrIs a w' c pl ev∧Below W.heap.size W w'):=fun W hW=>make_bad5 a vb ys n W c pl (he.later hW) (hv2.later hW) hf hc (by omega) hsz hm
 clear he hv hv2 hf hsz hf1 hsz1 hp
 go_enter Tryz.func37,Tryz.ntmps37
 go_wp2_with fail
 refine hmk.mono ?_
 rintro e w1 ⟨g1,rfl,hg1,hr1,hb1⟩
 clear hr1 hmk
 go_wp2_with fail
 refine (HMK2.out w1 hb1).mono ?_
 rintro e w2 ⟨ev,rfl,hev,hb2⟩
 have HEV:Hid (ErrIs a w2 c pl ev):=hev
 obtain⟨t,x,rfl⟩:=errIs_pos hev hc
 clear hev
 go_wp2
 go_ret2
 exact⟨_,rfl,HEV.out,below_then hb1 hb2⟩
theorem moves_good5 (a:Nat→Addr)(va vb:Value)(xs ys:List ByteArray)(n:Nat)(w:World)(he:Errs5 a w)(hv:Strs1 w va xs)(hv2:Strs1 w vb ys)(h0:0<xs.length)(h0':0<ys.length)(hf1:IsFault xs 0 (-1))(hf2:IsFault ys 0 (-1))(hp:Lh.Prm n)(h5:n≤503)(hsz1:∀k (h:k<xs.length),(xs[k]).size≤300)(hsz2:∀k (h:k<ys.length),(ys[k]).size≤300) :
  Calls Tryz.prog 37 #[va,vb,.int .i64 n] w fun e w'=>e=.returned (.tuple #[.int .i64 (mv xs ys n n:Nat),.nilIface])∧Below w.heap.size w w':=by
 have hmk:=make_good5 a va xs n w he hv h0 hf1 hsz1 hp h5
 have HMK2:Hid (∀W,Below w.heap.size w W→Calls Tryz.prog 86 #[vb,.int .i64 n] W fun e w'=>∃g,e=.returned (.tuple #[.slice (some ⟨g,0,none⟩) n n,.nilIface])∧W.heap.size≤g∧IntRow w' g (Lh.tab ys n n)∧Below W.heap.size W w'):=fun W hW=>make_good5 a vb ys n W (he.later hW) (hv2.later hW) h0' hf2 hsz2 hp h5
 have HP:Hid (Lh.Prm n):=hp
 obtain⟨_,h12,_⟩:=fault_zero hf1
 obtain⟨_,h12',_⟩:=fault_zero hf2
 obtain⟨b1,o1,c1,rfl,hx⟩:=strs1_pos hv h0
 obtain⟨b2,o2,c2,rfl,hy⟩:=strs1_pos hv2 h0'
 have HX:Hid (∀k (h:k<xs.length),w.cell? ⟨b1,o1+k,none⟩=some (.string xs[k])):=hx
 have HY:Hid (∀k (h:k<ys.length),w.cell? ⟨b2,o2+k,none⟩=some (.string ys[k])):=hy
 clear he hv hv2 hf1 hf2 hsz1 hsz2 hp hx hy
 go_enter Tryz.func37,Tryz.ntmps37
 go_wp2_with fail
 refine hmk.mono ?_
 rintro e w1 ⟨g1,rfl,hg1,hr1,hb1⟩
 have HR1:Hid (IntRow w1 g1 (Lh.tab xs n n)):=hr1
 clear hr1 hmk
 go_wp2_with fail
 refine (HMK2.out w1 hb1).mono ?_
 rintro e w2 ⟨g2,rfl,hg2,hr2,hb2⟩
 have HS1:Hid (∀W,Below w2.heap.size w2 W→∀i,i<n→∃j,∃hj:j<xs.length,W.cell? ⟨g1,i,none⟩=some (.int .i64 (j:Nat))∧xs[j]=owner xs n i):=fun W hW i hi=>slot_of HP.out h0 ((HR1.out.later hb2).later hW) hi
 have HS2:Hid (∀W,Below w2.heap.size w2 W→∀i,i<n→∃j,∃hj:j<ys.length,W.cell? ⟨g2,i,none⟩=some (.int .i64 (j:Nat))∧ys[j]=owner ys n i):=fun W hW i hi=>slot_of HP.out h0' (hr2.later hW) hi
 have HB:Hid (Below w.heap.size w w2):=below_then hb1 hb2
 clear hr2 HMK2 HR1 hb1 hb2
 go_wp2_with fail
 go_loopw [11,32] (fun vm t W=>Below w2.heap.size w2 W∧∃i:Nat,i≤n∧t=.int .i64 i∧vm=.int .i64 (mv xs ys n i:Nat)) (fun _ t _=>n - (intOf t).toNat)
 case atStart=>exact⟨Below.refl _ _,0,Nat.zero_le _,rfl,rfl⟩
 case round =>
  obtain⟨hb,i,hi,rfl,rfl⟩:=hrel
  by_cases hlt:i<n
  ·obtain⟨j1,hj1,c1',e1⟩:=HS1.out wr hb i hlt
   obtain⟨j2,hj2,c2',e2⟩:=HS2.out wr hb i hlt
   have d1:=below_cell (below_then HB.out hb) (HX.out j1 hj1)
   have d2:=below_cell (below_then HB.out hb) (HY.out j2 hj2)
   have hii:(i:Int)<(n:Int):=by omega
   have hj1i:(j1:Int)<(xs.length:Int):=by omega
   have hj2i:(j2:Int)<(ys.length:Int):=by omega
   have hmle:=mv_le xs ys n i
   have hd:decide ((i:Int)<(n:Int))=true:=by simp;omega
   rw[e1] at d1
   rw[e2] at d2
   by_cases heq:owner xs n i=owner ys n i
   ·have HM:Hid (mv xs ys n (i+1)=mv xs ys n i):=mv_same heq
    have hne:((owner xs n i).toList != (owner ys n i).toList)=false:=by rw[heq];simp
    have hne2:((owner xs n i).toList==(owner ys n i).toList)=true:=bytes_same heq
    clear heq e1 e2
    generalize owner xs n i=s1 at *
    generalize owner ys n i=s2 at *
    generalize mv xs ys n i=q at *
    go_wp2_with fail
    go_quiet (fail)
    go_wp2_with fail
    go_roundw
    case rel=>exact⟨below_drewN hb nq,i+1,by omega,by go_num,by rw[HM.out]⟩
    case measure=>simp[intOf];omega
   ·have HM:Hid (mv xs ys n (i+1)=mv xs ys n i+1):=mv_other heq
    have hne2:((owner xs n i).toList==(owner ys n i).toList)=false:=bytes_parts heq
    have hne:((owner xs n i).toList != (owner ys n i).toList)=true:=by unfold bne;rw[hne2];rfl
    clear heq e1 e2
    generalize owner xs n i=s1 at *
    generalize owner ys n i=s2 at *
    generalize mv xs ys n i=q at *
    go_wp2_with fail
    go_quiet (fail)
    go_wp2_with fail
    go_roundw
    case rel=>exact⟨below_drewN hb nq,i+1,by omega,by go_num,by rw[HM.out];rfl⟩
    case measure=>simp[intOf];omega
  ·have hd:decide ((i:Int)<(n:Int))=false:=by simp;omega
   have hie:i=n:=by omega
   subst hie
   go_wp2
   go_ret2
   exact⟨rfl,below_then HB.out hb⟩
structure Errs1 (a:Nat→Addr)(w:World):Prop where
 s1:w.cell? ⟨0,0,none⟩=some (.iface 378 (.pointer (some (a 1))))
theorem jk_wrap (k:Nat):IntKind.u64.wrap (IntKind.u64.wrap ((k:Int)*2862933555777941757)+1)=((Lh.jk k:Nat):Int):=by
 unfold Lh.jk
 simp[IntKind.wrap,IntKind.bits,IntKind.signed]
theorem jnext_any (k b:Nat)(w:World)(hb:b≤1048576) :
  Calls Tryz.prog 151 #[.int .u64 (k:Nat),.int .u64 (b:Nat)] w fun e w'=>e=.returned (.tuple #[.int .u64 (Lh.jk k:Nat),.int .u64 (Lh.jn (Lh.jk k) b:Nat)])∧Below w.heap.size w w':=by
 go_enter Tryz.func151,Tryz.ntmps151
 go_wp2
 rw[jk_wrap]
 have hq:=Lh.jk_lt k
 obtain⟨q,hqe⟩:∃q,Lh.jk k=q:=⟨_,rfl⟩
 rw[hqe] at hq
 rw[hqe]
 have HQ:Hid (Lh.jk k=q):=hqe
 clear hqe
 have e1:IntKind.u64.wrap ((b:Int)+1)=(b:Int)+1:=by rw[IntKind.wrap_u64];omega
 have e2:IntKind.u64.wrap (((b:Int)+1)*2147483648)=((b:Int)+1)*2147483648:=by rw[IntKind.wrap_u64];omega
 have e3:IntKind.u64.wrap ((q:Int) / 8589934592+1)=(q:Int) / 8589934592+1:=by rw[IntKind.wrap_u64];omega
 have e4:((q:Int) / 8589934592+1==0)=false:=by rw[beq_eq_false_iff_ne];omega
 go_quiet (fail)
 go_wp2
 go_ret2
 refine⟨?_,below_drewN (Below.refl _ _) nq⟩
 rw[HQ.out]
 unfold Lh.jn
 simp
theorem last_core (K A:Nat→Nat)(n m:Nat)(w:World)(hn:n≤1048576)(h0:A 0=0)(h1:∀t,t<m→A t<n)(h2:n≤A m)(hr:∀t,A t+1≤A (t+1))
  (hnx:∀t W,t<m→Calls Tryz.prog 151 #[.int .u64 (K t:Nat),.int .u64 (A t:Nat)] W fun e w'=>e=.returned (.tuple #[.int .u64 (K (t+1):Nat),.int .u64 (A (t+1):Nat)])∧Below W.heap.size W w') :
  Calls Tryz.prog 96 #[.int .u64 (K 0:Nat),.int .i64 (n:Nat)] w fun e w'=>e=.returned (.int .i64 (A (m - 1):Nat))∧Below w.heap.size w w':=by
 have H1:Hid (∀t,t<m→A t<n):=h1
 have H2:Hid (n≤A m):=h2
 have HR:Hid (∀t,A t+1≤A (t+1)):=hr
 have HN:Hid (∀t W,t<m→Calls Tryz.prog 151 #[.int .u64 (K t:Nat),.int .u64 (A t:Nat)] W fun e w'=>e=.returned (.tuple #[.int .u64 (K (t+1):Nat),.int .u64 (A (t+1):Nat)])∧Below W.heap.size W w'):=hnx
 have H0:Hid (A 0=0):=h0
 clear h0 h1 h2 hr hnx
 go_enter Tryz.func96,Tryz.ntmps96
 go_wp2_with fail
 go_loopw [0,5,6] (fun ky bk a W=>Below w.heap.size w W∧∃t:Nat,t≤m∧ky=.int .u64 (K t:Nat)∧bk=.int .u64 (A (t - 1):Nat)∧a=.int .u64 (A t:Nat)) (fun _ _ a _=>n - (intOf a).toNat)
 case atStart=>exact⟨Below.refl _ _,0,Nat.zero_le _,rfl,by rw[H0.out];rfl,by rw[H0.out];rfl⟩
 case round =>
  obtain⟨hb,t,ht,rfl,rfl,rfl⟩:=hrel
  by_cases hlt:t<m
  ·have hal:=H1.out t hlt
   have hd:decide (A t<n)=true:=by simpa using hal
   have hrt:=HR.out t
   go_wp2_with fail
   refine (HN.out t _ hlt).mono ?_
   rintro e w1 ⟨rfl,hb1⟩
   go_wp2_with fail
   refine⟨⟨below_then hb hb1,t+1,by omega,rfl,rfl,rfl⟩,?_⟩
   simp[intOf]
   omega
  ·obtain rfl:t=m:=by omega
   have h2:=H2.out
   have hd:decide (A t<n)=false:=by simpa using h2
   have hfin:A (t - 1)≤1048576:=by
    cases t with
    | zero=>have:=H0.out;simp;omega
    | succ t=>have:=H1.out t (by omega);simp;omega
   clear h2
   go_wp2
   go_ret
   exact⟨rfl,hb⟩
theorem from_true (x y:Int)(w:World)(h1:1≤x)(h2:x≤y) :
  Calls Tryz.prog 95 #[.int .i64 x,.int .i64 y] w fun e w'=>e=.returned (.bool true)∧w'=w:=by
 have d1:decide (1≤x)=true:=by simpa using h1
 have d2:decide (x≤y)=true:=by simpa using h2
 clear h1 h2
 go_enter Tryz.func95,Tryz.ntmps95
 go_wp2
 go_ret
 exact⟨rfl,rfl⟩
theorem from_false (x y:Int)(w:World)(h:x<1∨y<x) :
  Calls Tryz.prog 95 #[.int .i64 x,.int .i64 y] w fun e w'=>e=.returned (.bool false)∧w'=w:=by
 by_cases h1:x<1
 ·have d1:decide (1≤x)=false:=by simp;omega
  clear h h1
  go_enter Tryz.func95,Tryz.ntmps95
  go_wp2
  go_ret
  exact⟨rfl,rfl⟩
 ·have d1:decide (1≤x)=true:=by simp;omega
  have d2:decide (x≤y)=false:=by simp;omega
  clear h h1
  go_enter Tryz.func95,Tryz.ntmps95
  go_wp2
  go_ret
  exact⟨rfl,rfl⟩
theorem last_any (k n:Nat)(w:World)(hn1:1≤n)(hn:n≤1048576) :
  Calls Tryz.prog 96 #[.int .u64 (k:Nat),.int .i64 (n:Nat)] w fun e w'=>e=.returned (.int .i64 (Lh.jb k n:Nat))∧Below w.heap.size w w' :=
 last_core (Lh.jky k) (Lh.jat k) n (Lh.jlen k n) w hn (Lh.jat_zero k) (fun _ h=>Lh.jlen_below.1 h) (Lh.jlen_spec k n).2 (Lh.jat_rise k)
  (fun t W h=>jnext_any (Lh.jky k t) (Lh.jat k t) W (by have:=Lh.jlen_below.1 h;omega))
theorem bucket_bad (a:Nat→Addr)(k:Nat)(x:Int)(w:World)(he:Errs1 a w)(h:x<1∨1048576<x) :
  Calls Tryz.prog 44 #[.int .u64 (k:Nat),.int .i64 x] w fun e w'=>e=.returned (.tuple #[.int .i64 0,.iface 378 (.pointer (some (a 1)))])∧Below w.heap.size w w':=by
 have s1:=he.s1
 go_enter Tryz.func44,Tryz.ntmps44
 go_wp2_with fail
 refine (from_false x 1048576 _ h).mono ?_
 rintro e w' ⟨rfl,rfl⟩
 clear h
 go_wp2_with fail
 go_quiet (fail)
 go_wp2
 go_ret2
 exact⟨rfl,below_drewN (Below.refl _ _) nq⟩
theorem bucket_good (k n:Nat)(w:World)(hn1:1≤n)(hn:n≤1048576) :
  Calls Tryz.prog 44 #[.int .u64 (k:Nat),.int .i64 (n:Nat)] w fun e w'=>e=.returned (.tuple #[.int .i64 (Lh.jb k n:Nat),.nilIface])∧Below w.heap.size w w':=by
 go_enter Tryz.func44,Tryz.ntmps44
 go_wp2_with fail
 refine (from_true (n:Nat) 1048576 _ (by omega) (by omega)).mono ?_
 rintro e w' ⟨rfl,rfl⟩
 go_wp2_with fail
 refine (last_any k n _ hn1 hn).mono ?_
 rintro e w1 ⟨rfl,hb1⟩
 go_wp2
 go_ret2
 exact⟨rfl,hb1⟩
end Go.Proofs.YtfhmfjcpggddkaaGreatDoor
namespace Go.Proofs.YtfhmfjcpggddkaaGreatDoor
open Go.RowKit Go.Sort
def encP (p:Lh.Pt):List Value:=[.int .u64 (p.1:Nat),.string p.2]
def flatP (P:List Lh.Pt):List Value:=P.flatMap encP
theorem flatP_snoc (P:List Lh.Pt)(p:Lh.Pt):flatP (P++[p])=flatP P++encP p:=by simp[flatP,List.flatMap_append]
theorem flatP_get (P:List Lh.Pt):∀i (h:i<P.length),(flatP P)[i*2]?=some (.int .u64 (P[i].1:Nat))∧(flatP P)[i*2+1]?=some (.string P[i].2):=by
 induction P with
 | nil=>intro i h;cases h
 | cons p P ih =>
  intro i h
  have e:flatP (p :: P)=.int .u64 (p.1:Nat) :: .string p.2 :: flatP P:=rfl
  rw[e]
  match i,h with
  | 0,_=>exact⟨rfl,rfl⟩
  | i+1,h =>
   have:=ih i (by simpa using h)
   rw[show (i+1)*2=i*2+1+1 by omega]
   simpa using this
theorem encP_one (p:Lh.Pt):∀v∈encP p,v.oneCell'=true:=by
 intro v hv
 simp[encP] at hv
 rcases hv with rfl|rfl<;>rfl
def PtsAt (W:World)(blk:Nat)(P:List Lh.Pt):Prop:=∀i (h:i<P.length),W.cell? ⟨blk,i*2,none⟩=some (.int .u64 (P[i].1:Nat))∧W.cell? ⟨blk,i*2+1,none⟩=some (.string P[i].2)
theorem PtsAt.later {W W':World}{blk:Nat}{P:List Lh.Pt}(h:PtsAt W blk P)(hb:Below W.heap.size W W'):PtsAt W' blk P:=fun i hi=>⟨below_cell hb (h i hi).1,below_cell hb (h i hi).2⟩
theorem pts_of_owns {w:World}{base:Nat}{v:Value}{e:TypeId}{P:List Lh.Pt}(h:w.ownsRow base e 2 v P.length (flatP P))(h0:0<P.length):∃g cap,v=.slice (some ⟨g,0,none⟩) P.length cap∧base≤g∧g<w.heap.size∧P.length≤cap∧PtsAt w g P∧∀k,w.frozen? ⟨g,k,none⟩=false:=by
 obtain⟨hl,⟨rfl,h'⟩|⟨g,cap,cur,rfl,hbase,hb,hn,hm,hsz,ht⟩⟩:=h
 ·omega
 ·have hlt:g<w.heap.size:=(Array.getElem?_eq_some_iff.1 hb).1
  refine⟨g,cap,rfl,hbase,hlt,hn,fun i hi=>?_,fun k=>by simp[World.frozen?,hb]⟩
  obtain⟨h1,h2⟩:=flatP_get P i hi
  rw[←ht] at h1 h2
  rw[List.getElem?_take_of_lt (by omega)] at h1 h2
  simp only[World.cell?,hb]
  exact⟨by simpa using h1,by simpa using h2⟩
theorem holds_of_pts {w:World}{g:Nat}{P:List Lh.Pt}(h:PtsAt w g P)(hf:∀k,w.frozen? ⟨g,k,none⟩=false):HoldsK encP 2 w g 0 P.toArray:=by
 intro t ht
 have ht':t<P.length*2:=by simpa using ht
 have hi:t / 2<P.length:=by omega
 refine⟨?_,hf _⟩
 rw[get_flatK _ _ _ _ (by simpa using ht')]
 have e:(P.toArray[t / 2]!)=P[t / 2]:=by simp[hi]
 rw[e]
 obtain⟨h1,h2⟩:=h (t / 2) hi
 rcases Nat.mod_two_eq_zero_or_one t with hm|hm
 ·rw[hm,show 0+t=t / 2*2 by omega,h1]
  rfl
 ·rw[hm,show 0+t=t / 2*2+1 by omega,h2]
  rfl
theorem pts_of_holds {w:World}{g:Nat}{P:List Lh.Pt}(h:HoldsK encP 2 w g 0 P.toArray):PtsAt w g P:=by
 intro i hi
 have h1:=(h.cell (i:=i) (c:=0) (by simpa using hi) (by omega)).1
 have h2:=(h.cell (i:=i) (c:=1) (by simpa using hi) (by omega)).1
 have e:(P.toArray[i]!)=P[i]:=by simp[hi]
 rw[e] at h1 h2
 simp only[Nat.zero_add,Nat.add_zero] at h1 h2
 exact⟨h1,h2⟩
theorem grownBy_sortedP {w:World}{g n:Nat}{os:Array Obj}(d:Array Lh.Pt):w.grownBy (sortWorldK encP 2 w g 0 n d os) (some g):=by
 unfold sortWorldK putRowK
 refine⟨rfl,rfl,rfl,by simp,fun k hk hne=>?_⟩
 rw[heap_grow_old _ _ (by simpa using hk)]
 have:g≠k:=fun e=>hne (by rw[e])
 simp[putRow,mapBlock,Sort.ahead,Array.getElem?_modify,this]
theorem sorted_holds {w:World}{g n:Nat}{os:Array Obj}{d0 d:Array Lh.Pt}(hg:g<w.heap.size)(h:HoldsK encP 2 w g 0 d0)(hs:d.size=d0.size):HoldsK encP 2 (sortWorldK encP 2 w g 0 n d os) g 0 d:=by
 unfold sortWorldK
 exact holdsK_grow _ _ _ _ _ _ _ (by simp[putRowK,putRow,mapBlock,Sort.ahead];exact hg) (holdsK_putRowK _ _ _ _ _ d0 d h hs)
/- the order of the sort -/
theorem ltP_iff (x y:Lh.Pt):ltOf cfP x y=true↔x.1<y.1∨(x.1=y.1∧Lh.bl x.2<Lh.bl y.2):=by
 unfold ltOf cfP
 by_cases h1:x.1<y.1
 ·simp[h1]
 ·by_cases h2:y.1<x.1
  ·simp[h1,h2];omega
  ·have e:x.1=y.1:=by omega
   by_cases h3:Lh.bl x.2<Lh.bl y.2
   ·simp[e,h3]
   ·by_cases h4:Lh.bl y.2<Lh.bl x.2<;>simp[e,h3,h4]
theorem ltP_false (x y:Lh.Pt):ltOf cfP x y=false↔Lh.leF 0 y x:=by
 rw[←Bool.not_eq_true,ltP_iff]
 unfold Lh.leF
 constructor
 ·intro h
  refine⟨fun h=>absurd h (by omega),fun _=>⟨?_,fun e=>?_⟩⟩
  ·exact Nat.le_of_not_lt fun h'=>h (Or.inl h')
  ·exact List.not_lt.1 fun h'=>h (Or.inr ⟨e.symm,h'⟩)
 ·rintro ⟨_,h⟩ h'
  obtain⟨h1,h2⟩:=h (fun h=>absurd h (by omega))
  rcases h' with h'|⟨e,h'⟩
  ·omega
  ·exact List.not_lt.2 (h2 e.symm) h'
theorem swoP:SWO (ltOf cfP) where
 irrefl x:=(ltP_false x x).2 (Lh.leF_refl 0 x)
 trans x y z h1 h2:=by
  rw[ltP_iff] at *
  rcases h1 with h1|⟨e1,h1⟩<;>rcases h2 with h2|⟨e2,h2⟩
  ·exact Or.inl (by omega)
  ·exact Or.inl (by omega)
  ·exact Or.inl (by omega)
  ·exact Or.inr ⟨by omega,List.lt_trans h1 h2⟩
 ntrans x y z h1 h2:=by
  rw[ltP_false] at *
  exact Lh.leF_trans h2 h1
theorem sortedP {P:List Lh.Pt}{d':Array Lh.Pt}(hp:PermIn 0 P.toArray.size P.toArray d')(hs:SortedIn (ltOf cfP) 0 P.toArray.size d'):d'.toList.Perm P∧d'.toList.Pairwise (Lh.leF 0):=by
 have hT:∀x y,ltOf cfP x y=false→ltOf cfP y x=false→x=y:=fun x y h1 h2=>Lh.leF_antisymm ((ltP_false y x).1 h2) ((ltP_false x y).1 h1)
 have e:=sorted_unique_holds swoP hT P.toArray d' hp hs
 rw[e]
 refine⟨List.mergeSort_perm _ _,?_⟩
 have:=List.pairwise_mergeSort (le:=fun x y=>!(ltOf cfP) y x) (fun a b c h k=>by
  simp only[Bool.not_eq_eq_eq_not,Bool.not_true] at h k ⊢
  rw[ltP_false] at *
  exact Lh.leF_trans h k) (fun a b=>by
  by_cases h:ltOf cfP b a=false
  ·simp[h]
  ·have h':ltOf cfP b a=true:=by simpa using h
   have h2:ltOf cfP a b=false:=by
    rw[←Bool.not_eq_true]
    intro h3
    have:=swoP.trans _ _ _ h' h3
    rw[swoP.irrefl] at this
    cases this
   simp[h2]) P
 refine this.imp fun {a b} h=>?_
 simp only[Bool.not_eq_eq_eq_not,Bool.not_true] at h
 exact (ltP_false b a).1 h
end Go.Proofs.YtfhmfjcpggddkaaGreatDoor
namespace Go.Proofs.YtfhmfjcpggddkaaGreatDoor
open Go.RowKit Go.Sort Go.Shelf Go.Lib
theorem closure0 (a1 b1:Nat)(a2 b2:ByteArray)(W:World):Calls Tryz.prog 140 #[.agg #[.int .u64 a1,.string a2],.agg #[.int .u64 b1,.string b2]] W fun e w'=>e=.returned (.int .i64 (if cmpU a1 b1=0 then cmpS a2 b2 else cmpU a1 b1))∧∃q os',w'=grow (W.drewN q) os':=by
 have hU:=fun W'=>compareU a1 b1 W'
 have hS:=fun W'=>compareS a2 b2 W'
 generalize cmpU a1 b1=u at *
 generalize cmpS a2 b2=v at *
 have hO:=fun b W' c0 c1=>or_two b u v W' c0 c1
 generalize (if u=0 then v else u)=r at hO ⊢
 go_enter Tryz.func140,Tryz.ntmps140
 go_wp2_with fail
 have p0:((W.alloc (.cells #[.int .u64 a1,.string a2] 205)).alloc (.cells #[.int .u64 b1,.string b2] 205)).cell? ⟨W.heap.size,0,none⟩=some (.int .u64 a1):=by simp
 have p1:((W.alloc (.cells #[.int .u64 a1,.string a2] 205)).alloc (.cells #[.int .u64 b1,.string b2] 205)).cell? ⟨W.heap.size,1,none⟩=some (.string a2):=by simp
 have p2:((W.alloc (.cells #[.int .u64 a1,.string a2] 205)).alloc (.cells #[.int .u64 b1,.string b2] 205)).cell? ⟨W.heap.size+1,0,none⟩=some (.int .u64 b1):=by simp
 have p3:((W.alloc (.cells #[.int .u64 a1,.string a2] 205)).alloc (.cells #[.int .u64 b1,.string b2] 205)).cell? ⟨W.heap.size+1,1,none⟩=some (.string b2):=by simp
 have hs:((W.alloc (.cells #[.int .u64 a1,.string a2] 205)).alloc (.cells #[.int .u64 b1,.string b2] 205))=grow (W.drewN 0) #[.cells #[.int .u64 a1,.string a2] 205,.cells #[.int .u64 b1,.string b2] 205]:=by rw[alloc_eq_grow,alloc_eq_grow,grow_grow];rfl
 have HS:Hid _:=hs
 clear hs
 generalize ((W.alloc (.cells #[.int .u64 a1,.string a2] 205)).alloc (.cells #[.int .u64 b1,.string b2] 205))=W2 at *
 go_region_held3 (fun w'=>w'.cell? ⟨W.heap.size,0,none⟩=some (.int .u64 a1)∧w'.cell? ⟨W.heap.size,1,none⟩=some (.string a2)∧w'.cell? ⟨W.heap.size+1,0,none⟩=some (.int .u64 b1)∧w'.cell? ⟨W.heap.size+1,1,none⟩=some (.string b2)) (go_keep) (first
  | (go_at_call 142;refine (hU _).mono ?_;rintro e w' ⟨rfl,rfl⟩)
  | (go_at_call 143;refine (hS _).mono ?_;rintro e w' ⟨rfl,rfl⟩)
  | (go_at_call 141;refine (hO _ _ (by simp) (by simp)).mono ?_;rintro e w' ⟨rfl,rfl⟩))
 all_goals
  go_wp2
  go_ret
  exact⟨rfl,1,_,by rw[HS.out,alloc_eq_grow,grow_grow];rfl⟩
theorem cfP_or (x y:Lh.Pt):(if cmpU x.1 y.1=0 then cmpS x.2 y.2 else cmpU x.1 y.1)=cfP x y:=by
 unfold cmpU cmpS cfP
 by_cases h1:x.1<y.1
 ·simp[h1]
 ·by_cases h2:y.1<x.1
  ·simp[h1,h2]
  ·simp[h1,h2]
theorem closureP (x y:Lh.Pt)(W:World):Calls Tryz.prog 140 #[.agg #[.int .u64 (x.1:Nat),.string x.2],.agg #[.int .u64 (y.1:Nat),.string y.2]] W fun e w'=>e=.returned (.int .i64 (cfP x y))∧∃q os',w'=grow (W.drewN q) os':=by
 rw[←cfP_or]
 exact closure0 x.1 y.1 x.2 y.2 W
end Go.Proofs.YtfhmfjcpggddkaaGreatDoor
namespace Go.Proofs.YtfhmfjcpggddkaaGreatDoor
open Go.Shelf
def sortP_ren : Go.Shelf.Ren := ⟨fun | 6 => 139 | 15 => 180 | 14 => 179 | 28 => 230 | 29 => 231 | 20 => 222 | 21 => 223 | 22 => 224 | 23 => 225 | 24 => 226 | 25 => 227 | 26 => 228 | 27 => 229 | 46 => 270 | 47 => 271 | 48 => 272 | 49 => 273 | 50 => 274 | 57 => 302 | n => n, fun | 22 => 201 | 24 => 205 | 25 => 209 | 3 => 3 | 39 => 261 | 0 => 0 | 53 => 287 | 55 => 63 | 4 => 4 | 46 => 300 | 45 => 299 | 50 => 294 | 5 => 5 | 9 => 9 | 66 => 330 | 70 => 334 | 76 => 354 | 77 => 55 | n => n, fun | n => n⟩
theorem sortP : Go.Proofs.SlLaysF0.n6 Tryz.prog sortP_ren := {
  mixed := by kernel_rfl
  f6 := ⟨Tryz.f139.name, by decide, Tryz.func139.trans (congrArg some (by kernel_rfl))⟩
  f14 := ⟨Tryz.f179.name, by decide, Tryz.func179.trans (congrArg some (by kernel_rfl))⟩
  f15 := Tryz.func180.trans (congrArg some (by kernel_rfl))
  f20 := ⟨Tryz.f222.name, by decide, Tryz.func222.trans (congrArg some (by kernel_rfl))⟩
  f21 := ⟨Tryz.f223.name, by decide, Tryz.func223.trans (congrArg some (by kernel_rfl))⟩
  f22 := ⟨Tryz.f224.name, by decide, Tryz.func224.trans (congrArg some (by kernel_rfl))⟩
  f23 := ⟨Tryz.f225.name, by decide, Tryz.func225.trans (congrArg some (by kernel_rfl))⟩
  f24 := ⟨Tryz.f226.name, by decide, Tryz.func226.trans (congrArg some (by kernel_rfl))⟩
  f25 := ⟨Tryz.f227.name, by decide, Tryz.func227.trans (congrArg some (by kernel_rfl))⟩
  f26 := ⟨Tryz.f228.name, by decide, Tryz.func228.trans (congrArg some (by kernel_rfl))⟩
  f27 := ⟨Tryz.f229.name, by decide, Tryz.func229.trans (congrArg some (by kernel_rfl))⟩
  f28 := Tryz.func230.trans (congrArg some (by kernel_rfl))
  f29 := Tryz.func231.trans (congrArg some (by kernel_rfl))
  f46 := ⟨Tryz.f270.name, by decide, Tryz.func270.trans (congrArg some (by kernel_rfl))⟩
  f47 := Tryz.func271.trans (congrArg some (by kernel_rfl))
  f48 := Tryz.func272.trans (congrArg some (by kernel_rfl))
  f49 := ⟨Tryz.f273.name, by decide, Tryz.func273.trans (congrArg some (by kernel_rfl))⟩
  f50 := ⟨Tryz.f274.name, by decide, Tryz.func274.trans (congrArg some (by kernel_rfl))⟩
  f57 := ⟨Tryz.f302.name, by decide, Tryz.func302.trans (congrArg some (by kernel_rfl))⟩
  t0 := Tryz.underlying0
  a0 := Tryz.isAgg0
  z0 := Tryz.sizeOf0
  v0 := Tryz.zeroValue0
  t3 := Tryz.underlying3
  a3 := Tryz.isAgg3
  z3 := Tryz.sizeOf3
  v3 := Tryz.zeroValue3
  t4 := Tryz.underlying4
  a4 := Tryz.isAgg4
  z4 := Tryz.sizeOf4
  v4 := Tryz.zeroValue4
  t5 := Tryz.underlying5
  a5 := Tryz.isAgg5
  z5 := Tryz.sizeOf5
  v5 := Tryz.zeroValue5
  t9 := Tryz.underlying9
  a9 := Tryz.isAgg9
  z9 := Tryz.sizeOf9
  v9 := Tryz.zeroValue9
  t22 := Tryz.underlying201
  a22 := Tryz.isAgg201
  z22 := Tryz.sizeOf201
  v22 := Tryz.zeroValue201
  t25 := Tryz.underlying209
  a25 := Tryz.isAgg209
  z25 := Tryz.sizeOf209
  v25 := Tryz.zeroValue209
  t39 := Tryz.underlying261
  a39 := Tryz.isAgg261
  z39 := Tryz.sizeOf261
  v39 := Tryz.zeroValue261
  t45 := Tryz.underlying299
  a45 := Tryz.isAgg299
  z45 := Tryz.sizeOf299
  v45 := Tryz.zeroValue299
  t46 := Tryz.underlying300
  a46 := Tryz.isAgg300
  z46 := Tryz.sizeOf300
  v46 := Tryz.zeroValue300
  t50 := Tryz.underlying294
  a50 := Tryz.isAgg294
  z50 := Tryz.sizeOf294
  v50 := Tryz.zeroValue294
  t53 := Tryz.underlying287
  a53 := Tryz.isAgg287
  z53 := Tryz.sizeOf287
  v53 := Tryz.zeroValue287
  t55 := Tryz.underlying63
  a55 := Tryz.isAgg63
  z55 := Tryz.sizeOf63
  v55 := Tryz.zeroValue63
  t66 := Tryz.underlying330
  a66 := Tryz.isAgg330
  z66 := Tryz.sizeOf330
  v66 := Tryz.zeroValue330
  t70 := Tryz.underlying334
  a70 := Tryz.isAgg334
  z70 := Tryz.sizeOf334
  v70 := Tryz.zeroValue334
  t76 := Tryz.underlying354
  a76 := Tryz.isAgg354
  z76 := Tryz.sizeOf354
  v76 := Tryz.zeroValue354
  t77 := Tryz.underlying55
  a77 := Tryz.isAgg55
  z77 := Tryz.sizeOf55
  v77 := Tryz.zeroValue55 }
end Go.Proofs.YtfhmfjcpggddkaaGreatDoor
namespace Go.Proofs.YtfhmfjcpggddkaaGreatDoor
open Go.RowKit Go.Sort Go.Shelf Go.Lib
theorem infoPt:(Tryz.prog.info? 205).map (fun i=>(i.zero,i.size,i.bytes))=some (some (.agg #[.int .u64 0,.string ByteArray.empty]),2,24):=by kernel_rfl
theorem pts_snoc (c:Nat)(xs:List ByteArray)(k:Nat)(h:k<xs.length):Lh.pts c (xs.take (k+1))=Lh.pts c (xs.take k)++Lh.pts1 c xs[k]:=by
 unfold Lh.pts
 rw[List.take_succ_eq_append_getElem h,List.flatMap_append]
 simp
theorem pts1_snoc (c j:Nat)(s:ByteArray)(h:j<c):(Lh.pts1 c s).take (j+1)=(Lh.pts1 c s).take j++[(Lh.num s (1000+j),s)]:=by
 have hl:j<(Lh.pts1 c s).length:=by rw[Lh.pts1_length];exact h
 rw[List.take_succ_eq_append_getElem hl]
 simp[Lh.pts1]
theorem cells_encP {w:World}{t:TypeId}(p:Lh.Pt):∀j u,(encP p)[j]?=some u→(w.alloc (.cells #[.int .u64 (p.1:Nat),.string p.2] t)).cell? ((⟨w.heap.size,0,none⟩:Addr).add j)=some u:=by
 intro j u hu
 match j,hu with
 | 0,hu=>simp[encP] at hu;subst hu;simp[Addr.add]
 | 1,hu=>simp[encP] at hu;subst hu;simp[Addr.add]
 | j+2,hu=>simp[encP] at hu
theorem mul_bound {a b:Nat}(ha:a≤12)(hb:b≤16):a*b≤192:=Nat.mul_le_mul ha hb
theorem pointsOf_any (b o cap:Nat)(xs:List ByteArray)(c:Nat)(w:World)(hx:∀k (h:k<xs.length),w.cell? ⟨b,o+k,none⟩=some (.string xs[k]))(hl:xs.length≤12)(hc1:1≤c)(hc:c≤16)(hs:∀k (h:k<xs.length),(xs[k]).size≤300) :
  Calls Tryz.prog 138 #[.slice (some ⟨b,o,none⟩) xs.length cap,.int .i64 (c:Nat)] w fun e w'=>∃v,e=.returned v∧w'.ownsRow w.heap.size 205 2 v (Lh.pts c xs).length (flatP (Lh.pts c xs))∧Below w.heap.size w w':=by
 obtain⟨i,hi,hz0,hz1,hz2⟩:=info_parts infoPt
 have hmb:=mul_bound hl hc
 have hmi:((xs.length:Int)*(c:Int))=((xs.length*c:Nat):Int):=by simp
 have hbyt:i.bytes*(xs.length*c)≤281474976710656:=by rw[hz2];omega
 have hmax:xs.length*c≤maxLen:=by unfold maxLen;omega
 have HX:Hid (∀k (h:k<xs.length),w.cell? ⟨b,o+k,none⟩=some (.string xs[k])):=hx
 have HS:Hid (∀k (h:k<xs.length),(xs[k]).size≤300):=hs
 have HMB:Hid (xs.length*c≤192):=hmb
 clear hx hs
 generalize hn:xs.length*c=n at *
 have HN:Hid (xs.length*c=n):=hn
 clear hn
 go_enter Tryz.func138,Tryz.ntmps138
 go_wp2_with (at_make;refine wpList_make_own _ rfl _ _ 201 rfl w.heap.size 205 i _ 2 Tryz.underlying201 hi hz0 hz1 _ _ _ n rfl rfl ?_ hbyt hmax (Nat.le_refl _) ?_)
 ·rfl
 intro w1 hown hgrow
 have hb1:Below w.heap.size w w1:=below_grown hgrow (fun k h=>by cases h)
 clear hgrow hmi hbyt hmax
 go_wp2_with fail
 go_loopw [5,16] (fun v t W=>Below w.heap.size w W∧∃k:Nat,k≤xs.length∧t=.int .i64 k∧W.ownsRow w.heap.size 205 2 v (Lh.pts c (xs.take k)).length (flatP (Lh.pts c (xs.take k)))) (fun _ t _=>xs.length - (intOf t).toNat)
 case atStart=>exact⟨hb1,0,Nat.zero_le _,rfl,hown⟩
 case round =>
  obtain⟨hb,k,hk,rfl,hown⟩:=hrel
  by_cases hlt:k<xs.length
  ·have cx:=below_cell hb (HX.out k hlt)
   have hsz:=HS.out k hlt
   have HP:Hid (Lh.pts c (xs.take (k+1))=Lh.pts c (xs.take k)++Lh.pts1 c xs[k]):=pts_snoc c xs k hlt
   have hlen:(Lh.pts c (xs.take k)).length≤192:=by
    rw[Lh.pts_length,List.length_take]
    exact mul_bound (by omega) hc
   generalize Lh.pts c (xs.take k)=P0 at *
   generalize xs[k]=s at *
   have HSZ:Hid (s.size≤300):=hsz
   clear hsz
   go_wp2_with fail
   go_loopw [5,22] (fun v t W=>Below w.heap.size w W∧∃j:Nat,j≤c∧t=.int .u64 j∧W.ownsRow w.heap.size 205 2 v (P0++(Lh.pts1 c s).take j).length (flatP (P0++(Lh.pts1 c s).take j))) (fun _ t _=>c - (intOf t).toNat)
   case atStart=>exact⟨hb,0,Nat.zero_le _,rfl,by simpa using hown⟩
   case round =>
    clear hown hb
    obtain⟨hb,j,hj,rfl,hown⟩:=hrel
    by_cases hjc:j<c
    ·have HP1:Hid ((Lh.pts1 c s).take (j+1)=(Lh.pts1 c s).take j++[(Lh.num s (1000+j),s)]):=pts1_snoc c j s hjc
     have hlj:(P0++(Lh.pts1 c s).take j).length≤208:=by
      rw[List.length_append,List.length_take]
      omega
     have hap:P0++(Lh.pts1 c s).take (j+1)=(P0++(Lh.pts1 c s).take j)++[(Lh.num s (1000+j),s)]:=by
      rw[HP1.out,List.append_assoc]
     have HAP:Hid (P0++(Lh.pts1 c s).take (j+1)=(P0++(Lh.pts1 c s).take j)++[(Lh.num s (1000+j),s)]):=hap
     clear hap
     generalize P0++(Lh.pts1 c s).take j=P1 at *
     have hof:=fun W'=>of_any s (1000+j) W' HSZ.out
     rw[show ((1000+j:Nat):Int)=1000+(j:Int) by omega] at hof
     generalize Lh.num s (1000+j)=at1 at *
     go_wp2_with fail
     refine (hof _).mono ?_
     rintro e w2 ⟨rfl,hb2⟩
     have hown2:=ownsRow_below hown hb2
     have hown3:=hown2.alloc (.cells #[.int .u64 (at1:Nat),.string s] 205)
     have hnews:=cells_encP (w:=w2) (t:=205) (at1,s)
     have hbw2:Below w.heap.size w w2:=below_then hb hb2
     have hbw3:Below w.heap.size w (w2.alloc (.cells #[.int .u64 (at1:Nat),.string s] 205)):=hbw2.alloc hbw2.size _
     have hmax:P1.length+1≤maxLen:=by unfold maxLen;omega
     clear hown hown2 hb2 hb
     go_wp2_with (at_builtin;refine wpList_append_own _ rfl _ _ 201 rfl w.heap.size 205 i _ 2 24 Tryz.underlying201 hi hz0 hz1 hz2 rfl (by decide) u5 P1.length (flatP P1) rfl hown3 ⟨w2.heap.size,0,none⟩ 1 1 (encP (at1,s)) rfl rfl hnews (encP_one _) hmax (by omega) hbw3.size ?_)
     intro v' w4 hown4 hg4 _
     have hlo:=hown3.lt
     have hb4:Below w.heap.size w w4:=hbw3.grown hg4 hbw3.size (fun k hk=>(hlo k hk).1)
     clear hown3 hnews hlo hg4
     rw[←flatP_snoc] at hown4
     go_wp2
     refine⟨⟨hb4,j+1,by omega,by go_num,?_⟩,by simp[intOf];omega⟩
     rw[HAP.out,List.length_append]
     exact hown4
    ·go_wp2
     have hjj:j=c:=by omega
     subst hjj
     rw[List.take_of_length_le (by rw[Lh.pts1_length];exact Nat.le_refl _),←HP.out] at hown
     exact⟨⟨hb,k+1,by omega,by go_num,hown⟩,by simp[intOf];omega⟩
  ·go_wp2
   go_ret
   have hkk:k=xs.length:=by omega
   subst hkk
   rw[List.take_length] at hown
   exact⟨_,rfl,hown,hb⟩
end Go.Proofs.YtfhmfjcpggddkaaGreatDoor
