/- The landed Counts. -/
import Derived.Test.YtjeicikflkjacaaGreatDoorM4
import Derived.Test.YtjeicikflkjacaaGreatDoorRow
import Derived.Test.YtjeicikflkjacaaGreatDoorM0
set_option maxHeartbeats 20000000
set_option maxRecDepth 100000
namespace Go.Proofs.YtjeicikflkjacaaGreatDoor
open Go.RowKit
def cnt (l:List Int)(m:Nat):List Int:=(List.range m).map fun h=>((l.count ((h:Nat):Int):Nat):Int)
def CntFault (l:List Int)(many:Int)(c:Nat)(pl:Int):Prop :=
 ((many<0∨12<many)∧c=2∧pl = -1) ∨
 (∃m:Nat,many=m∧m≤12∧∃i,∃h:i<l.length,(∀j,j<i→∀hj:j<l.length,0≤l[j]∧l[j]<m)∧¬(0≤l[i]∧l[i]<m)∧c=2∧pl=i) ∨
 (∃m:Nat,many=m∧m≤12∧(∀j,∀hj:j<l.length,0≤l[j]∧l[j]<m)∧c=0∧pl = -1)
theorem cnt_none {l:List Int}{m c:Nat}{pl:Int}(hf:CntFault l m c pl)(hm:m≤12)(hp:∀j,∀hj:j<l.length,0≤l[j]∧l[j]<m):c=0∧pl = -1:=by
 rcases hf with⟨h,_⟩|⟨m',e,_,i,hi,_,hbi,_⟩|⟨_,_,_,_,hc,hpl⟩
 ·omega
 ·have:m=m':=by omega
  subst this
  exact absurd (hp i hi) hbi
 ·exact⟨hc,hpl⟩
end Go.Proofs.YtjeicikflkjacaaGreatDoor
namespace Go.Proofs.YtjeicikflkjacaaGreatDoor
open Go.RowKit Go.Maps Go.ChangeMaps Go.Sort
structure Errs5 (a:Nat→Addr)(w:World):Prop where
 s1:w.cell? ⟨0,0,none⟩=some (.iface 179 (.pointer (some (a 1))))
 s2:w.cell? ⟨1,0,none⟩=some (.iface 179 (.pointer (some (a 2))))
 s3:w.cell? ⟨4,0,none⟩=some (.iface 179 (.pointer (some (a 3))))
 s4:w.cell? ⟨2,0,none⟩=some (.iface 179 (.pointer (some (a 4))))
 s5:w.cell? ⟨5,0,none⟩=some (.iface 179 (.pointer (some (a 5))))
theorem Errs5.later {a:Nat→Addr}{w w':World}(h:Errs5 a w)(hb:Below w.heap.size w w'):Errs5 a w':=⟨below_cell hb h.s1,below_cell hb h.s2,below_cell hb h.s3,below_cell hb h.s4,below_cell hb h.s5⟩
theorem check_core5 (a:Nat→Addr)(b o cap:Nat)(xs:List ByteArray)(w:World)(c:Nat)(pl:Int)(he:Errs5 a w)(hcap:xs.length≤cap)(hx:∀k (h:k<xs.length),w.cell? ⟨b,o+k,none⟩=some (.string xs[k]))
  (hf:IsFault xs c pl) (h12:¬12<xs.length) (hs:∀k (h:k<xs.length),(xs[k]).size≤1000000) :
  Calls Tryz.prog 48 #[.slice (some ⟨b,o,none⟩) xs.length cap] w fun e w'=>∃ev,e=.returned ev∧ErrIs a w' c pl ev∧Below w.heap.size w w':=by
 have HX:Hid _:=hx
 have HF:Hid _:=hf
 have HS:Hid _:=hs
 have e12:decide (12<(xs.length:Int))=false:=by simp;omega
 have s3:=he.s3
 have s5:=he.s5
 clear hx hf hs
 go_enter Tryz.func48,Tryz.ntmps48
 go_wp2
 go_loopw [11] (fun t W=>W=w∧∃k:Nat,k≤xs.length∧t=.int .i64 k∧∀j,j<k→∀hj:j<xs.length,Good xs j hj) (fun t _=>xs.length - (intOf t).toNat)
 case atStart=>exact⟨rfl,0,Nat.zero_le _,rfl,fun j h=>absurd h (by omega)⟩
 case round =>
  obtain⟨rfl,k,hk,rfl,hpre⟩:=hrel
  have HP:Hid _:=hpre
  clear hpre
  by_cases hlt:k<xs.length
  ·have cx:=HX.out k hlt
   have hsz:=HS.out k hlt
   cases hn:Lh.isNm xs[k] with
   | false =>
    have HC:Hid _:=fault_name HF.out h12 hlt HP.out hn
    have HN:Hid _:=hn
    clear hn
    go_wp2_with fail
    refine (isName_any _ _ hsz).mono ?_
    rintro e w1 ⟨rfl,rfl⟩
    rw[HN.out]
    go_wp2
    go_ret
    refine⟨_,rfl,Or.inr ⟨3,by decide,HC.out.1,Or.inr ⟨w1.heap.size,rfl,by rw[HC.out.2];simp,by simp⟩⟩,(Below.refl _ _).alloc (Nat.le_refl _) _⟩
   | true =>
    have HN:Hid _:=hn
    have hst:=strs_take hcap HX.out k hk
    have HST:Hid _:=hst
    clear hst
    cases hme:Lh.mem xs[k] (xs.take k) with
    | true =>
     have HC:Hid _:=fault_exist HF.out h12 hlt HP.out hn hme
     have HM:Hid _:=hme
     clear hn hme
     go_wp2_with fail
     refine (isName_any _ _ hsz).mono ?_
     rintro e w1 ⟨rfl,rfl⟩
     rw[HN.out]
     go_wp2_with fail
     refine (contains_any _ (xs.take k) _ _ HST.out (by simp;omega)).mono ?_
     rintro e w2 ⟨rfl,rfl⟩
     rw[HM.out]
     go_wp2
     go_ret
     refine⟨_,rfl,Or.inr ⟨5,by decide,HC.out.1,Or.inr ⟨w2.heap.size,rfl,by rw[HC.out.2];simp,by simp⟩⟩,(Below.refl _ _).alloc (Nat.le_refl _) _⟩
    | false =>
     have HM:Hid _:=hme
     clear hn hme
     go_wp2_with fail
     refine (isName_any _ _ hsz).mono ?_
     rintro e w1 ⟨rfl,rfl⟩
     rw[HN.out]
     go_wp2_with fail
     refine (contains_any _ (xs.take k) _ _ HST.out (by simp;omega)).mono ?_
     rintro e w2 ⟨rfl,rfl⟩
     rw[HM.out]
     go_wp2
     refine⟨⟨by trivial,k+1,by omega,by go_num,fun j hj hl=>?_⟩,by simp[intOf];omega⟩
     by_cases e:j=k
     ·subst e;exact⟨HN.out,HM.out⟩
     ·exact HP.out j (by omega) hl
  ·have HC:Hid _:=fault_none HF.out h12 (fun j hj=>HP.out j (by omega) hj)
   go_wp2
   go_ret
   refine⟨_,rfl,Or.inl ⟨HC.out.1,HC.out.2,rfl⟩,Below.refl _ _⟩
theorem check_long5 (a:Nat→Addr)(p:Option Addr)(n cap:Nat)(w:World)(he:Errs5 a w)(h12:12<n)(_hm:n<1000000) :
  Calls Tryz.prog 48 #[.slice p n cap] w fun e w'=>e=.returned (.iface 179 (.pointer (some (a 1))))∧w'=w:=by
 have e12:decide (12<(n:Int))=true:=by simp;omega
 have s1:=he.s1
 go_enter Tryz.func48,Tryz.ntmps48
 go_wp2
 go_ret
 exact⟨rfl,rfl⟩
theorem check_any5 (a:Nat→Addr)(v:Value)(xs:List ByteArray)(w:World)(c:Nat)(pl:Int)(he:Errs5 a w)(hv:Strs w v xs)(hf:IsFault xs c pl)(hs:∀k (h:k<xs.length),(xs[k]).size≤1000000)(hm:xs.length<1000000) :
  Calls Tryz.prog 48 #[v] w fun e w'=>∃ev,e=.returned ev∧ErrIs a w' c pl ev∧Below w.heap.size w w':=by
 by_cases h12:12<xs.length
 ·obtain⟨rfl,rfl⟩:=fault_long hf h12
  obtain⟨p,cap,rfl⟩:=hv.slice
  exact (check_long5 a p _ cap w he h12 hm).mono fun e w' ⟨h1,h2⟩=>⟨_,h1,Or.inr ⟨1,by decide,rfl,Or.inl ⟨rfl,rfl⟩⟩,by rw[h2];exact Below.refl _ _⟩
 ·rcases hv with⟨rfl,p,cap,rfl⟩|⟨b,o,cap,rfl,hcap,hx⟩
  ·obtain⟨rfl,rfl⟩:=fault_none hf h12 (fun j hj=>absurd hj (by simp))
   exact (check_zero p cap w).mono fun e w' ⟨h1,h2⟩=>⟨_,h1,Or.inl ⟨rfl,rfl,rfl⟩,by rw[h2];exact Below.refl _ _⟩
  ·exact check_core5 a b o cap xs w c pl he hcap hx hf h12 hs
theorem sorted_good5 (a:Nat→Addr)(v:Value)(xs:List ByteArray)(w:World)(he:Errs5 a w)(hv:Strs1 w v xs)(hf:IsFault xs 0 (-1))(hs:∀k (h:k<xs.length),(xs[k]).size≤1000000)(hm:xs.length<1000000) :
  Calls Tryz.prog 34 #[v] w fun e w'=>∃v',e=.returned (.tuple #[v',.nilIface])∧Strs1 w' v' (Lh.sortT xs)∧Below w.heap.size w w':=by
 obtain⟨i,hi,hz0,hz1,hz2⟩:=info_parts infoS
 have hchk:=check_any5 a v xs w 0 (-1) he hv.strs hf hs hm
 have HSRC:∃sp c,v=.slice sp xs.length c∧Hid (∀W,Below w.heap.size w W→0<xs.length→∃ad,sp=some ad∧∀j u,(xs.map Value.string)[j]?=some u→W.cell? (ad.add j)=some u):=by
  obtain⟨sp,c,rfl,h⟩:=hv.src
  refine⟨sp,c,rfl,fun W hb hpos=>?_⟩
  obtain⟨b,o,rfl,hc⟩:=h hpos
  exact⟨_,rfl,cells_strs (fun k hk=>below_cell hb (hc k hk))⟩
 obtain⟨sp,c,rfl,HSRC⟩:=HSRC
 clear hv
 have hmax:xs.length≤maxLen:=by unfold maxLen;omega
 have hbyt:i.bytes*xs.length≤281474976710656:=by rw[hz2];omega
 go_enter Tryz.func34,Tryz.ntmps34
 go_wp2_with fail
 refine hchk.mono ?_
 rintro e w1 ⟨ev,rfl,hev,hb1⟩
 have hev':ev=.nilIface:=by
  rcases hev with⟨_,_,h⟩|⟨j,_,h,_⟩
  ·exact h
  ·omega
 subst hev'
 clear hev hchk
 go_wp2_with (at_make;refine wpList_make_full w1 rfl _ _ 22 rfl w1.heap.size 9 i _ 1 Tryz.underlying22 hi hz0 hz1 _ _ _ _ xs.length rfl rfl rfl rfl hbyt hmax (Nat.le_refl _) ?_)
 intro w2 hown hgrow
 have hb2:Below w.heap.size w w2:=hb1.trans ((below_grown hgrow (fun k h=>by cases h)).mono hb1.size)
 obtain⟨hl,⟨hnil,_⟩|⟨g,cap,cur,hgv,hbase,hbk,hn,hcm,hsz,ht⟩⟩:=hown
 ·cases hnil
 obtain⟨rfl,rfl⟩:w1.heap.size=g∧xs.length=cap:=by
  simp only[Value.slice.injEq,Option.some.injEq,Addr.mk.injEq] at hgv
  exact⟨hgv.1.1,hgv.2.2⟩
 clear hgv hl ht hgrow hbase
 obtain⟨cur⟩:=cur
 have hcl:cur.length=xs.length:=by simpa using hsz
 go_wp2_with (refine wpList_copy_splice rfl (.tmp 14) (.tmp 15) 22 22 rfl 9 Tryz.underlying22 sizeS _ _ _ _ _ _ rfl rfl w1.heap.size 0 cur 9 hbk (xs.map Value.string) (by simp) (fun hp=>⟨rfl,HSRC.out _ hb2 (by simpa using hp)⟩) (by simp;omega) (strs_oneCell xs) w.heap.size w hb2 hb1.size ?_)
 intro w3 hg3 hb3
 have hspl:splice cur 0 (xs.map Value.string)=xs.map Value.string:=by
  simp[splice,List.drop_of_length_le (show cur.length≤xs.length by omega)]
 have hblk:w3.heap[w1.heap.size]?=some (.cells (xs.map Value.string).toArray 9 (0,0)):=by rw[←hspl];exact hg3.out
 have hH:Holds encStr w3 w1.heap.size 0 (xs.map fun s=>s.data.toList).toArray:=holds_of_block hblk (by rw[←strs_enc,List.length_map];exact List.take_of_length_le (by simp))
 have hlt:w1.heap.size<w3.heap.size:=(Array.getElem?_eq_some_iff.1 hblk).1
 have hsort:=sort_string w1.heap.size 0 xs.length (xs.map fun s=>s.data.toList) w3 hH hlt (by simp;omega)
 rw[List.length_map] at hsort
 clear hH hspl hg3 hbk hcl
 go_wp2_with fail
 refine hsort.mono ?_
 rintro e w4 ⟨rfl,nn,os,hw4⟩
 have hown4:=ownsRow_sorted (n:=nn) (os:=os) (base:=w.heap.size) (ts:=Lh.sortL (xs.map fun s=>s.data.toList)) (ss:=xs.map fun s=>s.data.toList) (cap:=xs.length) (Lh.sortL_length _) hb1.size hblk (by simp) hmax (by simp)
 have hg4:=grownBy_sorted (w:=w3) (g:=w1.heap.size) (n:=nn) (os:=os) (Lh.sortL (xs.map fun s=>s.data.toList)).toArray
 have e4:w4=grow (putRow encStr (Sort.ahead w3 nn) w1.heap.size 0 (Lh.sortL (xs.map fun s=>s.data.toList)).toArray) os:=hw4
 rw[←e4] at hown4 hg4
 clear hw4 e4 hsort hblk
 have hb4:Below w.heap.size w w4:=hb3.grown hg4 hb3.size (fun k hk=>by cases hk;exact hb1.size)
 rw[List.length_map,enc_strs] at hown4
 have hfin:=strs_of_owns hown4
 have HFIN:Hid _:=hfin
 clear hfin hown4 hg4 hb3 hb2
 go_wp2
 go_ret2
 exact⟨_,rfl,HFIN.out,hb4⟩
theorem sorted_bad5 (a:Nat→Addr)(v:Value)(xs:List ByteArray)(w:World)(c:Nat)(pl:Int)(he:Errs5 a w)(hv:Strs1 w v xs)(hf:IsFault xs c pl)(hc:c≠0)(hs:∀k (h:k<xs.length),(xs[k]).size≤1000000)(hm:xs.length<1000000) :
  Calls Tryz.prog 34 #[v] w fun e w'=>∃ev,e=.returned (.tuple #[.slice none 0 0,ev])∧ErrIs a w' c pl ev∧Below w.heap.size w w':=by
 have hchk:=check_any5 a v xs w c pl he hv.strs hf hs hm
 clear hv hf
 go_enter Tryz.func34,Tryz.ntmps34
 go_wp2_with fail
 refine hchk.mono ?_
 rintro e w1 ⟨ev,rfl,hev,hb1⟩
 have HEV:Hid _:=hev
 obtain⟨t,x,rfl⟩:∃t x,ev=.iface t x:=by
  rcases hev with⟨h,_⟩|⟨j,_,_,⟨_,h⟩|⟨b,h,_⟩⟩
  ·exact absurd h hc
  ·exact⟨_,_,h⟩
  ·exact⟨_,_,h⟩
 clear hev hchk
 go_wp2
 go_ret2
 exact⟨_,rfl,HEV.out,hb1⟩
theorem checkSize_out5 (a:Nat→Addr)(n:Int)(w:World)(he:Errs5 a w)(h:n<2∨503<n)(hn:-9223372036854775808≤n∧n≤9223372036854775807) :
  Calls Tryz.prog 35 #[.int .i64 n] w fun r w'=>r=.returned (.iface 179 (.pointer (some (a 1))))∧w'=w:=by
 have s1:=he.s1
 by_cases h2:n<2
 ·have d1:decide (n<2)=true:=by simp;omega
  go_enter Tryz.func35,Tryz.ntmps35
  go_wp2
  go_ret
  exact⟨rfl,rfl⟩
 ·have d1:decide (n<2)=false:=by simp;omega
  have d2:decide (503<n)=true:=by simp;omega
  go_enter Tryz.func35,Tryz.ntmps35
  go_wp2
  go_ret
  exact⟨rfl,rfl⟩
theorem checkSize_in5 (a:Nat→Addr)(m e:Nat)(w:World)(he:Errs5 a w)(h2:2≤m)(h5:m≤503)(h:(¬Lh.Prm m∧e=3)∨(Lh.Prm m∧e=0)) :
  Calls Tryz.prog 35 #[.int .i64 m] w fun r w'=>∃ev,r=.returned ev∧ErrIs a w e (-1) ev∧w'=w:=by
 have s2:=he.s2
 have d1:decide ((m:Int)<2)=false:=by simp;omega
 have d2:decide (503<(m:Int))=false:=by simp;omega
 have HH:Hid ((¬Lh.Prm m∧e=3)∨(Lh.Prm m∧e=0)):=h
 clear h
 go_enter Tryz.func35,Tryz.ntmps35
 go_wp2
 go_loop [3] (fun t=>∃k:Nat,2≤k∧k≤23∧t=.int .i64 k∧∀j,2≤j→j<k→m % j≠0) (fun t=>30 - (intOf t).toNat)
 case atStart=>exact⟨2,Nat.le_refl _,by omega,rfl,fun j h h'=>absurd h (by omega)⟩
 case round =>
  obtain⟨k,hk2,hk23,rfl,hpre⟩:=hrel
  have HP:Hid (∀j,2≤j→j<k→m % j≠0):=hpre
  clear hpre
  have hsq:=Lh.sq_le hk23
  have hcast:=sq_cast k
  by_cases hlt:k*k≤m
  ·have hk22:=Lh.root_small h5 hlt
   have hkm:=Lh.root_lt hk2 hlt
   generalize hqq:k*k=q at *
   have HQ:Hid (k*k=q):=hqq
   clear hqq
   have hd:decide ((q:Int)≤(m:Int))=true:=by simp;omega
   have hk0:((k:Int)==0)=false:=by simp;omega
   by_cases hz:m % k=0
   ·have hzz:((m:Int) % (k:Int)==0)=true:=by rw[←Int.natCast_emod,hz];rfl
    have HZ:Hid (m % k=0):=hz
    clear hz
    go_wp2
    go_ret
    refine⟨_,rfl,?_,rfl⟩
    rcases HH.out with⟨_,e3⟩|⟨hp,_⟩
    ·exact Or.inr ⟨2,by decide,e3,Or.inl ⟨rfl,rfl⟩⟩
    ·exact absurd HZ.out (hp.2 k hk2 hkm)
   ·have hzz:((m:Int) % (k:Int)==0)=false:=by rw[←Int.natCast_emod,beq_eq_false_iff_ne];omega
    have HZ:Hid (m % k≠0):=hz
    clear hz
    go_wp2
    go_round
    case rel =>
     refine⟨k+1,by omega,by omega,by go_num,fun j h hj=>?_⟩
     by_cases e:j=k
     ·subst e;exact HZ.out
     ·exact HP.out j h (by omega)
    case measure=>simp[intOf];omega
  ·generalize hqq:k*k=q at *
   have HQ:Hid (k*k=q):=hqq
   clear hqq
   have hd:decide ((q:Int)≤(m:Int))=false:=by simp;omega
   have HL:Hid (¬q≤m):=hlt
   go_wp2
   go_ret
   refine⟨_,rfl,?_,rfl⟩
   have hp:Lh.Prm m:=Lh.prm_of_roots h2 (fun j h hj=>HP.out j h (by
    rcases Nat.lt_or_ge j k with h'|h'
    ·exact h'
    ·have:=Nat.mul_le_mul h' h'
     have:=HQ.out
     have:=HL.out
     omega))
   rcases HH.out with⟨hn,_⟩|⟨_,e0⟩
   ·exact absurd hp hn
   ·exact Or.inl ⟨e0,rfl,rfl⟩
theorem checkSize_any5 (a:Nat→Addr)(n:Int)(e:Nat)(w:World)(he:Errs5 a w)(hn:-9223372036854775808≤n∧n≤9223372036854775807)(h:Lh.SizeIs n e) :
  Calls Tryz.prog 35 #[.int .i64 n] w fun r w'=>∃ev,r=.returned ev∧ErrIs a w e (-1) ev∧w'=w:=by
 rcases h with⟨h,rfl⟩|⟨m,rfl,h2,h5,h⟩
 ·exact (checkSize_out5 a n w he h hn).mono fun r w' ⟨h1,h2⟩=>⟨_,h1,Or.inr ⟨1,by decide,rfl,Or.inl ⟨rfl,rfl⟩⟩,h2⟩
 ·exact checkSize_in5 a m e w he h2 h5 h
theorem make_good5 (a:Nat→Addr)(v:Value)(xs:List ByteArray)(n:Nat)(w:World)(he:Errs5 a w)(hv:Strs1 w v xs)(h0:0<xs.length)(hf:IsFault xs 0 (-1))(hsz:∀k (h:k<xs.length),(xs[k]).size≤300)(hp:Lh.Prm n)(h5:n≤503) :
  Calls Tryz.prog 25 #[v,.int .i64 n] w fun e w'=>∃g,e=.returned (.tuple #[.slice (some ⟨g,0,none⟩) n n,.nilIface])∧w.heap.size≤g∧IntRow w' g (Lh.tab xs n n)∧Below w.heap.size w w':=by
 obtain⟨i,hi,hz0,hz1,hz2⟩:=info_parts infoI
 obtain⟨_,h12,hnd⟩:=fault_zero hf
 have hsort:=sorted_good5 a v xs w he hv hf (fun k h=>Nat.le_trans (hsz k h) (by decide)) (by omega)
 obtain⟨b,o,c,rfl,hx⟩:=strs1_pos hv h0
 have HX:Hid (∀k (h:k<xs.length),w.cell? ⟨b,o+k,none⟩=some (.string xs[k])):=hx
 have HND:Hid (xs.Nodup):=hnd
 have HSZ:Hid (∀k (h:k<xs.length),(xs[k]).size≤300):=hsz
 have HP:Hid (Lh.Prm n):=hp
 have h2:2≤n:=hp.1
 have HE:Hid (Errs5 a w):=he
 clear hx hnd hsz hp hv hf he
 have hl0:((xs.length:Int)==0)=false:=by rw[beq_eq_false_iff_ne];omega
 have hbyt:i.bytes*n≤281474976710656:=by rw[hz2];omega
 have hmax:n≤maxLen:=by unfold maxLen;omega
 go_enter Tryz.func25,Tryz.ntmps25
 go_wp2_with fail
 refine hsort.mono ?_
 rintro e w1 ⟨vn,rfl,hvn,hb1⟩
 clear hsort
 have hlen:(Lh.sortT xs).length=xs.length:=Lh.sortT_length xs
 obtain⟨nb,no,nc,rfl,hn⟩:=strs1_pos hvn (by omega)
 rw[hlen]
 have HN:Hid (∀k (h:k<(Lh.sortT xs).length),w1.cell? ⟨nb,no+k,none⟩=some (.string (Lh.sortT xs)[k])):=hn
 have HLEN:Hid ((Lh.sortT xs).length=xs.length):=hlen
 clear hn hvn hlen
 go_wp2_with fail
 refine (checkSize_in5 a n 0 w1 (HE.out.later hb1) h2 h5 (Or.inr ⟨HP.out,rfl⟩)).mono ?_
 rintro e w1' ⟨ev,rfl,hev,rfl⟩
 obtain rfl:=errIs_zero hev
 clear hev
 go_wp2_with (at_make;refine wpList_make_full _ rfl _ _ 27 rfl w1'.heap.size 3 i _ 1 Tryz.underlying27 hi hz0 hz1 _ _ _ _ n rfl rfl rfl rfl hbyt hmax (Nat.le_refl _) ?_)
 intro w2 hown hgrow
 have hb2:Below w1'.heap.size w1' w2:=below_grown hgrow (fun k h=>by cases h)
 rw[made_ints2] at hown
 have hrow0:=IntRow.of_owns hown
 have hgb:=hb1.size
 have HN2:Hid (∀k (h:k<(Lh.sortT xs).length),w2.cell? ⟨nb,no+k,none⟩=some (.string (Lh.sortT xs)[k])):=fun k h=>below_cell hb2 (HN.out k h)
 have hnb:nb<w1'.heap.size:=World.block_lt_of_cell? w1' ⟨nb,no+0,none⟩ (HN.out 0 (by rw[HLEN.out];exact h0))
 have hb3:Below w.heap.size w w2:=below_then hb1 hb2
 clear hown hgrow hb2 HN hb1
 generalize w1'.heap.size=g at *
 go_wp2_with fail
 go_loopw [34] (fun t W=>Below w.heap.size w W∧Below g w2 W∧∃j:Nat,j≤n∧t=.int .i64 j∧∃ys:List Int,ys.length=n∧ys.take j=List.replicate j (-1)∧IntRow W g ys) (fun t _=>n - (intOf t).toNat)
 case atStart=>exact⟨hb3,Below.refl _ _,0,Nat.zero_le _,rfl,_,by simp,by simp,hrow0⟩
 case round =>
  obtain⟨hb,hbg,j,hj,rfl,ys,hlen,htake,hrow⟩:=hrel
  have HT:Hid (ys.take j=List.replicate j (-1)):=htake
  have HYL:Hid (ys.length=n):=hlen
  have HR:Hid (IntRow wr g ys):=hrow
  clear htake hrow0
  by_cases hlt:j<n
  ·obtain⟨x0,c0⟩:∃x,wr.cell? ⟨g,j,none⟩=some (.int .i64 x):=⟨_,hrow.cell (k:=j) (by omega)⟩
   have f0:=hrow.frozen j
   have hd:decide ((j:Int)<(n:Int))=true:=by simp;omega
   clear hrow hlen
   go_wp2_with fail
   go_roundw
   case rel =>
    refine⟨hb.setCell hgb _,hbg.setCell (Nat.le_refl _) _,j+1,by omega,by go_num,ys.set j (-1),by simp[HYL.out],?_,HR.out.set _ _⟩
    rw[take_set_snoc (by rw[HYL.out];exact hlt),HT.out,List.replicate_succ']
   case measure=>simp[intOf];omega
  ·have hd:decide ((j:Int)<(n:Int))=false:=by simp;omega
   have hfin:IntRow wr g (Lh.tab xs n 0):=by
    have h1:=HT.out
    rw[List.take_of_length_le (by rw[HYL.out];omega),show j=n by omega,replicate_tab xs] at h1
    rw[←h1]
    exact hrow
   have HF:Hid (IntRow wr g (Lh.tab xs n 0)):=hfin
   have hglt:=hfin.lt
   have hrows:=rowsOf_core b o c xs n wr (fun k h=>below_cell hb (HX.out k h)) h12 HND.out HSZ.out h2 h5
   have HN3:Hid (∀k (h:k<(Lh.sortT xs).length),wr.cell? ⟨nb,no+k,none⟩=some (.string (Lh.sortT xs)[k])):=fun k h=>by
    rw[hbg.cell (p:=⟨nb,no+k,none⟩) hnb]
    exact HN2.out k h
   clear hfin hrow hlen hbg HN2 HT HYL HR
   go_wp2_with fail
   refine hrows.mono ?_
   rintro e w5 ⟨mb,rb,sb,D,rfl,hL,hb5⟩
   have HL:Hid (Laid xs n wr.heap.size mb xs.length rb sb D w5):=hL
   have HO:Hid (IntRow w5 g (Lh.tab xs n 0)):=HF.out.later hb5
   have HB5:Hid (Below w.heap.size w w5):=below_then hb hb5
   have HN5:Hid (∀k (h:k<(Lh.sortT xs).length),w5.cell? ⟨nb,no+k,none⟩=some (.string (Lh.sortT xs)[k])):=fun k h=>below_cell hb5 (HN3.out k h)
   clear hL hrows HN3 HF hb5
   go_wp2_with fail
   go_loopw [45] (fun t W=>∃T:Nat,T≤n∧t=.int .i64 T∧St xs n g rb sb w5 T W) (fun t _=>n - (intOf t).toNat)
   case atStart=>exact⟨0,Nat.zero_le _,rfl,rfl,rfl,rfl,rfl,fun _ _ _=>rfl,HO.out,fun i hi=>⟨0,HL.out.row i hi,fun q h=>absurd h (by omega)⟩⟩
   case round =>
    rename_i W1
    obtain⟨T,hT,rfl,hst⟩:=hrel
    have HST:Hid (St xs n g rb sb w5 T wr):=hst
    by_cases hTn:T<n
    ·obtain⟨i',hi',p0,p,hname,hrb,hpn,hpp,htk,hfree,htab,htk'⟩:=hst.find HP.out h0 hTn
     have hk:T % xs.length<(Lh.sortT xs).length:=by rw[HLEN.out];exact Nat.mod_lt _ h0
     have hlo:=HL.out.rbLo
     have hbase:=HL.out.base
     have hmlt:=HL.out.map.lt
     have cn:wr.cell? ⟨nb,no+T % xs.length,none⟩=some (.string xs[i']):=by
      have h1:=HN5.out _ hk
      rw[←Lh.nameAt_lt hk,hname] at h1
      rw[World.cell?_of_block (w:=w5) (hst.block nb (by omega) (fun q hq=>by have:=hlo q hq;show nb≠rb q;omega))]
      exact h1
     have hown:wr.ownsMap Tryz.prog 9 ptrElem mb xs.length D:=ownsMap_same HL.out.map (hst.block mb (by omega) (fun q hq=>by have:=hlo q hq;omega))
     have hkey:=keyStr xs[i'] (HSZ.out i' hi')
     have hat:=HL.out.atKey i' hi' hi'
     have hsl:IntRow wr (sb i') (Lh.rowL xs[i'] n):=(HL.out.slots i' hi' hi').same (hst.block _ (by have:=HL.out.sbLo i' hi';omega) (fun q hq e=>HL.out.apart q i' hq hi' e.symm))
     have htake:=take_any (rb i') (sb i') g n p0 p (i':Nat) xs[i'] (Lh.tab xs n T) wr hrb hsl hst.out (Lh.tab_length _ _ _) (by have:=hlo i' hi';omega) (HL.out.apart i' i' hi' hi') (by have:=HL.out.sbLo i' hi';omega) h2 h5 hpn hpp htk hfree
     have HTAB:Hid (Lh.tab xs n (T+1)=(Lh.tab xs n T).set (Lh.rowN xs[i'] n p) (i':Nat)):=htab
     have HTK:Hid (∀q,q<p→0≤(Lh.tab xs n (T+1)).getD (Lh.rowN xs[i'] n q) 0):=htk'
     have HNM:Hid (Lh.nameAt (Lh.sortT xs) (T % xs.length)=xs[i']):=hname
     have hd:decide ((T:Int)<(n:Int))=true:=by simp;omega
     have hmi:(T:Int) % (xs.length:Int)<(xs.length:Int):=Int.emod_lt_of_pos _ (by omega)
     have hmi0:0≤(T:Int) % (xs.length:Int):=Int.emod_nonneg _ (by omega)
     clear hst hname hrb htk hfree htab htk' hsl hk hlo
     go_wp2_with (at_lookup;refine wpList_lookup_ptr _ rfl _ _ 73 rfl 9 75 (string_keyed Tryz.underlying9) Tryz.underlying73 (zeroRow _) mb xs.length D rfl hown _ (.string (xs[i']).data.toList) rfl hkey (rb i') hat ?_)
     refine htake.mono ?_
     rintro e W' ⟨rfl,hr',ho',h2'⟩
     have HSN:Hid (St xs n g rb sb w5 (T+1) W'):=HST.out.step HL.out hglt HP.out h0 hi' HTAB.out HTK.out hr' ho' h2'
     clear htake hr' ho' h2' hown cn HTAB HTK HNM hat hkey
     go_wp2_with fail
     go_roundw
     case rel=>exact⟨T+1,by omega,by go_num,HSN.out⟩
     case measure=>simp[intOf];omega
    ·have hd:decide ((T:Int)<(n:Int))=false:=by simp;omega
     have hTe:T=n:=by omega
     have HFO:Hid (IntRow wr g (Lh.tab xs n n)):=by have:=hst.out;rwa [hTe] at this
     have HFB:Hid (Below w.heap.size w wr):=hst.below HB5.out hgb (fun q hq=>by have:=HL.out.rbLo q hq;have:=HL.out.base;have:=hb.size;omega)
     clear hst HST
     go_wp2
     go_ret2
     exact⟨g,rfl,hgb,HFO.out,HFB.out⟩
theorem make_none5 (a:Nat→Addr)(p:Option Addr)(c:Nat)(n:Int)(w:World)(he:Errs5 a w) :
  Calls Tryz.prog 25 #[.slice p 0 c,.int .i64 n] w fun e w'=>e=.returned (.tuple #[.slice none 0 0,.iface 179 (.pointer (some (a 4)))])∧Below w.heap.size w w':=by
 have s4:=he.s4
 go_enter Tryz.func25,Tryz.ntmps25
 go_wp2_with fail
 go_quiet (fail)
 go_wp2
 go_ret2
 exact⟨rfl,below_drewN (Below.refl _ _) nq⟩
theorem make_fault5 (a:Nat→Addr)(v:Value)(xs:List ByteArray)(n:Int)(w:World)(c:Nat)(pl:Int)(he:Errs5 a w)(hv:Strs1 w v xs)(h0:0<xs.length)(hf:IsFault xs c pl)(hc:c≠0)(hsz:∀k (h:k<xs.length),(xs[k]).size≤1000000)(hm:xs.length<1000000) :
  Calls Tryz.prog 25 #[v,.int .i64 n] w fun e w'=>∃ev,e=.returned (.tuple #[.slice none 0 0,ev])∧ErrIs a w' c pl ev∧Below w.heap.size w w':=by
 have hsort:=sorted_bad5 a v xs w c pl he hv hf hc hsz hm
 obtain⟨b,o,cp,rfl,hx⟩:=strs1_pos hv h0
 clear hv hf hsz hx he
 have hl0:((xs.length:Int)==0)=false:=by rw[beq_eq_false_iff_ne];omega
 go_enter Tryz.func25,Tryz.ntmps25
 go_wp2_with fail
 refine hsort.mono ?_
 rintro e w1 ⟨ev,rfl,hev,hb1⟩
 have HEV:Hid (ErrIs a w1 c pl ev):=hev
 obtain⟨t,x,rfl⟩:=errIs_pos hev hc
 clear hev hsort
 go_wp2
 go_ret2
 exact⟨_,rfl,HEV.out,hb1⟩
theorem make_size5 (a:Nat→Addr)(v:Value)(xs:List ByteArray)(n:Int)(w:World)(e0:Nat)(he:Errs5 a w)(hv:Strs1 w v xs)(h0:0<xs.length)(hf:IsFault xs 0 (-1))(hn:-9223372036854775808≤n∧n≤9223372036854775807)(hse:Lh.SizeIs n e0)(hc:e0≠0)(hsz:∀k (h:k<xs.length),(xs[k]).size≤1000000)(hm:xs.length<1000000) :
  Calls Tryz.prog 25 #[v,.int .i64 n] w fun e w'=>∃ev,e=.returned (.tuple #[.slice none 0 0,ev])∧ErrIs a w' e0 (-1) ev∧Below w.heap.size w w':=by
 have hsort:=sorted_good5 a v xs w he hv hf hsz hm
 obtain⟨b,o,cp,rfl,hx⟩:=strs1_pos hv h0
 have HE:Hid (Errs5 a w):=he
 have HSE:Hid (Lh.SizeIs n e0):=hse
 clear hv hf hsz hx he hse
 have hl0:((xs.length:Int)==0)=false:=by rw[beq_eq_false_iff_ne];omega
 go_enter Tryz.func25,Tryz.ntmps25
 go_wp2_with fail
 refine hsort.mono ?_
 rintro e w1 ⟨vn,rfl,hvn,hb1⟩
 clear hsort
 obtain⟨sp,cp',rfl,_⟩:=hvn.src
 clear hvn
 go_wp2_with fail
 refine (checkSize_any5 a n e0 w1 (HE.out.later hb1) hn HSE.out).mono ?_
 rintro e w1' ⟨ev,rfl,hev,rfl⟩
 have HEV:Hid (ErrIs a w1' e0 (-1) ev):=hev
 obtain⟨t,x,rfl⟩:=errIs_pos hev hc
 clear hev
 go_wp2
 go_ret2
 exact⟨_,rfl,HEV.out,hb1⟩
theorem make_bad5 (a:Nat→Addr)(v:Value)(xs:List ByteArray)(n:Int)(w:World)(c:Nat)(pl:Int)(he:Errs5 a w)(hv:Strs1 w v xs)(hf:TabFault xs n c pl)(hc:c≠0)(hn:-9223372036854775808≤n∧n≤9223372036854775807)(hsz:∀k (h:k<xs.length),(xs[k]).size≤1000000)(hm:xs.length<1000000) :
  Calls Tryz.prog 25 #[v,.int .i64 n] w fun e w'=>∃ev,e=.returned (.tuple #[.slice none 0 0,ev])∧ErrIs a w' c pl ev∧Below w.heap.size w w':=by
 rcases hf with⟨rfl,rfl,rfl⟩|⟨h0,hf,_⟩|⟨h0,hf,hs,rfl⟩
 ·obtain⟨p,cp,rfl⟩:=hv.strs.slice
  exact (make_none5 a p cp n w he).mono fun e w' ⟨h1,h2⟩=>⟨_,h1,Or.inr ⟨4,by decide,rfl,Or.inl ⟨rfl,rfl⟩⟩,h2⟩
 ·exact make_fault5 a v xs n w c pl he hv h0 hf hc hsz hm
 ·exact make_size5 a v xs n w c he hv h0 hf hn hs hc hsz hm
end Go.Proofs.YtjeicikflkjacaaGreatDoor
namespace Go.Proofs.YtjeicikflkjacaaGreatDoor
open Go.RowKit
theorem moves_bad15 (a:Nat→Addr)(va vb:Value)(xs:List ByteArray)(n:Int)(w:World)(c:Nat)(pl:Int)(he:Errs5 a w)(hv:Strs1 w va xs)(hf:TabFault xs n c pl)(hc:c≠0)(hn:-9223372036854775808≤n∧n≤9223372036854775807)(hsz:∀k (h:k<xs.length),(xs[k]).size≤1000000)(hm:xs.length<1000000) :
  Calls Tryz.prog 11 #[va,vb,.int .i64 n] w fun e w'=>∃ev,e=.returned (.tuple #[.int .i64 0,ev])∧ErrIs a w' c pl ev∧Below w.heap.size w w':=by
 have hmk:=make_bad5 a va xs n w c pl he hv hf hc hn hsz hm
 clear he hv hf hsz
 go_enter Tryz.func11,Tryz.ntmps11
 go_wp2_with fail
 refine hmk.mono ?_
 rintro e w1 ⟨ev,rfl,hev,hb1⟩
 have HEV:Hid (ErrIs a w1 c pl ev):=hev
 obtain⟨t,x,rfl⟩:=errIs_pos hev hc
 clear hev hmk
 go_wp2
 go_ret2
 exact⟨_,rfl,HEV.out,hb1⟩
theorem moves_bad25 (a:Nat→Addr)(va vb:Value)(xs ys:List ByteArray)(n:Nat)(w:World)(c:Nat)(pl:Int)(he:Errs5 a w)(hv:Strs1 w va xs)(hv2:Strs1 w vb ys)(h0:0<xs.length)(hf1:IsFault xs 0 (-1))(hp:Lh.Prm n)(h5:n≤503)(hsz1:∀k (h:k<xs.length),(xs[k]).size≤300)(hf:TabFault ys n c pl)(hc:c≠0)(hsz:∀k (h:k<ys.length),(ys[k]).size≤1000000)(hm:ys.length<1000000) :
  Calls Tryz.prog 11 #[va,vb,.int .i64 n] w fun e w'=>∃ev,e=.returned (.tuple #[.int .i64 0,ev])∧ErrIs a w' c pl ev∧Below w.heap.size w w':=by
 have hmk:=make_good5 a va xs n w he hv h0 hf1 hsz1 hp h5
 have HMK2:Hid (∀W,Below w.heap.size w W→Calls Tryz.prog 25 #[vb,.int .i64 n] W fun e w'=>∃ev,e=.returned (.tuple #[.slice none 0 0,ev])∧ErrIs a w' c pl ev∧Below W.heap.size W w'):=fun W hW=>make_bad5 a vb ys n W c pl (he.later hW) (hv2.later hW) hf hc (by omega) hsz hm
 clear he hv hv2 hf hsz hf1 hsz1 hp
 go_enter Tryz.func11,Tryz.ntmps11
 go_wp2_with fail
 refine hmk.mono ?_
 rintro e w1 ⟨g1,rfl,hg1,hr1,hb1⟩
 clear hr1 hmk
 go_wp2_with fail
 refine (HMK2.out w1 hb1).mono ?_
 rintro e w2 ⟨ev,rfl,hev,hb2⟩
 have HEV:Hid (ErrIs a w2 c pl ev):=hev
 obtain⟨t,x,rfl⟩:=errIs_pos hev hc
 clear hev
 go_wp2
 go_ret2
 exact⟨_,rfl,HEV.out,below_then hb1 hb2⟩
theorem moves_good5 (a:Nat→Addr)(va vb:Value)(xs ys:List ByteArray)(n:Nat)(w:World)(he:Errs5 a w)(hv:Strs1 w va xs)(hv2:Strs1 w vb ys)(h0:0<xs.length)(h0':0<ys.length)(hf1:IsFault xs 0 (-1))(hf2:IsFault ys 0 (-1))(hp:Lh.Prm n)(h5:n≤503)(hsz1:∀k (h:k<xs.length),(xs[k]).size≤300)(hsz2:∀k (h:k<ys.length),(ys[k]).size≤300) :
  Calls Tryz.prog 11 #[va,vb,.int .i64 n] w fun e w'=>e=.returned (.tuple #[.int .i64 (mv xs ys n n:Nat),.nilIface])∧Below w.heap.size w w':=by
 have hmk:=make_good5 a va xs n w he hv h0 hf1 hsz1 hp h5
 have HMK2:Hid (∀W,Below w.heap.size w W→Calls Tryz.prog 25 #[vb,.int .i64 n] W fun e w'=>∃g,e=.returned (.tuple #[.slice (some ⟨g,0,none⟩) n n,.nilIface])∧W.heap.size≤g∧IntRow w' g (Lh.tab ys n n)∧Below W.heap.size W w'):=fun W hW=>make_good5 a vb ys n W (he.later hW) (hv2.later hW) h0' hf2 hsz2 hp h5
 have HP:Hid (Lh.Prm n):=hp
 obtain⟨_,h12,_⟩:=fault_zero hf1
 obtain⟨_,h12',_⟩:=fault_zero hf2
 obtain⟨b1,o1,c1,rfl,hx⟩:=strs1_pos hv h0
 obtain⟨b2,o2,c2,rfl,hy⟩:=strs1_pos hv2 h0'
 have HX:Hid (∀k (h:k<xs.length),w.cell? ⟨b1,o1+k,none⟩=some (.string xs[k])):=hx
 have HY:Hid (∀k (h:k<ys.length),w.cell? ⟨b2,o2+k,none⟩=some (.string ys[k])):=hy
 clear he hv hv2 hf1 hf2 hsz1 hsz2 hp hx hy
 go_enter Tryz.func11,Tryz.ntmps11
 go_wp2_with fail
 refine hmk.mono ?_
 rintro e w1 ⟨g1,rfl,hg1,hr1,hb1⟩
 have HR1:Hid (IntRow w1 g1 (Lh.tab xs n n)):=hr1
 clear hr1 hmk
 go_wp2_with fail
 refine (HMK2.out w1 hb1).mono ?_
 rintro e w2 ⟨g2,rfl,hg2,hr2,hb2⟩
 have HS1:Hid (∀W,Below w2.heap.size w2 W→∀i,i<n→∃j,∃hj:j<xs.length,W.cell? ⟨g1,i,none⟩=some (.int .i64 (j:Nat))∧xs[j]=owner xs n i):=fun W hW i hi=>slot_of HP.out h0 ((HR1.out.later hb2).later hW) hi
 have HS2:Hid (∀W,Below w2.heap.size w2 W→∀i,i<n→∃j,∃hj:j<ys.length,W.cell? ⟨g2,i,none⟩=some (.int .i64 (j:Nat))∧ys[j]=owner ys n i):=fun W hW i hi=>slot_of HP.out h0' (hr2.later hW) hi
 have HB:Hid (Below w.heap.size w w2):=below_then hb1 hb2
 clear hr2 HMK2 HR1 hb1 hb2
 go_wp2_with fail
 go_loopw [11,32] (fun vm t W=>Below w2.heap.size w2 W∧∃i:Nat,i≤n∧t=.int .i64 i∧vm=.int .i64 (mv xs ys n i:Nat)) (fun _ t _=>n - (intOf t).toNat)
 case atStart=>exact⟨Below.refl _ _,0,Nat.zero_le _,rfl,rfl⟩
 case round =>
  obtain⟨hb,i,hi,rfl,rfl⟩:=hrel
  by_cases hlt:i<n
  ·obtain⟨j1,hj1,c1',e1⟩:=HS1.out wr hb i hlt
   obtain⟨j2,hj2,c2',e2⟩:=HS2.out wr hb i hlt
   have d1:=below_cell (below_then HB.out hb) (HX.out j1 hj1)
   have d2:=below_cell (below_then HB.out hb) (HY.out j2 hj2)
   have hii:(i:Int)<(n:Int):=by omega
   have hj1i:(j1:Int)<(xs.length:Int):=by omega
   have hj2i:(j2:Int)<(ys.length:Int):=by omega
   have hmle:=mv_le xs ys n i
   have hd:decide ((i:Int)<(n:Int))=true:=by simp;omega
   rw[e1] at d1
   rw[e2] at d2
   by_cases heq:owner xs n i=owner ys n i
   ·have HM:Hid (mv xs ys n (i+1)=mv xs ys n i):=mv_same heq
    have hne:((owner xs n i).toList != (owner ys n i).toList)=false:=by rw[heq];simp
    have hne2:((owner xs n i).toList==(owner ys n i).toList)=true:=bytes_same heq
    clear heq e1 e2
    generalize owner xs n i=s1 at *
    generalize owner ys n i=s2 at *
    generalize mv xs ys n i=q at *
    go_wp2_with fail
    go_quiet (fail)
    go_wp2_with fail
    go_roundw
    case rel=>exact⟨below_drewN hb nq,i+1,by omega,by go_num,by rw[HM.out]⟩
    case measure=>simp[intOf];omega
   ·have HM:Hid (mv xs ys n (i+1)=mv xs ys n i+1):=mv_other heq
    have hne2:((owner xs n i).toList==(owner ys n i).toList)=false:=bytes_parts heq
    have hne:((owner xs n i).toList != (owner ys n i).toList)=true:=by unfold bne;rw[hne2];rfl
    clear heq e1 e2
    generalize owner xs n i=s1 at *
    generalize owner ys n i=s2 at *
    generalize mv xs ys n i=q at *
    go_wp2_with fail
    go_quiet (fail)
    go_wp2_with fail
    go_roundw
    case rel=>exact⟨below_drewN hb nq,i+1,by omega,by go_num,by rw[HM.out];rfl⟩
    case measure=>simp[intOf];omega
  ·have hd:decide ((i:Int)<(n:Int))=false:=by simp;omega
   have hie:i=n:=by omega
   subst hie
   go_wp2
   go_ret2
   exact⟨rfl,below_then HB.out hb⟩
end Go.Proofs.YtjeicikflkjacaaGreatDoor
namespace Go.Proofs.YtjeicikflkjacaaGreatDoor
namespace Lh
def jk (k:Nat):Nat:=(k*2862933555777941757+1) % 18446744073709551616
def jn (k b:Nat):Nat:=(b+1)*2147483648 / (k / 8589934592+1)
def jst (k:Nat):Nat→Nat × Nat
 | 0=>(k,0)
 | t+1=>(jk (jst k t).1,jn (jk (jst k t).1) (jst k t).2)
def jat (k t:Nat):Nat:=(jst k t).2
def jp (k m:Nat):List Int:=(List.range m).map fun t=>((jat k t:Nat):Int)
end Lh
end Go.Proofs.YtjeicikflkjacaaGreatDoor
