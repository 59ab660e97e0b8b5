/- The landed flows: dropFirst, Put. -/
import Derived.Test.YtfhmfjcpggddkaaGreatDoorM18
import Derived.Test.YtfhmfjcpggddkaaGreatDoorM24
import Derived.Deep.RegionLaw
import Derived.BigRegion
import Derived.Test.YtfhmfjcpggddkaaGreatDoorM19
import Derived.Test.YtfhmfjcpggddkaaGreatDoorM22
import Derived.Test.YtfhmfjcpggddkaaGreatDoorM12
set_option maxHeartbeats 20000000
namespace Go.Proofs.YtfhmfjcpggddkaaGreatDoor
open Go.RowKit Go.Maps Go.ChangeMaps Go.Shelf
section
variable {W W':World} {p mb t:Nat} {la:Int} {L:List Lh.Fl}
theorem FR.turned {w1 w2:World}{M:List Lh.Fl}{n:Nat}(h:FR w1 p mb t la L)(hg:w1.grownBy w2 (some mb))(hown:w2.ownsMap Tryz.prog 63 flElem mb n (FD M)):FR w2 p mb t la M∧Tur (fun b=>b=mb) w1 w2:=by
 have hT:Tur (fun b=>b=mb) w1 w2:=⟨hg.os,hg.tape,hg.output,hg.size,fun k hk hne=>hg.block k hk (fun e=>hne (by cases e;rfl))⟩
 have hpb:w2.heap[p]?=w1.heap[p]?:=hT.block p h.plt h.ne
 have own2:=ownsMap_tight hown
 rw[FD_size] at own2
 exact⟨⟨(World.cell?_of_block (w:=w1) (w':=w2) (a:=⟨p,0,none⟩) hpb).trans h.c0,(World.cell?_of_block (w:=w1) (w':=w2) (a:=⟨p,1,none⟩) hpb).trans h.c1,(World.cell?_of_block (w:=w1) (w':=w2) (a:=⟨p,2,none⟩) hpb).trans h.c2,fun k=>(World.frozen?_of_block (w:=w1) (w':=w2) (a:=⟨p,k,none⟩) hpb).trans (h.fz k),own2,h.ne⟩,hT⟩
theorem own_heap {w w':World}{b n:Nat}{D:DataW Unit}(h:w.ownsMap Tryz.prog 63 flElem b n D)(he:w'.heap=w.heap):w'.ownsMap Tryz.prog 63 flElem b n D:=by
 obtain⟨es,clock,hb,r⟩:=h
 exact⟨es,clock,by rw[he];exact hb,r⟩
theorem step_delF {ops:Array Oper}{o:Oper}{a:Act}{K:Act→World→Prop}{Q:Exit→Act→World→Prop}{E:Prop}{W:World}(wr:World)(hgd:o.guard=none)(mo xo:Operand)
  (ho:o.op=.call { callee:=.builtin .delete,args:=#[mo,xo],argTypes:=#[251,63] }) (hW:W.heap=wr.heap) (mb n k:Nat) (L:List Lh.Fl) (hm:a.eval mo=.map (some mb)) (hx:a.eval xo=.int .u64 (k:Nat)) (hown:wr.ownsMap Tryz.prog 63 flElem mb n (FD L)) (hk:k<18446744073709551616)
  (h:∀w',w'.ownsMap Tryz.prog 63 flElem mb n (FD (L.filter fun y=>!decide (y.1=k)))→W.grownBy w' (some mb)→K (a.put o.dst (.tuple #[])) w') :
  if Region.wanted o (yielded ops a.tmps)=true then Oper.wp Tryz.prog o a W K Q else E:=by
 have hw:Region.wanted o (yielded ops a.tmps)=true:=by simp[Region.wanted,hgd]
 rw[if_pos hw]
 obtain⟨w',hrun,r1,r2⟩:=(own_heap hown hW).drop u64Keyed Tryz.underlying251 (keyK k hk) o.type
 rw[FD_del] at r1
 unfold Oper.wp
 simp[execOp,ho,resolve,invoke,builtin,hm,hx,hrun,Result.andThen]
 exact h w' r1 r2.grown
theorem dropFirstF (h:FR W p mb t la L)(hk:Lh.FlOk L)(h0:0<L.length) :
    Calls Tryz.prog 195 #[.pointer (some ⟨p,0,none⟩)] W fun e W'=>e=.returned (.tuple #[])∧FR W' p mb t la (L.eraseIdx (Lh.fleast L))∧Tur (FFt p mb) W W':=by
  have hlist:=listF_any h hk.rise (Nat.le_trans hk.len (by omega))
  have H:Hid (FR W p mb t la L):=h
  have HK:Hid (Lh.FlOk L):=hk
  have hl:L.length≤1000:=Nat.le_trans hk.len (by omega)
  clear h hk
  go_enter Tryz.func195,Tryz.ntmps195
  go_wp2_with fail
  refine hlist.mono ?_
  rintro e w1 ⟨v,rfl,⟨hn,_⟩|⟨g,c,rfl,hc,hf,_,_⟩,hb1⟩
  · rw[hn] at h0
    simp at h0
  have hmin:=minF g c L w1 h0 hl hf
  clear hlist hf hc
  go_wp2_with fail
  refine hmin.mono ?_
  rintro e w2 ⟨hx,rfl,hb2⟩
  have hbW:Below W.heap.size W w2:=below_then hb1 hb2
  obtain⟨x,hxe⟩:∃x,L[Lh.fleast L]=x:=⟨_,rfl⟩
  have HE:Hid ((L.filter fun y=>!decide (y.1=x.1))=L.eraseIdx (Lh.fleast L)):=by
    have:(L.filter fun y=>!decide (y.1=x.1))=L.eraseIdx (Lh.fleast L):=by rw[←hxe];exact filter_erase HK.out.rise hx
    exact this
  have hkx:x.1<18446744073709551616:=by rw[←hxe];exact HK.out.key _ (List.getElem_mem hx)
  have hkey:=keyK x.1 hkx
  rw[hxe]
  have hb3:Below W.heap.size W (w2.alloc (.cells #[.int .u64 (x.1:Nat),.string x.2.1,.int .i64 x.2.2] 80)):=hbW.alloc hbW.size _
  have h3:=H.out.later hb3
  have own3:=h3.own
  have c2:=h3.c2
  have HB3:Hid (Below W.heap.size W (w2.alloc (.cells #[.int .u64 (x.1:Nat),.string x.2.1,.int .i64 x.2.2] 80))):=hb3
  have H3:Hid (FR (w2.alloc (.cells #[.int .u64 (x.1:Nat),.string x.2.1,.int .i64 x.2.2] 80)) p mb t la L):=h3
  clear hmin hb1 hb2 hbW hxe hx hb3 h3
  go_wp2_with fail
  have x0:(w2.alloc (.cells #[.int .u64 (x.1:Nat),.string x.2.1,.int .i64 x.2.2] 80)).cell? ⟨w2.heap.size,0,none⟩=some (.int .u64 (x.1:Nat)):=by simp
  generalize w2.alloc (.cells #[.int .u64 (x.1:Nat),.string x.2.1,.int .i64 x.2.2] 80)=w3 at *
  have HOWN:Hid (w3.ownsMap Tryz.prog 63 flElem mb L.length (FD L)):=own3
  clear own3 hkey
  go_region_law (first
    | (refine step_delF w3 rfl _ _ rfl rfl mb L.length x.1 L rfl rfl HOWN.out hkx ?_
       intro w4 hown4 hgr))
  all_goals
    rw[HE.out] at hown4
    obtain⟨h4,hT⟩:=FR.turned (H3.out.later (below_drewN (Below.refl _ _) 1)) hgr hown4
    have HT:Hid (Tur (FFt p mb) W w4):=(Tur.of_below (below_then HB3.out (below_drewN (Below.refl _ _) 1))).trans hT fun b hb=>Or.inl (Or.inr hb)
    go_end0
    exact⟨rfl,h4,HT.out⟩
end
section
variable {W W':World} {p mb t:Nat} {la:Int} {L:List Lh.Fl}
theorem FR.heap (h:FR W p mb t la L)(he:W'.heap=W.heap):FR W' p mb t la L:=h.stay fun b _=>by rw[he]
theorem FR.laid {w3 w4:World}{M:List Lh.Fl}{n k:Nat}{s:ByteArray}{u:Int}{now:Int}(h:FR w3 p mb t now M)(hg:w3.grownBy w4 (some mb))(hown:w4.ownsMap Tryz.prog 63 flElem mb n ((FD M).put (keyF k) (datF (k,s,u)))):FR w4 p mb t now (Lh.flay (k,s,u) (M.filter fun y=>!decide (y.1=k)))∧Tur (fun b=>b=mb) w3 w4:=by
 have e:=FD_put M (k,s,u)
 rw[e] at hown
 exact h.turned hg hown
theorem putF_ok (a:Nat→Addr)(he:EF a W)(h:FR W p mb t la L)(hk:Lh.FlOk L)(ht:t≤1000)(k:Nat)(hkk:k<18446744073709551616)(s:ByteArray)(hs:s.size≤300)(now:Int)(hok:TickOk la now)(hn:Lh.isNm s=true) :
  Calls Tryz.prog 154 #[.pointer (some ⟨p,0,none⟩),.int .u64 (k:Nat),.string s,.int .i64 now] W fun e W'=>e=.returned .nilIface∧FR W' p mb t now (Lh.fput t L k s now)∧Tur (FFt p mb) W W':=by
 have hchk:=checkF_ok h now hok
 have H:Hid (FR W p mb t la L):=h
 have HE:Hid (EF a W):=he
 have HK:Hid (Lh.FlOk L):=hk
 have hwr:IntKind.i64.wrap (now+(t:Int))=now+(t:Int):=by
  obtain⟨h1,h2,h3⟩:=hok
  rw[IntKind.wrap_i64];omega
 have hkey:=keyK k hkk
 clear h he hk hok
 go_enter Tryz.func154,Tryz.ntmps154
 go_wp2_with fail
 refine hchk.mono ?_
 rintro e w1 ⟨rfl,hb1⟩
 have hnm:=isNameF_any a (HE.out.later hb1) s hs
 rw[hn] at hnm
 clear hchk hn
 go_wp2_with fail
 refine hnm.mono ?_
 rintro e w2 ⟨rfl,hb2⟩
 have hbW:Below W.heap.size W w2:=below_then hb1 hb2
 have h2:=H.out.later hbW
 obtain⟨h3,hT3⟩:=H.out.ticked hbW now
 have f1:=h2.fz 1
 have c1:=h2.c1
 have hhas:=hasF_any h3 k hkk
 have H3:Hid (FR (w2.setCell ⟨p,1,none⟩ (.int .i64 now)) p mb t now L):=h3
 have HT3:Hid (Tur (FFt p mb) W (w2.setCell ⟨p,1,none⟩ (.int .i64 now))):=hT3
 clear hnm hb1 hb2 hbW h2 h3 hT3
 by_cases hx:Lh.fix L k<L.length
 ·rw[decide_eq_true hx] at hhas
  have HR:Hid ((L.filter fun y=>!decide (y.1=k))=Lh.frest L k):=put_plain HK.out.rise (Or.inl hx)
  clear hx
  go_wp2_with fail
  refine hhas.mono ?_
  rintro e w4 ⟨rfl,hb4⟩
  have h4:=H3.out.later hb4
  have H4:Hid (FR w4 p mb t now L):=h4
  have HT4:Hid (Tur (FFt p mb) W w4):=HT3.out.behind hb4
  have k0:=h4.c0
  have k2:=h4.c2
  have hl:L.length<maxLen:=by have:=HK.out.len;unfold maxLen;omega
  obtain⟨w5,hrun,own5,hg5⟩:=(own_heap h4.own (w':=w4.drew) rfl).store u64Keyed Tryz.underlying251 hl hkey (flElem_mk (k,s,now+(t:Int)))
  clear hhas hb4 h4 f1 c1
  unfold valF at hrun
  go_wp2_with fail
  go_region
  go_wp2
  go_ret
  obtain⟨h6,hT6⟩:=(H4.out.heap (W':=w4.drew) rfl).laid hg5.grown own5
  rw[HR.out] at h6
  exact⟨rfl,h6,(HT4.out.behind (below_drewN (Below.refl _ _) 1)).trans hT6 fun b hb=>Or.inl (Or.inr hb)⟩
 ·rw[decide_eq_false hx] at hhas
  by_cases hl2:200≤L.length
  ·have HR:Hid (((L.eraseIdx (Lh.fleast L)).filter fun y=>!decide (y.1=k))=Lh.frest L k):=put_full hx hl2
   clear hx
   go_wp2_with fail
   refine hhas.mono ?_
   rintro e w3 ⟨rfl,hb3⟩
   have h3:=H3.out.later hb3
   have hfull:=fullF_any h3
   rw[decide_eq_true hl2] at hfull
   have H3':Hid (FR w3 p mb t now L):=h3
   have HT3':Hid (Tur (FFt p mb) W w3):=HT3.out.behind hb3
   clear hhas h3 hb3
   go_wp2_with fail
   refine hfull.mono ?_
   rintro e w3' ⟨rfl,hb3⟩
   have h3:=H3'.out.later hb3
   have hdf:=dropFirstF h3 HK.out (by omega)
   have HT3'':Hid (Tur (FFt p mb) W w3'):=HT3'.out.behind hb3
   clear hfull h3 hb3 f1 c1
   go_wp2_with fail
   refine hdf.mono ?_
   rintro e w4 ⟨rfl,h4,hT4⟩
   have H4:Hid (FR w4 p mb t now (L.eraseIdx (Lh.fleast L))):=h4
   have HT4:Hid (Tur (FFt p mb) W w4):=HT3''.out.trans hT4 fun b hb=>Or.inl hb
   have k0:=h4.c0
   have k2:=h4.c2
   have hl:(L.eraseIdx (Lh.fleast L)).length<maxLen:=by
    have:=HK.out.len
    have:=(List.eraseIdx_sublist L (Lh.fleast L)).length_le
    unfold maxLen;omega
   obtain⟨w5,hrun,own5,hg5⟩:=(own_heap h4.own (w':=w4.drew) rfl).store u64Keyed Tryz.underlying251 hl hkey (flElem_mk (k,s,now+(t:Int)))
   clear hdf h4 hT4 hl hl2
   unfold valF at hrun
   go_wp2_with fail
   go_region
   go_wp2
   go_ret
   obtain⟨h6,hT6⟩:=(H4.out.heap (W':=w4.drew) rfl).laid hg5.grown own5
   rw[HR.out] at h6
   exact⟨rfl,h6,(HT4.out.behind (below_drewN (Below.refl _ _) 1)).trans hT6 fun b hb=>Or.inl (Or.inr hb)⟩
  ·have HR:Hid ((L.filter fun y=>!decide (y.1=k))=Lh.frest L k):=put_plain HK.out.rise (Or.inr (by omega))
   clear hx
   go_wp2_with fail
   refine hhas.mono ?_
   rintro e w3 ⟨rfl,hb3⟩
   have h3:=H3.out.later hb3
   have hfull:=fullF_any h3
   rw[decide_eq_false hl2] at hfull
   have H3':Hid (FR w3 p mb t now L):=h3
   have HT3':Hid (Tur (FFt p mb) W w3):=HT3.out.behind hb3
   clear hhas h3 hb3
   go_wp2_with fail
   refine hfull.mono ?_
   rintro e w4 ⟨rfl,hb4⟩
   have h4:=H3'.out.later hb4
   have H4:Hid (FR w4 p mb t now L):=h4
   have HT4:Hid (Tur (FFt p mb) W w4):=HT3'.out.behind hb4
   have k0:=h4.c0
   have k2:=h4.c2
   have hl:L.length<maxLen:=by have:=HK.out.len;unfold maxLen;omega
   obtain⟨w5,hrun,own5,hg5⟩:=(own_heap h4.own (w':=w4.drew) rfl).store u64Keyed Tryz.underlying251 hl hkey (flElem_mk (k,s,now+(t:Int)))
   clear hfull hb4 h4 f1 c1
   unfold valF at hrun
   go_wp2_with fail
   go_region
   go_wp2
   go_ret
   obtain⟨h6,hT6⟩:=(H4.out.heap (W':=w4.drew) rfl).laid hg5.grown own5
   rw[HR.out] at h6
   exact⟨rfl,h6,(HT4.out.behind (below_drewN (Below.refl _ _) 1)).trans hT6 fun b hb=>Or.inl (Or.inr hb)⟩
end
end Go.Proofs.YtfhmfjcpggddkaaGreatDoor
namespace Go.Proofs.YtfhmfjcpggddkaaGreatDoor
open Go.RowKit Go.Shelf Go.Maps Go.ChangeMaps
section
variable {W W':World} {p hp fp fm db:Nat} {bs:List Nat} {lv:Value} {S:Lh.Bl}
theorem flowsB (h:BR W p hp fp fm db bs lv S)(hk:Lh.BOk S) :
  Calls Tryz.prog 103 #[.pointer (some ⟨p,0,none⟩)] W fun e w'=>∃v,e=.returned v∧FlowsNew W.heap.size w' v S.L∧Below W.heap.size W w':=by
 have hl:=hk.ok.len
 have hli:Calls Tryz.prog 161 #[.pointer (some ⟨fp,0,none⟩)] W fun e w'=>∃v,e=.returned v∧FlowsNew W.heap.size w' v S.L∧Below W.heap.size W w':=(listF_any h.f hk.ok.rise (by omega)).mono fun e w' ⟨v,q1,q2,q3⟩=>⟨v,q1,by
  rcases q2 with q2|⟨g,c,e1,e2,e3,e4,e5⟩
  ·exact Or.inl q2
  ·exact Or.inr ⟨g,c,e1,e2,e4,e3,e5⟩,q3⟩
 have c2:=h.c2
 clear h hk
 go_enter Tryz.func103,Tryz.ntmps103
 go_wp2_with fail
 refine hli.mono ?_
 rintro e w1 ⟨v,rfl,hv,hb⟩
 have HV:Hid (FlowsNew W.heap.size w1 v S.L):=hv
 obtain⟨q,c,rfl⟩:=hv.flows.shape
 clear hli hv c2
 go_wp2
 go_ret
 exact⟨_,rfl,HV.out,hb⟩
end
theorem Tur.of_grown {w w':World}{b:Nat}(h:w.grownBy w' (some b)):Tur (fun k=>k=b) w w':=⟨h.os,h.tape,h.output,h.size,fun k hk hne=>h.block k hk fun e=>hne (Option.some.inj e)⟩
section
variable {W W':World} {p hp fp fm db:Nat} {bs:List Nat} {lv:Value} {S:Lh.Bl}
theorem drain_none (a:Nat→Addr)(he:Errs4 a W)(h:BR W p hp fp fm db bs lv S)(hl:S.hs.length≤12)(s:ByteArray)(is:Bool)(hx:¬Lh.hix S.hs s<S.hs.length) :
  Calls Tryz.prog 51 #[.pointer (some ⟨p,0,none⟩),.string s,.bool is] W fun e w'=>e=.returned (.iface 378 (.pointer (some (a 4))))∧Below W.heap.size W w':=by
 have hhas:=hasS_any h.h hl s
 rw[decide_eq_false hx] at hhas
 have HE:Hid (Errs4 a W):=he
 have c0:=h.c0
 clear h hx he
 go_enter Tryz.func51,Tryz.ntmps51
 go_wp2_with fail
 refine hhas.mono ?_
 rintro e w1 ⟨rfl,hb1⟩
 have s4:=(HE.out.later hb1).s4
 clear hhas c0
 go_wp2
 go_ret
 exact⟨rfl,hb1⟩
theorem drain_good (h:BR W p hp fp fm db bs lv S)(hk:Lh.BOk S)(s:ByteArray)(is:Bool)(hx:Lh.hix S.hs s<S.hs.length) :
  Calls Tryz.prog 51 #[.pointer (some ⟨p,0,none⟩),.string s,.bool is] W fun e w'=>e=.returned .nilIface∧BR w' p hp fp fm db bs lv { S with dr:=Lh.bdrain S.dr s is }∧Tur (fun b=>b=db) W w':=by
 have hhas:=hasS_any h.h hk.h.len s
 rw[decide_eq_true hx] at hhas
 have hs:s.size≤300:=by
  have h1:=hk.h.size _ (List.getElem_mem hx)
  rwa [Lh.hix_get hx] at h1
 have hkey:=fkeyS s hs
 have c0:=h.c0
 have hdl:S.dr.length<maxLen:=by
  have:=h.drLen hk.h.len
  unfold maxLen
  omega
 have HH:Hid (BR W p hp fp fm db bs lv S):=h
 have HD:Hid (∀z∈Lh.bdrain S.dr s is,Lh.hix S.hs z<S.hs.length):=fun z hz=>by
  rcases bdrain_mem.1 hz with⟨h1,_⟩|⟨_,rfl⟩
  ·exact h.dh z h1
  ·exact hx
 clear h hk hx hs
 go_enter Tryz.func51,Tryz.ntmps51
 go_wp2_with fail
 refine hhas.mono ?_
 rintro e w1 ⟨rfl,hb1⟩
 have hB:=HH.out.later hb1
 have c1:=hB.c1
 obtain⟨D,hown,hset⟩:=hB.d
 have htd:=hown.tidy (string_keyed Tryz.underlying9)
 have HB:Hid (BR w1 p hp fp fm db bs lv S):=hB
 have HB1:Hid (Below W.heap.size W w1):=hb1
 have HSET:Hid (SetN D S.dr):=hset
 have HTD:Hid (Tidy D):=htd
 clear hhas c0 hB hset htd hb1
 cases is with
 | true =>
  go_wp2_with (at_mapUpdate;refine wpList_mapUpdate_own _ rfl _ _ _ 153 rfl 9 157 (string_keyed Tryz.underlying9) Tryz.underlying153 unitElem db S.dr.length D rfl hown hdl _ _ _ rfl rfl hkey (.agg []) [] unitElem_mk ?_;intro w3 hown3 hgr3)
  go_ret
  have hs3:=HSET.out.put HTD.out HB.out.dn s
  have ht3:=Tur.of_grown hgr3
  have ho3:=ownsMap_tight hown3
  rw[hs3.2.1] at ho3
  exact⟨rfl,HB.out.map ht3 (bdrain_nodup HB.out.dn s true) HD.out ⟨_,ho3,hs3⟩,(Tur.of_below (F:=fun b=>b=db) HB1.out).trans ht3 fun b hb=>Or.inl hb⟩
 | false =>
  go_wp2_with (at_delete;refine wpList_delete_own _ rfl _ _ 153 9 rfl 157 (string_keyed Tryz.underlying9) Tryz.underlying153 unitElem db S.dr.length D rfl hown _ _ rfl hkey ?_;intro w3 hown3 hgr3)
  go_ret
  have hs3:=HSET.out.del HTD.out HB.out.dn s hown3.isMap
  have ht3:=Tur.of_grown hgr3.grown
  have ho3:=ownsMap_tight hown3
  rw[hs3.2.1] at ho3
  exact⟨rfl,HB.out.map ht3 (bdrain_nodup HB.out.dn s false) HD.out ⟨_,ho3,hs3⟩,(Tur.of_below (F:=fun b=>b=db) HB1.out).trans ht3 fun b hb=>Or.inl hb⟩
end
structure EB (a:Nat→Addr)(w:World):Prop where
 e5:Errs5 a w
 s7:w.cell? ⟨7,0,none⟩=some (.iface 378 (.pointer (some (a 7))))
theorem EB.later {a:Nat→Addr}{w w':World}(h:EB a w)(hb:Below w.heap.size w w'):EB a w':=⟨h.e5.later hb,below_cell hb h.s7⟩
theorem EB.ef {a:Nat→Addr}{w:World}(h:EB a w):EF a w:=⟨h.e5.four,h.s7⟩
def NotG (b:Nat):Prop:=b≠0∧b≠2∧b≠3∧b≠4∧b≠5∧b≠7
theorem EB.new {a:Nat→Addr}{w:World}(h:EB a w){b:Nat}(hb:w.heap.size≤b):NotG b:=by
 have h1:=World.block_lt_of_cell? w _ h.e5.s1
 have h2:=World.block_lt_of_cell? w _ h.e5.s2
 have h3:=World.block_lt_of_cell? w _ h.e5.s3
 have h4:=World.block_lt_of_cell? w _ h.e5.s4
 have h5:=World.block_lt_of_cell? w _ h.e5.s5
 have h7:=World.block_lt_of_cell? w _ h.s7
 simp only at h1 h2 h3 h4 h5 h7
 unfold NotG
 omega
theorem tur_cell {F:Nat→Prop}{w w':World}(hT:Tur F w w'){x:Addr}{v:Value}(hx:¬F x.block)(h:w.cell? x=some v):w'.cell? x=some v :=
 (World.cell?_of_block (w:=w) (w':=w') (a:=x) (hT.block x.block (World.block_lt_of_cell? w x h) hx)).trans h
theorem EB.tur {a:Nat→Addr}{F:Nat→Prop}{w w':World}(h:EB a w)(hT:Tur F w w')(hF:∀b,F b→NotG b):EB a w' :=
 ⟨⟨tur_cell hT (fun q=>(hF _ q).1 rfl) h.e5.s1,tur_cell hT (fun q=>(hF _ q).2.1 rfl) h.e5.s2,tur_cell hT (fun q=>(hF _ q).2.2.1 rfl) h.e5.s3,tur_cell hT (fun q=>(hF _ q).2.2.2.1 rfl) h.e5.s4,tur_cell hT (fun q=>(hF _ q).2.2.2.2.1 rfl) h.e5.s5⟩,tur_cell hT (fun q=>(hF _ q).2.2.2.2.2 rfl) h.s7⟩
def RepB (S:Lh.Bl)(F:Nat→Prop)(p:Nat)(W:World):Prop:=∃hp fp fm db bs lv,BR W p hp fp fm db bs lv S∧F=BFt p hp fp fm db bs lv∧∀b,F b→NotG b
theorem RepB.lt {S:Lh.Bl}{F:Nat→Prop}{p:Nat}{W:World}(h:RepB S F p W):∀b,F b→b<W.heap.size:=by
 obtain⟨hp,fp,fm,db,bs,lv,h,rfl,_⟩:=h
 exact h.lt
theorem RepB.stay {S:Lh.Bl}{F:Nat→Prop}{p:Nat}{W W':World}(h:RepB S F p W)(hs:∀b,F b→W'.heap[b]?=W.heap[b]?):RepB S F p W':=by
 obtain⟨hp,fp,fm,db,bs,lv,h,rfl,hg⟩:=h
 exact⟨hp,fp,fm,db,bs,lv,h.stay hs,rfl,hg⟩
theorem newG_bal (a:Nat→Addr)(v:Value)(xs:List ByteArray)(n t f r:Nat)(W:World)(he:EB a W)(hv:Strs1 W v xs)(h0:0<xs.length)(hf:IsFault xs 0 (-1))(hs:∀s∈xs,s.size≤300)(hprm:Lh.Prm n)(h5:n≤503)(ht1:1≤t)(ht2:t≤1000)(hf1:1≤f)(hf2:f≤10)(hr1:1≤r)(hr2:r≤10) :
  Calls Tryz.prog 85 #[v,.int .i64 (n:Nat),.int .i64 (t:Nat),.int .i64 (f:Nat),.int .i64 (r:Nat)] W fun e W'=>∃p F,e=.returned (.tuple #[.pointer (some ⟨p,0,none⟩),.nilIface])∧RepB ⟨f,r,n,t,Lh.hnew xs,[],0,0,[]⟩ F p W'∧(∀b,F b→W.heap.size≤b)∧Below W.heap.size W W':=by
 refine (new_bal a v xs n t f r W he.e5 hv h0 hf hs hprm h5 ht1 ht2 hf1 hf2 hr1 hr2).mono ?_
 rintro e W' ⟨p,hp,fp,fm,db,bs,lv,rfl,hB,hN,hb⟩
 exact⟨p,_,rfl,⟨hp,fp,fm,db,bs,lv,hB,rfl,fun b hq=>he.new (hN b hq)⟩,hN,hb⟩
theorem pick_bal (a:Nat→Addr)(S:Lh.Bl)(F:Nat→Prop)(p k:Nat)(now:Int)(W:World)(he:EB a W)(hR:RepB S F p W)(hk:Lh.BOk S)(hkk:k<18446744073709551616) :
  Calls Tryz.prog 97 #[.pointer (some ⟨p,0,none⟩),.int .u64 (k:Nat),.int .i64 now] W fun e W'=>∃F' S' s kept c ev,(∀b,F' b→F b∨W.heap.size≤b)∧Tur F W W'∧e=.returned (.tuple #[.string s,.bool kept,ev])∧EvOf a c ev∧PickR nwB S k now S' s kept c∧RepB S' F' p W':=by
 obtain⟨hp,fp,fm,db,bs,lv,h,rfl,hg⟩:=hR
 have hgf:∀b,FFt fp fm b→NotG b:=fun b hb=>hg b (Or.inr (Or.inr (Or.inr hb)))
 rcases tick_ex S.la now with hok|⟨j,hf⟩
 ·have hok2:TickOk now now:=⟨hok.1,hok.2.1,Int.le_refl _⟩
  have hput:∀s:ByteArray,Lh.isNm s=true→s.size≤300→∀w1,Tur (FFt fp fm) W w1→FR w1 fp fm S.t now S.L→Calls Tryz.prog 154 #[.pointer (some ⟨fp,0,none⟩),.int .u64 (k:Nat),.string s,.int .i64 now] w1 fun e w'=>e=.returned .nilIface∧FR w' fp fm S.t now (Lh.fput S.t S.L k s now)∧Tur (FFt fp fm) w1 w':=fun s hn hs w1 hT hF=>putF_ok a (he.tur hT hgf).ef hF hk.ok hk.t2 k hkk s hs now hok2 hn
  by_cases hks:∃z,Lh.BKeeps S k now z
  ·obtain⟨s,hs⟩:=hks
   have hs':=hs
   obtain⟨_,_,_,hup⟩:=hs'
   obtain⟨hn,hsz⟩:=Lh.hup_nm hk hup
   refine (pick_keep h hk k hkk now hok s hs (hput s hn hsz)).mono ?_
   rintro e W' ⟨rfl,hB,hT⟩
   exact⟨_,_,s,true,0,_,fun b hb=>Or.inl hb,hT.flows,rfl,Or.inl ⟨rfl,rfl⟩,Or.inr (Or.inl ⟨hok,hs,rfl,rfl,rfl⟩),hp,fp,fm,db,bs,lv,hB,rfl,hg⟩
  ·have hks':∀z,¬Lh.BKeeps S k now z:=fun z hz=>hks ⟨z,hz⟩
   have hkn:=hk.tick hok.1 hok.2.1
   by_cases ho:Lh.bopen S=[]
   ·refine (pick_none a h hk k hkk now hok hks' fun w1 hT hB=>byTable_none a (he.tur hT hgf).e5 hB hkn k ho).mono ?_
    rintro e W' ⟨rfl,hB,hT⟩
    exact⟨_,_,ByteArray.empty,false,5,_,fun b hb=>Or.inl hb,hT.flows,rfl,Or.inr ⟨4,rfl,rfl⟩,Or.inr (Or.inr (Or.inl ⟨hok,hks',ho,rfl,rfl,rfl,rfl⟩)),hp,fp,fm,db,bs,lv,hB,rfl,hg⟩
   ·obtain⟨hn,hsz⟩:=(bopen_facts hk).2.2 _ (nwB_in (n:=S.size) k ho)
    refine (pick_new h hk k hkk now hok hks' (nwB (Lh.bopen S) S.size k) (fun w1 hT hB=>byTable_good a (he.tur hT hgf).e5 hB hkn k ho) (hput _ hn hsz)).mono ?_
    rintro e W' ⟨rfl,hB,hT⟩
    exact⟨_,_,_,false,0,_,fun b hb=>Or.inl hb,hT.flows,rfl,Or.inl ⟨rfl,rfl⟩,Or.inr (Or.inr (Or.inr ⟨hok,hks',ho,rfl,rfl,rfl,rfl⟩)),hp,fp,fm,db,bs,lv,hB,rfl,hg⟩
 ·refine (pick_tick a he.ef h k now j hf).mono ?_
  rintro e W' ⟨rfl,hb⟩
  exact⟨_,S,ByteArray.empty,false,j+1,_,fun b hb=>Or.inl hb,Tur.of_below hb,rfl,Or.inr ⟨j,rfl,rfl⟩,Or.inl ⟨j,hf,rfl,rfl,rfl,rfl⟩,hp,fp,fm,db,bs,lv,h.later hb,rfl,hg⟩
theorem drain_bal (a:Nat→Addr)(S:Lh.Bl)(F:Nat→Prop)(p:Nat)(s:ByteArray)(is:Bool)(W:World)(he:EB a W)(hR:RepB S F p W)(hk:Lh.BOk S) :
  Calls Tryz.prog 51 #[.pointer (some ⟨p,0,none⟩),.string s,.bool is] W fun e W'=>∃F' S' c ev,(∀b,F' b→F b∨W.heap.size≤b)∧Tur F W W'∧e=.returned ev∧EvOf a c ev∧DrainR S s is S' c∧RepB S' F' p W':=by
 obtain⟨hp,fp,fm,db,bs,lv,h,rfl,hg⟩:=hR
 by_cases hx:Lh.hix S.hs s<S.hs.length
 ·refine (drain_good h hk s is hx).mono ?_
  rintro e W' ⟨rfl,hB,hT⟩
  exact⟨_,_,0,_,fun b hb=>Or.inl hb,hT.map,rfl,Or.inl ⟨rfl,rfl⟩,Or.inl ⟨hx,rfl,rfl⟩,hp,fp,fm,db,bs,lv,hB,rfl,hg⟩
 ·refine (drain_none a he.e5.four h hk.h.len s is hx).mono ?_
  rintro e W' ⟨rfl,hb⟩
  exact⟨_,S,5,_,fun b hb=>Or.inl hb,Tur.of_below hb,rfl,Or.inr ⟨4,rfl,rfl⟩,Or.inr ⟨hx,rfl,rfl⟩,hp,fp,fm,db,bs,lv,h.later hb,rfl,hg⟩
theorem up_bal (S:Lh.Bl)(F:Nat→Prop)(p:Nat)(W:World)(hR:RepB S F p W)(hk:Lh.BOk S) :
  Calls Tryz.prog 55 #[.pointer (some ⟨p,0,none⟩)] W fun e W'=>∃v,e=.returned v∧Strs1 W' v (Lh.hups S.hs)∧Below W.heap.size W W':=by
 obtain⟨hp,fp,fm,db,bs,lv,h,rfl,hg⟩:=hR
 exact (upB h hk.h.len).mono fun e W' ⟨v,q1,q2,q3⟩=>⟨v,q1,strs_of_owns q2,q3⟩
theorem flows_bal (S:Lh.Bl)(F:Nat→Prop)(p:Nat)(W:World)(hR:RepB S F p W)(hk:Lh.BOk S) :
  Calls Tryz.prog 103 #[.pointer (some ⟨p,0,none⟩)] W fun e W'=>∃v,e=.returned v∧FlowsNew W.heap.size W' v S.L∧Below W.heap.size W W':=by
 obtain⟨hp,fp,fm,db,bs,lv,h,rfl,hg⟩:=hR
 exact flowsB h hk
theorem hix_names (l:List Lh.Hh)(s:ByteArray):Lh.hix l s=(l.map fun x=>x.1).findIdx fun x=>decide (x=s):=by
 unfold Lh.hix
 rw[List.findIdx_map]
 rfl
theorem names_set {l:List Lh.Hh}{s:ByteArray}{y:Lh.Hh}(hx:Lh.hix l s<l.length)(hy:y.1=s):((l.set (Lh.hix l s) y).map fun x=>x.1)=l.map fun x=>x.1:=by
 have hg:=Lh.hix_get hx
 refine List.ext_getElem (by simp) fun j h1 h2=>?_
 rw[List.getElem_map,List.getElem_map,List.getElem_set]
 split
 ·rename_i e
  subst e
  rw[hy,hg]
 ·rfl
theorem hix_set {l:List Lh.Hh}{s:ByteArray}{y:Lh.Hh}(hx:Lh.hix l s<l.length)(hy:y.1=s)(z:ByteArray):Lh.hix (l.set (Lh.hix l s) y) z=Lh.hix l z:=by
 rw[hix_names,hix_names l z,names_set hx hy]
theorem hup_set {l:List Lh.Hh}{s:ByteArray}{y:Lh.Hh}(hn:(l.map fun x=>x.1).Nodup)(hx:Lh.hix l s<l.length)(hy:y.1=s):Lh.hup (l.set (Lh.hix l s) y) s=y.2.1:=by
 have h1:Lh.hix (l.set (Lh.hix l s) y) s<(l.set (Lh.hix l s) y).length:=by rw[hix_set hx hy,List.length_set];exact hx
 rw[hup_at (by rw[names_set hx hy];exact hn) h1]
 congr 1
 congr 1
 have e:Lh.hix (l.set (Lh.hix l s) y) s=Lh.hix l s:=hix_set hx hy s
 simp only[e,List.getElem_set_self]
section
variable {W W':World} {p hp fp fm db:Nat} {bs:List Nat} {lv:Value} {S:Lh.Bl}
theorem look_none (a:Nat→Addr)(he:Errs4 a W)(h:BR W p hp fp fm db bs lv S)(hk:Lh.BOk S)(s:ByteArray)(well:Bool)(hx:¬Lh.hix S.hs s<S.hs.length) :
  Calls Tryz.prog 48 #[.pointer (some ⟨p,0,none⟩),.string s,.bool well] W fun e w'=>e=.returned (.tuple #[.bool false,.iface 378 (.pointer (some (a 4)))])∧BR w' p hp fp fm db bs lv S∧Tur (HFoot hp bs lv) W w':=by
 have hlk:=lookS_any a he h.h hk.h s well
 have c0:=h.c0
 have HH:Hid (BR W p hp fp fm db bs lv S):=h
 have HX:Hid (¬Lh.hix S.hs s<S.hs.length):=hx
 clear h hk hx he
 go_enter Tryz.func48,Tryz.ntmps48
 go_wp2_with fail
 refine hlk.mono ?_
 rintro e w1 ⟨hT,⟨hx,_⟩|⟨_,rfl,hR⟩⟩
 case inl=>exact absurd hx HX.out
 have HB:Hid (BR w1 p hp fp fm db bs lv S):=HH.out.health hT hR HH.out.dh
 have HT:Hid (Tur (HFoot hp bs lv) W w1):=hT
 clear hlk c0 hT hR
 go_wp2
 go_ret2
 exact⟨rfl,HB.out,HT.out⟩
theorem look_good (a:Nat→Addr)(he:Errs4 a W)(h:BR W p hp fp fm db bs lv S)(hk:Lh.BOk S)(s:ByteArray)(well:Bool)(hx:Lh.hix S.hs s<S.hs.length) :
  Calls Tryz.prog 48 #[.pointer (some ⟨p,0,none⟩),.string s,.bool well] W fun e w'=>e=.returned (.tuple #[.bool (Lh.hlook S.f S.r S.hs[Lh.hix S.hs s] well).2,.nilIface])∧BR w' p hp fp fm db bs lv (Lh.blook S s well S.hs[Lh.hix S.hs s])∧Tur (BFt p hp fp fm db bs lv) W w':=by
 have hlk:=lookS_any a he h.h hk.h s well
 have c0:=h.c0
 have HH:Hid (BR W p hp fp fm db bs lv S):=h
 have hy:(Lh.hlook S.f S.r S.hs[Lh.hix S.hs s] well).1.1=s:=by rw[Lh.hlook_name,Lh.hix_get hx]
 have HD:Hid (∀z∈S.dr,Lh.hix (S.hs.set (Lh.hix S.hs s) (Lh.hlook S.f S.r S.hs[Lh.hix S.hs s] well).1) z<(S.hs.set (Lh.hix S.hs s) (Lh.hlook S.f S.r S.hs[Lh.hix S.hs s] well).1).length):=fun z hz=>by
  rw[hix_set hx hy,List.length_set]
  exact h.dh z hz
 have HUP:Hid (Lh.hup (S.hs.set (Lh.hix S.hs s) (Lh.hlook S.f S.r S.hs[Lh.hix S.hs s] well).1) s=(Lh.hlook S.f S.r S.hs[Lh.hix S.hs s] well).1.2.1):=hup_set hk.h.nodup hx hy
 have HOK:Hid (Lh.HOk S.f S.r (S.hs.set (Lh.hix S.hs s) (Lh.hlook S.f S.r S.hs[Lh.hix S.hs s] well).1)):=hk.h.look hx well
 have HFO:Hid (Lh.FlOk S.L):=hk.ok
 unfold Lh.blook
 clear h hk he hy
 obtain⟨y,t,hyt⟩:∃y t,Lh.hlook S.f S.r S.hs[Lh.hix S.hs s] well=(y,t):=⟨_,_,rfl⟩
 rw[hyt] at HD HUP HOK ⊢
 simp only at HD HUP HOK ⊢
 have hlk':Calls Tryz.prog 98 #[.pointer (some ⟨hp,0,none⟩),.string s,.bool well] W fun e w'=>Tur (HFoot hp bs lv) W w'∧e=.returned (.tuple #[.bool t,.nilIface])∧HR w' hp S.f S.r (S.hs.set (Lh.hix S.hs s) y) bs lv:=hlk.mono fun e w' ⟨q1,q2⟩=>by
  rcases q2 with⟨hx',q3,q4⟩|⟨hx',_⟩
  ·rw[hyt] at q3 q4
   exact⟨q1,q3,q4⟩
  ·exact absurd hx hx'
 obtain⟨L',hL'⟩:∃L',(if t=true∧y.2.1=false then Lh.fdrop S.L s else S.L)=L':=⟨_,rfl⟩
 rw[hL']
 have HL:Hid ((if t=true∧y.2.1=false then Lh.fdrop S.L s else S.L)=L'):=hL'
 clear hlk hyt hx hL'
 go_enter Tryz.func48,Tryz.ntmps48
 go_wp2_with fail
 refine hlk'.mono ?_
 rintro e w1 ⟨hT,rfl,hR⟩
 have hB:=HH.out.health hT hR HD.out
 have HB:Hid (BR w1 p hp fp fm db bs lv { S with hs:=S.hs.set (Lh.hix S.hs s) y }):=hB
 have HT:Hid (Tur (HFoot hp bs lv) W w1):=hT
 clear hlk' hT hR
 cases t with
 | false =>
  have HL2:Hid (L'=S.L):=by have h1:=HL.out;rw[if_neg (by simp)] at h1;exact h1.symm
  clear c0 hB HL
  go_wp2
  go_ret2
  exact⟨rfl,by rw[HL2.out];exact HB.out,HT.out.health⟩
 | true =>
  have c0':=hB.c0
  have c2':=hB.c2
  have his:=isS_any hB.h HOK.out s
  rw[show Lh.hup ({ S with hs:=S.hs.set (Lh.hix S.hs s) y }:Lh.Bl).hs s=y.2.1 from HUP.out] at his
  cases hu:y.2.1 with
  | true =>
   rw[hu] at his
   have HL2:Hid (L'=S.L):=by have h1:=HL.out;rw[if_neg (by simp[hu])] at h1;exact h1.symm
   clear c0 hB hu c2' HL
   go_wp2_with fail
   refine his.mono ?_
   rintro e w2 ⟨rfl,hb2⟩
   have HB2:Hid (BR w2 p hp fp fm db bs lv { S with hs:=S.hs.set (Lh.hix S.hs s) y }):=HB.out.later hb2
   have HT2:Hid (Tur (HFoot hp bs lv) W w2):=HT.out.behind hb2
   clear his c0' hb2
   go_wp2
   go_ret2
   exact⟨rfl,by rw[HL2.out];exact HB2.out,HT2.out.health⟩
  | false =>
   rw[hu] at his
   have HL2:Hid (L'=Lh.fdrop S.L s):=by have h1:=HL.out;rw[if_pos (by simp[hu])] at h1;exact h1.symm
   clear c0 hB hu HL
   go_wp2_with fail
   refine his.mono ?_
   rintro e w2 ⟨rfl,hb2⟩
   have hB2:=HB.out.later hb2
   have c2'':=hB2.c2
   have HB2:Hid (BR w2 p hp fp fm db bs lv { S with hs:=S.hs.set (Lh.hix S.hs s) y }):=hB2
   have HT2:Hid (Tur (HFoot hp bs lv) W w2):=HT.out.behind hb2
   have hdr:=dropF_any hB2.f HFO.out s
   clear his c0' hb2 hB2 c2'
   go_wp2_with fail
   refine hdr.mono ?_
   rintro e w3 ⟨rfl,hF3,hT3⟩
   have HB3:Hid (BR w3 p hp fp fm db bs lv { S with hs:=S.hs.set (Lh.hix S.hs s) y,L:=Lh.fdrop S.L s }):=HB2.out.flows hT3 hF3
   have HT3:Hid (Tur (BFt p hp fp fm db bs lv) W w3):=HT2.out.health.trans (hT3.flows (p:=p) (hp:=hp) (db:=db) (bs:=bs) (lv:=lv)) fun b hb=>Or.inl hb
   clear hdr hF3 hT3 c2''
   go_wp2
   go_ret2
   exact⟨rfl,by rw[HL2.out];exact HB3.out,HT3.out⟩
end
end Go.Proofs.YtfhmfjcpggddkaaGreatDoor
