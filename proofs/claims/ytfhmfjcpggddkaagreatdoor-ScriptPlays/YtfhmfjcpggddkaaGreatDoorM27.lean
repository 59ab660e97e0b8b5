/- The law BalanceOver, over the landed package's contracts, where its numbers are right. -/
import Derived.Test.YtfhmfjcpggddkaaGreatDoorM12
import Derived.Test.YtfhmfjcpggddkaaGreatDoorM5
import Derived.Test.YtfhmfjcpggddkaaGreatDoorM25
import Derived.Test.YtfhmfjcpggddkaaGreatDoorM24
import Derived.Test.YtfhmfjcpggddkaaGreatDoorM8
import Derived.Test.YtfhmfjcpggddkaaGreatDoorM19
import Derived.Test.YtfhmfjcpggddkaaGreatDoorBaRow
import Derived.Test.YtfhmfjcpggddkaaGreatDoorM3
import Derived.Test.YtfhmfjcpggddkaaGreatDoorM7
import Derived.Test.YtfhmfjcpggddkaaGreatDoorM4
import Derived.BigQuiet
import Derived.Deep.QuietTactic
import Derived.Laws.AppendOwnNone
import Derived.Test.YtfhmfjcpggddkaaGreatDoorM6
import Derived.Test.YtfhmfjcpggddkaaGreatDoorM10
import Derived.Test.YtfhmfjcpggddkaaGreatDoorM16
import Derived.Test.YtfhmfjcpggddkaaGreatDoorM15
import Derived.Test.YtfhmfjcpggddkaaGreatDoorM2
import Derived.Deep.RegionHeld3
set_option maxHeartbeats 20000000
set_option maxRecDepth 100000
namespace Go.Proofs.YtfhmfjcpggddkaaGreatDoor
open Go.RowKit
def three:List ByteArray:=[nA,nB,nC]
theorem goodF_of {S:Lh.Bl}(h:Lh.BOk S):∀j,∀hj:j<S.L.length,GoodF S.L j hj:=by
 intro j hj
 have hm:=List.getElem_mem hj
 refine⟨h.host _ hm,h.ok.lo _ hm,h.hi _ hm,fun i hi hlt e=>?_⟩
 have:=List.pairwise_iff_getElem.1 h.ok.rise i j hi hj hlt
 omega
theorem caF_of {S:Lh.Bl}(h:Lh.BOk S){e:Int}(h0:0≤e)(h1:e≤1099511627776):CaF e S.L 0 (-1):=Or.inr (Or.inr ⟨⟨h0,h1,h.ok.len⟩,goodF_of h,rfl,rfl⟩)
theorem keyIn_of {S:Lh.Bl}(h:Lh.BOk S):KeyIn S.L:=fun x hx=>h.ok.key x hx
end Go.Proofs.YtfhmfjcpggddkaaGreatDoor
namespace Go.Proofs.YtfhmfjcpggddkaaGreatDoor
open Go.RowKit Go.Shelf Go.Maps Go.ChangeMaps
theorem flIn_of {S:Lh.Bl}(h:Lh.BOk S):FlIn S.L:=fun x hx=>by
 have h1:=h.ok.key x hx
 have h2:=h.ok.lo x hx
 have h3:=h.hi x hx
 have h4:=(nm_word (h.host x hx)).2.2.2
 exact⟨h1,by omega,by omega,by omega⟩
theorem check_bound {a:Nat→Addr}(e:Int)(p:Option Addr)(n c:Nat)(w:World)(he:EC a w)(h2:1099511627776<e) :
  Calls Tryz.prog 208 #[.int .i64 e,.slice p n c] w fun r w'=>r=.returned (.iface 378 (.pointer (some (a 1))))∧w'=w:=by
 have s1:=he.s1
 have d1:decide (e<0)=false:=by simp;omega
 clear he
 go_enter Tryz.func208,Tryz.ntmps208
 go_wp2
 go_ret
 exact⟨rfl,rfl⟩
theorem text_bound {a:Nat→Addr}(e:Int)(p:Option Addr)(n c:Nat)(w:World)(he:EC a w)(h2:1099511627776<e) :
  Calls Tryz.prog 163 #[.int .i64 e,.slice p n c] w fun r w'=>r=.returned (.tuple #[.string ByteArray.empty,.iface 378 (.pointer (some (a 1)))])∧w'=w:=by
 have hck:=check_bound e p n c w he h2
 clear he h2
 go_enter Tryz.func163,Tryz.ntmps163
 go_wp2_with fail
 refine hck.mono ?_
 rintro r w1 ⟨rfl,rfl⟩
 clear hck
 go_wp2
 go_ret2
 exact⟨rfl,rfl⟩
section
variable {W W':World} {p hp fp fm db:Nat} {bs:List Nat} {lv:Value} {S:Lh.Bl}
theorem export_good (a:Nat→Addr)(he:EC a W)(h:BR W p hp fp fm db bs lv S)(hk:Lh.BOk S)(hep:S.ep<1099511627776) :
  Calls Tryz.prog 105 #[.pointer (some ⟨p,0,none⟩)] W fun e w'=>e=.returned (.tuple #[.string (Lh.bt (Lh.textL (S.ep+1).toNat S.L)),.nilIface])∧BR w' p hp fp fm db bs lv { S with ep:=S.ep+1 }∧Tur (BFt p hp fp fm db bs lv) W w':=by
 have HH:Hid (BR W p hp fp fm db bs lv S):=h
 have h0:=hk.ep0
 have hlen:S.L.length≤200:=hk.ok.len
 have HLI:Hid (∀w',Below W.heap.size W w'→Calls Tryz.prog 161 #[.pointer (some ⟨fp,0,none⟩)] w' fun e w''=>∃v,e=.returned v∧Flows1 w'' v S.L∧Below W.heap.size W w''):=fun w' hb=>(listF_flows (h.later hb).f hk.ok.rise (by omega)).mono fun _ _ ⟨v,q1,q2,q3⟩=>⟨v,q1,q2,below_then hb q3⟩
 have HTX:Hid (∀w' v,Below W.heap.size W w'→Flows1 w' v S.L→Calls Tryz.prog 163 #[.int .i64 (S.ep+1),v] w' fun r w''=>r=.returned (.tuple #[.string (Lh.bt (Lh.textL (S.ep+1).toNat S.L)),.nilIface])∧Below W.heap.size W w''):=fun w' v hb hv=>(text_carry (S.ep+1) v S.L w' (he.later hb) hv (by omega) (flIn_of hk)).mono fun _ _ ⟨c,pl,q1,q2,q3⟩=>by
  obtain⟨rfl,rfl⟩:=caF_one q1 (caF_of hk (by omega) (by omega))
  rcases q3 with⟨_,rfl⟩|⟨h,_⟩
  ·exact⟨rfl,below_then hb q2⟩
  ·exact absurd rfl h
 have hw:IntKind.i64.wrap (S.ep+1)=S.ep+1:=by simp[IntKind.wrap,IntKind.signed,IntKind.bits];omega
 have H2:Hid (∀w',Below W.heap.size W w'→w'.cell? ⟨p,2,none⟩=some (.pointer (some ⟨fp,0,none⟩))):=fun w' hb=>(h.later hb).c2
 have H4:Hid (∀w',Below W.heap.size W w'→w'.cell? ⟨p,4,none⟩=some (.int .i64 S.ep)):=fun w' hb=>(h.later hb).c4
 have hp4:W.frozen? ⟨p,4,none⟩=false:=h.fz 4
 have hpl:=h.plt
 clear he h hk
 generalize Lh.bt (Lh.textL (S.ep+1).toNat S.L)=tx at *
 go_enter Tryz.func105,Tryz.ntmps105
 go_wp2_with fail
 go_region_held3 (fun w'=>Below W.heap.size W w'∧w'.cell? ⟨p,2,none⟩=some (.pointer (some ⟨fp,0,none⟩))∧w'.cell? ⟨p,4,none⟩=some (.int .i64 S.ep))
  (first|exact⟨by assumption,H2.out _ (by assumption),H4.out _ (by assumption)⟩|exact⟨below_drewN (Below.refl _ _) 1,H2.out _ (below_drewN (Below.refl _ _) 1),H4.out _ (below_drewN (Below.refl _ _) 1)⟩)
  (first
   | (go_at_call 161;refine (HLI.out _ (by first|assumption|exact below_drewN (Below.refl _ _) 1)).mono ?_;rintro e w1 ⟨v,rfl,hv,hb1⟩)
   | (go_at_call 163;refine (HTX.out _ _ (by assumption) (by assumption)).mono ?_;rintro e w2 ⟨rfl,hb2⟩))
 all_goals
  have hB:=HH.out.later hb2
  have HB:Hid (BR w2 p hp fp fm db bs lv S):=hB
  have c4:=hB.c4
  have f4:=hB.fz 4
  have HB2:Hid (Below W.heap.size W w2):=hb2
  clear hB
  go_wp2
  go_ret2
  exact⟨rfl,HB.out.epoch _,(Tur.of_below HB2.out).setCell _ (Or.inl (Or.inl rfl)) _⟩
theorem export_bad (a:Nat→Addr)(he:EC a W)(h:BR W p hp fp fm db bs lv S)(hk:Lh.BOk S)(hep:¬S.ep<1099511627776) :
  Calls Tryz.prog 105 #[.pointer (some ⟨p,0,none⟩)] W fun e w'=>e=.returned (.tuple #[.string ByteArray.empty,.iface 378 (.pointer (some (a 1)))])∧Below W.heap.size W w':=by
 have h1:=hk.ep1
 have hlen:S.L.length≤200:=hk.ok.len
 have HLI:Hid (∀w',Below W.heap.size W w'→Calls Tryz.prog 161 #[.pointer (some ⟨fp,0,none⟩)] w' fun e w''=>∃q c,e=.returned (.slice q S.L.length c)∧Below W.heap.size W w''):=fun w' hb=>(listF_flows (h.later hb).f hk.ok.rise (by omega)).mono fun _ _ ⟨v,q1,q2,q3⟩=>by
  obtain⟨q,c,rfl⟩:=q2.shape
  exact⟨q,c,q1,below_then hb q3⟩
 have HTX:Hid (∀w' q c,Below W.heap.size W w'→Calls Tryz.prog 163 #[.int .i64 (S.ep+1),.slice q S.L.length c] w' fun r w''=>r=.returned (.tuple #[.string ByteArray.empty,.iface 378 (.pointer (some (a 1)))])∧Below W.heap.size W w''):=fun w' q c hb=>(text_bound (S.ep+1) q _ c w' (he.later hb) (by omega)).mono fun _ _ ⟨q1,q2⟩=>by
  subst q2
  exact⟨q1,hb⟩
 have hw:IntKind.i64.wrap (S.ep+1)=S.ep+1:=by simp[IntKind.wrap,IntKind.signed,IntKind.bits];omega
 have H2:Hid (∀w',Below W.heap.size W w'→w'.cell? ⟨p,2,none⟩=some (.pointer (some ⟨fp,0,none⟩))):=fun w' hb=>(h.later hb).c2
 have H4:Hid (∀w',Below W.heap.size W w'→w'.cell? ⟨p,4,none⟩=some (.int .i64 S.ep)):=fun w' hb=>(h.later hb).c4
 clear he h hk
 go_enter Tryz.func105,Tryz.ntmps105
 go_wp2_with fail
 go_region_held3 (fun w'=>Below W.heap.size W w'∧w'.cell? ⟨p,2,none⟩=some (.pointer (some ⟨fp,0,none⟩))∧w'.cell? ⟨p,4,none⟩=some (.int .i64 S.ep))
  (first|exact⟨by assumption,H2.out _ (by assumption),H4.out _ (by assumption)⟩|exact⟨below_drewN (Below.refl _ _) 1,H2.out _ (below_drewN (Below.refl _ _) 1),H4.out _ (below_drewN (Below.refl _ _) 1)⟩)
  (first
   | (go_at_call 161;refine (HLI.out _ (by first|assumption|exact below_drewN (Below.refl _ _) 1)).mono ?_;rintro e w1 ⟨q,c,rfl,hb1⟩)
   | (go_at_call 163;refine (HTX.out _ _ _ (by assumption)).mono ?_;rintro e w2 ⟨rfl,hb2⟩))
 all_goals
  go_wp2
  go_ret2
  exact⟨rfl,hb2⟩
end
end Go.Proofs.YtfhmfjcpggddkaaGreatDoor
namespace Go.Proofs.YtfhmfjcpggddkaaGreatDoor
open Go.RowKit
theorem look_bal (a:Nat→Addr)(S:Lh.Bl)(F:Nat→Prop)(p:Nat)(s:ByteArray)(well:Bool)(W:World)(he:EB a W)(hR:RepB S F p W)(hk:Lh.BOk S) :
  Calls Tryz.prog 48 #[.pointer (some ⟨p,0,none⟩),.string s,.bool well] W fun e W'=>∃F' S' turned c ev,(∀b,F' b→F b∨W.heap.size≤b)∧Tur F W W'∧e=.returned (.tuple #[.bool turned,ev])∧EvOf a c ev∧LookR S s well S' turned c∧RepB S' F' p W':=by
 obtain⟨hp,fp,fm,db,bs,lv,h,rfl,hg⟩:=hR
 by_cases hx:Lh.hix S.hs s<S.hs.length
 ·refine (look_good a he.e5.four h hk s well hx).mono ?_
  rintro e W' ⟨rfl,hB,hT⟩
  exact⟨_,_,_,0,_,fun b hb=>Or.inl hb,hT,rfl,Or.inl ⟨rfl,rfl⟩,Or.inl ⟨hx,rfl,rfl,rfl⟩,hp,fp,fm,db,bs,lv,hB,rfl,hg⟩
 ·refine (look_none a he.e5.four h hk s well hx).mono ?_
  rintro e W' ⟨rfl,hB,hT⟩
  exact⟨_,S,false,5,_,fun b hb=>Or.inl hb,hT.health,rfl,Or.inr ⟨4,rfl,rfl⟩,Or.inr ⟨hx,rfl,rfl,rfl⟩,hp,fp,fm,db,bs,lv,hB,rfl,hg⟩
theorem export_bal (a:Nat→Addr)(S:Lh.Bl)(F:Nat→Prop)(p:Nat)(W:World)(hx:EC a W)(hR:RepB S F p W)(hk:Lh.BOk S) :
  Calls Tryz.prog 105 #[.pointer (some ⟨p,0,none⟩)] W fun e W'=>∃F' S' s c ev,(∀b,F' b→F b∨W.heap.size≤b)∧Tur F W W'∧e=.returned (.tuple #[.string s,ev])∧EvOf a c ev∧ExportR S S' s c∧RepB S' F' p W':=by
 obtain⟨hp,fp,fm,db,bs,lv,h,rfl,hg⟩:=hR
 by_cases hep:S.ep<1099511627776
 ·refine (export_good a hx h hk hep).mono ?_
  rintro e W' ⟨rfl,hB,hT⟩
  exact⟨_,_,_,0,_,fun b hb=>Or.inl hb,hT,rfl,Or.inl ⟨rfl,rfl⟩,Or.inl ⟨hep,rfl,rfl,rfl⟩,hp,fp,fm,db,bs,lv,hB,rfl,hg⟩
 ·refine (export_bad a hx h hk hep).mono ?_
  rintro e W' ⟨rfl,hb⟩
  exact⟨_,S,ByteArray.empty,2,_,fun b hb=>Or.inl hb,Tur.of_below hb,rfl,Or.inr ⟨1,rfl,rfl⟩,Or.inr ⟨hep,rfl,rfl,rfl⟩,hp,fp,fm,db,bs,lv,h.later hb,rfl,hg⟩
end Go.Proofs.YtfhmfjcpggddkaaGreatDoor
namespace Go.Proofs.YtfhmfjcpggddkaaGreatDoor
open Go.RowKit Lh
structure EA (a:Nat→Addr)(W:World):Prop where
 b:EB a W
 c:EC a W
 t:ErrT a W
theorem EA.later {a:Nat→Addr}{W W':World}(h:EA a W)(hb:Below W.heap.size W W'):EA a W':=⟨h.b.later hb,h.c.later hb,h.t.later hb⟩
theorem EA.e4 {a:Nat→Addr}{W:World}(h:EA a W):Errs4 a W:=h.b.e5.four
structure PlY (S:Sc)(F:Nat→Prop)(p r g cap:Nat)(W:World):Prop where
 c0:W.cell? ⟨p,0,none⟩=some (.pointer (some ⟨r,0,none⟩))
 c1:W.cell? ⟨p,1,none⟩=some (.slice (some ⟨g,0,none⟩) S.hosts.length cap)
 c2:W.cell? ⟨p,2,none⟩=some (.int .i64 S.now)
 rep:RepB S.b F r W
 hst:∀k (h:k<S.hosts.length),W.cell? ⟨g,k,none⟩=some (.string S.hosts[k])
 cp:S.hosts.length≤cap
 gF:¬F g
 gp:g≠p
 gl:p+3<g
structure PlN (p:Nat)(W:World):Prop where
 c0:W.cell? ⟨p,0,none⟩=some (.pointer none)
 c1:W.cell? ⟨p,1,none⟩=some (.slice none 0 0)
 c2:W.cell? ⟨p,2,none⟩=some (.int .i64 0)
structure PlC (w0:World)(a:Nat→Addr)(p q m:Nat)(F:Nat→Prop)(W:World):Prop where
 e:EA a w0
 b:Below w0.heap.size w0 W
 map:MapIs W m (cmTab q)
 q0:W.cell? ⟨q,0,none⟩=some (.pointer (some ⟨p,0,none⟩))
 pK:w0.heap.size≤p
 qp:q≠p
 mp:m≠p
 pl:p<W.heap.size
 pl3:p+3<W.heap.size
 fz:∀k,W.frozen? ⟨p,k,none⟩=false
 F0:∀b,F b→w0.heap.size≤b∧b≠p∧b≠q∧b≠m
def PlIs (st:Option Sc)(F:Nat→Prop)(p:Nat)(W:World):Prop:=(st=none∧PlN p W)∨∃S r g cap,st=some S∧PlY S F p r g cap W
section
variable {w0 W W':World} {a:Nat→Addr} {p q m r g cap:Nat} {F F':Nat→Prop} {S:Sc}
theorem foot_cellS {F:Nat→Prop}(hT:Tur F W W'){b i:Nat}{v:Value}(hx:¬F b)(h:W.cell? ⟨b,i,none⟩=some v):W'.cell? ⟨b,i,none⟩=some v :=
 (World.cell?_of_block (w:=W) (w':=W') (a:=⟨b,i,none⟩) (hT.block b (World.block_lt_of_cell? W _ h) hx)).trans h
theorem PlC.ea (h:PlC w0 a p q m F W):EA a W:=h.e.later h.b
theorem PlC.tur (h:PlC w0 a p q m F W)(hT:Tur (fun b=>F b∨b=p) W W')(hF:∀b,F' b→F b∨W.heap.size≤b)(hz:∀k,W'.frozen? ⟨p,k,none⟩=false):PlC w0 a p q m F' W':=by
 have hm:=h.map.lt
 have hq:=World.block_lt_of_cell? W _ h.q0
 simp only at hq
 have hs:=h.b.size
 refine⟨h.e,hT.below (fun b hb=>?_) h.b (Nat.le_refl _),h.map.same (hT.block m hm fun hf=>?_),?_,h.pK,h.qp,h.mp,Nat.lt_of_lt_of_le h.pl hT.size,Nat.lt_of_lt_of_le h.pl3 hT.size,hz,fun b hb=>?_⟩
 ·rcases hb with hb|rfl
  ·exact (h.F0 b hb).1
  ·exact h.pK
 ·rcases hf with hf|hf
  ·exact (h.F0 m hf).2.2.2 rfl
  ·exact h.mp hf
 ·refine (World.cell?_of_block (w:=W) (w':=W') (a:=⟨q,0,none⟩) (hT.block q hq fun hf=>?_)).trans h.q0
  rcases hf with hf|hf
  ·exact (h.F0 q hf).2.2.1 rfl
  ·exact h.qp hf
 ·have hpl:=h.pl
  rcases hF b hb with hb|hb
  ·exact h.F0 b hb
  ·exact⟨by omega,by omega,by omega,by omega⟩
theorem PlC.later (h:PlC w0 a p q m F W)(hb:Below W.heap.size W W'):PlC w0 a p q m F W' :=
 h.tur (Tur.of_below hb) (fun _ hb=>Or.inl hb) fun k=>(World.frozen?_of_block (w:=W) (w':=W') (a:=⟨p,k,none⟩) (hb.block p h.pl)).trans (h.fz k)
theorem PlY.glt (h:PlY S F p r g cap W)(hn:S.hosts≠[]):g<W.heap.size:=World.block_lt_of_cell? W _ (h.hst 0 (List.length_pos_iff.2 hn))
theorem PlY.strs (h:PlY S F p r g cap W):Strs1 W (.slice (some ⟨g,0,none⟩) S.hosts.length cap) S.hosts:=Or.inr ⟨g,0,cap,rfl,h.cp,fun k hk=>by rw[Nat.zero_add];exact h.hst k hk⟩
theorem PlY.turned (h:PlY S F p r g cap W)(hp:¬F p)(hn:S.hosts≠[])(hT:Tur F W W')(hF:∀b,F' b→F b∨W.heap.size≤b){b':Bl}(hR:RepB b' F' r W'):PlY { S with b:=b' } F' p r g cap W':=by
 have hg:=h.glt hn
 refine⟨foot_cellS hT hp h.c0,foot_cellS hT hp h.c1,foot_cellS hT hp h.c2,hR,fun k hk=>foot_cellS hT h.gF (h.hst k hk),h.cp,fun hf=>?_,h.gp,h.gl⟩
 rcases hF g hf with q|q
 ·exact h.gF q
 ·omega
theorem PlY.later (h:PlY S F p r g cap W)(hp:¬F p)(hn:S.hosts≠[])(hb:Below W.heap.size W W'):PlY S F p r g cap W' :=
 h.turned hp hn (Tur.of_below hb) (fun _ hb=>Or.inl hb) (h.rep.stay fun b hf=>hb.block b (h.rep.lt b hf))
theorem PlN.later (h:PlN p W)(hb:Below W.heap.size W W'):PlN p W':=⟨below_cell hb h.c0,below_cell hb h.c1,below_cell hb h.c2⟩
end
structure ScriptC where
 E:(Nat→Addr)→World→Prop
 eLater:∀ {a:Nat→Addr} {W W':World},E a W→Below W.heap.size W W'→E a W'
 nw:List ByteArray→Nat→Nat→ByteArray
 nwIn:∀ {xs:List ByteArray} {n:Nat} (k:Nat),xs≠[]→Lh.Prm n→nw xs n k∈xs
 run:∀(a:Nat→Addr) (v:Value) (ls:List ByteArray) (W:World),E a W→Strs1 W v ls→ls.length≤100→(∀s∈ls,s.size≤5000) →
  Calls Tryz.prog 7 #[v] W fun e W'=>∃(rs:List (List UInt8)) (st:Option Sc) (v':Value),e=.returned (.tuple #[v',.nilIface])∧Strs1 W' v' (rs.map bt)∧LinesR nw none (ls.map tx) rs st∧Below W.heap.size W W'
 many:∀(a:Nat→Addr) (v:Value) (ls:List ByteArray) (W:World),E a W→Strs1 W v ls→100<ls.length→ls.length≤1000 →
  Calls Tryz.prog 7 #[v] W fun e W'=>∃p c,e=.returned (.tuple #[.slice p 0 c,.iface 378 (.pointer (some (a 1)))])∧Below W.heap.size W W'
def helloL:List (List UInt8):=[[117,112],[104,111,115,116,115,32,120],[112,105,99,107,32,53],[112,105,99,107,32,53],[117,112]]
def helloA:List (List UInt8):=[errT 5,tOk,[120]++tNew,[120]++tKept,[120]]
def nX:ByteArray:=bt [120]
theorem cm_up:cmOf [117,112]=some ⟨wUp,[],[]⟩:=by rfl
theorem cm_hosts:cmOf [104,111,115,116,115,32,120]=some ⟨wHosts,[nX],[]⟩:=by rfl
theorem cm_pick:cmOf [112,105,99,107,32,53]=some ⟨wPick,[],[5]⟩:=by rfl
theorem word_is {s:ByteArray}{w:List UInt8}(h:tx s=w):(s.toList==w)=true:=by
 subst h
 rw[beq_iff_eq]
 exact ByteArray.toList_eq s
theorem word_not {s:ByteArray}{w:List UInt8}(h:tx s≠w):(s.toList==w)=false:=by
 rw[beq_eq_false_iff_ne]
 intro e
 exact h (by rw[←e];exact (ByteArray.toList_eq s).symm)
theorem formOf_any (s:ByteArray)(W:World) :
  Calls Tryz.prog 9 #[.string s] W fun e w'=>∃h n is,e=.returned (.tuple #[.int .i64 h,.int .i64 ((n:Nat):Int),.bool is])∧((is=true∧formW (tx s)=some (h,n))∨(is=false∧formW (tx s)=none))∧Below W.heap.size W w':=by
 by_cases h0:tx s=wHosts
 ·have q0:=word_is h0
  unfold wHosts at q0
  have HF:Hid (formW (tx s)=some (-1,0)):=by
   show _=_
   rw[h0]
   decide
  clear h0
  go_enter Tryz.func9,Tryz.ntmps9
  go_wp2
  go_ret3
  exact⟨(-1),0,true,rfl,Or.inl ⟨rfl,HF.out⟩,Below.refl _ _⟩
 have q0:=word_not h0
 unfold wHosts at q0
 by_cases h1:tx s=wMoves
 ·have q1:=word_is h1
  unfold wMoves at q1
  have HF:Hid (formW (tx s)=some (-1,1)):=by
   show _=_
   rw[h1]
   decide
  clear h1
  go_enter Tryz.func9,Tryz.ntmps9
  go_wp2
  go_ret3
  exact⟨(-1),1,true,rfl,Or.inl ⟨rfl,HF.out⟩,Below.refl _ _⟩
 have q1:=word_not h1
 unfold wMoves at q1
 by_cases h2:tx s=wTable
 ·have q2:=word_is h2
  unfold wTable at q2
  have HF:Hid (formW (tx s)=some (0,1)):=by
   show _=_
   rw[h2]
   decide
  clear h2
  go_enter Tryz.func9,Tryz.ntmps9
  go_wp2
  go_ret3
  exact⟨0,1,true,rfl,Or.inl ⟨rfl,HF.out⟩,Below.refl _ _⟩
 have q2:=word_not h2
 unfold wTable at q2
 by_cases h3:tx s=wRival
 ·have q3:=word_is h3
  unfold wRival at q3
  have HF:Hid (formW (tx s)=some (0,1)):=by
   show _=_
   rw[h3]
   decide
  clear h3
  go_enter Tryz.func9,Tryz.ntmps9
  go_wp2
  go_ret3
  exact⟨0,1,true,rfl,Or.inl ⟨rfl,HF.out⟩,Below.refl _ _⟩
 have q3:=word_not h3
 unfold wRival at q3
 by_cases h4:tx s=wPick
 ·have q4:=word_is h4
  unfold wPick at q4
  have HF:Hid (formW (tx s)=some (0,1)):=by
   show _=_
   rw[h4]
   decide
  clear h4
  go_enter Tryz.func9,Tryz.ntmps9
  go_wp2
  go_ret3
  exact⟨0,1,true,rfl,Or.inl ⟨rfl,HF.out⟩,Below.refl _ _⟩
 have q4:=word_not h4
 unfold wPick at q4
 by_cases h5:tx s=wTick
 ·have q5:=word_is h5
  unfold wTick at q5
  have HF:Hid (formW (tx s)=some (0,1)):=by
   show _=_
   rw[h5]
   decide
  clear h5
  go_enter Tryz.func9,Tryz.ntmps9
  go_wp2
  go_ret3
  exact⟨0,1,true,rfl,Or.inl ⟨rfl,HF.out⟩,Below.refl _ _⟩
 have q5:=word_not h5
 unfold wTick at q5
 by_cases h6:tx s=wRing
 ·have q6:=word_is h6
  unfold wRing at q6
  have HF:Hid (formW (tx s)=some (0,2)):=by
   show _=_
   rw[h6]
   decide
  clear h6
  go_enter Tryz.func9,Tryz.ntmps9
  go_wp2
  go_ret3
  exact⟨0,2,true,rfl,Or.inl ⟨rfl,HF.out⟩,Below.refl _ _⟩
 have q6:=word_not h6
 unfold wRing at q6
 by_cases h7:tx s=wJump
 ·have q7:=word_is h7
  unfold wJump at q7
  have HF:Hid (formW (tx s)=some (0,2)):=by
   show _=_
   rw[h7]
   decide
  clear h7
  go_enter Tryz.func9,Tryz.ntmps9
  go_wp2
  go_ret3
  exact⟨0,2,true,rfl,Or.inl ⟨rfl,HF.out⟩,Below.refl _ _⟩
 have q7:=word_not h7
 unfold wJump at q7
 by_cases h8:tx s=wLook
 ·have q8:=word_is h8
  unfold wLook at q8
  have HF:Hid (formW (tx s)=some (1,1)):=by
   show _=_
   rw[h8]
   decide
  clear h8
  go_enter Tryz.func9,Tryz.ntmps9
  go_wp2
  go_ret3
  exact⟨1,1,true,rfl,Or.inl ⟨rfl,HF.out⟩,Below.refl _ _⟩
 have q8:=word_not h8
 unfold wLook at q8
 by_cases h9:tx s=wDrain
 ·have q9:=word_is h9
  unfold wDrain at q9
  have HF:Hid (formW (tx s)=some (1,1)):=by
   show _=_
   rw[h9]
   decide
  clear h9
  go_enter Tryz.func9,Tryz.ntmps9
  go_wp2
  go_ret3
  exact⟨1,1,true,rfl,Or.inl ⟨rfl,HF.out⟩,Below.refl _ _⟩
 have q9:=word_not h9
 unfold wDrain at q9
 by_cases h10:tx s=wUp
 ·have q10:=word_is h10
  unfold wUp at q10
  have HF:Hid (formW (tx s)=some (0,0)):=by
   show _=_
   rw[h10]
   decide
  clear h10
  go_enter Tryz.func9,Tryz.ntmps9
  go_wp2
  go_ret3
  exact⟨0,0,true,rfl,Or.inl ⟨rfl,HF.out⟩,Below.refl _ _⟩
 have q10:=word_not h10
 unfold wUp at q10
 by_cases h11:tx s=wFlows
 ·have q11:=word_is h11
  unfold wFlows at q11
  have HF:Hid (formW (tx s)=some (0,0)):=by
   show _=_
   rw[h11]
   decide
  clear h11
  go_enter Tryz.func9,Tryz.ntmps9
  go_wp2
  go_ret3
  exact⟨0,0,true,rfl,Or.inl ⟨rfl,HF.out⟩,Below.refl _ _⟩
 have q11:=word_not h11
 unfold wFlows at q11
 by_cases h12:tx s=wExport
 ·have q12:=word_is h12
  unfold wExport at q12
  have HF:Hid (formW (tx s)=some (0,0)):=by
   show _=_
   rw[h12]
   decide
  clear h12
  go_enter Tryz.func9,Tryz.ntmps9
  go_wp2
  go_ret3
  exact⟨0,0,true,rfl,Or.inl ⟨rfl,HF.out⟩,Below.refl _ _⟩
 have q12:=word_not h12
 unfold wExport at q12
 have HF:Hid (formW (tx s)=none):=by
  show _=_
  unfold formW
  simp only[h0,h1,h2,h3,h4,h5,h6,h7,h8,h9,h10,h11,h12,if_false,or_self]
 clear h0 h1 h2 h3 h4 h5 h6 h7 h8 h9 h10 h11 h12
 go_enter Tryz.func9,Tryz.ntmps9
 go_wp2
 go_ret3
 exact⟨0,0,false,rfl,Or.inr ⟨rfl,HF.out⟩,Below.refl _ _⟩
theorem errorText_any (c:Nat)(h1:1≤c)(h9:c≤9)(W:World):Calls Tryz.prog 10 #[.int .i64 (c:Nat)] W fun e w'=>e=.returned (.string (bt (errT c)))∧Below W.heap.size W w':=by
 have hb:∀o:Obj,Below W.heap.size W (W.alloc o):=fun o=>(Below.refl _ _).alloc (Nat.le_refl _) o
 have hc:c=1∨c=2∨c=3∨c=4∨c=5∨c=6∨c=7∨c=8∨c=9:=by omega
 clear h1 h9
 rcases hc with rfl|rfl|rfl|rfl|rfl|rfl|rfl|rfl|rfl
 all_goals
  go_enter Tryz.func10,Tryz.ntmps10
  go_wp2
  go_ret
  exact⟨rfl,hb _⟩
theorem x_ok:isNm nX=true∧nX.size≤300:=by decide
theorem x_fault:IsFault [nX] 0 (-1):=fault_of (by decide) (fun s hs=>by simp at hs;subst hs;exact x_ok.1) (by simp)
section
variable {nw:List ByteArray→Nat→Nat→ByteArray}
theorem line_cm {st st':Option Sc}{s a:List UInt8}{c:Cm}(h:LineR nw st s st' a)(hc:cmOf s=some c):CmR nw st c st' a:=by
 rcases h with⟨q,_⟩|⟨c',q,h⟩
 ·rw[hc] at q;cases q
 ·rw[hc] at q
  injection q with e
  subst e
  exact h
theorem up_none {st':Option Sc}{a:List UInt8}(h:CmR nw none ⟨wUp,[],[]⟩ st' a):st'=none∧a=errT 5:=by
 rcases h with⟨w,_⟩|⟨w,_⟩|⟨_,_,_,rfl,rfl⟩|⟨_,_,S,h,_⟩
 ·exact absurd w (by decide)
 ·exact absurd w (by decide)
 ·exact⟨rfl,rfl⟩
 ·cases h
theorem hosts_x {st st':Option Sc}{a:List UInt8}(h:CmR nw st ⟨wHosts,[nX],[]⟩ st' a):st'=some ⟨[nX],newB [nX],0⟩∧a=tOk:=by
 rcases h with⟨_,e,pl,hf,hh⟩|⟨w,_⟩|⟨w,_⟩|⟨w,_⟩
 ·obtain⟨rfl,_⟩:=isFault_one hf x_fault
  rcases hh with⟨q,_⟩|⟨_,rfl,rfl⟩
  ·exact absurd rfl q
  ·exact⟨rfl,rfl⟩
 ·exact absurd w (by decide)
 ·exact absurd rfl w
 ·exact absurd rfl w
theorem cm_bal {S:Sc}{st':Option Sc}{c:Cm}{a:List UInt8}(h:CmR nw (some S) c st' a)(h1:c.w≠wHosts)(h2:c.w≠wJump)(h3:c.w≠wTable)(h4:c.w≠wMoves)(h5:c.w≠wRing)(h6:c.w≠wRival):∃S',BalR nw S c S' a∧st'=some S':=by
 rcases h with⟨w,_⟩|⟨w,_⟩|⟨_,_,q,_⟩|⟨_,_,S1,q,hh⟩
 ·exact absurd w h1
 ·exact absurd w h2
 ·cases q
 ·injection q with e
  subst e
  rcases hh with h|⟨⟨w,_⟩|⟨w,_⟩|⟨w,_⟩|⟨w,_⟩,_⟩
  ·exact h
  ·exact absurd w h3
  ·exact absurd w h4
  ·exact absurd w h5
  ·exact absurd w h6
theorem bal_pick {S S':Sc}{c:Cm}{k:Nat}{a:List UInt8}(h:BalR nw S c S' a)(hw:c.w=wPick)(hN:c.N=[k]):∃b' s kept e,PickR nw S.b k S.now b' s kept e∧S'={ S with b:=b' }∧a=(if e=0 then tx s++(if kept then tKept else tNew) else errT e):=by
 rcases h with⟨_,k',b',s,kept,e,q,hp,rfl,rfl⟩|⟨w,_⟩|⟨w,_⟩|⟨w,_⟩|⟨w,_⟩|⟨w,_⟩|⟨w,_⟩
 ·obtain rfl:k'=k:=by simpa using q.symm.trans hN
  exact⟨b',s,kept,e,hp,rfl,rfl⟩
 all_goals exact absurd (w.symm.trans hw) (by decide)
theorem bal_up {S S':Sc}{c:Cm}{a:List UInt8}(h:BalR nw S c S' a)(hw:c.w=wUp):S'=S∧a=joinedS [32] ((hups S.b.hs).map tx):=by
 rcases h with⟨w,_⟩|⟨w,_⟩|⟨w,_⟩|⟨w,_⟩|⟨_,rfl,rfl⟩|⟨w,_⟩|⟨w,_⟩
 case inr.inr.inr.inr.inl=>exact⟨rfl,rfl⟩
 all_goals exact absurd (w.symm.trans hw) (by decide)
theorem hello_ans (hnw:∀ {xs:List ByteArray} {n:Nat} (k:Nat),xs≠[]→Lh.Prm n→nw xs n k∈xs){rs:List (List UInt8)}{st:Option Sc}(h:LinesR nw none helloL rs st):rs=helloA:=by
 obtain⟨s1,a1,r1,h1,rfl,s2,a2,r2,h2,rfl,s3,a3,r3,h3,rfl,s4,a4,r4,h4,rfl,s5,a5,r5,h5,rfl,rfl,_⟩:=h
 obtain⟨rfl,rfl⟩:=up_none (line_cm h1 cm_up)
 obtain⟨rfl,rfl⟩:=hosts_x (line_cm h2 cm_hosts)
 obtain⟨S3,hb3,rfl⟩:=cm_bal (line_cm h3 cm_pick) (by decide) (by decide) (by decide) (by decide) (by decide) (by decide)
 obtain⟨b3,t3,k3,e3,hp3,rfl,rfl⟩:=bal_pick hb3 rfl rfl
 have ho:bopen (newB [nX])=[nX]:=by decide
 have hno:∀z,¬BKeeps (newB [nX]) 5 0 z:=fun z ⟨h,_⟩=>absurd h (by simp[newB])
 obtain⟨ht,rfl,rfl,rfl⟩:=PickR.new hp3 ⟨by decide,by decide,by decide⟩ hno (by rw[ho];simp)
 have htx:t3=nX:=by
  rw[ht]
  have:=hnw (xs:=bopen (newB [nX])) (n:=31) 5 (by rw[ho];simp) prm31
  rw[ho] at this ⊢
  show nw [nX] 31 5=nX
  simpa using this
 subst htx
 obtain⟨S4,hb4,rfl⟩:=cm_bal (line_cm h4 cm_pick) (by decide) (by decide) (by decide) (by decide) (by decide) (by decide)
 obtain⟨b4,t4,k4,e4,hp4,rfl,rfl⟩:=bal_pick hb4 rfl rfl
 have hL:fput 20 [] 5 nX 0=[(5,nX,20)]:=by rfl
 have hkp:BKeeps { newB [nX] with la:=0,L:=fput (newB [nX]).t (newB [nX]).L 5 nX 0 } 5 0 nX:=by
  show BKeeps { newB [nX] with la:=0,L:=fput 20 [] 5 nX 0 } 5 0 nX
  rw[hL]
  exact⟨by decide,by decide,rfl,by decide⟩
 obtain⟨rfl,rfl,rfl,rfl⟩:=PickR.keep hp4 ⟨by decide,by decide,by decide⟩ hkp
 obtain⟨S5,hb5,rfl⟩:=cm_bal (line_cm h5 cm_up) (by decide) (by decide) (by decide) (by decide) (by decide) (by decide)
 obtain⟨rfl,rfl⟩:=bal_up hb5 rfl
 rfl
end
theorem hello_any (hS:ScriptC)(a:Nat→Addr)(w:World)(he:hS.E a w) :
  Calls Tryz.prog 6 #[] w fun e w'=>e=.returned (.bool true)∧Below w.heap.size w w':=by
 obtain⟨wA,hwA⟩:∃wA,wA=w.alloc (.cells #[.string ⟨#[117,112]⟩,.string ⟨#[104,111,115,116,115,32,120]⟩,.string ⟨#[112,105,99,107,32,53]⟩,.string ⟨#[112,105,99,107,32,53]⟩,.string ⟨#[117,112]⟩] 9):=⟨_,rfl⟩
 have hbA:Below w.heap.size w wA:=by rw[hwA];exact (Below.refl _ _).alloc (Nat.le_refl _) _
 have hst:Strs1 wA (.slice (some ⟨w.heap.size,0,none⟩) 5 5) (helloL.map bt):=Or.inr ⟨w.heap.size,0,5,rfl,by decide,fun k hk=>by
  have:k=0∨k=1∨k=2∨k=3∨k=4:=by simp[helloL] at hk;omega
  rw[hwA]
  rcases this with rfl|rfl|rfl|rfl|rfl<;>simp[helloL,bt]⟩
 have hrun:=hS.run a _ (helloL.map bt) wA (hS.eLater he hbA) hst (by decide) (by decide)
 have htx:(helloL.map bt).map tx=helloL:=by rfl
 rw[htx] at hrun
 have HNW:Hid (∀ {rs:List (List UInt8)} {st:Option Sc},LinesR hS.nw none helloL rs st→rs=helloA):=fun h=>hello_ans (fun k h1 h2=>hS.nwIn k h1 h2) h
 clear he hst htx
 go_enter Tryz.func6,Tryz.ntmps6
 go_wp2_with fail
 rw[←hwA]
 refine hrun.mono ?_
 rintro e w1 ⟨rs,st,v1,rfl,hv1,hR,hb1⟩
 obtain rfl:=HNW.out hR
 have hbw1:=below_then hbA hb1
 have HV1:Hid (Strs1 w1 v1 (helloA.map bt)):=hv1
 clear hrun hR hv1 hb1 hbA hwA HNW
 go_wp2_with fail
 obtain⟨wB,hwB⟩:∃wB,wB=w1.alloc (.cells #[.string ⟨#[108,101,118,101,108,104,97,110,100,58,32,110,111,110,101]⟩,.string ⟨#[111,107]⟩,.string ⟨#[120,32,110,101,119]⟩,.string ⟨#[120,32,107,101,112,116]⟩,.string ⟨#[120]⟩] 9):=⟨_,rfl⟩
 have hbB:Below w1.heap.size w1 wB:=by rw[hwB];exact (Below.refl _ _).alloc (Nat.le_refl _) _
 have hsB:Strs wB (.slice (some ⟨w1.heap.size,0,none⟩) 5 5) (helloA.map bt):=Or.inr ⟨w1.heap.size,0,5,rfl,by decide,fun k hk=>by
  have:k=0∨k=1∨k=2∨k=3∨k=4:=by simp[helloA] at hk;omega
  rw[hwB]
  rcases this with rfl|rfl|rfl|rfl|rfl<;>simp[helloA,bt,errT,tLev,tOk,tNew,tKept]⟩
 rw[←hwB]
 refine (sameTexts_any v1 _ (helloA.map bt) (helloA.map bt) wB (HV1.out.later hbB).strs hsB (by decide) (by decide)).mono ?_
 rintro e w2 ⟨rfl,hb2⟩
 have hbw2:=below_then (below_then hbw1 hbB) hb2
 clear hsB hbB hb2 hwB
 rw[decide_eq_true rfl]
 go_wp2
 go_ret
 exact⟨rfl,hbw2⟩
theorem isFault_le {xs:List ByteArray}{c:Nat}{pl:Int}(h:IsFault xs c pl):c≤9:=by
 rcases h with⟨_,rfl,_⟩|⟨_,i,hi,_,_,⟨_,rfl⟩|⟨_,_,rfl⟩⟩|⟨_,_,rfl,_⟩<;>decide
theorem tabFault_le {xs:List ByteArray}{n:Int}{c:Nat}{pl:Int}(h:TabFault xs n c pl):c≤9:=by
 rcases h with⟨_,rfl,_⟩|⟨_,hf,_⟩|⟨_,_,hs,_⟩
 ·decide
 ·exact isFault_le hf
 ·rcases hs with⟨_,rfl⟩|⟨m,_,_,_,⟨_,rfl⟩|⟨_,rfl⟩⟩<;>decide
theorem textL_long (e:Nat)(l:List Fl):13≤(textL e l).length:=by
 unfold textL sumL
 have:=hexL_len 8 (crcL (bodyL e l))
 simp only[List.length_append,List.length_cons,List.length_nil,joinL,sumW,this]
 omega
section
variable {nw:List ByteArray→Nat→Nat→ByteArray}
theorem pickR_e {S S':Lh.Bl}{k:Nat}{now:Int}{s:ByteArray}{kept:Bool}{c:Nat}(h:PickR nw S k now S' s kept c):c≤9:=by
 rcases h with⟨j,hf,_,_,_,rfl⟩|⟨_,_,_,rfl,_⟩|⟨_,_,_,_,_,rfl,_⟩|⟨_,_,_,_,_,rfl,_⟩
 ·rcases hf with⟨_,rfl⟩|⟨_,_,_,rfl⟩<;>decide
 all_goals decide
end
theorem strs1_sl {w:World}{v:Value}{xs:List ByteArray}(h:Strs1 w v xs):∃q c,v=.slice q xs.length c∧∀j (h:j<xs.length),∃b o,q=some ⟨b,o,none⟩∧w.cell? ⟨b,o+j,none⟩=some (.string xs[j]):=by
 rcases h with⟨rfl,rfl|⟨ad,c,rfl⟩⟩|⟨b,o,c,rfl,_,hc⟩
 ·exact⟨_,_,rfl,fun k hk=>absurd hk (Nat.not_lt_zero k)⟩
 ·exact⟨_,_,rfl,fun k hk=>absurd hk (Nat.not_lt_zero k)⟩
 ·exact⟨_,c,rfl,fun k hk=>⟨b,o,rfl,hc k hk⟩⟩
def flatB (ws:List (List UInt8)):List UInt8:=ws.flatMap fun x=>32 :: x
theorem flatB_snoc (ws:List (List UInt8))(x:List UInt8):flatB (ws++[x])=flatB ws++32 :: x:=by simp[flatB]
theorem join_flat:∀(ws:List (List UInt8)) (w:List UInt8),joinL 32 (w :: ws)=w++flatB ws
 | [],w=>by simp[joinL,flatB]
 | x :: ws,w=>by
  have:=join_flat ws x
  show w++32 :: joinL 32 (x :: ws)=_
  rw[this]
  simp[flatB]
theorem flatB_len:∀ {ws:List (List UInt8)} {m:Nat},(∀x∈ws,x.length≤m)→(flatB ws).length≤ws.length*(m+1)
 | [],_,_=>by simp[flatB]
 | x :: ws,m,h=>by
  have h1:=flatB_len (ws:=ws) fun z hz=>h z (by simp[hz])
  have h2:=h x (by simp)
  have h3:(flatB (x :: ws)).length=x.length+1+(flatB ws).length:=by simp[flatB];omega
  rw[h3,List.length_cons,Nat.succ_mul]
  omega
structure LineIn (W:World)(w:ByteArray)(hv nv:Value)(H:List ByteArray)(N:List Int):Prop where
 h:Strs1 W hv H
 n:Ints W nv N
 ws:w.size≤60
 hl:H.length≤30
 hs:∀s∈H,s.size≤60
 nl:N.length≤5
def LineOut (w:ByteArray)(H:List ByteArray)(N:List Int)(W:World)(e:Ending)(w':World):Prop:=∃s is,e=.returned (.tuple #[.string s,.bool is])∧(is=false∨∃c hh n,is=true∧CmOk c hh n∧c.w=tx w∧c.H=H∧N=c.N.map Int.ofNat∧s=bt (lineL c))∧Below W.heap.size W w'
theorem lineOf_any (w:ByteArray)(hv nv:Value)(H:List ByteArray)(N:List Int)(W:World)(hI:LineIn W w hv nv H N) :
  Calls Tryz.prog 12 #[.agg #[.string w,hv,nv]] W fun e w'=>LineOut w H N W e w':=by
 obtain⟨hh,hn,hws,hhl,hhs,hnl⟩:=hI
 obtain⟨hp,hc,rfl,hx⟩:=strs1_sl hh
 obtain⟨np,nc,rfl,hy⟩:∃q c,nv=.slice q N.length c∧∀j (h:j<N.length),∃b o,q=some ⟨b,o,none⟩∧W.cell? ⟨b,o+j,none⟩=some (.int .i64 N[j]):=by
  rcases hn with⟨rfl,p,c,rfl⟩|⟨b,o,c,rfl,hc⟩
  ·exact⟨p,c,rfl,fun k hk=>absurd hk (Nat.not_lt_zero k)⟩
  ·exact⟨_,c,rfl,fun k hk=>⟨b,o,rfl,hc k hk⟩⟩
 obtain⟨wa,hwa⟩:∃wa,wa=W.alloc (.cells #[.string w,.slice hp H.length hc,.slice np N.length nc] 36):=⟨_,rfl⟩
 have hba:Below W.heap.size W wa:=by rw[hwa];exact (Below.refl _ _).alloc (Nat.le_refl _) _
 have k0:wa.cell? ⟨W.heap.size,0,none⟩=some (.string w):=by rw[hwa];simp
 have k1:wa.cell? ⟨W.heap.size,1,none⟩=some (.slice hp H.length hc):=by rw[hwa];simp
 have k2:wa.cell? ⟨W.heap.size,2,none⟩=some (.slice np N.length nc):=by rw[hwa];simp
 have hfo:=formOf_any w wa
 have HX:Hid (∀j (h:j<H.length),∃b o,hp=some ⟨b,o,none⟩∧W.cell? ⟨b,o+j,none⟩=some (.string H[j])):=hx
 have HY:Hid (∀j (h:j<N.length),∃b o,np=some ⟨b,o,none⟩∧W.cell? ⟨b,o+j,none⟩=some (.int .i64 N[j])):=hy
 have HHS:Hid (∀s∈H,s.size≤60):=hhs
 have HBA:Hid (Below W.heap.size W wa):=hba
 clear hh hn hx hy hhs hba
 go_enter Tryz.func12,Tryz.ntmps12
 go_wp2_with fail
 rw[←hwa]
 refine hfo.mono ?_
 rintro e w1 ⟨h,n,is,rfl,hcase,hb1⟩
 have k01:=below_cell hb1 k0
 have k11:=below_cell hb1 k1
 have k21:=below_cell hb1 k2
 have hbw1:=below_then HBA.out hb1
 clear hfo k0 k1 k2 hwa hb1
 have HNO:Hid (∀W',Below W.heap.size W W'→LineOut w H N W (.returned (.tuple #[.string ByteArray.empty,.bool false])) W'):=fun W' hb=>⟨_,_,rfl,Or.inl rfl,hb⟩
 by_cases t0:is=false
 ·subst t0
  go_wp2
  go_ret2
  exact HNO.out _ hbw1
 obtain rfl:is=true:=by simpa using t0
 have hform:formW (tx w)=some (h,n):=by
  rcases hcase with⟨_,q⟩|⟨q,_⟩
  ·exact q
  ·cases q
 have HFM:Hid (formW (tx w)=some (h,n)):=hform
 clear t0 hcase hform
 by_cases t2:N.length=n
 rotate_left
 ·have t2':((N.length:Int) != (n:Int))=true:=by rw[bne_iff_ne];omega
  go_wp2
  go_ret2
  exact HNO.out _ hbw1
 have t2':((N.length:Int) != (n:Int))=false:=by rw[bne_eq_false_iff_eq];omega
 by_cases t3a:0≤h∧(H.length:Int)≠h
 ·have t3':decide (0≤h)=true:=by simpa using t3a.1
  have t4':((H.length:Int) != h)=true:=by rw[bne_iff_ne];exact t3a.2
  go_wp2
  go_ret2
  exact HNO.out _ hbw1
 by_cases t3b:h<0∧H.length=0
 ·have t3':decide (0≤h)=false:=by simp;omega
  have t5':decide (h<0)=true:=by simp;omega
  have t4':((H.length:Int)==0)=true:=by rw[beq_iff_eq];omega
  go_wp2
  go_ret2
  exact HNO.out _ hbw1
 have hgood:(decide (0≤h)=true∧decide (h<0)=false∧((H.length:Int) != h)=false)∨(decide (0≤h)=false∧decide (h<0)=true∧((H.length:Int)==0)=false):=by
  by_cases q:h<0
  ·exact Or.inr ⟨by simp;omega,by simp;omega,by rw[beq_eq_false_iff_ne];omega⟩
  ·exact Or.inl ⟨by simp;omega,by simp;omega,by rw[bne_eq_false_iff_eq];omega⟩
 have HG1:Hid (0≤h→(H.length:Int)=h):=fun q=>by omega
 have HG2:Hid (h<0→H≠[]):=fun q e=>by rw[e] at t3b;simp at t3b;omega
 have HH3:Hid (h = -1∨h=0∨(h=1∧n=1)):=form_three HFM.out
 have HT2:Hid (N.length=n):=t2
 have HB1:Hid (Below W.heap.size W w1):=hbw1
 have HK:Hid (∀W',Below w1.heap.size w1 W'→W'.cell? ⟨W.heap.size,0,none⟩=some (.string w)∧W'.cell? ⟨W.heap.size,1,none⟩=some (.slice hp H.length hc)∧W'.cell? ⟨W.heap.size,2,none⟩=some (.slice np N.length nc)):=fun W' hb=>⟨below_cell hb k01,below_cell hb k11,below_cell hb k21⟩
 clear t3a t3b t2 hbw1
 rcases hgood with⟨g1,g2,g3⟩|⟨g1,g2,g3⟩
 all_goals
  go_wp2_with fail
  go_loopw [7,8] (fun u7 u8 W'=>Below w1.heap.size w1 W'∧∃j:Nat,j≤H.length∧u8=.int .i64 (j:Nat)∧u7=.string (bt (flatB ((H.take j).map tx)))∧∀s∈H.take j,isNm s=true) (fun _ u8 _=>H.length - (intOf u8).toNat)
  case atStart=>exact⟨Below.refl _ _,0,Nat.zero_le _,rfl,rfl,fun s hs=>by simp at hs⟩
  case round =>
   obtain⟨hbr,j,hj,rfl,rfl,hnm⟩:=hrel
   obtain⟨wo,hwo⟩:∃wo,wo=wr:=⟨_,rfl⟩
   subst hwo
   obtain⟨k0,k1,k2⟩:=HK.out wo hbr
   have HNM:Hid (∀s∈H.take j,isNm s=true):=hnm
   clear hnm k01 k11 k21
   by_cases hlt:j<H.length
   ·have hji:(j:Int)<(H.length:Int):=by omega
    obtain⟨b,o,rfl,ck⟩:=HX.out j hlt
    have ckr:=below_cell (below_then HB1.out hbr) ck
    have hs60:=HHS.out (H[j]'hlt) (List.getElem_mem hlt)
    have hlen:(flatB ((H.take j).map tx)).length≤30*61:=by
     have h1:=flatB_len (ws:=(H.take j).map tx) (m:=60) fun x hx=>by
      obtain⟨s,hs,rfl⟩:=List.mem_map.1 hx
      exact HHS.out s (List.mem_of_mem_take hs)
     rw[List.length_map,List.length_take] at h1
     have h2:min j H.length*(60+1)≤30*61:=Nat.mul_le_mul (by omega) (by decide)
     omega
    have hsz:(bt (flatB ((H.take j).map tx))).size=(flatB ((H.take j).map tx)).length:=bt_size _
    have HTK:Hid (∀s∈H.take (j+1),s=H[j]'hlt∨s∈H.take j):=fun s hs=>by
     rw[List.take_succ_eq_append_getElem hlt,List.mem_append] at hs
     rcases hs with h|h
     ·exact Or.inr h
     ·exact Or.inl (by simpa using h)
    have HFB:Hid (bt (flatB ((H.take j).map tx))++⟨#[32]⟩++H[j]'hlt=bt (flatB ((H.take (j+1)).map tx))):=by
     show _=_
     have e0:(⟨#[32]⟩:ByteArray)=bt [32]:=rfl
     have e1:H[j]'hlt=bt (tx (H[j]'hlt)):=(bt_back _).symm
     rw[e0,e1,bt_append,bt_append,List.take_succ_eq_append_getElem hlt,List.map_append]
     congr 1
     rw[List.map_cons,List.map_nil,flatB_snoc,List.append_assoc]
     rfl
    have hrn:=refName_any (H[j]'hlt) wo (by omega)
    clear ck
    generalize H[j]'hlt=s at *
    generalize flatB ((H.take j).map tx)=acc at *
    cases hn1:isNm s with
    | false =>
     rw[hn1] at hrn
     go_wp2_with fail
     refine hrn.mono ?_
     rintro e w5 ⟨rfl,rfl⟩
     have hbz:=below_then HB1.out hbr
     clear hrn
     go_wp2
     go_ret2
     exact HNO.out _ hbz
    | true =>
     rw[hn1] at hrn
     have HN1:Hid (isNm s=true):=hn1
     clear hn1
     go_wp2_with fail
     refine hrn.mono ?_
     rintro e w5 ⟨rfl,rfl⟩
     clear hrn
     go_wp2
     exact⟨⟨hbr,j+1,by omega,by go_num,congrArg Value.string HFB.out,fun z hz=>by
      rcases HTK.out z hz with rfl|q
      ·exact HN1.out
      ·exact HNM.out z q⟩,by simp[intOf];omega⟩
   ·obtain rfl:j=H.length:=by omega
    have HHN:Hid (∀s∈H,isNm s=true):=fun s hs=>HNM.out s (by rw[List.take_length];exact hs)
    have hd8:decide ((H.length:Int)<(H.length:Int))=false:=by simp
    rw[List.take_length]
    have hhsz:(bt (flatB (H.map tx))).size≤1830:=by
     rw[bt_size]
     have h1:=flatB_len (ws:=H.map tx) (m:=60) fun x hx=>by
      obtain⟨s,hs,rfl⟩:=List.mem_map.1 hx
      exact HHS.out s hs
     rw[List.length_map] at h1
     have h2:H.length*(60+1)≤30*61:=Nat.mul_le_mul hhl (by decide)
     omega
    obtain⟨hB,hhB⟩:∃hB,hB=bt (flatB (H.map tx)):=⟨_,rfl⟩
    have HHB:Hid (hB=bt (flatB (H.map tx))):=hhB
    rw[←hhB]
    rw[←hhB] at hhsz
    have HBR:Hid (Below w1.heap.size w1 wo):=hbr
    clear hhB HNM hbr
    go_wp2_with fail
    go_loopw [10,11] (fun u10 u11 W'=>Below w1.heap.size w1 W'∧∃(k:Nat) (ks:List Nat),k≤n∧u11=.int .i64 (k:Nat)∧ks.length=k∧N.take k=ks.map Int.ofNat∧u10=.string (bt (flatB (ks.map decL)))∧(∀z∈ks,z≤9999999)∧(h=1→∀z∈ks,z≤1)) (fun _ u11 _=>n - (intOf u11).toNat)
    case atStart=>exact⟨HBR.out,0,[],Nat.zero_le _,rfl,rfl,rfl,rfl,fun z hz=>(by cases hz),fun _ z hz=>(by cases hz)⟩
    case round =>
     obtain⟨hbr,k,ks,hk,rfl,hkl,hkt,rfl,hhi,hbit⟩:=hrel
     obtain⟨w4,hw4⟩:∃w4,w4=wr:=⟨_,rfl⟩
     subst hw4
     obtain⟨j0,j1,j2⟩:=HK.out w4 hbr
     clear k0 k1 k2
     have HKT:Hid (N.take k=ks.map Int.ofNat):=hkt
     have HHI:Hid (∀z∈ks,z≤9999999):=hhi
     have HBT:Hid (h=1→∀z∈ks,z≤1):=hbit
     have HKL:Hid (ks.length=k):=hkl
     have hksz:(bt (flatB (ks.map decL))).size≤40:=by
      rw[bt_size]
      have h1:=flatB_len (ws:=ks.map decL) (m:=7) fun x hx=>by
       obtain⟨z,hz,rfl⟩:=List.mem_map.1 hx
       exact decL_len (by decide) (by have:=hhi z hz;omega)
      rw[List.length_map,hkl] at h1
      have h2:n≤5:=by rw[←HT2.out];exact hnl
      have h3:k*(7+1)≤5*8:=Nat.mul_le_mul (by omega) (by decide)
      omega
     clear hkt hhi hbit hkl
     by_cases hlt2:k<n
     ·have hki:(k:Int)<(n:Int):=by omega
      have hln:k<N.length:=by rw[HT2.out];exact hlt2
      have hkn:(k:Int)<(N.length:Int):=by omega
      obtain⟨b,o,rfl,ck⟩:=HY.out k hln
      have ckr:=below_cell (below_then HB1.out hbr) ck
      have HTN:Hid (N.take (k+1)=N.take k++[N[k]'hln]):=List.take_succ_eq_append_getElem hln
      clear ck
      generalize N[k]'hln=x at *
      have hbz:=below_then HB1.out hbr
      by_cases c1:x<0
      ·have d1:decide (x<0)=true:=by simpa using c1
       go_wp2
       go_ret2
       exact HNO.out _ hbz
      have d1:decide (x<0)=false:=by simp;omega
      by_cases c2:9999999<x
      ·have d2:decide (9999999<x)=true:=by simpa using c2
       go_wp2
       go_ret2
       exact HNO.out _ hbz
      have d2:decide (9999999<x)=false:=by simp;omega
      by_cases c3:h=1∧1<x
      ·have d3:(h==1)=true:=by rw[beq_iff_eq];exact c3.1
       have d4:decide (1<x)=true:=by simpa using c3.2
       go_wp2
       go_ret2
       exact HNO.out _ hbz
      obtain⟨z,rfl⟩:=Int.eq_ofNat_of_zero_le (show 0≤x by omega)
      have hz9:z≤9999999:=by omega
      have hdec:=fun W'=>decimalM_any z (by omega) W'
      have hdsz:(bt (decL z)).size≤7:=by rw[bt_size];exact decL_len (by decide) (by omega)
      have HFB:Hid (bt (flatB (ks.map decL))++⟨#[32]⟩++bt (decL z)=bt (flatB ((ks++[z]).map decL))):=by
       show _=_
       have e0:(⟨#[32]⟩:ByteArray)=bt [32]:=rfl
       rw[e0,bt_append,bt_append,List.map_append,List.map_cons,List.map_nil,flatB_snoc,List.append_assoc]
       rfl
      have HNX:Hid (N.take (k+1)=(ks++[z]).map Int.ofNat):=by
       show _=_
       rw[HTN.out,HKT.out,List.map_append]
       rfl
      have HC3:Hid (¬(h=1∧1<(z:Int))):=c3
      generalize bt (flatB (ks.map decL))=acc at *
      by_cases c4:h=1
      ·have d3:(h==1)=true:=by rw[beq_iff_eq];exact c4
       have d4:decide (1<(z:Int))=false:=by simp;omega
       clear c1 c2 c3 c4
       go_wp2_with fail
       refine (hdec w4).mono ?_
       rintro e w5 ⟨rfl,hb5⟩
       have hbw5:=below_then hbr hb5
       clear hdec hb5
       go_wp2
       exact⟨⟨hbw5,k+1,ks++[z],by omega,by go_num,by rw[List.length_append,HKL.out];rfl,HNX.out,congrArg Value.string HFB.out,fun y hy=>by
        rcases List.mem_append.1 hy with q|q
        ·exact HHI.out y q
        ·obtain rfl:y=z:=by simpa using q
         exact hz9,fun q y hy=>by
        rcases List.mem_append.1 hy with r|r
        ·exact HBT.out q y r
        ·obtain rfl:y=z:=by simpa using r
         have:=HC3.out
         omega⟩,by simp[intOf];omega⟩
      ·have d3:(h==1)=false:=by rw[beq_eq_false_iff_ne];exact c4
       have HC4:Hid (h≠1):=c4
       clear c1 c2 c3 c4
       go_wp2_with fail
       refine (hdec w4).mono ?_
       rintro e w5 ⟨rfl,hb5⟩
       have hbw5:=below_then hbr hb5
       clear hdec hb5
       go_wp2
       exact⟨⟨hbw5,k+1,ks++[z],by omega,by go_num,by rw[List.length_append,HKL.out];rfl,HNX.out,congrArg Value.string HFB.out,fun y hy=>by
        rcases List.mem_append.1 hy with q|q
        ·exact HHI.out y q
        ·obtain rfl:y=z:=by simpa using q
         exact hz9,fun q=>absurd q HC4.out⟩,by simp[intOf];omega⟩
     ·obtain rfl:k=n:=by omega
      have hNk:N=ks.map Int.ofNat:=by
       have h1:=HKT.out
       rwa [List.take_of_length_le (by rw[HT2.out];exact Nat.le_refl _)] at h1
      have HOK:Hid (CmOk ⟨tx w,H,ks⟩ h k):=⟨HFM.out,HKL.out,HG1.out,HG2.out,HHN.out,HHI.out,HBT.out⟩
      have HNK:Hid (N=ks.map Int.ofNat):=hNk
      have hbz:=below_then HB1.out hbr
      have hd9:decide ((k:Int)<(k:Int))=false:=by simp
      obtain⟨nB,hnB⟩:∃nB,nB=bt (flatB (ks.map decL)):=⟨_,rfl⟩
      have HNB:Hid (nB=bt (flatB (ks.map decL))):=hnB
      rw[←hnB]
      rw[←hnB] at hksz
      clear hNk hnB
      by_cases c5:tx w=wMoves
      ·have d5:=word_is c5
       unfold wMoves at d5
       have HS:Hid (w++nB++hB=bt (lineL ⟨tx w,H,ks⟩)):=by
        show _=_
        have e1:w=bt (tx w):=(bt_back w).symm
        unfold lineL wordsOf
        rw[if_pos c5,join_flat,HNB.out,HHB.out]
        conv=>lhs;rw[e1]
        rw[bt_append,bt_append]
        congr 1
        unfold flatB
        rw[List.flatMap_append,List.append_assoc]
        rfl
       clear c5
       go_wp2
       go_ret2
       exact⟨_,true,rfl,Or.inr ⟨_,h,k,rfl,HOK.out,rfl,rfl,HNK.out,HS.out⟩,hbz⟩
      ·have d5:=word_not c5
       unfold wMoves at d5
       have HS:Hid (w++hB++nB=bt (lineL ⟨tx w,H,ks⟩)):=by
        show _=_
        have e1:w=bt (tx w):=(bt_back w).symm
        unfold lineL wordsOf
        rw[if_neg c5,join_flat,HNB.out,HHB.out]
        conv=>lhs;rw[e1]
        rw[bt_append,bt_append]
        congr 1
        unfold flatB
        rw[List.flatMap_append,List.append_assoc]
        rfl
       clear c5
       go_wp2
       go_ret2
       exact⟨_,true,rfl,Or.inr ⟨_,h,k,rfl,HOK.out,rfl,rfl,HNK.out,HS.out⟩,hbz⟩
end Go.Proofs.YtfhmfjcpggddkaaGreatDoor
