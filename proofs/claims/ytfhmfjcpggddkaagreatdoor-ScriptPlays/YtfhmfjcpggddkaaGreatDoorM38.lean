/- The model's duo in memory. -/
import Derived.Test.YtfhmfjcpggddkaaGreatDoorM36
import Derived.Test.YtfhmfjcpggddkaaGreatDoorM37
import Derived.Test.YtfhmfjcpggddkaaGreatDoorM4
import Derived.Test.YtfhmfjcpggddkaaGreatDoorM5
import Derived.BigQuiet
import Derived.Deep.QuietTactic
import Derived.Laws.AppendOwnNone
import Derived.Test.YtfhmfjcpggddkaaGreatDoorM6
import Derived.Test.YtfhmfjcpggddkaaGreatDoorM7
import Derived.Test.YtfhmfjcpggddkaaGreatDoorM12
import Derived.Test.YtfhmfjcpggddkaaGreatDoorM25
import Derived.Test.YtfhmfjcpggddkaaGreatDoorM19
import Derived.Test.YtfhmfjcpggddkaaGreatDoorBaRow
import Derived.Test.YtfhmfjcpggddkaaGreatDoorM27
import Derived.Test.YtfhmfjcpggddkaaGreatDoorM8
import Derived.Test.YtfhmfjcpggddkaaGreatDoorM3
import Derived.Test.YtfhmfjcpggddkaaGreatDoorM33
import Derived.Test.YtfhmfjcpggddkaaGreatDoorM16
import Derived.Test.YtfhmfjcpggddkaaGreatDoorM30
import Derived.Test.YtfhmfjcpggddkaaGreatDoorM29
import Derived.Test.YtfhmfjcpggddkaaGreatDoorM2
import Derived.Test.YtfhmfjcpggddkaaGreatDoorM28
set_option maxHeartbeats 20000000
namespace Go.Proofs.YtfhmfjcpggddkaaGreatDoor
open Go.RowKit
structure Mm where
 m:Nat
 hm:Nat
 fm:Nat
 L:List Mh
 lv:Value
 fv:Value
 dv:Value
def Mm.At (x:Mm)(B:Nat)(S:Lh.Bl)(W:World):Prop:=MB W x.m x.hm x.fm x.L x.lv x.fv x.dv B S
def Mm.F (x:Mm):Nat→Prop:=MBt x.m x.hm x.fm x.L x.lv x.fv x.dv
def Mm.Post (x:Mm)(B:Nat)(S':Lh.Bl)(W w':World):Prop:=∃y:Mm,y.m=x.m∧y.At B S' w'∧Tur x.F W w'∧∀b,y.F b→x.F b∨W.heap.size≤b
section
variable {x:Mm} {B:Nat} {S:Lh.Bl} {W W':World}
theorem Mm.Post.same (h:x.At B S W)(hb:Below W.heap.size W W'):x.Post B S W W':=⟨x,rfl,MB.later h hb,Tur.of_below hb,fun _ hb=>Or.inl hb⟩
theorem Mm.Post.of {S':Lh.Bl}(h:MPost x.m x.hm x.fm x.L x.lv x.fv x.dv B W S' W'):x.Post B S' W W':=by
 obtain⟨fv',h1,h2,h3⟩:=h
 exact⟨⟨x.m,x.hm,x.fm,x.L,x.lv,fv',x.dv⟩,rfl,h1,h2,h3⟩
theorem mpickU (h:x.At B S W)(hk:Lh.BOk S)(k:Nat)(now:Int) :
  Calls Tryz.prog 24 #[.pointer (some ⟨x.m,0,none⟩),.int .u64 (k:Nat),.int .i64 now] W fun e w'=>∃S' s kept c,e=.returned (.tuple #[.string s,.bool kept,.int .i64 ((c:Nat):Int)])∧PickR nwB S k now S' s kept c∧x.Post B S' W w':=by
 rcases tick_ex S.la now with hok|⟨j,hf⟩
 ·by_cases hks:∃z,Lh.BKeeps S k now z
  ·obtain⟨s,hs⟩:=hks
   refine (mpick_keep h hk k now hok s hs).mono ?_
   rintro e w' ⟨rfl,hP⟩
   exact⟨_,s,true,0,rfl,Or.inr (Or.inl ⟨hok,hs,rfl,rfl,rfl⟩),.of hP⟩
  ·have hks':∀z,¬Lh.BKeeps S k now z:=fun z hz=>hks ⟨z,hz⟩
   by_cases ho:Lh.bopen S=[]
   ·refine (mpick_none h hk k ho now hok hks').mono ?_
    rintro e w' ⟨rfl,hP⟩
    exact⟨_,_,false,5,rfl,Or.inr (Or.inr (Or.inl ⟨hok,hks',ho,rfl,rfl,rfl,rfl⟩)),.of hP⟩
   ·refine (mpick_new h hk k ho now hok hks').mono ?_
    rintro e w' ⟨rfl,hP⟩
    exact⟨_,_,false,0,rfl,Or.inr (Or.inr (Or.inr ⟨hok,hks',ho,rfl,rfl,rfl,rfl⟩)),.of hP⟩
 ·refine (mpick_tick h k now j hf).mono ?_
  rintro e w' ⟨rfl,rfl⟩
  exact⟨S,_,false,j+1,rfl,Or.inl ⟨j,hf,rfl,rfl,rfl,rfl⟩,.same h (Below.refl _ _)⟩
theorem mlookU (h:x.At B S W)(hk:Lh.BOk S)(hB:B≤99999)(s:ByteArray)(well:Bool) :
  Calls Tryz.prog 25 #[.pointer (some ⟨x.m,0,none⟩),.string s,.bool well] W fun e w'=>∃S' t c,e=.returned (.tuple #[.bool t,.int .i64 ((c:Nat):Int)])∧LookR S s well S' t c∧x.Post (B+1) S' W w':=by
 refine (mlook_any h hk hB s well).mono ?_
 rintro e w' ⟨S',t,c,rfl,hR,L',lv',fv',h1,h2,h3⟩
 exact⟨S',t,c,rfl,hR,⟨x.m,x.hm,x.fm,L',lv',fv',x.dv⟩,rfl,h1,h2,h3⟩
theorem mdrainU (h:x.At B S W)(hk:Lh.BOk S)(s:ByteArray)(is:Bool) :
  Calls Tryz.prog 26 #[.pointer (some ⟨x.m,0,none⟩),.string s,.bool is] W fun e w'=>∃S' c,e=.returned (.int .i64 ((c:Nat):Int))∧DrainR S s is S' c∧x.Post B S' W w':=by
 by_cases hx:Lh.hix S.hs s<S.hs.length
 ·refine (mdrain_good h hk s is hx).mono ?_
  rintro e w' ⟨rfl,dv',h1,h2,h3⟩
  exact⟨_,0,rfl,Or.inl ⟨hx,rfl,rfl⟩,⟨x.m,x.hm,x.fm,x.L,x.lv,x.fv,dv'⟩,rfl,h1,h2,h3⟩
 ·refine (mdrain_none h hk s is hx).mono ?_
  rintro e w' ⟨rfl,rfl⟩
  exact⟨S,5,rfl,Or.inr ⟨hx,rfl,rfl⟩,.same h (Below.refl _ _)⟩
theorem mexportU (h:x.At B S W)(hk:Lh.BOk S)(hep:S.ep<1099511627776) :
  Calls Tryz.prog 29 #[.pointer (some ⟨x.m,0,none⟩)] W fun e w'=>e=.returned (.string (Lh.bt (Lh.textL (S.ep+1).toNat S.L)))∧x.Post B { S with ep:=S.ep+1 } W w':=by
 refine (mexport h hk hep).mono ?_
 rintro e w' ⟨rfl,h1,h2⟩
 exact⟨rfl,x,rfl,h1,h2,fun _ hb=>Or.inl hb⟩
end
end Go.Proofs.YtfhmfjcpggddkaaGreatDoor
namespace Go.Proofs.YtfhmfjcpggddkaaGreatDoor
open Go.RowKit Lh
structure SMx (W:World)(m K:Nat)(x:Mm)(hb ho hc:Nat)(B:Nat)(S:Sc):Prop where
 c0:W.cell? ⟨m,0,none⟩=some (.pointer (some ⟨x.m,0,none⟩))
 hst:Hst W m hb ho hc S.hosts
 lo:hb<K
 c2:W.cell? ⟨m,2,none⟩=some (.int .i64 S.now)
 at_:x.At B S.b W
structure SM (W:World)(m K:Nat)(F:Nat→Prop)(B:Nat)(st:Option Sc):Prop where
 fz:∀k,W.frozen? ⟨m,k,none⟩=false
 own:F m
 lt:∀b,F b→K≤b∧b<W.heap.size
 none_:st=none→W.cell? ⟨m,0,none⟩=some (.pointer none)∧W.cell? ⟨m,1,none⟩=some (.slice none 0 0)∧W.cell? ⟨m,2,none⟩=some (.int .i64 0)
 some_:∀S,st=some S→∃(x:Mm) (hb ho hc:Nat),SMx W m K x hb ho hc B S∧∀z,x.F z→F z∧z≠m
def SM.Post (m K:Nat)(F:Nat→Prop)(B:Nat)(W:World)(st':Option Sc)(w':World):Prop:=∃F',SM w' m K F' B st'∧Tur F W w'∧∀b,F' b→F b∨W.heap.size≤b
section
variable {W W':World} {m K:Nat} {F:Nat→Prop} {B:Nat} {st:Option Sc}
theorem SMx.stay {x:Mm}{hb ho hc:Nat}{S:Sc}(h:SMx W m K x hb ho hc B S)(hm:W'.heap[m]?=W.heap[m]?)(hh:W'.heap[hb]?=W.heap[hb]?)(hs:∀b,x.F b→W'.heap[b]?=W.heap[b]?):SMx W' m K x hb ho hc B S :=
 ⟨(World.cell?_of_block (w:=W) (w':=W') (a:=⟨m,0,none⟩) hm).trans h.c0,⟨(World.cell?_of_block (w:=W) (w':=W') (a:=⟨m,1,none⟩) hm).trans h.hst.cell,h.hst.cap,fun k hk=>(World.cell?_of_block (w:=W) (w':=W') (a:=⟨hb,ho+k,none⟩) hh).trans (h.hst.at_ k hk),h.hst.pos,h.hst.le,h.hst.sz,h.hst.fault⟩,h.lo,(World.cell?_of_block (w:=W) (w':=W') (a:=⟨m,2,none⟩) hm).trans h.c2,MB.stay h.at_ hs⟩
theorem SM.mlt (h:SM W m K F B st):m<W.heap.size:=(h.lt m h.own).2
theorem SM.stay (h:SM W m K F B st)(hs:∀b,F b→W'.heap[b]?=W.heap[b]?)(hK:∀b,b<K→W'.heap[b]?=W.heap[b]?)(hsz:W.heap.size≤W'.heap.size):SM W' m K F B st:=by
 have hm:=hs m h.own
 refine⟨fun k=>(World.frozen?_of_block (w:=W) (w':=W') (a:=⟨m,k,none⟩) hm).trans (h.fz k),h.own,fun b hb=>⟨(h.lt b hb).1,Nat.lt_of_lt_of_le (h.lt b hb).2 hsz⟩,fun e=>?_,fun S e=>?_⟩
 ·obtain⟨c0,c1,c2⟩:=h.none_ e
  exact⟨(World.cell?_of_block (w:=W) (w':=W') (a:=⟨m,0,none⟩) hm).trans c0,(World.cell?_of_block (w:=W) (w':=W') (a:=⟨m,1,none⟩) hm).trans c1,(World.cell?_of_block (w:=W) (w':=W') (a:=⟨m,2,none⟩) hm).trans c2⟩
 ·obtain⟨x,hb,ho,hc,hx,hF⟩:=h.some_ S e
  exact⟨x,hb,ho,hc,hx.stay hm (hK hb hx.lo) fun b hb=>hs b (hF b hb).1,hF⟩
theorem SM.later (h:SM W m K F B st)(hb:Below W.heap.size W W')(hK:K≤W.heap.size):SM W' m K F B st:=h.stay (fun b hf=>hb.block b (h.lt b hf).2) (fun b hk=>hb.block b (Nat.lt_of_lt_of_le hk hK)) hb.size
theorem SM.Post.same (h:SM W m K F B st)(hb:Below W.heap.size W W')(hK:K≤W.heap.size):SM.Post m K F B W st W':=⟨F,h.later hb hK,Tur.of_below hb,fun _ hb=>Or.inl hb⟩
theorem SM.more (h:SM W m K F B st){B':Nat}(hB:B≤B'):SM W m K F B' st:=⟨h.fz,h.own,h.lt,h.none_,fun S e=>by
 obtain⟨x,hb,ho,hc,hx,hF⟩:=h.some_ S e
 exact⟨x,hb,ho,hc,⟨hx.c0,hx.hst,hx.lo,hx.c2,MB.more hx.at_ hB⟩,hF⟩⟩
theorem SM.Post.more {st':Option Sc}(h:SM.Post m K F B W st' W'){B':Nat}(hB:B≤B'):SM.Post m K F B' W st' W':=by
 obtain⟨F',h1,h2,h3⟩:=h
 exact⟨F',h1.more hB,h2,h3⟩
theorem SM.Post.ahead {W0:World}{st':Option Sc}(hb:Below W0.heap.size W0 W)(h:SM.Post m K F B W st' W'):SM.Post m K F B W0 st' W':=by
 obtain⟨F',h1,h2,h3⟩:=h
 exact⟨F',h1,(Tur.of_below hb).trans h2 fun b hb=>Or.inl hb,fun b hb'=>by
  rcases h3 b hb' with q|q
  ·exact Or.inl q
  ·exact Or.inr (Nat.le_trans hb.size q)⟩
theorem SM.Post.then {W1:World}{st':Option Sc}(h:SM.Post m K F B W st' W1)(hb:Below W1.heap.size W1 W')(hK:K≤W.heap.size):SM.Post m K F B W st' W':=by
 obtain⟨F',h1,h2,h3⟩:=h
 exact⟨F',h1.later hb (Nat.le_trans hK h2.size),h2.trans (Tur.of_below (F:=F) hb) fun b hb=>Or.inl hb,h3⟩
theorem SM.turned {S:Sc}{b':Bl}{B':Nat}(h:SM W m K F B (some S))(hK:K≤W.heap.size){x:Mm}{hb ho hc:Nat}(hx:SMx W m K x hb ho hc B S)(hF:∀z,x.F z→F z∧z≠m)(hP:x.Post B' b' W W'):SM.Post m K F B' W (some { S with b:=b' }) W':=by
 obtain⟨y,hy,hA,hT,hN⟩:=hP
 have hml:=h.mlt
 have hm:W'.heap[m]?=W.heap[m]?:=hT.block m hml fun q=>(hF m q).2 rfl
 have hh:W'.heap[hb]?=W.heap[hb]?:=hT.block hb (Nat.lt_of_lt_of_le hx.lo hK) fun q=>by
  have h1:=(h.lt hb (hF hb q).1).1
  have h2:=hx.lo
  omega
 have hyF:∀z,y.F z→(F z∨(W.heap.size≤z∧z<W'.heap.size))∧z≠m:=fun z hz=>by
  rcases hN z hz with q|q
  ·exact⟨Or.inl (hF z q).1,(hF z q).2⟩
  ·exact⟨Or.inr ⟨q,MB.lt hA z hz⟩,by omega⟩
 refine⟨fun z=>F z∨(W.heap.size≤z∧z<W'.heap.size),⟨fun k=>(World.frozen?_of_block (w:=W) (w':=W') (a:=⟨m,k,none⟩) hm).trans (h.fz k),Or.inl h.own,fun z hz=>?_,(fun e=>by cases e),fun T e=>?_⟩,⟨hT.os,hT.tape,hT.output,hT.size,fun k hk hq=>hT.block k hk fun q=>hq (hF k q).1⟩,fun z hz=>?_⟩
 ·rcases hz with hz|hz
  ·exact⟨(h.lt z hz).1,Nat.lt_of_lt_of_le (h.lt z hz).2 hT.size⟩
  ·exact⟨Nat.le_trans hK hz.1,hz.2⟩
 ·obtain rfl:=Option.some.inj e
  refine⟨y,hb,ho,hc,⟨?_,⟨(World.cell?_of_block (w:=W) (w':=W') (a:=⟨m,1,none⟩) hm).trans hx.hst.cell,hx.hst.cap,fun k hk=>(World.cell?_of_block (w:=W) (w':=W') (a:=⟨hb,ho+k,none⟩) hh).trans (hx.hst.at_ k hk),hx.hst.pos,hx.hst.le,hx.hst.sz,hx.hst.fault⟩,hx.lo,(World.cell?_of_block (w:=W) (w':=W') (a:=⟨m,2,none⟩) hm).trans hx.c2,hA⟩,hyF⟩
  rw[hy]
  exact (World.cell?_of_block (w:=W) (w':=W') (a:=⟨m,0,none⟩) hm).trans hx.c0
 ·rcases hz with hz|hz
  ·exact Or.inl hz
  ·exact Or.inr hz.1
theorem SM.ticked {S:Sc}(h:SM W m K F B (some S))(now:Int):SM.Post m K F B W (some { S with now:=now }) (W.setCell ⟨m,2,none⟩ (.int .i64 now)):=by
 have ho:∀b,b≠m→(W.setCell ⟨m,2,none⟩ (.int .i64 now)).heap[b]?=W.heap[b]?:=fun b hb=>Below.heap_setCell _ _ _ b hb
 have hml:=(h.lt m h.own).1
 refine⟨F,⟨fun k=>by rw[World.frozen?_setCell];exact h.fz k,h.own,fun b hb=>⟨(h.lt b hb).1,by simpa using (h.lt b hb).2⟩,(fun e=>by cases e),fun T e=>?_⟩,⟨rfl,rfl,rfl,by simp,fun b _ hq=>ho b fun e=>hq (e ▸ h.own)⟩,fun b hb=>Or.inl hb⟩
 obtain rfl:=Option.some.inj e
 obtain⟨x,hb,hoo,hc,hx,hF⟩:=h.some_ S rfl
 refine⟨x,hb,hoo,hc,⟨?_,⟨?_,hx.hst.cap,fun k hk=>?_,hx.hst.pos,hx.hst.le,hx.hst.sz,hx.hst.fault⟩,hx.lo,World.cell?_setCell_same' _ _ _ (by rw[hx.c2];rfl),MB.stay hx.at_ fun z hz=>ho z (hF z hz).2⟩,hF⟩
 ·rw[World.cell?_setCell_other _ _ _ _ (by simp)];exact hx.c0
 ·rw[World.cell?_setCell_other _ _ _ _ (by simp)];exact hx.hst.cell
 ·exact (World.cell?_of_block (w:=W) (a:=⟨hb,hoo+k,none⟩) (ho hb (by have:=hx.lo;omega))).trans (hx.hst.at_ k hk)
end
def AnsP (m K:Nat)(F:Nat→Prop)(B:Nat)(st:Option Sc)(c:Cm)(W:World)(e:Ending)(w':World):Prop:=∃st' a,e=.returned (.string (bt a))∧CmR nwB st c st' a∧SM.Post m K F (B+1) W st' w'
section
variable {W W':World} {m K:Nat} {F:Nat→Prop} {B:Nat} {S:Sc} {x:Mm} {hb ho hc:Nat}
theorem SMx.later (h:SMx W m K x hb ho hc B S)(hb':Below W.heap.size W W')(hm:m<W.heap.size)(hK:K≤W.heap.size):SMx W' m K x hb ho hc B S :=
 h.stay (hb'.block m hm) (hb'.block hb (Nat.lt_of_lt_of_le h.lo hK)) fun b hf=>hb'.block b (MB.lt h.at_ b hf)
theorem SM.method {S:Sc}{b':Bl}{B':Nat}{w' w'':World}(hM:SM W m K F B (some S))(hK:K≤W.heap.size)(hx:SMx W m K x hb ho hc B S)(hF:∀z,x.F z→F z∧z≠m)(hbl:Below W.heap.size W w')(hP:x.Post B' b' w' w'')(hB:B'≤B+1):SM.Post m K F (B+1) W (some { S with b:=b' }) w''∧Tur x.F W w'':=by
 have hK':=Nat.le_trans hK hbl.size
 have h1:=(hM.later hbl hK).turned hK' (hx.later hbl hM.mlt hK) hF hP
 obtain⟨y,_,_,hT,_⟩:=hP
 exact⟨(SM.Post.ahead hbl h1).more hB,(Tur.of_below hbl).trans hT fun b hb=>Or.inl hb⟩
end
theorem pickR_sz {S S':Bl}{k:Nat}{now:Int}{s:ByteArray}{kept:Bool}{c:Nat}(h:BOk S)(hp:PickR nwB S k now S' s kept c):s.size≤300:=by
 rcases hp with⟨j,_,_,rfl,_⟩|⟨_,hkp,_⟩|⟨_,_,_,rfl,_⟩|⟨_,_,ho,rfl,_⟩
 ·decide
 ·have hup:Lh.hup S.hs s=true:=by obtain⟨_,_,_,h⟩:=hkp;exact h
  exact (Lh.hup_nm h hup).2
 ·decide
 ·exact (Lh.hup_nm h (Lh.bopen_mem.1 (nwB_in k ho)).1).2
theorem orElse_at (e:Nat)(he:e≤9)(a:List UInt8)(s:ByteArray)(hs:s=bt a)(W:World):Calls Tryz.prog 23 #[.int .i64 (e:Nat),.string s] W fun r w'=>r=.returned (.string (bt (if e=0 then a else errT e)))∧Below W.heap.size W w':=by
 subst hs
 refine (orElse_any e he (bt a) W).mono ?_
 rintro r w' ⟨rfl,hb⟩
 refine⟨?_,hb⟩
 by_cases h:e=0
 ·rw[if_pos h,if_pos h]
 ·rw[if_neg h,if_neg h]
theorem hcells2S {W:World}{b:Nat}{x y x0 y0:Value}(c0:W.cell? ⟨b,0,none⟩=some x0)(c1:W.cell? ⟨b,1,none⟩=some y0)(q:Obj) :
  (((W.setCell ⟨b,0,none⟩ x).setCell ⟨b,1,none⟩ y).alloc q).cell? ⟨b,0,none⟩=some x∧(((W.setCell ⟨b,0,none⟩ x).setCell ⟨b,1,none⟩ y).alloc q).cell? ⟨b,1,none⟩=some y:=by
 have e0:((W.setCell ⟨b,0,none⟩ x).setCell ⟨b,1,none⟩ y).cell? ⟨b,0,none⟩=some x:=by simp[go_sem,c0]
 have e1:((W.setCell ⟨b,0,none⟩ x).setCell ⟨b,1,none⟩ y).cell? ⟨b,1,none⟩=some y:=by simp[go_sem,c1]
 exact⟨below_cell ((Below.refl _ _).alloc (Nat.le_refl _) _) e0,below_cell ((Below.refl _ _).alloc (Nat.le_refl _) _) e1⟩
theorem healthFault_noneS (v:Value)(xs:List ByteArray)(x y:Int)(w:World)(hf:IsFault xs 0 (-1))(h1:1≤x)(h2:x≤10)(h3:1≤y)(h4:y≤10)(hv:Strs w v xs)(hs:∀k (h:k<xs.length),(xs[k]).size≤1000000)(hm:xs.length<1000000) :
  Calls Tryz.prog 65 #[v,.int .i64 x,.int .i64 y] w fun e w'=>e=.returned (.agg #[.int .i64 0,.int .i64 (-1)])∧Below w.heap.size w w':=by
 have q1:decide (x<1)=false:=by simp;omega
 have q2:decide (10<x)=false:=by simp;omega
 have q3:decide (y<1)=false:=by simp;omega
 have q4:decide (10<y)=false:=by simp;omega
 clear h1 h2 h3 h4
 have hbW:=(Below.refl w.heap.size w).alloc (Nat.le_refl _) (.cells #[.int .i64 0,.int .i64 0] 59)
 have hc2:=hfault_any v xs _ 0 (-1) (hv.later hbW) hf hs hm
 clear hv hf hs
 go_enter Tryz.func65,Tryz.ntmps65
 go_wp2_with fail
 refine hc2.mono ?_
 rintro e w1 ⟨rfl,hb1⟩
 have c0:w1.cell? ⟨w.heap.size,0,none⟩=some (.int .i64 0):=below_cell hb1 (by simp)
 have c1:w1.cell? ⟨w.heap.size,1,none⟩=some (.int .i64 0):=below_cell hb1 (by simp)
 have f0:w1.frozen? ⟨w.heap.size,0,none⟩=false:=by rw[hb1.frozen (by simp)];simp
 have f1:w1.frozen? ⟨w.heap.size,1,none⟩=false:=by rw[hb1.frozen (by simp)];simp
 have hsz:w.heap.size<w1.heap.size:=by have:=hb1.size;simp at this;omega
 have hbz:Below w.heap.size w w1:=hbW.trans (hb1.mono (by simp))
 clear hb1 hbW hc2
 go_wp2
 have hh:=hcells2S (x:=.int .i64 0) (y:=.int .i64 (-1)) c0 c1 (.cells #[.int .i64 0,.int .i64 (-1)] 59)
 exact bodyPost_ret (v:=.agg #[.int .i64 0,.int .i64 (-1)]) (by simp[results,Tryz.results65,go_sem,hh.1,hh.2]) rfl ⟨rfl,((hbz.setCell (Nat.le_refl _) _).setCell (Nat.le_refl _) _).alloc (by have:=hbz.size;simpa using this) _⟩
theorem tabFault31 {xs:List ByteArray}(h0:0<xs.length)(hf:IsFault xs 0 (-1)):TabFault xs ((31:Nat):Int) 0 (-1) :=
 Or.inr (Or.inr ⟨h0,hf,Or.inr ⟨31,rfl,by decide,by decide,Or.inr ⟨prm31,rfl⟩⟩,rfl⟩)
theorem balF_bad (v:Value)(xs:List ByteArray)(w:World)(c:Nat)(pl:Int)(hc:c≠0)(hv:Strs1 w v xs)(h0:0<xs.length)(hf:IsFault xs c pl)(hs:∀k (h:k<xs.length),(xs[k]).size≤1000000)(hm:xs.length<1000000) :
  Calls Tryz.prog 20 #[v,.int .i64 31,.int .i64 20,.int .i64 2,.int .i64 2] w fun e w'=>e=.returned (.agg #[.int .i64 c,.int .i64 pl])∧Below w.heap.size w w':=by
 have hz:((c:Int)==0)=false:=by rw[beq_eq_false_iff_ne];omega
 have hbW:=(Below.refl w.heap.size w).alloc (Nat.le_refl _) (.cells #[.int .i64 0,.int .i64 0] 59)
 have hcall:=someF_some v xs _ c pl (hv.later hbW) h0 hf hs hm
 clear hv hf hs hc
 go_enter Tryz.func20,Tryz.ntmps20
 go_wp2_with fail
 refine hcall.mono ?_
 rintro e w1 ⟨rfl,hb1⟩
 have c0:w1.cell? ⟨w.heap.size,0,none⟩=some (.int .i64 0):=below_cell hb1 (by simp)
 have c1:w1.cell? ⟨w.heap.size,1,none⟩=some (.int .i64 0):=below_cell hb1 (by simp)
 have f0:w1.frozen? ⟨w.heap.size,0,none⟩=false:=by rw[hb1.frozen (by simp)];simp
 have f1:w1.frozen? ⟨w.heap.size,1,none⟩=false:=by rw[hb1.frozen (by simp)];simp
 have hsz:w.heap.size<w1.heap.size:=by have:=hb1.size;simp at this;omega
 have hbz:Below w.heap.size w w1:=hbW.trans (hb1.mono (by simp))
 have hne:w.heap.size≠w1.heap.size:=by omega
 clear hb1 hbW hcall
 obtain⟨w2,hw2⟩:∃w2,w2=w1.alloc (.cells #[.int .i64 c,.int .i64 pl] 59):=⟨_,rfl⟩
 go_wp2
 have hh:=hcells2S (x:=.int .i64 c) (y:=.int .i64 pl) c0 c1 (.cells #[.int .i64 c,.int .i64 pl] 59)
 exact bodyPost_ret (v:=.agg #[.int .i64 c,.int .i64 pl]) (by simp[results,Tryz.results20,go_sem,hh.1,hh.2]) rfl ⟨rfl,((hbz.setCell (Nat.le_refl _) _).setCell (Nat.le_refl _) _).alloc (by have:=hbz.size;simpa using this) _⟩
theorem balF_good (v:Value)(xs:List ByteArray)(w:World)(hv:Strs1 w v xs)(h0:0<xs.length)(hf:IsFault xs 0 (-1))(hs:∀k (h:k<xs.length),(xs[k]).size≤1000000)(hm:xs.length<1000000) :
  Calls Tryz.prog 20 #[v,.int .i64 31,.int .i64 20,.int .i64 2,.int .i64 2] w fun e w'=>e=.returned (.agg #[.int .i64 0,.int .i64 (-1)])∧Below w.heap.size w w':=by
 have hbW:=(Below.refl w.heap.size w).alloc (Nat.le_refl _) (.cells #[.int .i64 0,.int .i64 0] 59)
 have hcall:=someF_some v xs _ 0 (-1) (hv.later hbW) h0 hf hs hm
 have HHF:Hid (∀W,Below w.heap.size w W→Calls Tryz.prog 65 #[v,.int .i64 2,.int .i64 2] W fun e w'=>e=.returned (.agg #[.int .i64 0,.int .i64 (-1)])∧Below W.heap.size W w'):=fun W hb=>healthFault_noneS v xs 2 2 W hf (by decide) (by decide) (by decide) (by decide) (hv.later hb).strs hs hm
 have HTF:Hid (∀W,Below w.heap.size w W→Calls Tryz.prog 66 #[v,.int .i64 31] W fun e w'=>e=.returned (.agg #[.int .i64 0,.int .i64 (-1)])∧Below W.heap.size W w'):=fun W hb=>tableFault_any v xs ((31:Nat):Int) W 0 (-1) (hv.later hb) (tabFault31 h0 hf) (by decide) hs hm
 clear hv hf hs
 go_enter Tryz.func20,Tryz.ntmps20
 go_wp2_with fail
 refine hcall.mono ?_
 rintro e w1 ⟨rfl,hb1⟩
 have c0:w1.cell? ⟨w.heap.size,0,none⟩=some (.int .i64 0):=below_cell hb1 (by simp)
 have c1:w1.cell? ⟨w.heap.size,1,none⟩=some (.int .i64 0):=below_cell hb1 (by simp)
 have f0:w1.frozen? ⟨w.heap.size,0,none⟩=false:=by rw[hb1.frozen (by simp)];simp
 have f1:w1.frozen? ⟨w.heap.size,1,none⟩=false:=by rw[hb1.frozen (by simp)];simp
 have hsz:w.heap.size<w1.heap.size:=by have:=hb1.size;simp at this;omega
 have hbz:Below w.heap.size w w1:=hbW.trans (hb1.mono (by simp))
 clear hb1 hbW hcall
 obtain⟨fb,hfb⟩:∃fb,fb=w1.heap.size:=⟨_,rfl⟩
 obtain⟨w2,hw2⟩:∃w2,w2=w1.alloc (.cells #[.int .i64 0,.int .i64 (-1)] 59):=⟨_,rfl⟩
 have hb2:Below w.heap.size w w2:=by rw[hw2];exact below_al hbz _
 have b12:Below w1.heap.size w1 w2:=by rw[hw2];exact below_al (Below.refl _ _) _
 have d0:w2.cell? ⟨fb,0,none⟩=some (.int .i64 0):=by rw[hw2,hfb];simp
 have d1:w2.cell? ⟨fb,1,none⟩=some (.int .i64 (-1)):=by rw[hw2,hfb];simp
 have g0:w2.frozen? ⟨fb,0,none⟩=false:=by rw[hw2,hfb];simp
 have g1:w2.frozen? ⟨fb,1,none⟩=false:=by rw[hw2,hfb];simp
 replace c0:=below_cell b12 c0
 replace c1:=below_cell b12 c1
 have f0':w2.frozen? ⟨w.heap.size,0,none⟩=false:=by rw[b12.frozen hsz];exact f0
 have f1':w2.frozen? ⟨w.heap.size,1,none⟩=false:=by rw[b12.frozen hsz];exact f1
 have hlt2:fb<w2.heap.size:=by rw[hw2,hfb];simp
 rw[←hfb] at hsz
 have hc2:=HHF.out w2 hb2
 clear HHF f0 f1 b12 hbz
 go_wp2_with fail
 rw[←hw2,←hfb]
 clear hw2 hfb
 refine hc2.mono ?_
 rintro e w3 ⟨rfl,hb3⟩
 have hb3':=below_then hb2 hb3
 replace c0:=below_cell hb3 c0
 replace c1:=below_cell hb3 c1
 replace d0:=below_cell hb3 d0
 replace d1:=below_cell hb3 d1
 have f0:w3.frozen? ⟨w.heap.size,0,none⟩=false:=by rw[hb3.frozen (show w.heap.size<w2.heap.size by omega)];exact f0'
 have f1:w3.frozen? ⟨w.heap.size,1,none⟩=false:=by rw[hb3.frozen (show w.heap.size<w2.heap.size by omega)];exact f1'
 have g0':w3.frozen? ⟨fb,0,none⟩=false:=by rw[hb3.frozen hlt2];exact g0
 have g1':w3.frozen? ⟨fb,1,none⟩=false:=by rw[hb3.frozen hlt2];exact g1
 have hlt3:=Nat.lt_of_lt_of_le hlt2 hb3.size
 clear hc2 hb3 hb2 f0' f1' g0 g1 hlt2
 obtain⟨w4,hw4⟩:∃w4,w4=(w3.setCell ⟨fb,0,none⟩ (.int .i64 0)).setCell ⟨fb,1,none⟩ (.int .i64 (-1)):=⟨_,rfl⟩
 have hb4:Below w.heap.size w w4:=by rw[hw4];exact (hb3'.setCell (show w.heap.size≤fb by omega) _).setCell (show w.heap.size≤fb by omega) _
 have e0:w4.cell? ⟨fb,0,none⟩=some (.int .i64 0):=by rw[hw4];simp[go_sem,d0]
 have e1:w4.cell? ⟨fb,1,none⟩=some (.int .i64 (-1)):=by rw[hw4];simp[go_sem,d1]
 have hne:w.heap.size≠fb:=by omega
 have k0:w4.cell? ⟨w.heap.size,0,none⟩=some (.int .i64 0):=by rw[hw4];simp[go_sem,c0]
 have k1:w4.cell? ⟨w.heap.size,1,none⟩=some (.int .i64 0):=by rw[hw4];simp[go_sem,c1]
 have q0:w4.frozen? ⟨w.heap.size,0,none⟩=false:=by rw[hw4];simp[World.frozen?_setCell,f0]
 have q1:w4.frozen? ⟨w.heap.size,1,none⟩=false:=by rw[hw4];simp[World.frozen?_setCell,f1]
 have r0:w4.frozen? ⟨fb,0,none⟩=false:=by rw[hw4];simp[World.frozen?_setCell,g0']
 have r1:w4.frozen? ⟨fb,1,none⟩=false:=by rw[hw4];simp[World.frozen?_setCell,g1']
 have hlt4:fb<w4.heap.size:=by rw[hw4];simpa using hlt3
 have hc4:=HTF.out w4 hb4
 clear HTF
 go_wp2_with fail
 rw[←hw4]
 clear hw4 c0 c1 d0 d1 f0 f1 g0' g1' hlt3 hb3'
 refine hc4.mono ?_
 rintro e w5 ⟨rfl,hb5⟩
 have hb5':=below_then hb4 hb5
 replace e0:=below_cell hb5 e0
 replace e1:=below_cell hb5 e1
 replace k0:=below_cell hb5 k0
 replace k1:=below_cell hb5 k1
 have q0':w5.frozen? ⟨w.heap.size,0,none⟩=false:=by rw[hb5.frozen (show w.heap.size<w4.heap.size by omega)];exact q0
 have q1':w5.frozen? ⟨w.heap.size,1,none⟩=false:=by rw[hb5.frozen (show w.heap.size<w4.heap.size by omega)];exact q1
 have r0':w5.frozen? ⟨fb,0,none⟩=false:=by rw[hb5.frozen hlt4];exact r0
 have r1':w5.frozen? ⟨fb,1,none⟩=false:=by rw[hb5.frozen hlt4];exact r1
 clear hc4 hb5 q0 q1 r0 r1 hb4
 go_wp2
 exact bodyPost_ret (v:=.agg #[.int .i64 0,.int .i64 (-1)]) (by simp[results,Tryz.results20,go_sem,k0,k1]) rfl ⟨rfl,(((hb5'.setCell (show w.heap.size≤fb by omega) _).setCell (show w.heap.size≤fb by omega) _).setCell (Nat.le_refl _) _).setCell (Nat.le_refl _) _⟩
end Go.Proofs.YtfhmfjcpggddkaaGreatDoor
namespace Go.Proofs.YtfhmfjcpggddkaaGreatDoor
open Go.RowKit
theorem pathOf_core (K A:Nat→Nat)(n m:Nat)(w:World)(hn1:1≤n)(hn:n≤1048576)(h0:A 0=0)(hmn:m≤n)(h1:∀t,t<m→A t<n)(h2:n≤A m)(hr:∀t,A t+1≤A (t+1))(hkl:∀t,K (t+1)<18446744073709551616)
  (hk:∀t,IntKind.u64.wrap (IntKind.u64.wrap ((K t:Int)*2862933555777941757)+1)=((K (t+1):Nat):Int)) (ha:∀t,A (t+1)=(A t+1)*2147483648 / (K (t+1) / 8589934592+1))
  (P:Nat→List Int) (hp0:P 0=[]) (hps:∀t,P (t+1)=P t++[((A t:Nat):Int)]) :
  Calls Tryz.prog 69 #[.int .u64 (K 0:Nat),.int .i64 (n:Nat)] w fun e w'=>∃v,e=.returned (.tuple #[v,.int .i64 0])∧w'.ownsRow w.heap.size 3 1 v m ((P m).map (Value.int .i64))∧Below w.heap.size w w':=by
 obtain⟨i,hi,hz0,hz1,hz2⟩:=info_parts infoI
 have d1:decide ((n:Int)<1)=false:=by simp;omega
 have d2:decide (1048576<(n:Int))=false:=by simp;omega
 have H1:Hid (∀t,t<m→A t<n):=h1
 have H2:Hid (n≤A m):=h2
 have HR:Hid (∀t,A t+1≤A (t+1)):=hr
 have HKL:Hid (∀t,K (t+1)<18446744073709551616):=hkl
 have HK:Hid (∀t,IntKind.u64.wrap (IntKind.u64.wrap ((K t:Int)*2862933555777941757)+1)=((K (t+1):Nat):Int)):=hk
 have HA:Hid (∀t,A (t+1)=(A t+1)*2147483648 / (K (t+1) / 8589934592+1)):=ha
 have H0:Hid (A 0=0):=h0
 have HP0:Hid (P 0=[]):=hp0
 have HPS:Hid (∀t,P (t+1)=P t++[((A t:Nat):Int)]):=hps
 clear h0 h1 h2 hr hkl hk ha hp0 hps
 go_enter Tryz.func69,Tryz.ntmps69
 go_wp2_with fail
 go_loopw [0,6,8] (fun ky v a W=>Below w.heap.size w W∧∃t:Nat,t≤m∧ky=.int .u64 (K t:Nat)∧a=.int .i64 (A t:Nat)∧W.ownsRow w.heap.size 3 1 v t ((P t).map (Value.int .i64))) (fun _ _ a _=>n - (intOf a).toNat)
 case atStart=>exact⟨Below.refl _ _,0,Nat.zero_le _,rfl,by rw[H0.out];rfl,by rw[HP0.out];exact World.ownsRow_nil _ _ _ _⟩
 case round =>
  obtain⟨hb,t,ht,rfl,rfl,hown⟩:=hrel
  by_cases hlt:t<m
  ·have hal:=H1.out t hlt
   have hd:decide (A t<n)=true:=by simpa using hal
   have hrt:=HR.out t
   have hkq:=HKL.out t
   have hkw:=HK.out t
   have HAT:Hid (A (t+1)=(A t+1)*2147483648 / (K (t+1) / 8589934592+1)):=HA.out t
   have HPT:Hid (P (t+1)=P t++[((A t:Nat):Int)]):=HPS.out t
   have hmx:t+1≤maxLen:=by unfold maxLen;omega
   have hbs:∀q,w.heap.size≤(wr.alloc q).heap.size:=fun q=>by
    have h1:(wr.alloc q).heap.size=wr.heap.size+1:=by simp
    have:=hb.size
    omega
   have hnew:=cell_one_new wr (.int .i64 (A t:Nat)) 3
   have HO:Hid (wr.ownsRow w.heap.size 3 1 u6 t ((P t).map (Value.int .i64))):=hown
   clear hown
   have hx:A t≤1048576:=by omega
   have e4:(((K (t+1):Nat):Int) / 8589934592+1==0)=false:=by rw[beq_eq_false_iff_ne];omega
   go_wp2_with (at_builtin;refine wpList_append_own _ rfl _ _ 34 rfl w.heap.size 3 i _ 1 8 Tryz.underlying34 hi hz0 hz1 hz2 rfl (by decide) _ t _ rfl (HO.out.alloc _) ⟨wr.heap.size,0,none⟩ 1 1 [.int .i64 (A t:Nat)] rfl rfl hnew (ints_oneCell1 _) hmx (by omega) (hbs _) ?_)
   intro v2 w3 hown2 hg2 _
   have hb3:Below w.heap.size w w3:=(hb.alloc hb.size _).grown hg2 (hbs _) (fun k h=>(HO.out.lt k h).1)
   have HO2:Hid (w3.ownsRow w.heap.size 3 1 v2 (t+1) ((P (t+1)).map (Value.int .i64))):=by
    have h1:=hown2
    rw[HPT.out,List.map_append]
    exact h1
   clear hown2 hg2 hnew hbs
   go_wp2_with fail
   have hAI:((A t:Int)+1)*2147483648 / ((K (t+1):Int) / 8589934592+1)=((A (t+1):Nat):Int):=by rw[HAT.out];simp
   rw[hAI]
   refine⟨⟨hb3,t+1,by omega,rfl,rfl,HO2.out⟩,?_⟩
   simp[intOf]
   omega
  ·obtain rfl:t=m:=by omega
   have h2:=H2.out
   have hd:decide (A t<n)=false:=by simpa using h2
   clear h2
   have HO:Hid (wr.ownsRow w.heap.size 3 1 u6 t ((P t).map (Value.int .i64))):=hown
   clear hown
   go_wp2
   go_ret2
   exact⟨_,rfl,HO.out,hb⟩
theorem pathOf_good (k n:Nat)(w:World)(hn1:1≤n)(hn:n≤1048576) :
  Calls Tryz.prog 69 #[.int .u64 (k:Nat),.int .i64 (n:Nat)] w fun e w'=>∃v,e=.returned (.tuple #[v,.int .i64 0])∧w'.ownsRow w.heap.size 3 1 v (Lh.jlen k n) ((Lh.jp k (Lh.jlen k n)).map (Value.int .i64))∧Below w.heap.size w w' :=
 pathOf_core (Lh.jky k) (Lh.jat k) n (Lh.jlen k n) w hn1 hn (Lh.jat_zero k) (Lh.jlen_le k n) (fun _ h=>Lh.jlen_below.1 h) (Lh.jlen_spec k n).2 (Lh.jat_rise k) (fun t=>by rw[Lh.jky_succ];exact Lh.jk_lt _)
  (fun t=>by rw[jk_wrap,Lh.jky_succ]) (fun t=>by rw[Lh.jat_succ];rfl) (Lh.jp k) (Lh.jp_zero k) (Lh.jp_snoc k)
theorem pathOf_bad (k:Nat)(x:Int)(w:World)(h:x<1∨1048576<x) :
  Calls Tryz.prog 69 #[.int .u64 (k:Nat),.int .i64 x] w fun e w'=>e=.returned (.tuple #[.slice none 0 0,.int .i64 2])∧w'=w:=by
 by_cases h1:x<1
 ·have d1:decide (x<1)=true:=by simpa using h1
  clear h h1
  go_enter Tryz.func69,Tryz.ntmps69
  go_wp2
  go_ret2
  exact⟨rfl,rfl⟩
 ·have d1:decide (x<1)=false:=by simp;omega
  have d2:decide (1048576<x)=true:=by simp;omega
  clear h h1
  go_enter Tryz.func69,Tryz.ntmps69
  go_wp2
  go_ret2
  exact⟨rfl,rfl⟩
end Go.Proofs.YtfhmfjcpggddkaaGreatDoor
namespace Go.Proofs.YtfhmfjcpggddkaaGreatDoor
open Go.RowKit Lh
theorem bucketOf_bad (k:Nat)(x:Int)(w:World)(h:x<1∨1048576<x) :
  Calls Tryz.prog 22 #[.int .u64 (k:Nat),.int .i64 x] w fun e w'=>e=.returned (.tuple #[.int .i64 0,.int .i64 2])∧Below w.heap.size w w':=by
 have hp:=pathOf_bad k x w h
 clear h
 go_enter Tryz.func22,Tryz.ntmps22
 go_wp2_with fail
 refine hp.mono ?_
 rintro e w1 ⟨rfl,rfl⟩
 clear hp
 go_wp2
 go_ret2
 exact⟨rfl,Below.refl _ _⟩
theorem bucketOf_good (k n:Nat)(w:World)(hn1:1≤n)(hn:n≤1048576) :
  Calls Tryz.prog 22 #[.int .u64 (k:Nat),.int .i64 (n:Nat)] w fun e w'=>e=.returned (.tuple #[.int .i64 (jb k n:Nat),.int .i64 0])∧Below w.heap.size w w':=by
 have hp:=pathOf_good k n w hn1 hn
 have h0:=jlen_pos (k:=k) hn1
 have hle:=jlen_le k n
 have hjb:jat k (jlen k n - 1)=jb k n:=rfl
 have hget:∀h:jlen k n - 1<(jp k (jlen k n)).length,(jp k (jlen k n))[jlen k n - 1]=((jat k (jlen k n - 1):Nat):Int):=fun h=>jp_get k _ h
 have hlen:=jp_length k (jlen k n)
 rw[hjb] at hget
 generalize jb k n=r at *
 generalize jp k (jlen k n)=L at *
 generalize jlen k n=q at *
 clear hjb
 go_enter Tryz.func22,Tryz.ntmps22
 go_wp2_with fail
 refine hp.mono ?_
 rintro e w1 ⟨v,rfl,hown,hb⟩
 obtain⟨g,c,rfl,hqc,hx⟩:=owns_head hown h0
 have hck:=hx (q - 1) (by omega)
 rw[hget (by omega)] at hck
 have e1:((q:Int) - 1)=((q - 1:Nat):Int):=by omega
 have e2:IntKind.i64.wrap ((q:Int) - 1)=((q - 1:Nat):Int):=by rw[e1];simp[IntKind.wrap,IntKind.signed,IntKind.bits];omega
 have e3:((q - 1:Nat):Int)<(q:Int):=by omega
 clear hp hown hx hget
 go_wp2
 go_ret2
 exact⟨rfl,hb⟩
end Go.Proofs.YtfhmfjcpggddkaaGreatDoor
