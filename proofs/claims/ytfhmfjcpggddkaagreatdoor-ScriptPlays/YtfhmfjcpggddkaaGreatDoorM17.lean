/- The landed health: Look. -/
import Derived.Test.YtfhmfjcpggddkaaGreatDoorM16
import Derived.Test.YtfhmfjcpggddkaaGreatDoorM11
import Derived.Test.YtfhmfjcpggddkaaGreatDoorM9
import Derived.Test.YtfhmfjcpggddkaaGreatDoorM5
import Derived.Maps.OwnOps
import Derived.BigQuiet
import Derived.Deep.RegionHeld3
import Derived.Maps.RangeWalk
import Derived.Laws.IdiomRangeMap
import Derived.Deep.LoopGhost
set_option maxHeartbeats 20000000
set_option maxRecDepth 100000
namespace Go.Proofs.YtfhmfjcpggddkaaGreatDoor
open Go.RowKit Go.Shelf
section
variable {W:World} {p f r:Nat} {l:List Lh.Hh} {bs:List Nat} {lv:Value}
theorem lookS_none (a:Nat→Addr)(he:Errs4 a W)(h:HR W p f r l bs lv)(hl:l.length≤12)(s:ByteArray)(well:Bool)(hx:¬Lh.hix l s<l.length) :
  Calls Tryz.prog 98 #[.pointer (some ⟨p,0,none⟩),.string s,.bool well] W fun e w'=>e=.returned (.tuple #[.bool false,.iface 378 (.pointer (some (a 4)))])∧Below W.heap.size W w':=by
 have hfd:=findS_none h hl s hx
 have HE:Hid (Errs4 a W):=he
 clear h hx he
 go_enter Tryz.func98,Tryz.ntmps98
 go_wp2_with fail
 refine hfd.mono ?_
 rintro e w1 ⟨rfl,hb1⟩
 have s4:=(HE.out.later hb1).s4
 clear hfd
 go_wp2
 go_quiet (fail)
 go_wp2
 go_ret2
 exact⟨rfl,below_drewN hb1 nq⟩
theorem blk_set {w:World}{b:Nat}(h:∃cs t,w.heap[b]?=some (.cells cs t (0,0)))(k:Nat)(v:Value):∃cs t,(w.setCell ⟨b,k,none⟩ v).heap[b]?=some (.cells cs t (0,0)):=by
 obtain⟨cs,t,h⟩:=h
 exact⟨_,_,heap_setCell_same w b k _ _ v h⟩
theorem HSt.set2 {w:World}{b:Nat}{x1:ByteArray}{u:Bool}{c:Nat}(h:HSt w b (x1,u,c))(d:Nat):HSt (w.setCell ⟨b,2,none⟩ (.int .i64 (d:Nat))) b (x1,u,d):=by
 have c0:=h.c0
 have c1:=h.c1
 have c2:=h.c2
 refine⟨?_,?_,?_,fun k=>?_,blk_set h.blk _ _⟩
 ·simp[go_sem,c0]
 ·simp[go_sem,c1]
 ·simp[go_sem,c2]
 ·have:=h.fz k
  simp[go_sem,this]
theorem HSt.set1 {w:World}{b:Nat}{x1:ByteArray}{u:Bool}{c:Nat}(h:HSt w b (x1,u,c))(v:Bool):HSt (w.setCell ⟨b,1,none⟩ (.bool v)) b (x1,v,c):=by
 have c0:=h.c0
 have c1:=h.c1
 have c2:=h.c2
 refine⟨?_,?_,?_,fun k=>?_,blk_set h.blk _ _⟩
 ·simp[go_sem,c0]
 ·simp[go_sem,c1]
 ·simp[go_sem,c2]
 ·have:=h.fz k
  simp[go_sem,this]
theorem lookS_same (b:Nat)(s:ByteArray)(u:Bool)(x1:ByteArray)(c:Nat)(hfd:Calls Tryz.prog 155 #[.pointer (some ⟨p,0,none⟩),.string s] W fun e w'=>e=.returned (.pointer (some ⟨b,0,none⟩))∧Below W.heap.size W w')(hst:HSt W b (x1,u,c)) :
  Calls Tryz.prog 98 #[.pointer (some ⟨p,0,none⟩),.string s,.bool u] W fun e w'=>e=.returned (.tuple #[.bool false,.nilIface])∧Tur (fun j=>j=b) W w'∧HSt w' b (x1,u,0):=by
 have HS:Hid (HSt W b (x1,u,c)):=hst
 have hq:(u==u)=true:=by simp
 clear hst
 go_enter Tryz.func98,Tryz.ntmps98
 go_wp2_with fail
 refine hfd.mono ?_
 rintro e w1 ⟨rfl,hb1⟩
 have hs:=HS.out.same (hb1.block b HS.out.lt)
 have HS1:Hid (HSt w1 b (x1,u,c)):=hs
 have c1:w1.cell? ⟨b,1,none⟩=some (.bool u):=hs.c1
 have c2:w1.cell? ⟨b,2,none⟩=some (.int .i64 (c:Nat)):=hs.c2
 have f2:=hs.fz 2
 clear hfd hs
 go_wp2
 go_ret2
 exact⟨rfl,Tur.setCell (F:=fun j=>j=b) (Tur.of_below hb1) 2 (Or.inl rfl) _,HS1.out.set2 0⟩
theorem Tur.then {F:Nat→Prop}{w w1 w2:World}(h:Tur F w w1)(hb:Below w1.heap.size w1 w2):Tur F w w2 :=
 ⟨hb.os.trans h.os,hb.tape.trans h.tape,hb.output.trans h.output,Nat.le_trans h.size hb.size,fun j hj hf=>(hb.block j (Nat.lt_of_lt_of_le hj h.size)).trans (h.block j hj hf)⟩
theorem lookS_other (b E:Nat)(s:ByteArray)(u well:Bool)(hw:well=!u)(x1:ByteArray)(c:Nat)(hc:c<10)(_hE:E≤10)(hpb:p≠b)(hfd:Calls Tryz.prog 155 #[.pointer (some ⟨p,0,none⟩),.string s] W fun e w'=>e=.returned (.pointer (some ⟨b,0,none⟩))∧Below W.heap.size W w')(hst:HSt W b (x1,u,c))(hed:∀W',W'.heap[p]?=W.heap[p]?→Calls Tryz.prog 156 #[.pointer (some ⟨p,0,none⟩),.bool u] W' fun e w'=>e=.returned (.int .i64 (E:Nat))∧w'=W')(hp:p<W.heap.size) :
  Calls Tryz.prog 98 #[.pointer (some ⟨p,0,none⟩),.string s,.bool well] W fun e w'=>Tur (fun j=>j=b) W w'∧((E≤c+1∧e=.returned (.tuple #[.bool true,.nilIface])∧HSt w' b (x1,!u,0))∨(¬E≤c+1∧e=.returned (.tuple #[.bool false,.nilIface])∧HSt w' b (x1,u,c+1))):=by
 have HS:Hid (HSt W b (x1,u,c)):=hst
 have HED:Hid (∀W',W'.heap[p]?=W.heap[p]?→Calls Tryz.prog 156 #[.pointer (some ⟨p,0,none⟩),.bool u] W' fun e w'=>e=.returned (.int .i64 (E:Nat))∧w'=W'):=hed
 have HPB:Hid (p≠b):=hpb
 have HP:Hid (p<W.heap.size):=hp
 have hq:(well==u)=false:=by subst hw;cases u<;>rfl
 have HW:Hid (well=!u):=hw
 clear hst hed hpb hw hp
 go_enter Tryz.func98,Tryz.ntmps98
 go_wp2_with fail
 refine hfd.mono ?_
 rintro e w1 ⟨rfl,hb1⟩
 have hs:=HS.out.same (hb1.block b HS.out.lt)
 have HS1:Hid (HSt w1 b (x1,u,c)):=hs
 have c1:w1.cell? ⟨b,1,none⟩=some (.bool u):=hs.c1
 have c2:w1.cell? ⟨b,2,none⟩=some (.int .i64 (c:Nat)):=hs.c2
 have f1:=hs.fz 1
 have f2:=hs.fz 2
 clear hfd hs
 go_wp2_with fail
 have T2:Tur (fun j=>j=b) W (w1.setCell ⟨b,2,none⟩ (.int .i64 ((c:Int)+1))):=Tur.setCell (F:=fun j=>j=b) (Tur.of_below hb1) 2 (Or.inl rfl) _
 have HS2:HSt (w1.setCell ⟨b,2,none⟩ (.int .i64 ((c:Int)+1))) b (x1,u,c+1):=HS1.out.set2 (c+1)
 clear c1 c2 f1 f2 hb1 HS1
 generalize w1.setCell ⟨b,2,none⟩ (.int .i64 ((c:Int)+1))=w2 at *
 have HT2:Hid (Tur (fun j=>j=b) W w2):=T2
 have HST2:Hid (HSt w2 b (x1,u,c+1)):=HS2
 have k1:w2.cell? ⟨b,1,none⟩=some (.bool u):=HS2.c1
 have k2:w2.cell? ⟨b,2,none⟩=some (.int .i64 ((c:Int)+1)):=HS2.c2
 have HKC:Hid (∀W',Below w2.heap.size w2 W'→Below w2.heap.size w2 W'∧W'.cell? ⟨b,1,none⟩=some (.bool u)∧W'.cell? ⟨b,2,none⟩=some (.int .i64 ((c:Int)+1))):=fun W' h=>⟨h,below_cell h k1,below_cell h k2⟩
 have HEW:Hid (∀W',Below w2.heap.size w2 W'→Calls Tryz.prog 156 #[.pointer (some ⟨p,0,none⟩),.bool u] W' fun e w'=>e=.returned (.int .i64 (E:Nat))∧Below w2.heap.size w2 w'):=fun W' h=>(HED.out W' ((h.block p (Nat.lt_of_lt_of_le HP.out HT2.out.size)).trans (HT2.out.block p HP.out HPB.out))).mono fun _ _ ⟨q1,q2⟩=>⟨q1,by rw[q2];exact h⟩
 clear T2 HS2 HED
 by_cases hlt:c+1<E
 ·have d:decide ((c:Int)+1<(E:Int))=true:=by simp;omega
  go_region_held3 (fun w'=>Below w2.heap.size w2 w'∧w'.cell? ⟨b,1,none⟩=some (.bool u)∧w'.cell? ⟨b,2,none⟩=some (.int .i64 ((c:Int)+1)))
   (first|exact HKC.out _ (by assumption)|exact HKC.out _ (below_drewN (Below.refl _ _) 1)|exact HKC.out _ (Below.refl _ _))
   (first|(go_at_call 156;refine (HEW.out _ (by first|assumption|exact Below.refl _ _|exact below_drewN (Below.refl _ _) 1)).mono ?_;rintro e wz ⟨rfl,hbz⟩))
  all_goals
   go_wp2
   go_ret2
   exact⟨HT2.out.then hbz,Or.inr ⟨by omega,rfl,HST2.out.same (hbz.block b HST2.out.lt)⟩⟩
 ·have d:decide ((c:Int)+1<(E:Int))=false:=by simp;omega
  go_region_held3 (fun w'=>Below w2.heap.size w2 w'∧w'.cell? ⟨b,1,none⟩=some (.bool u)∧w'.cell? ⟨b,2,none⟩=some (.int .i64 ((c:Int)+1)))
   (first|exact HKC.out _ (by assumption)|exact HKC.out _ (below_drewN (Below.refl _ _) 1)|exact HKC.out _ (Below.refl _ _))
   (first|(go_at_call 156;refine (HEW.out _ (by first|assumption|exact Below.refl _ _|exact below_drewN (Below.refl _ _) 1)).mono ?_;rintro e wz ⟨rfl,hbz⟩))
  all_goals
   have hsz:=HST2.out.same (hbz.block b HST2.out.lt)
   have HSZ:Hid (HSt wz b (x1,u,c+1)):=hsz
   have z1:wz.cell? ⟨b,1,none⟩=some (.bool u):=hsz.c1
   have z2:wz.cell? ⟨b,2,none⟩=some (.int .i64 ((c:Int)+1)):=hsz.c2
   have g1:=hsz.fz 1
   have g2:=hsz.fz 2
   clear hsz k1 k2
   go_wp2
   go_ret2
   refine⟨?_,Or.inl ⟨by omega,rfl,?_⟩⟩
   ·exact Tur.setCell (F:=fun j=>j=b) (Tur.setCell (F:=fun j=>j=b) (HT2.out.then hbz) 1 (Or.inl rfl) _) 2 (Or.inl rfl) _
   ·rw[←HW.out]
    exact (HSZ.out.set1 well).set2 0
theorem lookS_any (a:Nat→Addr)(he:Errs4 a W)(h:HR W p f r l bs lv)(hk:Lh.HOk f r l)(s:ByteArray)(well:Bool) :
    Calls Tryz.prog 98 #[.pointer (some ⟨p,0,none⟩),.string s,.bool well] W fun e w'=>Tur (HFoot p bs lv) W w' ∧
      ((∃h:Lh.hix l s<l.length,e=.returned (.tuple #[.bool (Lh.hlook f r l[Lh.hix l s] well).2,.nilIface])∧HR w' p f r (l.set (Lh.hix l s) (Lh.hlook f r l[Lh.hix l s] well).1) bs lv) ∨
       (¬Lh.hix l s<l.length∧e=.returned (.tuple #[.bool false,.iface 378 (.pointer (some (a 4)))])∧HR w' p f r l bs lv)):=by
  by_cases hx:Lh.hix l s<l.length
  · obtain⟨b,hb⟩:=h.at hx
    have hfd:=findS_good h hk.len s hx hb
    have hst:=h.stAt hb hx
    have hmem:b∈bs:=List.mem_of_getElem? hb
    have hcn:=hk.cnt _ (List.getElem_mem hx)
    have hE:=Lh.hedge_le hk.f10 hk.r10 (l[Lh.hix l s]).2.1
    have hgt:=h.gt b hmem
    obtain⟨⟨x1,u,c⟩,hxe⟩:∃x,l[Lh.hix l s]=x:=⟨_,rfl⟩
    rw[hxe] at hst hcn hE
    by_cases hwu:well=u
    · subst hwu
      refine (lookS_same b s well x1 c hfd hst).mono ?_
      rintro e w' ⟨rfl,hT,hS⟩
      have e1:Lh.hlook f r (x1,well,c) well=((x1,well,0),false):=by simp[Lh.hlook]
      obtain⟨h1,h2⟩:=h.turned hb hx hT hS
      exact⟨h2,Or.inl ⟨hx,by rw[hxe,e1],by rw[hxe,e1];exact h1⟩⟩
    · refine (lookS_other b (Lh.hedge f r u) s u well (by cases u<;>cases well<;>simp_all) x1 c (by simp at hcn hE;omega) hE (by omega) hfd hst (fun W' hW'=>edge_any p f r u W' ((World.cell?_of_block (w:=W) (w':=W') (a:=⟨p,0,none⟩) hW').trans h.c0) ((World.cell?_of_block (w:=W) (w':=W') (a:=⟨p,1,none⟩) hW').trans h.c1)) h.plt).mono ?_
      rintro e w' ⟨hT,⟨h1,rfl,hS⟩|⟨h1,rfl,hS⟩⟩
      · have e1:Lh.hlook f r (x1,u,c) well=((x1,!u,0),true):=by simp[Lh.hlook,hwu,h1]
        obtain⟨h1,h2⟩:=h.turned hb hx hT hS
        exact⟨h2,Or.inl ⟨hx,by rw[hxe,e1],by rw[hxe,e1];exact h1⟩⟩
      · have e1:Lh.hlook f r (x1,u,c) well=((x1,u,c+1),false):=by simp[Lh.hlook,hwu,h1]
        obtain⟨h1,h2⟩:=h.turned hb hx hT hS
        exact⟨h2,Or.inl ⟨hx,by rw[hxe,e1],by rw[hxe,e1];exact h1⟩⟩
  · refine (lookS_none a he h hk.len s well hx).mono ?_
    rintro e w' ⟨rfl,hB⟩
    exact⟨Tur.of_below hB,Or.inr ⟨hx,rfl,h.later hB⟩⟩
end
theorem infoP:(Tryz.prog.info? 217).map (fun i=>(i.zero,i.size,i.bytes))=some (some (.pointer none),1,8):=by kernel_rfl
section
variable {W W2 w1:World} {p f r:Nat} {l:List Lh.Hh} {bs:List Nat} {lv:Value}
theorem HR.added (h:HR W p f r l bs lv)(x:Lh.Hh){b:Nat}(hb:b=W.heap.size)(hB:Below W.heap.size W W2)(hst:HSt W2 b x){g cap:Nat}(hown:w1.ownsRow (p+1) 217 1 (.slice (some ⟨g,0,none⟩) (l.length+1) cap) (l.length+1) ((bs++[b]).map ptrS))(hgr:W2.grownBy w1 lv.ownBlock)(hat:lv.ownBlock=some g∨g=W2.heap.size) :
  HR (w1.setCell ⟨p,2,none⟩ (.slice (some ⟨g,0,none⟩) (l.length+1) cap)) p f r (l++[x]) (bs++[b]) (.slice (some ⟨g,0,none⟩) (l.length+1) cap)∧Tur (HFoot p bs lv) W (w1.setCell ⟨p,2,none⟩ (.slice (some ⟨g,0,none⟩) (l.length+1) cap))∧∀j,HFoot p (bs++[b]) (.slice (some ⟨g,0,none⟩) (l.length+1) cap) j→HFoot p bs lv j∨W.heap.size≤j:=by
 have hp:=h.plt
 have hs2:=hB.size
 have hbl:=hst.lt
 have hne:∀k,k≤p→some k≠lv.ownBlock:=fun k hk e=>by
  have:=(h.own.lt k e.symm).1
  omega
 have hneb:some b≠lv.ownBlock:=fun e=>by
  have:=(h.own.lt b e.symm).2
  omega
 have hsame:∀k,k<W2.heap.size→k≠p→some k≠lv.ownBlock→(w1.setCell ⟨p,2,none⟩ (.slice (some ⟨g,0,none⟩) (l.length+1) cap)).heap[k]?=W2.heap[k]?:=fun k hk hkm hkr=>by
  rw[heap_setCell_other w1 ⟨p,2,none⟩ k _ (fun e=>hkm e),hgr.block k hk hkr]
 have hpb:w1.heap[p]?=W.heap[p]?:=(hgr.block p (by omega) (hne p (Nat.le_refl _))).trans (hB.block p hp)
 refine⟨⟨?_,?_,?_,fun k=>?_,?_,?_,fun i h1 h2=>?_,?_,fun y hy=>?_,fun y hy=>?_⟩,⟨?_,?_,?_,?_,fun k hk hf=>?_⟩,fun j hj=>?_⟩
 ·have:w1.cell? ⟨p,0,none⟩=_:=(World.cell?_of_block (w:=W) (w':=w1) (a:=⟨p,0,none⟩) hpb).trans h.c0
  simp[go_sem,this]
 ·have:w1.cell? ⟨p,1,none⟩=_:=(World.cell?_of_block (w:=W) (w':=w1) (a:=⟨p,1,none⟩) hpb).trans h.c1
  simp[go_sem,this]
 ·have:w1.cell? ⟨p,2,none⟩=_:=(World.cell?_of_block (w:=W) (w':=w1) (a:=⟨p,2,none⟩) hpb).trans h.c2
  simp[go_sem,this]
 ·have:w1.frozen? ⟨p,k,none⟩=_:=(World.frozen?_of_block (w:=W) (w':=w1) (a:=⟨p,k,none⟩) hpb).trans (h.fz k)
  simp[go_sem,this]
 ·have h1:=howns_setCell (k:=2) hown (Nat.lt_succ_self p) (.slice (some ⟨g,0,none⟩) (l.length+1) cap)
  rw[List.length_append]
  exact h1
 ·simp[h.len]
 ·by_cases hi:i<l.length
  ·have hi2:i<bs.length:=by rw[h.len];exact hi
   rw[List.getElem_append_left hi,List.getElem_append_left hi2]
   have hs:=h.st i hi hi2
   have hm:=List.getElem_mem hi2
   have hl:=hs.lt
   have hg:=h.gt _ hm
   exact hs.same ((hsame _ (by omega) (by omega) (fun e=>h.apart _ hm e.symm)).trans (hB.block _ hl))
  ·have e:i=l.length:=by simp at h1;omega
   subst e
   have e2:(bs++[b])[l.length]'h2=b:=by simp[←h.len]
   have e3:(l++[x])[l.length]'h1=x:=by simp
   rw[e2,e3]
   exact hst.same (hsame b hbl (by omega) hneb)
 ·rw[List.nodup_append]
  refine⟨h.nd,by simp,fun y hy z hz e=>?_⟩
  simp at hz
  have:=h.blt hy
  omega
 ·rcases List.mem_append.1 hy with hy|hy
  ·exact h.gt y hy
  ·simp at hy
   omega
 ·show some g≠some y
  intro e
  cases e
  rcases List.mem_append.1 hy with hy|hy
  ·rcases hat with e|e
   ·exact h.apart g hy e
   ·have:=h.blt hy
    omega
  ·simp at hy
   rcases hat with e|e
   ·exact hneb (by rw[e,hy])
   ·omega
 ·exact hgr.os.trans hB.os
 ·exact hgr.tape.trans hB.tape
 ·exact hgr.output.trans hB.output
 ·have:=hgr.size
  simp[World.setCell]
  omega
 ·exact (hsame k (by omega) (fun e=>hf (Or.inl e)) (fun e=>hf (Or.inr (Or.inl e.symm)))).trans (hB.block k hk)
 ·rcases hj with rfl|e|hy
  ·exact Or.inl (Or.inl rfl)
  ·have e':g=j:=Option.some.inj e
   subst e'
   rcases hat with e2|e2
   ·exact Or.inl (Or.inr (Or.inl e2))
   ·exact Or.inr (by omega)
  ·rcases List.mem_append.1 hy with hy|hy
   ·exact Or.inl (Or.inr (Or.inr hy))
   ·simp at hy
    exact Or.inr (by omega)
theorem HR.grown (h:HR W p f r l bs lv)(hB:Below W.heap.size W W2)(hgr:W2.grownBy w1 lv.ownBlock):w1.cell? ⟨p,2,none⟩=some lv∧w1.frozen? ⟨p,2,none⟩=false:=by
 have hp:=h.plt
 have hs2:=hB.size
 have hpb:w1.heap[p]?=W.heap[p]?:=(hgr.block p (by omega) (fun e=>by have:=(h.own.lt p e.symm).1;omega)).trans (hB.block p hp)
 exact⟨(World.cell?_of_block (w:=W) (w':=w1) (a:=⟨p,2,none⟩) hpb).trans h.c2,(World.frozen?_of_block (w:=W) (w':=w1) (a:=⟨p,2,none⟩) hpb).trans (h.fz 2)⟩
end
theorem cellsP {W:World}{q b:Nat}(h:W.cell? ⟨q,0,none⟩=some (ptrS b)):∀j u,[ptrS b][j]?=some u→W.cell? ((⟨q,0,none⟩:Addr).add j)=some u:=by
 intro j u hu
 match j,hu with
 | 0,hu=>simp at hu;subst hu;simpa [Addr.add] using h
 | j+1,hu=>simp at hu
theorem wpList_append_s {ops:Array Oper}{rest:List Oper}{o:Oper}{a:Act}{Q:Exit→Act→World→Prop}{W:World}(p q b:Nat)(hgd:o.guard=none)(so xo:Operand)
  (ho:o.op=.call { callee:=.builtin .append,args:=#[so,xo],argTypes:=#[248,248] })
  (v:Value) (bs:List Nat) (n:Nat) (hs:a.eval so=v) (hx:a.eval xo=.slice (some ⟨q,0,none⟩) 1 1) (hown:W.ownsRow (p+1) 217 1 v n (bs.map ptrS)) (hl:n≤208) (hp:p<W.heap.size) (hq:W.cell? ⟨q,0,none⟩=some (ptrS b))
  (h:∀g cap w',w'.ownsRow (p+1) 217 1 (.slice (some ⟨g,0,none⟩) (n+1) cap) (n+1) ((bs++[b]).map ptrS)→W.grownBy w' v.ownBlock→(v.ownBlock=some g∨g=W.heap.size)→wpList Tryz.prog ops Q rest (a.put o.dst (.slice (some ⟨g,0,none⟩) (n+1) cap)) w') :
  wpList Tryz.prog ops Q (o :: rest) a W:=by
 obtain⟨i,hi,hz0,hz1,hz2⟩:=info_parts infoP
 refine wpList_append_lies W hgd so xo 248 ho (p+1) 217 i _ 1 8 Tryz.underlying248 hi hz0 hz1 hz2 rfl (by decide) v n (bs.map ptrS) hs hown ⟨q,0,none⟩ 1 1 [ptrS b] hx rfl (cellsP hq) (fun u hu=>by simp at hu;subst hu;rfl) (by decide) (by unfold maxLen;omega) (by omega) (by omega) W.heap.size rfl ?_
 intro g cp w1 hown1 hgr hat _
 have e:bs.map ptrS++[ptrS b]=(bs++[b]).map ptrS:=by simp
 rw[e] at hown1
 exact h g cp w1 hown1 hgr hat
theorem laid2 (W:World)(s:ByteArray)(u:Bool):Below W.heap.size W ((W.alloc (.cells #[.string s,.bool u,.int .i64 0] 220)).alloc (.cells #[.pointer (some ⟨W.heap.size,0,none⟩)] 217))∧HSt ((W.alloc (.cells #[.string s,.bool u,.int .i64 0] 220)).alloc (.cells #[.pointer (some ⟨W.heap.size,0,none⟩)] 217)) W.heap.size (s,u,0)∧((W.alloc (.cells #[.string s,.bool u,.int .i64 0] 220)).alloc (.cells #[.pointer (some ⟨W.heap.size,0,none⟩)] 217)).cell? ⟨W.heap.size+1,0,none⟩=some (ptrS W.heap.size):=by
 have h1:Below W.heap.size W (W.alloc (.cells #[.string s,.bool u,.int .i64 0] 220)):=(Below.refl _ _).alloc (Nat.le_refl _) _
 have hst:HSt (W.alloc (.cells #[.string s,.bool u,.int .i64 0] 220)) W.heap.size (s,u,0):=⟨by simp,by simp,by simp,fun k=>by simp,_,_,show (W.heap.push (.cells #[.string s,.bool u,.int .i64 0] 220 (0,0)))[W.heap.size]?=_ from Array.getElem?_push_size⟩
 have h2:Below (W.alloc (.cells #[.string s,.bool u,.int .i64 0] 220)).heap.size (W.alloc (.cells #[.string s,.bool u,.int .i64 0] 220)) ((W.alloc (.cells #[.string s,.bool u,.int .i64 0] 220)).alloc (.cells #[.pointer (some ⟨W.heap.size,0,none⟩)] 217)):=(Below.refl _ _).alloc (Nat.le_refl _) _
 exact⟨below_then h1 h2,hst.same (h2.block _ hst.lt),by rw[World.cell?_alloc_at _ _ _ _ (by simp)];rfl⟩
def thoseN (q:Lh.Hh→Bool)(l:List Lh.Hh)(k:Nat):List ByteArray:=((l.take k).filter q).map fun x=>x.1
theorem thoseN_succ (q:Lh.Hh→Bool)(l:List Lh.Hh){k:Nat}(h:k<l.length):thoseN q l (k+1)=thoseN q l k++(if q l[k] then [(l[k]).1] else []):=by
 unfold thoseN
 rw[List.take_succ_eq_append_getElem h,List.filter_append,List.map_append]
 congr 1
 cases e:q l[k]<;>simp[e]
theorem thoseN_len (q:Lh.Hh→Bool)(l:List Lh.Hh)(k:Nat):(thoseN q l k).length≤k:=by
 unfold thoseN
 rw[List.length_map]
 refine Nat.le_trans (List.length_filter_le _ _) ?_
 rw[List.length_take]
 omega
theorem those_core (fn:Nat)(eg:∀args w,(callFunc fn args).run Tryz.prog w=.ok (.enter fn args) w)(q:Lh.Hh→Bool){W:World}{p f r:Nat}{l:List Lh.Hh}{bs:List Nat}{lv:Value}(h:HR W p f r l bs lv)(hl:l.length≤12)
  (hq:∀k (h1:k<l.length) (h2:k<bs.length) W',Below W.heap.size W W'→Calls Tryz.prog fn #[.pointer (some ⟨bs[k],0,none⟩)] W' fun e w'=>e=.returned (.bool (q l[k]))∧w'=W') :
  Calls Tryz.prog 159 #[.pointer (some ⟨p,0,none⟩),.func (.func fn) #[] #[]] W fun e w'=>∃v,e=.returned v∧w'.ownsRow W.heap.size 9 1 v (thoseN q l l.length).length ((thoseN q l l.length).map Value.string)∧Below W.heap.size W w':=by
 obtain⟨i,hi,hz0,hz1,hz2⟩:=info_parts infoS
 obtain⟨p0,cap,hlv⟩:=h.shape
 have HC:Hid (∀i (hi:i<l.length) (h2:i<bs.length),∃g,p0=some ⟨g,0,none⟩∧W.cell? ⟨g,i,none⟩=some (.pointer (some ⟨bs[i],0,none⟩))∧W.cell? ⟨bs[i],0,none⟩=some (.string (l[i]).1)):=fun i hi h2=>by
  obtain⟨g,cap',e,_,_,_,hc,_⟩:=h.row (by omega)
  rw[hlv] at e
  cases e
  exact⟨g,rfl,hc i h2,(h.st i hi h2).c0⟩
 have HQ:Hid (∀k (h1:k<l.length) (h2:k<bs.length) W',Below W.heap.size W W'→Calls Tryz.prog fn #[.pointer (some ⟨bs[k],0,none⟩)] W' fun e w'=>e=.returned (.bool (q l[k]))∧w'=W'):=hq
 have HLN:Hid (bs.length=l.length):=h.len
 have c2:=h.c2
 subst hlv
 clear h hq
 go_enter Tryz.func159,Tryz.ntmps159
 go_wp2_with fail
 go_loopw [5,7,15] (fun v _ t W'=>Below W.heap.size W W'∧∃k:Nat,k≤l.length∧t=.int .i64 (k:Nat)∧W'.ownsRow W.heap.size 9 1 v (thoseN q l k).length ((thoseN q l k).map Value.string)) (fun _ _ t _=>l.length - (intOf t).toNat)
 case atStart=>exact⟨Below.refl _ _,0,Nat.zero_le _,rfl,World.ownsRow_nil _ _ _ _⟩
 case round =>
  obtain⟨hb,k,hk,rfl,hown⟩:=hrel
  obtain⟨wo,hwo⟩:∃wo,wo=wr:=⟨_,rfl⟩
  subst hwo
  obtain⟨vo,hvo⟩:∃vo,vo=u5:=⟨_,rfl⟩
  subst hvo
  clear c2
  by_cases hlt:k<l.length
  ·have hlt2:k<bs.length:=by rw[HLN.out];exact hlt
   obtain⟨g,rfl,cn,cu⟩:=HC.out k hlt hlt2
   have cn':=below_cell hb cn
   have cu':=below_cell hb cu
   have hcall:=HQ.out k hlt hlt2 wo hb
   have hki:(k:Int)<(l.length:Int):=by omega
   have hul:=thoseN_len q l k
   have hsu:=thoseN_succ q l hlt
   clear cn cu
   generalize (l[k]).1=s at *
   generalize bs[k]=b at *
   cases hu:q l[k] with
   | true =>
    rw[hu] at hcall hsu
    simp only[if_true] at hsu
    have HSU:Hid (thoseN q l (k+1)=thoseN q l k++[s]):=hsu
    clear hu hsu
    generalize thoseN q l k=out at *
    have hown3:=hown.alloc (.cells #[.string s] 9)
    have hnews:=cells_one (w:=wo) (t:=9) s
    have hbw3:Below W.heap.size W (wo.alloc (.cells #[.string s] 9)):=hb.alloc hb.size _
    have hmax:out.length+1≤maxLen:=by unfold maxLen;omega
    clear hown
    go_wp2_with (first|(go_at_fn fn;refine hcall.mono ?_;rintro e w' ⟨rfl,rfl⟩;clear hcall)|(at_builtin;refine wpList_append_own _ rfl _ _ 22 rfl W.heap.size 9 i _ 1 16 Tryz.underlying22 hi hz0 hz1 hz2 rfl (by decide) vo out.length (out.map Value.string) rfl hown3 ⟨_,0,none⟩ 1 1 [.string s] rfl rfl hnews (fun u hu=>by simp at hu;subst hu;rfl) hmax (by omega) hbw3.size ?_))
    intro v' w4 hown4 hg4 _
    have hlo:=hown3.lt
    have hb4:Below W.heap.size W w4:=hbw3.grown hg4 hbw3.size (fun k hk=>(hlo k hk).1)
    have hown5:=owns_snoc hown4
    have HOUT:Hid (w4.ownsRow W.heap.size 9 1 v' (out++[s]).length ((out++[s]).map Value.string)):=by rw[List.length_append];exact hown5
    clear hown3 hnews hlo hg4 hbw3 hmax hown4 hown5
    go_wp2
    exact⟨⟨hb4,k+1,by omega,by go_num,by rw[HSU.out];exact HOUT.out⟩,by simp[intOf];omega⟩
   | false =>
    rw[hu] at hcall hsu
    simp only[Bool.false_eq_true,if_false,List.append_nil] at hsu
    have HOUT:Hid (wo.ownsRow W.heap.size 9 1 vo (thoseN q l (k+1)).length ((thoseN q l (k+1)).map Value.string)):=by rw[hsu];exact hown
    clear hu hsu hown
    go_wp2_with (go_at_fn fn;refine hcall.mono ?_;rintro e w' ⟨rfl,rfl⟩;clear hcall)
    exact⟨⟨hb,k+1,by omega,by go_num,HOUT.out⟩,by simp[intOf];omega⟩
  ·have hki:decide ((k:Int)<(l.length:Int))=false:=by simp;omega
   have HS:Hid (wo.ownsRow W.heap.size 9 1 vo (thoseN q l l.length).length ((thoseN q l l.length).map Value.string)):=by
    have e:k=l.length:=by omega
    rw[←e]
    exact hown
   clear hown
   go_wp2
   go_ret
   exact⟨_,rfl,HS.out,hb⟩
theorem upC (b:Nat)(u:Bool)(W:World)(h1:W.cell? ⟨b,1,none⟩=some (.bool u)) :
  Calls Tryz.prog 160 #[.pointer (some ⟨b,0,none⟩)] W fun e w'=>e=.returned (.bool u)∧w'=W:=by
 go_enter Tryz.func160,Tryz.ntmps160
 go_wp2
 go_ret
 exact⟨rfl,rfl⟩
theorem entersUp:∀args w,(callFunc 160 args).run Tryz.prog w=.ok (.enter 160 args) w:=enters_of Tryz.func160 (by kernel_rfl) rfl
end Go.Proofs.YtfhmfjcpggddkaaGreatDoor
namespace Go.Proofs.YtfhmfjcpggddkaaGreatDoor
open Go.RowKit Go.Maps Go.ChangeMaps
structure FR (W:World)(p mb t:Nat)(la:Int)(L:List Lh.Fl):Prop where
 c0:W.cell? ⟨p,0,none⟩=some (.int .i64 (t:Nat))
 c1:W.cell? ⟨p,1,none⟩=some (.int .i64 la)
 c2:W.cell? ⟨p,2,none⟩=some (.map (some mb))
 fz:∀k,W.frozen? ⟨p,k,none⟩=false
 own:W.ownsMap Tryz.prog 63 flElem mb L.length (FD L)
 ne:p≠mb
def FFt (p mb:Nat)(b:Nat):Prop:=b=p∨b=mb
section
variable {W W':World} {p mb t:Nat} {la:Int} {L:List Lh.Fl}
theorem FR.plt (h:FR W p mb t la L):p<W.heap.size:=World.block_lt_of_cell? W ⟨p,0,none⟩ h.c0
theorem FR.mlt (h:FR W p mb t la L):mb<W.heap.size:=h.own.lt
theorem FR.lt (h:FR W p mb t la L):∀b,FFt p mb b→b<W.heap.size:=by
 rintro b (rfl|rfl)
 ·exact h.plt
 ·exact h.mlt
theorem FR.stay (h:FR W p mb t la L)(hs:∀b,FFt p mb b→W'.heap[b]?=W.heap[b]?):FR W' p mb t la L:=by
 have hm:=hs p (Or.inl rfl)
 have hn:=hs mb (Or.inr rfl)
 refine⟨?_,?_,?_,fun k=>?_,?_,h.ne⟩
 ·rw[World.cell?_of_block (w:=W) (w':=W') (a:=⟨p,0,none⟩) hm];exact h.c0
 ·rw[World.cell?_of_block (w:=W) (w':=W') (a:=⟨p,1,none⟩) hm];exact h.c1
 ·rw[World.cell?_of_block (w:=W) (w':=W') (a:=⟨p,2,none⟩) hm];exact h.c2
 ·rw[World.frozen?_of_block (w:=W) (w':=W') (a:=⟨p,k,none⟩) hm];exact h.fz k
 ·obtain⟨es,clock,hb,r⟩:=h.own
  exact⟨es,clock,hn.trans hb,r⟩
theorem FR.later (h:FR W p mb t la L)(hb:Below W.heap.size W W'):FR W' p mb t la L:=h.stay fun b hf=>hb.block b (h.lt b hf)
theorem FR.tick (h:FR W p mb t la L)(now:Int):FR (W.setCell ⟨p,1,none⟩ (.int .i64 now)) p mb t now L:=by
 refine⟨?_,?_,?_,fun k=>?_,?_,h.ne⟩
 ·rw[World.cell?_setCell_other _ _ _ _ (by simp)];exact h.c0
 ·exact World.cell?_setCell_same' _ _ _ (by rw[h.c1];rfl)
 ·rw[World.cell?_setCell_other _ _ _ _ (by simp)];exact h.c2
 ·rw[World.frozen?_setCell];exact h.fz k
 ·exact h.own.setCell (fun e=>h.ne e.symm) _
theorem ownsMap_tight {w:World}{P:Program}{k:TypeId}{R:Value→Option (DataW Unit × List MemPlace)}{b n:Nat}{D:DataW Unit}(h:w.ownsMap P k R b n D):w.ownsMap P k R b (Maps.size D) D:=by
 obtain⟨es,clock,hb,F,hs,rfl⟩:=h
 refine⟨es,clock,hb,F,?_,rfl⟩
 simp[Maps.size,length_sorted]
theorem Tur.ticked (now:Int):Tur (FFt p mb) W (W.setCell ⟨p,1,none⟩ (.int .i64 now)) :=
 ⟨rfl,rfl,rfl,by simp,fun k _ hf=>Below.heap_setCell _ _ _ k (fun e=>hf (Or.inl e))⟩
structure EF (a:Nat→Addr)(w:World):Prop where
 e4:Errs4 a w
 s7:w.cell? ⟨7,0,none⟩=some (.iface 378 (.pointer (some (a 7))))
theorem EF.later {a:Nat→Addr}{w w':World}(h:EF a w)(hb:Below w.heap.size w w'):EF a w':=⟨h.e4.later hb,below_cell hb h.s7⟩
theorem newF_good (t:Nat)(W:World)(h1:1≤t)(h2:t≤1000) :
  Calls Tryz.prog 131 #[.int .i64 (t:Nat)] W fun e W'=>∃p mb,e=.returned (.tuple #[.pointer (some ⟨p,0,none⟩),.nilIface])∧FR W' p mb t 0 []∧W.heap.size≤p∧W.heap.size≤mb∧Below W.heap.size W W':=by
 have d1:decide ((t:Int)<1)=false:=by simp;omega
 have d2:decide (1000<(t:Int))=false:=by simp;omega
 have hmm:=@run_makeMap Tryz.prog
 go_enter Tryz.func131,Tryz.ntmps131
 go_wp2
 go_ret2
 refine⟨W.heap.size+1,W.heap.size,rfl,⟨by simp,by simp,by simp,fun k=>by simp,?_,by omega⟩,by omega,Nat.le_refl _,((Below.refl _ _).alloc (Nat.le_refl _) _).alloc (by simp) _⟩
 exact (World.ownsMap_made W _ _ _).alloc _
theorem checkF_ok (h:FR W p mb t la L)(now:Int)(hok:TickOk la now) :
  Calls Tryz.prog 190 #[.pointer (some ⟨p,0,none⟩),.int .i64 now] W fun e W'=>e=.returned .nilIface∧Below W.heap.size W W':=by
 obtain⟨h1,h2,h3⟩:=hok
 have c1:=h.c1
 have d1:decide (now<0)=false:=by simp;omega
 have d2:decide (1099511627776<now)=false:=by simp;omega
 have d3:decide (now<la)=false:=by simp;omega
 clear h h1 h2 h3
 go_enter Tryz.func190,Tryz.ntmps190
 go_wp2
 go_ret
 exact⟨rfl,Below.refl _ _⟩
theorem checkF_bad (a:Nat→Addr)(he:EF a W)(h:FR W p mb t la L)(now:Int)(j:Nat)(hf:TickF la now j) :
  Calls Tryz.prog 190 #[.pointer (some ⟨p,0,none⟩),.int .i64 now] W fun e W'=>e=.returned (.iface 378 (.pointer (some (a j))))∧Below W.heap.size W W':=by
 have c1:=h.c1
 have s1:=he.e4.s1
 have s7:=he.s7
 clear h he
 rcases hf with⟨hf,rfl⟩|⟨h1,h2,h3,rfl⟩
 ·by_cases h0:now<0
  ·have d1:decide (now<0)=true:=by simpa using h0
   clear hf h0
   go_enter Tryz.func190,Tryz.ntmps190
   go_wp2
   go_ret
   exact⟨rfl,Below.refl _ _⟩
  ·have d1:decide (now<0)=false:=by simpa using h0
   have d2:decide (1099511627776<now)=true:=by simp;omega
   clear hf h0
   go_enter Tryz.func190,Tryz.ntmps190
   go_wp2
   go_ret
   exact⟨rfl,Below.refl _ _⟩
 ·have d1:decide (now<0)=false:=by simp;omega
  have d2:decide (1099511627776<now)=false:=by simp;omega
  have d3:decide (now<la)=true:=by simpa using h3
  clear h1 h2 h3
  go_enter Tryz.func190,Tryz.ntmps190
  go_wp2
  go_ret
  exact⟨rfl,Below.refl _ _⟩
end
section
variable {W W':World} {p mb t:Nat} {la:Int} {L:List Lh.Fl}
theorem zeroFl (w:World):(zeroValue 80).run Tryz.prog w=.ok (valF (0,⟨#[]⟩,0)) w:=Tryz.zeroValue80 w
theorem wfK {z:Nat}(h:z<18446744073709551616):(Lit.int .u64 (z:Nat)).wf=true:=by
 simp[Lit.wf,IntKind.min,IntKind.max,IntKind.signed,IntKind.bits]
 omega
theorem keyK (z:Nat)(h:z<18446744073709551616):keyOf Tryz.prog 63 (.int .u64 (z:Nat))=some (keyF z):=keyOf_int_mk Tryz.underlying63 (wfK h)
theorem FR.look (h:FR W p mb t la L)(k:Nat)(hk:k<18446744073709551616):(∃hx:Lh.fix L k<L.length,(Instr.lookup 251 (.map (some mb)) (.int .u64 (k:Nat)) true).run Tryz.prog W=.ok (.tuple #[.agg #[.int .u64 ((L[Lh.fix L k]).1:Nat),.string (L[Lh.fix L k]).2.1,.int .i64 (L[Lh.fix L k]).2.2],.bool true]) W) ∨
  (¬Lh.fix L k<L.length∧(Instr.lookup 251 (.map (some mb)) (.int .u64 (k:Nat)) true).run Tryz.prog W=.ok (.tuple #[.agg #[.int .u64 0,.string ⟨#[]⟩,.int .i64 0],.bool false]) W):=by
 obtain⟨v,ps,hrun,hv⟩:=h.own.look_ok u64Keyed Tryz.underlying251 (zeroFl W) (flElem_mk _) (keyK k hk)
 rw[FD_has] at hrun
 by_cases hx:Lh.fix L k<L.length
 ·rw[FD_hit hx] at hv
  obtain rfl:=flElem_inv hv
  rw[decide_eq_true hx] at hrun
  exact Or.inl ⟨hx,hrun⟩
 ·rw[FD_miss hx] at hv
  obtain rfl:=flElem_inv hv
  rw[decide_eq_false hx] at hrun
  exact Or.inr ⟨hx,hrun⟩
theorem hasF_any (h:FR W p mb t la L)(k:Nat)(hk:k<18446744073709551616) :
  Calls Tryz.prog 193 #[.pointer (some ⟨p,0,none⟩),.int .u64 (k:Nat)] W fun e W'=>e=.returned (.bool (decide (Lh.fix L k<L.length)))∧Below W.heap.size W W':=by
 have c2:=h.c2
 rcases h.look k hk with⟨hx,hrun⟩|⟨hx,hrun⟩
 ·rw[decide_eq_true hx]
  generalize (L[Lh.fix L k])=z at hrun
  clear h hx
  go_enter Tryz.func193,Tryz.ntmps193
  go_wp2
  go_ret
  exact⟨rfl,(Below.refl _ _).alloc (Nat.le_refl _) _⟩
 ·rw[decide_eq_false hx]
  clear h hx
  go_enter Tryz.func193,Tryz.ntmps193
  go_wp2
  go_ret
  exact⟨rfl,(Below.refl _ _).alloc (Nat.le_refl _) _⟩
theorem fullF_any (h:FR W p mb t la L) :
  Calls Tryz.prog 194 #[.pointer (some ⟨p,0,none⟩)] W fun e W'=>e=.returned (.bool (decide (200≤L.length)))∧Below W.heap.size W W':=by
 have c2:=h.c2
 have hlen:=fun ty=>h.own.len Tryz.underlying251 ty
 rw[FD_size] at hlen
 clear h
 have d:decide ((200:Int)≤(L.length:Int))=decide (200≤L.length):=decide_eq_decide.2 (by omega)
 go_enter Tryz.func194,Tryz.ntmps194
 go_wp2
 go_ret
 exact⟨rfl,Below.refl _ _⟩
theorem fault_lone {s:ByteArray}{c:Nat}{pl:Int}(h:IsFault [s] c pl):(Lh.isNm s=true∧c=0)∨(Lh.isNm s=false∧c≠0):=by
 rcases h with⟨h,_⟩|⟨_,i,hi,_,_,hc⟩|⟨_,h,hc,_⟩
 ·simp at h
 ·have:i=0:=by simp at hi;omega
  subst this
  rcases hc with⟨h,rfl⟩|⟨_,h,_⟩
  ·exact Or.inr ⟨h,by decide⟩
  ·simp[Lh.mem] at h
 ·exact Or.inl ⟨(h 0 (by simp)).1,hc⟩
theorem isNameF_any (a:Nat→Addr)(he:EF a W)(s:ByteArray)(hs:s.size≤300) :
  Calls Tryz.prog 192 #[.string s] W fun e W'=>e=.returned (.bool (Lh.isNm s))∧Below W.heap.size W W':=by
 have hb0:Below W.heap.size W (W.alloc (.cells #[.string s] 9)):=(Below.refl _ _).alloc (Nat.le_refl _) _
 obtain⟨c,pl,hf⟩:=isFault_ex [s]
 have hchk:=check_any4 a (.slice (some ⟨W.heap.size,0,none⟩) 1 1) [s] (W.alloc (.cells #[.string s] 9)) c pl (he.e4.later hb0) (Or.inr ⟨_,_,_,rfl,Nat.le_refl _,fun k h=>by
  have:k=0:=by simp at h;omega
  subst this
  simp⟩) hf (fun k h=>by
  have:k=0:=by simp at h;omega
  subst this
  simp;omega) (by simp)
 have HF:Hid ((Lh.isNm s=true∧c=0)∨(Lh.isNm s=false∧c≠0)):=fault_lone hf
 clear he hf
 go_enter Tryz.func192,Tryz.ntmps192
 go_wp2_with fail
 refine hchk.mono ?_
 rintro e w1 ⟨ev,rfl,hev,hb1⟩
 have hb:Below W.heap.size W w1:=below_then hb0 hb1
 clear hchk
 rcases HF.out with⟨h1,rfl⟩|⟨h1,h2⟩
 ·obtain rfl:=err0 hev
  have H1:Hid (_=_):=h1
  clear hev h1 HF
  go_wp2
  go_ret
  exact⟨by rw[H1.out];rfl,hb⟩
 ·obtain⟨t,x,rfl⟩:=errPos hev h2
  have H1:Hid (_=_):=h1
  clear hev h1 HF
  go_wp2
  go_ret
  exact⟨by rw[H1.out];rfl,hb⟩
end
end Go.Proofs.YtfhmfjcpggddkaaGreatDoor
namespace Go.Proofs.YtfhmfjcpggddkaaGreatDoor
open Go.RowKit Go.Maps Go.ChangeMaps Go.Shelf
def stayF (L:List Lh.Fl)(pd:Lh.Fl→Bool)(left:Lit→Bool):List Lh.Fl:=L.filter fun x=>left (keyF x.1) || !pd x
theorem stayF_start (L:List Lh.Fl)(pd:Lh.Fl→Bool):stayF L pd (has (FD L))=L:=by
 unfold stayF
 rw[List.filter_eq_self]
 intro x hx
 rw[FD_has,decide_eq_true (Lh.fix_lt.2 ⟨x,hx,rfl⟩)]
 rfl
theorem stayF_end {L:List Lh.Fl}{pd:Lh.Fl→Bool}{left:Lit→Bool}(h:∀kl,left kl=false):stayF L pd left=L.filter fun x=>!pd x:=by
 unfold stayF
 exact List.filter_congr fun x _=>by rw[h];rfl
theorem stayF_no {L:List Lh.Fl}{pd:Lh.Fl→Bool}{left:Lit→Bool}(hp:L.Pairwise fun x y=>x.1<y.1){x:Lh.Fl}(hx:x∈L)(hl:left (keyF x.1)=true)(hd:pd x=false):stayF L pd (fun z=>left z && !z.sameKey (keyF x.1))=stayF L pd left:=by
 unfold stayF
 refine List.filter_congr fun y hy=>?_
 simp only[same_keyF]
 by_cases e:y.1=x.1
 ·obtain rfl:=rise_inj hp hy hx e
  simp[hl,hd]
 ·simp[e]
theorem stayF_yes {L:List Lh.Fl}{pd:Lh.Fl→Bool}{left:Lit→Bool}(hp:L.Pairwise fun x y=>x.1<y.1){x:Lh.Fl}(hx:x∈L)(hd:pd x=true):stayF L pd (fun z=>left z && !z.sameKey (keyF x.1))=(stayF L pd left).filter fun y=>!decide (y.1=x.1):=by
 unfold stayF
 rw[List.filter_filter]
 refine List.filter_congr fun y hy=>?_
 simp only[same_keyF]
 by_cases e:y.1=x.1
 ·obtain rfl:=rise_inj hp hy hx e
  simp[hd]
 ·simp[e]
theorem key_of_lit {key:Value}{k:Nat}(h:keyOf Tryz.prog 63 key=some (keyF k)):key=.int .u64 (k:Nat):=by
 obtain⟨x,rfl,e,_⟩:=keyOf_int_inv Tryz.underlying63 h
 simp only[keyF,Lit.int.injEq,true_and] at e
 rw[←e]
theorem delFuncF (pd:Lh.Fl→Bool)(g:Nat)(cb:Array Value)(b nn:Nat)(L:List Lh.Fl)(hp:L.Pairwise fun x y=>x.1<y.1)(w:World)
  (eg:∀args w,(callFunc g args).run Tryz.prog w=.ok (.enter g args) w) (hown:w.ownsMap Tryz.prog 63 flElem b nn (FD L))
  (hdel:∀(W:World) (x:Lh.Fl),w.grownBy W (some b)→x∈L→Calls Tryz.prog g (#[.int .u64 (x.1:Nat),valF x]++cb) W fun e w'=>e=.returned (.bool (pd x))∧W.grownBy w' none) :
  Calls Tryz.prog 198 #[.map (some b),.func (.func g) #[] cb] w fun e w'=>e=.returned (.tuple #[])∧w'.ownsMap Tryz.prog 63 flElem b nn (FD (L.filter fun x=>!pd x))∧w.grownBy w' (some b):=by
 have HD:Aside _:=hdel
 clear hdel
 go_enter Tryz.func198,Tryz.ntmps198
 go_wp2_with (first
  | (at_range;refine wpList_range_own _ rfl _ 251 rfl 63 80 u64Keyed Tryz.underlying251 flElem b nn _ rfl hown ?_;intro w0 hrg0 hg0 hs0)
  | go_in)
 go_frame
 go_loopw [8] (fun _ wr=>∃(left:Lit→Bool) (cnt:Nat),wr.ranges Tryz.prog 63 flElem b w.heap.size nn (FD (stayF L pd left)) left cnt∧w.grownBy wr (some b))
  (fun _ wr=>wr.rangeLeft b w.heap.size)
 case atStart=>exact⟨_,_,by rw[stayF_start];exact hrg0,hg0.but _⟩
 case round =>
  obtain⟨left,cnt,hrg,hgw⟩:=hrel
  go_wp2_with (first
   | (at_next;refine wpList_next_ranges _ rfl _ rfl 63 u64Keyed flElem id id (fun key _ _=>⟨key,rfl⟩) (fun v _ _=>⟨v,rfl⟩) b w.heap.size nn _ _ _ rfl hrg ?_ ?_)
   | go_in)
  ·intro _ hl0
   go_wp2
   go_end0
   exact⟨rfl,by rw[←stayF_end hl0];exact hrg.owns,hgw⟩
  ·intro key c kl yd yp w1 cnt1 hkey hlx hv hat hrg1 hlt hg1 hs1 hen
   obtain⟨x,hx',rfl,rfl⟩:=FD_at_all hat
   obtain rfl:c=valF x:=flElem_inv hv
   obtain rfl:=key_of_lit hkey
   have hx:x∈L:=(List.mem_filter.1 hx').1
   have hgw1:=hgw.andThen hg1 (fun j hj=>by cases hj;exact Or.inl (Nat.le_refl _))
   have hga:=World.grownBy_alloc w1 (.cells #[.int .u64 (x.1:Nat),.string x.2.1,.int .i64 x.2.2] 80) none
   have hgw2:=hgw1.andThen hga (fun j hj=>by cases hj)
   have hrg2:=hrg1.kept hga (by simp) (by simp)
   have hc:=HD.out _ x hgw2 hx
   have hbl:=hrg1.owns.lt
   have hrl:=hrg1.lt
   clear hv hat hx' hs1
   unfold valF at hen hc
   cases hpd:pd x<;>rw[hpd] at hc
   ·go_wp2_with fail
    refine hc.mono ?_
    rintro e w2 ⟨rfl,hg2⟩
    have hrg3:=hrg2.kept hg2 (by simp) (by simp)
    go_wp2
    go_roundw
    case rel=>exact⟨_,cnt1,by rw[stayF_no hp hx hlx hpd];exact hrg3,hgw2.andThen hg2 (fun j hj=>by cases hj)⟩
    case measure=>rw[hrg3.left_eq,hrg.left_eq];exact hlt
   ·go_wp2_with fail
    refine hc.mono ?_
    rintro e w2 ⟨rfl,hg2⟩
    have hrg3:=hrg2.kept hg2 (by simp) (by simp)
    go_wp2_with (first
     | (at_delete;refine wpList_delete_ranges _ rfl _ _ 251 63 rfl 80 u64Keyed Tryz.underlying251 flElem b w.heap.size nn _ _ _ rfl hrg3 _ _ rfl hkey ?_;intro w3 cnt3 hrg4 hle hturn;go_frame)
     | go_in)
    rw[strike_twice,FD_del,←stayF_yes hp hx hpd] at hrg4
    go_roundw
    case rel=>exact⟨_,cnt3,hrg4,(hgw2.andThen hg2 (fun j hj=>by cases hj)).andThen hturn.grown (fun j hj=>by cases hj;exact Or.inr rfl)⟩
    case measure=>rw[hrg4.left_eq,hrg.left_eq];omega
end Go.Proofs.YtfhmfjcpggddkaaGreatDoor
