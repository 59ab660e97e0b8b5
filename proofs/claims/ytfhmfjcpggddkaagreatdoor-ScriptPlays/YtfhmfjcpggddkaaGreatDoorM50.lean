/- A list of texts among the arguments, as it is read. -/
import Derived.Test.YtfhmfjcpggddkaaGreatDoorM0
import Derived.Test.YtfhmfjcpggddkaaGreatDoorM4
import Derived.SliceStrings
import Derived.ChangeSlices
import Derived.Test.YtfhmfjcpggddkaaGreatDoorM28
import Derived.Deep.Slices
import Derived.Test.YtfhmfjcpggddkaaGreatDoorM42
set_option maxHeartbeats 20000000
set_option maxRecDepth 100000
namespace Go.Proofs.YtfhmfjcpggddkaaGreatDoor
open Go.ChangeShapes Go.WideShapes Go.ChangeAt Go.RowKit
open Go.ChangeMaps (open_string shut_string)
theorem open_texts {H:Type}{enc:TypeId × Value→H}{W:World}{v:Value}{fuel:Nat}{x:DataW H × List MemPlace}{a0:Option Addr}{len cap:Nat}(hv:v=.slice a0 len cap)
  (hf:DataW.trod enc Tryz.prog W 0 (fun _=>true) true fuel 22 [.slice a0 len cap]=some x) :
  ∃xs:List ByteArray,Strs1 W v xs∧(∀k (h:k<xs.length),(xs[k]).size≤maxLen)∧xs.length≤maxLen:=by
 subst hv
 rcases open_strings Tryz.underlying22 Tryz.underlying9 cellsS hf with⟨hcs,_⟩|⟨a,len',cap',ss,hcs,_,hl,hm,hz,_,hcell,hws⟩
 ·simp at hcs
  obtain⟨rfl,rfl,rfl⟩:=hcs
  exact⟨[],Or.inl ⟨rfl,Or.inl rfl⟩,fun k h=>absurd h (by simp),by simp⟩
 ·simp at hcs
  obtain⟨rfl,rfl,rfl⟩:=hcs
  simp only[if_true] at hz
  have hlen:(ss.take len).length=len:=by simp;omega
  refine⟨ss.take len,?_,fun k h=>hws _ (List.mem_of_mem_take (List.getElem_mem h)),by omega⟩
  rcases Nat.eq_zero_or_pos len with h0|h0
  ·subst h0
   exact Or.inl ⟨by simp,Or.inr ⟨_,_,rfl⟩⟩
  ·obtain⟨b,off,spot⟩:=a
   have hspot:spot=none:=by simpa [Addr.add] using World.cell?_spot (hcell 0 (by omega))
   subst hspot
   refine Or.inr ⟨b,off,cap,by rw[hlen],by omega,fun k h=>?_⟩
   have hk:k<ss.length:=by omega
   have:=hcell k hk
   rw[Addr.add_lit] at this
   rw[this]
   simp[List.getD,hk]
end Go.Proofs.YtfhmfjcpggddkaaGreatDoor
namespace Go.Proofs.YtfhmfjcpggddkaaGreatDoor
open Go.ChangeShapes Go.WideShapes Go.ChangeAt Go.RowKit
theorem cellsLn:Tryz.prog.cellsOf 36=3:=by kernel_rfl
theorem cellsLs:Tryz.prog.cellsOf 9=1:=by kernel_rfl
theorem cellsLi:Tryz.prog.cellsOf 3=1:=by kernel_rfl
theorem cellsLt:Tryz.prog.cellsOf 22=1:=by kernel_rfl
theorem cellsLn2:Tryz.prog.cellsOf 34=1:=by kernel_rfl
theorem pick_listL {α:Type}{P:Nat→α→Prop}:∀n,(∀i,i<n→∃x,P i x)→∃l:List α,l.length=n∧∀k (h:k<l.length),P k l[k]
 | 0,_=>⟨[],rfl,fun k h=>absurd h (by simp)⟩
 | n+1,h=>by
  obtain⟨l,hl,hp⟩:=pick_listL n fun i hi=>h i (by omega)
  obtain⟨x,hx⟩:=h n (by omega)
  refine⟨l++[x],by simp[hl],fun k hk=>?_⟩
  by_cases e:k<l.length
  ·rw[List.getElem_append_left e]
   exact hp k e
  ·have e2:k=n:=by simp at hk;omega
   subst e2
   simp only[←hl]
   rw[List.getElem_append_right (Nat.le_refl _)]
   simpa [hl] using hx
theorem three_ofL {α:Type}:∀ {l:List α},l.length=3→∃a b c,l=[a,b,c]
 | [a,b,c],_=>⟨a,b,c,rfl⟩
theorem open_textsL {H:Type}{enc:TypeId × Value→H}{W:World}{v:Value}{fuel:Nat}{x:DataW H × List MemPlace}
  (hf:DataW.trod enc Tryz.prog W 0 (fun _=>true) true fuel 22 [v]=some x):∃xs:List ByteArray,Strs1 W v xs∧(∀k (h:k<xs.length),(xs[k]).size≤maxLen)∧xs.length≤maxLen:=by
 obtain⟨a0,len,cap,rfl⟩:∃a0 len cap,v=.slice a0 len cap:=by
  rcases Go.Deep.open_slice Tryz.underlying22 hf with⟨hcs,_⟩|⟨a,len',cap',_,_,_,_,hcs,_⟩
  ·simp at hcs
   exact⟨_,_,_,hcs⟩
  ·simp at hcs
   exact⟨_,_,_,hcs⟩
 exact open_texts rfl hf
theorem open_intsL {H:Type}{enc:TypeId × Value→H}{W:World}{v:Value}{fuel:Nat}{x:DataW H × List MemPlace}
  (hf:DataW.trod enc Tryz.prog W 0 (fun _=>true) true fuel 34 [v]=some x):∃l:List Int,Ints W v l∧l.length≤maxLen:=by
 rcases open_ints Tryz.underlying34 Tryz.underlying3 cellsLi hf with⟨hcs,_⟩|⟨a,len',cap',zs,hcs,_,hl,hm,hz,_,hcell,hws⟩
 ·simp at hcs
  subst hcs
  exact⟨[],Or.inl ⟨rfl,_,_,rfl⟩,by simp⟩
 ·simp at hcs
  subst hcs
  simp only[if_true] at hz
  have hlen:(zs.take len').length=len':=by simp;omega
  refine⟨zs.take len',?_,by omega⟩
  rcases Nat.eq_zero_or_pos len' with h0|h0
  ·subst h0
   exact Or.inl ⟨by simp,_,_,rfl⟩
  ·obtain⟨b,off,spot⟩:=a
   have hspot:spot=none:=by simpa [Addr.add] using World.cell?_spot (hcell 0 (by omega))
   subst hspot
   refine Or.inr ⟨b,off,cap',by rw[hlen],fun k h=>?_⟩
   have hk:k<zs.length:=by omega
   have:=hcell k hk
   rw[Addr.add_lit] at this
   rw[this]
   simp[List.getD,hk]
theorem open_lns {H:Type}{enc:TypeId × Value→H}{W:World}{fuel:Nat}{x:DataW H × List MemPlace}{a0:Option Addr}{len cap:Nat}
  (hf:DataW.trod enc Tryz.prog W 0 (fun _=>true) true fuel 33 [.slice a0 len cap]=some x) :
  ∃l:List Ln,len=l.length∧LnsAt W a0 l∧l.length≤maxLen∧∀x∈l,LnOk x:=by
 rcases Go.Deep.open_slice Tryz.underlying33 hf with⟨hcs,_⟩|⟨a,len',cap',mm,n,D,Pl,hcs,_,hl,hm,hmm,_,hx⟩
 ·simp at hcs
  obtain⟨rfl,rfl,rfl⟩:=hcs
  exact⟨[],rfl,fun k h=>absurd h (by simp),by simp,fun x hx=>by cases hx⟩
 ·simp at hcs
  obtain⟨rfl,rfl,rfl⟩:=hcs
  simp only[if_true] at hmm
  have each:∀i,i<len→∃x:Ln,(∃b o hv nv,(some a:Option Addr)=some ⟨b,o,none⟩∧W.cell? ⟨b,o+i*3,none⟩=some (.string x.w)∧W.cell? ⟨b,o+i*3+1,none⟩=some hv∧W.cell? ⟨b,o+i*3+2,none⟩=some nv∧Strs1 W hv x.H∧Ints W nv x.N)∧LnOk x:=fun i hi=>by
   obtain⟨cs',h1,h2⟩:=hx i (by omega)
   rw[cellsLn] at h1
   obtain⟨_,hcl,hcell⟩:=World.cells?_some h1
   obtain⟨ys,k,_,_,_,hyl,hfl⟩:=DataW.trod_struct Tryz.underlying36 h2
   have hy3:ys.length=3:=hyl
   clear hyl
   obtain⟨v0,v1,v2,rfl⟩:=three_ofL hcl
   have g0:=hfl 0 _ rfl
   have g1:=hfl 1 _ rfl
   have g2:=hfl 2 _ rfl
   rw[List.getElem?_eq_getElem (by omega)] at g0 g1 g2
   obtain⟨s0,e0,_,z0⟩:=DataW.trod_string Tryz.underlying9 g0
   simp[cellsLt] at g1
   simp[cellsLn2] at g2
   obtain⟨xs,f1,f2,f3⟩:=open_textsL g1
   obtain⟨ns,f4,f5⟩:=open_intsL g2
   have q0:=hcell 0 (by omega)
   have q1:=hcell 1 (by omega)
   have q2:=hcell 2 (by omega)
   obtain⟨b,off,spot⟩:=a
   have hspot:spot=none:=by
    obtain⟨z,hz⟩:∃z:Nat,z=0:=⟨0,rfl⟩
    obtain⟨cs0,h10,_⟩:=hx z (by omega)
    rw[cellsLn] at h10
    subst hz
    obtain⟨_,hl0,hc0⟩:=World.cells?_some h10
    obtain⟨u0,u1,u2,rfl⟩:=three_ofL hl0
    have q0':W.cell? (((⟨b,off,spot⟩:Addr).add (0*3)).add 0)=some u0:=hc0 0 (by decide)
    simpa [Addr.add] using World.cell?_spot q0'
   subst hspot
   rw[Addr.add_lit,Addr.add_lit] at q0 q1 q2
   simp[cellsLs] at e0
   refine⟨⟨s0,xs,ns⟩,⟨b,off,v1,v2,rfl,?_,?_,?_,f1,f4⟩,⟨z0,f3,f2,f5⟩⟩
   ·rw[Nat.add_zero] at q0
    rw[q0,e0]
    rfl
   ·rw[q1]
    rfl
   ·rw[q2]
    rfl
  obtain⟨l,hll,hp⟩:=pick_listL len each
  refine⟨l,hll.symm,fun k hk=>(hp k hk).1,by omega,fun x hx=>?_⟩
  obtain⟨k,hk,rfl⟩:=List.getElem_of_mem hx
  exact (hp k hk).2
end Go.Proofs.YtfhmfjcpggddkaaGreatDoor
namespace Go.Proofs.YtfhmfjcpggddkaaGreatDoor
open Go.RowKit Lh
structure PS (w1:World)(m:Nat)(W:World)(F:Nat→Prop)(B:Nat)(st:Option Sc)(lv wv:Value)(ls:List ByteArray)(rs:List (List UInt8)):Prop where
 sm:SM W m w1.heap.size F B st
 below:Below w1.heap.size w1 W
 ownL:W.ownsRow w1.heap.size 9 1 lv ls.length (ls.map Value.string)
 ownW:W.ownsRow w1.heap.size 9 1 wv rs.length ((rs.map bt).map Value.string)
 apL:∀b,F b→lv.ownBlock≠some b
 apW:∀b,F b→wv.ownBlock≠some b
 apX:∀b,lv.ownBlock=some b→wv.ownBlock≠some b
section
variable {w1:World} {m:Nat} {W W':World} {F:Nat→Prop} {B B':Nat} {st st':Option Sc} {lv wv:Value} {ls:List ByteArray} {rs:List (List UInt8)}
theorem PS.later (h:PS w1 m W F B st lv wv ls rs)(hb:Below W.heap.size W W'):PS w1 m W' F B st lv wv ls rs :=
 ⟨h.sm.later hb h.below.size,h.below.trans (hb.mono h.below.size),ownsRow_below h.ownL hb,ownsRow_below h.ownW hb,h.apL,h.apW,h.apX⟩
theorem PS.turned (h:PS w1 m W F B st lv wv ls rs)(hP:SM.Post m w1.heap.size F B' W st' W'):∃F',PS w1 m W' F' B' st' lv wv ls rs:=by
 obtain⟨F',h1,h2,h3⟩:=hP
 refine⟨F',h1,h2.below (fun k hk=>(h.sm.lt k hk).1) h.below (Nat.le_refl _),owns_same h.ownL fun g hg=>h2.block g (h.ownL.lt g hg).2 fun q=>h.apL g q hg,owns_same h.ownW fun g hg=>h2.block g (h.ownW.lt g hg).2 fun q=>h.apW g q hg,fun b hb e=>?_,fun b hb e=>?_,h.apX⟩
 ·rcases h3 b hb with q|q
  ·exact h.apL b q e
  ·have:=(h.ownL.lt b e).2
   omega
 ·rcases h3 b hb with q|q
  ·exact h.apW b q e
  ·have:=(h.ownW.lt b e).2
   omega
theorem PS.pushL (h:PS w1 m W F B st lv wv ls rs){tmp:Obj}{g1 cap1:Nat}{s:ByteArray}(hown:W'.ownsRow w1.heap.size 9 1 (.slice (some ⟨g1,0,none⟩) (ls.length+1) cap1) (ls.length+1) (ls.map Value.string++[.string s]))(hg:(W.alloc tmp).grownBy W' lv.ownBlock)(hor:lv.ownBlock=some g1∨g1=W.heap.size+1):PS w1 m W' F B st (.slice (some ⟨g1,0,none⟩) (ls.length+1) cap1) wv (ls++[s]) rs:=by
 have hblk:∀b,b<W.heap.size→lv.ownBlock≠some b→W'.heap[b]?=W.heap[b]?:=fun b hb hq=>(hg.block b (by simp;omega) (fun e=>hq e.symm)).trans (Below.heap_alloc _ _ b hb)
 have hsz:=h.below.size
 have hgs:W.heap.size≤W'.heap.size:=Nat.le_trans (by simp) hg.size
 refine⟨h.sm.stay (fun b hb=>hblk b (h.sm.lt b hb).2 (h.apL b hb)) (fun b hb=>hblk b (by omega) (fun e=>by have:=(h.ownL.lt b e).1;omega)) hgs,h.below.trans (((Below.refl _ _).alloc hsz tmp).grown hg (Nat.le_trans hsz (by simp)) fun k hk=>(h.ownL.lt k hk).1),?_,owns_same h.ownW fun g hg'=>hblk g (h.ownW.lt g hg').2 (fun e=>h.apX g e hg'),fun b hb e=>?_,h.apW,fun b hb e=>?_⟩
 ·rw[List.map_append,List.length_append]
  exact hown
 ·have e':g1=b:=by simpa [Value.ownBlock] using e
  subst e'
  rcases hor with q|q
  ·exact h.apL _ hb q
  ·have:=(h.sm.lt _ hb).2
   omega
 ·have e':g1=b:=by simpa [Value.ownBlock] using hb
  subst e'
  rcases hor with q|q
  ·exact h.apX _ q e
  ·have:=(h.ownW.lt _ e).2
   omega
theorem PS.pushW (h:PS w1 m W F B st lv wv ls rs){tmp:Obj}{g1 cap1:Nat}{r:List UInt8}(hown:W'.ownsRow w1.heap.size 9 1 (.slice (some ⟨g1,0,none⟩) (rs.length+1) cap1) (rs.length+1) ((rs.map bt).map Value.string++[.string (bt r)]))(hg:(W.alloc tmp).grownBy W' wv.ownBlock)(hor:wv.ownBlock=some g1∨g1=W.heap.size+1):PS w1 m W' F B st lv (.slice (some ⟨g1,0,none⟩) (rs.length+1) cap1) ls (rs++[r]):=by
 have hblk:∀b,b<W.heap.size→wv.ownBlock≠some b→W'.heap[b]?=W.heap[b]?:=fun b hb hq=>(hg.block b (by simp;omega) (fun e=>hq e.symm)).trans (Below.heap_alloc _ _ b hb)
 have hsz:=h.below.size
 have hgs:W.heap.size≤W'.heap.size:=Nat.le_trans (by simp) hg.size
 refine⟨h.sm.stay (fun b hb=>hblk b (h.sm.lt b hb).2 (h.apW b hb)) (fun b hb=>hblk b (by omega) (fun e=>by have:=(h.ownW.lt b e).1;omega)) hgs,h.below.trans (((Below.refl _ _).alloc hsz tmp).grown hg (Nat.le_trans hsz (by simp)) fun k hk=>(h.ownW.lt k hk).1),owns_same h.ownL fun g hg'=>hblk g (h.ownL.lt g hg').2 (fun e=>h.apX g hg' e),?_,h.apL,fun b hb e=>?_,fun b hb e=>?_⟩
 ·rw[List.map_append,List.map_append,List.length_append]
  exact hown
 ·have e':g1=b:=by simpa [Value.ownBlock] using e
  subst e'
  rcases hor with q|q
  ·exact h.apW _ hb q
  ·have:=(h.sm.lt _ hb).2
   omega
 ·have e':g1=b:=by simpa [Value.ownBlock] using e
  subst e'
  rcases hor with q|q
  ·exact h.apX _ hb q
  ·have:=(h.ownL.lt _ hb).2
   omega
end
structure PL3 (w1:World)(m:Nat)(W:World)(j:Nat)(lv wv:Value)(ls:List ByteArray):Prop where
 ex:∃(F:Nat→Prop) (st:Option Sc) (rs:List (List UInt8)),PS w1 m W F j st lv wv ls rs∧LinesR nwB none (ls.map tx) rs st∧StB st j∧rs.length=ls.length
 len:ls.length≤j
 sz:∀s∈ls,s.size≤5000
theorem PL3.shape {w1:World}{m:Nat}{W:World}{j:Nat}{lv wv:Value}{ls:List ByteArray}(h:PL3 w1 m W j lv wv ls):∃lp lc wp wc,lv=.slice lp ls.length lc∧wv=.slice wp ls.length wc:=by
 obtain⟨F,st,rs,hP,_,_,hl⟩:=h.ex
 have f:∀ {v:Value} {n:Nat} {xs:List Value},W.ownsRow w1.heap.size 9 1 v n xs→∃p c,v=.slice p n c:=fun {v n xs} ho=>by
  rcases ho.2 with⟨rfl,hz⟩|⟨g,cap,cur,rfl,_⟩
  ·exact⟨none,0,by rw[hz]⟩
  ·exact⟨_,_,rfl⟩
 obtain⟨lp,lc,e1⟩:=f hP.ownL
 obtain⟨wp,wc,e2⟩:=f hP.ownW
 exact⟨lp,lc,wp,wc,e1,by rw[e2,hl]⟩
theorem LinesR.one {nw:List ByteArray→Nat→Nat→ByteArray}{st1 st2:Option Sc}{ss rs rs':List (List UInt8)}(h:LinesR nw none ss rs st1)(h':LinesR nw none ss rs' st2):rs=rs':=(linesR_one h h').2
theorem dec_blank (n:Nat):(32:UInt8)∉decL n:=fun h=>by
 have:=List.all_eq_true.1 (decL_dig n) _ h
 exact absurd this (by decide)
theorem cmOf_line {c:Cm}{h:Int}{n:Nat}(hc:CmOk c h n):cmOf (lineL c)=some c:=by
 have hw:(32:UInt8)∉c.w:=by
  rcases form_words hc.form with⟨e,_⟩|⟨e,_⟩|⟨e,_⟩|⟨e,_⟩|⟨e,_⟩|⟨e,_⟩
  ·rw[e];decide
  ·rw[e];decide
  ·rcases e with e|e|e|e<;>rw[e]<;>decide
  ·rcases e with e|e<;>rw[e]<;>decide
  ·rcases e with e|e<;>rw[e]<;>decide
  ·rcases e with e|e|e<;>rw[e]<;>decide
 have hH:∀x∈c.H.map (fun s=>s.data.toList),(32:UInt8)∉x:=fun x hx=>by
  obtain⟨s,hs,rfl⟩:=List.mem_map.1 hx
  exact (nm_word (hc.nm s hs)).2.1
 have hN:∀x∈c.N.map decL,(32:UInt8)∉x:=fun x hx=>by
  obtain⟨k,_,rfl⟩:=List.mem_map.1 hx
  exact dec_blank k
 unfold cmOf lineL
 rw[join_cut (ws:=wordsOf c),words_back hc]
 ·unfold wordsOf
  split<;>simp
 ·intro x hx
  unfold wordsOf at hx
  split at hx
  ·rcases List.mem_cons.1 hx with rfl|hx
   ·exact hw
   ·rcases List.mem_append.1 hx with hx|hx
    ·exact hN x hx
    ·exact hH x hx
  ·rcases List.mem_cons.1 hx with rfl|hx
   ·exact hw
   ·rcases List.mem_append.1 hx with hx|hx
    ·exact hH x hx
    ·exact hN x hx
theorem plays_core (hS:ScriptC)(hnw:hS.nw=nwB)(a:Nat→Addr)(p:Option Addr)(c n:Nat)(l:List Ln)(w:World)(he:hS.E a w)(hE5:Errs5 a w)(hn:l.length=n)(hl:n≤60)(hla:LnsAt w p l)(hok:∀x∈l,LnOk x) :
    Calls Tryz.prog 5 #[.slice p n c] w fun e w'=>e=.returned (.bool true)∧Below w.heap.size w w':=by
  obtain⟨i0,hi0,hz0,hz1,hz2⟩:=info_parts infoS
  have HE:Hid (hS.E a w):=he
  have HE5:Hid (Errs5 a w):=hE5
  have HNW:Hid (hS.nw=nwB):=hnw
  have HN:Hid (l.length=n):=hn
  have HLA:Hid (LnsAt w p l):=hla
  have HOK:Hid (∀x∈l,LnOk x):=hok
  have hhel:=hello_any hS a w he
  have d1:decide (60<(n:Int))=false:=by simp;omega
  clear he hn hla hok hE5 hnw
  go_enter Tryz.func5,Tryz.ntmps5
  go_wp2_with fail
  refine hhel.mono ?_
  rintro e w1 ⟨rfl,hb1⟩
  have HB1:Hid (Below w.heap.size w w1):=hb1
  clear hhel hb1
  obtain⟨w2,hw2⟩:∃w2,w2=w1.alloc (.cells #[.pointer none,.slice none 0 0,.int .i64 0] 45):=⟨_,rfl⟩
  have H0:Hid (PL3 w1 w1.heap.size w2 0 (.slice none 0 0) (.slice none 0 0) []):=by
    refine⟨⟨fun b=>b=w1.heap.size,none,[],⟨⟨fun k=>?_,rfl,fun b hb=>?_,fun _=>⟨?_,?_,?_⟩,(fun S e=>by cases e)⟩,?_,owns_nil _ _ _,owns_nil _ _ _,(fun b _ e=>by simp[Value.ownBlock] at e),(fun b _ e=>by simp[Value.ownBlock] at e),(fun b e=>by simp[Value.ownBlock] at e)⟩,⟨rfl,rfl⟩,(fun S e=>by cases e),rfl⟩,Nat.le_refl _,(fun s hs=>by cases hs)⟩
    · rw[hw2];simp
    · rw[hb,hw2];simp
    · rw[hw2];simp
    · rw[hw2];simp
    · rw[hw2];simp
    · rw[hw2];exact (Below.refl _ _).alloc (Nat.le_refl _) _
  go_wp2_with fail
  rw[←hw2]
  clear hw2
  go_loopw [4,5,7] (fun u4 u5 u7 W=>∃(j:Nat) (ls:List ByteArray),j≤n∧u7=.int .i64 (j:Nat)∧PL3 w1 w1.heap.size W j u4 u5 ls) (fun _ _ u7 _=>n - (intOf u7).toNat)
  case atStart=>exact⟨0,[],Nat.zero_le _,rfl,H0.out⟩
  case round =>
    obtain⟨j,ls,hj,rfl,hP⟩:=hrel
    obtain⟨wo,hwo⟩:∃wo,wo=wr:=⟨_,rfl⟩
    subst hwo
    obtain⟨lp,lc,wp,wc,rfl,rfl⟩:=hP.shape
    have HP:Hid (PL3 w1 w1.heap.size wo j (.slice lp ls.length lc) (.slice wp ls.length wc) ls):=hP
    have HBW:Hid (Below w1.heap.size w1 wo):=by obtain⟨F,st,rs,q,_⟩:=hP.ex;exact q.below
    have hbw:=HB1.out.trans (HBW.out.mono HB1.out.size)
    clear hP
    by_cases hlt:j<n
    · have hls:j<l.length:=by rw[HN.out];exact hlt
      have hki:(j:Int)<(n:Int):=by omega
      obtain⟨b,o,hv,nv,rfl,c0,c1,c2,hst,hin⟩:=HLA.out j hls
      have c0r:=below_cell hbw c0
      have c1r:=below_cell hbw c1
      have c2r:=below_cell hbw c2
      have hstr:=hst.later hbw
      have hinr:=hin.later hbw
      have hokx:=HOK.out _ (List.getElem_mem hls)
      have HST:Hid (Strs1 w hv (l[j]'hls).H∧Ints w nv (l[j]'hls).N):=⟨hst,hin⟩
      clear c0 c1 c2 hst hin
      generalize l[j]'hls=x at *
      obtain⟨xw,xH,xN⟩:=x
      obtain⟨hw1,hl1,hs1,hn1⟩:=hokx
      simp only at c0r hstr hinr hw1 hl1 hs1 hn1
      have hlong:=long_any hv xH wo hstr.strs hs1 hl1
      obtain⟨np,nc,rfl⟩:∃np nc,nv=.slice np xN.length nc:=by
        rcases hinr with⟨rfl,p,c,rfl⟩|⟨b,o,c,rfl,_⟩
        · exact⟨_,_,rfl⟩
        · exact⟨_,_,rfl⟩
      unfold maxLen at hw1 hn1
      by_cases t1:5<xN.length
      · have t1':decide (5<(xN.length:Int))=true:=by simp;omega
        go_wp2
        go_ret
        exact⟨rfl,hbw⟩
      have t1':decide (5<(xN.length:Int))=false:=by simp;omega
      by_cases t2:60<xw.size
      · have t2':decide (60<(xw.size:Int))=true:=by simp;omega
        go_wp2
        go_ret
        exact⟨rfl,hbw⟩
      have t2':decide (60<(xw.size:Int))=false:=by simp;omega
      go_wp2_with fail
      refine hlong.mono ?_
      rintro e w2' ⟨hlo,rfl⟩
      clear hlong
      rcases hlo with rfl|⟨rfl,h30,h60⟩
      · go_wp2
        go_ret
        exact⟨rfl,hbw⟩
      have h60':∀s∈xH,s.size≤60:=fun s hs=>by
        obtain⟨i,hi,rfl⟩:=List.getElem_of_mem hs
        exact h60 i hi
      have hline:=lineOf_any xw hv (.slice np xN.length nc) xH xN w2' ⟨hstr,hinr,by omega,h30,h60',by omega⟩
      have HLI:Hid (LineIn w xw hv (.slice np xN.length nc) xH xN):=⟨HST.out.1,HST.out.2,by omega,h30,h60',by omega⟩
      have HXS:Hid (xw.size≤60∧xH.length≤30∧xN.length≤5):=⟨by omega,h30,by omega⟩
      clear hstr hinr hs1 h60 h60' HST
      go_wp2_with fail
      refine hline.mono ?_
      intro e w3 hout
      obtain⟨s,is,rfl,hcase,hb3⟩:=hout
      have c0s:=below_cell hb3 c0r
      have c1s:=below_cell hb3 c1r
      have c2s:=below_cell hb3 c2r
      have HB3:Hid (Below w2'.heap.size w2' w3):=hb3
      clear hline hb3 c0r c1r c2r
      rcases hcase with rfl|⟨cm,hh,nn,rfl,hcm,hcw,hcH,hcN,hs⟩
      · go_wp2_with fail
        go_roundw
        case rel =>
          refine⟨j+1,ls,by omega,by go_num,?_,Nat.le_trans HP.out.len (by omega),HP.out.sz⟩
          obtain⟨F,st,rs,q1,q2,q3,q4⟩:=HP.out.ex
          have q5:=q1.later HB3.out
          exact⟨F,st,rs,⟨q5.sm.more (by omega),q5.below,q5.ownL,q5.ownW,q5.apL,q5.apW,q5.apX⟩,q2,fun S e=>(q3 S e).more,q4⟩
        case measure=>simp[intOf];omega
      · have hs5:s.size≤5000:=by
          rw[hs]
          refine line_size hcm ?_ ?_ ?_
          · rw[hcw];exact HXS.out.1
          · rw[hcH];exact HXS.out.2.1
          · have h1:=congrArg List.length hcN
            rw[List.length_map] at h1
            rw[←h1]
            exact HXS.out.2.2
        have HSN:Hid (∀z∈ls++[s],z.size≤5000):=fun z hz=>by
          rcases List.mem_append.1 hz with q|q
          · exact HP.out.sz z q
          · obtain rfl:z=s:=by simpa using q
            exact hs5
        obtain⟨F,st,rs,q1,q2,q3,q4⟩:=HP.out.ex
        have hlen:=HP.out.len
        have q5:=q1.later HB3.out
        have hbw3:Below w.heap.size w w3:=HB1.out.trans (q5.below.mono HB1.out.size)
        have hli1:LineIn w1 xw hv (.slice np xN.length nc) cm.H (cm.N.map Int.ofNat):=by
          rw[hcH,←hcN]
          exact⟨HLI.out.h.later HB1.out,HLI.out.n.later HB1.out,HLI.out.ws,HLI.out.hl,HLI.out.hs,HLI.out.nl⟩
        have hans:=answer_any a w1 w3 w1.heap.size F j st cm hh nn j xw hv (.slice np xN.length nc) (HE5.out.later hbw3) q5.sm q5.below hli1 hcw hcm q3 (by omega) (by omega)
        have HCM:Hid (CmOk cm hh nn∧s=bt (lineL cm)):=⟨hcm,hs⟩
        have HQ5:Hid (PS w1 w1.heap.size w3 F j st (.slice lp ls.length lc) (.slice wp ls.length wc) ls rs):=q5
        have HQR:Hid (LinesR nwB none (ls.map tx) rs st∧StB st j∧rs.length=ls.length):=⟨q2,q3,q4⟩
        clear q1 q2 q3 q4 q5 hli1 hcm hs hcw hcH hcN hs5 hbw3
        go_wp2_with fail
        refine hans.mono ?_
        rintro e w4 ⟨st',r,rfl,hR,hPo⟩
        obtain⟨F4,q6⟩:=HQ5.out.turned hPo
        have HQ6:Hid (PS w1 w1.heap.size w4 F4 (j+1) st' (.slice lp ls.length lc) (.slice wp ls.length wc) ls rs):=q6
        have HLR:Hid (LinesR nwB none ((ls++[s]).map tx) (rs++[r]) st'∧StB st' (j+1)):=by
          refine⟨?_,cmR_bnd (fun k h _=>nwB_in k h) HQR.out.2.1 HCM.out.1 hR⟩
          have e1:tx s=lineL cm:=by rw[HCM.out.2];rfl
          rw[List.map_append,List.map_cons,List.map_nil,e1]
          exact linesR_snoc HQR.out.1 (Or.inr ⟨cm,cmOf_line HCM.out.1,hR⟩)
        have own4:=q6.ownL.alloc (.cells #[.string s] 9)
        have hmx:ls.length+1≤maxLen:=by unfold maxLen;omega
        have hby:(ls.length+1)*16≤140737488355328:=by omega
        have hbs:w1.heap.size≤(w4.alloc (.cells #[.string s] 9)).heap.size:=Nat.le_trans q6.below.size (by simp)
        have hsz4:(w4.alloc (.cells #[.string s] 9)).heap.size=w4.heap.size+1:=by simp
        have hnews:∀j u,[Value.string s][j]?=some u→(w4.alloc (.cells #[.string s] 9)).cell? ((⟨w4.heap.size,0,none⟩:Addr).add j)=some u:=fun j u hu=>by
          match j with
          | 0=>simp at hu;subst hu;simp[Addr.add]
          | j+1=>simp at hu
        clear hans hR hPo q6 c0s c1s c2s
        have HRL:Hid (rs.length=ls.length):=HQR.out.2.2
        obtain⟨rb,hbr⟩:∃rb,rb=bt r:=⟨_,rfl⟩
        rw[←hbr]
        have HBR:Hid (rb=bt r):=hbr
        clear hbr
        have hnews6:∀w5:World,∀j u,[Value.string rb][j]?=some u→(w5.alloc (.cells #[.string rb] 9)).cell? ((⟨w5.heap.size,0,none⟩:Addr).add j)=some u:=fun w5 j u hu=>by
          match j with
          | 0=>simp at hu;subst hu;simp[Addr.add]
          | j+1=>simp at hu
        have hsz6:∀w5:World,(w5.alloc (.cells #[.string rb] 9)).heap.size=w5.heap.size+1:=fun w5=>by simp
        have HPW:Hid (∀w5 lv5 ls5,PS w1 w1.heap.size w5 F4 (j+1) st' lv5 (.slice wp ls.length wc) ls5 rs→(w5.alloc (.cells #[.string rb] 9)).ownsRow w1.heap.size 9 1 (.slice wp ls.length wc) ls.length ((rs.map bt).map Value.string)∧w1.heap.size≤(w5.alloc (.cells #[.string rb] 9)).heap.size):=fun w5 lv5 ls5 q=>⟨by have:=q.ownW.alloc (.cells #[.string rb] 9);rw[HRL.out] at this;exact this,Nat.le_trans q.below.size (by simp)⟩
        have tok1:True:=trivial
        have tok2:True:=trivial
        go_wp2_with (first
          | (at_builtin
             clear tok1
             refine wpList_append_lies _ rfl _ _ 22 rfl w1.heap.size 9 i0 _ 1 16 Tryz.underlying22 hi0 hz0 hz1 hz2 rfl (by decide) (.slice lp ls.length lc) ls.length (ls.map Value.string) rfl own4 ⟨w4.heap.size,0,none⟩ 1 1 [.string s] rfl rfl hnews (fun u hu=>by simp at hu;subst hu;rfl) (by decide) hmx hby hbs (w4.heap.size+1) hsz4 ?_
             intro g1 cap1 w5 hown5 hgr5 hor5 hlt5
             have HQ7:Hid (PS w1 w1.heap.size w5 F4 (j+1) st' (.slice (some ⟨g1,0,none⟩) (ls.length+1) cap1) (.slice wp ls.length wc) (ls++[s]) rs):=HQ6.out.pushL hown5 hgr5 hor5
             clear own4 hnews hown5 hgr5 hor5 hlt5 hbs hsz4)
          | (at_builtin
             clear tok2
             refine wpList_append_lies _ rfl _ _ 22 rfl w1.heap.size 9 i0 _ 1 16 Tryz.underlying22 hi0 hz0 hz1 hz2 rfl (by decide) (.slice wp ls.length wc) ls.length ((rs.map bt).map Value.string) rfl (HPW.out _ _ _ HQ7.out).1 ⟨w5.heap.size,0,none⟩ 1 1 [.string rb] rfl rfl (hnews6 w5) (fun u hu=>by simp at hu;subst hu;rfl) (by decide) hmx hby (HPW.out _ _ _ HQ7.out).2 (w5.heap.size+1) (hsz6 w5) ?_
             intro g2 cap2 w7 hown7 hgr7 hor7 hlt7))
        refine⟨⟨j+1,ls++[s],by omega,by go_num,?_⟩,by simp[intOf];omega⟩
        have hln:(ls++[s]).length=ls.length+1:=by simp
        rw[←HRL.out] at hown7
        rw[HBR.out] at hown7 hgr7
        have q8:=HQ7.out.pushW hown7 hgr7 hor7
        rw[HRL.out] at q8
        exact⟨⟨F4,st',rs++[r],q8,HLR.out.1,HLR.out.2,by rw[List.length_append,List.length_append,HRL.out];rfl⟩,by rw[hln];omega,HSN.out⟩
    · obtain rfl:j=n:=by omega
      have hd8:decide ((j:Int)<(j:Int))=false:=by simp
      obtain⟨F,st,rs,q1,q2,q3,q4⟩:=HP.out.ex
      have hlen:=HP.out.len
      have hst:Strs1 wo (.slice lp ls.length lc) ls:=strs_of_owns q1.ownL
      have hwt:Strs1 wo (.slice wp ls.length wc) (rs.map bt):=by
        have:=q1.ownW
        rw[show rs.length=(rs.map bt).length by rw[List.length_map]] at this
        exact strs_of_owns this
      have hrun:=hS.run a (.slice lp ls.length lc) ls wo (hS.eLater HE.out hbw) hst (by omega) HP.out.sz
      have HWT:Hid (Strs1 wo (.slice wp ls.length wc) (rs.map bt)):=hwt
      have HQ2:Hid (LinesR nwB none (ls.map tx) rs st):=q2
      have HQ4:Hid (rs.length=ls.length):=q4
      have HBX:Hid (Below w.heap.size w wo):=hbw
      clear q1 q2 q3 q4 hst hwt hbw
      go_wp2_with fail
      refine hrun.mono ?_
      rintro e w6 ⟨rs2,st2,v6,rfl,hv6,hL6,hb6⟩
      rw[HNW.out] at hL6
      obtain rfl:rs2=rs:=LinesR.one hL6 HQ2.out
      have hwt6:=HWT.out.later hb6
      have hsame:=sameTexts_any v6 (.slice wp ls.length wc) (rs2.map bt) (rs2.map bt) w6 hv6.strs hwt6.strs (by rw[List.length_map,HQ4.out];omega) (by rw[List.length_map,HQ4.out];omega)
      rw[decide_eq_true rfl] at hsame
      have HBZ:Hid (Below w.heap.size w w6):=below_then HBX.out hb6
      clear hrun hv6 hL6 hb6 hwt6
      go_wp2_with fail
      refine hsame.mono ?_
      rintro e w8 ⟨rfl,hb8⟩
      have hbz:=below_then HBZ.out hb8
      clear hsame hb8
      go_wp2
      go_ret
      exact⟨rfl,hbz⟩
theorem plays_any (hS:ScriptC)(hnw:hS.nw=nwB)(a:Nat→Addr)(p:Option Addr)(c:Nat)(l:List Ln)(w:World)(he:hS.E a w)(hE5:Errs5 a w)(hl:l.length≤maxLen)(hla:LnsAt w p l)(hok:∀x∈l,LnOk x) :
  Calls Tryz.prog 5 #[.slice p l.length c] w fun e w'=>e=.returned (.bool true)∧Below w.heap.size w w':=by
 by_cases h1:60<l.length
 ·have hhel:=hello_any hS a w he
  unfold maxLen at hl
  generalize l.length=n at *
  clear he hE5 hla hok hnw
  go_enter Tryz.func5,Tryz.ntmps5
  go_wp2_with fail
  refine hhel.mono ?_
  rintro e w1 ⟨rfl,hb1⟩
  clear hhel
  go_wp2
  go_ret
  exact⟨rfl,hb1⟩
 ·exact plays_core hS hnw a p c l.length l w he hE5 rfl (by omega) hla hok
end Go.Proofs.YtfhmfjcpggddkaaGreatDoor
