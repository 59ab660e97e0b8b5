/- SideMoves: the lists are copied. -/
import Derived.Test.YtjeicikflkjacaaGreatDoorMvA
import Derived.Deep.AppendLies
set_option linter.unusedSimpArgs false
set_option linter.unusedVariables false
namespace Go.Proofs.YtjeicikflkjacaaGreatDoor.Sh
open Go Go.Conc Go.Conc.Lib Go.RowKit Go.ConcN
open Ms Po
open Par (Fm Gr on stopper LocIn)
theorem infoL:(Tryz.prog.info? 22).map (fun i=>(i.zero,i.size,i.bytes))=some (some (.slice none 0 0),1,24):=by kernel_rfl
def LAt (w:World)(p:Option Addr)(N:Nat)(lv:Nat→Value)(ys:Nat→List ByteArray):Prop:=∀i,i<N→∃b o,p=some ⟨b,o,none⟩∧w.cell? ⟨b,o+i,none⟩=some (lv i)∧Strs1 w (lv i) (ys i)
theorem LAt.later {w w':World}{p:Option Addr}{N:Nat}{lv:Nat→Value}{ys:Nat→List ByteArray}(h:LAt w p N lv ys)(hb:Below w.heap.size w w'):LAt w' p N lv ys:=fun i hi=>by
 obtain⟨b,o,h1,h2,h3⟩:=h i hi
 exact⟨b,o,h1,below_cell hb h2,h3.later hb⟩
theorem strs1_form {w:World}{v:Value}{xs:List ByteArray}(h:Strs1 w v xs):∃q c,v=.slice q xs.length c:=by
 obtain⟨q,c,h⟩:=h.strs.slice
 exact⟨q,c,h⟩
structure Cop (w W:World)(own:Value)(i:Nat)(ys:Nat→List ByteArray)(vb:Nat→Value):Prop where
 below:Below w.heap.size w W
 owned:W.ownsRow w.heap.size 22 1 own i ((List.range i).map vb)
 row:∀k,k<i→Row0 W (vb k) (ys k)∧∀b n,(b,n)∈rowT (vb k)→own.ownBlock≠some b∧b<W.heap.size
theorem Cop.start (w:World)(ys:Nat→List ByteArray)(vb:Nat→Value):Cop w w (.slice none 0 0) 0 ys vb:=⟨Below.refl _ _,World.ownsRow_nil _ _ _ _,fun k h=>absurd h (Nat.not_lt_zero _)⟩
theorem rowT_block {v:Value}{b n:Nat}(h:(b,n)∈rowT v):v.ownBlock=some b:=by
 unfold rowT at h
 split at h
 ·simp only[List.mem_singleton,Prod.mk.injEq] at h
  obtain⟨rfl,_⟩:=h
  rfl
 ·cases h
theorem Cop.step {w W W1 W3:World}{own x:Value}{i g cap:Nat}{ys:Nat→List ByteArray}{vb:Nat→Value}(C:Cop w W own i ys vb)(hx:W1.ownsRow W.heap.size 9 1 x (ys i).length ((ys i).map Value.string))(hb1:Below W.heap.size W W1)
  (ho:W3.ownsRow w.heap.size 22 1 (.slice (some ⟨g,0,none⟩) (i+1) cap) (i+1) ((List.range i).map vb++[x])) (hg:(W1.alloc (.cells #[x] 22)).grownBy W3 own.ownBlock) (hat:own.ownBlock=some g∨g=W1.heap.size+1) :
  Cop w W3 (.slice (some ⟨g,0,none⟩) (i+1) cap) (i+1) ys (upd vb i x):=by
 have hsz:(W1.alloc (.cells #[x] 22)).heap.size=W1.heap.size+1:=by simp
 have hold:∀k,own.ownBlock=some k→w.heap.size≤k∧k<W.heap.size:=C.owned.lt
 have s1:=hb1.size
 have s0:=C.below.size
 have h3:W1.heap.size+1≤W3.heap.size:=by have:=hg.size;omega
 have keep:∀b,b<W1.heap.size→own.ownBlock≠some b→W3.heap[b]?=W1.heap[b]?:=fun b hb hne=>by
  have h1:=hg.block b (by omega) (fun e=>hne e.symm)
  rw[h1]
  show (W1.heap.push (.cells #[x] 22))[b]?=_
  rw[Array.getElem?_push,if_neg (by omega)]
 refine⟨?_,?_,fun k hk=>?_⟩
 ·have hbw:Below w.heap.size w W1:=C.below.trans (hb1.mono s0)
  exact (hbw.alloc hbw.size _).grown hg (by rw[hsz];omega) fun k e=>(hold k e).1
 ·have e:(List.range (i+1)).map (upd vb i x)=(List.range i).map vb++[x]:=by
   rw[List.range_succ,List.map_append,List.map_singleton,upd_same]
   congr 1
   refine List.map_congr_left fun k hk=>?_
   rw[upd_ne _ _ (by have:=List.mem_range.1 hk;omega)]
  rw[e]
  exact ho
 ·by_cases e:k=i
  ·subst e
   rw[upd_same]
   have hlt:=hx.lt
   refine⟨(row0_of_owns hx).same fun b n hb=>?_,fun b n hb=>?_⟩
   ·obtain⟨l1,l2⟩:=hlt b (rowT_block hb)
    exact keep b l2 fun q=>by have:=(hold b q).2;omega
   ·obtain⟨l1,l2⟩:=hlt b (rowT_block hb)
    refine⟨fun q=>?_,by omega⟩
    have q:g=b:=by simpa [Value.ownBlock] using q
    rcases hat with h|h
    ·have:=(hold g h).2;omega
    ·omega
  ·rw[upd_ne _ _ e]
   obtain⟨r1,r2⟩:=C.row k (by omega)
   refine⟨r1.same fun b n hb=>?_,fun b n hb=>?_⟩
   ·obtain⟨l1,l2⟩:=r2 b n hb
    rw[keep b (by omega) l1]
    exact hb1.block b l2
   ·obtain⟨l1,l2⟩:=r2 b n hb
    refine⟨fun q=>?_,by omega⟩
    have q:g=b:=by simpa [Value.ownBlock] using q
    subst q
    rcases hat with h|h
    ·exact l1 h
    ·omega
end Go.Proofs.YtjeicikflkjacaaGreatDoor.Sh

/- SideMoves: up to the call of side.Moves; where it returns before. -/
set_option linter.unusedSimpArgs false
set_option linter.unusedVariables false
namespace Go.Proofs.YtjeicikflkjacaaGreatDoor.Sh
open Go Go.Conc Go.Conc.Lib Go.RowKit Go.ConcN
open Ms Po
open Par (Fm Gr on stopper LocIn)
def Pas3 (pa p:Option Addr)(la ca N c:Nat)(n wk:Int)(w:World)(ys:Nat→List ByteArray)(t:Array Value)(w':World):Prop:=t.size=145∧t.getD 0 undef=.slice pa la ca∧t.getD 1 undef=.slice p N c∧t.getD 2 undef=.int .i64 n∧t.getD 3 undef=.int .i64 wk∧∃own vb,t.getD 10 undef=own∧Cop w w' own N ys vb
theorem own_form {w:World}{base:Nat}{e:TypeId}{s:Nat}{v:Value}{n:Nat}{l:List Value}(h:w.ownsRow base e s v n l):∃q k r,v=.slice q k r:=by
 obtain⟨_,⟨h,_⟩|⟨g,cap,cur,h,_⟩⟩:=h<;>exact⟨_,_,_,h⟩
set_option maxRecDepth 100000 in
set_option maxHeartbeats 8000000 in
theorem early3l (pa p:Option Addr)(la ca N c:Nat)(n wk:Int)(xs:List ByteArray)(w:World)(hA:Strs1 w (.slice pa la ca) xs)(hz:∀k (h:k<xs.length),(xs[k]).size≤maxLen)(hm:xs.length≤maxLen)(hs:¬Short xs) :
  (cutA3 (.loop .skip)).wp Tryz.prog (bodyPost Tryz.prog Tryz.f3 (fun e w'=>∃u,e=.returned u∧u=.bool true∧Below w.heap.size w w')) ⟨tB3 pa p la ca N c n wk,[]⟩ w:=by
 have HC:Hid (Calls Tryz.prog 6 #[.slice pa la ca] w fun e w'=>e=.returned (.int .i64 1)∧w'=w):=long_not _ xs w hA.strs hz hm hs
 simp only[cutA3,restA3,tB3,Tryz.f3,Option.getD_some]
 go_wp2_with fail
 refine HC.out.mono ?_
 rintro e w1 ⟨rfl,rfl⟩
 clear HC
 go_wp2
 go_ret
 exact⟨_,rfl,rfl,Below.refl _ _⟩
set_option maxRecDepth 100000 in
set_option maxHeartbeats 8000000 in
theorem early3m (pa p:Option Addr)(la ca N c:Nat)(n wk:Int)(xs:List ByteArray)(w:World)(hA:Strs1 w (.slice pa la ca) xs)(hs:Short xs)(hN:12<N∧N<100) :
  (cutA3 (.loop .skip)).wp Tryz.prog (bodyPost Tryz.prog Tryz.f3 (fun e w'=>∃u,e=.returned u∧u=.bool true∧Below w.heap.size w w')) ⟨tB3 pa p la ca N c n wk,[]⟩ w:=by
 have HC:Hid (Calls Tryz.prog 6 #[.slice pa la ca] w fun e w'=>e=.returned (.int .i64 0)∧w'=w):=long_short _ xs w hA.strs hs
 have n1:(12:Nat)<N:=hN.1
 have n2:N<(100:Nat):=hN.2
 simp only[cutA3,restA3,tB3,Tryz.f3,Option.getD_some]
 go_wp2_with fail
 refine HC.out.mono ?_
 rintro e w1 ⟨rfl,rfl⟩
 clear HC
 go_wp2
 go_ret
 exact⟨_,rfl,rfl,Below.refl _ _⟩
set_option maxRecDepth 100000 in
set_option maxHeartbeats 8000000 in
theorem early3g (pa p:Option Addr)(la ca N c:Nat)(n wk:Int)(xs:List ByteArray)(w:World)(hA:Strs1 w (.slice pa la ca) xs)(hs:Short xs)(hN:110<N) :
  (cutA3 (.loop .skip)).wp Tryz.prog (bodyPost Tryz.prog Tryz.f3 (fun e w'=>∃u,e=.returned u∧u=.bool true∧Below w.heap.size w w')) ⟨tB3 pa p la ca N c n wk,[]⟩ w:=by
 have HC:Hid (Calls Tryz.prog 6 #[.slice pa la ca] w fun e w'=>e=.returned (.int .i64 0)∧w'=w):=long_short _ xs w hA.strs hs
 have n1:(12:Nat)<N:=by omega
 have n2:¬N<(100:Nat):=by omega
 have n3:(110:Nat)<N:=hN
 simp only[cutA3,restA3,tB3,Tryz.f3,Option.getD_some]
 go_wp2_with fail
 refine HC.out.mono ?_
 rintro e w1 ⟨rfl,rfl⟩
 clear HC
 go_wp2
 go_ret
 exact⟨_,rfl,rfl,Below.refl _ _⟩
theorem below_w {w W:World}(h:Below w.heap.size w W):Below w.heap.size w W:=h
set_option maxRecDepth 100000 in
set_option maxHeartbeats 16000000 in
theorem pass3a (pa p:Option Addr)(la ca N c:Nat)(n wk:Int)(xs:List ByteArray)(lv:Nat→Value)(ys:Nat→List ByteArray)(vb0:Nat→Value)(w:World)(hA:Strs1 w (.slice pa la ca) xs)(hs:Short xs)(hL:LAt w p N lv ys)(hN:N≤12)(hY:∀i,i<N→Short (ys i)) :
  (cutA3 .skip).wp Tryz.prog (fun e b w'=>e=.normal∧b.defers=[]∧Pas3 pa p la ca N c n wk w ys b.tmps w') ⟨tB3 pa p la ca N c n wk,[]⟩ w:=by
 have HC:Hid (Calls Tryz.prog 6 #[.slice pa la ca] w fun e w'=>e=.returned (.int .i64 0)∧w'=w):=long_short _ xs w hA.strs hs
 have n1:¬(12:Nat)<N:=by omega
 have n2:¬(110:Nat)<N:=by omega
 obtain⟨ii,hi,hz0,hz1,hz2⟩:=info_parts infoL
 have HL:Hid (LAt w p N lv ys):=hL
 have HY:Hid (∀i,i<N→Short (ys i)):=hY
 have hN6:N<1000000:=by omega
 clear hA hL hY hN
 simp only[cutA3,restA3,tB3,Tryz.f3,Option.getD_some]
 go_wp2_with fail
 refine HC.out.mono ?_
 rintro e w1 ⟨rfl,hw1⟩
 obtain rfl:w=w1:=hw1.symm
 clear HC
 go_wp2_with fail
 clear n1 n2
 go_loopw [10,11] (fun v t W=>∃(i:Nat) (vb:Nat→Value),i≤N∧t=.int .i64 i∧Cop w W v i ys vb) (fun _ t _=>N - (intOf t).toNat)
 case atStart=>exact⟨0,vb0,Nat.zero_le _,rfl,Cop.start w ys vb0⟩
 case round =>
  obtain⟨i,vb,hile,rfl,C⟩:=hrel
  by_cases hlt:i<N
  ·obtain⟨b,o,rfl,hcell,hst⟩:=HL.out.later (below_w C.below) i hlt
   obtain⟨q,cq,hq⟩:=strs1_form hst
   rw[hq] at hcell hst
   have hii:(i:Int)<(N:Int):=by omega
   have hd:decide ((i:Int)<(N:Int))=true:=by simp;omega
   have hsh:=HY.out i hlt
   have CL:Hid (Calls Tryz.prog 6 #[.slice q (ys i).length cq] wr fun e w'=>e=.returned (.int .i64 0)∧w'=wr):=long_short _ (ys i) wr hst.strs hsh
   have CO:Hid (Calls Tryz.prog 7 #[.slice q (ys i).length cq] wr fun e w'=>∃v',e=.returned v'∧w'.ownsRow wr.heap.size 9 1 v' (ys i).length ((ys i).map Value.string)∧Below wr.heap.size wr w'):=ownTexts_own _ (ys i) wr hst (by have:=hsh.1;omega)
   have HCO:Hid (Cop w wr u10 i ys vb):=C
   have hrl:(ys i).length<1000000:=by have:=hsh.1;omega
   clear hst hsh C
   go_wp2_with fail
   refine CL.out.mono ?_
   rintro e w1 ⟨rfl,rfl⟩
   clear CL
   go_wp2_with fail
   refine CO.out.mono ?_
   rintro e w2 ⟨x,rfl,hx,hb2⟩
   obtain⟨px,lx_,cx,rfl⟩:=own_form hx
   have HX:Hid (w2.ownsRow w1.heap.size 9 1 (.slice px lx_ cx) (ys i).length ((ys i).map Value.string)):=hx
   have HB2:Hid (Below w1.heap.size w1 w2):=hb2
   have hnew:=cell_one_new w2 (.slice px lx_ cx) 22
   have hmx:i+1≤maxLen:=by unfold maxLen;omega
   have hbs:w.heap.size≤(w2.alloc (.cells #[.slice px lx_ cx] 22)).heap.size:=by
    have h1:(w2.alloc (.cells #[.slice px lx_ cx] 22)).heap.size=w2.heap.size+1:=by simp
    have:=hb2.size
    have:=HCO.out.below.size
    omega
   have hox:(w2.alloc (.cells #[.slice px lx_ cx] 22)).ownsRow w.heap.size 22 1 u10 i ((List.range i).map vb):=(ownsRow_below HCO.out.owned hb2).alloc _
   clear hx hb2 CO
   go_wp2_with (at_builtin;refine wpList_append_lies _ rfl _ _ 23 rfl w.heap.size 22 ii _ 1 24 Tryz.underlying23 hi hz0 hz1 hz2 rfl (by decide) u10 i ((List.range i).map vb) rfl hox ⟨w2.heap.size,0,none⟩ 1 1 [.slice px lx_ cx] rfl rfl hnew (fun u hu=>by simp at hu;subst hu;rfl) (by decide) hmx (by omega) hbs (w2.heap.size+1) (by simp) ?_)
   intro g cap w3 hown3 hg3 hat3 hlt3
   have HN:Hid (Cop w w3 (.slice (some ⟨g,0,none⟩) (i+1) cap) (i+1) ys (upd vb i (.slice px lx_ cx))):=HCO.out.step HX.out HB2.out hown3 hg3 hat3
   clear hown3 hg3 hat3 hlt3 hox hbs hnew HX HB2 HCO
   go_wp2_with fail
   exact⟨⟨i+1,_,by omega,by go_num,HN.out⟩,by simp[intOf];omega⟩
  ·obtain rfl:i=N:=by omega
   have hd:decide ((i:Int)<(i:Int))=false:=by simp
   have HCO:Hid (Cop w wr u10 i ys vb):=C
   clear C
   go_wp2
   exact⟨rfl,rfl,rfl,rfl,rfl,u10,vb,rfl,HCO.out⟩
end Go.Proofs.YtjeicikflkjacaaGreatDoor.Sh

/- SideMoves: more ways. -/
set_option linter.unusedSimpArgs false
set_option linter.unusedVariables false
namespace Go.Proofs.YtjeicikflkjacaaGreatDoor.Sh
open Go Go.Conc Go.Conc.Lib Go.RowKit Go.ConcN
open Ms Po
open Par (Fm Gr on stopper LocIn)
set_option maxRecDepth 100000 in
set_option maxHeartbeats 16000000 in
theorem pass3b (pa p:Option Addr)(la ca N c:Nat)(n wk:Int)(xs:List ByteArray)(lv:Nat→Value)(ys:Nat→List ByteArray)(vb0:Nat→Value)(w:World)(hA:Strs1 w (.slice pa la ca) xs)(hs:Short xs)(hL:LAt w p N lv ys)(hN:100≤N∧N≤110)(hY:∀i,i<N→Short (ys i)) :
  (cutA3 .skip).wp Tryz.prog (fun e b w'=>e=.normal∧b.defers=[]∧Pas3 pa p la ca N c n wk w ys b.tmps w') ⟨tB3 pa p la ca N c n wk,[]⟩ w:=by
 have HC:Hid (Calls Tryz.prog 6 #[.slice pa la ca] w fun e w'=>e=.returned (.int .i64 0)∧w'=w):=long_short _ xs w hA.strs hs
 have n1:(12:Nat)<N:=by omega
 have n2:¬(110:Nat)<N:=by omega
 have n3:¬N<(100:Nat):=by omega
 obtain⟨ii,hi,hz0,hz1,hz2⟩:=info_parts infoL
 have HL:Hid (LAt w p N lv ys):=hL
 have HY:Hid (∀i,i<N→Short (ys i)):=hY
 have hN6:N<1000000:=by omega
 clear hA hL hY hN
 simp only[cutA3,restA3,tB3,Tryz.f3,Option.getD_some]
 go_wp2_with fail
 refine HC.out.mono ?_
 rintro e w1 ⟨rfl,hw1⟩
 obtain rfl:w=w1:=hw1.symm
 clear HC
 go_wp2_with fail
 clear n1 n2 n3
 go_loopw [10,11] (fun v t W=>∃(i:Nat) (vb:Nat→Value),i≤N∧t=.int .i64 i∧Cop w W v i ys vb) (fun _ t _=>N - (intOf t).toNat)
 case atStart=>exact⟨0,vb0,Nat.zero_le _,rfl,Cop.start w ys vb0⟩
 case round =>
  obtain⟨i,vb,hile,rfl,C⟩:=hrel
  by_cases hlt:i<N
  ·obtain⟨b,o,rfl,hcell,hst⟩:=HL.out.later (below_w C.below) i hlt
   obtain⟨q,cq,hq⟩:=strs1_form hst
   rw[hq] at hcell hst
   have hii:(i:Int)<(N:Int):=by omega
   have hd:decide ((i:Int)<(N:Int))=true:=by simp;omega
   have hsh:=HY.out i hlt
   have CL:Hid (Calls Tryz.prog 6 #[.slice q (ys i).length cq] wr fun e w'=>e=.returned (.int .i64 0)∧w'=wr):=long_short _ (ys i) wr hst.strs hsh
   have CO:Hid (Calls Tryz.prog 7 #[.slice q (ys i).length cq] wr fun e w'=>∃v',e=.returned v'∧w'.ownsRow wr.heap.size 9 1 v' (ys i).length ((ys i).map Value.string)∧Below wr.heap.size wr w'):=ownTexts_own _ (ys i) wr hst (by have:=hsh.1;omega)
   have HCO:Hid (Cop w wr u10 i ys vb):=C
   have hrl:(ys i).length<1000000:=by have:=hsh.1;omega
   clear hst hsh C
   go_wp2_with fail
   refine CL.out.mono ?_
   rintro e w1 ⟨rfl,rfl⟩
   clear CL
   go_wp2_with fail
   refine CO.out.mono ?_
   rintro e w2 ⟨x,rfl,hx,hb2⟩
   obtain⟨px,lx_,cx,rfl⟩:=own_form hx
   have HX:Hid (w2.ownsRow w1.heap.size 9 1 (.slice px lx_ cx) (ys i).length ((ys i).map Value.string)):=hx
   have HB2:Hid (Below w1.heap.size w1 w2):=hb2
   have hnew:=cell_one_new w2 (.slice px lx_ cx) 22
   have hmx:i+1≤maxLen:=by unfold maxLen;omega
   have hbs:w.heap.size≤(w2.alloc (.cells #[.slice px lx_ cx] 22)).heap.size:=by
    have h1:(w2.alloc (.cells #[.slice px lx_ cx] 22)).heap.size=w2.heap.size+1:=by simp
    have:=hb2.size
    have:=HCO.out.below.size
    omega
   have hox:(w2.alloc (.cells #[.slice px lx_ cx] 22)).ownsRow w.heap.size 22 1 u10 i ((List.range i).map vb):=(ownsRow_below HCO.out.owned hb2).alloc _
   clear hx hb2 CO
   go_wp2_with (at_builtin;refine wpList_append_lies _ rfl _ _ 23 rfl w.heap.size 22 ii _ 1 24 Tryz.underlying23 hi hz0 hz1 hz2 rfl (by decide) u10 i ((List.range i).map vb) rfl hox ⟨w2.heap.size,0,none⟩ 1 1 [.slice px lx_ cx] rfl rfl hnew (fun u hu=>by simp at hu;subst hu;rfl) (by decide) hmx (by omega) hbs (w2.heap.size+1) (by simp) ?_)
   intro g cap w3 hown3 hg3 hat3 hlt3
   have HN:Hid (Cop w w3 (.slice (some ⟨g,0,none⟩) (i+1) cap) (i+1) ys (upd vb i (.slice px lx_ cx))):=HCO.out.step HX.out HB2.out hown3 hg3 hat3
   clear hown3 hg3 hat3 hlt3 hox hbs hnew HX HB2 HCO
   go_wp2_with fail
   exact⟨⟨i+1,_,by omega,by go_num,HN.out⟩,by simp[intOf];omega⟩
  ·obtain rfl:i=N:=by omega
   have hd:decide ((i:Int)<(i:Int))=false:=by simp
   have HCO:Hid (Cop w wr u10 i ys vb):=C
   clear C
   go_wp2
   exact⟨rfl,rfl,rfl,rfl,rfl,u10,vb,rfl,HCO.out⟩
set_option maxRecDepth 100000 in
set_option maxHeartbeats 16000000 in
theorem long3a (pa p:Option Addr)(la ca N c:Nat)(n wk:Int)(xs:List ByteArray)(lv:Nat→Value)(ys:Nat→List ByteArray)(vb0:Nat→Value)(w:World)(hA:Strs1 w (.slice pa la ca) xs)(hs:Short xs)(hL:LAt w p N lv ys)(hN:N≤12)(hz:∀i,i<N→(∀k (h:k<(ys i).length),((ys i)[k]).size≤maxLen)∧(ys i).length≤maxLen)(hY:∃i,i<N∧¬Short (ys i)) :
  (cutA3 (.loop .skip)).wp Tryz.prog (bodyPost Tryz.prog Tryz.f3 (fun e w'=>∃u,e=.returned u∧u=.bool true∧Below w.heap.size w w')) ⟨tB3 pa p la ca N c n wk,[]⟩ w:=by
 have HC:Hid (Calls Tryz.prog 6 #[.slice pa la ca] w fun e w'=>e=.returned (.int .i64 0)∧w'=w):=long_short _ xs w hA.strs hs
 have n1:¬(12:Nat)<N:=by omega
 have n2:¬(110:Nat)<N:=by omega
 obtain⟨ii,hi,hz0,hz1,hz2⟩:=info_parts infoL
 have HL:Hid (LAt w p N lv ys):=hL
 have HY:Hid (∃i,i<N∧¬Short (ys i)):=hY
 have HZ:Hid (∀i,i<N→(∀k (h:k<(ys i).length),((ys i)[k]).size≤maxLen)∧(ys i).length≤maxLen):=hz
 have hN6:N<1000000:=by omega
 clear hA hL hY hz hN
 simp only[cutA3,restA3,tB3,Tryz.f3,Option.getD_some]
 go_wp2_with fail
 refine HC.out.mono ?_
 rintro e w1 ⟨rfl,hw1⟩
 obtain rfl:w=w1:=hw1.symm
 clear HC
 go_wp2_with fail
 clear n1 n2
 go_loopw [10,11] (fun v t W=>∃(i:Nat) (vb:Nat→Value),i≤N∧t=.int .i64 i∧Cop w W v i ys vb∧∀k,k<i→Short (ys k)) (fun _ t _=>N - (intOf t).toNat)
 case atStart=>exact⟨0,vb0,Nat.zero_le _,rfl,⟨Cop.start w ys vb0,fun k h=>absurd h (Nat.not_lt_zero _)⟩⟩
 case round =>
  obtain⟨i,vb,hile,rfl,C,hall⟩:=hrel
  by_cases hlt:i<N
  ·obtain⟨b,o,rfl,hcell,hst⟩:=HL.out.later (below_w C.below) i hlt
   obtain⟨q,cq,hq⟩:=strs1_form hst
   rw[hq] at hcell hst
   have hii:(i:Int)<(N:Int):=by omega
   have hd:decide ((i:Int)<(N:Int))=true:=by simp;omega
   by_cases hsh:Short (ys i)
   ·have HS:Hid ((∀k,k<i→Short (ys k))∧Short (ys i)):=⟨hall,hsh⟩
    have CL:Hid (Calls Tryz.prog 6 #[.slice q (ys i).length cq] wr fun e w'=>e=.returned (.int .i64 0)∧w'=wr):=long_short _ (ys i) wr hst.strs hsh
    have CO:Hid (Calls Tryz.prog 7 #[.slice q (ys i).length cq] wr fun e w'=>∃v',e=.returned v'∧w'.ownsRow wr.heap.size 9 1 v' (ys i).length ((ys i).map Value.string)∧Below wr.heap.size wr w'):=ownTexts_own _ (ys i) wr hst (by have:=hsh.1;omega)
    have HCO:Hid (Cop w wr u10 i ys vb):=C
    have hrl:(ys i).length<1000000:=by have:=hsh.1;omega
    clear hst hsh C
    go_wp2_with fail
    refine CL.out.mono ?_
    rintro e w1 ⟨rfl,rfl⟩
    clear CL
    go_wp2_with fail
    refine CO.out.mono ?_
    rintro e w2 ⟨x,rfl,hx,hb2⟩
    obtain⟨px,lx_,cx,rfl⟩:=own_form hx
    have HX:Hid (w2.ownsRow w1.heap.size 9 1 (.slice px lx_ cx) (ys i).length ((ys i).map Value.string)):=hx
    have HB2:Hid (Below w1.heap.size w1 w2):=hb2
    have hnew:=cell_one_new w2 (.slice px lx_ cx) 22
    have hmx:i+1≤maxLen:=by unfold maxLen;omega
    have hbs:w.heap.size≤(w2.alloc (.cells #[.slice px lx_ cx] 22)).heap.size:=by
     have h1:(w2.alloc (.cells #[.slice px lx_ cx] 22)).heap.size=w2.heap.size+1:=by simp
     have:=hb2.size
     have:=HCO.out.below.size
     omega
    have hox:(w2.alloc (.cells #[.slice px lx_ cx] 22)).ownsRow w.heap.size 22 1 u10 i ((List.range i).map vb):=(ownsRow_below HCO.out.owned hb2).alloc _
    clear hx hb2 CO
    go_wp2_with (at_builtin;refine wpList_append_lies _ rfl _ _ 23 rfl w.heap.size 22 ii _ 1 24 Tryz.underlying23 hi hz0 hz1 hz2 rfl (by decide) u10 i ((List.range i).map vb) rfl hox ⟨w2.heap.size,0,none⟩ 1 1 [.slice px lx_ cx] rfl rfl hnew (fun u hu=>by simp at hu;subst hu;rfl) (by decide) hmx (by omega) hbs (w2.heap.size+1) (by simp) ?_)
    intro g cap w3 hown3 hg3 hat3 hlt3
    have HN:Hid (Cop w w3 (.slice (some ⟨g,0,none⟩) (i+1) cap) (i+1) ys (upd vb i (.slice px lx_ cx))):=HCO.out.step HX.out HB2.out hown3 hg3 hat3
    clear hown3 hg3 hat3 hlt3 hox hbs hnew HX HB2 HCO
    go_wp2_with fail
    refine⟨⟨i+1,_,by omega,by go_num,HN.out,fun k hk=>?_⟩,by simp[intOf];omega⟩
    by_cases e:k=i
    ·subst e;exact HS.out.2
    ·exact HS.out.1 k (by omega)
   ·have CL:Hid (Calls Tryz.prog 6 #[.slice q (ys i).length cq] wr fun e w'=>e=.returned (.int .i64 1)∧w'=wr):=long_not _ (ys i) wr hst.strs (HZ.out i hlt).1 (HZ.out i hlt).2 hsh
    have hbw:=C.below
    clear hst C
    go_wp2_with fail
    refine CL.out.mono ?_
    rintro e w1 ⟨rfl,rfl⟩
    clear CL
    go_wp2
    go_ret
    exact⟨_,rfl,rfl,hbw⟩
  ·exfalso
   obtain⟨j,hj,hn⟩:=HY.out
   exact hn (hall j (by omega))
set_option maxRecDepth 100000 in
set_option maxHeartbeats 16000000 in
theorem long3b (pa p:Option Addr)(la ca N c:Nat)(n wk:Int)(xs:List ByteArray)(lv:Nat→Value)(ys:Nat→List ByteArray)(vb0:Nat→Value)(w:World)(hA:Strs1 w (.slice pa la ca) xs)(hs:Short xs)(hL:LAt w p N lv ys)(hN:100≤N∧N≤110)(hz:∀i,i<N→(∀k (h:k<(ys i).length),((ys i)[k]).size≤maxLen)∧(ys i).length≤maxLen)(hY:∃i,i<N∧¬Short (ys i)) :
  (cutA3 (.loop .skip)).wp Tryz.prog (bodyPost Tryz.prog Tryz.f3 (fun e w'=>∃u,e=.returned u∧u=.bool true∧Below w.heap.size w w')) ⟨tB3 pa p la ca N c n wk,[]⟩ w:=by
 have HC:Hid (Calls Tryz.prog 6 #[.slice pa la ca] w fun e w'=>e=.returned (.int .i64 0)∧w'=w):=long_short _ xs w hA.strs hs
 have n1:(12:Nat)<N:=by omega
 have n2:¬(110:Nat)<N:=by omega
 have n3:¬N<(100:Nat):=by omega
 obtain⟨ii,hi,hz0,hz1,hz2⟩:=info_parts infoL
 have HL:Hid (LAt w p N lv ys):=hL
 have HY:Hid (∃i,i<N∧¬Short (ys i)):=hY
 have HZ:Hid (∀i,i<N→(∀k (h:k<(ys i).length),((ys i)[k]).size≤maxLen)∧(ys i).length≤maxLen):=hz
 have hN6:N<1000000:=by omega
 clear hA hL hY hz hN
 simp only[cutA3,restA3,tB3,Tryz.f3,Option.getD_some]
 go_wp2_with fail
 refine HC.out.mono ?_
 rintro e w1 ⟨rfl,hw1⟩
 obtain rfl:w=w1:=hw1.symm
 clear HC
 go_wp2_with fail
 clear n1 n2 n3
 go_loopw [10,11] (fun v t W=>∃(i:Nat) (vb:Nat→Value),i≤N∧t=.int .i64 i∧Cop w W v i ys vb∧∀k,k<i→Short (ys k)) (fun _ t _=>N - (intOf t).toNat)
 case atStart=>exact⟨0,vb0,Nat.zero_le _,rfl,⟨Cop.start w ys vb0,fun k h=>absurd h (Nat.not_lt_zero _)⟩⟩
 case round =>
  obtain⟨i,vb,hile,rfl,C,hall⟩:=hrel
  by_cases hlt:i<N
  ·obtain⟨b,o,rfl,hcell,hst⟩:=HL.out.later (below_w C.below) i hlt
   obtain⟨q,cq,hq⟩:=strs1_form hst
   rw[hq] at hcell hst
   have hii:(i:Int)<(N:Int):=by omega
   have hd:decide ((i:Int)<(N:Int))=true:=by simp;omega
   by_cases hsh:Short (ys i)
   ·have HS:Hid ((∀k,k<i→Short (ys k))∧Short (ys i)):=⟨hall,hsh⟩
    have CL:Hid (Calls Tryz.prog 6 #[.slice q (ys i).length cq] wr fun e w'=>e=.returned (.int .i64 0)∧w'=wr):=long_short _ (ys i) wr hst.strs hsh
    have CO:Hid (Calls Tryz.prog 7 #[.slice q (ys i).length cq] wr fun e w'=>∃v',e=.returned v'∧w'.ownsRow wr.heap.size 9 1 v' (ys i).length ((ys i).map Value.string)∧Below wr.heap.size wr w'):=ownTexts_own _ (ys i) wr hst (by have:=hsh.1;omega)
    have HCO:Hid (Cop w wr u10 i ys vb):=C
    have hrl:(ys i).length<1000000:=by have:=hsh.1;omega
    clear hst hsh C
    go_wp2_with fail
    refine CL.out.mono ?_
    rintro e w1 ⟨rfl,rfl⟩
    clear CL
    go_wp2_with fail
    refine CO.out.mono ?_
    rintro e w2 ⟨x,rfl,hx,hb2⟩
    obtain⟨px,lx_,cx,rfl⟩:=own_form hx
    have HX:Hid (w2.ownsRow w1.heap.size 9 1 (.slice px lx_ cx) (ys i).length ((ys i).map Value.string)):=hx
    have HB2:Hid (Below w1.heap.size w1 w2):=hb2
    have hnew:=cell_one_new w2 (.slice px lx_ cx) 22
    have hmx:i+1≤maxLen:=by unfold maxLen;omega
    have hbs:w.heap.size≤(w2.alloc (.cells #[.slice px lx_ cx] 22)).heap.size:=by
     have h1:(w2.alloc (.cells #[.slice px lx_ cx] 22)).heap.size=w2.heap.size+1:=by simp
     have:=hb2.size
     have:=HCO.out.below.size
     omega
    have hox:(w2.alloc (.cells #[.slice px lx_ cx] 22)).ownsRow w.heap.size 22 1 u10 i ((List.range i).map vb):=(ownsRow_below HCO.out.owned hb2).alloc _
    clear hx hb2 CO
    go_wp2_with (at_builtin;refine wpList_append_lies _ rfl _ _ 23 rfl w.heap.size 22 ii _ 1 24 Tryz.underlying23 hi hz0 hz1 hz2 rfl (by decide) u10 i ((List.range i).map vb) rfl hox ⟨w2.heap.size,0,none⟩ 1 1 [.slice px lx_ cx] rfl rfl hnew (fun u hu=>by simp at hu;subst hu;rfl) (by decide) hmx (by omega) hbs (w2.heap.size+1) (by simp) ?_)
    intro g cap w3 hown3 hg3 hat3 hlt3
    have HN:Hid (Cop w w3 (.slice (some ⟨g,0,none⟩) (i+1) cap) (i+1) ys (upd vb i (.slice px lx_ cx))):=HCO.out.step HX.out HB2.out hown3 hg3 hat3
    clear hown3 hg3 hat3 hlt3 hox hbs hnew HX HB2 HCO
    go_wp2_with fail
    refine⟨⟨i+1,_,by omega,by go_num,HN.out,fun k hk=>?_⟩,by simp[intOf];omega⟩
    by_cases e:k=i
    ·subst e;exact HS.out.2
    ·exact HS.out.1 k (by omega)
   ·have CL:Hid (Calls Tryz.prog 6 #[.slice q (ys i).length cq] wr fun e w'=>e=.returned (.int .i64 1)∧w'=wr):=long_not _ (ys i) wr hst.strs (HZ.out i hlt).1 (HZ.out i hlt).2 hsh
    have hbw:=C.below
    clear hst C
    go_wp2_with fail
    refine CL.out.mono ?_
    rintro e w1 ⟨rfl,rfl⟩
    clear CL
    go_wp2
    go_ret
    exact⟨_,rfl,rfl,hbw⟩
  ·exfalso
   obtain⟨j,hj,hn⟩:=HY.out
   exact hn (hall j (by omega))
end Go.Proofs.YtjeicikflkjacaaGreatDoor.Sh
