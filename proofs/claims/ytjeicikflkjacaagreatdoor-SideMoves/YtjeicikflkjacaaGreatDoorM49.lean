/- SideMoves: the lists are copied. -/
import Derived.Test.YtjeicikflkjacaaGreatDoorM48
import Derived.Deep.AppendLies
import Derived.Test.YtjeicikflkjacaaGreatDoorM4
import Derived.Deep.RegionHeld3
set_option linter.unusedSimpArgs false
set_option linter.unusedVariables false
namespace Go.Proofs.YtjeicikflkjacaaGreatDoor.Sh
open Go Go.Conc Go.Conc.Lib Go.RowKit Go.ConcN
open Ms Po
open Par (Fm Gr on stopper LocIn)
theorem infoL:(Tryz.prog.info? 22).map (fun i=>(i.zero,i.size,i.bytes))=some (some (.slice none 0 0),1,24):=by kernel_rfl
def LAt (w:World)(p:Option Addr)(N:Nat)(lv:Nat→Value)(ys:Nat→List ByteArray):Prop:=∀i,i<N→∃b o,p=some ⟨b,o,none⟩∧w.cell? ⟨b,o+i,none⟩=some (lv i)∧Strs1 w (lv i) (ys i)
theorem LAt.later {w w':World}{p:Option Addr}{N:Nat}{lv:Nat→Value}{ys:Nat→List ByteArray}(h:LAt w p N lv ys)(hb:Below w.heap.size w w'):LAt w' p N lv ys:=fun i hi=>by
 obtain⟨b,o,h1,h2,h3⟩:=h i hi
 exact⟨b,o,h1,below_cell hb h2,h3.later hb⟩
theorem strs1_form {w:World}{v:Value}{xs:List ByteArray}(h:Strs1 w v xs):∃q c,v=.slice q xs.length c:=by
 obtain⟨q,c,h⟩:=h.strs.slice
 exact⟨q,c,h⟩
structure Cop (w W:World)(own:Value)(i:Nat)(ys:Nat→List ByteArray)(vb:Nat→Value):Prop where
 below:Below w.heap.size w W
 owned:W.ownsRow w.heap.size 22 1 own i ((List.range i).map vb)
 row:∀k,k<i→Row0 W (vb k) (ys k)∧∀b n,(b,n)∈rowT (vb k)→own.ownBlock≠some b∧b<W.heap.size
theorem Cop.start (w:World)(ys:Nat→List ByteArray)(vb:Nat→Value):Cop w w (.slice none 0 0) 0 ys vb:=⟨Below.refl _ _,World.ownsRow_nil _ _ _ _,fun k h=>absurd h (Nat.not_lt_zero _)⟩
theorem rowT_block {v:Value}{b n:Nat}(h:(b,n)∈rowT v):v.ownBlock=some b:=by
 unfold rowT at h
 split at h
 ·simp only[List.mem_singleton,Prod.mk.injEq] at h
  obtain⟨rfl,_⟩:=h
  rfl
 ·cases h
theorem Cop.step {w W W1 W3:World}{own x:Value}{i g cap:Nat}{ys:Nat→List ByteArray}{vb:Nat→Value}(C:Cop w W own i ys vb)(hx:W1.ownsRow W.heap.size 9 1 x (ys i).length ((ys i).map Value.string))(hb1:Below W.heap.size W W1)
  (ho:W3.ownsRow w.heap.size 22 1 (.slice (some ⟨g,0,none⟩) (i+1) cap) (i+1) ((List.range i).map vb++[x])) (hg:(W1.alloc (.cells #[x] 22)).grownBy W3 own.ownBlock) (hat:own.ownBlock=some g∨g=W1.heap.size+1) :
  Cop w W3 (.slice (some ⟨g,0,none⟩) (i+1) cap) (i+1) ys (upd vb i x):=by
 have hsz:(W1.alloc (.cells #[x] 22)).heap.size=W1.heap.size+1:=by simp
 have hold:∀k,own.ownBlock=some k→w.heap.size≤k∧k<W.heap.size:=C.owned.lt
 have s1:=hb1.size
 have s0:=C.below.size
 have h3:W1.heap.size+1≤W3.heap.size:=by have:=hg.size;omega
 have keep:∀b,b<W1.heap.size→own.ownBlock≠some b→W3.heap[b]?=W1.heap[b]?:=fun b hb hne=>by
  have h1:=hg.block b (by omega) (fun e=>hne e.symm)
  rw[h1]
  show (W1.heap.push (.cells #[x] 22))[b]?=_
  rw[Array.getElem?_push,if_neg (by omega)]
 refine⟨?_,?_,fun k hk=>?_⟩
 ·have hbw:Below w.heap.size w W1:=C.below.trans (hb1.mono s0)
  exact (hbw.alloc hbw.size _).grown hg (by rw[hsz];omega) fun k e=>(hold k e).1
 ·have e:(List.range (i+1)).map (upd vb i x)=(List.range i).map vb++[x]:=by
   rw[List.range_succ,List.map_append,List.map_singleton,upd_same]
   congr 1
   refine List.map_congr_left fun k hk=>?_
   rw[upd_ne _ _ (by have:=List.mem_range.1 hk;omega)]
  rw[e]
  exact ho
 ·by_cases e:k=i
  ·subst e
   rw[upd_same]
   have hlt:=hx.lt
   refine⟨(row0_of_owns hx).same fun b n hb=>?_,fun b n hb=>?_⟩
   ·obtain⟨l1,l2⟩:=hlt b (rowT_block hb)
    exact keep b l2 fun q=>by have:=(hold b q).2;omega
   ·obtain⟨l1,l2⟩:=hlt b (rowT_block hb)
    refine⟨fun q=>?_,by omega⟩
    have q:g=b:=by simpa [Value.ownBlock] using q
    rcases hat with h|h
    ·have:=(hold g h).2;omega
    ·omega
  ·rw[upd_ne _ _ e]
   obtain⟨r1,r2⟩:=C.row k (by omega)
   refine⟨r1.same fun b n hb=>?_,fun b n hb=>?_⟩
   ·obtain⟨l1,l2⟩:=r2 b n hb
    rw[keep b (by omega) l1]
    exact hb1.block b l2
   ·obtain⟨l1,l2⟩:=r2 b n hb
    refine⟨fun q=>?_,by omega⟩
    have q:g=b:=by simpa [Value.ownBlock] using q
    subst q
    rcases hat with h|h
    ·exact l1 h
    ·omega
end Go.Proofs.YtjeicikflkjacaaGreatDoor.Sh

/- SideMoves: up to the call of side.Moves; where it returns before. -/
set_option linter.unusedSimpArgs false
set_option linter.unusedVariables false
namespace Go.Proofs.YtjeicikflkjacaaGreatDoor.Sh
open Go Go.Conc Go.Conc.Lib Go.RowKit Go.ConcN
open Ms Po
open Par (Fm Gr on stopper LocIn)
def Pas3 (pa p:Option Addr)(la ca N c:Nat)(n wk:Int)(w:World)(ys:Nat→List ByteArray)(t:Array Value)(w':World):Prop:=t.size=145∧t.getD 0 undef=.slice pa la ca∧t.getD 1 undef=.slice p N c∧t.getD 2 undef=.int .i64 n∧t.getD 3 undef=.int .i64 wk∧∃own vb,t.getD 10 undef=own∧Cop w w' own N ys vb
theorem own_form {w:World}{base:Nat}{e:TypeId}{s:Nat}{v:Value}{n:Nat}{l:List Value}(h:w.ownsRow base e s v n l):∃q k r,v=.slice q k r:=by
 obtain⟨_,⟨h,_⟩|⟨g,cap,cur,h,_⟩⟩:=h<;>exact⟨_,_,_,h⟩
set_option maxRecDepth 100000 in
set_option maxHeartbeats 8000000 in
theorem early3l (pa p:Option Addr)(la ca N c:Nat)(n wk:Int)(xs:List ByteArray)(w:World)(hA:Strs1 w (.slice pa la ca) xs)(hz:∀k (h:k<xs.length),(xs[k]).size≤maxLen)(hm:xs.length≤maxLen)(hs:¬Short xs) :
  (cutA3 (.loop .skip)).wp Tryz.prog (bodyPost Tryz.prog Tryz.f3 (fun e w'=>∃u,e=.returned u∧u=.bool true∧Below w.heap.size w w')) ⟨tB3 pa p la ca N c n wk,[]⟩ w:=by
 have HC:Hid (Calls Tryz.prog 6 #[.slice pa la ca] w fun e w'=>e=.returned (.int .i64 1)∧w'=w):=long_not _ xs w hA.strs hz hm hs
 simp only[cutA3,restA3,tB3,Tryz.f3,Option.getD_some]
 go_wp2_with fail
 refine HC.out.mono ?_
 rintro e w1 ⟨rfl,rfl⟩
 clear HC
 go_wp2
 go_ret
 exact⟨_,rfl,rfl,Below.refl _ _⟩
set_option maxRecDepth 100000 in
set_option maxHeartbeats 8000000 in
theorem early3m (pa p:Option Addr)(la ca N c:Nat)(n wk:Int)(xs:List ByteArray)(w:World)(hA:Strs1 w (.slice pa la ca) xs)(hs:Short xs)(hN:12<N∧N<100) :
  (cutA3 (.loop .skip)).wp Tryz.prog (bodyPost Tryz.prog Tryz.f3 (fun e w'=>∃u,e=.returned u∧u=.bool true∧Below w.heap.size w w')) ⟨tB3 pa p la ca N c n wk,[]⟩ w:=by
 have HC:Hid (Calls Tryz.prog 6 #[.slice pa la ca] w fun e w'=>e=.returned (.int .i64 0)∧w'=w):=long_short _ xs w hA.strs hs
 have n1:(12:Nat)<N:=hN.1
 have n2:N<(100:Nat):=hN.2
 simp only[cutA3,restA3,tB3,Tryz.f3,Option.getD_some]
 go_wp2_with fail
 refine HC.out.mono ?_
 rintro e w1 ⟨rfl,rfl⟩
 clear HC
 go_wp2
 go_ret
 exact⟨_,rfl,rfl,Below.refl _ _⟩
set_option maxRecDepth 100000 in
set_option maxHeartbeats 8000000 in
theorem early3g (pa p:Option Addr)(la ca N c:Nat)(n wk:Int)(xs:List ByteArray)(w:World)(hA:Strs1 w (.slice pa la ca) xs)(hs:Short xs)(hN:110<N) :
  (cutA3 (.loop .skip)).wp Tryz.prog (bodyPost Tryz.prog Tryz.f3 (fun e w'=>∃u,e=.returned u∧u=.bool true∧Below w.heap.size w w')) ⟨tB3 pa p la ca N c n wk,[]⟩ w:=by
 have HC:Hid (Calls Tryz.prog 6 #[.slice pa la ca] w fun e w'=>e=.returned (.int .i64 0)∧w'=w):=long_short _ xs w hA.strs hs
 have n1:(12:Nat)<N:=by omega
 have n2:¬N<(100:Nat):=by omega
 have n3:(110:Nat)<N:=hN
 simp only[cutA3,restA3,tB3,Tryz.f3,Option.getD_some]
 go_wp2_with fail
 refine HC.out.mono ?_
 rintro e w1 ⟨rfl,rfl⟩
 clear HC
 go_wp2
 go_ret
 exact⟨_,rfl,rfl,Below.refl _ _⟩
theorem below_w {w W:World}(h:Below w.heap.size w W):Below w.heap.size w W:=h
set_option maxRecDepth 100000 in
set_option maxHeartbeats 16000000 in
theorem pass3a (pa p:Option Addr)(la ca N c:Nat)(n wk:Int)(xs:List ByteArray)(lv:Nat→Value)(ys:Nat→List ByteArray)(vb0:Nat→Value)(w:World)(hA:Strs1 w (.slice pa la ca) xs)(hs:Short xs)(hL:LAt w p N lv ys)(hN:N≤12)(hY:∀i,i<N→Short (ys i)) :
  (cutA3 .skip).wp Tryz.prog (fun e b w'=>e=.normal∧b.defers=[]∧Pas3 pa p la ca N c n wk w ys b.tmps w') ⟨tB3 pa p la ca N c n wk,[]⟩ w:=by
 have HC:Hid (Calls Tryz.prog 6 #[.slice pa la ca] w fun e w'=>e=.returned (.int .i64 0)∧w'=w):=long_short _ xs w hA.strs hs
 have n1:¬(12:Nat)<N:=by omega
 have n2:¬(110:Nat)<N:=by omega
 obtain⟨ii,hi,hz0,hz1,hz2⟩:=info_parts infoL
 have HL:Hid (LAt w p N lv ys):=hL
 have HY:Hid (∀i,i<N→Short (ys i)):=hY
 have hN6:N<1000000:=by omega
 clear hA hL hY hN
 simp only[cutA3,restA3,tB3,Tryz.f3,Option.getD_some]
 go_wp2_with fail
 refine HC.out.mono ?_
 rintro e w1 ⟨rfl,hw1⟩
 obtain rfl:w=w1:=hw1.symm
 clear HC
 go_wp2_with fail
 clear n1 n2
 go_loopw [10,11] (fun v t W=>∃(i:Nat) (vb:Nat→Value),i≤N∧t=.int .i64 i∧Cop w W v i ys vb) (fun _ t _=>N - (intOf t).toNat)
 case atStart=>exact⟨0,vb0,Nat.zero_le _,rfl,Cop.start w ys vb0⟩
 case round =>
  obtain⟨i,vb,hile,rfl,C⟩:=hrel
  by_cases hlt:i<N
  ·obtain⟨b,o,rfl,hcell,hst⟩:=HL.out.later (below_w C.below) i hlt
   obtain⟨q,cq,hq⟩:=strs1_form hst
   rw[hq] at hcell hst
   have hii:(i:Int)<(N:Int):=by omega
   have hd:decide ((i:Int)<(N:Int))=true:=by simp;omega
   have hsh:=HY.out i hlt
   have CL:Hid (Calls Tryz.prog 6 #[.slice q (ys i).length cq] wr fun e w'=>e=.returned (.int .i64 0)∧w'=wr):=long_short _ (ys i) wr hst.strs hsh
   have CO:Hid (Calls Tryz.prog 7 #[.slice q (ys i).length cq] wr fun e w'=>∃v',e=.returned v'∧w'.ownsRow wr.heap.size 9 1 v' (ys i).length ((ys i).map Value.string)∧Below wr.heap.size wr w'):=ownTexts_own _ (ys i) wr hst (by have:=hsh.1;omega)
   have HCO:Hid (Cop w wr u10 i ys vb):=C
   have hrl:(ys i).length<1000000:=by have:=hsh.1;omega
   clear hst hsh C
   go_wp2_with fail
   refine CL.out.mono ?_
   rintro e w1 ⟨rfl,rfl⟩
   clear CL
   go_wp2_with fail
   refine CO.out.mono ?_
   rintro e w2 ⟨x,rfl,hx,hb2⟩
   obtain⟨px,lx_,cx,rfl⟩:=own_form hx
   have HX:Hid (w2.ownsRow w1.heap.size 9 1 (.slice px lx_ cx) (ys i).length ((ys i).map Value.string)):=hx
   have HB2:Hid (Below w1.heap.size w1 w2):=hb2
   have hnew:=cell_one_new w2 (.slice px lx_ cx) 22
   have hmx:i+1≤maxLen:=by unfold maxLen;omega
   have hbs:w.heap.size≤(w2.alloc (.cells #[.slice px lx_ cx] 22)).heap.size:=by
    have h1:(w2.alloc (.cells #[.slice px lx_ cx] 22)).heap.size=w2.heap.size+1:=by simp
    have:=hb2.size
    have:=HCO.out.below.size
    omega
   have hox:(w2.alloc (.cells #[.slice px lx_ cx] 22)).ownsRow w.heap.size 22 1 u10 i ((List.range i).map vb):=(ownsRow_below HCO.out.owned hb2).alloc _
   clear hx hb2 CO
   go_wp2_with (at_builtin;refine wpList_append_lies _ rfl _ _ 23 rfl w.heap.size 22 ii _ 1 24 Tryz.underlying23 hi hz0 hz1 hz2 rfl (by decide) u10 i ((List.range i).map vb) rfl hox ⟨w2.heap.size,0,none⟩ 1 1 [.slice px lx_ cx] rfl rfl hnew (fun u hu=>by simp at hu;subst hu;rfl) (by decide) hmx (by omega) hbs (w2.heap.size+1) (by simp) ?_)
   intro g cap w3 hown3 hg3 hat3 hlt3
   have HN:Hid (Cop w w3 (.slice (some ⟨g,0,none⟩) (i+1) cap) (i+1) ys (upd vb i (.slice px lx_ cx))):=HCO.out.step HX.out HB2.out hown3 hg3 hat3
   clear hown3 hg3 hat3 hlt3 hox hbs hnew HX HB2 HCO
   go_wp2_with fail
   exact⟨⟨i+1,_,by omega,by go_num,HN.out⟩,by simp[intOf];omega⟩
  ·obtain rfl:i=N:=by omega
   have hd:decide ((i:Int)<(i:Int))=false:=by simp
   have HCO:Hid (Cop w wr u10 i ys vb):=C
   clear C
   go_wp2
   exact⟨rfl,rfl,rfl,rfl,rfl,u10,vb,rfl,HCO.out⟩
end Go.Proofs.YtjeicikflkjacaaGreatDoor.Sh

/- SideMoves: more ways. -/
set_option linter.unusedSimpArgs false
set_option linter.unusedVariables false
namespace Go.Proofs.YtjeicikflkjacaaGreatDoor.Sh
open Go Go.Conc Go.Conc.Lib Go.RowKit Go.ConcN
open Ms Po
open Par (Fm Gr on stopper LocIn)
set_option maxRecDepth 100000 in
set_option maxHeartbeats 16000000 in
theorem pass3b (pa p:Option Addr)(la ca N c:Nat)(n wk:Int)(xs:List ByteArray)(lv:Nat→Value)(ys:Nat→List ByteArray)(vb0:Nat→Value)(w:World)(hA:Strs1 w (.slice pa la ca) xs)(hs:Short xs)(hL:LAt w p N lv ys)(hN:100≤N∧N≤110)(hY:∀i,i<N→Short (ys i)) :
  (cutA3 .skip).wp Tryz.prog (fun e b w'=>e=.normal∧b.defers=[]∧Pas3 pa p la ca N c n wk w ys b.tmps w') ⟨tB3 pa p la ca N c n wk,[]⟩ w:=by
 have HC:Hid (Calls Tryz.prog 6 #[.slice pa la ca] w fun e w'=>e=.returned (.int .i64 0)∧w'=w):=long_short _ xs w hA.strs hs
 have n1:(12:Nat)<N:=by omega
 have n2:¬(110:Nat)<N:=by omega
 have n3:¬N<(100:Nat):=by omega
 obtain⟨ii,hi,hz0,hz1,hz2⟩:=info_parts infoL
 have HL:Hid (LAt w p N lv ys):=hL
 have HY:Hid (∀i,i<N→Short (ys i)):=hY
 have hN6:N<1000000:=by omega
 clear hA hL hY hN
 simp only[cutA3,restA3,tB3,Tryz.f3,Option.getD_some]
 go_wp2_with fail
 refine HC.out.mono ?_
 rintro e w1 ⟨rfl,hw1⟩
 obtain rfl:w=w1:=hw1.symm
 clear HC
 go_wp2_with fail
 clear n1 n2 n3
 go_loopw [10,11] (fun v t W=>∃(i:Nat) (vb:Nat→Value),i≤N∧t=.int .i64 i∧Cop w W v i ys vb) (fun _ t _=>N - (intOf t).toNat)
 case atStart=>exact⟨0,vb0,Nat.zero_le _,rfl,Cop.start w ys vb0⟩
 case round =>
  obtain⟨i,vb,hile,rfl,C⟩:=hrel
  by_cases hlt:i<N
  ·obtain⟨b,o,rfl,hcell,hst⟩:=HL.out.later (below_w C.below) i hlt
   obtain⟨q,cq,hq⟩:=strs1_form hst
   rw[hq] at hcell hst
   have hii:(i:Int)<(N:Int):=by omega
   have hd:decide ((i:Int)<(N:Int))=true:=by simp;omega
   have hsh:=HY.out i hlt
   have CL:Hid (Calls Tryz.prog 6 #[.slice q (ys i).length cq] wr fun e w'=>e=.returned (.int .i64 0)∧w'=wr):=long_short _ (ys i) wr hst.strs hsh
   have CO:Hid (Calls Tryz.prog 7 #[.slice q (ys i).length cq] wr fun e w'=>∃v',e=.returned v'∧w'.ownsRow wr.heap.size 9 1 v' (ys i).length ((ys i).map Value.string)∧Below wr.heap.size wr w'):=ownTexts_own _ (ys i) wr hst (by have:=hsh.1;omega)
   have HCO:Hid (Cop w wr u10 i ys vb):=C
   have hrl:(ys i).length<1000000:=by have:=hsh.1;omega
   clear hst hsh C
   go_wp2_with fail
   refine CL.out.mono ?_
   rintro e w1 ⟨rfl,rfl⟩
   clear CL
   go_wp2_with fail
   refine CO.out.mono ?_
   rintro e w2 ⟨x,rfl,hx,hb2⟩
   obtain⟨px,lx_,cx,rfl⟩:=own_form hx
   have HX:Hid (w2.ownsRow w1.heap.size 9 1 (.slice px lx_ cx) (ys i).length ((ys i).map Value.string)):=hx
   have HB2:Hid (Below w1.heap.size w1 w2):=hb2
   have hnew:=cell_one_new w2 (.slice px lx_ cx) 22
   have hmx:i+1≤maxLen:=by unfold maxLen;omega
   have hbs:w.heap.size≤(w2.alloc (.cells #[.slice px lx_ cx] 22)).heap.size:=by
    have h1:(w2.alloc (.cells #[.slice px lx_ cx] 22)).heap.size=w2.heap.size+1:=by simp
    have:=hb2.size
    have:=HCO.out.below.size
    omega
   have hox:(w2.alloc (.cells #[.slice px lx_ cx] 22)).ownsRow w.heap.size 22 1 u10 i ((List.range i).map vb):=(ownsRow_below HCO.out.owned hb2).alloc _
   clear hx hb2 CO
   go_wp2_with (at_builtin;refine wpList_append_lies _ rfl _ _ 23 rfl w.heap.size 22 ii _ 1 24 Tryz.underlying23 hi hz0 hz1 hz2 rfl (by decide) u10 i ((List.range i).map vb) rfl hox ⟨w2.heap.size,0,none⟩ 1 1 [.slice px lx_ cx] rfl rfl hnew (fun u hu=>by simp at hu;subst hu;rfl) (by decide) hmx (by omega) hbs (w2.heap.size+1) (by simp) ?_)
   intro g cap w3 hown3 hg3 hat3 hlt3
   have HN:Hid (Cop w w3 (.slice (some ⟨g,0,none⟩) (i+1) cap) (i+1) ys (upd vb i (.slice px lx_ cx))):=HCO.out.step HX.out HB2.out hown3 hg3 hat3
   clear hown3 hg3 hat3 hlt3 hox hbs hnew HX HB2 HCO
   go_wp2_with fail
   exact⟨⟨i+1,_,by omega,by go_num,HN.out⟩,by simp[intOf];omega⟩
  ·obtain rfl:i=N:=by omega
   have hd:decide ((i:Int)<(i:Int))=false:=by simp
   have HCO:Hid (Cop w wr u10 i ys vb):=C
   clear C
   go_wp2
   exact⟨rfl,rfl,rfl,rfl,rfl,u10,vb,rfl,HCO.out⟩
set_option maxRecDepth 100000 in
set_option maxHeartbeats 16000000 in
theorem long3a (pa p:Option Addr)(la ca N c:Nat)(n wk:Int)(xs:List ByteArray)(lv:Nat→Value)(ys:Nat→List ByteArray)(vb0:Nat→Value)(w:World)(hA:Strs1 w (.slice pa la ca) xs)(hs:Short xs)(hL:LAt w p N lv ys)(hN:N≤12)(hz:∀i,i<N→(∀k (h:k<(ys i).length),((ys i)[k]).size≤maxLen)∧(ys i).length≤maxLen)(hY:∃i,i<N∧¬Short (ys i)) :
  (cutA3 (.loop .skip)).wp Tryz.prog (bodyPost Tryz.prog Tryz.f3 (fun e w'=>∃u,e=.returned u∧u=.bool true∧Below w.heap.size w w')) ⟨tB3 pa p la ca N c n wk,[]⟩ w:=by
 have HC:Hid (Calls Tryz.prog 6 #[.slice pa la ca] w fun e w'=>e=.returned (.int .i64 0)∧w'=w):=long_short _ xs w hA.strs hs
 have n1:¬(12:Nat)<N:=by omega
 have n2:¬(110:Nat)<N:=by omega
 obtain⟨ii,hi,hz0,hz1,hz2⟩:=info_parts infoL
 have HL:Hid (LAt w p N lv ys):=hL
 have HY:Hid (∃i,i<N∧¬Short (ys i)):=hY
 have HZ:Hid (∀i,i<N→(∀k (h:k<(ys i).length),((ys i)[k]).size≤maxLen)∧(ys i).length≤maxLen):=hz
 have hN6:N<1000000:=by omega
 clear hA hL hY hz hN
 simp only[cutA3,restA3,tB3,Tryz.f3,Option.getD_some]
 go_wp2_with fail
 refine HC.out.mono ?_
 rintro e w1 ⟨rfl,hw1⟩
 obtain rfl:w=w1:=hw1.symm
 clear HC
 go_wp2_with fail
 clear n1 n2
 go_loopw [10,11] (fun v t W=>∃(i:Nat) (vb:Nat→Value),i≤N∧t=.int .i64 i∧Cop w W v i ys vb∧∀k,k<i→Short (ys k)) (fun _ t _=>N - (intOf t).toNat)
 case atStart=>exact⟨0,vb0,Nat.zero_le _,rfl,⟨Cop.start w ys vb0,fun k h=>absurd h (Nat.not_lt_zero _)⟩⟩
 case round =>
  obtain⟨i,vb,hile,rfl,C,hall⟩:=hrel
  by_cases hlt:i<N
  ·obtain⟨b,o,rfl,hcell,hst⟩:=HL.out.later (below_w C.below) i hlt
   obtain⟨q,cq,hq⟩:=strs1_form hst
   rw[hq] at hcell hst
   have hii:(i:Int)<(N:Int):=by omega
   have hd:decide ((i:Int)<(N:Int))=true:=by simp;omega
   by_cases hsh:Short (ys i)
   ·have HS:Hid ((∀k,k<i→Short (ys k))∧Short (ys i)):=⟨hall,hsh⟩
    have CL:Hid (Calls Tryz.prog 6 #[.slice q (ys i).length cq] wr fun e w'=>e=.returned (.int .i64 0)∧w'=wr):=long_short _ (ys i) wr hst.strs hsh
    have CO:Hid (Calls Tryz.prog 7 #[.slice q (ys i).length cq] wr fun e w'=>∃v',e=.returned v'∧w'.ownsRow wr.heap.size 9 1 v' (ys i).length ((ys i).map Value.string)∧Below wr.heap.size wr w'):=ownTexts_own _ (ys i) wr hst (by have:=hsh.1;omega)
    have HCO:Hid (Cop w wr u10 i ys vb):=C
    have hrl:(ys i).length<1000000:=by have:=hsh.1;omega
    clear hst hsh C
    go_wp2_with fail
    refine CL.out.mono ?_
    rintro e w1 ⟨rfl,rfl⟩
    clear CL
    go_wp2_with fail
    refine CO.out.mono ?_
    rintro e w2 ⟨x,rfl,hx,hb2⟩
    obtain⟨px,lx_,cx,rfl⟩:=own_form hx
    have HX:Hid (w2.ownsRow w1.heap.size 9 1 (.slice px lx_ cx) (ys i).length ((ys i).map Value.string)):=hx
    have HB2:Hid (Below w1.heap.size w1 w2):=hb2
    have hnew:=cell_one_new w2 (.slice px lx_ cx) 22
    have hmx:i+1≤maxLen:=by unfold maxLen;omega
    have hbs:w.heap.size≤(w2.alloc (.cells #[.slice px lx_ cx] 22)).heap.size:=by
     have h1:(w2.alloc (.cells #[.slice px lx_ cx] 22)).heap.size=w2.heap.size+1:=by simp
     have:=hb2.size
     have:=HCO.out.below.size
     omega
    have hox:(w2.alloc (.cells #[.slice px lx_ cx] 22)).ownsRow w.heap.size 22 1 u10 i ((List.range i).map vb):=(ownsRow_below HCO.out.owned hb2).alloc _
    clear hx hb2 CO
    go_wp2_with (at_builtin;refine wpList_append_lies _ rfl _ _ 23 rfl w.heap.size 22 ii _ 1 24 Tryz.underlying23 hi hz0 hz1 hz2 rfl (by decide) u10 i ((List.range i).map vb) rfl hox ⟨w2.heap.size,0,none⟩ 1 1 [.slice px lx_ cx] rfl rfl hnew (fun u hu=>by simp at hu;subst hu;rfl) (by decide) hmx (by omega) hbs (w2.heap.size+1) (by simp) ?_)
    intro g cap w3 hown3 hg3 hat3 hlt3
    have HN:Hid (Cop w w3 (.slice (some ⟨g,0,none⟩) (i+1) cap) (i+1) ys (upd vb i (.slice px lx_ cx))):=HCO.out.step HX.out HB2.out hown3 hg3 hat3
    clear hown3 hg3 hat3 hlt3 hox hbs hnew HX HB2 HCO
    go_wp2_with fail
    refine⟨⟨i+1,_,by omega,by go_num,HN.out,fun k hk=>?_⟩,by simp[intOf];omega⟩
    by_cases e:k=i
    ·subst e;exact HS.out.2
    ·exact HS.out.1 k (by omega)
   ·have CL:Hid (Calls Tryz.prog 6 #[.slice q (ys i).length cq] wr fun e w'=>e=.returned (.int .i64 1)∧w'=wr):=long_not _ (ys i) wr hst.strs (HZ.out i hlt).1 (HZ.out i hlt).2 hsh
    have hbw:=C.below
    clear hst C
    go_wp2_with fail
    refine CL.out.mono ?_
    rintro e w1 ⟨rfl,rfl⟩
    clear CL
    go_wp2
    go_ret
    exact⟨_,rfl,rfl,hbw⟩
  ·exfalso
   obtain⟨j,hj,hn⟩:=HY.out
   exact hn (hall j (by omega))
set_option maxRecDepth 100000 in
set_option maxHeartbeats 16000000 in
theorem long3b (pa p:Option Addr)(la ca N c:Nat)(n wk:Int)(xs:List ByteArray)(lv:Nat→Value)(ys:Nat→List ByteArray)(vb0:Nat→Value)(w:World)(hA:Strs1 w (.slice pa la ca) xs)(hs:Short xs)(hL:LAt w p N lv ys)(hN:100≤N∧N≤110)(hz:∀i,i<N→(∀k (h:k<(ys i).length),((ys i)[k]).size≤maxLen)∧(ys i).length≤maxLen)(hY:∃i,i<N∧¬Short (ys i)) :
  (cutA3 (.loop .skip)).wp Tryz.prog (bodyPost Tryz.prog Tryz.f3 (fun e w'=>∃u,e=.returned u∧u=.bool true∧Below w.heap.size w w')) ⟨tB3 pa p la ca N c n wk,[]⟩ w:=by
 have HC:Hid (Calls Tryz.prog 6 #[.slice pa la ca] w fun e w'=>e=.returned (.int .i64 0)∧w'=w):=long_short _ xs w hA.strs hs
 have n1:(12:Nat)<N:=by omega
 have n2:¬(110:Nat)<N:=by omega
 have n3:¬N<(100:Nat):=by omega
 obtain⟨ii,hi,hz0,hz1,hz2⟩:=info_parts infoL
 have HL:Hid (LAt w p N lv ys):=hL
 have HY:Hid (∃i,i<N∧¬Short (ys i)):=hY
 have HZ:Hid (∀i,i<N→(∀k (h:k<(ys i).length),((ys i)[k]).size≤maxLen)∧(ys i).length≤maxLen):=hz
 have hN6:N<1000000:=by omega
 clear hA hL hY hz hN
 simp only[cutA3,restA3,tB3,Tryz.f3,Option.getD_some]
 go_wp2_with fail
 refine HC.out.mono ?_
 rintro e w1 ⟨rfl,hw1⟩
 obtain rfl:w=w1:=hw1.symm
 clear HC
 go_wp2_with fail
 clear n1 n2 n3
 go_loopw [10,11] (fun v t W=>∃(i:Nat) (vb:Nat→Value),i≤N∧t=.int .i64 i∧Cop w W v i ys vb∧∀k,k<i→Short (ys k)) (fun _ t _=>N - (intOf t).toNat)
 case atStart=>exact⟨0,vb0,Nat.zero_le _,rfl,⟨Cop.start w ys vb0,fun k h=>absurd h (Nat.not_lt_zero _)⟩⟩
 case round =>
  obtain⟨i,vb,hile,rfl,C,hall⟩:=hrel
  by_cases hlt:i<N
  ·obtain⟨b,o,rfl,hcell,hst⟩:=HL.out.later (below_w C.below) i hlt
   obtain⟨q,cq,hq⟩:=strs1_form hst
   rw[hq] at hcell hst
   have hii:(i:Int)<(N:Int):=by omega
   have hd:decide ((i:Int)<(N:Int))=true:=by simp;omega
   by_cases hsh:Short (ys i)
   ·have HS:Hid ((∀k,k<i→Short (ys k))∧Short (ys i)):=⟨hall,hsh⟩
    have CL:Hid (Calls Tryz.prog 6 #[.slice q (ys i).length cq] wr fun e w'=>e=.returned (.int .i64 0)∧w'=wr):=long_short _ (ys i) wr hst.strs hsh
    have CO:Hid (Calls Tryz.prog 7 #[.slice q (ys i).length cq] wr fun e w'=>∃v',e=.returned v'∧w'.ownsRow wr.heap.size 9 1 v' (ys i).length ((ys i).map Value.string)∧Below wr.heap.size wr w'):=ownTexts_own _ (ys i) wr hst (by have:=hsh.1;omega)
    have HCO:Hid (Cop w wr u10 i ys vb):=C
    have hrl:(ys i).length<1000000:=by have:=hsh.1;omega
    clear hst hsh C
    go_wp2_with fail
    refine CL.out.mono ?_
    rintro e w1 ⟨rfl,rfl⟩
    clear CL
    go_wp2_with fail
    refine CO.out.mono ?_
    rintro e w2 ⟨x,rfl,hx,hb2⟩
    obtain⟨px,lx_,cx,rfl⟩:=own_form hx
    have HX:Hid (w2.ownsRow w1.heap.size 9 1 (.slice px lx_ cx) (ys i).length ((ys i).map Value.string)):=hx
    have HB2:Hid (Below w1.heap.size w1 w2):=hb2
    have hnew:=cell_one_new w2 (.slice px lx_ cx) 22
    have hmx:i+1≤maxLen:=by unfold maxLen;omega
    have hbs:w.heap.size≤(w2.alloc (.cells #[.slice px lx_ cx] 22)).heap.size:=by
     have h1:(w2.alloc (.cells #[.slice px lx_ cx] 22)).heap.size=w2.heap.size+1:=by simp
     have:=hb2.size
     have:=HCO.out.below.size
     omega
    have hox:(w2.alloc (.cells #[.slice px lx_ cx] 22)).ownsRow w.heap.size 22 1 u10 i ((List.range i).map vb):=(ownsRow_below HCO.out.owned hb2).alloc _
    clear hx hb2 CO
    go_wp2_with (at_builtin;refine wpList_append_lies _ rfl _ _ 23 rfl w.heap.size 22 ii _ 1 24 Tryz.underlying23 hi hz0 hz1 hz2 rfl (by decide) u10 i ((List.range i).map vb) rfl hox ⟨w2.heap.size,0,none⟩ 1 1 [.slice px lx_ cx] rfl rfl hnew (fun u hu=>by simp at hu;subst hu;rfl) (by decide) hmx (by omega) hbs (w2.heap.size+1) (by simp) ?_)
    intro g cap w3 hown3 hg3 hat3 hlt3
    have HN:Hid (Cop w w3 (.slice (some ⟨g,0,none⟩) (i+1) cap) (i+1) ys (upd vb i (.slice px lx_ cx))):=HCO.out.step HX.out HB2.out hown3 hg3 hat3
    clear hown3 hg3 hat3 hlt3 hox hbs hnew HX HB2 HCO
    go_wp2_with fail
    refine⟨⟨i+1,_,by omega,by go_num,HN.out,fun k hk=>?_⟩,by simp[intOf];omega⟩
    by_cases e:k=i
    ·subst e;exact HS.out.2
    ·exact HS.out.1 k (by omega)
   ·have CL:Hid (Calls Tryz.prog 6 #[.slice q (ys i).length cq] wr fun e w'=>e=.returned (.int .i64 1)∧w'=wr):=long_not _ (ys i) wr hst.strs (HZ.out i hlt).1 (HZ.out i hlt).2 hsh
    have hbw:=C.below
    clear hst C
    go_wp2_with fail
    refine CL.out.mono ?_
    rintro e w1 ⟨rfl,rfl⟩
    clear CL
    go_wp2
    go_ret
    exact⟨_,rfl,rfl,hbw⟩
  ·exfalso
   obtain⟨j,hj,hn⟩:=HY.out
   exact hn (hall j (by omega))
end Go.Proofs.YtjeicikflkjacaaGreatDoor.Sh

/- SideMoves: behind side.Moves' return. -/
set_option linter.unusedSimpArgs false
set_option linter.unusedVariables false
namespace Go.Proofs.YtjeicikflkjacaaGreatDoor.Sh
open Go Go.Conc Go.Conc.Lib Go.RowKit Go.ConcN
open Ms Po
open Par (Fm Gr on stopper LocIn)
theorem listD3 {Q:Exit→Act→World→Prop}{A:Act}{w:World}(h:wpList Tryz.prog opsD3 Q (opsD3.toList.drop 6) A w):wpOps Tryz.prog opsD3 Q [6,7,8,9,10] A w:=by
 have:=wpOps_eq_wpList (P:=Tryz.prog) (Q:=Q) (ops:=opsD3) (opsD3.toList.drop 6) 6 (fun j=>by simp)
 rw[show (opsD3.toList.drop 6).length=5 by simp[opsD3,restD3,restA3,Tryz.f3]] at this
 have e:List.range' 6 5=[6,7,8,9,10]:=rfl
 rw[e] at this
 rw[this]
 exact h
def FB (w:World)(fb:Nat)(x y:Int):Prop:=w.heap[fb]?=some (.cells #[.int .i64 x,.int .i64 y] 33 (0,0))
section
variable {w w':World} {fb:Nat} {x y:Int}
theorem FB.c0 (h:FB w fb x y):w.cell? ⟨fb,0,none⟩=some (.int .i64 x):=by rw[cell_of_row w fb 0 _ _ _ h];rfl
theorem FB.c1 (h:FB w fb x y):w.cell? ⟨fb,1,none⟩=some (.int .i64 y):=by rw[cell_of_row w fb 1 _ _ _ h];rfl
theorem FB.frozen (h:FB w fb x y)(k:Nat):w.frozen? ⟨fb,k,none⟩=false:=frozen_of_row w fb k _ _ h
theorem FB.lt (h:FB w fb x y):fb<w.heap.size:=(Array.getElem?_eq_some_iff.1 h).1
theorem FB.same (h:FB w fb x y)(he:w'.heap[fb]?=w.heap[fb]?):FB w' fb x y:=by
 unfold FB
 rw[he]
 exact h
theorem FB.later (h:FB w fb x y)(hb:Below w.heap.size w w'):FB w' fb x y:=h.same (hb.block fb h.lt)
theorem FB.made (w:World)(x y:Int):FB (w.alloc (.cells #[.int .i64 x,.int .i64 y] 33)) w.heap.size x y:=heap_alloc_new w _
theorem FB.set (h:FB w fb x y)(x' y':Int):FB ((w.setCell ⟨fb,0,none⟩ (.int .i64 x')).setCell ⟨fb,1,none⟩ (.int .i64 y')) fb x' y':=by
 have h1:=heap_setCell_same w fb 0 _ _ (.int .i64 x') h
 have h2:=heap_setCell_same (w.setCell ⟨fb,0,none⟩ (.int .i64 x')) fb 1 _ _ (.int .i64 y') h1
 unfold FB
 rw[h2]
 simp
theorem FB.far (h:FB w fb x y){gb:Nat}(hne:gb≠fb)(k l:Nat)(u v:Value):FB ((w.setCell ⟨gb,k,none⟩ u).setCell ⟨gb,l,none⟩ v) fb x y:=by
 refine h.same ?_
 have a1:((w.setCell ⟨gb,k,none⟩ u).setCell ⟨gb,l,none⟩ v).heap[fb]?=(w.setCell ⟨gb,k,none⟩ u).heap[fb]?:=((aside_setCell (w.setCell ⟨gb,k,none⟩ u) ⟨gb,l,none⟩ v).block fb (Ne.symm hne))
 have a2:(w.setCell ⟨gb,k,none⟩ u).heap[fb]?=w.heap[fb]?:=(aside_setCell w ⟨gb,k,none⟩ u).block fb (Ne.symm hne)
 rw[a1,a2]
end
set_option maxRecDepth 100000 in
set_option maxHeartbeats 8000000 in
theorem rest3c (a:Nat→Addr)(pa p:Option Addr)(la ca N c:Nat)(n wk:Int)(own:Value)(g:Nat→Value)(xa:Value)(ev:Value)(cc:Nat)(w:World)(he:Errs a w)(hc:chkN (N:Nat) 100 wk=cc)(hcc:cc≠0)(hev:ErrIs a w cc (-1) ev) :
  wpOps Tryz.prog opsD3 (Exit.then (Po.wpC Tryz.prog (bodyPost Tryz.prog Tryz.f3 (Says w)) [restE3]) (bodyPost Tryz.prog Tryz.f3 (Says w))) [6,7,8,9,10] ⟨tM4 pa p la ca N c n wk own g xa (.tuple #[.slice none 0 0,ev]),[]⟩ w:=by
 have HW:Hid (Calls Tryz.prog 9 #[.int .i64 wk,.int .i64 (N:Nat),.int .i64 100] w fun e w'=>e=.returned (.agg #[.int .i64 (cc:Nat),.int .i64 (-1)])∧Below w.heap.size w w'):=by
  have:=workersFault_any wk (N:Nat) 100 w
  rw[hc] at this
  exact this
 have HE:Hid (Errs a w):=he
 have HEV:Hid (ErrIs a w cc (-1) ev):=hev
 have hz:((cc:Int)==0)=false:=by rw[beq_eq_false_iff_ne];omega
 have hp:(0:Int)<(cc:Int):=by omega
 have hq:0<cc:=by omega
 clear he hev hc
 refine listD3 ?_
 simp only[opsD3,restD3,restA3,restE3,tM4,Tryz.f3,Option.getD_some,List.drop,Po.wpC]
 go_wp2_with fail
 refine HW.out.mono ?_
 rintro e w1 ⟨rfl,hb1⟩
 have hb:=below_then hb1 ((Below.refl _ _).alloc (Nat.le_refl _) (.cells #[.int .i64 cc,.int .i64 (-1)] 33))
 have HF:Hid (Calls Tryz.prog 12 #[ev,.agg #[.int .i64 cc,.int .i64 (-1)]] (w1.alloc (.cells #[.int .i64 cc,.int .i64 (-1)] 33)) fun e w'=>e=.returned (.bool true)∧Below w.heap.size w w'):=(faulted3_is (HE.out.later hb) (HEV.out.later hb)).mono fun e w' ⟨h1,h2⟩=>⟨h1,below_then hb h2⟩
 have k0:(w1.alloc (.cells #[.int .i64 cc,.int .i64 (-1)] 33)).cell? ⟨w1.heap.size,0,none⟩=some (.int .i64 cc):=by simp
 have k1:(w1.alloc (.cells #[.int .i64 cc,.int .i64 (-1)] 33)).cell? ⟨w1.heap.size,1,none⟩=some (.int .i64 (-1)):=by simp
 clear HW HE HEV hb1 hb
 go_wp2_with fail
 generalize w1.alloc (.cells #[.int .i64 cc,.int .i64 (-1)] 33)=W2 at *
 generalize w1.heap.size=fb at *
 go_loopw [17] (fun t W=>W=W2∧t=.int .i64 0) (fun _ _=>0)
 case atStart=>exact⟨rfl,rfl⟩
 case round =>
  obtain⟨rfl,rfl⟩:=hrel
  by_cases h0:0<N
  ·go_wp2_with fail
   refine HF.out.mono ?_
   rintro e w2 ⟨rfl,hb3⟩
   clear HF
   go_wp2
   go_ret
   exact⟨_,rfl,rfl,hb3⟩
  ·obtain rfl:N=0:=by omega
   go_wp2_with fail
   refine HF.out.mono ?_
   rintro e w2 ⟨rfl,hb3⟩
   clear HF
   go_wp2
   go_ret
   exact⟨_,rfl,rfl,hb3⟩
set_option maxRecDepth 100000 in
set_option maxHeartbeats 8000000 in
theorem rest3z (pa p po:Option Addr)(la ca c co:Nat)(n wk:Int)(own:Value)(g:Nat→Value)(xa:Value)(w:World)(hc:chkN ((0:Nat):Int) 100 wk=0) :
  wpOps Tryz.prog opsD3 (Exit.then (Po.wpC Tryz.prog (bodyPost Tryz.prog Tryz.f3 (Says w)) [restE3]) (bodyPost Tryz.prog Tryz.f3 (Says w))) [6,7,8,9,10] ⟨tM4 pa p la ca 0 c n wk own g xa (.tuple #[.slice po 0 co,.nilIface]),[]⟩ w:=by
 have HW:Hid (Calls Tryz.prog 9 #[.int .i64 wk,.int .i64 0,.int .i64 100] w fun e w'=>e=.returned (.agg #[.int .i64 0,.int .i64 (-1)])∧Below w.heap.size w w'):=by
  have:=workersFault_any wk ((0:Nat):Int) 100 w
  rw[hc] at this
  exact this
 clear hc
 refine listD3 ?_
 simp only[opsD3,restD3,restA3,restE3,tM4,Tryz.f3,Option.getD_some,List.drop,Po.wpC]
 go_wp2_with fail
 refine HW.out.mono ?_
 rintro e w1 ⟨rfl,hb1⟩
 have hb:=below_then hb1 ((Below.refl _ _).alloc (Nat.le_refl _) (.cells #[.int .i64 0,.int .i64 (-1)] 33))
 have HS:Hid (Calls Tryz.prog 13 #[.slice po 0 co,.slice none 0 0] (w1.alloc (.cells #[.int .i64 0,.int .i64 (-1)] 33)) fun e w'=>e=.returned (.bool true)∧Below w.heap.size w w'):=(sameInts_any _ _ [] [] _ (.inl ⟨rfl,_,_,rfl⟩) (.inl ⟨rfl,_,_,rfl⟩) (by simp) (by simp)).mono fun e w' ⟨h1,h2⟩=>⟨by rw[h1];simp,below_then hb h2⟩
 have k0:(w1.alloc (.cells #[.int .i64 0,.int .i64 (-1)] 33)).cell? ⟨w1.heap.size,0,none⟩=some (.int .i64 0):=by simp
 clear HW hb1 hb
 go_wp2_with fail
 generalize w1.alloc (.cells #[.int .i64 0,.int .i64 (-1)] 33)=W2 at *
 generalize w1.heap.size=fb at *
 go_loopw [16,17] (fun v t W=>W=W2∧v=.slice none 0 0∧t=.int .i64 0) (fun _ _ _=>0)
 case atStart=>exact⟨rfl,rfl,rfl⟩
 case round =>
  obtain⟨rfl,rfl,rfl⟩:=hrel
  go_wp2_with fail
  refine HS.out.mono ?_
  rintro e w2 ⟨rfl,hb3⟩
  clear HS
  go_wp2
  go_ret
  exact⟨_,rfl,rfl,hb3⟩
end Go.Proofs.YtjeicikflkjacaaGreatDoor.Sh

/- SideMoves: behind side.Moves' return: all lists are right. -/
set_option linter.unusedSimpArgs false
set_option linter.unusedVariables false
namespace Go.Proofs.YtjeicikflkjacaaGreatDoor.Sh
open Go Go.Conc Go.Conc.Lib Go.RowKit Go.ConcN
open Ms Po
open Par (Fm Gr on stopper LocIn)
set_option maxRecDepth 100000 in
set_option maxHeartbeats 32000000 in
theorem rest3g (pa:Option Addr)(la ca b o N c:Nat)(n wk:Int)(own:Value)(g:Nat→Value)(xa:Value)(po:Option Addr)(co:Nat)(Q:Nat→Option Addr)(L C:Nat→Nat)(K:Nat→Int)(PA:Int)(PL:Nat→Int)(xs:List ByteArray)(ys:Nat→List ByteArray)(w:World)(hc:chkN (N:Nat) 100 wk=0)(hC:∀i,i<N→w.cell? ⟨b,o+i,none⟩=some (.slice (Q i) (L i) (C i)))(hN6:N<1000000)(hTA:∀W:World,Below w.heap.size w W→Calls Tryz.prog 10 #[.slice pa la ca,.int .i64 n] W fun e w'=>e=.returned (.agg #[.int .i64 0,.int .i64 PA])∧Below W.heap.size W w')(hTL:∀i,i<N→∀W:World,Below w.heap.size w W→Calls Tryz.prog 10 #[.slice (Q i) (L i) (C i),.int .i64 n] W fun e w'=>e=.returned (.agg #[.int .i64 0,.int .i64 (PL i)])∧Below W.heap.size W w')(hOA:∀W:World,Below w.heap.size w W→Calls Tryz.prog 7 #[.slice pa la ca] W fun e w'=>∃v',e=.returned v'∧(∀w2,Below w'.heap.size w' w2→Strs1 w2 v' xs)∧Below W.heap.size W w')(hOL:∀i,i<N→∀W:World,Below w.heap.size w W→Calls Tryz.prog 7 #[.slice (Q i) (L i) (C i)] W fun e w'=>∃v',e=.returned v'∧Strs1 w' v' (ys i)∧Below W.heap.size W w')(hMV:∀i,i<N→∀W:World,Below w.heap.size w W→∀va vb,Strs1 W va xs→Strs1 W vb (ys i)→Calls Tryz.prog 11 #[va,vb,.int .i64 n] W fun e w'=>e=.returned (.tuple #[.int .i64 (K i),.nilIface])∧Below W.heap.size W w')(hI:Ints w (.slice po N co) ((List.range N).map K)) :
  wpOps Tryz.prog opsD3 (Exit.then (Po.wpC Tryz.prog (bodyPost Tryz.prog Tryz.f3 (Says w)) [restE3]) (bodyPost Tryz.prog Tryz.f3 (Says w))) [6,7,8,9,10] ⟨tM4 pa (some ⟨b,o,none⟩) la ca N c n wk own g xa (.tuple #[.slice po N co,.nilIface]),[]⟩ w:=by
 have HW:Hid (Calls Tryz.prog 9 #[.int .i64 wk,.int .i64 (N:Nat),.int .i64 100] w fun e w'=>e=.returned (.agg #[.int .i64 0,.int .i64 (-1)])∧Below w.heap.size w w'):=by
  have:=workersFault_any wk (N:Nat) 100 w
  rw[hc] at this
  exact this
 have HC:Hid (∀i,i<N→w.cell? ⟨b,o+i,none⟩=some (.slice (Q i) (L i) (C i))):=hC
 have HTA:Hid (∀W:World,Below w.heap.size w W→Calls Tryz.prog 10 #[.slice pa la ca,.int .i64 n] W fun e w'=>e=.returned (.agg #[.int .i64 0,.int .i64 PA])∧Below W.heap.size W w'):=hTA
 have HTL:Hid (∀i,i<N→∀W:World,Below w.heap.size w W→Calls Tryz.prog 10 #[.slice (Q i) (L i) (C i),.int .i64 n] W fun e w'=>e=.returned (.agg #[.int .i64 0,.int .i64 (PL i)])∧Below W.heap.size W w'):=hTL
 have HOA:Hid (∀W:World,Below w.heap.size w W→Calls Tryz.prog 7 #[.slice pa la ca] W fun e w'=>∃v',e=.returned v'∧(∀w2,Below w'.heap.size w' w2→Strs1 w2 v' xs)∧Below W.heap.size W w'):=hOA
 have HOL:Hid (∀i,i<N→∀W:World,Below w.heap.size w W→Calls Tryz.prog 7 #[.slice (Q i) (L i) (C i)] W fun e w'=>∃v',e=.returned v'∧Strs1 w' v' (ys i)∧Below W.heap.size W w'):=hOL
 have HMV:Hid (∀i,i<N→∀W:World,Below w.heap.size w W→∀va vb,Strs1 W va xs→Strs1 W vb (ys i)→Calls Tryz.prog 11 #[va,vb,.int .i64 n] W fun e w'=>e=.returned (.tuple #[.int .i64 (K i),.nilIface])∧Below W.heap.size W w'):=hMV
 have HI:Hid (Ints w (.slice po N co) ((List.range N).map K)):=hI
 obtain⟨ii,hi,hz0,hz1,hz2⟩:=info_parts infoI
 clear hc hC hTA hTL hOA hOL hMV hI
 refine listD3 ?_
 simp only[opsD3,restD3,restA3,restE3,tM4,Tryz.f3,Option.getD_some,List.drop,Po.wpC]
 go_wp2_with fail
 refine HW.out.mono ?_
 rintro e w1 ⟨rfl,hb1⟩
 have hb0:Below w.heap.size w (w1.alloc (.cells #[.int .i64 0,.int .i64 (-1)] 33)):=below_then hb1 ((Below.refl _ _).alloc (Nat.le_refl _) _)
 have hF0:FB (w1.alloc (.cells #[.int .i64 0,.int .i64 (-1)] 33)) w1.heap.size 0 (-1):=FB.made _ _ _
 have hfb:w.heap.size≤w1.heap.size:=hb1.size
 clear HW hb1
 go_wp2_with fail
 generalize (w1.alloc (.cells #[.int .i64 0,.int .i64 (-1)] 33))=W2 at *
 generalize w1.heap.size=fb at *
 clear w1
 go_loopw [16,17] (fun v t W=>Below w.heap.size w W∧∃i:Nat,i≤N∧t=.int .i64 i∧FB W fb 0 (-1)∧W.ownsRow (fb+1) 3 1 v i (((List.range i).map K).map (Value.int .i64))) (fun _ t _=>N - (intOf t).toNat)
 case atStart=>exact⟨hb0,0,Nat.zero_le _,rfl,hF0,World.ownsRow_nil _ _ _ _⟩
 case round =>
  obtain⟨hb,i,hile,rfl,hF,hown⟩:=hrel
  have HF:Hid (FB wr fb 0 (-1)):=hF
  have HO:Hid (wr.ownsRow (fb+1) 3 1 u16 i (((List.range i).map K).map (Value.int .i64))):=hown
  have f0:=hF.c0
  clear hF hown
  by_cases hlt:i<N
  ·have hlN:i<N:=hlt
   have hii:(i:Int)<(N:Int):=by omega
   have hd:decide ((i:Int)<(N:Int))=true:=by simp;omega
   have hcl:=below_cell hb (HC.out i hlN)
   have CA:Hid (Calls Tryz.prog 10 #[.slice pa la ca,.int .i64 n] wr fun e w'=>e=.returned (.agg #[.int .i64 0,.int .i64 PA])∧Below wr.heap.size wr w'):=HTA.out wr hb
   have CT:Hid (∀W:World,Below wr.heap.size wr W→Calls Tryz.prog 10 #[.slice (Q i) (L i) (C i),.int .i64 n] W fun e w'=>e=.returned (.agg #[.int .i64 0,.int .i64 (PL i)])∧Below W.heap.size W w'):=fun W h=>HTL.out i hlt W (below_then hb h)
   have CO2:Hid (∀W:World,Below w.heap.size w W→Calls Tryz.prog 7 #[.slice (Q i) (L i) (C i)] W fun e w'=>∃v',e=.returned v'∧Strs1 w' v' (ys i)∧Below W.heap.size W w'):=HOL.out i hlN
   have CM:Hid (∀W:World,Below w.heap.size w W→∀va vb,Strs1 W va xs→Strs1 W vb (ys i)→Calls Tryz.prog 11 #[va,vb,.int .i64 n] W fun e w'=>e=.returned (.tuple #[.int .i64 (K i),.nilIface])∧Below W.heap.size W w'):=HMV.out i hlt
   obtain⟨ki,hki⟩:∃ki,ki=K i:=⟨_,rfl⟩
   have HKI:Hid (K i=ki):=hki.symm
   rw[←hki] at CM
   clear hki
   generalize Q i=q at *
   generalize L i=l at *
   generalize C i=cq at *
   generalize PL i=pli at *
   generalize ys i=yi at *
   go_wp2_with fail
   refine CA.out.mono ?_
   rintro e w1 ⟨rfl,hb1⟩
   obtain⟨Wa,hWa⟩:∃Wa,Wa=(w1.alloc (.cells #[.int .i64 0,.int .i64 PA] 33)):=⟨_,rfl⟩
   have hbA:Below wr.heap.size wr Wa:=by rw[hWa];exact below_then hb1 ((Below.refl _ _).alloc (Nat.le_refl _) _)
   have gA:FB Wa w1.heap.size 0 PA:=by rw[hWa];exact FB.made _ _ _
   have k0:(w1.alloc (.cells #[.int .i64 0,.int .i64 PA] 33)).cell? ⟨w1.heap.size,0,none⟩=some (.int .i64 0):=by simp
   have hclA:(w1.alloc (.cells #[.int .i64 0,.int .i64 PA] 33)).cell? ⟨b,o+i,none⟩=some (.slice q l cq):=by rw[←hWa];exact below_cell hbA hcl
   have CTA:Hid (Calls Tryz.prog 10 #[.slice q l cq,.int .i64 n] (w1.alloc (.cells #[.int .i64 0,.int .i64 PA] 33)) fun e w'=>e=.returned (.agg #[.int .i64 0,.int .i64 pli])∧Below (w1.alloc (.cells #[.int .i64 0,.int .i64 PA] 33)).heap.size (w1.alloc (.cells #[.int .i64 0,.int .i64 PA] 33)) w'):=by rw[←hWa];exact CT.out Wa hbA
   have hgb:wr.heap.size≤w1.heap.size:=hb1.size
   have HWA:Hid (Wa=(w1.alloc (.cells #[.int .i64 0,.int .i64 PA] 33))):=hWa
   have HBA:Hid (Below wr.heap.size wr Wa):=hbA
   have GA:Hid (FB Wa w1.heap.size 0 PA):=gA
   clear CA CT hb1 hWa hbA gA
   go_wp2_with fail
   refine CTA.out.mono ?_
   rintro e w2 ⟨rfl,hb2⟩
   rw[←HWA.out] at hb2
   have g2:FB w2 w1.heap.size 0 PA:=GA.out.later hb2
   have hbw2:Below wr.heap.size wr w2:=below_then HBA.out hb2
   have c0:=g2.c0
   have c1:=g2.c1
   have z0:=g2.frozen 0
   have z1:=g2.frozen 1
   clear CTA HWA HBA GA hb2 k0 hclA
   generalize w1.heap.size=gb at *
   clear Wa
   have hne:gb≠fb:=by have:=HF.out.lt;omega
   have hb3:Below wr.heap.size wr ((w2.setCell ⟨gb,0,none⟩ (.int .i64 0)).setCell ⟨gb,1,none⟩ (.int .i64 pli)):=(hbw2.setCell hgb _).setCell hgb _
   have g3:FB ((w2.setCell ⟨gb,0,none⟩ (.int .i64 0)).setCell ⟨gb,1,none⟩ (.int .i64 pli)) gb 0 pli:=g2.set 0 pli
   have F3:Hid (FB ((w2.setCell ⟨gb,0,none⟩ (.int .i64 0)).setCell ⟨gb,1,none⟩ (.int .i64 pli)) fb 0 (-1)):=(HF.out.later hbw2).far hne 0 1 _ _
   have O3:Hid (((w2.setCell ⟨gb,0,none⟩ (.int .i64 0)).setCell ⟨gb,1,none⟩ (.int .i64 pli)).ownsRow (fb+1) 3 1 u16 i (((List.range i).map K).map (Value.int .i64))):=ownsRow_below HO.out hb3
   have h3c:=g3.c0
   have h3l:((w2.setCell ⟨gb,0,none⟩ (.int .i64 0)).setCell ⟨gb,1,none⟩ (.int .i64 pli)).cell? ⟨b,o+i,none⟩=some (.slice q l cq):=below_cell hb3 hcl
   have HB3:Hid (Below wr.heap.size wr ((w2.setCell ⟨gb,0,none⟩ (.int .i64 0)).setCell ⟨gb,1,none⟩ (.int .i64 pli))):=hb3
   clear g2 hbw2 g3 hb3
   go_wp2_with fail
   clear c0 c1 z0 z1
   generalize ((w2.setCell ⟨gb,0,none⟩ (.int .i64 0)).setCell ⟨gb,1,none⟩ (.int .i64 pli))=W3 at *
   clear w2
   have hbW:Below w.heap.size w W3:=below_then hb HB3.out
   have HK:Hid (∀W',Below W3.heap.size W3 W'→Below W3.heap.size W3 W'∧W'.cell? ⟨b,o+i,none⟩=some (.slice q l cq)):=fun W' h=>⟨h,below_cell h h3l⟩
   have HO1:Hid (∀W':World,Below W3.heap.size W3 W'→Calls Tryz.prog 7 #[.slice pa la ca] W' fun e w'=>∃v',e=.returned v'∧(∀w2,Below w'.heap.size w' w2→Strs1 w2 v' xs)∧Below W3.heap.size W3 w'):=fun W' h=>(HOA.out W' (below_then hbW h)).mono fun e w' ⟨v',r1,r2,r3⟩=>⟨v',r1,r2,below_then h r3⟩
   have HO2:Hid (∀W':World,Below W3.heap.size W3 W'→Calls Tryz.prog 7 #[.slice q l cq] W' fun e w'=>∃v',e=.returned v'∧Strs1 w' v' yi∧Below W'.heap.size W' w'∧Below W3.heap.size W3 w'):=fun W' h=>(CO2.out W' (below_then hbW h)).mono fun e w' ⟨v',r1,r2,r3⟩=>⟨v',r1,r2,r3,below_then h r3⟩
   have HM:Hid (∀W':World,Below W3.heap.size W3 W'→∀va vb,Strs1 W' va xs→Strs1 W' vb yi→Calls Tryz.prog 11 #[va,vb,.int .i64 n] W' fun e w'=>e=.returned (.tuple #[.int .i64 ki,.nilIface])∧Below W3.heap.size W3 w'):=fun W' h va vb r1 r2=>(CM.out W' (below_then hbW h) va vb r1 r2).mono fun e w' ⟨q1,q2⟩=>⟨q1,below_then h q2⟩
   have hbd:Below W3.heap.size W3 W3.drew:=below_drewN (Below.refl _ _) 1
   have HBW:Hid (Below w.heap.size w W3):=hbW
   clear CO2 CM hbW h3c
   go_region_held3 (fun W'=>Below W3.heap.size W3 W'∧W'.cell? ⟨b,o+i,none⟩=some (.slice q l cq))
    (first|exact HK.out _ (by assumption))
    (first
     | (go_at_call 7;refine (HO1.out _ (by assumption)).mono ?_;rintro e w4 ⟨v4,rfl,hv4,hb4⟩)
     | (go_at_call 7;refine (HO2.out _ (by assumption)).mono ?_;rintro e w5 ⟨v5,rfl,hv5,hb5,hb5'⟩)
     | (go_at_call 11;refine (HM.out _ (by assumption) _ _ (hv4 _ (by assumption)) (by assumption)).mono ?_;rintro e w6 ⟨rfl,hb6⟩))
   have O6:Hid (w6.ownsRow (fb+1) 3 1 u16 i (((List.range i).map K).map (Value.int .i64))):=ownsRow_below O3.out hb6
   have F6:Hid (FB w6 fb 0 (-1)):=F3.out.later hb6
   have HB6:Hid (Below w.heap.size w w6):=below_then HBW.out hb6
   clear hb4 hb5 hb5' hb6 hv4 hv5 HO1 HO2 HM HK O3 F3 HB3 hbd h3l
   have hnew:=cell_one_new w6 (.int .i64 ki) 3
   have hmx:i+1≤maxLen:=by unfold maxLen;omega
   have hbs:fb+1≤(w6.alloc (.cells #[.int .i64 ki] 3)).heap.size:=by
    have h1:(w6.alloc (.cells #[.int .i64 ki] 3)).heap.size=w6.heap.size+1:=by simp
    have:=F6.out.lt
    omega
   have ho6:(w6.alloc (.cells #[.int .i64 ki] 3)).ownsRow (fb+1) 3 1 u16 i (((List.range i).map K).map (Value.int .i64)):=O6.out.alloc _
   go_wp2_with (at_builtin;refine wpList_append_own _ rfl _ _ 27 rfl (fb+1) 3 ii _ 1 8 Tryz.underlying27 hi hz0 hz1 hz2 rfl (by decide) _ i _ rfl ho6 ⟨w6.heap.size,0,none⟩ 1 1 [.int .i64 ki] rfl rfl hnew (ints_oneCell1 _) hmx (by omega) hbs ?_)
   intro v2 w7 hown7 hg7 _
   have F7:Hid (FB w7 fb 0 (-1)):=by
    have fa:FB (w6.alloc (.cells #[.int .i64 ki] 3)) fb 0 (-1):=F6.out.later ((Below.refl _ _).alloc (Nat.le_refl _) _)
    exact fa.same (hg7.block fb fa.lt fun e=>by have:=(O6.out.lt fb e.symm).1;omega)
   have HB7:Hid (Below w.heap.size w w7):=((HB6.out.alloc HB6.out.size _).grown hg7 (by have:=hbs;omega) fun k h=>by have:=(O6.out.lt k h).1;omega)
   have O7:Hid (w7.ownsRow (fb+1) 3 1 v2 (i+1) (((List.range (i+1)).map K).map (Value.int .i64))):=by
    have h1:=hown7
    have e:((List.range (i+1)).map K).map (Value.int .i64)=((List.range i).map K).map (Value.int .i64)++[.int .i64 (K i)]:=by
     rw[List.range_succ,List.map_append,List.map_append]
     rfl
    rw[e,HKI.out,List.map_map]
    exact h1
   clear hown7 hg7 hnew hbs ho6 O6 F6 HB6 hmx
   go_wp2_with fail
   exact⟨⟨HB7.out,i+1,by omega,by go_num,F7.out,O7.out⟩,by simp[intOf];omega⟩
  ·obtain rfl:i=N:=by omega
   have hd:decide ((i:Int)<(i:Int))=false:=by simp
   have HS:Hid (Calls Tryz.prog 13 #[.slice po i co,u16] wr fun e w'=>e=.returned (.bool true)∧Below w.heap.size w w'):=(sameInts_any _ _ ((List.range i).map K) ((List.range i).map K) wr (HI.out.later hb) (ints_of_owns HO.out) (by simp;omega) (by simp;omega)).mono fun e w' ⟨h1,h2⟩=>⟨by rw[h1];simp,below_then hb h2⟩
   go_wp2_with fail
   refine HS.out.mono ?_
   rintro e w2 ⟨rfl,hb3⟩
   clear HS
   go_wp2
   go_ret
   exact⟨_,rfl,rfl,hb3⟩
end Go.Proofs.YtjeicikflkjacaaGreatDoor.Sh
