/- The model's balance: NewBalance. -/
import Derived.Test.YtfhmfjcpggddkaaGreatDoorM35
import Derived.Test.YtfhmfjcpggddkaaGreatDoorM5
import Derived.Test.YtfhmfjcpggddkaaGreatDoorM4
import Derived.Test.YtfhmfjcpggddkaaGreatDoorM25
import Derived.Test.YtfhmfjcpggddkaaGreatDoorM12
import Derived.Test.YtfhmfjcpggddkaaGreatDoorM19
import Derived.Test.YtfhmfjcpggddkaaGreatDoorM2
import Derived.Test.YtfhmfjcpggddkaaGreatDoorM16
set_option maxHeartbeats 20000000
set_option maxRecDepth 100000
namespace Go.Proofs.YtfhmfjcpggddkaaGreatDoor
open Go.RowKit
theorem mnew (p:Option Addr)(cap:Nat)(xs:List ByteArray)(n t f r:Nat)(W:World)(hx:∀k (h:k<xs.length),∃b o,p=some ⟨b,o,none⟩∧W.cell? ⟨b,o+k,none⟩=some (.string xs[k]))(hl:xs.length≤12)(hf:f≤10)(hr:r≤10) :
  Calls Tryz.prog 21 #[.slice p xs.length cap,.int .i64 (n:Nat),.int .i64 (t:Nat),.int .i64 (f:Nat),.int .i64 (r:Nat)] W fun e w'=>∃m hm fm lv,e=.returned (.pointer (some ⟨m,0,none⟩))∧MB w' m hm fm (newM xs) lv (.slice none 0 0) (.slice none 0 0) 0 ⟨f,r,n,t,Lh.hnew xs,[],0,0,[]⟩∧(∀b,MBt m hm fm (newM xs) lv (.slice none 0 0) (.slice none 0 0) b→W.heap.size≤b)∧Below W.heap.size W w':=by
 have hnh:=newHealth_any p cap xs f r W hx hl hf hr
 clear hx
 go_enter Tryz.func21,Tryz.ntmps21
 go_wp2_with fail
 refine hnh.mono ?_
 rintro e w1 ⟨hm,lv,rfl,hM,hms,hb1⟩
 have HM:Hid (MH w1 hm f r (newM xs) lv):=hM
 clear hnh hM
 go_wp2
 go_ret
 have s1:=hb1.size
 have hHl:=HM.out.lt
 have hbA:∀o:Obj,Below w1.heap.size w1 (w1.alloc o):=fun o=>(Below.refl _ _).alloc (Nat.le_refl _) o
 refine⟨w1.heap.size+1,hm,w1.heap.size,lv,rfl,⟨by simp,by simp,by simp,by simp,by simp,fun k=>by simp,?_,newM_hst xs,?_,⟨by simp,by simp,by simp,fun k=>by simp,?_⟩,?_,List.nodup_nil,(fun s hs=>absurd hs (by simp)),(fun hq=>?_),?_,(by simp[Value.ownBlock]),?_,(fun b e=>by simp[Value.ownBlock] at e),fun b e=>by simp[Value.ownBlock] at e⟩,?_,?_⟩
 ·exact (HM.out.later (hbA _)).later ((Below.refl _ _).alloc (Nat.le_refl _) _)
 ·intro x hx
  obtain⟨s,_,rfl⟩:=List.mem_map.1 hx
  simp
 ·exact World.ownsRow_nil _ _ _ _
 ·exact World.ownsRow_nil _ _ _ _
 ·have:=(hHl _ hq).1
  omega
 ·rintro (e|e)
  ·omega
  ·simp[Value.ownBlock] at e
 ·rintro b hq (rfl|e)
  ·have:=(hHl _ hq).1
   omega
  ·simp[Value.ownBlock] at e
 ·rintro b (rfl|hq|(rfl|e)|e)
  ·omega
  ·have:=(hHl b hq).2
   omega
  ·omega
  ·simp[Value.ownBlock] at e
  ·simp[Value.ownBlock] at e
 ·exact (hb1.alloc hb1.size _).alloc (by simp;omega) _
theorem idx_none (p:Option Addr)(c:Nat)(s:ByteArray)(w:World) :
  Calls Tryz.prog 73 #[.slice p 0 c,.string s] w fun e w'=>e=.returned (.int .i64 (-1))∧w'=w:=by
 go_enter Tryz.func73,Tryz.ntmps73
 go_wp2_with fail
 go_loop [5] (fun t=>t=.int .i64 0) (fun _=>0)
 case atStart=>rfl
 case round =>
  subst hrel
  go_wp2
  go_ret
  exact⟨rfl,rfl⟩
theorem idx_some (b o c:Nat)(xs:List ByteArray)(s:ByteArray)(w:World)(hx:∀k (h:k<xs.length),w.cell? ⟨b,o+k,none⟩=some (.string xs[k]))(hm:xs.length<1000000) :
  Calls Tryz.prog 73 #[.slice (some ⟨b,o,none⟩) xs.length c,.string s] w fun e w'=>(∃j:Int,e=.returned (.int .i64 j)∧decide (j<0)=!decide (s∈xs))∧w'=w:=by
 have HX:Hid (∀k (h:k<xs.length),w.cell? ⟨b,o+k,none⟩=some (.string xs[k])):=hx
 clear hx
 go_enter Tryz.func73,Tryz.ntmps73
 go_wp2_with fail
 go_loop [5] (fun t=>∃k:Nat,k≤xs.length∧t=.int .i64 (k:Nat)∧∀j (h:j<xs.length),j<k→xs[j]≠s) (fun t=>xs.length+1 - (intOf t).toNat)
 case atStart=>exact⟨0,Nat.zero_le _,rfl,fun j _ h=>absurd h (by omega)⟩
 case round =>
  obtain⟨k,hk,rfl,hp⟩:=hrel
  have HP:Hid (∀j (h:j<xs.length),j<k→xs[j]≠s):=hp
  clear hp
  by_cases hlt:k<xs.length
  ·have cx:=HX.out k hlt
   have hki:(k:Int)<(xs.length:Int):=by omega
   by_cases he:xs[k]'hlt=s
   ·have hq:=bytes_same he
    have HE:Hid (xs[k]'hlt=s):=he
    clear he
    generalize hz:xs[k]'hlt=z at *
    go_wp2
    go_ret
    refine⟨⟨k,rfl,?_⟩,rfl⟩
    have hm2:s∈xs:=by rw[←HE.out,←hz];exact List.getElem_mem hlt
    rw[decide_eq_true hm2]
    simp
   ·have hq:=bytes_parts he
    have HN:Hid (∀j (h:j<xs.length),j<k+1→xs[j]≠s):=fun j hj hjk=>by
     by_cases e:j=k
     ·subst e;exact he
     ·exact HP.out j hj (by omega)
    clear he
    generalize xs[k]'hlt=z at *
    go_wp2
    go_round
    case rel=>exact⟨k+1,by omega,by go_num,HN.out⟩
    case measure=>simp[intOf];omega
  ·have hki:decide ((k:Int)<(xs.length:Int))=false:=by simp;omega
   have HN:Hid (s∉xs):=fun hm=>by
    obtain⟨j,hj,e⟩:=List.getElem_of_mem hm
    exact HP.out j hj (by omega) e
   go_wp2
   go_ret
   refine⟨⟨-1,rfl,?_⟩,rfl⟩
   rw[decide_eq_false HN.out]
   rfl
theorem Strs1.shape1 {w:World}{v:Value}{xs:List ByteArray}(h:Strs1 w v xs):∃p c,v=.slice p xs.length c:=by
 rcases h with⟨rfl,rfl|⟨ad,c,rfl⟩⟩|⟨b,o,c,rfl,_⟩
 ·exact⟨_,_,rfl⟩
 ·exact⟨_,_,rfl⟩
 ·exact⟨_,_,rfl⟩
theorem Strs1.cell1 {w:World}{p:Option Addr}{c:Nat}{xs:List ByteArray}(h:Strs1 w (.slice p xs.length c) xs){i:Nat}(hi:i<xs.length):∃g o,p=some ⟨g,o,none⟩∧w.cell? ⟨g,o+i,none⟩=some (.string xs[i]):=by
 rcases h with⟨rfl,_⟩|⟨b,o,c',e,_,hc⟩
 ·simp at hi
 ·cases e
  exact⟨b,o,rfl,hc i hi⟩
theorem idx_any (v:Value)(xs:List ByteArray)(s:ByteArray)(w:World)(hv:Strs1 w v xs)(hm:xs.length<1000000) :
  Calls Tryz.prog 73 #[v,.string s] w fun e w'=>(∃j:Int,e=.returned (.int .i64 j)∧decide (j<0)=!decide (s∈xs))∧w'=w:=by
 rcases hv with⟨rfl,rfl|⟨ad,c,rfl⟩⟩|⟨b,o,c,rfl,_,hc⟩
 ·exact (idx_none _ _ s w).mono fun e w' ⟨h1,h2⟩=>⟨⟨-1,h1,by simp⟩,h2⟩
 ·exact (idx_none _ _ s w).mono fun e w' ⟨h1,h2⟩=>⟨⟨-1,h1,by simp⟩,h2⟩
 ·exact idx_some b o c xs s w hc hm
section
variable {W W':World} {m hm fm:Nat} {L:List Mh} {lv fv dv:Value} {B:Nat} {S:Lh.Bl}
def LPost (m hm fm:Nat)(L:List Mh)(lv fv dv:Value)(B:Nat)(W:World)(S':Lh.Bl)(w':World):Prop:=∃L' lv' fv',MB w' m hm fm L' lv' fv' dv B S'∧Tur (MBt m hm fm L lv fv dv) W w'∧∀b,MBt m hm fm L' lv' fv' dv b→MBt m hm fm L lv fv dv b∨W.heap.size≤b
theorem mlook_any (h:MB W m hm fm L lv fv dv B S)(hk:Lh.BOk S)(hB:B≤99999)(s:ByteArray)(well:Bool) :
  Calls Tryz.prog 25 #[.pointer (some ⟨m,0,none⟩),.string s,.bool well] W fun e w'=>∃S' t c,e=.returned (.tuple #[.bool t,.int .i64 ((c:Nat):Int)])∧LookR S s well S' t c∧LPost m hm fm L lv fv dv (B+1) W S' w':=by
 have hok:Lh.HOk S.f S.r (hst L):=by rw[h.hs];exact hk.h
 have hlk:=lookM_any h.h hok s well B (by omega) h.lk
 have c0:=h.c0
 have HH:Hid (MB W m hm fm L lv fv dv B S):=h
 have HK:Hid (Lh.BOk S):=hk
 clear h hk hok
 go_enter Tryz.func25,Tryz.ntmps25
 go_wp2_with fail
 refine hlk.mono ?_
 rintro e w1 ⟨L',lv',hM,hT,hN,hlk',hcase⟩
 rcases hcase with⟨hx0,rfl,hset0⟩|⟨hx0,rfl,hset0⟩
 ·have hx:Lh.hix S.hs s<S.hs.length:=by rw[←HH.out.hs];exact hx0
  have hset:hst L'=S.hs.set (Lh.hix S.hs s) (Lh.hlook S.f S.r (S.hs[Lh.hix S.hs s]'hx) well).1:=by rw[hset0];simp only[HH.out.hs]
  have htu:(Lh.hlook S.f S.r ((hst L)[Lh.hix (hst L) s]'hx0) well).2=(Lh.hlook S.f S.r (S.hs[Lh.hix S.hs s]'hx) well).2:=by simp only[HH.out.hs]
  rw[htu]
  have hy:(Lh.hlook S.f S.r (S.hs[Lh.hix S.hs s]'hx) well).1.1=s:=by rw[Lh.hlook_name,Lh.hix_get hx]
  have hdr:∀z∈S.dr,Lh.hix (hst L') z<(hst L').length:=fun z hz=>by
   rw[hset,hix_set hx hy,List.length_set]
   exact HH.out.dh z hz
  have HLR:Hid (LookR S s well (Lh.blook S s well (S.hs[Lh.hix S.hs s]'hx)) (Lh.hlook S.f S.r (S.hs[Lh.hix S.hs s]'hx) well).2 0):=Or.inl ⟨hx,rfl,rfl,rfl⟩
  have hup:Lh.hup (hst L') s=(Lh.hlook S.f S.r (S.hs[Lh.hix S.hs s]'hx) well).1.2.1:=by rw[hset];exact hup_set HK.out.h.nodup hx hy
  have hok':Lh.HOk S.f S.r (hst L'):=by rw[hset];exact HK.out.h.look hx well
  obtain⟨q1,q2,q3⟩:=HH.out.health hT hM rfl hlk' hdr hN
  have HB1:Hid (MB w1 m hm fm L' lv' fv dv (B+1) { S with hs:=hst L' }):=q1
  have HT1:Hid (Tur (MBt m hm fm L lv fv dv) W w1):=q2
  have HN1:Hid (∀b,MBt m hm fm L' lv' fv dv b→MBt m hm fm L lv fv dv b∨W.heap.size≤b):=q3
  have HSET:Hid (hst L'=S.hs.set (Lh.hix S.hs s) (Lh.hlook S.f S.r (S.hs[Lh.hix S.hs s]'hx) well).1):=hset
  have c0':=q1.c0
  have his:=isUp_any q1.h hok' s
  rw[hup] at his
  have HBL:Hid (Lh.blook S s well (S.hs[Lh.hix S.hs s]'hx)={ S with hs:=hst L',L:=if (Lh.hlook S.f S.r (S.hs[Lh.hix S.hs s]'hx) well).2=true∧(Lh.hlook S.f S.r (S.hs[Lh.hix S.hs s]'hx) well).1.2.1=false then Lh.fdrop S.L s else S.L }):=by
   show _=_
   unfold Lh.blook
   rw[hset]
  clear hlk c0 hM hT hN hlk' hset0 hset htu hy hdr hup hok' q1 q2 q3
  generalize Lh.blook S s well (S.hs[Lh.hix S.hs s]'hx)=S' at *
  obtain⟨⟨⟨y1,y2,y3⟩,t⟩,hyt⟩:∃yt,Lh.hlook S.f S.r (S.hs[Lh.hix S.hs s]'hx) well=yt:=⟨_,rfl⟩
  rw[hyt] at HLR HBL his ⊢
  simp only at HLR HBL his ⊢
  clear hyt HSET
  go_wp2_with fail
  refine his.mono ?_
  rintro e w2 ⟨rfl,rfl⟩
  clear his c0'
  cases t with
  | false =>
   have HP:Hid (LPost m hm fm L lv fv dv (B+1) W S' w2):=by
    refine⟨L',lv',fv,?_,HT1.out,HN1.out⟩
    rw[HBL.out,if_neg (by simp)]
    exact HB1.out
   clear HB1 HT1 HN1 HBL
   go_wp2
   go_ret2
   exact⟨S',false,0,rfl,HLR.out,HP.out⟩
  | true =>
   cases y2 with
   | true =>
    have HP:Hid (LPost m hm fm L lv fv dv (B+1) W S' w2):=by
     refine⟨L',lv',fv,?_,HT1.out,HN1.out⟩
     rw[HBL.out,if_neg (by simp)]
     exact HB1.out
    clear HB1 HT1 HN1 HBL
    go_wp2
    go_ret2
    exact⟨S',true,0,rfl,HLR.out,HP.out⟩
   | false =>
    have c1':=HB1.out.c1
    have hdp:=fdropM_any HB1.out.f HK.out.ok.len s
    go_wp2_with fail
    refine hdp.mono ?_
    rintro e w3 ⟨rfl,fv',hF3,hT3,hN3⟩
    obtain⟨q1,q2,q3⟩:=HB1.out.flows hT3 hF3 hN3
    have HP:Hid (LPost m hm fm L lv fv dv (B+1) W S' w3):=by
     refine⟨L',lv',fv',?_,HT1.out.trans q2 HN1.out,fun b hb=>?_⟩
     ·rw[HBL.out,if_pos (by simp)]
      exact q1
     ·rcases q3 b hb with h1|h1
      ·exact HN1.out b h1
      ·exact Or.inr (Nat.le_trans HT1.out.size h1)
    clear hdp hF3 hT3 hN3 q1 q2 q3 c1' HB1 HT1 HN1 HBL
    go_wp2
    go_ret2
    exact⟨S',true,0,rfl,HLR.out,HP.out⟩
 ·have hx:¬Lh.hix S.hs s<S.hs.length:=by rw[←HH.out.hs];exact hx0
  have hset:hst L'=S.hs:=hset0.trans HH.out.hs
  obtain⟨q1,q2,q3⟩:=HH.out.health hT hM hset hlk' HH.out.dh hN
  have HP:Hid (LPost m hm fm L lv fv dv (B+1) W S w1):=⟨L',lv',fv,q1,q2,q3⟩
  have HLR:Hid (LookR S s well S false 5):=Or.inr ⟨hx,rfl,rfl,rfl⟩
  have c0':=q1.c0
  have his:=isUp_any q1.h (by rw[hset];exact HK.out.h) s
  clear hlk c0 hM hT hN hlk' hset0 hset q1 q2 q3 hx
  generalize Lh.hup (hst L') s=u at *
  go_wp2_with fail
  refine his.mono ?_
  rintro e w2 ⟨rfl,rfl⟩
  clear his c0'
  go_wp2
  go_ret2
  exact⟨S,false,5,rfl,HLR.out,HP.out⟩
end
section
variable {W W':World} {m hm fm:Nat} {L:List Mh} {lv fv dv:Value} {B:Nat} {S:Lh.Bl}
theorem mget_ok {t:Nat}{la:Int}{M:List Lh.Fl}(h:MF W fm t la M fv)(hl:M.length≤200)(k:Nat){now:Int}(ht:TickOk la now) :
  Calls Tryz.prog 70 #[.pointer (some ⟨fm,0,none⟩),.int .u64 (k:Nat),.int .i64 now] W fun e w'=>∃s kept,e=.returned (.tuple #[.string s,.bool kept,.int .i64 0])∧((kept=true∧∃h:Lh.fix M k<M.length,now<(M[Lh.fix M k]).2.2∧s=(M[Lh.fix M k]).2.1)∨(kept=false∧s=ByteArray.empty∧∀h:Lh.fix M k<M.length,(M[Lh.fix M k]).2.2≤now))∧MF w' fm t now M fv∧Tur (FFoot fm fv) W w':=by
 by_cases hx:Lh.fix M k<M.length
 ·refine (fget_there h hl k ht hx).mono ?_
  rintro e w' ⟨⟨h1,rfl⟩|⟨h1,rfl⟩,h2,h3⟩
  ·exact⟨_,true,rfl,Or.inl ⟨rfl,hx,h1,rfl⟩,h2,h3⟩
  ·exact⟨_,false,rfl,Or.inr ⟨rfl,rfl,fun _=>h1⟩,h2,h3⟩
 ·refine (fget_none h hl k ht hx).mono ?_
  rintro e w' ⟨rfl,h2,h3⟩
  exact⟨_,false,rfl,Or.inr ⟨rfl,rfl,fun h=>absurd h hx⟩,h2,h3⟩
theorem mput_ok {t:Nat}{la:Int}{M:List Lh.Fl}(h:MF W fm t la M fv)(hk:Lh.FlOk M)(htt:t≤1000)(k:Nat)(s:ByteArray)(hs:s.size≤300)(hn:Lh.isNm s=true){now:Int}(ht:TickOk la now) :
  Calls Tryz.prog 72 #[.pointer (some ⟨fm,0,none⟩),.int .u64 (k:Nat),.string s,.int .i64 now] W fun e w'=>∃fv',e=.returned (.int .i64 0)∧MF w' fm t now (Lh.fput t M k s now) fv'∧Tur (FFoot fm fv) W w'∧∀b,FFoot fm fv' b→FFoot fm fv b∨W.heap.size≤b:=by
 refine (fputM_any h hk htt k s hs now).mono ?_
 rintro e w' ⟨fv',hT,hF,⟨_,_,rfl,h1⟩|⟨j,hj,_⟩⟩
 ·exact⟨fv',rfl,h1,hT,hF⟩
 ·rcases hj with h1|⟨_,h1,_⟩
  ·exact (ht.not h1).elim
  ·rw[hn] at h1
   cases h1
theorem MB.hok (h:MB W m hm fm L lv fv dv B S)(hk:Lh.BOk S):Lh.HOk S.f S.r (hst L):=by rw[h.hs];exact hk.h
theorem MB.ticked (h:MB W m hm fm L lv fv dv B S)(hT:Tur (FFoot fm fv) W W'){now:Int}(hF:MF W' fm S.t now S.L fv):MB W' m hm fm L lv fv dv B { S with la:=now }:=(h.flows hT hF fun _ hb=>Or.inl hb).1
def MPost (m hm fm:Nat)(L:List Mh)(lv fv dv:Value)(B:Nat)(W:World)(S':Lh.Bl)(w':World):Prop:=∃fv',MB w' m hm fm L lv fv' dv B S'∧Tur (MBt m hm fm L lv fv dv) W w'∧∀b,MBt m hm fm L lv fv' dv b→MBt m hm fm L lv fv dv b∨W.heap.size≤b
theorem MPost.two {W1 W2:World}{S1 S2:Lh.Bl}{fv':Value}(_h:MB W1 m hm fm L lv fv dv B S1)(hT:Tur (FFoot fm fv) W W1)(_hW:MB W m hm fm L lv fv dv B S)(h2:MB W2 m hm fm L lv fv' dv B S2)(hT2:Tur (MBt m hm fm L lv fv dv) W1 W2)(hN:∀b,MBt m hm fm L lv fv' dv b→MBt m hm fm L lv fv dv b∨W1.heap.size≤b):MPost m hm fm L lv fv dv B W S2 W2 :=
 ⟨fv',h2,(hT.wide fun _ hb=>Or.inr (Or.inr (Or.inl hb))).trans hT2 fun b hb=>Or.inl hb,fun b hb=>by
  rcases hN b hb with h1|h1
  ·exact Or.inl h1
  ·exact Or.inr (Nat.le_trans hT.size h1)⟩
theorem mpick_tick (h:MB W m hm fm L lv fv dv B S)(k:Nat)(now:Int)(j:Nat)(hf:TickF S.la now j) :
  Calls Tryz.prog 24 #[.pointer (some ⟨m,0,none⟩),.int .u64 (k:Nat),.int .i64 now] W fun e w'=>e=.returned (.tuple #[.string ByteArray.empty,.bool false,.int .i64 ((j+1:Nat):Int)])∧w'=W:=by
 have hget:=fget_tick h.f k hf
 have c1:=h.c1
 have d1:decide ((0:Int)<((j+1:Nat):Int))=true:=decide_eq_true (by omega)
 clear h hf
 generalize ((j+1:Nat):Int)=z at *
 go_enter Tryz.func24,Tryz.ntmps24
 go_wp2_with fail
 refine hget.mono ?_
 rintro e w1 ⟨rfl,rfl⟩
 clear hget
 go_wp2
 go_ret3
 exact⟨rfl,rfl⟩
theorem mpick_keep (h:MB W m hm fm L lv fv dv B S)(hk:Lh.BOk S)(k:Nat)(now:Int)(hok:TickOk S.la now)(s:ByteArray)(hks:Lh.BKeeps S k now s) :
  Calls Tryz.prog 24 #[.pointer (some ⟨m,0,none⟩),.int .u64 (k:Nat),.int .i64 now] W fun e w'=>e=.returned (.tuple #[.string s,.bool true,.int .i64 0])∧MPost m hm fm L lv fv dv B W { S with la:=now,L:=Lh.fput S.t S.L k s now } w':=by
 have hget:=mget_ok h.f hk.ok.len k hok
 have c1:=h.c1
 have HH:Hid (MB W m hm fm L lv fv dv B S):=h
 have HK:Hid (Lh.BOk S):=hk
 have HOK:Hid (TickOk S.la now):=hok
 obtain⟨hix,hlt,hsx,hup⟩:=hks
 have HUP:Hid (Lh.hup S.hs s=true):=hup
 have HKP:Hid (∃hix:Lh.fix S.L k<S.L.length,now<(S.L[Lh.fix S.L k]).2.2∧(S.L[Lh.fix S.L k]).2.1=s):=⟨hix,hlt,hsx⟩
 clear h hk hok hlt hsx hup hix
 go_enter Tryz.func24,Tryz.ntmps24
 go_wp2_with fail
 refine hget.mono ?_
 rintro e w1 ⟨z,kept,rfl,hcase,hF1,hT1⟩
 obtain⟨rfl,rfl⟩:kept=true∧z=s:=by
  obtain⟨q1,q2,q3⟩:=HKP.out
  rcases hcase with⟨rfl,q4,_,rfl⟩|⟨_,_,q4⟩
  ·exact⟨rfl,q3⟩
  ·have:=q4 q1
   omega
 have hB1:=HH.out.ticked hT1 hF1
 have c0:=hB1.c0
 have c1':=hB1.c1
 have his:=isUp_any hB1.h (hB1.hok (HK.out.tick HOK.out.1 HOK.out.2.1)) z
 rw[show Lh.hup (hst L) z=true by rw[hB1.hs];exact HUP.out] at his
 obtain⟨hn,hsz⟩:=Lh.hup_nm HK.out HUP.out
 have HN:Hid (Lh.isNm z=true∧z.size≤300):=⟨hn,hsz⟩
 have HB1:Hid (MB w1 m hm fm L lv fv dv B { S with la:=now }):=hB1
 have HF1:Hid (MF w1 fm S.t now S.L fv):=hF1
 have HT1:Hid (Tur (FFoot fm fv) W w1):=hT1
 clear hget hcase hF1 hT1 hB1 c1 hn hsz
 go_wp2_with fail
 refine his.mono ?_
 rintro e w2 ⟨rfl,rfl⟩
 have hpt:=mput_ok HF1.out HK.out.ok HK.out.t2 k z HN.out.2 HN.out.1 (la:=now) ⟨HOK.out.1,HOK.out.2.1,Int.le_refl _⟩
 clear his c0
 go_wp2_with fail
 refine hpt.mono ?_
 rintro e w3 ⟨fv',rfl,hF3,hT3,hN3⟩
 obtain⟨q1,q2,q3⟩:=HB1.out.flows hT3 hF3 hN3
 have HP:Hid (MPost m hm fm L lv fv dv B W { S with la:=now,L:=Lh.fput S.t S.L k z now } w3):=MPost.two HB1.out HT1.out HH.out q1 q2 q3
 clear hpt hF3 hT3 hN3 q1 q2 q3 c1'
 go_wp2
 go_ret3
 exact⟨rfl,HP.out⟩
end
section
variable {W W':World} {m hm fm:Nat} {L:List Mh} {lv fv dv:Value} {B:Nat} {S:Lh.Bl}
theorem mpick_none (h:MB W m hm fm L lv fv dv B S)(hk:Lh.BOk S)(k:Nat)(ho:Lh.bopen S=[])(now:Int)(hok:TickOk S.la now)(hks:∀z,¬Lh.BKeeps S k now z) :
  Calls Tryz.prog 24 #[.pointer (some ⟨m,0,none⟩),.int .u64 (k:Nat),.int .i64 now] W fun e w'=>e=.returned (.tuple #[.string ByteArray.empty,.bool false,.int .i64 5])∧MPost m hm fm L lv fv dv B W { S with la:=now } w':=by
 obtain⟨iS,hiS,hz0,hz1,hz2⟩:=info_parts infoS
 have hget:=mget_ok h.f hk.ok.len k hok
 have c1:=h.c1
 have HH:Hid (MB W m hm fm L lv fv dv B S):=h
 have HK:Hid (Lh.BOk S):=hk
 have HOK:Hid (TickOk S.la now):=hok
 have HKS:Hid (∀z,¬Lh.BKeeps S k now z):=hks
 have hul:(Lh.hups S.hs).length≤12:=by
  unfold Lh.hups
  rw[List.length_map]
  exact Nat.le_trans (List.length_filter_le _ _) hk.h.len
 have hdl:S.dr.length≤12:=h.drLen hk.h.len
 clear h hk hok hks
 go_enter Tryz.func24,Tryz.ntmps24
 go_wp2_with fail
 refine hget.mono ?_
 rintro e w1 ⟨z,kept,rfl,hcase,hF1,hT1⟩
 have hB1:=HH.out.ticked hT1 hF1
 have c0:=hB1.c0
 have his:=isUp_any hB1.h (hB1.hok (HK.out.tick HOK.out.1 HOK.out.2.1)) z
 have hku:(kept=true∧Lh.hup (hst L) z=false)∨kept=false:=by
  rcases hcase with⟨rfl,q4,q5,rfl⟩|⟨rfl,_⟩
  ·cases hu:Lh.hup (hst L) (S.L[Lh.fix S.L k]).2.1 with
   | false=>exact Or.inl ⟨rfl,rfl⟩
   | true=>exact absurd ⟨q4,q5,rfl,by rw[←hB1.hs];exact hu⟩ (HKS.out _)
  ·exact Or.inr rfl
 have HB1:Hid (MB w1 m hm fm L lv fv dv B { S with la:=now }):=hB1
 have HF1:Hid (MF w1 fm S.t now S.L fv):=hF1
 have HT1:Hid (Tur (FFoot fm fv) W w1):=hT1
 have hups:=ups_any hB1.h (by have:=HK.out.h.len;rw[←hB1.hs,hst_length] at this;exact this)
 rw[show Lh.hups (hst L)=Lh.hups S.hs by rw[hB1.hs]] at hups
 have HD:Hid (∀w',Below w1.heap.size w1 w'→w'.cell? ⟨m,3,none⟩=some dv∧Strs1 w' dv S.dr):=fun w' hb=>⟨(HB1.out.later hb).c3,strs_of_owns (HB1.out.later hb).d⟩
 obtain⟨pd,cd,hdv⟩:∃p c,dv=.slice p S.dr.length c:=fown_shape hB1.d
 clear hget hcase hF1 hT1 hB1 c1
 go_wp2_with fail
 refine his.mono ?_
 rintro e w2 ⟨rfl,rfl⟩
 generalize Lh.hup (hst L) z=u at *
 clear his
 rcases hku with⟨rfl,rfl⟩|rfl
 all_goals
  go_wp2_with fail
  refine hups.mono ?_
  rintro e w3 ⟨v,rfl,hv,hb3⟩
  have HV:Hid (Strs1 w3 v (Lh.hups S.hs)):=hv
  obtain⟨pv,cv,rfl⟩:∃p c,v=.slice p (Lh.hups S.hs).length c:=hv.shape1
  clear hups hv c0
  go_wp2_with fail
  go_loopw [13,15] (fun uo ui W'=>Below w2.heap.size w2 W'∧Below w3.heap.size w3 W'∧∃i:Nat,i≤(Lh.hups S.hs).length∧ui=.int .i64 (i:Nat)∧W'.ownsRow w3.heap.size 9 1 uo (fl (drq S) ((Lh.hups S.hs).take i)).length ((fl (drq S) ((Lh.hups S.hs).take i)).map Value.string)) (fun _ ui _=>(Lh.hups S.hs).length - (intOf ui).toNat)
  case atStart=>exact⟨hb3,Below.refl _ _,0,Nat.zero_le _,rfl,by simpa [fl] using World.ownsRow_nil _ _ _ _⟩
  case round =>
   obtain⟨hbr,hb3r,i,hi,rfl,hown⟩:=hrel
   obtain⟨wo,hwo⟩:∃wo,wo=wr:=⟨_,rfl⟩
   subst hwo
   obtain⟨c3,hsd⟩:=HD.out wo hbr
   by_cases hlt:i<(Lh.hups S.hs).length
   ·have hki:(i:Int)<((Lh.hups S.hs).length:Int):=by omega
    obtain⟨gb,go,rfl,cx⟩:=(HV.out.later hb3r).cell1 hlt
    obtain⟨x,hx⟩:∃x,(Lh.hups S.hs)[i]'hlt=x:=⟨_,rfl⟩
    rw[hx] at cx
    have hfl:=fl_le (drq S) (Lh.hups S.hs) i
    have hidx:∀w',Below wo.heap.size wo w'→Calls Tryz.prog 73 #[.slice pd S.dr.length cd,.string x] w' fun e w''=>(∃j:Int,e=.returned (.int .i64 j)∧decide (j<0)=!drq S x)∧Below wo.heap.size wo w'':=fun w' hb=>by
     have h1:=idx_any dv S.dr x w' (HD.out w' (below_then hbr hb)).2 (by omega)
     rw[hdv,drq_mem] at h1
     exact h1.mono fun _ _ ⟨q1,q2⟩=>⟨q1,by rw[q2];exact hb⟩
    rw[hdv] at c3
    have hC:∀w',Below wo.heap.size wo w'→w'.cell? ⟨m,3,none⟩=some (.slice pd S.dr.length cd)∧w'.cell? ⟨gb,go+i,none⟩=some (.string x):=fun w' hb=>⟨below_cell hb c3,below_cell hb cx⟩
    cases hqx:drq S x with
    | true =>
     have HS:Hid (fl (drq S) ((Lh.hups S.hs).take (i+1))=fl (drq S) ((Lh.hups S.hs).take i)):=fl_gone hlt hx hqx
     have HOWN:Hid (wo.ownsRow w3.heap.size 9 1 u13 (fl (drq S) ((Lh.hups S.hs).take i)).length ((fl (drq S) ((Lh.hups S.hs).take i)).map Value.string)):=hown
     rw[hqx] at hidx
     simp only[Bool.not_true] at hidx
     clear hown hqx hx hsd hfl
     go_wp2_with fail
     go_region_held3 (fun w'=>Below wo.heap.size wo w'∧w'.cell? ⟨m,3,none⟩=some (.slice pd S.dr.length cd)∧w'.cell? ⟨gb,go+i,none⟩=some (.string x))
      (first|exact⟨by assumption,hC _ (by assumption)⟩|exact⟨below_drewN (Below.refl _ _) 1,hC _ (below_drewN (Below.refl _ _) 1)⟩)
      (first
       | (go_at_call 73;refine (hidx _ (by first|assumption|exact below_drewN (Below.refl _ _) 1)).mono ?_;rintro e w5 ⟨⟨j,rfl,hj⟩,hb5⟩))
     all_goals
      clear hidx hC
      go_wp2_with fail
      go_roundw
      case rel=>exact⟨below_then hbr hb5,below_then hb3r hb5,i+1,by omega,by go_num,by rw[HS.out];exact ownsRow_below HOWN.out hb5⟩
      case measure=>simp[intOf];omega
    | false =>
     have HS:Hid (fl (drq S) ((Lh.hups S.hs).take (i+1))=fl (drq S) ((Lh.hups S.hs).take i)++[x]):=fl_keep hlt hx hqx
     rw[hqx] at hidx
     simp only[Bool.not_false] at hidx
     obtain⟨vo,hvo⟩:∃vo,vo=u13:=⟨_,rfl⟩
     subst hvo
     generalize fl (drq S) ((Lh.hups S.hs).take i)=out at *
     have HOWN:Hid (wo.ownsRow w3.heap.size 9 1 vo out.length (out.map Value.string)):=hown
     have hmax:out.length+1≤maxLen:=by unfold maxLen;omega
     have hw23:w2.heap.size≤w3.heap.size:=hb3.size
     clear hown hqx hx hsd
     go_wp2_with fail
     go_region_held3 (fun w'=>Below wo.heap.size wo w'∧w'.cell? ⟨m,3,none⟩=some (.slice pd S.dr.length cd)∧w'.cell? ⟨gb,go+i,none⟩=some (.string x))
      (first|exact⟨by assumption,hC _ (by assumption)⟩|exact⟨below_drewN (Below.refl _ _) 1,hC _ (below_drewN (Below.refl _ _) 1)⟩)
      (first
       | (go_at_call 73;refine (hidx _ (by first|assumption|exact below_drewN (Below.refl _ _) 1)).mono ?_;rintro e w5 ⟨⟨j,rfl,hj⟩,hb5⟩))
     all_goals
      have cx5:=(hC w5 hb5).2
      have hown3:=(ownsRow_below HOWN.out hb5).alloc (.cells #[.string x] 9)
      have hnews:=cells_one (w:=w5) (t:=9) x
      have hb35:=below_then hb3r hb5
      have hb25:=below_then hbr hb5
      have hbw3:Below w3.heap.size w3 (w5.alloc (.cells #[.string x] 9)):=hb35.alloc hb35.size _
      have hbw2:Below w2.heap.size w2 (w5.alloc (.cells #[.string x] 9)):=hb25.alloc hb25.size _
      clear hidx hC
      go_wp2_with (at_builtin;refine wpList_append_own _ rfl _ _ 22 rfl w3.heap.size 9 iS _ 1 16 Tryz.underlying22 hiS hz0 hz1 hz2 rfl (by decide) vo out.length (out.map Value.string) rfl hown3 ⟨_,0,none⟩ 1 1 [.string x] rfl rfl hnews (fun u hu=>by simp at hu;subst hu;rfl) hmax (by omega) hbw3.size ?_)
      intro v' w4 hown4 hg4 _
      have hlo:=hown3.lt
      have hb4:Below w3.heap.size w3 w4:=hbw3.grown hg4 hbw3.size (fun k hk=>(hlo k hk).1)
      have hb42:Below w2.heap.size w2 w4:=hbw2.grown hg4 hbw2.size (fun k hk=>Nat.le_trans hw23 (hlo k hk).1)
      have hown5:=owns_snoc hown4
      have HOUT:Hid (w4.ownsRow w3.heap.size 9 1 v' (out++[x]).length ((out++[x]).map Value.string)):=by rw[List.length_append];exact hown5
      clear hown3 hnews hlo hg4 hbw3 hbw2 hmax hown4 hown5
      go_wp2
      exact⟨⟨hb42,hb4,i+1,by omega,by go_num,by rw[HS.out];exact HOUT.out⟩,by simp[intOf];omega⟩
   ·have hki:decide ((i:Int)<((Lh.hups S.hs).length:Int))=false:=by simp;omega
    have hopn:wo.ownsRow w3.heap.size 9 1 u13 (Lh.bopen S).length ((Lh.bopen S).map Value.string):=by
     have e:fl (drq S) ((Lh.hups S.hs).take i)=Lh.bopen S:=by
      rw[List.take_of_length_le (by omega)]
      exact drq_open S
     rw[e] at hown
     exact hown
    have HB4:Hid (MB wo m hm fm L lv fv dv B { S with la:=now }):=HB1.out.later hbr
    have HF4:Hid (MF wo fm S.t now S.L fv):=HF1.out.later hbr
    have HT4:Hid (Tur (FFoot fm fv) W wo):=HT1.out.behind hbr
    clear hown c3 hsd HD HV
    rw[ho] at hopn
    obtain⟨p4,c4,rfl⟩:∃p c,u13=.slice p 0 c:=fown_shape hopn
    have HP:Hid (MPost m hm fm L lv fv dv B W { S with la:=now } wo):=⟨fv,HB4.out,HT4.out.wide fun _ hb=>Or.inr (Or.inr (Or.inl hb)),fun b hb=>Or.inl hb⟩
    clear hopn
    go_wp2
    go_ret3
    exact⟨rfl,HP.out⟩
end
end Go.Proofs.YtfhmfjcpggddkaaGreatDoor
