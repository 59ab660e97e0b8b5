/- slices.IndexFunc and slices.DeleteFunc of texts, with a function that lays blocks of its own. -/
import Derived.Test.YtfhmfjcpggddkaaGreatDoorM16
import Derived.Lib.SliceRun
import Derived.Test.YtfhmfjcpggddkaaGreatDoorM18
import Derived.Test.YtfhmfjcpggddkaaGreatDoorM15
set_option maxHeartbeats 20000000
set_option maxRecDepth 100000
namespace Go.Proofs.YtfhmfjcpggddkaaGreatDoor
open Go.RowKit Go.Shelf
def fl {α:Type}(q:α→Bool)(l:List α):List α:=l.filter fun x=>!q x
theorem fl_le {α:Type}(q:α→Bool)(l:List α)(i:Nat):(fl q (l.take i)).length≤i:=Nat.le_trans (List.length_filter_le _ _) (by rw[List.length_take];exact Nat.min_le_left _ _)
theorem fl_keep {α:Type}{q:α→Bool}{l:List α}{i:Nat}(h:i<l.length){x:α}(hx:l[i]=x)(hq:q x=false):fl q (l.take (i+1))=fl q (l.take i)++[x]:=by
 unfold fl
 rw[List.take_succ_eq_append_getElem h,List.filter_append,hx]
 simp[hq]
theorem fl_gone {α:Type}{q:α→Bool}{l:List α}{i:Nat}(h:i<l.length){x:α}(hx:l[i]=x)(hq:q x=true):fl q (l.take (i+1))=fl q (l.take i):=by
 unfold fl
 rw[List.take_succ_eq_append_getElem h,List.filter_append,hx]
 simp[hq]
theorem fl_all {α:Type}{q:α→Bool}{l:List α}(h:∀x∈l,q x=false):fl q l=l:=List.filter_eq_self.2 fun x hx=>by simp[h x hx]
theorem fl_first {α:Type}{q:α→Bool}{l:List α}{i:Nat}(h:i<l.length)(ht:∀j (hj:j<l.length),j<i→q l[j]=false)(hq:q l[i]=true):fl q (l.take (i+1))=l.take i:=by
 rw[fl_gone h rfl hq]
 refine fl_all fun x hx=>?_
 obtain⟨j,hj,rfl⟩:=List.getElem_of_mem hx
 rw[List.length_take] at hj
 rw[List.getElem_take]
 exact ht j (by omega) (by omega)
theorem indexT_core (fn:Nat)(eg:∀args w,(callFunc fn args).run Tryz.prog w=.ok (.enter fn args) w)(bx:Value)(q:ByteArray→Bool)(pv:Option Addr)(c:Nat)(xs:List ByteArray)(W:World)(hl:xs.length≤1000)
  (hc:∀k (h:k<xs.length),∃g o,pv=some ⟨g,o,none⟩∧W.cell? ⟨g,o+k,none⟩=some (.string xs[k]))
  (hq:∀W' k (h:k<xs.length),Below W.heap.size W W'→Calls Tryz.prog fn #[.string xs[k],bx] W' fun e w'=>e=.returned (.bool (q xs[k]))∧Below W'.heap.size W' w') :
  Calls Tryz.prog 278 #[.slice pv xs.length c,.func (.func fn) #[] #[bx]] W fun e w'=>Below W.heap.size W w'∧(((∀x∈xs,q x=false)∧e=.returned (.int .i64 (-1)))∨∃i,∃h:i<xs.length,q xs[i]=true∧(∀j (hj:j<xs.length),j<i→q xs[j]=false)∧e=.returned (.int .i64 (i:Nat))):=by
 have HC:Hid (∀k (h:k<xs.length),∃g o,pv=some ⟨g,o,none⟩∧W.cell? ⟨g,o+k,none⟩=some (.string xs[k])):=hc
 have HQ:Hid (∀W' k (h:k<xs.length),Below W.heap.size W W'→Calls Tryz.prog fn #[.string xs[k],bx] W' fun e w'=>e=.returned (.bool (q xs[k]))∧Below W'.heap.size W' w'):=hq
 clear hc hq
 go_enter Tryz.func278,Tryz.ntmps278
 go_wp2_with fail
 go_loopw [5,8] (fun _ t W'=>Below W.heap.size W W'∧∃k:Nat,k≤xs.length∧t=.int .i64 (k:Nat)∧∀j (hj:j<xs.length),j<k→q xs[j]=false) (fun _ t _=>xs.length+1 - (intOf t).toNat)
 case atStart=>exact⟨Below.refl _ _,0,Nat.zero_le _,rfl,fun j _ h=>absurd h (by omega)⟩
 case round =>
  obtain⟨hB,k,hk,rfl,hp⟩:=hrel
  have HP:Hid (∀j (hj:j<xs.length),j<k→q xs[j]=false):=hp
  clear hp
  by_cases hlt:k<xs.length
  ·obtain⟨g,o,rfl,c1⟩:=HC.out k hlt
   have hki:(k:Int)<(xs.length:Int):=by omega
   have hcall:=HQ.out _ k hlt hB
   have c1':=below_cell hB c1
   have HN:Hid (q (xs[k]'hlt)=false→∀j (hj:j<xs.length),j<k+1→q xs[j]=false):=fun h j hj hjk=>by
    by_cases e:j=k
    ·subst e
     exact h
    ·exact HP.out j hj (by omega)
   obtain⟨s,hs⟩:∃s,xs[k]'hlt=s:=⟨_,rfl⟩
   rw[hs] at c1' hcall HN
   have HS:Hid (xs[k]'hlt=s):=hs
   clear c1 hs
   cases hd:q s with
   | true =>
    have HE:Hid (q (xs[k]'hlt)=true):=by rw[HS.out];exact hd
    rw[hd] at hcall
    clear hd HN
    go_wp2_with (go_at_fn fn;refine hcall.mono ?_;rintro e w' ⟨rfl,hB2⟩)
    go_ret
    exact⟨below_then hB hB2,Or.inr ⟨k,hlt,HE.out,HP.out,rfl⟩⟩
   | false =>
    have HN2:Hid (∀j (hj:j<xs.length),j<k+1→q xs[j]=false):=HN.out hd
    rw[hd] at hcall
    clear hd HN
    go_wp2_with (go_at_fn fn;refine hcall.mono ?_;rintro e w' ⟨rfl,hB2⟩)
    go_roundw
    case rel=>exact⟨below_then hB hB2,k+1,by omega,by go_num,HN2.out⟩
    case measure=>simp[intOf];omega
  ·have hki:decide ((k:Int)<(xs.length:Int))=false:=by simp;omega
   have HF:Hid (∀x∈xs,q x=false):=fun x hx=>by
    obtain⟨j,hj,rfl⟩:=List.getElem_of_mem hx
    exact HP.out j hj (by omega)
   go_wp2
   go_ret
   exact⟨hB,Or.inl ⟨HF.out,rfl⟩⟩
structure DelT (q:ByteArray→Bool)(xs:List ByteArray)(g:Nat)(W0:World)(i j:Nat)(W:World):Prop where
 tur:Tur (fun b=>b=g) W0 W
 lt:i<j
 len:(fl q (xs.take j)).length=i
 lo:∀k (h:k<(fl q (xs.take j)).length),W.cell? ⟨g,k,none⟩=some (.string (fl q (xs.take j))[k])
 hi:∀k (h:k<xs.length),j≤k→W.cell? ⟨g,k,none⟩=some (.string xs[k])
 all:∀k,k<xs.length→(W.cell? ⟨g,k,none⟩).isSome=true
 fz:∀k,W.frozen? ⟨g,k,none⟩=false
section
variable {q:ByteArray→Bool} {xs:List ByteArray} {g i j:Nat} {W0 W W':World}
theorem DelT.later (h:DelT q xs g W0 i j W)(hg:g<W0.heap.size)(hb:Below W.heap.size W W'):DelT q xs g W0 i j W':=by
 have hg':g<W.heap.size:=Nat.lt_of_lt_of_le hg h.tur.size
 have e:=hb.block g hg'
 refine⟨h.tur.trans (Tur.of_below (F:=fun b=>b=g) hb) (fun b hb=>Or.inl hb),h.lt,h.len,fun k hk=>?_,fun k hk hj=>?_,fun k hk=>?_,fun k=>?_⟩
 ·rw[World.cell?_of_block (w:=W) (w':=W') (a:=⟨g,k,none⟩) e];exact h.lo k hk
 ·rw[World.cell?_of_block (w:=W) (w':=W') (a:=⟨g,k,none⟩) e];exact h.hi k hk hj
 ·rw[World.cell?_of_block (w:=W) (w':=W') (a:=⟨g,k,none⟩) e];exact h.all k hk
 ·rw[World.frozen?_of_block (w:=W) (w':=W') (a:=⟨g,k,none⟩) e];exact h.fz k
theorem DelT.gone (h:DelT q xs g W0 i j W)(hj:j<xs.length){x:ByteArray}(hx:xs[j]=x)(hq:q x=true):DelT q xs g W0 i (j+1) W:=by
 have e:=fl_gone hj hx hq
 exact⟨h.tur,by have:=h.lt;omega,by rw[e];exact h.len,by rw[e];exact h.lo,fun k hk hjk=>h.hi k hk (by omega),h.all,h.fz⟩
theorem DelT.keep (h:DelT q xs g W0 i j W)(hj:j<xs.length){x:ByteArray}(hx:xs[j]=x)(hq:q x=false):DelT q xs g W0 (i+1) (j+1) (W.setCell ⟨g,i,none⟩ (.string x)):=by
 have e:=fl_keep hj hx hq
 have hij:=h.lt
 have hlen:=h.len
 refine⟨h.tur.setCell i (Or.inl rfl) _,by omega,by rw[e,List.length_append,hlen];rfl,?_,fun k hk hjk=>?_,fun k hk=>?_,fun k=>by rw[World.frozen?_setCell];exact h.fz k⟩
 ·rw[e]
  intro k hk
  rw[List.length_append,List.length_singleton] at hk
  by_cases hki:k=i
  ·subst hki
   rw[World.cell?_setCell_same' _ _ _ (h.all _ (by omega)),List.getElem_append_right (by omega)]
   simp
  ·have hk':k<(fl q (xs.take j)).length:=by omega
   rw[World.cell?_setCell_other _ _ _ _ (by intro e;injection e with _ e;omega),List.getElem_append_left hk']
   exact h.lo k hk'
 ·rw[World.cell?_setCell_other _ _ _ _ (by intro e;injection e with _ e;omega)]
  exact h.hi k hk (by omega)
 ·by_cases hki:k=i
  ·subst hki
   rw[World.cell?_setCell_same' _ _ _ (h.all _ (by omega))]
   rfl
  ·rw[World.cell?_setCell_other _ _ _ _ (by intro e;injection e with _ e;omega)]
   exact h.all k hk
end
theorem clearT (g i n c:Nat)(w:World)(hi:i<n)(hs:∀k,k<n→(w.cell? ⟨g,k,none⟩).isSome=true)(hf:∀k,w.frozen? ⟨g,k,none⟩=false)(ty:TypeId) :
  (Builtin.clear_ #[22] ty #[.slice (some ⟨g,i,none⟩) (n - i) c]).run Tryz.prog w=.ok (.tuple #[]) (w.setCells g i (List.replicate (n - i) (.string ⟨#[]⟩))) :=
 Lib.run_clear_slice w 22 9 ty (.string ⟨#[]⟩) Tryz.underlying22 Tryz.zeroValue9 rfl rfl g i (n - i) c (by omega) (fun j hj=>hs _ (by omega)) (fun j _=>hf _)
theorem Tur.setCells {F:Nat→Prop}{w w':World}(h:Tur F w w'){x:Nat}(hx:F x∨w.heap.size≤x):∀(vs:List Value) (o:Nat),Tur F w (w'.setCells x o vs):=by
 intro vs
 induction vs generalizing w' with
 | nil=>intro o;exact h
 | cons v r ih=>intro o;exact ih (h.setCell o hx v) (o+1)
theorem deleteT (fn:Nat)(eg:∀args w,(callFunc fn args).run Tryz.prog w=.ok (.enter fn args) w)(bx:Value)(q:ByteArray→Bool)(g cap:Nat)(xs:List ByteArray)(W:World)(hl:xs.length≤1000)(hcap:xs.length≤cap)(hcm:cap≤maxLen)(hg:g<W.heap.size)
  (hc:∀k (h:k<xs.length),W.cell? ⟨g,k,none⟩=some (.string xs[k])) (hf:∀k,W.frozen? ⟨g,k,none⟩=false)
  (hq:∀W' k (h:k<xs.length),Tur (fun b=>b=g) W W'→Calls Tryz.prog fn #[.string xs[k],bx] W' fun e w'=>e=.returned (.bool (q xs[k]))∧Below W'.heap.size W' w') :
  Calls Tryz.prog 241 #[.slice (some ⟨g,0,none⟩) xs.length cap,.func (.func fn) #[] #[bx]] W fun e w'=>e=.returned (.slice (some ⟨g,0,none⟩) (fl q xs).length cap)∧Tur (fun b=>b=g) W w'∧∀k (h:k<(fl q xs).length),w'.cell? ⟨g,k,none⟩=some (.string (fl q xs)[k]):=by
 have hix:=indexT_core fn eg bx q (some ⟨g,0,none⟩) cap xs W hl (fun k h=>⟨g,0,rfl,by rw[Nat.zero_add];exact hc k h⟩) (fun W' k h hB=>hq W' k h (Tur.of_below hB))
 have HC:Hid (∀k (h:k<xs.length),W.cell? ⟨g,k,none⟩=some (.string xs[k])):=hc
 have HF:Hid (∀k,W.frozen? ⟨g,k,none⟩=false):=hf
 have HQ:Hid (∀W' k (h:k<xs.length),Tur (fun b=>b=g) W W'→Calls Tryz.prog fn #[.string xs[k],bx] W' fun e w'=>e=.returned (.bool (q xs[k]))∧Below W'.heap.size W' w'):=hq
 unfold maxLen at hcm
 clear hc hf hq
 go_enter Tryz.func241,Tryz.ntmps241
 go_wp2_with fail
 refine hix.mono ?_
 rintro e w1 ⟨hb1,⟨hall,rfl⟩|⟨i0,hi0,hqt,hqf,rfl⟩⟩
 ·have HA:Hid (fl q xs=xs):=fl_all hall
  clear hix hall
  go_wp2
  go_ret
  exact⟨by rw[HA.out];rfl,Tur.of_below hb1,by rw[HA.out];exact fun k h=>below_cell hb1 (HC.out k h)⟩
 ·have hne:((i0:Int) == -1)=false:=beq_eq_false_iff_ne.2 (by omega)
  have HD:Hid (DelT q xs g W i0 (i0+1) w1):=by
   have e:=fl_first hi0 hqf hqt
   have eb:=hb1.block g hg
   have hlt:(xs.take i0).length=i0:=by rw[List.length_take];omega
   refine⟨Tur.of_below hb1,by omega,by rw[e];exact hlt,?_,fun k hk _=>below_cell hb1 (HC.out k hk),fun k hk=>by rw[below_cell hb1 (HC.out k hk)];rfl,fun k=>(World.frozen?_of_block (w:=W) (w':=w1) (a:=⟨g,k,none⟩) eb).trans (HF.out k)⟩
   rw[e]
   intro k hk
   rw[List.getElem_take]
   exact below_cell hb1 (HC.out k _)
  clear hix hqt hqf
  go_wp2_with fail
  go_loopw [5,6,7] (fun s5 s6 _ wr=>∃i j:Nat,s5=.int .i64 (i:Nat)∧s6=.int .i64 (j:Nat)∧j≤xs.length∧DelT q xs g W i j wr) (fun _ s6 _ _=>xs.length - (intOf s6).toNat)
  case atStart=>exact⟨i0,i0+1,rfl,by go_num,hi0,HD.out⟩
  case round =>
   obtain⟨i,j,rfl,rfl,hj,hD⟩:=hrel
   have HD2:Hid (DelT q xs g W i j wr):=hD
   clear HD hb1
   have hij:=hD.lt
   by_cases hlt:j<xs.length
   ·have hji:(j:Int)<(xs.length:Int):=by omega
    have cj:=hD.hi j hlt (Nat.le_refl _)
    obtain⟨zi,ci⟩:=Option.isSome_iff_exists.1 (hD.all i (by omega))
    have fi:=hD.fz i
    have hii:(i:Int)<(xs.length:Int):=by omega
    have hcall:=HQ.out wr j hlt hD.tur
    obtain⟨x,hx⟩:∃x,xs[j]'hlt=x:=⟨_,rfl⟩
    rw[hx] at cj hcall
    have HX:Hid (xs[j]'hlt=x):=hx
    clear hx hD
    have hgw:g<wr.heap.size:=World.block_lt_of_cell? wr ⟨g,j,none⟩ cj
    cases hqx:q x with
    | false =>
     have HQX:Hid (q x=false):=hqx
     rw[hqx] at hcall
     clear hqx
     go_wp2_with fail
     refine hcall.mono ?_
     rintro e w2 ⟨rfl,hb2⟩
     have ci':=below_cell hb2 ci
     have fi':w2.frozen? ⟨g,i,none⟩=false:=(World.frozen?_of_block (w:=wr) (w':=w2) (a:=⟨g,i,none⟩) (hb2.block g hgw)).trans fi
     have HD3:Hid (DelT q xs g W (i+1) (j+1) (w2.setCell ⟨g,i,none⟩ (.string x))):=(HD2.out.later hg hb2).keep hlt HX.out HQX.out
     clear hcall ci fi cj
     go_wp2_with fail
     go_roundw
     case rel=>exact⟨i+1,j+1,by go_num,by go_num,by omega,HD3.out⟩
     case measure=>simp[intOf];omega
    | true =>
     have HQX:Hid (q x=true):=hqx
     rw[hqx] at hcall
     clear hqx
     go_wp2_with fail
     refine hcall.mono ?_
     rintro e w2 ⟨rfl,hb2⟩
     have HD3:Hid (DelT q xs g W i (j+1) w2):=(HD2.out.later hg hb2).gone hlt HX.out HQX.out
     clear hcall ci fi cj
     go_wp2_with fail
     go_roundw
     case rel=>exact⟨i,j+1,rfl,by go_num,by omega,HD3.out⟩
     case measure=>simp[intOf];omega
   ·have hje:j=xs.length:=by omega
    subst hje
    have hji:decide ((xs.length:Int)<(xs.length:Int))=false:=by simp
    have hcl:=fun ty=>clearT g i xs.length (cap - i) wr hij hD.all hD.fz ty
    have HI:Hid ((fl q xs).length=i):=by have:=hD.len;rwa [List.take_length] at this
    have HLO:Hid (∀k (h:k<(fl q xs).length),wr.cell? ⟨g,k,none⟩=some (.string (fl q xs)[k])):=by have:=hD.lo;rwa [List.take_length] at this
    have HT:Hid (Tur (fun b=>b=g) W wr):=hD.tur
    have hic:(i:Int)<(cap:Int):=by omega
    have hii:(i:Int)<(xs.length:Int):=by omega
    clear hD HD2
    go_wp2
    go_ret
    refine⟨by rw[HI.out];rfl,HT.out.setCells (Or.inl rfl) _ _,fun k hk=>?_⟩
    rw[World.cell?_setCells_out _ _ _ _ _ (fun _ _=>Or.inl (by have:=HI.out;show k<i;omega))]
    exact HLO.out k hk
end Go.Proofs.YtfhmfjcpggddkaaGreatDoor
namespace Go.Proofs.YtfhmfjcpggddkaaGreatDoor
open Go.RowKit Go.Shelf Go.Maps Go.ChangeMaps
section
variable {W:World} {p f r:Nat} {l:List Lh.Hh} {bs:List Nat} {lv:Value}
theorem upS_row (h:HR W p f r l bs lv)(hl:l.length≤12) :
  Calls Tryz.prog 102 #[.pointer (some ⟨p,0,none⟩)] W fun e w'=>∃v,e=.returned v∧w'.ownsRow W.heap.size 9 1 v (Lh.hups l).length ((Lh.hups l).map Value.string)∧Below W.heap.size W w':=by
 have h1:=those_core 160 entersUp (fun x=>x.2.1) h hl fun k hk h2 W' hB=>upC _ _ W' (below_cell hB (h.st k hk h2).c1)
 have e:thoseN (fun x=>x.2.1) l l.length=Lh.hups l:=by
  unfold thoseN Lh.hups
  rw[List.take_length]
 rw[e] at h1
 clear e h
 generalize Lh.hups l=ys at *
 go_enter Tryz.func102,Tryz.ntmps102
 go_wp2_with fail
 refine h1.mono ?_
 rintro e w1 ⟨v,rfl,hv,hb⟩
 clear h1
 have HV:Hid (w1.ownsRow W.heap.size 9 1 v ys.length (ys.map Value.string)):=hv
 clear hv
 go_wp2
 go_ret
 exact⟨_,rfl,HV.out,hb⟩
theorem hasS_any (h:HR W p f r l bs lv)(hl:l.length≤12)(s:ByteArray) :
  Calls Tryz.prog 101 #[.pointer (some ⟨p,0,none⟩),.string s] W fun e w'=>e=.returned (.bool (decide (Lh.hix l s<l.length)))∧Below W.heap.size W w':=by
 by_cases hx:Lh.hix l s<l.length
 ·obtain⟨b,hb⟩:=h.at hx
  have hfd:=findS_good h hl s hx hb
  rw[decide_eq_true hx]
  clear h hb hx
  go_enter Tryz.func101,Tryz.ntmps101
  go_wp2_with fail
  refine hfd.mono ?_
  rintro e w1 ⟨rfl,hb1⟩
  clear hfd
  go_wp2
  go_ret
  exact⟨rfl,hb1⟩
 ·have hfd:=findS_none h hl s hx
  rw[decide_eq_false hx]
  clear h hx
  go_enter Tryz.func101,Tryz.ntmps101
  go_wp2_with fail
  refine hfd.mono ?_
  rintro e w1 ⟨rfl,hb1⟩
  clear hfd
  go_wp2
  go_ret
  exact⟨rfl,hb1⟩
end
theorem strRow_of {w:World}{base:Nat}{v:Value}{xs:List ByteArray}(h:w.ownsRow base 9 1 v xs.length (xs.map Value.string))(h0:0<xs.length):∃g cap,v=.slice (some ⟨g,0,none⟩) xs.length cap∧base≤g∧g<w.heap.size∧xs.length≤cap∧cap≤maxLen∧(∀k (h:k<xs.length),w.cell? ⟨g,k,none⟩=some (.string xs[k]))∧∀k,w.frozen? ⟨g,k,none⟩=false:=by
 obtain⟨hl,⟨rfl,h'⟩|⟨g,cap,cur,rfl,hbase,hb,hn,hm,hsz,ht⟩⟩:=h
 ·omega
 ·refine⟨g,cap,rfl,hbase,(Array.getElem?_eq_some_iff.1 hb).1,hn,hm,fun k hk=>?_,fun k=>by simp[World.frozen?,hb]⟩
  have h1:(xs.map Value.string)[k]?=some (.string xs[k]):=by simp[hk]
  rw[←ht,List.getElem?_take_of_lt (by omega)] at h1
  simp only[World.cell?,hb]
  simpa using h1
theorem openC (hb p db n:Nat)(D:DataW Unit)(s:ByteArray)(W:World)(h1:W.cell? ⟨hb,0,none⟩=some (.pointer (some ⟨p,0,none⟩)))(c1:W.cell? ⟨p,1,none⟩=some (.map (some db)))(hown:W.ownsMap Tryz.prog 9 unitElem db n D)(hs:s.size≤300){q:Bool}(hD:has D (.string s.data.toList)=q) :
  Calls Tryz.prog 242 #[.string s,.pointer (some ⟨hb,0,none⟩)] W fun e w'=>e=.returned (.bool q)∧Below W.heap.size W w':=by
 have hkey:=fkeyS s hs
 go_enter Tryz.func242,Tryz.ntmps242
 go_wp2_with (at_lookup;refine wpList_lookup_own_unit _ rfl _ _ 153 rfl 9 157 (string_keyed Tryz.underlying9) Tryz.underlying153 (Tryz.zeroValue157 _) db n D rfl hown _ _ rfl hkey ?_;rw[hD])
 go_ret
 exact⟨rfl,(Below.refl _ _).alloc (Nat.le_refl _) _⟩
theorem entersOp:∀args w,(callFunc 242 args).run Tryz.prog w=.ok (.enter 242 args) w:=enters_of Tryz.func242 (by kernel_rfl) rfl
theorem deleteT_nil (fn:Nat)(eg:∀args w,(callFunc fn args).run Tryz.prog w=.ok (.enter fn args) w)(bx:Value)(pv:Option Addr)(c:Nat)(W:World) :
  Calls Tryz.prog 241 #[.slice pv 0 c,.func (.func fn) #[] #[bx]] W fun e w'=>e=.returned (.slice pv 0 c)∧Below W.heap.size W w':=by
 have hix:=indexT_core fn eg bx (fun _=>false) pv c [] W (by simp) (fun k h=>absurd h (by simp)) (fun W' k h=>absurd h (by simp))
 simp only[List.length_nil] at hix
 go_enter Tryz.func241,Tryz.ntmps241
 go_wp2_with fail
 refine hix.mono ?_
 rintro e w1 ⟨hb1,⟨_,rfl⟩|⟨i0,hi0,_⟩⟩
 case inr=>exact absurd hi0 (by omega)
 clear hix
 go_wp2
 go_ret
 exact⟨rfl,hb1⟩
section
variable {W W':World} {p hp fp fm db:Nat} {bs:List Nat} {lv:Value} {S:Lh.Bl}
theorem upB (h:BR W p hp fp fm db bs lv S)(hl:S.hs.length≤12) :
  Calls Tryz.prog 55 #[.pointer (some ⟨p,0,none⟩)] W fun e w'=>∃v,e=.returned v∧w'.ownsRow W.heap.size 9 1 v (Lh.hups S.hs).length ((Lh.hups S.hs).map Value.string)∧Below W.heap.size W w':=by
 have h1:=upS_row h.h hl
 have c0:=h.c0
 clear h
 generalize Lh.hups S.hs=ys at *
 go_enter Tryz.func55,Tryz.ntmps55
 go_wp2_with fail
 refine h1.mono ?_
 rintro e w1 ⟨v,rfl,hv,hb⟩
 have HV:Hid (w1.ownsRow W.heap.size 9 1 v ys.length (ys.map Value.string)):=hv
 clear h1 hv
 go_wp2
 go_ret
 exact⟨_,rfl,HV.out,hb⟩
def drq (S:Lh.Bl)(s:ByteArray):Bool:=S.dr.any fun x=>decide (x=s)
theorem drq_mem (S:Lh.Bl)(s:ByteArray):decide (s∈S.dr)=drq S s:=by
 unfold drq
 by_cases hm:s∈S.dr
 ·rw[decide_eq_true hm]
  exact (List.any_eq_true.2 ⟨s,hm,by simp⟩).symm
 ·rw[decide_eq_false hm]
  refine (List.any_eq_false.2 fun x hx=>?_).symm
  intro e
  have e':x=s:=by simpa using e
  exact hm (e' ▸ hx)
theorem drq_open (S:Lh.Bl):fl (drq S) (Lh.hups S.hs)=Lh.bopen S:=rfl
theorem openB (h:BR W p hp fp fm db bs lv S)(hk:Lh.BOk S) :
  Calls Tryz.prog 191 #[.pointer (some ⟨p,0,none⟩)] W fun e w'=>∃v,e=.returned v∧Strs1 w' v (Lh.bopen S)∧Below W.heap.size W w':=by
 have hb1:Below W.heap.size W (W.alloc (.cells #[.pointer (some ⟨p,0,none⟩)] 49)):=(Below.refl _ _).alloc (Nat.le_refl _) _
 have h1:=upB (h.later hb1) hk.h.len
 have HH:Hid (BR W p hp fp fm db bs lv S):=h
 have HK:Hid (Lh.BOk S):=hk
 have hul:(Lh.hups S.hs).length≤12:=by
  unfold Lh.hups
  rw[List.length_map]
  exact Nat.le_trans (List.length_filter_le _ _) hk.h.len
 clear h hk
 have hsz:W.heap.size<(W.alloc (.cells #[.pointer (some ⟨p,0,none⟩)] 49)).heap.size:=by simp
 go_enter Tryz.func191,Tryz.ntmps191
 go_wp2_with fail
 refine h1.mono ?_
 rintro e w1 ⟨v,rfl,hv,hb2⟩
 clear h1
 have hb3:=below_then hb1 hb2
 have cb:w1.cell? ⟨W.heap.size,0,none⟩=some (.pointer (some ⟨p,0,none⟩)):=below_cell hb2 (by simp)
 by_cases h0:0<(Lh.hups S.hs).length
 ·obtain⟨g,cap,rfl,hg0,hg1,hcap,hcm,hcell,hfz⟩:=strRow_of hv h0
  have hBR:=HH.out.later hb3
  obtain⟨D,hown,hset⟩:=hBR.d
  have hwl:=hb3.size
  have hw2:=hb2.size
  have hpl:=HH.out.plt
  have hdl:=HH.out.dlt
  have hdel:=deleteT 242 entersOp (.pointer (some ⟨W.heap.size,0,none⟩)) (drq S) g cap (Lh.hups S.hs) w1 (by omega) hcap hcm hg1 hcell hfz (fun W' k hk hT=>by
   have hm:(Lh.hups S.hs)[k]∈Lh.hups S.hs:=List.getElem_mem hk
   have hup:=Lh.hup_nm HK.out (Lh.hups_mem.1 hm)
   refine openC W.heap.size p db S.dr.length D _ W' ?_ ?_ ?_ hup.2 ?_
   ·exact (World.cell?_of_block (w:=w1) (w':=W') (a:=⟨W.heap.size,0,none⟩) (hT.block W.heap.size (by omega) (by show ¬W.heap.size=g;omega))).trans cb
   ·exact (World.cell?_of_block (w:=w1) (w':=W') (a:=⟨p,1,none⟩) (hT.block p (by omega) (by show ¬p=g;omega))).trans hBR.c1
   ·exact ownsMap_later hown (hT.block db (by omega) (by show ¬db=g;omega))
   ·rw[hset.2.2,drq_mem])
  rw[drq_open] at hdel
  have HB:Hid (Below W.heap.size W w1):=hb3
  have HC:Hid ((Lh.bopen S).length≤cap):=by
   have:(Lh.bopen S).length≤(Lh.hups S.hs).length:=List.length_filter_le _ _
   show _≤_
   omega
  clear hBR hown hset hcell hfz hv hb2 hb3 hb1
  go_wp2_with fail
  refine hdel.mono ?_
  rintro e w2 ⟨rfl,hT,hc2⟩
  have HC2:Hid (∀k (h:k<(Lh.bopen S).length),w2.cell? ⟨g,k,none⟩=some (.string (Lh.bopen S)[k])):=hc2
  have HT:Hid (Tur (fun b=>b=g) w1 w2):=hT
  clear hdel hc2 hT cb
  go_wp2
  go_ret
  exact⟨_,rfl,Or.inr ⟨g,0,cap,rfl,HC.out,by simpa only [Nat.zero_add] using HC2.out⟩,HT.out.below (fun k hk=>by have:k=g:=hk;omega) HB.out (Nat.le_refl _)⟩
 ·have hn:Lh.hups S.hs=[]:=List.length_eq_zero_iff.1 (by omega)
  have HN:Hid (Lh.bopen S=[]):=by
   show _=_
   rw[←drq_open,hn]
   rfl
  rw[hn] at hv
  obtain⟨p0,c0,rfl,hpc⟩:∃p0 c0,v=.slice p0 0 c0∧(v=.slice none 0 0∨∃ad c,v=.slice (some ad) 0 c):=by
   rcases hv.2 with⟨h,_⟩|⟨g,cap,cur,rfl,_⟩
   ·exact⟨_,_,h,Or.inl h⟩
   ·exact⟨_,_,rfl,Or.inr ⟨_,_,rfl⟩⟩
  have HPC:Hid (Value.slice p0 0 c0=.slice none 0 0∨∃ad c,Value.slice p0 0 c0=.slice (some ad) 0 c):=hpc
  have hdel:=deleteT_nil 242 entersOp (.pointer (some ⟨W.heap.size,0,none⟩)) p0 c0 w1
  clear hv hpc hn hb1 hb2
  go_wp2_with fail
  refine hdel.mono ?_
  rintro e w2 ⟨rfl,hb4⟩
  clear hdel cb
  go_wp2
  go_ret
  exact⟨_,rfl,Or.inl ⟨HN.out,HPC.out⟩,below_then hb3 hb4⟩
end
end Go.Proofs.YtfhmfjcpggddkaaGreatDoor
namespace Go.Proofs.YtfhmfjcpggddkaaGreatDoor
open Go.RowKit
theorem refIx_core (b o c:Nat)(xs:List ByteArray)(s:ByteArray)(hm:s∈xs)(w:World)(hx:∀k (h:k<xs.length),w.cell? ⟨b,o+k,none⟩=some (.string xs[k]))(hl:xs.length<1000000) :
  Calls Tryz.prog 73 #[.slice (some ⟨b,o,none⟩) xs.length c,.string s] w fun e w'=>e=.returned (.int .i64 (Lh.ix xs s:Nat))∧w'=w:=by
 have HX:Hid (∀k (h:k<xs.length),w.cell? ⟨b,o+k,none⟩=some (.string xs[k])):=hx
 have HM:Hid (s∈xs):=hm
 clear hx hm
 go_enter Tryz.func73,Tryz.ntmps73
 go_wp2
 go_loop [5] (fun t=>∃k:Nat,k≤xs.length∧t=.int .i64 k∧∀j (h:j<xs.length),j<k→xs[j]≠s) (fun t=>xs.length - (intOf t).toNat)
 case atStart=>exact⟨0,Nat.zero_le _,rfl,fun j _ h=>absurd h (by omega)⟩
 case round =>
  obtain⟨k,hk,rfl,hpre⟩:=hrel
  have HP:Hid (∀j (h:j<xs.length),j<k→xs[j]≠s):=hpre
  clear hpre
  by_cases hlt:k<xs.length
  ·have cx:=HX.out k hlt
   by_cases heq:xs[k]=s
   ·have HI:Hid (Lh.ix xs s=k):=Lh.ix_first hlt heq HP.out
    generalize xs[k]=xk at *
    have hne:(xk.toList==s.toList)=true:=bytes_same heq
    clear heq
    go_wp2
    go_ret
    exact⟨congrArg (fun z:Nat=>Ending.returned (.int .i64 (z:Int))) HI.out.symm,rfl⟩
   ·have HE:Hid (xs[k]≠s):=heq
    generalize hxk:xs[k]=xk at *
    have HXK:Hid (xs[k]=xk):=hxk
    have hne:(xk.toList==s.toList)=false:=bytes_parts heq
    clear heq hxk
    go_wp2
    go_round
    case rel =>
     refine⟨k+1,by omega,by go_num,fun j h hj=>?_⟩
     by_cases hjk:j=k
     ·subst hjk;rw[HXK.out];exact HE.out
     ·exact HP.out j h (by omega)
    case measure=>simp[intOf];omega
  ·exfalso
   obtain⟨j,hj,e⟩:=List.getElem_of_mem HM.out
   exact HP.out j hj (by omega) e
theorem someFault_none (p:Option Addr)(c:Nat)(w:World) :
  Calls Tryz.prog 64 #[.slice p 0 c] w fun e w'=>e=.returned (.agg #[.int .i64 5,.int .i64 (-1)])∧Below w.heap.size w w':=by
 have hbW:=(Below.refl w.heap.size w).alloc (Nat.le_refl _) (.cells #[.int .i64 0,.int .i64 0] 59)
 go_enter Tryz.func64,Tryz.ntmps64
 go_wp2_with fail
 refine (bare_any _ _).mono ?_
 rintro e w1 ⟨rfl,hb1⟩
 have c0:w1.cell? ⟨w.heap.size,0,none⟩=some (.int .i64 0):=below_cell hb1 (by simp)
 have c1:w1.cell? ⟨w.heap.size,1,none⟩=some (.int .i64 0):=below_cell hb1 (by simp)
 have f0:w1.frozen? ⟨w.heap.size,0,none⟩=false:=by rw[hb1.frozen (by simp)];simp
 have f1:w1.frozen? ⟨w.heap.size,1,none⟩=false:=by rw[hb1.frozen (by simp)];simp
 have hbz:Below w.heap.size w w1:=hbW.trans (hb1.mono (by simp))
 clear hb1 hbW
 go_wp2
 exact bodyPost_ret (v:=.agg #[.int .i64 5,.int .i64 (-1)]) (by simp[results,Tryz.results64,go_sem,c0,c1]) rfl ⟨rfl,(hbz.setCell (Nat.le_refl _) _).setCell (Nat.le_refl _) _⟩
theorem someFault_some (v:Value)(xs:List ByteArray)(w:World)(c:Nat)(pl:Int)(hv:Strs1 w v xs)(h0:0<xs.length)(hf:IsFault xs c pl)(hs:∀k (h:k<xs.length),(xs[k]).size≤1000000)(hm:xs.length<1000000) :
  Calls Tryz.prog 64 #[v] w fun e w'=>e=.returned (.agg #[.int .i64 c,.int .i64 pl])∧Below w.heap.size w w':=by
 have hbW:=(Below.refl w.heap.size w).alloc (Nat.le_refl _) (.cells #[.int .i64 0,.int .i64 0] 59)
 have hcall:=hfault_any v xs _ c pl (hv.later hbW).strs hf hs hm
 obtain⟨b,o,cp,rfl,hx⟩:=strs1_pos hv h0
 have hl0:((xs.length:Int)==0)=false:=by rw[beq_eq_false_iff_ne];omega
 clear hv hx hf hs
 go_enter Tryz.func64,Tryz.ntmps64
 go_wp2_with fail
 refine hcall.mono ?_
 rintro e w1 ⟨rfl,hb1⟩
 have c0:w1.cell? ⟨w.heap.size,0,none⟩=some (.int .i64 0):=below_cell hb1 (by simp)
 have c1:w1.cell? ⟨w.heap.size,1,none⟩=some (.int .i64 0):=below_cell hb1 (by simp)
 have f0:w1.frozen? ⟨w.heap.size,0,none⟩=false:=by rw[hb1.frozen (by simp)];simp
 have f1:w1.frozen? ⟨w.heap.size,1,none⟩=false:=by rw[hb1.frozen (by simp)];simp
 have hbz:Below w.heap.size w w1:=hbW.trans (hb1.mono (by simp))
 clear hb1 hbW hcall
 go_wp2
 exact bodyPost_ret (v:=.agg #[.int .i64 c,.int .i64 pl]) (by simp[results,Tryz.results64,go_sem,c0,c1]) rfl ⟨rfl,(hbz.setCell (Nat.le_refl _) _).setCell (Nat.le_refl _) _⟩
theorem someFault_any (v:Value)(xs:List ByteArray)(w:World)(c:Nat)(pl:Int)(hv:Strs1 w v xs)(hf:(xs=[]∧c=5∧pl = -1)∨(0<xs.length∧IsFault xs c pl))(hs:∀k (h:k<xs.length),(xs[k]).size≤1000000)(hm:xs.length<1000000) :
  Calls Tryz.prog 64 #[v] w fun e w'=>e=.returned (.agg #[.int .i64 c,.int .i64 pl])∧Below w.heap.size w w':=by
 rcases hf with⟨rfl,rfl,rfl⟩|⟨h0,hf⟩
 ·obtain⟨p,cp,rfl⟩:=hv.strs.slice
  exact someFault_none p cp w
 ·exact someFault_some v xs w c pl hv h0 hf hs hm
theorem cells_two {W:World}{b:Nat}{x y x0 y0:Value}(c0:W.cell? ⟨b,0,none⟩=some x0)(c1:W.cell? ⟨b,1,none⟩=some y0)(q:Obj) :
  (((W.setCell ⟨b,0,none⟩ x).setCell ⟨b,1,none⟩ y).alloc q).cell? ⟨b,0,none⟩=some x∧(((W.setCell ⟨b,0,none⟩ x).setCell ⟨b,1,none⟩ y).alloc q).cell? ⟨b,1,none⟩=some y:=by
 have e0:((W.setCell ⟨b,0,none⟩ x).setCell ⟨b,1,none⟩ y).cell? ⟨b,0,none⟩=some x:=by simp[go_sem,c0]
 have e1:((W.setCell ⟨b,0,none⟩ x).setCell ⟨b,1,none⟩ y).cell? ⟨b,1,none⟩=some y:=by simp[go_sem,c1]
 exact⟨below_cell ((Below.refl _ _).alloc (Nat.le_refl _) _) e0,below_cell ((Below.refl _ _).alloc (Nat.le_refl _) _) e1⟩
theorem tableFault_hosts (v:Value)(xs:List ByteArray)(n:Int)(w:World)(c:Nat)(pl:Int)(hv:Strs1 w v xs)(hf:(xs=[]∧c=5∧pl = -1)∨(0<xs.length∧IsFault xs c pl))(hc:c≠0)(hs:∀k (h:k<xs.length),(xs[k]).size≤1000000)(hm:xs.length<1000000) :
  Calls Tryz.prog 66 #[v,.int .i64 n] w fun e w'=>e=.returned (.agg #[.int .i64 c,.int .i64 pl])∧Below w.heap.size w w':=by
 have hc0:((c:Int)==0)=false:=by rw[beq_eq_false_iff_ne];omega
 have HV:Hid (Strs1 w v xs):=hv
 have HC:Hid (∀W,Below w.heap.size w W→Calls Tryz.prog 64 #[v] W fun e w'=>e=.returned (.agg #[.int .i64 c,.int .i64 pl])∧Below W.heap.size W w'):=fun W hW=>someFault_any v xs W c pl (hv.later hW) hf hs hm
 clear hv hf hs
 go_enter Tryz.func66,Tryz.ntmps66
 go_wp2_with fail
 have hbW:=(Below.refl w.heap.size w).alloc (Nat.le_refl _) (.cells #[.int .i64 0,.int .i64 0] 59)
 refine (HC.out _ hbW).mono ?_
 rintro e w1 ⟨rfl,hb1⟩
 have c0:w1.cell? ⟨w.heap.size,0,none⟩=some (.int .i64 0):=below_cell hb1 (by simp)
 have c1:w1.cell? ⟨w.heap.size,1,none⟩=some (.int .i64 0):=below_cell hb1 (by simp)
 have f0:w1.frozen? ⟨w.heap.size,0,none⟩=false:=by rw[hb1.frozen (by simp)];simp
 have f1:w1.frozen? ⟨w.heap.size,1,none⟩=false:=by rw[hb1.frozen (by simp)];simp
 have hsz:w.heap.size<w1.heap.size:=by have:=hb1.size;simp at this;omega
 have hbz:Below w.heap.size w w1:=hbW.trans (hb1.mono (by simp))
 clear hb1 hbW HC
 go_wp2
 have hh:=cells_two (x:=.int .i64 c) (y:=.int .i64 pl) c0 c1 (.cells #[.int .i64 c,.int .i64 pl] 59)
 exact bodyPost_ret (v:=.agg #[.int .i64 c,.int .i64 pl]) (by simp[results,Tryz.results66,go_sem,hh.1,hh.2]) rfl ⟨rfl,((hbz.setCell (Nat.le_refl _) _).setCell (Nat.le_refl _) _).alloc (by have:=hbz.size;simpa using this) _⟩
theorem tableFault_size (v:Value)(xs:List ByteArray)(n:Int)(w:World)(e0:Nat)(hv:Strs1 w v xs)(h0:0<xs.length)(hf:IsFault xs 0 (-1))(hn:-9223372036854775808≤n∧n≤9223372036854775807)(hse:Lh.SizeIs n e0)(hs:∀k (h:k<xs.length),(xs[k]).size≤1000000)(hm:xs.length<1000000) :
  Calls Tryz.prog 66 #[v,.int .i64 n] w fun e w'=>e=.returned (.agg #[.int .i64 e0,.int .i64 (-1)])∧Below w.heap.size w w':=by
 have HV:Hid (Strs1 w v xs):=hv
 have HC:Hid (∀W,Below w.heap.size w W→Calls Tryz.prog 64 #[v] W fun e w'=>e=.returned (.agg #[.int .i64 0,.int .i64 (-1)])∧Below W.heap.size W w'):=fun W hW=>someFault_any v xs W 0 (-1) (hv.later hW) (Or.inr ⟨h0,hf⟩) hs hm
 have HS:Hid (Lh.SizeIs n e0):=hse
 clear hv hf hs hse
 have hbW:=(Below.refl w.heap.size w).alloc (Nat.le_refl _) (.cells #[.int .i64 0,.int .i64 0] 59)
 have hc2:=HC.out _ hbW
 go_enter Tryz.func66,Tryz.ntmps66
 go_wp2_with fail
 refine hc2.mono ?_
 rintro e w1 ⟨rfl,hb1⟩
 have c0:w1.cell? ⟨w.heap.size,0,none⟩=some (.int .i64 0):=below_cell hb1 (by simp)
 have c1:w1.cell? ⟨w.heap.size,1,none⟩=some (.int .i64 0):=below_cell hb1 (by simp)
 have f0:w1.frozen? ⟨w.heap.size,0,none⟩=false:=by rw[hb1.frozen (by simp)];simp
 have f1:w1.frozen? ⟨w.heap.size,1,none⟩=false:=by rw[hb1.frozen (by simp)];simp
 have hsz:w.heap.size<w1.heap.size:=by have:=hb1.size;simp at this;omega
 have hbz:Below w.heap.size w w1:=hbW.trans (hb1.mono (by simp))
 clear hb1 hbW HC hc2
 go_wp2_with fail
 refine (sizeError_any n e0 _ hn HS.out).mono ?_
 rintro e w2 ⟨rfl,rfl⟩
 by_cases he:e0=0
 ·subst he
  go_wp2
  have hh:=cells_two (x:=.int .i64 0) (y:=.int .i64 (-1)) c0 c1 (.cells #[.int .i64 0,.int .i64 (-1)] 59)
  exact bodyPost_ret (v:=.agg #[.int .i64 0,.int .i64 (-1)]) (by simp[results,Tryz.results66,go_sem,hh.1,hh.2]) rfl ⟨rfl,((hbz.setCell (Nat.le_refl _) _).setCell (Nat.le_refl _) _).alloc (by have:=hbz.size;simpa using this) _⟩
 ·have hd:decide (0<(e0:Int))=true:=by simp;omega
  go_wp2_with fail
  refine (bare_any _ _).mono ?_
  rintro e w3 ⟨rfl,hb3⟩
  have d0:w3.cell? ⟨w.heap.size,0,none⟩=some (.int .i64 0):=below_cell hb3 (below_cell ((Below.refl _ _).alloc (Nat.le_refl _) _) c0)
  have d1:w3.cell? ⟨w.heap.size,1,none⟩=some (.int .i64 0):=below_cell hb3 (below_cell ((Below.refl _ _).alloc (Nat.le_refl _) _) c1)
  have g0:w3.frozen? ⟨w.heap.size,0,none⟩=false:=by rw[hb3.frozen (by simp;omega),((Below.refl w1.heap.size w1).alloc (Nat.le_refl _) _).frozen hsz];exact f0
  have g1:w3.frozen? ⟨w.heap.size,1,none⟩=false:=by rw[hb3.frozen (by simp;omega),((Below.refl w1.heap.size w1).alloc (Nat.le_refl _) _).frozen hsz];exact f1
  have hby:Below w.heap.size w w3:=(hbz.alloc hbz.size _).trans (hb3.mono (by simp;omega))
  clear hb3 c0 c1 f0 f1
  go_wp2
  exact bodyPost_ret (v:=.agg #[.int .i64 e0,.int .i64 (-1)]) (by simp[results,Tryz.results66,go_sem,d0,d1]) rfl ⟨rfl,(hby.setCell (Nat.le_refl _) _).setCell (Nat.le_refl _) _⟩
theorem tableFault_any (v:Value)(xs:List ByteArray)(n:Int)(w:World)(c:Nat)(pl:Int)(hv:Strs1 w v xs)(hf:TabFault xs n c pl)(hn:-9223372036854775808≤n∧n≤9223372036854775807)(hs:∀k (h:k<xs.length),(xs[k]).size≤1000000)(hm:xs.length<1000000) :
  Calls Tryz.prog 66 #[v,.int .i64 n] w fun e w'=>e=.returned (.agg #[.int .i64 c,.int .i64 pl])∧Below w.heap.size w w':=by
 rcases hf with⟨h,rfl,rfl⟩|⟨h0,hf,hc⟩|⟨h0,hf,hse,rfl⟩
 ·exact tableFault_hosts v xs n w 5 (-1) hv (Or.inl ⟨h,rfl,rfl⟩) (by decide) hs hm
 ·exact tableFault_hosts v xs n w c pl hv (Or.inr ⟨h0,hf⟩) hc hs hm
 ·exact tableFault_size v xs n w c hv h0 hf hn hse hs hm
def castL (av:List Nat):List Int:=av.map (fun k:Nat=>(k:Int))
theorem castL_length (av:List Nat):(castL av).length=av.length:=by simp[castL]
theorem castL_set (av:List Nat)(k q:Nat):(castL av).set k (q:Nat)=castL (av.set k q):=by simp[castL,List.map_set]
theorem castL_set_at (av:List Nat)(k q:Nat)(h:k<(castL (av.set k q)).length):(castL (av.set k q))[k]=((q:Nat):Int):=by simp[castL]
theorem set_self (av:List Nat)(k:Nat)(h:k<av.length):av.set k (av.getD k 0)=av:=by
 rw[List.getD_eq_getElem?_getD,List.getElem?_eq_getElem h]
 simp
theorem set_set_nat (av:List Nat)(k q q':Nat):(av.set k q).set k q'=av.set k q':=by simp
theorem getD_set (av:List Nat)(k j q:Nat)(h:k<av.length):(av.set k q).getD j 0=if j=k then q else av.getD j 0:=by
 rw[List.getD_eq_getElem?_getD,List.getD_eq_getElem?_getD,List.getElem?_set]
 by_cases e:j=k
 ·subst e;simp[h]
 ·simp[e,Ne.symm e]
def nextA (W:World)(ga k:Nat):Nat:=(((W.cell? ⟨ga,k,none⟩).map intOf).getD 0).toNat
theorem nextA_at {W:World}{ga k q:Nat}(h:W.cell? ⟨ga,k,none⟩=some (.int .i64 (q:Nat))):nextA W ga k=q:=by
 unfold nextA
 rw[h]
 simp[intOf]
theorem turn_find {xs:List ByteArray}{n T:Nat}(hp:Lh.Prm n)(h0:0<xs.length)(hT:T<n){p0:Nat}(htk:∀q,q<p0→0≤(Lh.tab xs n T).getD (Lh.rowsN (Lh.sortT xs) n (T % xs.length) q) 0) :
  ∃p,p<n∧p0≤p∧(∀q,p0≤q→q<p→0≤(Lh.tab xs n T).getD (Lh.rowsN (Lh.sortT xs) n (T % xs.length) q) 0)∧(Lh.tab xs n T).getD (Lh.rowsN (Lh.sortT xs) n (T % xs.length) p) 0<0 ∧
   Lh.tab xs n (T+1)=(Lh.tab xs n T).set (Lh.rowsN (Lh.sortT xs) n (T % xs.length) p) (Lh.ix xs (Lh.nameAt (Lh.sortT xs) (T % xs.length)):Nat)∧∀q,q<p→0≤(Lh.tab xs n (T+1)).getD (Lh.rowsN (Lh.sortT xs) n (T % xs.length) q) 0:=by
 have hk:T % xs.length<xs.length:=Nat.mod_lt _ h0
 obtain⟨hpn,hfree,hall⟩:=Lh.pick_spec (Lh.tab_free (xs:=xs) hp h0 hT hk)
 refine⟨_,hpn,?_,fun q _ hq=>hall q hq,hfree,Lh.tab_step hpn hfree hall,fun q hq=>Lh.tab_keeps hp h0 (hall q hq)⟩
 rcases Nat.lt_or_ge (Lh.pick (Lh.tab xs n T) (Lh.rowsN (Lh.sortT xs) n (T % xs.length)) n) p0 with hlt|hge
 ·have:=htk _ hlt
  omega
 ·exact hge
structure TAbs (xs:List ByteArray)(n:Nat)(nm:Nat→ByteArray)(R:Nat→Nat→Nat)(tb:Nat→List Int)(vx:Nat→Nat):Prop where
 tb0:tb 0=List.replicate n (-1)
 len:∀T,(tb T).length=n
 lt:∀k q,R k q<n
 keeps:∀T x,0≤(tb T).getD x 0→0≤(tb (T+1)).getD x 0
 find:∀T p0,T<n→(∀q,q<p0→0≤(tb T).getD (R (T % xs.length) q) 0)→∃p,p<n∧p0≤p∧(∀q,p0≤q→q<p→0≤(tb T).getD (R (T % xs.length) q) 0)∧(tb T).getD (R (T % xs.length) p) 0<0 ∧
  tb (T+1)=(tb T).set (R (T % xs.length) p) (vx (T % xs.length):Nat)∧∀q,q<p→0≤(tb (T+1)).getD (R (T % xs.length) q) 0
 row:∀k,k<xs.length→∀W:World,Calls Tryz.prog 124 #[.string (nm k),.int .i64 n] W fun e w'=>∃g c,e=.returned (.slice (some ⟨g,0,none⟩) n c)∧W.heap.size≤g∧(∀j,j<n→w'.cell? ⟨g,j,none⟩=some (.int .i64 (R k j:Nat)))∧Below W.heap.size W w'
 name:∀k (h:k<(Lh.sortT xs).length),(Lh.sortT xs)[k]=nm k
 index:∀b o c k,k<xs.length→∀W:World,(∀j (h:j<xs.length),W.cell? ⟨b,o+j,none⟩=some (.string xs[j]))→Calls Tryz.prog 73 #[.slice (some ⟨b,o,none⟩) xs.length c,.string (nm k)] W fun e w'=>e=.returned (.int .i64 (vx k:Nat))∧w'=W
theorem tableOf_core (b o c:Nat)(xs:List ByteArray)(n:Nat)(nm:Nat→ByteArray)(R:Nat→Nat→Nat)(tb:Nat→List Int)(vx:Nat→Nat)(habs:TAbs xs n nm R tb vx)(w:World)(hx:∀k (h:k<xs.length),w.cell? ⟨b,o+k,none⟩=some (.string xs[k]))(h0:0<xs.length)(h12:xs.length≤12)(hcap:xs.length≤c)(h2:2≤n)(h5:n≤503) :
  Calls Tryz.prog 74 #[.slice (some ⟨b,o,none⟩) xs.length c,.int .i64 n] w fun e w'=>∃g,e=.returned (.slice (some ⟨g,0,none⟩) n n)∧w.heap.size≤g∧IntRow w' g (tb n)∧Below w.heap.size w w':=by
 obtain⟨i,hi,hz0,hz1,hz2⟩:=info_parts infoI
 have hsort:=sortedOf_any (.slice (some ⟨b,o,none⟩) xs.length c) xs w (Or.inr ⟨b,o,c,rfl,hcap,hx⟩) (by omega)
 have HX:Hid (∀k (h:k<xs.length),w.cell? ⟨b,o+k,none⟩=some (.string xs[k])):=hx
 have ABS:Hid (TAbs xs n nm R tb vx):=habs
 clear hx habs
 have hl0:((xs.length:Int)==0)=false:=by rw[beq_eq_false_iff_ne];omega
 have hbyt:i.bytes*n≤281474976710656:=by rw[hz2];omega
 have hmax:n≤maxLen:=by unfold maxLen;omega
 have hbyt2:i.bytes*xs.length≤281474976710656:=by rw[hz2];omega
 have hmax2:xs.length≤maxLen:=by unfold maxLen;omega
 go_enter Tryz.func74,Tryz.ntmps74
 go_wp2_with fail
 refine hsort.mono ?_
 rintro e w1 ⟨vn,rfl,hvn,hb1⟩
 clear hsort
 have hlen:(Lh.sortT xs).length=xs.length:=Lh.sortT_length xs
 obtain⟨nb,no,nc,rfl,hn⟩:=strs1_pos hvn (by omega)
 rw[hlen]
 have HN:Hid (∀k (h:k<(Lh.sortT xs).length),w1.cell? ⟨nb,no+k,none⟩=some (.string (Lh.sortT xs)[k])):=hn
 have HLEN:Hid ((Lh.sortT xs).length=xs.length):=hlen
 clear hn hvn hlen
 go_wp2_with (at_make;refine wpList_make_full _ rfl _ _ 34 rfl w1.heap.size 3 i _ 1 Tryz.underlying34 hi hz0 hz1 _ _ _ _ n rfl rfl rfl rfl hbyt hmax (Nat.le_refl _) ?_)
 intro w2 hown hgrow
 have hb2:Below w1.heap.size w1 w2:=below_grown hgrow (fun k h=>by cases h)
 rw[made_ints2] at hown
 have hrow0:=IntRow.of_owns hown
 have hgb:=hb1.size
 have hnb:nb<w1.heap.size:=World.block_lt_of_cell? w1 ⟨nb,no+0,none⟩ (HN.out 0 (by rw[HLEN.out];exact h0))
 clear hown hgrow
 have HB1:Hid (Below w.heap.size w w1):=hb1
 clear hb1
 obtain⟨g,hgg⟩:∃g,w1.heap.size=g:=⟨_,rfl⟩
 rw[hgg] at hrow0 hgb hnb hb2
 rw[hgg]
 clear hgg
 go_wp2_with fail
 go_loopw [7] (fun t W=>Below g w1 W∧∃j:Nat,j≤n∧t=.int .i64 j∧∃ys:List Int,ys.length=n∧ys.take j=List.replicate j (-1)∧IntRow W g ys) (fun t _=>n - (intOf t).toNat)
 case atStart=>exact⟨hb2,0,Nat.zero_le _,rfl,_,by simp,by simp,hrow0⟩
 case round =>
  obtain⟨hbg,j,hj,rfl,ys,hlen,htake,hrow⟩:=hrel
  have HT:Hid (ys.take j=List.replicate j (-1)):=htake
  have HYL:Hid (ys.length=n):=hlen
  have HR:Hid (IntRow wr g ys):=hrow
  clear htake hrow0 hb2
  by_cases hlt:j<n
  ·obtain⟨x0,c0⟩:∃x,wr.cell? ⟨g,j,none⟩=some (.int .i64 x):=⟨_,hrow.cell (k:=j) (by omega)⟩
   have f0:=hrow.frozen j
   have hd:decide ((j:Int)<(n:Int))=true:=by simp;omega
   clear hrow hlen
   go_wp2_with fail
   go_roundw
   case rel =>
    refine⟨hbg.setCell (Nat.le_refl _) _,j+1,by omega,by go_num,ys.set j (-1),by simp[HYL.out],?_,HR.out.set _ _⟩
    rw[take_set_snoc (by rw[HYL.out];exact hlt),HT.out,List.replicate_succ']
   case measure=>simp[intOf];omega
  ·have hd:decide ((j:Int)<(n:Int))=false:=by simp;omega
   have hfin:IntRow wr g (tb 0):=by
    have h1:=HT.out
    rw[List.take_of_length_le (by rw[HYL.out];omega),show j=n by omega,←ABS.out.tb0] at h1
    rw[←h1]
    exact hrow
   have HF:Hid (IntRow wr g (tb 0)):=hfin
   have hglt:=hfin.lt
   clear hfin hrow hlen HT HYL HR
   go_wp2_with (at_make;refine wpList_make_full _ rfl _ _ 34 rfl wr.heap.size 3 i _ 1 Tryz.underlying34 hi hz0 hz1 _ _ _ _ xs.length rfl rfl rfl rfl hbyt2 hmax2 (Nat.le_refl _) ?_)
   intro w4 hown hgrow
   have hb4:Below wr.heap.size wr w4:=below_grown hgrow (fun k h=>by cases h)
   rw[made_ints2] at hown
   have hat0:=IntRow.of_owns hown
   have HO4:Hid (IntRow w4 g (tb 0)):=HF.out.later hb4
   have HB4:Hid (Below g w1 w4):=hbg.trans (hb4.mono (by omega))
   have hat1:IntRow w4 wr.heap.size (castL (List.replicate xs.length 0)):=by simpa [castL] using hat0
   have HA4:Hid (IntRow w4 wr.heap.size (castL (List.replicate xs.length 0))):=hat1
   clear hown hgrow hbg hb4 HF hat0 hat1
   generalize wr.heap.size=ga at *
   go_wp2_with fail
   go_loopw [9] (fun t W=>Below g w1 W∧∃T:Nat,T≤n∧t=.int .i64 T∧IntRow W g (tb T)∧∃av:List Nat,av.length=xs.length∧IntRow W ga (castL av)∧∀k,k<xs.length→∀q,q<av.getD k 0→0≤(tb T).getD (R k q) 0) (fun t _=>n - (intOf t).toNat)
   case atStart=>exact⟨HB4.out,0,Nat.zero_le _,rfl,HO4.out,_,by simp,HA4.out,fun k hk q hq=>absurd hq (by simp[List.getD,hk])⟩
   case round =>
    obtain⟨hbg,T,hT,rfl,hout,av,hal,hat,hprop⟩:=hrel
    have HO:Hid (IntRow wr g (tb T)):=hout
    have HA:Hid (IntRow wr ga (castL av)):=hat
    have HAL:Hid (av.length=xs.length):=hal
    have HPR:Hid (∀k,k<xs.length→∀q,q<av.getD k 0→0≤(tb T).getD (R k q) 0):=hprop
    have HBG:Hid (Below g w1 wr):=hbg
    clear hout hal hprop HO4 HB4 HA4
    by_cases hTn:T<n
    ·obtain⟨p,hpn,hpp,htk,hfree,htab,htk'⟩:=ABS.out.find T _ hTn (HPR.out _ (Nat.mod_lt _ h0))
     have hmod:T % xs.length<xs.length:=Nat.mod_lt _ h0
     have hks:T % xs.length<(Lh.sortT xs).length:=by rw[HLEN.out];exact hmod
     have cn:wr.cell? ⟨nb,no+T % xs.length,none⟩=some (.string (nm (T % xs.length))):=by
      rw[hbg.cell (p:=⟨nb,no+T % xs.length,none⟩) hnb,←ABS.out.name _ hks]
      exact HN.out _ hks
     have hkc:(T:Int) % (xs.length:Int)=((T % xs.length:Nat):Int):=by simp
     have hd:decide ((T:Int)<(n:Int))=true:=by simp;omega
     have hgga:g<ga:=hglt
     have hgalt:=hat.lt
     clear hat hks
     generalize hk0:T % xs.length=k0 at *
     have HK0:Hid (T % xs.length=k0):=hk0
     have HTK:Hid (∀q,av.getD k0 0≤q→q<p→0≤(tb T).getD (R k0 q) 0):=htk
     have HFR:Hid ((tb T).getD (R k0 p) 0<0):=hfree
     have HTAB:Hid (tb (T+1)=(tb T).set (R k0 p) (vx k0:Nat)):=htab
     have HTK':Hid (∀q,q<p→0≤(tb (T+1)).getD (R k0 q) 0):=htk'
     clear hk0 htk hfree htab htk'
     have hki:(k0:Int)<(xs.length:Int):=by omega
     have hrowc:=ABS.out.row k0 hmod wr
     clear hbg
     go_wp2_with fail
     refine hrowc.mono ?_
     rintro e w6 ⟨rg,rc,rfl,hrg,hrcell,hb6⟩
     have HRC:Hid (∀j,j<n→w6.cell? ⟨rg,j,none⟩=some (.int .i64 (R k0 j:Nat))):=hrcell
     have HO6:Hid (IntRow w6 g (tb T)):=HO.out.later hb6
     have HA6:Hid (IntRow w6 ga (castL av)):=HA.out.later hb6
     have HB6:Hid (Below g w1 w6):=HBG.out.trans (hb6.mono (Nat.le_trans (Nat.le_of_lt hgga) (Nat.le_of_lt hgalt)))
     have cn6:=below_cell hb6 cn
     have hrga:rg≠ga:=by omega
     clear hrcell hrowc hb6 cn HO HA HBG
     go_wp2_with fail
     try rw[hkc]
     clear hkc
     have HSS:Hid (IntRow w6 ga (castL (av.set k0 (av.getD k0 0)))):=by rw[set_self av k0 (by rw[HAL.out];exact hmod)];exact HA6.out
     go_loopw [] (fun W=>Two ga ga w6 W∧∃q:Nat,av.getD k0 0≤q∧q≤p∧IntRow W ga (castL (av.set k0 q))) (fun W=>n - nextA W ga k0)
     case atStart=>exact⟨Two.refl _ _ _,_,Nat.le_refl _,hpp,HSS.out⟩
     case round =>
      obtain⟨h2w,q,hq0,hqp,hat⟩:=hrel
      have H2W:Hid (Two ga ga w6 wr):=h2w
      have HAT:Hid (IntRow wr ga (castL (av.set k0 q))):=hat
      have hkl:∀q,k0<(castL (av.set k0 q)).length:=fun q=>by rw[castL_length];simp[HAL.out];exact hmod
      have HKL:Hid (∀q,k0<(castL (av.set k0 q)).length):=hkl
      have ca:=hat.cell (hkl q)
      rw[castL_set_at] at ca
      have fa:=hat.frozen k0
      have cr:wr.cell? ⟨rg,q,none⟩=some (.int .i64 (R k0 q:Nat)):=by
       rw[World.cell?_of_block (w:=w6) (h2w.block rg hrga hrga)]
       exact HRC.out q (by omega)
      have hxn:=ABS.out.lt k0 q
      have hog:IntRow wr g (tb T):=HO6.out.same (h2w.block g (by omega) (by omega))
      have HOG:Hid (IntRow wr g (tb T)):=hog
      have co:wr.cell? ⟨g,R k0 q,none⟩=some (.int .i64 ((tb T).getD (R k0 q) 0)):=by
       rw[hog.cell (by rw[ABS.out.len];exact hxn),getD_at (by rw[ABS.out.len];exact hxn)]
      have fo:=hog.frozen (R k0 q)
      have HNX:Hid (nextA wr ga k0=q):=nextA_at ca
      have cn7:wr.cell? ⟨nb,no+k0,none⟩=some (.string (nm k0)):=by
       rw[World.cell?_of_block (w:=w6) (h2w.block nb (by omega) (by omega))]
       exact cn6
      have hbW:Below g w1 wr:=h2w.below HB6.out (by omega) (by omega)
      have HBW:Hid (Below g w1 wr):=hbW
      have HIX:Hid (∀W:World,W.heap=wr.heap→Calls Tryz.prog 73 #[.slice (some ⟨b,o,none⟩) xs.length c,.string (nm k0)] W fun e w'=>e=.returned (.int .i64 (vx k0:Nat))∧w'=W):=fun W hW=>ABS.out.index b o c k0 hmod W (fun j h=>by
       have h1:=below_cell (HB1.out.trans (hbW.mono hgb)) (HX.out j h)
       rw[World.cell?_of_block (w:=wr) (by rw[hW])]
       exact h1)
      clear hog hat h2w hkl hbW
      have hqi:(q:Int)<(n:Int):=by omega
      have hxi:(R k0 q:Int)<(n:Int):=by omega
      by_cases hqq:q<p
      ·have hv:=HTK.out q hq0 hqq
       generalize (tb T).getD (R k0 q) 0=val at *
       generalize R k0 q=x at *
       have hge:decide (0≤val)=true:=by simpa using hv
       clear HIX
       go_wp2_with fail
       have hcast:(q:Int)+1=((q+1:Nat):Int):=rfl
       rw[hcast]
       have hst:=HAT.out.set k0 ((q+1:Nat):Int)
       rw[castL_set,set_set_nat] at hst
       refine⟨⟨H2W.out.setX k0 _,q+1,by omega,by omega,hst⟩,?_⟩
       have ca':=hst.cell (HKL.out _)
       rw[castL_set_at] at ca'
       rw[nextA_at ca',HNX.out]
       omega
      ·have hqe:q=p:=by omega
       subst hqe
       have hv:=HFR.out
       generalize (tb T).getD (R k0 q) 0=val at *
       generalize R k0 q=x at *
       have hge:decide (0≤val)=false:=by simp;omega
       clear hv
       go_wp2_with fail
       go_region_with (go_at_call 73;refine (HIX.out wr.drew rfl).mono ?_;rintro e w' ⟨rfl,rfl⟩)
       all_goals
        go_wp2_with fail
        refine⟨⟨(HBW.out.setCell (Nat.le_refl _) _).drew,T+1,by omega,by go_num,?_,av.set k0 q,by simp[HAL.out],?_,fun k hk q' hq'=>?_⟩,by simp[intOf];omega⟩
        ·rw[HTAB.out]
         exact HOG.out.set x _
        ·exact HAT.out.same (heap_setCell_other wr ⟨g,x,none⟩ ga _ (Nat.ne_of_gt hgga))
        ·rw[getD_set _ _ _ _ (by rw[HAL.out];exact hmod)] at hq'
         by_cases e:k=k0
         ·rw[if_pos e] at hq'
          rw[e]
          exact HTK'.out q' hq'
         ·rw[if_neg e] at hq'
          exact ABS.out.keeps T _ (HPR.out k hk q' hq')
    ·have hd:decide ((T:Int)<(n:Int))=false:=by simp;omega
     have hTe:T=n:=by omega
     have HFO:Hid (IntRow wr g (tb n)):=by rw[←hTe];exact HO.out
     have HFB:Hid (Below w.heap.size w wr):=HB1.out.trans (hbg.mono hgb)
     clear hbg hat
     go_wp2
     go_ret
     exact⟨g,rfl,hgb,HFO.out,HFB.out⟩
theorem tableOf_any (b o c:Nat)(xs:List ByteArray)(n:Nat)(w:World)(hx:∀k (h:k<xs.length),w.cell? ⟨b,o+k,none⟩=some (.string xs[k]))(h0:0<xs.length)(h12:xs.length≤12)(hsz:∀k (h:k<xs.length),(xs[k]).size≤300)(hcap:xs.length≤c)(hp:Lh.Prm n)(h5:n≤503) :
  Calls Tryz.prog 74 #[.slice (some ⟨b,o,none⟩) xs.length c,.int .i64 n] w fun e w'=>∃g,e=.returned (.slice (some ⟨g,0,none⟩) n n)∧w.heap.size≤g∧IntRow w' g (Lh.tab xs n n)∧Below w.heap.size w w':=by
 refine tableOf_core b o c xs n (Lh.nameAt (Lh.sortT xs)) (Lh.rowsN (Lh.sortT xs) n) (Lh.tab xs n) (fun k=>Lh.ix xs (Lh.nameAt (Lh.sortT xs) k)) ?_ w hx h0 h12 hcap hp.1 h5
 refine⟨rfl,fun T=>Lh.tab_length _ _ _,fun k q=>Lh.rowAt_lt hp.1,fun T x h=>Lh.tab_keeps hp h0 h,fun T p0 hT h=>turn_find hp h0 hT h,fun k hk W=>?_,fun k h=>(Lh.nameAt_lt h).symm,fun b o c k hk W hW=>refIx_core b o c xs _ (Lh.nameAt_mem hk) W hW (by omega)⟩
 refine rowOf_at (Lh.nameAt (Lh.sortT xs) k) n W ?_ hp.1 h5
 rw[←Lh.ix_at (Lh.nameAt_mem hk)]
 exact hsz _ _
end Go.Proofs.YtfhmfjcpggddkaaGreatDoor
