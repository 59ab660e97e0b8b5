/- The model of health: Find, IsUp and Ups. -/
import Derived.Test.YtfhmfjcpggddkaaGreatDoorM10
import Derived.Deep.AppendLies
import Derived.Deep.RegionLaw
import Derived.Test.YtfhmfjcpggddkaaGreatDoorM4
import Derived.Test.YtfhmfjcpggddkaaGreatDoorM5
set_option maxHeartbeats 20000000
set_option maxRecDepth 100000
namespace Go.Proofs.YtfhmfjcpggddkaaGreatDoor
open Go.RowKit
theorem find_zero (m:Nat)(p:Option Addr)(cap:Nat)(s:ByteArray)(W:World)(c2:W.cell? ⟨m,2,none⟩=some (.slice p 0 cap)) :
  Calls Tryz.prog 78 #[.pointer (some ⟨m,0,none⟩),.string s] W fun e w'=>e=.returned (.int .i64 (-1))∧w'=W:=by
 go_enter Tryz.func78,Tryz.ntmps78
 go_wp2_with fail
 go_loop [5] (fun t=>t=.int .i64 0) (fun _=>0)
 case atStart=>rfl
 case round =>
  obtain rfl:=hrel
  go_wp2
  go_ret
  exact⟨rfl,rfl⟩
theorem own_zero {w:World}{base:Nat}{e:TypeId}{size:Nat}{v:Value}{xs:List Value}(h:w.ownsRow base e size v 0 xs):∃p cap,v=.slice p 0 cap:=by
 obtain⟨h1,⟨rfl,_⟩|⟨g,cap,cur,rfl,_⟩⟩:=h
 ·exact⟨_,_,rfl⟩
 ·exact⟨_,_,rfl⟩
theorem find_any {W:World}{m f r:Nat}{L:List Mh}{lv:Value}(h:MH W m f r L lv)(hl:L.length≤12)(s:ByteArray) :
  Calls Tryz.prog 78 #[.pointer (some ⟨m,0,none⟩),.string s] W fun e w'=>e=.returned (.int .i64 (fi (hst L) s))∧w'=W:=by
 by_cases h0:0<L.length
 ·obtain⟨g,cap,rfl,_,_,_,hc,_⟩:=row_of_owns3 h.own h0
  exact find_core m g cap L s W hl h.c2 fun i hi=>(hc i hi).1
 ·obtain rfl:L=[]:=List.eq_nil_of_length_eq_zero (by omega)
  obtain⟨p,cap,rfl⟩:=own_zero h.own
  exact find_zero m p cap s W h.c2
theorem hup_at {l:List Lh.Hh}{s:ByteArray}(hn:(l.map fun x=>x.1).Nodup)(h:Lh.hix l s<l.length):Lh.hup l s=(l[Lh.hix l s]).2.1:=by
 have h1:=Lh.hix_get h
 cases e:(l[Lh.hix l s]).2.1 with
 | true =>
  unfold Lh.hup
  rw[List.any_eq_true]
  exact⟨_,List.getElem_mem h,by simp[h1,e]⟩
 | false =>
  unfold Lh.hup
  rw[List.any_eq_false]
  intro x hx hc
  simp only[Bool.and_eq_true,decide_eq_true_eq] at hc
  obtain⟨j,hj,rfl⟩:=List.getElem_of_mem hx
  have h2:j=Lh.hix l s:=by
   have h3:(l.map fun x=>x.1)[j]'(by simpa using hj)=(l.map fun x=>x.1)[Lh.hix l s]'(by simpa using h):=by
    simp only[List.getElem_map]
    rw[hc.1,h1]
   exact (List.getElem_inj hn).1 h3
  subst h2
  rw[e] at hc
  cases hc.2
theorem hup_none {l:List Lh.Hh}{s:ByteArray}(h:¬Lh.hix l s<l.length):Lh.hup l s=false:=by
 unfold Lh.hup
 rw[List.any_eq_false]
 intro x hx hc
 simp only[Bool.and_eq_true,decide_eq_true_eq] at hc
 exact h (Lh.hix_lt.2 ⟨x,hx,hc.1⟩)
theorem isUp_any {W:World}{m f r:Nat}{L:List Mh}{lv:Value}(h:MH W m f r L lv)(hk:Lh.HOk f r (hst L))(s:ByteArray) :
  Calls Tryz.prog 71 #[.pointer (some ⟨m,0,none⟩),.string s] W fun e w'=>e=.returned (.bool (Lh.hup (hst L) s))∧w'=W:=by
 have hl:L.length≤12:=by have:=hk.len;rwa [hst_length] at this
 have hfd:=find_any h hl s
 by_cases hx:Lh.hix (hst L) s<(hst L).length
 ·have HU:Hid (Lh.hup (hst L) s=((hst L)[Lh.hix (hst L) s]).2.1):=hup_at hk.nodup hx
  have e1:fi (hst L) s=(Lh.hix (hst L) s:Nat):=by unfold fi;rw[if_pos hx]
  rw[e1] at hfd
  have hx':Lh.hix (hst L) s<L.length:=by rwa [hst_length] at hx
  have e2:((hst L)[Lh.hix (hst L) s]).2.1=(L[Lh.hix (hst L) s]).up:=by rw[hst_get];rfl
  have HU2:Hid (Lh.hup (hst L) s=(L[Lh.hix (hst L) s]).up):=HU.out.trans e2
  generalize Lh.hix (hst L) s=k at *
  obtain⟨g,cap,rfl,_,_,_,hc,_⟩:=row_of_owns3 h.own (by omega)
  have c2:=h.c2
  have cu:=(hc k hx').2.1
  have hki:(k:Int)<(L.length:Int):=by omega
  clear h hc HU e1 e2 hk hx
  generalize (L[k]).up=u at *
  go_enter Tryz.func71,Tryz.ntmps71
  go_wp2_with fail
  refine hfd.mono ?_
  rintro e w1 ⟨rfl,rfl⟩
  clear hfd
  go_wp2
  go_ret
  exact⟨by rw[HU2.out];rfl,rfl⟩
 ·have e1:fi (hst L) s = -1:=by unfold fi;rw[if_neg hx]
  rw[e1] at hfd
  rw[hup_none hx]
  clear h hk hx e1
  go_enter Tryz.func71,Tryz.ntmps71
  go_wp2_with fail
  refine hfd.mono ?_
  rintro e w1 ⟨rfl,rfl⟩
  clear hfd
  go_wp2
  go_ret
  exact⟨rfl,rfl⟩
def upsN (L:List Mh)(k:Nat):List ByteArray:=Lh.hups (hst (L.take k))
theorem upsN_succ (L:List Mh){k:Nat}(h:k<L.length):upsN L (k+1)=upsN L k++(if (L[k]).up then [(L[k]).name] else []):=by
 unfold upsN Lh.hups hst
 rw[List.take_succ_eq_append_getElem h,List.map_append,List.filter_append,List.map_append]
 congr 1
 cases e:(L[k]).up<;>simp[Mh.st,e]
theorem upsN_len (L:List Mh)(k:Nat)(h:k≤L.length):(upsN L k).length≤k:=by
 unfold upsN Lh.hups hst
 rw[List.length_map]
 refine Nat.le_trans (List.length_filter_le _ _) ?_
 rw[List.length_map,List.length_take]
 omega
theorem ups_any {W:World}{m f r:Nat}{L:List Mh}{lv:Value}(h:MH W m f r L lv)(hl:L.length≤12) :
  Calls Tryz.prog 28 #[.pointer (some ⟨m,0,none⟩)] W fun e w'=>∃v,e=.returned v∧Strs1 w' v (Lh.hups (hst L))∧Below W.heap.size W w':=by
 obtain⟨i,hi,hz0,hz1,hz2⟩:=info_parts infoS
 obtain⟨p,cap,hlv⟩:∃p cap,lv=.slice p L.length cap:=by
  by_cases h0:0<L.length
  ·obtain⟨g,cap,rfl,_⟩:=row_of_owns3 h.own h0
   exact⟨_,_,rfl⟩
  ·have e0:L.length=0:=by omega
   have:=h.own
   rw[e0] at this
   rw[e0]
   exact own_zero this
 have HC:Hid (∀i (hi:i<L.length),∃g,p=some ⟨g,0,none⟩∧W.cell? ⟨g,i*3,none⟩=some (.string L[i].name)∧W.cell? ⟨g,i*3+1,none⟩=some (.bool L[i].up)):=fun i hi=>by
  obtain⟨g,cap',e,_,_,_,hc,_⟩:=row_of_owns3 h.own (by omega)
  rw[hlv] at e
  cases e
  exact⟨g,rfl,(hc i hi).1,(hc i hi).2.1⟩
 have c2:=h.c2
 subst hlv
 clear h
 go_enter Tryz.func28,Tryz.ntmps28
 go_wp2_with fail
 go_loopw [3,4] (fun v t W'=>Below W.heap.size W W'∧∃k:Nat,k≤L.length∧t=.int .i64 (k:Nat)∧W'.ownsRow W.heap.size 9 1 v (upsN L k).length ((upsN L k).map Value.string)) (fun _ t _=>L.length - (intOf t).toNat)
 case atStart=>exact⟨Below.refl _ _,0,Nat.zero_le _,rfl,World.ownsRow_nil _ _ _ _⟩
 case round =>
  obtain⟨hb,k,hk,rfl,hown⟩:=hrel
  obtain⟨wo,hwo⟩:∃wo,wo=wr:=⟨_,rfl⟩
  subst hwo
  obtain⟨vo,hvo⟩:∃vo,vo=u3:=⟨_,rfl⟩
  subst hvo
  have c2':=below_cell hb c2
  by_cases hlt:k<L.length
  ·obtain⟨g,rfl,cn,cu⟩:=HC.out k hlt
   have cn':=below_cell hb cn
   have cu':=below_cell hb cu
   have hki:(k:Int)<(L.length:Int):=by omega
   have hul:=upsN_len L k (by omega)
   have hsu:=upsN_succ L hlt
   clear cn cu
   generalize (L[k]).name=s at *
   cases hu:(L[k]).up with
   | true =>
    rw[hu] at cu' hsu
    simp only[if_true] at hsu
    have HSU:Hid (upsN L (k+1)=upsN L k++[s]):=hsu
    clear hu hsu
    generalize upsN L k=out at *
    have hown3:=hown.alloc (.cells #[.string s] 9)
    have hnews:=cells_one (w:=wo) (t:=9) s
    have hbw3:Below W.heap.size W (wo.alloc (.cells #[.string s] 9)):=hb.alloc hb.size _
    have hmax:out.length+1≤maxLen:=by unfold maxLen;omega
    clear hown
    go_wp2_with (at_builtin;refine wpList_append_own _ rfl _ _ 22 rfl W.heap.size 9 i _ 1 16 Tryz.underlying22 hi hz0 hz1 hz2 rfl (by decide) vo out.length (out.map Value.string) rfl hown3 ⟨wo.heap.size,0,none⟩ 1 1 [.string s] rfl rfl hnews (fun u hu=>by simp at hu;subst hu;rfl) hmax (by omega) hbw3.size ?_)
    intro v' w4 hown4 hg4 _
    have hlo:=hown3.lt
    have hb4:Below W.heap.size W w4:=hbw3.grown hg4 hbw3.size (fun k hk=>(hlo k hk).1)
    have hown5:=owns_snoc hown4
    have HOUT:Hid (w4.ownsRow W.heap.size 9 1 v' (out++[s]).length ((out++[s]).map Value.string)):=by rw[List.length_append];exact hown5
    clear hown3 hnews hlo hg4 hbw3 hmax hown4 hown5
    go_wp2
    exact⟨⟨hb4,k+1,by omega,by go_num,by rw[HSU.out];exact HOUT.out⟩,by simp[intOf];omega⟩
   | false =>
    rw[hu] at cu' hsu
    simp only[Bool.false_eq_true,if_false,List.append_nil] at hsu
    have HOUT:Hid (wo.ownsRow W.heap.size 9 1 vo (upsN L (k+1)).length ((upsN L (k+1)).map Value.string)):=by rw[hsu];exact hown
    clear hu hsu hown
    go_wp2
    exact⟨⟨hb,k+1,by omega,by go_num,HOUT.out⟩,by simp[intOf];omega⟩
  ·have hki:decide ((k:Int)<(L.length:Int))=false:=by simp;omega
   have HS:Hid (Strs1 wo vo (Lh.hups (hst L))):=by
    have h1:=strs_of_owns hown
    have e:k=L.length:=by omega
    unfold upsN at h1
    rw[e,List.take_length] at h1
    exact h1
   clear hown
   go_wp2
   go_ret
   exact⟨_,rfl,HS.out,hb⟩
theorem infoH:(Tryz.prog.info? 127).map (fun i=>(i.zero,i.size,i.bytes))=some (some (.agg #[.string ByteArray.empty,.bool false,.slice none 0 0]),3,48):=by kernel_rfl
theorem hfar_cell {wr W w1:World}{o:Obj}{row:Option Nat}{x k:Nat}{val:Value}(hW:W.heap=wr.heap.push o)(hg:W.grownBy w1 row)(hne:some x≠row)(h:wr.cell? ⟨x,k,none⟩=some val):w1.cell? ⟨x,k,none⟩=some val:=by
 have hx:x<wr.heap.size:=World.block_lt_of_cell? wr ⟨x,k,none⟩ h
 have hx2:x<W.heap.size:=by rw[hW];simp;omega
 have e:w1.heap[x]?=wr.heap[x]?:=by
  rw[hg.block x hx2 hne,hW,Array.getElem?_push_lt hx,Array.getElem?_eq_getElem hx]
 rw[World.cell?_of_block (w:=wr) (w':=w1) (a:=⟨x,k,none⟩) e]
 exact h
theorem hfar_frozen {wr W w1:World}{o:Obj}{row:Option Nat}{x k:Nat}(hW:W.heap=wr.heap.push o)(hg:W.grownBy w1 row)(hne:some x≠row)(hx:x<wr.heap.size)(h:wr.frozen? ⟨x,k,none⟩=false):w1.frozen? ⟨x,k,none⟩=false:=by
 have hx2:x<W.heap.size:=by rw[hW];simp;omega
 have e:w1.heap[x]?=wr.heap[x]?:=by
  rw[hg.block x hx2 hne,hW,Array.getElem?_push_lt hx,Array.getElem?_eq_getElem hx]
 rw[World.frozen?_of_block (w:=wr) (w':=w1) (a:=⟨x,k,none⟩) e]
 exact h
theorem howns_setCell {w:World}{base:Nat}{e:TypeId}{size:Nat}{v:Value}{n:Nat}{xs:List Value}(h:w.ownsRow base e size v n xs){x k:Nat}(hx:x<base)(u:Value):(w.setCell ⟨x,k,none⟩ u).ownsRow base e size v n xs:=by
 refine h.kept (row:=some x) ⟨rfl,rfl,rfl,by simp[World.setCell],fun j _ hne=>heap_setCell_other w ⟨x,k,none⟩ j u (fun e=>hne (by rw[e]))⟩ ?_
 cases hv:v.ownBlock with
 | none=>exact Or.inl rfl
 | some g =>
  have:=(h.lt g hv).1
  exact Or.inr (fun e=>by cases e;omega)
theorem howns_heap {w W:World}{base:Nat}{e:TypeId}{size:Nat}{v:Value}{n:Nat}{xs:List Value}{o:Obj}(h:w.ownsRow base e size v n xs)(hW:W.heap=w.heap.push o):W.ownsRow base e size v n xs :=
 owns_same h fun g hv=>by
  have hg:=(h.lt g hv).2
  rw[hW,Array.getElem?_push_lt hg,←Array.getElem?_eq_getElem hg]
theorem cellsH_heap {wr W:World}{t:TypeId}(x:Mh)(hW:W.heap=wr.heap.push (.cells #[.string x.name,.bool x.up,x.val] t (0,0))):∀j u,(encH x)[j]?=some u→W.cell? ((⟨wr.heap.size,0,none⟩:Addr).add j)=some u:=by
 intro j u hu
 have e:W.heap[wr.heap.size]?=some (.cells #[.string x.name,.bool x.up,x.val] t (0,0)):=by rw[hW];simp
 match j,hu with
 | 0,hu=>simp[encH] at hu;subst hu;simp[Addr.add,World.cell?,e]
 | 1,hu=>simp[encH] at hu;subst hu;simp[Addr.add,World.cell?,e]
 | 2,hu=>simp[encH] at hu;subst hu;simp[Addr.add,World.cell?,e]
 | j+3,hu=>simp[encH] at hu
theorem encH_one (x:Mh)(hx:x.val.oneCell'=true):∀v∈encH x,v.oneCell'=true:=by
 intro v hv
 simp[encH] at hv
 rcases hv with rfl|rfl|rfl
 ·rfl
 ·rfl
 ·exact hx
theorem step_append_h {ops:Array Oper}{o:Oper}{a:Act}{K:Act→World→Prop}{Q:Exit→Act→World→Prop}{E:Prop}{W:World}(wr:World)(x:Mh)(hx1:x.val.oneCell'=true)(m:Nat)(hgd:o.guard=none)(so xo:Operand)
  (ho:o.op=.call { callee:=.builtin .append,args:=#[so,xo],argTypes:=#[122,122] }) (hW:W.heap=wr.heap.push (.cells #[.string x.name,.bool x.up,x.val] 127 (0,0)))
  (v:Value) (L:List Mh) (hs:a.eval so=v) (hx:a.eval xo=.slice (some ⟨wr.heap.size,0,none⟩) 1 1) (hown:wr.ownsRow (m+1) 127 3 v L.length (flatH L)) (hl:L.length≤208) (hm:m<wr.heap.size)
  (h:∀g cap w',w'.ownsRow (m+1) 127 3 (.slice (some ⟨g,0,none⟩) (L.length+1) cap) (L.length+1) (flatH (L++[x]))→W.grownBy w' v.ownBlock→(v.ownBlock=some g∨g=wr.heap.size+1)→K (a.put o.dst (.slice (some ⟨g,0,none⟩) (L.length+1) cap)) w') :
  if Region.wanted o (yielded ops a.tmps)=true then Oper.wp Tryz.prog o a W K Q else E:=by
 obtain⟨i,hi,hz0,hz1,hz2⟩:=info_parts infoH
 have hsz:W.heap.size=wr.heap.size+1:=by rw[hW];simp
 refine step_append_lies W hgd so xo 122 ho (m+1) 127 i _ 3 48 Tryz.underlying122 hi hz0 hz1 hz2 rfl (by decide) v L.length (flatH L) hs (howns_heap hown hW) ⟨wr.heap.size,0,none⟩ 1 1 (encH x) hx rfl (cellsH_heap x hW) (encH_one x hx1) (by decide) (by unfold maxLen;omega) (by omega) (by omega) (wr.heap.size+1) hsz ?_
 intro g cp w1 hown1 hgr hat _
 rw[←flatH_snoc] at hown1
 exact h g cp w1 hown1 hgr hat
def newM (xs:List ByteArray):List Mh:=xs.map fun s=>⟨s,true,[],.slice none 0 0⟩
theorem newM_snoc (xs:List ByteArray){k:Nat}(h:k<xs.length):newM (xs.take (k+1))=newM (xs.take k)++[⟨xs[k],true,[],.slice none 0 0⟩]:=by
 unfold newM
 rw[List.take_succ_eq_append_getElem h,List.map_append]
 rfl
theorem newM_hst (xs:List ByteArray):hst (newM xs)=Lh.hnew xs:=by
 unfold hst newM Lh.hnew
 rw[List.map_map]
 rfl
theorem newM_MH {W:World}{m f r:Nat}{xs:List ByteArray}{lv:Value}(c0:W.cell? ⟨m,0,none⟩=some (.int .i64 (f:Nat)))(c1:W.cell? ⟨m,1,none⟩=some (.int .i64 (r:Nat)))(c2:W.cell? ⟨m,2,none⟩=some lv)(fz:∀k,W.frozen? ⟨m,k,none⟩=false)(own:W.ownsRow (m+1) 127 3 lv (newM xs).length (flatH (newM xs))):MH W m f r (newM xs) lv:=by
 refine⟨c0,c1,c2,fz,own,fun x hx=>?_,fun x hx=>?_,?_⟩
 ·obtain⟨s,_,rfl⟩:=List.mem_map.1 hx
  exact World.ownsRow_nil _ _ _ _
 ·obtain⟨s,_,rfl⟩:=List.mem_map.1 hx
  exact Or.inl rfl
 ·unfold newM
  rw[List.pairwise_map]
  exact List.pairwise_of_forall fun _ _=>Or.inl rfl
theorem newHealth_any (p:Option Addr)(cap:Nat)(xs:List ByteArray)(f r:Nat)(w:World)(hx:∀k (h:k<xs.length),∃b o,p=some ⟨b,o,none⟩∧w.cell? ⟨b,o+k,none⟩=some (.string xs[k]))(hl:xs.length≤12)(_hf:f≤10)(_hr:r≤10) :
    Calls Tryz.prog 68 #[.slice p xs.length cap,.int .i64 (f:Nat),.int .i64 (r:Nat)] w fun e w'=>∃m lv,e=.returned (.pointer (some ⟨m,0,none⟩))∧MH w' m f r (newM xs) lv∧w.heap.size≤m∧Below w.heap.size w w':=by
  have HX:Hid (∀k (h:k<xs.length),∃b o,p=some ⟨b,o,none⟩∧w.cell? ⟨b,o+k,none⟩=some (.string xs[k])):=hx
  clear hx
  obtain⟨m,hm⟩:∃m,w.heap.size=m:=⟨_,rfl⟩
  have HMB:Hid (w.heap.size=m):=hm
  go_enter Tryz.func68,Tryz.ntmps68
  go_wp2_with fail
  have hbW:=(Below.refl w.heap.size w).alloc (Nat.le_refl _) (.cells #[.int .i64 (f:Nat),.int .i64 (r:Nat),.slice none 0 0] 124)
  have a0:(w.alloc (.cells #[.int .i64 (f:Nat),.int .i64 (r:Nat),.slice none 0 0] 124)).cell? ⟨m,0,none⟩=some (.int .i64 (f:Nat)):=by rw[←hm];simp
  have a1:(w.alloc (.cells #[.int .i64 (f:Nat),.int .i64 (r:Nat),.slice none 0 0] 124)).cell? ⟨m,1,none⟩=some (.int .i64 (r:Nat)):=by rw[←hm];simp
  have a2:(w.alloc (.cells #[.int .i64 (f:Nat),.int .i64 (r:Nat),.slice none 0 0] 124)).cell? ⟨m,2,none⟩=some (.slice none 0 0):=by rw[←hm];simp
  have af:∀k,(w.alloc (.cells #[.int .i64 (f:Nat),.int .i64 (r:Nat),.slice none 0 0] 124)).frozen? ⟨m,k,none⟩=false:=fun k=>by rw[←hm];simp
  rw[hm] at hbW
  generalize w.alloc (.cells #[.int .i64 (f:Nat),.int .i64 (r:Nat),.slice none 0 0] 124)=w0 at *
  clear hm
  go_loopw [8] (fun t W=>Below m w W∧∃k:Nat,k≤xs.length∧t=.int .i64 k∧∃v,W.cell? ⟨m,0,none⟩=some (.int .i64 (f:Nat))∧W.cell? ⟨m,1,none⟩=some (.int .i64 (r:Nat))∧W.cell? ⟨m,2,none⟩=some v∧(∀k,W.frozen? ⟨m,k,none⟩=false)∧W.ownsRow (m+1) 127 3 v (newM (xs.take k)).length (flatH (newM (xs.take k)))) (fun t _=>xs.length - (intOf t).toNat)
  case atStart=>exact⟨hbW,0,Nat.zero_le _,rfl,_,a0,a1,a2,af,World.ownsRow_nil _ _ _ _⟩
  case round =>
    clear a0 a1 a2 af hbW
    obtain⟨hb,k,hk,rfl,v,cr0,cr1,cr2,frz,hown⟩:=hrel
    by_cases hlt:k<xs.length
    · obtain⟨b,o,rfl,hck⟩:=HX.out k hlt
      have hblt:b<m:=by rw[←HMB.out];exact World.block_lt_of_cell? w ⟨b,o+k,none⟩ hck
      have cx:wr.cell? ⟨b,o+k,none⟩=some (.string xs[k]):=below_cell (by rw[HMB.out];exact hb) hck
      have HP:Hid (newM (xs.take (k+1))=newM (xs.take k)++[⟨xs[k],true,[],.slice none 0 0⟩]):=newM_snoc xs hlt
      have hlen:(newM (xs.take k)).length≤208:=by
        unfold newM
        rw[List.length_map,List.length_take]
        omega
      generalize newM (xs.take k)=P1 at *
      generalize xs[k]=s at *
      have hki:(k:Int)<(xs.length:Int):=by omega
      have HNE:Hid (∀x,x≤m→some x≠v.ownBlock):=fun x hx e=>by
        have:=(hown.lt x e.symm).1
        omega
      have hrl:m<wr.heap.size:=World.block_lt_of_cell? wr ⟨m,0,none⟩ cr0
      have HOWN:Hid (wr.ownsRow (m+1) 127 3 v P1.length (flatH P1)):=hown
      have HFZ:Hid (∀k,wr.frozen? ⟨m,k,none⟩=false):=frz
      have fr2:=frz 2
      have hbr:b≠m:=by omega
      have hrb2:m≠b:=by omega
      clear hown hck frz
      go_wp2_with fail
      go_region_law (first
        | (refine step_append_h wr ⟨s,true,[],.slice none 0 0⟩ rfl m rfl _ _ rfl rfl v P1 rfl rfl HOWN.out hlen hrl ?_
           intro g cp w1 hown1 hgr _
           have hr0:=hfar_cell (wr:=wr) (x:=m) (k:=0) rfl hgr (HNE.out m (Nat.le_refl _)) cr0
           have hr1:=hfar_cell (wr:=wr) (x:=m) (k:=1) rfl hgr (HNE.out m (Nat.le_refl _)) cr1
           have hr2:=hfar_cell (wr:=wr) (x:=m) (k:=2) rfl hgr (HNE.out m (Nat.le_refl _)) cr2
           have fr1:=hfar_frozen (wr:=wr) (x:=m) (k:=2) rfl hgr (HNE.out m (Nat.le_refl _)) hrl fr2
           have HFR:Hid (∀k,w1.frozen? ⟨m,k,none⟩=false):=fun k=>hfar_frozen (wr:=wr) (x:=m) (k:=k) rfl hgr (HNE.out m (Nat.le_refl _)) hrl (HFZ.out k)))
      all_goals
        have hbw1:Below m w w1:=by
          refine (hb.trans (below_drewN ((Below.refl m wr).alloc (Nat.le_of_lt hrl) _) 1)).grown hgr (by simp;omega) (fun q e=>?_)
          · refine Nat.le_of_lt (Nat.lt_of_not_le fun h=>HNE.out q h ?_)
            exact e.symm
        have hbw2:Below m w (w1.setCell ⟨m,2,none⟩ (.slice (some ⟨g,0,none⟩) (P1.length+1) cp)):=hbw1.setCell (Nat.le_refl _) _
        have hownN:=howns_setCell (k:=2) hown1 (Nat.lt_succ_self m) (.slice (some ⟨g,0,none⟩) (P1.length+1) cp)
        have crN0:(w1.setCell ⟨m,2,none⟩ (.slice (some ⟨g,0,none⟩) (P1.length+1) cp)).cell? ⟨m,0,none⟩=some (.int .i64 (f:Nat)):=by simp[go_sem,hr0]
        have crN1:(w1.setCell ⟨m,2,none⟩ (.slice (some ⟨g,0,none⟩) (P1.length+1) cp)).cell? ⟨m,1,none⟩=some (.int .i64 (r:Nat)):=by simp[go_sem,hr1]
        have crN2:(w1.setCell ⟨m,2,none⟩ (.slice (some ⟨g,0,none⟩) (P1.length+1) cp)).cell? ⟨m,2,none⟩=some (.slice (some ⟨g,0,none⟩) (P1.length+1) cp):=by simp[go_sem,hr2]
        have frN:∀k,(w1.setCell ⟨m,2,none⟩ (.slice (some ⟨g,0,none⟩) (P1.length+1) cp)).frozen? ⟨m,k,none⟩=false:=fun k=>by simp[go_sem,HFR.out k]
        have HFN:Hid (∀k,(w1.setCell ⟨m,2,none⟩ (.slice (some ⟨g,0,none⟩) (P1.length+1) cp)).frozen? ⟨m,k,none⟩=false):=frN
        clear hown1 hgr hr0 hr1 hr2 fr1 hbw1 cr0 cr1 cr2 fr2 cx hb HFR frN
        generalize w1.setCell ⟨m,2,none⟩ (.slice (some ⟨g,0,none⟩) (P1.length+1) cp)=wN at *
        go_wp2
        refine⟨⟨hbw2,k+1,by omega,by go_num,_,crN0,crN1,crN2,HFN.out,?_⟩,by simp[intOf];omega⟩
        rw[HP.out,List.length_append]
        exact hownN
    · have hkk:k=xs.length:=by omega
      have HMH:Hid (MH wr m f r (newM xs) v):=by
        rw[hkk,List.take_length] at hown
        exact newM_MH cr0 cr1 cr2 frz hown
      have hki:decide ((k:Int)<(xs.length:Int))=false:=by simp;omega
      clear hown frz hkk
      go_wp2
      go_ret
      exact⟨m,v,rfl,HMH.out,by rw[HMB.out];exact Nat.le_refl _,by rw[HMB.out];exact hb⟩
theorem trail_nil (up:Bool):trail up []=0:=rfl
theorem trail_snoc (up:Bool)(l:List Bool)(b:Bool):trail up (l++[b])=if b=up then 0 else trail up l+1:=by
 unfold trail
 rw[List.reverse_append]
 by_cases e:b=up
 ·subst e
  simp
 ·have hb:(b != up)=true:=by simpa using e
  simp[hb,e]
theorem trail_at {up:Bool}{l:List Bool}{n:Nat}(hn:n<l.length)(hp:∀j (h:j<l.length),j<n→l[l.length - 1 - j]≠up)(he:l[l.length - 1 - n]=up):trail up l=n:=by
 induction n generalizing l with
 | zero =>
  obtain⟨l',b,rfl⟩:∃l' b,l=l'++[b]:=⟨l.dropLast,l.getLast (by intro e;subst e;simp at hn),(List.dropLast_concat_getLast _).symm⟩
  rw[trail_snoc]
  have:b=up:=by simpa using he
  simp[this]
 | succ n ih =>
  obtain⟨l',b,rfl⟩:∃l' b,l=l'++[b]:=⟨l.dropLast,l.getLast (by intro e;subst e;simp at hn),(List.dropLast_concat_getLast _).symm⟩
  have hb:b≠up:=by
   have:=hp 0 (by simp) (by omega)
   simpa using this
  rw[trail_snoc,if_neg hb]
  have hl:n<l'.length:=by simp at hn;omega
  have h3:trail up l'=n:=ih hl (fun j h hj=>by
   have h1:=hp (j+1) (by simp;omega) (by omega)
   have e1:(l'++[b]).length - 1 - (j+1)=l'.length - 1 - j:=by simp;omega
   have e2:(l'++[b])[(l'++[b]).length - 1 - (j+1)]'(by simp;omega)=l'[l'.length - 1 - j]'(by omega):=by
    simp only[e1]
    rw[List.getElem_append_left (by omega)]
   rwa [e2] at h1) (by
   have e1:(l'++[b]).length - 1 - (n+1)=l'.length - 1 - n:=by simp;omega
   have e2:(l'++[b])[(l'++[b]).length - 1 - (n+1)]'(by simp;omega)=l'[l'.length - 1 - n]'(by omega):=by
    simp only[e1]
    rw[List.getElem_append_left (by omega)]
   rwa [e2] at he)
  rw[h3]
theorem takeWhile_whole {α:Type}(p:α→Bool):∀l:List α,(∀b∈l,p b=true)→l.takeWhile p=l
 | [],_=>rfl
 | b :: l,h=>by
  rw[List.takeWhile_cons,if_pos (h b (by simp)),takeWhile_whole p l fun c hc=>h c (by simp[hc])]
theorem trail_all {up:Bool}{l:List Bool}(hp:∀j (h:j<l.length),l[l.length - 1 - j]≠up):trail up l=l.length:=by
 unfold trail
 rw[takeWhile_whole _ l.reverse fun b hb=>?_]
 ·simp
 ·rw[List.mem_reverse] at hb
  obtain⟨j,hj,rfl⟩:=List.getElem_of_mem hb
  have h1:=hp (l.length - 1 - j) (by omega)
  have e:l.length - 1 - (l.length - 1 - j)=j:=by omega
  simp only[e] at h1
  simpa using h1
def lookM (f r:Nat)(x:Mh)(well:Bool)(v:Value):Mh :=
 if Lh.hedge f r x.up≤trail x.up (x.looks++[well]) then ⟨x.name,!x.up,[],.slice none 0 0⟩ else ⟨x.name,x.up,x.looks++[well],v⟩
def turnM (f r:Nat)(x:Mh)(well:Bool):Bool:=decide (Lh.hedge f r x.up≤trail x.up (x.looks++[well]))
theorem lookM_st {f r:Nat}(hf:1≤f)(hr:1≤r)(x:Mh)(well:Bool)(v:Value):((lookM f r x well v).st,turnM f r x well)=Lh.hlook f r x.st well:=by
 unfold lookM turnM Lh.hlook
 have hp:=Lh.hedge_pos hf hr x.up
 rw[trail_snoc]
 by_cases e:well=x.up
 ·have e2:well=x.st.2.1:=e
  rw[if_pos e,if_pos e2,if_neg (by omega)]
  have h1:trail x.up (x.looks++[well])=0:=by rw[trail_snoc,if_pos e]
  simp only[Mh.st,h1]
  simp
  omega
 ·have e2:¬well=x.st.2.1:=e
  rw[if_neg e,if_neg e2]
  by_cases h:Lh.hedge f r x.up≤trail x.up x.looks+1
  ·have h':Lh.hedge f r x.st.2.1≤x.st.2.2+1:=h
   rw[if_pos h,if_pos h']
   simp[Mh.st,h,trail_nil]
  ·have h':¬Lh.hedge f r x.st.2.1≤x.st.2.2+1:=h
   rw[if_neg h,if_neg h']
   have h1:trail x.up (x.looks++[well])=trail x.up x.looks+1:=by rw[trail_snoc,if_neg e]
   simp[Mh.st,h,h1]
theorem flatH_set (L:List Mh):∀(k:Nat) (x:Mh),k<L.length→flatH (L.set k x)=(((flatH L).set (k*3) (.string x.name)).set (k*3+1) (.bool x.up)).set (k*3+2) x.val:=by
 induction L with
 | nil=>intro k x h;cases h
 | cons p P ih =>
  intro k x h
  have e:flatH (p :: P)=.string p.name :: .bool p.up :: p.val :: flatH P:=rfl
  match k,h with
  | 0,_=>rfl
  | k+1,h =>
   rw[List.set_cons_succ,e]
   have e2:flatH (p :: P.set k x)=.string p.name :: .bool p.up :: p.val :: flatH (P.set k x):=rfl
   rw[e2,ih k x (by simpa using h)]
   rw[show (k+1)*3=k*3+1+1+1 by omega]
   rfl
theorem owns_set {w:World}{base:Nat}{e:TypeId}{size g n cap:Nat}{xs:List Value}(h:w.ownsRow base e size (.slice (some ⟨g,0,none⟩) n cap) n xs)(i:Nat)(u:Value):(w.setCell ⟨g,i,none⟩ u).ownsRow base e size (.slice (some ⟨g,0,none⟩) n cap) n (xs.set i u):=by
 obtain⟨h1,⟨h2,_⟩|⟨g',cap',cur,e1,e2,e3,e4,e5,e6,e7⟩⟩:=h
 ·cases h2
 ·cases e1
  refine⟨by simpa using h1,Or.inr ⟨g,cap,cur.setIfInBounds i u,rfl,e2,?_,e4,e5,by simpa using e6,?_⟩⟩
  ·exact heap_setCell_same w g i _ _ u e3
  ·rw[Array.toList_setIfInBounds,List.take_set,e7]
theorem MH.looked {W w':World}{m f r:Nat}{L:List Mh}{g cap k:Nat}(h:MH W m f r L (.slice (some ⟨g,0,none⟩) L.length cap))(hk:k<L.length)(x:Mh)(hs:∀b,b<W.heap.size→b≠g→some b≠(L[k]).val.ownBlock→w'.heap[b]?=W.heap[b]?)
  (hrow:w'.ownsRow (m+1) 127 3 (.slice (some ⟨g,0,none⟩) L.length cap) L.length (flatH (L.set k x))) (hlk:w'.ownsRow (m+1) 4 1 x.val x.looks.length (x.looks.map Value.bool)) (hat:x.val.ownBlock=none∨x.val.ownBlock=(L[k]).val.ownBlock∨∃q,x.val.ownBlock=some q∧W.heap.size≤q) :
  MH w' m f r (L.set k x) (.slice (some ⟨g,0,none⟩) L.length cap)∧∀b,MFoot m (L.set k x) (.slice (some ⟨g,0,none⟩) L.length cap) b→MFoot m L (.slice (some ⟨g,0,none⟩) L.length cap) b∨W.heap.size≤b:=by
 have hm:=h.mlt
 have hg:=(h.own.lt g rfl).1
 have hkm:=List.getElem_mem hk
 have hvm:∀b,b≤m→some b≠(L[k]).val.ownBlock:=fun b hb e=>by
  have:=((h.looks _ hkm).lt b e.symm).1
  omega
 have hmb:=hs m hm (by omega) (hvm m (Nat.le_refl _))
 have hoth:∀j (hj:j<L.length),j≠k→∀q,(L[j]).val.ownBlock=some q→q≠g∧some q≠(L[k]).val.ownBlock∧q<W.heap.size:=fun j hj hjk q e=>by
  refine⟨fun e2=>?_,fun e2=>?_,((h.looks _ (List.getElem_mem hj)).lt q e).2⟩
  ·rcases h.apart _ (List.getElem_mem hj) with h1|h1
   ·rw[e] at h1;cases h1
   ·exact h1 (by rw[e,e2];rfl)
  ·rcases Nat.lt_or_ge j k with h1|h1
   ·rcases List.pairwise_iff_getElem.1 h.pair j k hj hk h1 with h2|h2
    ·rw[e] at h2;cases h2
    ·exact h2 (by rw[e,e2])
   ·rcases List.pairwise_iff_getElem.1 h.pair k j hk hj (by omega) with h2|h2
    ·rw[h2] at e2;cases e2
    ·exact h2 (by rw[e,←e2])
 have hnew:∀j (hj:j<L.length),j≠k→x.val.ownBlock=none∨x.val.ownBlock≠(L[j]).val.ownBlock:=fun j hj hjk=>by
  rcases hat with h1|h1|⟨q,h1,h2⟩
  ·exact Or.inl h1
  ·cases e3:x.val.ownBlock with
   | none=>exact Or.inl rfl
   | some q=>exact Or.inr fun e2=>(hoth j hj hjk q e2.symm).2.1 (by rw[←h1,e3])
  ·refine Or.inr fun e2=>?_
   have:=(hoth j hj hjk q (by rw[←e2,h1])).2.2
   omega
 refine⟨⟨?_,?_,?_,fun k=>?_,by rw[List.length_set];exact hrow,fun y hy=>?_,fun y hy=>?_,?_⟩,fun b hb=>?_⟩
 ·rw[World.cell?_of_block (w:=W) (w':=w') (a:=⟨m,0,none⟩) hmb];exact h.c0
 ·rw[World.cell?_of_block (w:=W) (w':=w') (a:=⟨m,1,none⟩) hmb];exact h.c1
 ·rw[World.cell?_of_block (w:=W) (w':=w') (a:=⟨m,2,none⟩) hmb];exact h.c2
 ·rw[World.frozen?_of_block (w:=W) (w':=w') (a:=⟨m,k,none⟩) hmb];exact h.fz k
 ·obtain⟨j,hj,rfl⟩:=List.getElem_of_mem hy
  rw[List.getElem_set]
  by_cases e:k=j
  ·rw[if_pos e];exact hlk
  ·rw[if_neg e]
   have hj':j<L.length:=by simpa using hj
   refine owns_same (h.looks _ (List.getElem_mem hj')) fun q e2=>?_
   obtain⟨h1,h2,h3⟩:=hoth j hj' (fun e3=>e e3.symm) q e2
   exact hs q h3 h1 h2
 ·obtain⟨j,hj,rfl⟩:=List.getElem_of_mem hy
  rw[List.getElem_set]
  by_cases e:k=j
  ·rw[if_pos e]
   rcases hat with h1|h1|⟨q,h1,h2⟩
   ·exact Or.inl h1
   ·rw[h1];exact h.apart _ hkm
   ·refine Or.inr fun e2=>?_
    rw[h1] at e2
    have e3:q=g:=Option.some.inj e2
    have:=(h.own.lt g rfl).2
    omega
  ·rw[if_neg e]
   exact h.apart _ (List.getElem_mem _)
 ·rw[List.pairwise_iff_getElem]
  intro i j hi hj hij
  have hi':i<L.length:=by simpa using hi
  have hj':j<L.length:=by simpa using hj
  rw[List.getElem_set,List.getElem_set]
  by_cases e1:k=i
  ·rw[if_pos e1,if_neg (by omega)]
   exact hnew j hj' (by omega)
  ·rw[if_neg e1]
   by_cases e2:k=j
   ·rw[if_pos e2]
    rcases hnew i hi' (by omega) with h1|h1
    ·cases e3:(L[i]).val.ownBlock with
     | none=>exact Or.inl rfl
     | some q=>exact Or.inr (by rw[h1];exact fun e4=>by cases e4)
    ·exact Or.inr fun e3=>h1 e3.symm
   ·rw[if_neg e2]
    exact List.pairwise_iff_getElem.1 h.pair i j hi' hj' hij
 ·rcases hb with rfl|e|⟨y,hy,e⟩
  ·exact Or.inl (Or.inl rfl)
  ·exact Or.inl (Or.inr (Or.inl e))
  ·rcases List.mem_or_eq_of_mem_set hy with hy|rfl
   ·exact Or.inl (Or.inr (Or.inr ⟨y,hy,e⟩))
   ·rcases hat with h1|h1|⟨q,h1,h2⟩
    ·rw[h1] at e;cases e
    ·exact Or.inl (Or.inr (Or.inr ⟨_,hkm,by rw[←h1];exact e⟩))
    ·rw[h1] at e
     have:q=b:=Option.some.inj e
     exact Or.inr (by omega)
theorem own_shape {w:World}{base:Nat}{e:TypeId}{size n:Nat}{v:Value}{xs:List Value}(h:w.ownsRow base e size v n xs):∃p cap,v=.slice p n cap:=by
 obtain⟨h1,⟨rfl,rfl⟩|⟨g,cap,cur,rfl,_⟩⟩:=h
 ·exact⟨_,_,rfl⟩
 ·exact⟨_,_,rfl⟩
end Go.Proofs.YtfhmfjcpggddkaaGreatDoor
namespace Go.Proofs.YtfhmfjcpggddkaaGreatDoor
open Go.RowKit Lh
structure WS (W:World)(wb:Nat)(vn vh:Value)(N:List Nat)(H:List ByteArray):Prop where
 c0:W.cell? ⟨wb,0,none⟩=some vn
 c1:W.cell? ⟨wb,1,none⟩=some vh
 fz:∀k,W.frozen? ⟨wb,k,none⟩=false
 on:W.ownsRow (wb+1) 3 1 vn N.length (N.map fun n=>.int .i64 (n:Nat))
 oh:W.ownsRow (wb+1) 9 1 vh H.length (H.map Value.string)
 ap:∀g,vn.ownBlock=some g→vh.ownBlock=some g→False
section
variable {W W2 w1:World} {wb:Nat} {vn vh:Value} {N:List Nat} {H:List ByteArray}
theorem WS.lt (h:WS W wb vn vh N H):wb<W.heap.size:=World.block_lt_of_cell? W _ h.c0
theorem WS.later {W':World}(h:WS W wb vn vh N H)(hb:Below W.heap.size W W'):WS W' wb vn vh N H :=
 ⟨below_cell hb h.c0,below_cell hb h.c1,fun k=>(World.frozen?_of_block (w:=W) (w':=W') (a:=⟨wb,k,none⟩) (hb.block wb h.lt)).trans (h.fz k),ownsRow_below h.on hb,ownsRow_below h.oh hb,h.ap⟩
theorem WS.host (h:WS W wb vn vh N H)(s:ByteArray)(hB:Below W.heap.size W W2){g cap:Nat}
  (hown:w1.ownsRow (wb+1) 9 1 (.slice (some ⟨g,0,none⟩) (H.length+1) cap) (H.length+1) (H.map Value.string++[.string s])) (hgr:W2.grownBy w1 vh.ownBlock) (hat:vh.ownBlock=some g∨g=W2.heap.size) :
  WS (w1.setCell ⟨wb,1,none⟩ (.slice (some ⟨g,0,none⟩) (H.length+1) cap)) wb vn (.slice (some ⟨g,0,none⟩) (H.length+1) cap) N (H++[s])∧Below wb W (w1.setCell ⟨wb,1,none⟩ (.slice (some ⟨g,0,none⟩) (H.length+1) cap)):=by
 have hl:=h.lt
 have hs2:=hB.size
 have hnw:∀k,k≤wb→some k≠vh.ownBlock:=fun k hk e=>by
  have:=(h.oh.lt k e.symm).1
  omega
 have hpb:w1.heap[wb]?=W.heap[wb]?:=(hgr.block wb (by omega) (hnw wb (Nat.le_refl _))).trans (hB.block wb hl)
 have hon2:=ownsRow_below h.on hB
 have hon1:w1.ownsRow (wb+1) 3 1 vn N.length (N.map fun n=>.int .i64 (n:Nat)):=hon2.kept hgr (by
  cases hq:vn.ownBlock with
  | none=>exact Or.inl rfl
  | some k=>exact Or.inr fun e=>h.ap k hq e.symm)
 have k0:w1.cell? ⟨wb,0,none⟩=some vn:=(World.cell?_of_block (w:=W) (w':=w1) (a:=⟨wb,0,none⟩) hpb).trans h.c0
 have k1:w1.cell? ⟨wb,1,none⟩=some vh:=(World.cell?_of_block (w:=W) (w':=w1) (a:=⟨wb,1,none⟩) hpb).trans h.c1
 have hsz:w1.heap.size=(w1.setCell ⟨wb,1,none⟩ (.slice (some ⟨g,0,none⟩) (H.length+1) cap)).heap.size:=by simp[World.setCell]
 refine⟨⟨?_,?_,fun k=>?_,howns_setCell hon1 (Nat.lt_succ_self _) _,?_,fun k hk1 hk2=>?_⟩,⟨hgr.os.trans hB.os,hgr.tape.trans hB.tape,hgr.output.trans hB.output,by have:=hgr.size;omega,fun k hk=>?_⟩⟩
 ·rw[World.cell?_setCell_other _ _ _ _ (by simp)]
  exact k0
 ·exact World.cell?_setCell_same' _ _ _ (by rw[k1];rfl)
 ·rw[World.frozen?_setCell]
  exact (World.frozen?_of_block (w:=W) (w':=w1) (a:=⟨wb,k,none⟩) hpb).trans (h.fz k)
 ·have:=howns_setCell (k:=1) hown (Nat.lt_succ_self wb) (.slice (some ⟨g,0,none⟩) (H.length+1) cap)
  rw[List.length_append,List.map_append]
  exact this
 ·have hk2:g=k:=by simpa [Value.ownBlock] using hk2
  subst hk2
  rcases hat with q|q
  ·exact h.ap _ hk1 q
  ·have:=(hon2.lt _ hk1).2
   omega
 ·rw[heap_setCell_other w1 ⟨wb,1,none⟩ k _ (fun e=>by simp only at e;omega),hgr.block k (by omega) (hnw k (by omega)),hB.block k (by omega)]
theorem WS.num (h:WS W wb vn vh N H)(x:Nat)(hB:Below W.heap.size W W2){g cap:Nat}
  (hown:w1.ownsRow (wb+1) 3 1 (.slice (some ⟨g,0,none⟩) (N.length+1) cap) (N.length+1) ((N.map fun n=>Value.int .i64 (n:Nat))++[.int .i64 (x:Nat)])) (hgr:W2.grownBy w1 vn.ownBlock) (hat:vn.ownBlock=some g∨g=W2.heap.size) :
  WS (w1.setCell ⟨wb,0,none⟩ (.slice (some ⟨g,0,none⟩) (N.length+1) cap)) wb (.slice (some ⟨g,0,none⟩) (N.length+1) cap) vh (N++[x]) H∧Below wb W (w1.setCell ⟨wb,0,none⟩ (.slice (some ⟨g,0,none⟩) (N.length+1) cap)):=by
 have hl:=h.lt
 have hs2:=hB.size
 have hnw:∀k,k≤wb→some k≠vn.ownBlock:=fun k hk e=>by
  have:=(h.on.lt k e.symm).1
  omega
 have hpb:w1.heap[wb]?=W.heap[wb]?:=(hgr.block wb (by omega) (hnw wb (Nat.le_refl _))).trans (hB.block wb hl)
 have hon2:=ownsRow_below h.oh hB
 have hon1:w1.ownsRow (wb+1) 9 1 vh H.length (H.map Value.string):=hon2.kept hgr (by
  cases hq:vh.ownBlock with
  | none=>exact Or.inl rfl
  | some k=>exact Or.inr fun e=>h.ap k e.symm hq)
 have k0:w1.cell? ⟨wb,0,none⟩=some vn:=(World.cell?_of_block (w:=W) (w':=w1) (a:=⟨wb,0,none⟩) hpb).trans h.c0
 have k1:w1.cell? ⟨wb,1,none⟩=some vh:=(World.cell?_of_block (w:=W) (w':=w1) (a:=⟨wb,1,none⟩) hpb).trans h.c1
 have hsz:w1.heap.size=(w1.setCell ⟨wb,0,none⟩ (.slice (some ⟨g,0,none⟩) (N.length+1) cap)).heap.size:=by simp[World.setCell]
 refine⟨⟨?_,?_,fun k=>?_,?_,howns_setCell hon1 (Nat.lt_succ_self _) _,fun k hk1 hk2=>?_⟩,⟨hgr.os.trans hB.os,hgr.tape.trans hB.tape,hgr.output.trans hB.output,by have:=hgr.size;omega,fun k hk=>?_⟩⟩
 ·exact World.cell?_setCell_same' _ _ _ (by rw[k0];rfl)
 ·rw[World.cell?_setCell_other _ _ _ _ (by simp)]
  exact k1
 ·rw[World.frozen?_setCell]
  exact (World.frozen?_of_block (w:=W) (w':=w1) (a:=⟨wb,k,none⟩) hpb).trans (h.fz k)
 ·have:=howns_setCell (k:=0) hown (Nat.lt_succ_self wb) (.slice (some ⟨g,0,none⟩) (N.length+1) cap)
  rw[List.length_append,List.map_append]
  exact this
 ·have hk1:g=k:=by simpa [Value.ownBlock] using hk1
  subst hk1
  rcases hat with q|q
  ·exact h.ap _ q hk2
  ·have:=(hon2.lt _ hk2).2
   omega
 ·rw[heap_setCell_other w1 ⟨wb,0,none⟩ k _ (fun e=>by simp only at e;omega),hgr.block k (by omega) (hnw k (by omega)),hB.block k (by omega)]
end
def stepW (k:Nat)(x:List UInt8)(A:List Nat × List ByteArray):Option (List Nat × List ByteArray) :=
 if k=72 then (if isNm (bt x)=true then some (A.1,A.2++[bt x]) else none)
 else match numW x with
  | some n=>if k=78∨n≤1 then some (A.1++[n],A.2) else none
  | none=>none
theorem fault_single {s:ByteArray}:(isNm s=true∧IsFault [s] 0 (-1))∨(isNm s=false∧IsFault [s] 4 0):=by
 cases h:isNm s with
 | true =>
  refine Or.inl ⟨rfl,Or.inr (Or.inr ⟨by simp,fun j hj=>?_,rfl,rfl⟩)⟩
  have:j=0:=by simpa using hj
  subst this
  exact⟨h,rfl⟩
 | false=>exact Or.inr ⟨rfl,Or.inr (Or.inl ⟨by simp,0,by simp,fun j hj=>absurd hj (by omega),rfl,Or.inl ⟨h,rfl⟩⟩)⟩
theorem cellsW {w:World}{b:Nat}{v:Value}(h:w.cell? ⟨b,0,none⟩=some v):∀j u,[v][j]?=some u→w.cell? ((⟨b,0,none⟩:Addr).add j)=some u:=by
 intro j u hu
 cases j with
 | zero =>
  obtain rfl:v=u:=by simpa using hu
  exact h
 | succ j=>simp at hu
theorem strs_single (w:World)(b:Nat)(x:ByteArray)(h:w.cell? ⟨b,0,none⟩=some (.string x)):Strs w (.slice (some ⟨b,0,none⟩) 1 1) [x]:=Or.inr ⟨b,0,1,rfl,Nat.le_refl _,fun k hk=>by
 have:k=0:=by simpa using hk
 subst this
 exact h⟩
theorem take_host (a:Nat→Addr){wb:Nat}{vn vh:Value}{N:List Nat}{H:List ByteArray}(x:List UInt8)(hx:x.length≤5000)(W0 W:World)(h4:Errs4 a W0)(h0:W0.heap.size≤wb)(hb0:Below W0.heap.size W0 W)(h:WS W wb vn vh N H)(hH:H.length≤10000) :
  Calls Tryz.prog 167 #[.pointer (some ⟨wb,0,none⟩),.int .u8 72,.string (bt x)] W fun e W'=>Below W0.heap.size W0 W'∧((∃N' H' vn' vh',stepW 72 x (N,H)=some (N',H')∧e=.returned (.bool true)∧WS W' wb vn' vh' N' H')∨(stepW 72 x (N,H)=none∧e=.returned (.bool false))):=by
 obtain⟨i0,hi0,hz0,hz1,hz2⟩:=info_parts infoS
 obtain⟨pv,cv,rfl⟩:=own_shape h.oh
 have HW:Hid (WS W wb vn (.slice pv H.length cv) N H):=h
 have HE:Hid (Errs4 a W0):=h4
 have HB0:Hid (Below W0.heap.size W0 W):=hb0
 have c1:=h.c1
 have hl:=h.lt
 have hown:=h.oh.alloc (.cells #[.string (bt x)] 9)
 have hbA:Below W.heap.size W (W.alloc (.cells #[.string (bt x)] 9)):=(Below.refl _ _).alloc (Nat.le_refl _) _
 have hnews:=cellsW (w:=W.alloc (.cells #[.string (bt x)] 9)) (b:=W.heap.size) (v:=.string (bt x)) (by simp)
 have hmax:H.length+1≤maxLen:=by unfold maxLen;omega
 have hszA:(W.alloc (.cells #[.string (bt x)] 9)).heap.size=W.heap.size+1:=by simp
 have hbs:wb+1≤(W.alloc (.cells #[.string (bt x)] 9)).heap.size:=by rw[hszA];omega
 clear h h4 hb0
 go_enter Tryz.func167,Tryz.ntmps167
 go_wp2_with (at_builtin;refine wpList_append_lies _ rfl _ _ 22 rfl (wb+1) 9 i0 _ 1 16 Tryz.underlying22 hi0 hz0 hz1 hz2 rfl (by decide) (.slice pv H.length cv) H.length (H.map Value.string) rfl hown ⟨W.heap.size,0,none⟩ 1 1 [.string (bt x)] rfl rfl hnews (fun u hu=>by simp at hu;subst hu;rfl) (by decide) hmax (by omega) hbs _ rfl ?_)
 intro g cap w1 hown1 hgr hat _
 obtain⟨hW2,hb2⟩:=HW.out.host (bt x) hbA hown1 hgr (by rw[hszA];exact hat)
 have hpb:w1.heap[wb]?=W.heap[wb]?:=(hgr.block wb (by omega) (fun e=>by have:=(HW.out.oh.lt wb e.symm).1;omega)).trans (hbA.block wb hl)
 have k1:w1.cell? ⟨wb,1,none⟩=some (.slice pv H.length cv):=(World.cell?_of_block (w:=W) (w':=w1) (a:=⟨wb,1,none⟩) hpb).trans HW.out.c1
 have f1:w1.frozen? ⟨wb,1,none⟩=false:=(World.frozen?_of_block (w:=W) (w':=w1) (a:=⟨wb,1,none⟩) hpb).trans (HW.out.fz 1)
 obtain⟨w2,hw2⟩:∃w2,w2=w1.setCell ⟨wb,1,none⟩ (.slice (some ⟨g,0,none⟩) (H.length+1) cap):=⟨_,rfl⟩
 have hs2:w1.heap.size=w2.heap.size:=by rw[hw2];simp[World.setCell]
 rw[←hw2] at hW2 hb2
 have hb02:Below W0.heap.size W0 w2:=HB0.out.trans (hb2.mono h0)
 have hck:∀c pl,IsFault [bt x] c pl→Calls Tryz.prog 137 #[.slice (some ⟨w2.heap.size,0,none⟩) 1 1] (w2.alloc (.cells #[.string (bt x)] 9)) fun e w'=>∃ev,e=.returned ev∧ErrIs a w' c pl ev∧Below (w2.alloc (.cells #[.string (bt x)] 9)).heap.size (w2.alloc (.cells #[.string (bt x)] 9)) w':=fun c pl hf =>
  check_any4 a _ [bt x] _ c pl ((HE.out.later hb02).later ((Below.refl _ _).alloc (Nat.le_refl _) _)) (strs_single _ _ _ (by simp)) hf (fun k hk=>by
   have:k=0:=by simpa using hk
   subst this
   show (bt x).size≤1000000
   simp[Lh.bt,ByteArray.size]
   omega) (by simp)
 have HCK:Hid (∀c pl,IsFault [bt x] c pl→Calls Tryz.prog 137 #[.slice (some ⟨w2.heap.size,0,none⟩) 1 1] (w2.alloc (.cells #[.string (bt x)] 9)) fun e w'=>∃ev,e=.returned ev∧ErrIs a w' c pl ev∧Below (w2.alloc (.cells #[.string (bt x)] 9)).heap.size (w2.alloc (.cells #[.string (bt x)] 9)) w'):=hck
 have HW2:Hid (WS w2 wb vn (.slice (some ⟨g,0,none⟩) (H.length+1) cap) N (H++[bt x])):=hW2
 have HB2:Hid (Below W0.heap.size W0 w2):=hb02
 have HEQ:Hid (w2=w1.setCell ⟨wb,1,none⟩ (.slice (some ⟨g,0,none⟩) (H.length+1) cap)):=hw2
 have HS2:Hid (w1.heap.size=w2.heap.size):=hs2
 clear hck hW2 hb2 hb02 hown1 hgr hat hpb hown hnews hmax hszA hbs hbA c1 hw2 hs2
 go_wp2_with fail
 rw[←HEQ.out,HS2.out]
 have hbA2:Below w2.heap.size w2 (w2.alloc (.cells #[.string (bt x)] 9)):=(Below.refl _ _).alloc (Nat.le_refl _) _
 rcases fault_single (s:=bt x) with⟨hn,hf⟩|⟨hn,hf⟩
 ·have HN:Hid (stepW 72 x (N,H)=some (N,H++[bt x])):=by
   show _=_
   unfold stepW
   rw[if_pos rfl,if_pos hn]
  refine (HCK.out _ _ hf).mono ?_
  rintro e w3 ⟨ev,rfl,hev,hb3⟩
  obtain rfl:ev=.nilIface:=by
   rcases hev with⟨_,_,h⟩|⟨i,_,h,_⟩
   ·exact h
   ·omega
  have hbT:=below_then hbA2 hb3
  have HB3:Hid (Below w2.heap.size w2 w3):=hbT
  clear hev hb3 hbT hbA2 hf hn HEQ HS2
  go_wp2
  go_ret
  exact⟨below_then HB2.out HB3.out,Or.inl ⟨_,_,_,_,HN.out,rfl,HW2.out.later HB3.out⟩⟩
 ·have HN:Hid (stepW 72 x (N,H)=none):=by
   show _=_
   unfold stepW
   rw[if_pos rfl,if_neg (by rw[hn];decide)]
  refine (HCK.out _ _ hf).mono ?_
  rintro e w3 ⟨ev,rfl,hev,hb3⟩
  obtain⟨t,z,rfl⟩:=errPos hev (by decide)
  have hbT:=below_then hbA2 hb3
  have HB3:Hid (Below w2.heap.size w2 w3):=hbT
  clear hev hb3 hbT hbA2 hf hn HEQ HS2
  go_wp2
  go_ret
  exact⟨below_then HB2.out HB3.out,Or.inr ⟨HN.out,rfl⟩⟩
theorem take_num (a:Nat→Addr){wb:Nat}{vn vh:Value}{N:List Nat}{H:List ByteArray}(k:Nat)(hk:k=78∨k=70)(x:List UInt8)(hx:x.length≤5000)(W0 W:World)(he:EC a W0)(h0:W0.heap.size≤wb)(hb0:Below W0.heap.size W0 W)(h:WS W wb vn vh N H)(hN:N.length≤10000) :
  Calls Tryz.prog 167 #[.pointer (some ⟨wb,0,none⟩),.int .u8 (k:Nat),.string (bt x)] W fun e W'=>Below W0.heap.size W0 W'∧((∃N' H' vn' vh',stepW k x (N,H)=some (N',H')∧e=.returned (.bool true)∧WS W' wb vn' vh' N' H')∨(stepW k x (N,H)=none∧e=.returned (.bool false))):=by
 obtain⟨i0,hi0,hz0,hz1,hz2⟩:=info_parts infoI
 obtain⟨pv,cv,rfl⟩:=own_shape h.on
 have hrn:=readNum_any x (by omega) W (he.later hb0)
 have HW:Hid (WS W wb (.slice pv N.length cv) vh N H):=h
 have HB0:Hid (Below W0.heap.size W0 W):=hb0
 have hmax:N.length+1≤maxLen:=by unfold maxLen;omega
 have k72:((k:Int)==72)=false:=by rw[beq_eq_false_iff_ne];omega
 have n72:¬k=72:=by omega
 have hlW:=h.lt
 clear h he hb0
 go_enter Tryz.func167,Tryz.ntmps167
 go_wp2_with fail
 refine hrn.mono ?_
 rintro e w9 ⟨hb9,hres⟩
 have hb09:=below_then HB0.out hb9
 have hW9:=HW.out.later hb9
 obtain⟨m,okb,rfl,hok⟩:∃(m:Int) (okb:Bool),e=.returned (.tuple #[.int .i64 m,.bool okb])∧((okb=true∧∃n:Nat,numW x=some n∧m=(n:Nat))∨(okb=false∧numW x=none)):=by
  rcases hres with⟨n,h1,h2⟩|⟨h1,z,h2⟩
  ·exact⟨_,_,h2,Or.inl ⟨rfl,n,h1,rfl⟩⟩
  ·exact⟨_,_,h2,Or.inr ⟨rfl,h1⟩⟩
 have HOK:Hid ((okb=true∧∃n:Nat,numW x=some n∧m=(n:Nat))∨(okb=false∧numW x=none)):=hok
 have HW9:Hid (WS w9 wb (.slice pv N.length cv) vh N H):=hW9
 have HB9:Hid (Below W0.heap.size W0 w9):=hb09
 have hl:=hW9.lt
 have c0:=hW9.c0
 have hown:=hW9.on.alloc (.cells #[.int .i64 m] 3)
 have hbA:Below w9.heap.size w9 (w9.alloc (.cells #[.int .i64 m] 3)):=(Below.refl _ _).alloc (Nat.le_refl _) _
 have hnews:=cellsW (w:=w9.alloc (.cells #[.int .i64 m] 3)) (b:=w9.heap.size) (v:=.int .i64 m) (by simp)
 have hszA:(w9.alloc (.cells #[.int .i64 m] 3)).heap.size=w9.heap.size+1:=by simp
 have hbs:wb+1≤(w9.alloc (.cells #[.int .i64 m] 3)).heap.size:=by rw[hszA];omega
 clear hrn hres hok hb9 hb09 hW9
 go_wp2_with (at_builtin;refine wpList_append_lies _ rfl _ _ 34 rfl (wb+1) 3 i0 _ 1 8 Tryz.underlying34 hi0 hz0 hz1 hz2 rfl (by decide) (.slice pv N.length cv) N.length (N.map fun n=>.int .i64 (n:Nat)) rfl hown ⟨w9.heap.size,0,none⟩ 1 1 [.int .i64 m] rfl rfl hnews (fun u hu=>by simp at hu;subst hu;rfl) (by decide) hmax (by omega) hbs _ rfl ?_)
 intro g cap w1 hown1 hgr hat _
 have hpb:w1.heap[wb]?=w9.heap[wb]?:=(hgr.block wb (by omega) (fun e=>by have:=(HW9.out.on.lt wb e.symm).1;omega)).trans (hbA.block wb hl)
 have k0:w1.cell? ⟨wb,0,none⟩=some (.slice pv N.length cv):=(World.cell?_of_block (w:=w9) (w':=w1) (a:=⟨wb,0,none⟩) hpb).trans HW9.out.c0
 have f0:w1.frozen? ⟨wb,0,none⟩=false:=(World.frozen?_of_block (w:=w9) (w':=w1) (a:=⟨wb,0,none⟩) hpb).trans (HW9.out.fz 0)
 have hbX:Below W0.heap.size W0 (w1.setCell ⟨wb,0,none⟩ (.slice (some ⟨g,0,none⟩) (N.length+1) cap)):=by
  have hsz:(w1.setCell ⟨wb,0,none⟩ (.slice (some ⟨g,0,none⟩) (N.length+1) cap)).heap.size=w1.heap.size:=by simp[World.setCell]
  have hs0:=HB9.out.size
  refine⟨hgr.os.trans (hbA.os.trans HB9.out.os),hgr.tape.trans (hbA.tape.trans HB9.out.tape),hgr.output.trans (hbA.output.trans HB9.out.output),by have:=hgr.size;omega,fun q hq=>?_⟩
  rw[heap_setCell_other w1 ⟨wb,0,none⟩ q _ (fun e=>by simp only at e;omega),hgr.block q (by omega) (fun e=>by have:=(HW9.out.on.lt q e.symm).1;omega),hbA.block q (by omega),HB9.out.block q hq]
 have HBX:Hid (Below W0.heap.size W0 (w1.setCell ⟨wb,0,none⟩ (.slice (some ⟨g,0,none⟩) (N.length+1) cap))):=hbX
 rcases HOK.out with⟨rfl,n,hn,rfl⟩|⟨rfl,hn⟩
 ·obtain⟨hW2,_⟩:=HW9.out.num n hbA hown1 hgr (by rw[hszA];exact hat)
  have HW2:Hid (WS (w1.setCell ⟨wb,0,none⟩ (.slice (some ⟨g,0,none⟩) (N.length+1) cap)) wb (.slice (some ⟨g,0,none⟩) (N.length+1) cap) vh (N++[n]) H):=hW2
  have hst:stepW k x (N,H)=if k=78∨n≤1 then some (N++[n],H) else none:=by
   unfold stepW
   rw[if_neg n72,hn]
  have HST:Hid (stepW k x (N,H)=if k=78∨n≤1 then some (N++[n],H) else none):=hst
  clear hW2 hbX hown1 hgr hat hpb hown hnews hszA hbs hbA c0 hn hst HOK
  have HK:Hid (k=78∨k=70):=hk
  clear hk
  by_cases h8:k=78
  ·have d8:((k:Int)==78)=true:=by simp;omega
   have H8:Hid (k=78):=h8
   clear h8
   go_wp2
   go_ret
   exact⟨HBX.out,Or.inl ⟨_,_,_,_,by rw[HST.out,if_pos (Or.inl H8.out)],rfl,HW2.out⟩⟩
  ·have d8:((k:Int)==78)=false:=by rw[beq_eq_false_iff_ne];omega
   by_cases h1:n≤1
   ·have d1:decide ((n:Int)≤1)=true:=by simp;omega
    have H1:Hid (n≤1):=h1
    go_wp2
    go_ret
    exact⟨HBX.out,Or.inl ⟨_,_,_,_,by rw[HST.out,if_pos (Or.inr H1.out)],rfl,HW2.out⟩⟩
   ·have d1:decide ((n:Int)≤1)=false:=by simp;omega
    have H1:Hid (¬(k=78∨n≤1)):=fun h=>h.elim h8 h1
    go_wp2
    go_ret
    exact⟨HBX.out,Or.inr ⟨by rw[HST.out,if_neg H1.out],rfl⟩⟩
 ·have HST:Hid (stepW k x (N,H)=none):=by
   show _=_
   unfold stepW
   rw[if_neg n72,hn]
  clear hbX hown1 hgr hat hpb hown hnews hszA hbs hbA c0 hn HOK
  go_wp2
  go_ret
  exact⟨HBX.out,Or.inr ⟨HST.out,rfl⟩⟩
end Go.Proofs.YtfhmfjcpggddkaaGreatDoor
