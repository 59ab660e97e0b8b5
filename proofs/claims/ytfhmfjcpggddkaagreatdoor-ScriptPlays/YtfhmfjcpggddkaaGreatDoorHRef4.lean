/- The model of health: Look. -/
import Derived.Test.YtfhmfjcpggddkaaGreatDoorM11
set_option maxHeartbeats 20000000
set_option maxRecDepth 100000
namespace Go.Proofs.YtfhmfjcpggddkaaGreatDoor
open Go.RowKit
theorem MH.drew {W:World}{m f r:Nat}{L:List Mh}{lv:Value}(h:MH W m f r L lv):MH W.drew m f r L lv:=⟨h.c0,h.c1,h.c2,h.fz,h.own,h.looks,h.apart,h.pair⟩
theorem Tur.drew {F:Nat→Prop}{w w':World}(h:Tur F w w'):Tur F w w'.drew:=⟨h.os,h.tape,h.output,h.size,h.block⟩
theorem infoB:(Tryz.prog.info? 4).map (fun i=>(i.zero,i.size,i.bytes))=some (some (.bool false),1,1):=by kernel_rfl
theorem cells_bool {w:World}{t:TypeId}(b:Bool):∀j u,[Value.bool b][j]?=some u→(w.alloc (.cells #[.bool b] t)).cell? ((⟨w.heap.size,0,none⟩:Addr).add j)=some u:=by
 intro j u hu
 match j,hu with
 | 0,hu=>simp at hu;subst hu;simp[Addr.add]
 | j+1,hu=>simp at hu
theorem bools_one (l:List Bool):∀u∈l.map Value.bool,u.oneCell'=true:=by
 intro u hu
 obtain⟨b,_,rfl⟩:=List.mem_map.1 hu
 rfl
theorem bools_of_owns {w:World}{base n:Nat}{g cap:Nat}{e:TypeId}{l:List Bool}(h:w.ownsRow base e 1 (.slice (some ⟨g,0,none⟩) n cap) n (l.map Value.bool)):∀j (hj:j<l.length),w.cell? ⟨g,j,none⟩=some (.bool l[j]):=fun j hj=>by
 obtain⟨hl,⟨e0,_⟩|⟨g',cap',cur,e1,_,hb,hn,hm,hsz,ht⟩⟩:=h
 ·cases e0
 ·cases e1
  have hl':l.length=n:=by simpa using hl
  have hk:(cur.toList.take (n*1))[j]?=some (.bool l[j]):=by rw[ht];simp[hj]
  rw[List.getElem?_take_of_lt (by omega)] at hk
  simp only[World.cell?,hb]
  simpa using hk
theorem look_end {w1 wz:World}{m f r:Nat}{L:List Mh}{g cap k:Nat}(h:MH w1 m f r L (.slice (some ⟨g,0,none⟩) L.length cap))(hk:k<L.length)(x:Mh)(hos:wz.os=w1.os)(htp:wz.tape=w1.tape)(hout:wz.output=w1.output)(hsz:w1.heap.size≤wz.heap.size)(hkeep:∀b,b<w1.heap.size→some b≠(L[k]).val.ownBlock→wz.heap[b]?=w1.heap[b]?)(hgv:some g≠(L[k]).val.ownBlock)
  (hlk:wz.ownsRow (m+1) 4 1 x.val x.looks.length (x.looks.map Value.bool)) (hgx:∀q,x.val.ownBlock=some q→q≠g) (hat:x.val.ownBlock=none∨x.val.ownBlock=(L[k]).val.ownBlock∨∃q,x.val.ownBlock=some q∧w1.heap.size≤q) :
  MH (((wz.setCell ⟨g,k*3,none⟩ (.string x.name)).setCell ⟨g,k*3+1,none⟩ (.bool x.up)).setCell ⟨g,k*3+2,none⟩ x.val) m f r (L.set k x) (.slice (some ⟨g,0,none⟩) L.length cap) ∧
  Tur (MFoot m L (.slice (some ⟨g,0,none⟩) L.length cap)) w1 (((wz.setCell ⟨g,k*3,none⟩ (.string x.name)).setCell ⟨g,k*3+1,none⟩ (.bool x.up)).setCell ⟨g,k*3+2,none⟩ x.val) ∧
  ∀b,MFoot m (L.set k x) (.slice (some ⟨g,0,none⟩) L.length cap) b→MFoot m L (.slice (some ⟨g,0,none⟩) L.length cap) b∨w1.heap.size≤b:=by
 have hoth:∀b,b≠g→(((wz.setCell ⟨g,k*3,none⟩ (.string x.name)).setCell ⟨g,k*3+1,none⟩ (.bool x.up)).setCell ⟨g,k*3+2,none⟩ x.val).heap[b]?=wz.heap[b]?:=fun b hb=>by
  rw[heap_setCell_other _ ⟨g,k*3+2,none⟩ b _ hb,heap_setCell_other _ ⟨g,k*3+1,none⟩ b _ hb,heap_setCell_other _ ⟨g,k*3,none⟩ b _ hb]
 have hglt:=(h.own.lt g rfl).2
 have hrow0:wz.ownsRow (m+1) 127 3 (.slice (some ⟨g,0,none⟩) L.length cap) L.length (flatH L):=owns_same h.own fun q e=>by
  have e2:g=q:=Option.some.inj e
  subst e2
  exact hkeep g hglt hgv
 have hrow:=owns_set (owns_set (owns_set hrow0 (k*3) (.string x.name)) (k*3+1) (.bool x.up)) (k*3+2) x.val
 rw[←flatH_set L k x hk] at hrow
 obtain⟨h1,h2⟩:=h.looked hk x (fun b hb hbg hbv=>(hoth b hbg).trans (hkeep b hb hbv)) hrow (owns_same hlk fun q e=>hoth q (hgx q e)) hat
 refine⟨h1,⟨hos,htp,hout,by simpa [World.setCell] using hsz,fun b hb hf=>?_⟩,h2⟩
 rw[hoth b fun e=>hf (Or.inr (Or.inl (by rw[e];rfl)))]
 exact hkeep b hb fun e=>hf (Or.inr (Or.inr ⟨_,List.getElem_mem hk,e.symm⟩))
theorem lookM_core {W:World}{m f r:Nat}{L:List Mh}{g cap:Nat}(h:MH W m f r L (.slice (some ⟨g,0,none⟩) L.length cap))(hl:L.length≤12)(s:ByteArray)(well:Bool)(k:Nat)(hk:k<L.length)(hfi:fi (hst L) s=(k:Nat))(hlk:(L[k]).looks.length≤100000) :
  Calls Tryz.prog 76 #[.pointer (some ⟨m,0,none⟩),.string s,.bool well] W fun e w'=>∃v,e=.returned (.tuple #[.bool (turnM f r L[k] well),.int .i64 0])∧MH w' m f r (L.set k (lookM f r L[k] well v)) (.slice (some ⟨g,0,none⟩) L.length cap)∧Tur (MFoot m L (.slice (some ⟨g,0,none⟩) L.length cap)) W w'∧∀b,MFoot m (L.set k (lookM f r L[k] well v)) (.slice (some ⟨g,0,none⟩) L.length cap) b→MFoot m L (.slice (some ⟨g,0,none⟩) L.length cap) b∨W.heap.size≤b:=by
 have hfd:=find_any h hl s
 rw[hfi] at hfd
 obtain⟨g',cap',e',_,hglt,_,hc,hgf⟩:=row_of_owns3 h.own (by omega)
 cases e'
 obtain⟨cn,cu,cv⟩:=hc k hk
 have c2:=h.c2
 have hki:(k:Int)<(L.length:Int):=by omega
 have hown:=h.looks _ (List.getElem_mem hk)
 have HM:Hid (MH W m f r L (.slice (some ⟨g,0,none⟩) L.length cap)):=h
 clear hc h hfi
 obtain⟨X,hX⟩:∃X,L[k]=X:=⟨_,rfl⟩
 rw[hX] at cn cu cv hown hlk
 have HX:Hid (L[k]=X):=hX
 rw[hX]
 clear hX
 obtain⟨nm,up,lk,vv⟩:=X
 dsimp only at cn cu cv hown hlk
 obtain⟨vp,vc,hv⟩:∃p c,vv=.slice p lk.length c:=by
  rcases hown.2 with⟨e1,e2⟩|⟨q,c,cur,e1,_⟩
  ·have:lk.length=0:=by simpa using e2
   exact⟨_,_,by rw[this];exact e1⟩
  ·exact⟨_,_,e1⟩
 subst hv
 have hnl:lk.length≤100000:=hlk
 obtain⟨i,hi,hz0,hz1,hz2⟩:=info_parts infoB
 have hown2:=(hown.alloc (.cells #[.string nm,.bool up,.slice vp lk.length vc] 127)).alloc (.cells #[.bool well] 4)
 have hnews:=cells_bool (w:=W.alloc (.cells #[.string nm,.bool up,.slice vp lk.length vc] 127)) (t:=4) well
 have hsz1:(W.alloc (.cells #[.string nm,.bool up,.slice vp lk.length vc] 127)).heap.size=W.heap.size+1:=by simp
 rw[hsz1] at hnews
 have hsz2:((W.alloc (.cells #[.string nm,.bool up,.slice vp lk.length vc] 127)).alloc (.cells #[.bool well] 4)).heap.size=W.heap.size+2:=by simp
 have hmx:lk.length+1≤maxLen:=by unfold maxLen;omega
 have hmlt:=HM.out.mlt
 have d0:decide ((k:Int)<0)=false:=by simp
 go_enter Tryz.func76,Tryz.ntmps76
 go_wp2_with fail
 refine hfd.mono ?_
 rintro e w1 ⟨rfl,rfl⟩
 clear hfd
 have tok1:True:=trivial
 go_wp2_with (at_builtin;clear tok1;refine wpList_append_lies _ rfl _ _ 125 rfl (m+1) 4 i _ 1 1 Tryz.underlying125 hi hz0 hz1 hz2 rfl (by decide) (.slice vp lk.length vc) lk.length (lk.map Value.bool) rfl hown2 ⟨w1.heap.size+1,0,none⟩ 1 1 [.bool well] rfl rfl hnews (bools_one [well]) (by decide) hmx (by omega) (by omega) (w1.heap.size+2) hsz2 ?_)
 intro g2 cp w3 hown3 hgr hat hg2
 obtain⟨xb,hxb⟩:∃xb,w1.heap.size=xb:=⟨_,rfl⟩
 have hvne:∀b,(b≤m∨w1.heap.size≤b∨b=g)→some b≠(Value.slice vp lk.length vc).ownBlock:=fun b hb e=>by
  have h1:=hown.lt b e.symm
  rcases hb with h2|h2|rfl
  ·omega
  ·omega
  ·rcases HM.out.apart _ (List.getElem_mem hk) with h3|h3
   ·rw[HX.out] at h3
    rw[←e] at h3
    cases h3
   ·rw[HX.out] at h3
    exact h3 e.symm
 have hkeep:∀b,b<w1.heap.size→some b≠(Value.slice vp lk.length vc).ownBlock→w3.heap[b]?=w1.heap[b]?:=fun b hb hne=>by
  rw[hgr.block b (by rw[hsz2];omega) hne]
  exact (((Below.refl w1.heap.size w1).alloc (Nat.le_refl _) _).alloc (by simp) _).block b hb
 have hx3:w3.heap[xb]?=some (.cells #[.string nm,.bool up,.slice vp lk.length vc] 127 (0,0)):=by
  rw[hgr.block xb (by rw[hsz2];omega) (hvne xb (by omega)),←hxb]
  have e1:((w1.alloc (.cells #[.string nm,.bool up,.slice vp lk.length vc] 127)).alloc (.cells #[.bool well] 4)).heap[w1.heap.size]?=(w1.alloc (.cells #[.string nm,.bool up,.slice vp lk.length vc] 127)).heap[w1.heap.size]?:=Below.heap_alloc _ _ _ (by simp)
  rw[e1]
  exact (Go.MapKept.heap_alloc w1 _).1
 have hown4:=hown3
 have hg2x:g2≠xb:=by
  rcases hat with e|e
  ·have:=hown.lt g2 e
   omega
  ·omega
 have hx4:=heap_setCell_same w3 xb 2 _ _ (.slice (some ⟨g2,0,none⟩) (lk.length+1) cp) hx3
 have hkeep4:∀b,b<w1.heap.size→some b≠(Value.slice vp lk.length vc).ownBlock→(w3.setCell ⟨xb,2,none⟩ (.slice (some ⟨g2,0,none⟩) (lk.length+1) cp)).heap[b]?=w1.heap[b]?:=fun b hb hne=>by
  rw[heap_setCell_other w3 ⟨xb,2,none⟩ b _ (show b≠xb by omega)]
  exact hkeep b hb hne
 have hown5:(w3.setCell ⟨xb,2,none⟩ (.slice (some ⟨g2,0,none⟩) (lk.length+1) cp)).ownsRow (m+1) 4 1 (.slice (some ⟨g2,0,none⟩) (lk.length+1) cp) (lk.length+1) ((lk++[well]).map Value.bool):=by
  rw[List.map_append]
  refine owns_same hown3 fun q e=>?_
  have e2:g2=q:=Option.some.inj e
  rw[heap_setCell_other w3 ⟨xb,2,none⟩ q _ (show q≠xb by omega)]
 have hT4:Tur (MFoot m L (.slice (some ⟨g,0,none⟩) L.length cap)) w1 (w3.setCell ⟨xb,2,none⟩ (.slice (some ⟨g2,0,none⟩) (lk.length+1) cp)):=by
  refine⟨hgr.os,hgr.tape,hgr.output,?_,fun b hb hf=>hkeep4 b hb fun e=>hf (Or.inr (Or.inr ⟨_,List.getElem_mem hk,?_⟩))⟩
  ·have:=hgr.size
   simp[World.setCell]
   omega
  ·rw[HX.out]
   exact e.symm
 have c3:=cell_of_row w3 xb 2 _ _ _ hx3
 have f3:=frozen_of_row w3 xb 2 _ _ hx3
 have HK4:Hid (∀b,b<w1.heap.size→some b≠(Value.slice vp lk.length vc).ownBlock→(w3.setCell ⟨xb,2,none⟩ (.slice (some ⟨g2,0,none⟩) (lk.length+1) cp)).heap[b]?=w1.heap[b]?):=hkeep4
 have HO5:Hid ((w3.setCell ⟨xb,2,none⟩ (.slice (some ⟨g2,0,none⟩) (lk.length+1) cp)).ownsRow (m+1) 4 1 (.slice (some ⟨g2,0,none⟩) (lk.length+1) cp) (lk.length+1) ((lk++[well]).map Value.bool)):=hown5
 have HT4:Hid (Tur (MFoot m L (.slice (some ⟨g,0,none⟩) L.length cap)) w1 (w3.setCell ⟨xb,2,none⟩ (.slice (some ⟨g2,0,none⟩) (lk.length+1) cp))):=hT4
 have HVN:Hid (∀b,(b≤m∨w1.heap.size≤b∨b=g)→some b≠(Value.slice vp lk.length vc).ownBlock):=hvne
 have HAT:Hid ((Value.slice vp lk.length vc).ownBlock=some g2∨g2=w1.heap.size+2):=hat
 have HX4:Hid ((w3.setCell ⟨xb,2,none⟩ (.slice (some ⟨g2,0,none⟩) (lk.length+1) cp)).heap[xb]?=some (.cells #[.string nm,.bool up,.slice (some ⟨g2,0,none⟩) (lk.length+1) cp] 127 (0,0))):=by
  have e:(#[.string nm,.bool up,.slice vp lk.length vc]:Array Value).setIfInBounds 2 (.slice (some ⟨g2,0,none⟩) (lk.length+1) cp)=#[.string nm,.bool up,.slice (some ⟨g2,0,none⟩) (lk.length+1) cp]:=rfl
  rw[e] at hx4
  exact hx4
 have HXB:Hid (w1.heap.size=xb):=hxb
 clear hown3 hown4 hown5 hkeep hkeep4 hgr hx3 hx4 hT4 hvne hat hown2 hnews hsz1 hsz2 hown
 rw[hxb]
 clear hxb
 go_wp2_with fail
 generalize w3.setCell ⟨xb,2,none⟩ (.slice (some ⟨g2,0,none⟩) (lk.length+1) cp)=w4 at *
 obtain⟨ll,hll⟩:∃ll,lk++[well]=ll:=⟨_,rfl⟩
 have hN:lk.length+1=ll.length:=by rw[←hll];simp
 rw[hll] at HO5
 have HLL:Hid (lk++[well]=ll):=hll
 rw[hN] at HO5 HX4
 simp only[hN]
 have hNl:ll.length≤100001:=by omega
 have HC5:Hid (∀j (hj:j<ll.length),w4.cell? ⟨g2,j,none⟩=some (.bool ll[j])):=bools_of_owns HO5.out
 clear hll hmx c3 f3
 go_loopw [10] (fun t W'=>Below w4.heap.size w4 W'∧∃n:Nat,n≤ll.length∧t=.int .i64 (n:Nat)∧∀j (hj:j<ll.length),j<n→ll[ll.length - 1 - j]≠up) (fun t _=>ll.length - (intOf t).toNat)
 case atStart=>exact⟨Below.refl _ _,0,Nat.zero_le _,rfl,fun j _ h=>absurd h (by omega)⟩
 case round =>
  obtain⟨hb,n,hn,rfl,hp⟩:=hrel
  have HP:Hid (∀j (hj:j<ll.length),j<n→ll[ll.length - 1 - j]≠up):=hp
  clear hp
  have hxr:wr.heap[xb]?=some (.cells #[.string nm,.bool up,.slice (some ⟨g2,0,none⟩) ll.length cp] 127 (0,0)):=(hb.block xb ((Array.getElem?_eq_some_iff.1 HX4.out).1)).trans HX4.out
  have x1:wr.cell? ⟨xb,1,none⟩=some (.bool up):=cell_of_row wr xb 1 _ _ _ hxr
  have x2:wr.cell? ⟨xb,2,none⟩=some (.slice (some ⟨g2,0,none⟩) ll.length cp):=cell_of_row wr xb 2 _ _ _ hxr
  have HXR:Hid (wr.heap[xb]?=some (.cells #[.string nm,.bool up,.slice (some ⟨g2,0,none⟩) ll.length cp] 127 (0,0))):=hxr
  clear hxr
  by_cases hlt:n<ll.length
  ·have hd:decide ((n:Int)<(ll.length:Int))=true:=by simp;omega
   have cq:=below_cell hb (HC5.out (ll.length - 1 - n) (by omega))
   have hix:(ll.length:Int) - 1 - (n:Int)=((ll.length - 1 - n:Nat):Int):=by omega
   have hil:ll.length - 1 - n<ll.length:=by omega
   by_cases he:ll[ll.length - 1 - n]=up
   ·have HTR:Hid (trail up ll=n):=trail_at hlt HP.out he
    go_wp2_with fail
    go_quiet (fail)
    clear cq he
    have hbq:Below w4.heap.size w4 (wr.drewN nq):=below_drewN hb nq
    have hxq:(wr.drewN nq).heap[xb]?=some (.cells #[.string nm,.bool up,.slice (some ⟨g2,0,none⟩) ll.length cp] 127 (0,0)):=HXR.out
    generalize wr.drewN nq=wq at *
    have HXQ:Hid (wq.heap[xb]?=some (.cells #[.string nm,.bool up,.slice (some ⟨g2,0,none⟩) ll.length cp] 127 (0,0))):=hxq
    have hsz4:=HT4.out.size
    have HKQ:Hid (∀b,b<w1.heap.size→some b≠(Value.slice vp lk.length vc).ownBlock→wq.heap[b]?=w1.heap[b]?):=fun b hb hne=>(hbq.block b (by omega)).trans (HK4.out b hb hne)
    have HQS:Hid (w1.heap.size≤wq.heap.size):=Nat.le_trans hsz4 hbq.size
    have HQO:Hid (wq.os=w1.os∧wq.tape=w1.tape∧wq.output=w1.output):=⟨hbq.os.trans HT4.out.os,hbq.tape.trans HT4.out.tape,hbq.output.trans HT4.out.output⟩
    have HO6:Hid (wq.ownsRow (m+1) 4 1 (.slice (some ⟨g2,0,none⟩) ll.length cp) ll.length (ll.map Value.bool)):=ownsRow_below HO5.out hbq
    have y1:wq.cell? ⟨xb,1,none⟩=some (.bool up):=cell_of_row wq xb 1 _ _ _ hxq
    have f1:wq.frozen? ⟨xb,1,none⟩=false:=frozen_of_row wq xb 1 _ _ hxq
    have y2:wq.cell? ⟨xb,2,none⟩=some (.slice (some ⟨g2,0,none⟩) ll.length cp):=cell_of_row wq xb 2 _ _ _ hxq
    have f2:wq.frozen? ⟨xb,2,none⟩=false:=frozen_of_row wq xb 2 _ _ hxq
    have hmq:=HKQ.out m hmlt (HVN.out m (Or.inl (Nat.le_refl _)))
    have m0:wq.cell? ⟨m,0,none⟩=some (.int .i64 (f:Nat)):=(World.cell?_of_block (w:=w1) (w':=wq) (a:=⟨m,0,none⟩) hmq).trans HM.out.c0
    have m1:wq.cell? ⟨m,1,none⟩=some (.int .i64 (r:Nat)):=(World.cell?_of_block (w:=w1) (w':=wq) (a:=⟨m,1,none⟩) hmq).trans HM.out.c1
    clear hxq hmq hbq hsz4 x1 x2 hb HXR
    cases up with
    | true =>
     by_cases hED:f≤n
     ·have hd1:decide (f≤n)=true:=by simpa using hED
      have hx6:=heap_setCell_same wq xb 1 _ _ (.bool false) HXQ.out
      have hx7:=heap_setCell_same (wq.setCell ⟨xb,1,none⟩ (.bool false)) xb 2 _ _ (.slice none 0 0) hx6
      have hx8:((wq.setCell ⟨xb,1,none⟩ (.bool false)).setCell ⟨xb,2,none⟩ (.slice none 0 0)).heap[xb]?=some (.cells #[.string nm,.bool false,.slice none 0 0] 127 (0,0)):=hx7
      have ho8:∀b,b≠xb→((wq.setCell ⟨xb,1,none⟩ (.bool false)).setCell ⟨xb,2,none⟩ (.slice none 0 0)).heap[b]?=wq.heap[b]?:=fun b hb=>by
       rw[heap_setCell_other _ ⟨xb,2,none⟩ b _ hb,heap_setCell_other _ ⟨xb,1,none⟩ b _ hb]
      have hs8:w1.heap.size≤((wq.setCell ⟨xb,1,none⟩ (.bool false)).setCell ⟨xb,2,none⟩ (.slice none 0 0)).heap.size:=by
       have h1:=HQS.out
       simpa [World.setCell] using h1
      have HK8:Hid (∀b,b<w1.heap.size→some b≠(Value.slice vp lk.length vc).ownBlock→((wq.setCell ⟨xb,1,none⟩ (.bool false)).setCell ⟨xb,2,none⟩ (.slice none 0 0)).heap[b]?=w1.heap[b]?):=fun b hb hne=>(ho8 b (by have:=HXB.out;omega)).trans (HKQ.out b hb hne)
      have HS8:Hid (w1.heap.size≤((wq.setCell ⟨xb,1,none⟩ (.bool false)).setCell ⟨xb,2,none⟩ (.slice none 0 0)).heap.size):=hs8
      have hq8:((wq.setCell ⟨xb,1,none⟩ (.bool false)).setCell ⟨xb,2,none⟩ (.slice none 0 0)).os=w1.os∧((wq.setCell ⟨xb,1,none⟩ (.bool false)).setCell ⟨xb,2,none⟩ (.slice none 0 0)).tape=w1.tape∧((wq.setCell ⟨xb,1,none⟩ (.bool false)).setCell ⟨xb,2,none⟩ (.slice none 0 0)).output=w1.output:=HQO.out
      have HQ8:Hid (((wq.setCell ⟨xb,1,none⟩ (.bool false)).setCell ⟨xb,2,none⟩ (.slice none 0 0)).os=w1.os∧((wq.setCell ⟨xb,1,none⟩ (.bool false)).setCell ⟨xb,2,none⟩ (.slice none 0 0)).tape=w1.tape∧((wq.setCell ⟨xb,1,none⟩ (.bool false)).setCell ⟨xb,2,none⟩ (.slice none 0 0)).output=w1.output):=hq8
      have HX8:Hid (((wq.setCell ⟨xb,1,none⟩ (.bool false)).setCell ⟨xb,2,none⟩ (.slice none 0 0)).heap[xb]?=some (.cells #[.string nm,.bool false,.slice none 0 0] 127 (0,0))):=hx8
      have HED:Hid (f≤n):=hED
      clear hx6 hx7 hx8 ho8 hs8 hq8 hED
      go_wp2_with fail
      generalize (wq.setCell ⟨xb,1,none⟩ (.bool false)).setCell ⟨xb,2,none⟩ (.slice none 0 0)=wz at *
      clear y1 m0 m1
      have z0:wz.cell? ⟨xb,0,none⟩=some (.string nm):=cell_of_row wz xb 0 _ _ _ HX8.out
      have z1:wz.cell? ⟨xb,1,none⟩=some (.bool false):=cell_of_row wz xb 1 _ _ _ HX8.out
      have z2:wz.cell? ⟨xb,2,none⟩=some (.slice none 0 0):=cell_of_row wz xb 2 _ _ _ HX8.out
      have hmz:=HK8.out m hmlt (HVN.out m (Or.inl (Nat.le_refl _)))
      have n2:wz.cell? ⟨m,2,none⟩=some (.slice (some ⟨g,0,none⟩) L.length cap):=(World.cell?_of_block (w:=w1) (w':=wz) (a:=⟨m,2,none⟩) hmz).trans c2
      have hgz:=HK8.out g hglt (HVN.out g (Or.inr (Or.inr rfl)))
      have g0:wz.cell? ⟨g,k*3,none⟩=some (.string nm):=(World.cell?_of_block (w:=w1) (w':=wz) (a:=⟨g,k*3,none⟩) hgz).trans cn
      have g1:wz.cell? ⟨g,k*3+1,none⟩=some (.bool true):=(World.cell?_of_block (w:=w1) (w':=wz) (a:=⟨g,k*3+1,none⟩) hgz).trans cu
      have g2':wz.cell? ⟨g,k*3+2,none⟩=some (.slice vp lk.length vc):=(World.cell?_of_block (w:=w1) (w':=wz) (a:=⟨g,k*3+2,none⟩) hgz).trans cv
      have k0:wz.frozen? ⟨g,k*3,none⟩=false:=(World.frozen?_of_block (w:=w1) (w':=wz) (a:=⟨g,k*3,none⟩) hgz).trans (hgf _)
      have k1:wz.frozen? ⟨g,k*3+1,none⟩=false:=(World.frozen?_of_block (w:=w1) (w':=wz) (a:=⟨g,k*3+1,none⟩) hgz).trans (hgf _)
      have k2:wz.frozen? ⟨g,k*3+2,none⟩=false:=(World.frozen?_of_block (w:=w1) (w':=wz) (a:=⟨g,k*3+2,none⟩) hgz).trans (hgf _)
      clear hmz hgz cn cu cv c2
      go_region
      all_goals
       go_wp2
       go_ret2
       have eL:lookM f r ⟨nm,true,lk,.slice vp lk.length vc⟩ well (.slice (some ⟨g2,0,none⟩) ll.length cp)=⟨nm,false,[],.slice none 0 0⟩:=by
        unfold lookM
        rw[if_pos (by show Lh.hedge f r true≤trail true (lk++[well]);rw[HLL.out,HTR.out];exact HED.out)]
        rfl
       have eT:turnM f r ⟨nm,true,lk,.slice vp lk.length vc⟩ well=true:=by
        unfold turnM
        exact decide_eq_true (by show Lh.hedge f r true≤trail true (lk++[well]);rw[HLL.out,HTR.out];exact HED.out)
       have hE:=look_end HM.out hk ⟨nm,false,[],.slice none 0 0⟩ HQ8.out.1 HQ8.out.2.1 HQ8.out.2.2 HS8.out (by rw[HX.out];exact HK8.out) (by rw[HX.out];exact HVN.out g (Or.inr (Or.inr rfl))) (World.ownsRow_nil _ _ _ _) (fun q e=>by cases e) (Or.inl rfl)
       exact⟨.slice (some ⟨g2,0,none⟩) ll.length cp,by rw[eT];rfl,by rw[eL];exact hE.1.drew,hE.2.1.drew,by rw[eL];exact hE.2.2⟩
     ·have hd1:decide (f≤n)=false:=by simpa using hED
      have HED:Hid (¬f≤n):=hED
      clear hED
      go_wp2_with fail
      obtain⟨wz,hwz⟩:∃wz,wz=wq:=⟨_,rfl⟩
      subst hwz
      have HK8:=HKQ
      have HS8:=HQS
      have HQ8:=HQO
      have HX8:=HXQ
      clear y1 m0 m1
      have z0:wz.cell? ⟨xb,0,none⟩=some (.string nm):=cell_of_row wz xb 0 _ _ _ HX8.out
      have z1:wz.cell? ⟨xb,1,none⟩=some (.bool true):=cell_of_row wz xb 1 _ _ _ HX8.out
      have z2:wz.cell? ⟨xb,2,none⟩=some (.slice (some ⟨g2,0,none⟩) ll.length cp):=cell_of_row wz xb 2 _ _ _ HX8.out
      have hmz:=HK8.out m hmlt (HVN.out m (Or.inl (Nat.le_refl _)))
      have n2:wz.cell? ⟨m,2,none⟩=some (.slice (some ⟨g,0,none⟩) L.length cap):=(World.cell?_of_block (w:=w1) (w':=wz) (a:=⟨m,2,none⟩) hmz).trans c2
      have hgz:=HK8.out g hglt (HVN.out g (Or.inr (Or.inr rfl)))
      have g0:wz.cell? ⟨g,k*3,none⟩=some (.string nm):=(World.cell?_of_block (w:=w1) (w':=wz) (a:=⟨g,k*3,none⟩) hgz).trans cn
      have g1:wz.cell? ⟨g,k*3+1,none⟩=some (.bool true):=(World.cell?_of_block (w:=w1) (w':=wz) (a:=⟨g,k*3+1,none⟩) hgz).trans cu
      have g2':wz.cell? ⟨g,k*3+2,none⟩=some (.slice vp lk.length vc):=(World.cell?_of_block (w:=w1) (w':=wz) (a:=⟨g,k*3+2,none⟩) hgz).trans cv
      have k0:wz.frozen? ⟨g,k*3,none⟩=false:=(World.frozen?_of_block (w:=w1) (w':=wz) (a:=⟨g,k*3,none⟩) hgz).trans (hgf _)
      have k1:wz.frozen? ⟨g,k*3+1,none⟩=false:=(World.frozen?_of_block (w:=w1) (w':=wz) (a:=⟨g,k*3+1,none⟩) hgz).trans (hgf _)
      have k2:wz.frozen? ⟨g,k*3+2,none⟩=false:=(World.frozen?_of_block (w:=w1) (w':=wz) (a:=⟨g,k*3+2,none⟩) hgz).trans (hgf _)
      clear hmz hgz cn cu cv c2
      go_region
      all_goals
       go_wp2
       go_ret2
       have eL:lookM f r ⟨nm,true,lk,.slice vp lk.length vc⟩ well (.slice (some ⟨g2,0,none⟩) ll.length cp)=⟨nm,true,ll,.slice (some ⟨g2,0,none⟩) ll.length cp⟩:=by
        unfold lookM
        rw[if_neg (by show ¬Lh.hedge f r true≤trail true (lk++[well]);rw[HLL.out,HTR.out];exact HED.out)]
        show Mh.mk nm true (lk++[well]) _=_
        rw[HLL.out]
       have eT:turnM f r ⟨nm,true,lk,.slice vp lk.length vc⟩ well=false:=by
        unfold turnM
        exact decide_eq_false (by show ¬Lh.hedge f r true≤trail true (lk++[well]);rw[HLL.out,HTR.out];exact HED.out)
       have hE:=look_end HM.out hk ⟨nm,true,ll,.slice (some ⟨g2,0,none⟩) ll.length cp⟩ HQ8.out.1 HQ8.out.2.1 HQ8.out.2.2 HS8.out (by rw[HX.out];exact HK8.out) (by rw[HX.out];exact HVN.out g (Or.inr (Or.inr rfl))) HO6.out (fun q e=>by
        have e2:g2=q:=Option.some.inj e
        rcases HAT.out with e3|e3
        ·intro e4
         exact HVN.out g (Or.inr (Or.inr rfl)) (by rw[e3,e2,e4])
        ·omega) (by
        rcases HAT.out with e3|e3
        ·exact Or.inr (Or.inl (by rw[HX.out];exact e3.symm))
        ·exact Or.inr (Or.inr ⟨g2,rfl,by omega⟩))
       exact⟨.slice (some ⟨g2,0,none⟩) ll.length cp,by rw[eT];rfl,by rw[eL];exact hE.1.drew,hE.2.1.drew,by rw[eL];exact hE.2.2⟩
    | false =>
     by_cases hED:r≤n
     ·have hd1:decide (r≤n)=true:=by simpa using hED
      have hx6:=heap_setCell_same wq xb 1 _ _ (.bool true) HXQ.out
      have hx7:=heap_setCell_same (wq.setCell ⟨xb,1,none⟩ (.bool true)) xb 2 _ _ (.slice none 0 0) hx6
      have hx8:((wq.setCell ⟨xb,1,none⟩ (.bool true)).setCell ⟨xb,2,none⟩ (.slice none 0 0)).heap[xb]?=some (.cells #[.string nm,.bool true,.slice none 0 0] 127 (0,0)):=hx7
      have ho8:∀b,b≠xb→((wq.setCell ⟨xb,1,none⟩ (.bool true)).setCell ⟨xb,2,none⟩ (.slice none 0 0)).heap[b]?=wq.heap[b]?:=fun b hb=>by
       rw[heap_setCell_other _ ⟨xb,2,none⟩ b _ hb,heap_setCell_other _ ⟨xb,1,none⟩ b _ hb]
      have hs8:w1.heap.size≤((wq.setCell ⟨xb,1,none⟩ (.bool true)).setCell ⟨xb,2,none⟩ (.slice none 0 0)).heap.size:=by
       have h1:=HQS.out
       simpa [World.setCell] using h1
      have HK8:Hid (∀b,b<w1.heap.size→some b≠(Value.slice vp lk.length vc).ownBlock→((wq.setCell ⟨xb,1,none⟩ (.bool true)).setCell ⟨xb,2,none⟩ (.slice none 0 0)).heap[b]?=w1.heap[b]?):=fun b hb hne=>(ho8 b (by have:=HXB.out;omega)).trans (HKQ.out b hb hne)
      have HS8:Hid (w1.heap.size≤((wq.setCell ⟨xb,1,none⟩ (.bool true)).setCell ⟨xb,2,none⟩ (.slice none 0 0)).heap.size):=hs8
      have hq8:((wq.setCell ⟨xb,1,none⟩ (.bool true)).setCell ⟨xb,2,none⟩ (.slice none 0 0)).os=w1.os∧((wq.setCell ⟨xb,1,none⟩ (.bool true)).setCell ⟨xb,2,none⟩ (.slice none 0 0)).tape=w1.tape∧((wq.setCell ⟨xb,1,none⟩ (.bool true)).setCell ⟨xb,2,none⟩ (.slice none 0 0)).output=w1.output:=HQO.out
      have HQ8:Hid (((wq.setCell ⟨xb,1,none⟩ (.bool true)).setCell ⟨xb,2,none⟩ (.slice none 0 0)).os=w1.os∧((wq.setCell ⟨xb,1,none⟩ (.bool true)).setCell ⟨xb,2,none⟩ (.slice none 0 0)).tape=w1.tape∧((wq.setCell ⟨xb,1,none⟩ (.bool true)).setCell ⟨xb,2,none⟩ (.slice none 0 0)).output=w1.output):=hq8
      have HX8:Hid (((wq.setCell ⟨xb,1,none⟩ (.bool true)).setCell ⟨xb,2,none⟩ (.slice none 0 0)).heap[xb]?=some (.cells #[.string nm,.bool true,.slice none 0 0] 127 (0,0))):=hx8
      have HED:Hid (r≤n):=hED
      clear hx6 hx7 hx8 ho8 hs8 hq8 hED
      go_wp2_with fail
      generalize (wq.setCell ⟨xb,1,none⟩ (.bool true)).setCell ⟨xb,2,none⟩ (.slice none 0 0)=wz at *
      clear y1 m0 m1
      have z0:wz.cell? ⟨xb,0,none⟩=some (.string nm):=cell_of_row wz xb 0 _ _ _ HX8.out
      have z1:wz.cell? ⟨xb,1,none⟩=some (.bool true):=cell_of_row wz xb 1 _ _ _ HX8.out
      have z2:wz.cell? ⟨xb,2,none⟩=some (.slice none 0 0):=cell_of_row wz xb 2 _ _ _ HX8.out
      have hmz:=HK8.out m hmlt (HVN.out m (Or.inl (Nat.le_refl _)))
      have n2:wz.cell? ⟨m,2,none⟩=some (.slice (some ⟨g,0,none⟩) L.length cap):=(World.cell?_of_block (w:=w1) (w':=wz) (a:=⟨m,2,none⟩) hmz).trans c2
      have hgz:=HK8.out g hglt (HVN.out g (Or.inr (Or.inr rfl)))
      have g0:wz.cell? ⟨g,k*3,none⟩=some (.string nm):=(World.cell?_of_block (w:=w1) (w':=wz) (a:=⟨g,k*3,none⟩) hgz).trans cn
      have g1:wz.cell? ⟨g,k*3+1,none⟩=some (.bool false):=(World.cell?_of_block (w:=w1) (w':=wz) (a:=⟨g,k*3+1,none⟩) hgz).trans cu
      have g2':wz.cell? ⟨g,k*3+2,none⟩=some (.slice vp lk.length vc):=(World.cell?_of_block (w:=w1) (w':=wz) (a:=⟨g,k*3+2,none⟩) hgz).trans cv
      have k0:wz.frozen? ⟨g,k*3,none⟩=false:=(World.frozen?_of_block (w:=w1) (w':=wz) (a:=⟨g,k*3,none⟩) hgz).trans (hgf _)
      have k1:wz.frozen? ⟨g,k*3+1,none⟩=false:=(World.frozen?_of_block (w:=w1) (w':=wz) (a:=⟨g,k*3+1,none⟩) hgz).trans (hgf _)
      have k2:wz.frozen? ⟨g,k*3+2,none⟩=false:=(World.frozen?_of_block (w:=w1) (w':=wz) (a:=⟨g,k*3+2,none⟩) hgz).trans (hgf _)
      clear hmz hgz cn cu cv c2
      go_region
      all_goals
       go_wp2
       go_ret2
       have eL:lookM f r ⟨nm,false,lk,.slice vp lk.length vc⟩ well (.slice (some ⟨g2,0,none⟩) ll.length cp)=⟨nm,true,[],.slice none 0 0⟩:=by
        unfold lookM
        rw[if_pos (by show Lh.hedge f r false≤trail false (lk++[well]);rw[HLL.out,HTR.out];exact HED.out)]
        rfl
       have eT:turnM f r ⟨nm,false,lk,.slice vp lk.length vc⟩ well=true:=by
        unfold turnM
        exact decide_eq_true (by show Lh.hedge f r false≤trail false (lk++[well]);rw[HLL.out,HTR.out];exact HED.out)
       have hE:=look_end HM.out hk ⟨nm,true,[],.slice none 0 0⟩ HQ8.out.1 HQ8.out.2.1 HQ8.out.2.2 HS8.out (by rw[HX.out];exact HK8.out) (by rw[HX.out];exact HVN.out g (Or.inr (Or.inr rfl))) (World.ownsRow_nil _ _ _ _) (fun q e=>by cases e) (Or.inl rfl)
       exact⟨.slice (some ⟨g2,0,none⟩) ll.length cp,by rw[eT];rfl,by rw[eL];exact hE.1.drew,hE.2.1.drew,by rw[eL];exact hE.2.2⟩
     ·have hd1:decide (r≤n)=false:=by simpa using hED
      have HED:Hid (¬r≤n):=hED
      clear hED
      go_wp2_with fail
      obtain⟨wz,hwz⟩:∃wz,wz=wq:=⟨_,rfl⟩
      subst hwz
      have HK8:=HKQ
      have HS8:=HQS
      have HQ8:=HQO
      have HX8:=HXQ
      clear y1 m0 m1
      have z0:wz.cell? ⟨xb,0,none⟩=some (.string nm):=cell_of_row wz xb 0 _ _ _ HX8.out
      have z1:wz.cell? ⟨xb,1,none⟩=some (.bool false):=cell_of_row wz xb 1 _ _ _ HX8.out
      have z2:wz.cell? ⟨xb,2,none⟩=some (.slice (some ⟨g2,0,none⟩) ll.length cp):=cell_of_row wz xb 2 _ _ _ HX8.out
      have hmz:=HK8.out m hmlt (HVN.out m (Or.inl (Nat.le_refl _)))
      have n2:wz.cell? ⟨m,2,none⟩=some (.slice (some ⟨g,0,none⟩) L.length cap):=(World.cell?_of_block (w:=w1) (w':=wz) (a:=⟨m,2,none⟩) hmz).trans c2
      have hgz:=HK8.out g hglt (HVN.out g (Or.inr (Or.inr rfl)))
      have g0:wz.cell? ⟨g,k*3,none⟩=some (.string nm):=(World.cell?_of_block (w:=w1) (w':=wz) (a:=⟨g,k*3,none⟩) hgz).trans cn
      have g1:wz.cell? ⟨g,k*3+1,none⟩=some (.bool false):=(World.cell?_of_block (w:=w1) (w':=wz) (a:=⟨g,k*3+1,none⟩) hgz).trans cu
      have g2':wz.cell? ⟨g,k*3+2,none⟩=some (.slice vp lk.length vc):=(World.cell?_of_block (w:=w1) (w':=wz) (a:=⟨g,k*3+2,none⟩) hgz).trans cv
      have k0:wz.frozen? ⟨g,k*3,none⟩=false:=(World.frozen?_of_block (w:=w1) (w':=wz) (a:=⟨g,k*3,none⟩) hgz).trans (hgf _)
      have k1:wz.frozen? ⟨g,k*3+1,none⟩=false:=(World.frozen?_of_block (w:=w1) (w':=wz) (a:=⟨g,k*3+1,none⟩) hgz).trans (hgf _)
      have k2:wz.frozen? ⟨g,k*3+2,none⟩=false:=(World.frozen?_of_block (w:=w1) (w':=wz) (a:=⟨g,k*3+2,none⟩) hgz).trans (hgf _)
      clear hmz hgz cn cu cv c2
      go_region
      all_goals
       go_wp2
       go_ret2
       have eL:lookM f r ⟨nm,false,lk,.slice vp lk.length vc⟩ well (.slice (some ⟨g2,0,none⟩) ll.length cp)=⟨nm,false,ll,.slice (some ⟨g2,0,none⟩) ll.length cp⟩:=by
        unfold lookM
        rw[if_neg (by show ¬Lh.hedge f r false≤trail false (lk++[well]);rw[HLL.out,HTR.out];exact HED.out)]
        show Mh.mk nm false (lk++[well]) _=_
        rw[HLL.out]
       have eT:turnM f r ⟨nm,false,lk,.slice vp lk.length vc⟩ well=false:=by
        unfold turnM
        exact decide_eq_false (by show ¬Lh.hedge f r false≤trail false (lk++[well]);rw[HLL.out,HTR.out];exact HED.out)
       have hE:=look_end HM.out hk ⟨nm,false,ll,.slice (some ⟨g2,0,none⟩) ll.length cp⟩ HQ8.out.1 HQ8.out.2.1 HQ8.out.2.2 HS8.out (by rw[HX.out];exact HK8.out) (by rw[HX.out];exact HVN.out g (Or.inr (Or.inr rfl))) HO6.out (fun q e=>by
        have e2:g2=q:=Option.some.inj e
        rcases HAT.out with e3|e3
        ·intro e4
         exact HVN.out g (Or.inr (Or.inr rfl)) (by rw[e3,e2,e4])
        ·omega) (by
        rcases HAT.out with e3|e3
        ·exact Or.inr (Or.inl (by rw[HX.out];exact e3.symm))
        ·exact Or.inr (Or.inr ⟨g2,rfl,by omega⟩))
       exact⟨.slice (some ⟨g2,0,none⟩) ll.length cp,by rw[eT];rfl,by rw[eL];exact hE.1.drew,hE.2.1.drew,by rw[eL];exact hE.2.2⟩
   ·have HPN:Hid (∀j (hj:j<ll.length),j<n+1→ll[ll.length - 1 - j]≠up):=fun j hj hjn=>by
     by_cases e:j=n
     ·subst e;exact he
     ·exact HP.out j hj (by omega)
    have hne:(ll[ll.length - 1 - n] != up)=true:=by simpa using he
    have hne2:(ll[ll.length - 1 - n]==up)=false:=by simpa using he
    clear he
    generalize ll[ll.length - 1 - n]=bq at *
    go_wp2_with fail
    go_quiet (fail)
    go_wp2
    exact⟨⟨below_drewN hb nq,n+1,by omega,by go_num,HPN.out⟩,by simp[intOf];omega⟩
  ·have hd:decide ((n:Int)<(ll.length:Int))=false:=by simp;omega
   have HTR:Hid (trail up ll=n):=by
    have e:n=ll.length:=by omega
    show trail up ll=n
    rw[e]
    exact trail_all fun j hj=>HP.out j hj (by omega)
   go_wp2_with fail
   go_quiet (fail)
   have hbq:Below w4.heap.size w4 (wr.drewN nq):=below_drewN hb nq
   have hxq:(wr.drewN nq).heap[xb]?=some (.cells #[.string nm,.bool up,.slice (some ⟨g2,0,none⟩) ll.length cp] 127 (0,0)):=HXR.out
   generalize wr.drewN nq=wq at *
   have HXQ:Hid (wq.heap[xb]?=some (.cells #[.string nm,.bool up,.slice (some ⟨g2,0,none⟩) ll.length cp] 127 (0,0))):=hxq
   have hsz4:=HT4.out.size
   have HKQ:Hid (∀b,b<w1.heap.size→some b≠(Value.slice vp lk.length vc).ownBlock→wq.heap[b]?=w1.heap[b]?):=fun b hb hne=>(hbq.block b (by omega)).trans (HK4.out b hb hne)
   have HQS:Hid (w1.heap.size≤wq.heap.size):=Nat.le_trans hsz4 hbq.size
   have HQO:Hid (wq.os=w1.os∧wq.tape=w1.tape∧wq.output=w1.output):=⟨hbq.os.trans HT4.out.os,hbq.tape.trans HT4.out.tape,hbq.output.trans HT4.out.output⟩
   have HO6:Hid (wq.ownsRow (m+1) 4 1 (.slice (some ⟨g2,0,none⟩) ll.length cp) ll.length (ll.map Value.bool)):=ownsRow_below HO5.out hbq
   have y1:wq.cell? ⟨xb,1,none⟩=some (.bool up):=cell_of_row wq xb 1 _ _ _ hxq
   have f1:wq.frozen? ⟨xb,1,none⟩=false:=frozen_of_row wq xb 1 _ _ hxq
   have y2:wq.cell? ⟨xb,2,none⟩=some (.slice (some ⟨g2,0,none⟩) ll.length cp):=cell_of_row wq xb 2 _ _ _ hxq
   have f2:wq.frozen? ⟨xb,2,none⟩=false:=frozen_of_row wq xb 2 _ _ hxq
   have hmq:=HKQ.out m hmlt (HVN.out m (Or.inl (Nat.le_refl _)))
   have m0:wq.cell? ⟨m,0,none⟩=some (.int .i64 (f:Nat)):=(World.cell?_of_block (w:=w1) (w':=wq) (a:=⟨m,0,none⟩) hmq).trans HM.out.c0
   have m1:wq.cell? ⟨m,1,none⟩=some (.int .i64 (r:Nat)):=(World.cell?_of_block (w:=w1) (w':=wq) (a:=⟨m,1,none⟩) hmq).trans HM.out.c1
   clear hxq hmq hbq hsz4 x1 x2 hb HXR
   cases up with
   | true =>
    by_cases hED:f≤n
    ·have hd1:decide (f≤n)=true:=by simpa using hED
     have hx6:=heap_setCell_same wq xb 1 _ _ (.bool false) HXQ.out
     have hx7:=heap_setCell_same (wq.setCell ⟨xb,1,none⟩ (.bool false)) xb 2 _ _ (.slice none 0 0) hx6
     have hx8:((wq.setCell ⟨xb,1,none⟩ (.bool false)).setCell ⟨xb,2,none⟩ (.slice none 0 0)).heap[xb]?=some (.cells #[.string nm,.bool false,.slice none 0 0] 127 (0,0)):=hx7
     have ho8:∀b,b≠xb→((wq.setCell ⟨xb,1,none⟩ (.bool false)).setCell ⟨xb,2,none⟩ (.slice none 0 0)).heap[b]?=wq.heap[b]?:=fun b hb=>by
      rw[heap_setCell_other _ ⟨xb,2,none⟩ b _ hb,heap_setCell_other _ ⟨xb,1,none⟩ b _ hb]
     have hs8:w1.heap.size≤((wq.setCell ⟨xb,1,none⟩ (.bool false)).setCell ⟨xb,2,none⟩ (.slice none 0 0)).heap.size:=by
      have h1:=HQS.out
      simpa [World.setCell] using h1
     have HK8:Hid (∀b,b<w1.heap.size→some b≠(Value.slice vp lk.length vc).ownBlock→((wq.setCell ⟨xb,1,none⟩ (.bool false)).setCell ⟨xb,2,none⟩ (.slice none 0 0)).heap[b]?=w1.heap[b]?):=fun b hb hne=>(ho8 b (by have:=HXB.out;omega)).trans (HKQ.out b hb hne)
     have HS8:Hid (w1.heap.size≤((wq.setCell ⟨xb,1,none⟩ (.bool false)).setCell ⟨xb,2,none⟩ (.slice none 0 0)).heap.size):=hs8
     have hq8:((wq.setCell ⟨xb,1,none⟩ (.bool false)).setCell ⟨xb,2,none⟩ (.slice none 0 0)).os=w1.os∧((wq.setCell ⟨xb,1,none⟩ (.bool false)).setCell ⟨xb,2,none⟩ (.slice none 0 0)).tape=w1.tape∧((wq.setCell ⟨xb,1,none⟩ (.bool false)).setCell ⟨xb,2,none⟩ (.slice none 0 0)).output=w1.output:=HQO.out
     have HQ8:Hid (((wq.setCell ⟨xb,1,none⟩ (.bool false)).setCell ⟨xb,2,none⟩ (.slice none 0 0)).os=w1.os∧((wq.setCell ⟨xb,1,none⟩ (.bool false)).setCell ⟨xb,2,none⟩ (.slice none 0 0)).tape=w1.tape∧((wq.setCell ⟨xb,1,none⟩ (.bool false)).setCell ⟨xb,2,none⟩ (.slice none 0 0)).output=w1.output):=hq8
     have HX8:Hid (((wq.setCell ⟨xb,1,none⟩ (.bool false)).setCell ⟨xb,2,none⟩ (.slice none 0 0)).heap[xb]?=some (.cells #[.string nm,.bool false,.slice none 0 0] 127 (0,0))):=hx8
     have HED:Hid (f≤n):=hED
     clear hx6 hx7 hx8 ho8 hs8 hq8 hED
     go_wp2_with fail
     generalize (wq.setCell ⟨xb,1,none⟩ (.bool false)).setCell ⟨xb,2,none⟩ (.slice none 0 0)=wz at *
     clear y1 m0 m1
     have z0:wz.cell? ⟨xb,0,none⟩=some (.string nm):=cell_of_row wz xb 0 _ _ _ HX8.out
     have z1:wz.cell? ⟨xb,1,none⟩=some (.bool false):=cell_of_row wz xb 1 _ _ _ HX8.out
     have z2:wz.cell? ⟨xb,2,none⟩=some (.slice none 0 0):=cell_of_row wz xb 2 _ _ _ HX8.out
     have hmz:=HK8.out m hmlt (HVN.out m (Or.inl (Nat.le_refl _)))
     have n2:wz.cell? ⟨m,2,none⟩=some (.slice (some ⟨g,0,none⟩) L.length cap):=(World.cell?_of_block (w:=w1) (w':=wz) (a:=⟨m,2,none⟩) hmz).trans c2
     have hgz:=HK8.out g hglt (HVN.out g (Or.inr (Or.inr rfl)))
     have g0:wz.cell? ⟨g,k*3,none⟩=some (.string nm):=(World.cell?_of_block (w:=w1) (w':=wz) (a:=⟨g,k*3,none⟩) hgz).trans cn
     have g1:wz.cell? ⟨g,k*3+1,none⟩=some (.bool true):=(World.cell?_of_block (w:=w1) (w':=wz) (a:=⟨g,k*3+1,none⟩) hgz).trans cu
     have g2':wz.cell? ⟨g,k*3+2,none⟩=some (.slice vp lk.length vc):=(World.cell?_of_block (w:=w1) (w':=wz) (a:=⟨g,k*3+2,none⟩) hgz).trans cv
     have k0:wz.frozen? ⟨g,k*3,none⟩=false:=(World.frozen?_of_block (w:=w1) (w':=wz) (a:=⟨g,k*3,none⟩) hgz).trans (hgf _)
     have k1:wz.frozen? ⟨g,k*3+1,none⟩=false:=(World.frozen?_of_block (w:=w1) (w':=wz) (a:=⟨g,k*3+1,none⟩) hgz).trans (hgf _)
     have k2:wz.frozen? ⟨g,k*3+2,none⟩=false:=(World.frozen?_of_block (w:=w1) (w':=wz) (a:=⟨g,k*3+2,none⟩) hgz).trans (hgf _)
     clear hmz hgz cn cu cv c2
     go_region
     all_goals
      go_wp2
      go_ret2
      have eL:lookM f r ⟨nm,true,lk,.slice vp lk.length vc⟩ well (.slice (some ⟨g2,0,none⟩) ll.length cp)=⟨nm,false,[],.slice none 0 0⟩:=by
       unfold lookM
       rw[if_pos (by show Lh.hedge f r true≤trail true (lk++[well]);rw[HLL.out,HTR.out];exact HED.out)]
       rfl
      have eT:turnM f r ⟨nm,true,lk,.slice vp lk.length vc⟩ well=true:=by
       unfold turnM
       exact decide_eq_true (by show Lh.hedge f r true≤trail true (lk++[well]);rw[HLL.out,HTR.out];exact HED.out)
      have hE:=look_end HM.out hk ⟨nm,false,[],.slice none 0 0⟩ HQ8.out.1 HQ8.out.2.1 HQ8.out.2.2 HS8.out (by rw[HX.out];exact HK8.out) (by rw[HX.out];exact HVN.out g (Or.inr (Or.inr rfl))) (World.ownsRow_nil _ _ _ _) (fun q e=>by cases e) (Or.inl rfl)
      exact⟨.slice (some ⟨g2,0,none⟩) ll.length cp,by rw[eT];rfl,by rw[eL];exact hE.1.drew,hE.2.1.drew,by rw[eL];exact hE.2.2⟩
    ·have hd1:decide (f≤n)=false:=by simpa using hED
     have HED:Hid (¬f≤n):=hED
     clear hED
     go_wp2_with fail
     obtain⟨wz,hwz⟩:∃wz,wz=wq:=⟨_,rfl⟩
     subst hwz
     have HK8:=HKQ
     have HS8:=HQS
     have HQ8:=HQO
     have HX8:=HXQ
     clear y1 m0 m1
     have z0:wz.cell? ⟨xb,0,none⟩=some (.string nm):=cell_of_row wz xb 0 _ _ _ HX8.out
     have z1:wz.cell? ⟨xb,1,none⟩=some (.bool true):=cell_of_row wz xb 1 _ _ _ HX8.out
     have z2:wz.cell? ⟨xb,2,none⟩=some (.slice (some ⟨g2,0,none⟩) ll.length cp):=cell_of_row wz xb 2 _ _ _ HX8.out
     have hmz:=HK8.out m hmlt (HVN.out m (Or.inl (Nat.le_refl _)))
     have n2:wz.cell? ⟨m,2,none⟩=some (.slice (some ⟨g,0,none⟩) L.length cap):=(World.cell?_of_block (w:=w1) (w':=wz) (a:=⟨m,2,none⟩) hmz).trans c2
     have hgz:=HK8.out g hglt (HVN.out g (Or.inr (Or.inr rfl)))
     have g0:wz.cell? ⟨g,k*3,none⟩=some (.string nm):=(World.cell?_of_block (w:=w1) (w':=wz) (a:=⟨g,k*3,none⟩) hgz).trans cn
     have g1:wz.cell? ⟨g,k*3+1,none⟩=some (.bool true):=(World.cell?_of_block (w:=w1) (w':=wz) (a:=⟨g,k*3+1,none⟩) hgz).trans cu
     have g2':wz.cell? ⟨g,k*3+2,none⟩=some (.slice vp lk.length vc):=(World.cell?_of_block (w:=w1) (w':=wz) (a:=⟨g,k*3+2,none⟩) hgz).trans cv
     have k0:wz.frozen? ⟨g,k*3,none⟩=false:=(World.frozen?_of_block (w:=w1) (w':=wz) (a:=⟨g,k*3,none⟩) hgz).trans (hgf _)
     have k1:wz.frozen? ⟨g,k*3+1,none⟩=false:=(World.frozen?_of_block (w:=w1) (w':=wz) (a:=⟨g,k*3+1,none⟩) hgz).trans (hgf _)
     have k2:wz.frozen? ⟨g,k*3+2,none⟩=false:=(World.frozen?_of_block (w:=w1) (w':=wz) (a:=⟨g,k*3+2,none⟩) hgz).trans (hgf _)
     clear hmz hgz cn cu cv c2
     go_region
     all_goals
      go_wp2
      go_ret2
      have eL:lookM f r ⟨nm,true,lk,.slice vp lk.length vc⟩ well (.slice (some ⟨g2,0,none⟩) ll.length cp)=⟨nm,true,ll,.slice (some ⟨g2,0,none⟩) ll.length cp⟩:=by
       unfold lookM
       rw[if_neg (by show ¬Lh.hedge f r true≤trail true (lk++[well]);rw[HLL.out,HTR.out];exact HED.out)]
       show Mh.mk nm true (lk++[well]) _=_
       rw[HLL.out]
      have eT:turnM f r ⟨nm,true,lk,.slice vp lk.length vc⟩ well=false:=by
       unfold turnM
       exact decide_eq_false (by show ¬Lh.hedge f r true≤trail true (lk++[well]);rw[HLL.out,HTR.out];exact HED.out)
      have hE:=look_end HM.out hk ⟨nm,true,ll,.slice (some ⟨g2,0,none⟩) ll.length cp⟩ HQ8.out.1 HQ8.out.2.1 HQ8.out.2.2 HS8.out (by rw[HX.out];exact HK8.out) (by rw[HX.out];exact HVN.out g (Or.inr (Or.inr rfl))) HO6.out (fun q e=>by
       have e2:g2=q:=Option.some.inj e
       rcases HAT.out with e3|e3
       ·intro e4
        exact HVN.out g (Or.inr (Or.inr rfl)) (by rw[e3,e2,e4])
       ·omega) (by
       rcases HAT.out with e3|e3
       ·exact Or.inr (Or.inl (by rw[HX.out];exact e3.symm))
       ·exact Or.inr (Or.inr ⟨g2,rfl,by omega⟩))
      exact⟨.slice (some ⟨g2,0,none⟩) ll.length cp,by rw[eT];rfl,by rw[eL];exact hE.1.drew,hE.2.1.drew,by rw[eL];exact hE.2.2⟩
   | false =>
    by_cases hED:r≤n
    ·have hd1:decide (r≤n)=true:=by simpa using hED
     have hx6:=heap_setCell_same wq xb 1 _ _ (.bool true) HXQ.out
     have hx7:=heap_setCell_same (wq.setCell ⟨xb,1,none⟩ (.bool true)) xb 2 _ _ (.slice none 0 0) hx6
     have hx8:((wq.setCell ⟨xb,1,none⟩ (.bool true)).setCell ⟨xb,2,none⟩ (.slice none 0 0)).heap[xb]?=some (.cells #[.string nm,.bool true,.slice none 0 0] 127 (0,0)):=hx7
     have ho8:∀b,b≠xb→((wq.setCell ⟨xb,1,none⟩ (.bool true)).setCell ⟨xb,2,none⟩ (.slice none 0 0)).heap[b]?=wq.heap[b]?:=fun b hb=>by
      rw[heap_setCell_other _ ⟨xb,2,none⟩ b _ hb,heap_setCell_other _ ⟨xb,1,none⟩ b _ hb]
     have hs8:w1.heap.size≤((wq.setCell ⟨xb,1,none⟩ (.bool true)).setCell ⟨xb,2,none⟩ (.slice none 0 0)).heap.size:=by
      have h1:=HQS.out
      simpa [World.setCell] using h1
     have HK8:Hid (∀b,b<w1.heap.size→some b≠(Value.slice vp lk.length vc).ownBlock→((wq.setCell ⟨xb,1,none⟩ (.bool true)).setCell ⟨xb,2,none⟩ (.slice none 0 0)).heap[b]?=w1.heap[b]?):=fun b hb hne=>(ho8 b (by have:=HXB.out;omega)).trans (HKQ.out b hb hne)
     have HS8:Hid (w1.heap.size≤((wq.setCell ⟨xb,1,none⟩ (.bool true)).setCell ⟨xb,2,none⟩ (.slice none 0 0)).heap.size):=hs8
     have hq8:((wq.setCell ⟨xb,1,none⟩ (.bool true)).setCell ⟨xb,2,none⟩ (.slice none 0 0)).os=w1.os∧((wq.setCell ⟨xb,1,none⟩ (.bool true)).setCell ⟨xb,2,none⟩ (.slice none 0 0)).tape=w1.tape∧((wq.setCell ⟨xb,1,none⟩ (.bool true)).setCell ⟨xb,2,none⟩ (.slice none 0 0)).output=w1.output:=HQO.out
     have HQ8:Hid (((wq.setCell ⟨xb,1,none⟩ (.bool true)).setCell ⟨xb,2,none⟩ (.slice none 0 0)).os=w1.os∧((wq.setCell ⟨xb,1,none⟩ (.bool true)).setCell ⟨xb,2,none⟩ (.slice none 0 0)).tape=w1.tape∧((wq.setCell ⟨xb,1,none⟩ (.bool true)).setCell ⟨xb,2,none⟩ (.slice none 0 0)).output=w1.output):=hq8
     have HX8:Hid (((wq.setCell ⟨xb,1,none⟩ (.bool true)).setCell ⟨xb,2,none⟩ (.slice none 0 0)).heap[xb]?=some (.cells #[.string nm,.bool true,.slice none 0 0] 127 (0,0))):=hx8
     have HED:Hid (r≤n):=hED
     clear hx6 hx7 hx8 ho8 hs8 hq8 hED
     go_wp2_with fail
     generalize (wq.setCell ⟨xb,1,none⟩ (.bool true)).setCell ⟨xb,2,none⟩ (.slice none 0 0)=wz at *
     clear y1 m0 m1
     have z0:wz.cell? ⟨xb,0,none⟩=some (.string nm):=cell_of_row wz xb 0 _ _ _ HX8.out
     have z1:wz.cell? ⟨xb,1,none⟩=some (.bool true):=cell_of_row wz xb 1 _ _ _ HX8.out
     have z2:wz.cell? ⟨xb,2,none⟩=some (.slice none 0 0):=cell_of_row wz xb 2 _ _ _ HX8.out
     have hmz:=HK8.out m hmlt (HVN.out m (Or.inl (Nat.le_refl _)))
     have n2:wz.cell? ⟨m,2,none⟩=some (.slice (some ⟨g,0,none⟩) L.length cap):=(World.cell?_of_block (w:=w1) (w':=wz) (a:=⟨m,2,none⟩) hmz).trans c2
     have hgz:=HK8.out g hglt (HVN.out g (Or.inr (Or.inr rfl)))
     have g0:wz.cell? ⟨g,k*3,none⟩=some (.string nm):=(World.cell?_of_block (w:=w1) (w':=wz) (a:=⟨g,k*3,none⟩) hgz).trans cn
     have g1:wz.cell? ⟨g,k*3+1,none⟩=some (.bool false):=(World.cell?_of_block (w:=w1) (w':=wz) (a:=⟨g,k*3+1,none⟩) hgz).trans cu
     have g2':wz.cell? ⟨g,k*3+2,none⟩=some (.slice vp lk.length vc):=(World.cell?_of_block (w:=w1) (w':=wz) (a:=⟨g,k*3+2,none⟩) hgz).trans cv
     have k0:wz.frozen? ⟨g,k*3,none⟩=false:=(World.frozen?_of_block (w:=w1) (w':=wz) (a:=⟨g,k*3,none⟩) hgz).trans (hgf _)
     have k1:wz.frozen? ⟨g,k*3+1,none⟩=false:=(World.frozen?_of_block (w:=w1) (w':=wz) (a:=⟨g,k*3+1,none⟩) hgz).trans (hgf _)
     have k2:wz.frozen? ⟨g,k*3+2,none⟩=false:=(World.frozen?_of_block (w:=w1) (w':=wz) (a:=⟨g,k*3+2,none⟩) hgz).trans (hgf _)
     clear hmz hgz cn cu cv c2
     go_region
     all_goals
      go_wp2
      go_ret2
      have eL:lookM f r ⟨nm,false,lk,.slice vp lk.length vc⟩ well (.slice (some ⟨g2,0,none⟩) ll.length cp)=⟨nm,true,[],.slice none 0 0⟩:=by
       unfold lookM
       rw[if_pos (by show Lh.hedge f r false≤trail false (lk++[well]);rw[HLL.out,HTR.out];exact HED.out)]
       rfl
      have eT:turnM f r ⟨nm,false,lk,.slice vp lk.length vc⟩ well=true:=by
       unfold turnM
       exact decide_eq_true (by show Lh.hedge f r false≤trail false (lk++[well]);rw[HLL.out,HTR.out];exact HED.out)
      have hE:=look_end HM.out hk ⟨nm,true,[],.slice none 0 0⟩ HQ8.out.1 HQ8.out.2.1 HQ8.out.2.2 HS8.out (by rw[HX.out];exact HK8.out) (by rw[HX.out];exact HVN.out g (Or.inr (Or.inr rfl))) (World.ownsRow_nil _ _ _ _) (fun q e=>by cases e) (Or.inl rfl)
      exact⟨.slice (some ⟨g2,0,none⟩) ll.length cp,by rw[eT];rfl,by rw[eL];exact hE.1.drew,hE.2.1.drew,by rw[eL];exact hE.2.2⟩
    ·have hd1:decide (r≤n)=false:=by simpa using hED
     have HED:Hid (¬r≤n):=hED
     clear hED
     go_wp2_with fail
     obtain⟨wz,hwz⟩:∃wz,wz=wq:=⟨_,rfl⟩
     subst hwz
     have HK8:=HKQ
     have HS8:=HQS
     have HQ8:=HQO
     have HX8:=HXQ
     clear y1 m0 m1
     have z0:wz.cell? ⟨xb,0,none⟩=some (.string nm):=cell_of_row wz xb 0 _ _ _ HX8.out
     have z1:wz.cell? ⟨xb,1,none⟩=some (.bool false):=cell_of_row wz xb 1 _ _ _ HX8.out
     have z2:wz.cell? ⟨xb,2,none⟩=some (.slice (some ⟨g2,0,none⟩) ll.length cp):=cell_of_row wz xb 2 _ _ _ HX8.out
     have hmz:=HK8.out m hmlt (HVN.out m (Or.inl (Nat.le_refl _)))
     have n2:wz.cell? ⟨m,2,none⟩=some (.slice (some ⟨g,0,none⟩) L.length cap):=(World.cell?_of_block (w:=w1) (w':=wz) (a:=⟨m,2,none⟩) hmz).trans c2
     have hgz:=HK8.out g hglt (HVN.out g (Or.inr (Or.inr rfl)))
     have g0:wz.cell? ⟨g,k*3,none⟩=some (.string nm):=(World.cell?_of_block (w:=w1) (w':=wz) (a:=⟨g,k*3,none⟩) hgz).trans cn
     have g1:wz.cell? ⟨g,k*3+1,none⟩=some (.bool false):=(World.cell?_of_block (w:=w1) (w':=wz) (a:=⟨g,k*3+1,none⟩) hgz).trans cu
     have g2':wz.cell? ⟨g,k*3+2,none⟩=some (.slice vp lk.length vc):=(World.cell?_of_block (w:=w1) (w':=wz) (a:=⟨g,k*3+2,none⟩) hgz).trans cv
     have k0:wz.frozen? ⟨g,k*3,none⟩=false:=(World.frozen?_of_block (w:=w1) (w':=wz) (a:=⟨g,k*3,none⟩) hgz).trans (hgf _)
     have k1:wz.frozen? ⟨g,k*3+1,none⟩=false:=(World.frozen?_of_block (w:=w1) (w':=wz) (a:=⟨g,k*3+1,none⟩) hgz).trans (hgf _)
     have k2:wz.frozen? ⟨g,k*3+2,none⟩=false:=(World.frozen?_of_block (w:=w1) (w':=wz) (a:=⟨g,k*3+2,none⟩) hgz).trans (hgf _)
     clear hmz hgz cn cu cv c2
     go_region
     all_goals
      go_wp2
      go_ret2
      have eL:lookM f r ⟨nm,false,lk,.slice vp lk.length vc⟩ well (.slice (some ⟨g2,0,none⟩) ll.length cp)=⟨nm,false,ll,.slice (some ⟨g2,0,none⟩) ll.length cp⟩:=by
       unfold lookM
       rw[if_neg (by show ¬Lh.hedge f r false≤trail false (lk++[well]);rw[HLL.out,HTR.out];exact HED.out)]
       show Mh.mk nm false (lk++[well]) _=_
       rw[HLL.out]
      have eT:turnM f r ⟨nm,false,lk,.slice vp lk.length vc⟩ well=false:=by
       unfold turnM
       exact decide_eq_false (by show ¬Lh.hedge f r false≤trail false (lk++[well]);rw[HLL.out,HTR.out];exact HED.out)
      have hE:=look_end HM.out hk ⟨nm,false,ll,.slice (some ⟨g2,0,none⟩) ll.length cp⟩ HQ8.out.1 HQ8.out.2.1 HQ8.out.2.2 HS8.out (by rw[HX.out];exact HK8.out) (by rw[HX.out];exact HVN.out g (Or.inr (Or.inr rfl))) HO6.out (fun q e=>by
       have e2:g2=q:=Option.some.inj e
       rcases HAT.out with e3|e3
       ·intro e4
        exact HVN.out g (Or.inr (Or.inr rfl)) (by rw[e3,e2,e4])
       ·omega) (by
       rcases HAT.out with e3|e3
       ·exact Or.inr (Or.inl (by rw[HX.out];exact e3.symm))
       ·exact Or.inr (Or.inr ⟨g2,rfl,by omega⟩))
      exact⟨.slice (some ⟨g2,0,none⟩) ll.length cp,by rw[eT];rfl,by rw[eL];exact hE.1.drew,hE.2.1.drew,by rw[eL];exact hE.2.2⟩
theorem lookM_none {W:World}{m f r:Nat}{L:List Mh}{lv:Value}(h:MH W m f r L lv)(hl:L.length≤12)(s:ByteArray)(well:Bool)(hnx:¬Lh.hix (hst L) s<(hst L).length) :
  Calls Tryz.prog 76 #[.pointer (some ⟨m,0,none⟩),.string s,.bool well] W fun e w'=>e=.returned (.tuple #[.bool false,.int .i64 5])∧w'=W:=by
 have hfd:=find_any h hl s
 have e1:fi (hst L) s = -1:=by unfold fi;rw[if_neg hnx]
 rw[e1] at hfd
 clear h hnx e1
 go_enter Tryz.func76,Tryz.ntmps76
 go_wp2_with fail
 refine hfd.mono ?_
 rintro e w1 ⟨rfl,rfl⟩
 clear hfd
 go_wp2
 go_ret2
 exact⟨rfl,rfl⟩
theorem hst_set (L:List Mh)(k:Nat)(x:Mh):hst (L.set k x)=(hst L).set k x.st:=by simp[hst,List.map_set]
theorem lookM_any {W:World}{m f r:Nat}{L:List Mh}{lv:Value}(h:MH W m f r L lv)(hok:Lh.HOk f r (hst L))(s:ByteArray)(well:Bool)(B:Nat)(hB:B≤100000)(hlk:∀x∈L,x.looks.length≤B) :
    Calls Tryz.prog 76 #[.pointer (some ⟨m,0,none⟩),.string s,.bool well] W fun e w'=>∃L' lv',MH w' m f r L' lv'∧Tur (MFoot m L lv) W w'∧(∀b,MFoot m L' lv' b→MFoot m L lv b∨W.heap.size≤b)∧(∀x∈L',x.looks.length≤B+1) ∧
      ((∃hx:Lh.hix (hst L) s<(hst L).length,e=.returned (.tuple #[.bool (Lh.hlook f r (hst L)[Lh.hix (hst L) s] well).2,.int .i64 0])∧hst L'=(hst L).set (Lh.hix (hst L) s) (Lh.hlook f r (hst L)[Lh.hix (hst L) s] well).1) ∨
       (¬Lh.hix (hst L) s<(hst L).length∧e=.returned (.tuple #[.bool false,.int .i64 5])∧hst L'=hst L)):=by
  have hl:L.length≤12:=by have:=hok.len;rwa [hst_length] at this
  by_cases hx:Lh.hix (hst L) s<(hst L).length
  · have hx':Lh.hix (hst L) s<L.length:=by rwa [hst_length] at hx
    obtain⟨g,cap,rfl,_⟩:=row_of_owns3 h.own (by omega)
    refine (lookM_core h hl s well (Lh.hix (hst L) s) hx' (by unfold fi;rw[if_pos hx]) (Nat.le_trans (hlk _ (List.getElem_mem hx')) hB)).mono ?_
    rintro e w' ⟨v,rfl,h1,h2,h3⟩
    have hst1:=lookM_st hok.f1 hok.r1 (L[Lh.hix (hst L) s]) well v
    have e2:(hst L)[Lh.hix (hst L) s]=(L[Lh.hix (hst L) s]).st:=hst_get L hx
    refine⟨_,_,h1,h2,h3,fun y hy=>?_,Or.inl ⟨hx,?_,?_⟩⟩
    · rcases List.mem_or_eq_of_mem_set hy with hy|rfl
      · have:=hlk y hy
        omega
      · unfold lookM
        split
        · simp
        · have:=hlk _ (List.getElem_mem hx')
          simp
          omega
    · rw[e2,←hst1]
    · rw[hst_set,e2,←hst1]
  · refine (lookM_none h hl s well hx).mono ?_
    rintro e w' ⟨rfl,rfl⟩
    exact⟨L,lv,h,Tur.of_below (Below.refl _ _),fun b hb=>Or.inl hb,fun y hy=>by have:=hlk y hy;omega,Or.inr ⟨hx,rfl,rfl⟩⟩
end Go.Proofs.YtfhmfjcpggddkaaGreatDoor
