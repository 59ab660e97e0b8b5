/- The model of flows in memory; find and TickError. -/
import Derived.Test.YtfhmfjcpggddkaaGreatDoorM5
import Derived.Deep.AppendLies
import Derived.BigQuiet
import Derived.Deep.QuietTactic
import Derived.Laws.AppendOwnNone
set_option maxHeartbeats 20000000
set_option maxRecDepth 100000
namespace Go.Proofs.YtfhmfjcpggddkaaGreatDoor
open Go.RowKit
structure MF (W:World)(m t:Nat)(la:Int)(L:List Lh.Fl)(lv:Value):Prop where
 c0:W.cell? ⟨m,0,none⟩=some (.int .i64 (t:Nat))
 c1:W.cell? ⟨m,1,none⟩=some (.int .i64 la)
 c2:W.cell? ⟨m,2,none⟩=some lv
 fz:∀k,W.frozen? ⟨m,k,none⟩=false
 own:W.ownsRow (m+1) 80 3 lv L.length (flatF L)
def FFoot (m:Nat)(lv:Value)(b:Nat):Prop:=b=m∨lv.ownBlock=some b
theorem fowns_same {w w':World}{base:Nat}{e:TypeId}{size:Nat}{v:Value}{n:Nat}{xs:List Value}(h:w.ownsRow base e size v n xs)(he:∀g,v.ownBlock=some g→w'.heap[g]?=w.heap[g]?):w'.ownsRow base e size v n xs:=by
 obtain⟨h1,h2|⟨g,cap,cur,rfl,e2,e3,e4⟩⟩:=h
 ·exact⟨h1,Or.inl h2⟩
 ·exact⟨h1,Or.inr ⟨g,cap,cur,rfl,e2,(he g rfl).trans e3,e4⟩⟩
theorem fown_shape {w:World}{base:Nat}{e:TypeId}{size n:Nat}{v:Value}{xs:List Value}(h:w.ownsRow base e size v n xs):∃p cap,v=.slice p n cap:=by
 obtain⟨h1,⟨rfl,rfl⟩|⟨g,cap,cur,rfl,_⟩⟩:=h
 ·exact⟨_,_,rfl⟩
 ·exact⟨_,_,rfl⟩
theorem fown_mono {w:World}{base base':Nat}{e:TypeId}{size n:Nat}{v:Value}{xs:List Value}(h:w.ownsRow base e size v n xs)(hb:base'≤base):w.ownsRow base' e size v n xs:=by
 obtain⟨h1,h2|⟨g,cap,cur,e1,e2,e3⟩⟩:=h
 ·exact⟨h1,Or.inl h2⟩
 ·exact⟨h1,Or.inr ⟨g,cap,cur,e1,Nat.le_trans hb e2,e3⟩⟩
theorem frow_cells {w:World}{base:Nat}{e:TypeId}{g n cap:Nat}{xs:List Value}(h:w.ownsRow base e 3 (.slice (some ⟨g,0,none⟩) n cap) n xs):∀j u,xs[j]?=some u→w.cell? ⟨g,j,none⟩=some u:=fun j u hu=>by
 obtain⟨hl,⟨e0,_⟩|⟨g',cap',cur,e1,_,hb,hn,hm,hsz,ht⟩⟩:=h
 ·cases e0
 ·cases e1
  have hj:j<xs.length:=(List.getElem?_eq_some_iff.1 hu).1
  rw[←ht,List.getElem?_take_of_lt (by omega)] at hu
  simp only[World.cell?,hb]
  simpa using hu
theorem MF.mlt {W:World}{m t:Nat}{la:Int}{L:List Lh.Fl}{lv:Value}(h:MF W m t la L lv):m<W.heap.size:=World.block_lt_of_cell? W ⟨m,0,none⟩ h.c0
theorem MF.lt {W:World}{m t:Nat}{la:Int}{L:List Lh.Fl}{lv:Value}(h:MF W m t la L lv):∀b,FFoot m lv b→b<W.heap.size∧m≤b:=by
 rintro b (rfl|e)
 ·exact⟨h.mlt,Nat.le_refl _⟩
 ·have:=h.own.lt b e
  omega
theorem MF.stay {W W':World}{m t:Nat}{la:Int}{L:List Lh.Fl}{lv:Value}(h:MF W m t la L lv)(hs:∀b,FFoot m lv b→W'.heap[b]?=W.heap[b]?):MF W' m t la L lv:=by
 have hm:=hs m (Or.inl rfl)
 refine⟨?_,?_,?_,fun k=>?_,fowns_same h.own fun g e=>hs g (Or.inr e)⟩
 ·rw[World.cell?_of_block (w:=W) (w':=W') (a:=⟨m,0,none⟩) hm];exact h.c0
 ·rw[World.cell?_of_block (w:=W) (w':=W') (a:=⟨m,1,none⟩) hm];exact h.c1
 ·rw[World.cell?_of_block (w:=W) (w':=W') (a:=⟨m,2,none⟩) hm];exact h.c2
 ·rw[World.frozen?_of_block (w:=W) (w':=W') (a:=⟨m,k,none⟩) hm];exact h.fz k
theorem MF.later {W W':World}{m t:Nat}{la:Int}{L:List Lh.Fl}{lv:Value}(h:MF W m t la L lv)(hb:Below W.heap.size W W'):MF W' m t la L lv:=h.stay fun b hf=>hb.block b (h.lt b hf).1
theorem MF.row {W:World}{m t:Nat}{la:Int}{L:List Lh.Fl}{lv:Value}(h:MF W m t la L lv):∃p cap,lv=.slice p L.length cap∧∀i (hi:i<L.length),∃g,p=some ⟨g,0,none⟩∧W.cell? ⟨g,i*3,none⟩=some (.int .u64 (L[i].1:Nat))∧W.cell? ⟨g,i*3+1,none⟩=some (.string L[i].2.1)∧W.cell? ⟨g,i*3+2,none⟩=some (.int .i64 L[i].2.2):=by
 rcases h.own with⟨_,⟨e,h0⟩|⟨g,cap,cur,e,_⟩⟩
 ·exact⟨none,0,by rw[e,h0],fun i hi=>absurd hi (by omega)⟩
 ·subst e
  refine⟨_,_,rfl,fun i hi=>⟨g,rfl,?_⟩⟩
  obtain⟨q0,q1,q2⟩:=flatF_get L i hi
  exact⟨frow_cells h.own _ _ q0,frow_cells h.own _ _ q1,frow_cells h.own _ _ q2⟩
def ffi (L:List Lh.Fl)(k:Nat):Int:=if Lh.fix L k<L.length then ((Lh.fix L k:Nat):Int) else -1
theorem fix_first {L:List Lh.Fl}{k j:Nat}(hj:j<L.length)(h:j<Lh.fix L k):(L[j]).1≠k:=by
 have:=List.not_of_lt_findIdx h
 simpa using this
theorem fix_at {L:List Lh.Fl}{k i:Nat}(hi:i<L.length)(hp:∀j (h:j<L.length),j<i→(L[j]).1≠k)(he:(L[i]).1=k):Lh.fix L k=i:=by
 have h1:Lh.fix L k<L.length:=Lh.fix_lt.2 ⟨_,List.getElem_mem hi,he⟩
 rcases Nat.lt_trichotomy (Lh.fix L k) i with h|h|h
 ·exact absurd (Lh.fix_get h1) (hp _ h1 h)
 ·exact h
 ·exact absurd he (fix_first hi h)
theorem ffind_any {W:World}{m t:Nat}{la:Int}{L:List Lh.Fl}{lv:Value}(h:MF W m t la L lv)(hl:L.length≤1000)(k:Nat) :
  Calls Tryz.prog 120 #[.pointer (some ⟨m,0,none⟩),.int .u64 (k:Nat)] W fun e w'=>e=.returned (.int .i64 (ffi L k))∧w'=W:=by
 obtain⟨p,cap,rfl,hrow⟩:=h.row
 have c2:=h.c2
 have HC:Hid (∀i (hi:i<L.length),∃g,p=some ⟨g,0,none⟩∧W.cell? ⟨g,i*3,none⟩=some (.int .u64 (L[i].1:Nat))):=fun i hi=>by
  obtain⟨g,e,h1,_⟩:=hrow i hi
  exact⟨g,e,h1⟩
 clear h hrow
 go_enter Tryz.func120,Tryz.ntmps120
 go_wp2_with fail
 go_loop [5] (fun u=>∃i:Nat,i≤L.length∧u=.int .i64 (i:Nat)∧∀j (h:j<L.length),j<i→(L[j]).1≠k) (fun u=>L.length - (intOf u).toNat)
 case atStart=>exact⟨0,Nat.zero_le _,rfl,fun j _ h=>absurd h (by omega)⟩
 case round =>
  obtain⟨i,hi,rfl,hp⟩:=hrel
  have HP:Hid (∀j (h:j<L.length),j<i→(L[j]).1≠k):=hp
  clear hp
  by_cases hlt:i<L.length
  ·obtain⟨g,rfl,cx⟩:=HC.out i hlt
   have hii:(i:Int)<(L.length:Int):=by omega
   by_cases he:(L[i]).1=k
   ·have HF:Hid (ffi L k=(i:Nat)):=by
     show ffi L k=(i:Nat)
     unfold ffi
     rw[fix_at hlt HP.out he,if_pos hlt]
    have hq:(((L[i]).1:Int)==(k:Int))=true:=by simp[he]
    clear he
    generalize (L[i]).1=z at *
    go_wp2
    go_ret
    exact⟨by rw[HF.out];rfl,rfl⟩
   ·have HPN:Hid (∀j (h:j<L.length),j<i+1→(L[j]).1≠k):=fun j h hj=>by
     by_cases e:j=i
     ·subst e;exact he
     ·exact HP.out j h (by omega)
    have hq:(((L[i]).1:Int)==(k:Int))=false:=by rw[beq_eq_false_iff_ne];omega
    clear he
    generalize (L[i]).1=z at *
    go_wp2
    go_round
    case rel=>exact⟨i+1,by omega,by go_num,HPN.out⟩
    case measure=>simp[intOf];omega
  ·have hii:decide ((i:Int)<(L.length:Int))=false:=by simp;omega
   have HF:Hid (ffi L k = -1):=by
    show ffi L k = -1
    unfold ffi
    rw[if_neg]
    intro h
    exact HP.out _ h (by omega) (Lh.fix_get h)
   go_wp2
   go_ret
   exact⟨by rw[HF.out];rfl,rfl⟩
theorem ftick_any {W:World}{m t:Nat}{la:Int}{L:List Lh.Fl}{lv:Value}(h:MF W m t la L lv)(now:Int) :
  Calls Tryz.prog 119 #[.pointer (some ⟨m,0,none⟩),.int .i64 now] W fun e w'=>((TickOk la now∧e=.returned (.int .i64 0))∨∃j,TickF la now j∧e=.returned (.int .i64 ((j+1:Nat):Int)))∧w'=W:=by
 have c1:=h.c1
 clear h
 by_cases g1:now<0
 ·have d1:decide (now<0)=true:=decide_eq_true g1
  have HT:Hid (TickF la now 1):=Or.inl ⟨Or.inl g1,rfl⟩
  clear g1
  go_enter Tryz.func119,Tryz.ntmps119
  go_wp2
  go_ret
  exact⟨Or.inr ⟨1,HT.out,rfl⟩,rfl⟩
 ·have d1:decide (now<0)=false:=decide_eq_false g1
  by_cases g2:1099511627776<now
  ·have d2:decide (1099511627776<now)=true:=decide_eq_true g2
   have HT:Hid (TickF la now 1):=Or.inl ⟨Or.inr g2,rfl⟩
   clear g1 g2
   go_enter Tryz.func119,Tryz.ntmps119
   go_wp2
   go_ret
   exact⟨Or.inr ⟨1,HT.out,rfl⟩,rfl⟩
  ·have d2:decide (1099511627776<now)=false:=decide_eq_false g2
   by_cases g3:now<la
   ·have d3:decide (now<la)=true:=decide_eq_true g3
    have HT:Hid (TickF la now 7):=Or.inr ⟨by omega,by omega,g3,rfl⟩
    clear g1 g2 g3
    go_enter Tryz.func119,Tryz.ntmps119
    go_wp2
    go_ret
    exact⟨Or.inr ⟨7,HT.out,rfl⟩,rfl⟩
   ·have d3:decide (now<la)=false:=decide_eq_false g3
    have HT:Hid (TickOk la now):=⟨by omega,by omega,by omega⟩
    clear g1 g2 g3
    go_enter Tryz.func119,Tryz.ntmps119
    go_wp2
    go_ret
    exact⟨Or.inl ⟨HT.out,rfl⟩,rfl⟩
theorem infoFl:(Tryz.prog.info? 80).map (fun i=>(i.zero,i.size,i.bytes))=some (some (.agg #[.int .u64 0,.string ByteArray.empty,.int .i64 0]),3,32):=by kernel_rfl
theorem fowns_setCell {w:World}{base:Nat}{e:TypeId}{size:Nat}{v:Value}{n:Nat}{xs:List Value}(h:w.ownsRow base e size v n xs){x k:Nat}(hx:x<base)(u:Value):(w.setCell ⟨x,k,none⟩ u).ownsRow base e size v n xs:=by
 refine h.kept (row:=some x) ⟨rfl,rfl,rfl,by simp[World.setCell],fun j _ hne=>heap_setCell_other w ⟨x,k,none⟩ j u (fun e=>hne (by rw[e]))⟩ ?_
 cases hv:v.ownBlock with
 | none=>exact Or.inl rfl
 | some g =>
  have:=(h.lt g hv).1
  exact Or.inr (fun e=>by cases e;omega)
theorem MF.laid {W w3:World}{m t:Nat}{la:Int}{L M:List Lh.Fl}{lv v:Value}(h:MF W m t la L lv)(hB:Below W.heap.size W w3)(hown:w3.ownsRow W.heap.size 80 3 v M.length (flatF M)) :
  MF (w3.setCell ⟨m,2,none⟩ v) m t la M v∧Tur (FFoot m lv) W (w3.setCell ⟨m,2,none⟩ v)∧∀b,FFoot m v b→FFoot m lv b∨W.heap.size≤b:=by
 have hm:=h.mlt
 have hm3:=hB.block m hm
 have hsame:∀b,b≠m→(w3.setCell ⟨m,2,none⟩ v).heap[b]?=w3.heap[b]?:=fun b hb=>heap_setCell_other w3 ⟨m,2,none⟩ b _ hb
 refine⟨⟨?_,?_,?_,fun k=>?_,fowns_setCell (fown_mono hown hm) (Nat.lt_succ_self m) _⟩,⟨hB.os,hB.tape,hB.output,by have:=hB.size;simpa [World.setCell] using this,fun b hb hf=>(hsame b (fun e=>hf (Or.inl e))).trans (hB.block b hb)⟩,fun b hb=>?_⟩
 ·have:w3.cell? ⟨m,0,none⟩=_:=(World.cell?_of_block (w:=W) (w':=w3) (a:=⟨m,0,none⟩) hm3).trans h.c0
  simp[go_sem,this]
 ·have:w3.cell? ⟨m,1,none⟩=_:=(World.cell?_of_block (w:=W) (w':=w3) (a:=⟨m,1,none⟩) hm3).trans h.c1
  simp[go_sem,this]
 ·have:w3.cell? ⟨m,2,none⟩=_:=(World.cell?_of_block (w:=W) (w':=w3) (a:=⟨m,2,none⟩) hm3).trans h.c2
  simp[go_sem,this]
 ·have:w3.frozen? ⟨m,k,none⟩=_:=(World.frozen?_of_block (w:=W) (w':=w3) (a:=⟨m,k,none⟩) hm3).trans (h.fz k)
  simp[go_sem,this]
 ·rcases hb with rfl|e
  ·exact Or.inl (Or.inl rfl)
  ·exact Or.inr (hown.lt b e).1
theorem fdropAt_A {W:World}{m t:Nat}{la:Int}{L:List Lh.Fl}{g:Nat}(k:Nat)(hkl:L.length=k+1)(h:MF W m t la L (.slice (some ⟨g,0,none⟩) L.length (k+1)))(hl:L.length≤1000)(hcm:(k+1)≤maxLen) :
  Calls Tryz.prog 121 #[.pointer (some ⟨m,0,none⟩),.int .i64 (k:Nat)] W fun e w'=>∃lv',e=.returned (.tuple #[])∧MF w' m t la (L.eraseIdx k) lv'∧Tur (FFoot m (.slice (some ⟨g,0,none⟩) L.length (k+1))) W w'∧∀b,FFoot m lv' b→FFoot m (.slice (some ⟨g,0,none⟩) L.length (k+1)) b∨W.heap.size≤b:=by
 obtain⟨i,hi,hz0,hz1,hz2⟩:=info_parts infoFl
 have c2:=h.c2
 have f2:=h.fz 2
 have hmlt:=h.mlt
 obtain⟨w1,hw1⟩:∃w1,w1=W:=⟨_,rfl⟩
 subst hw1
 have HM:Hid (MF w1 m t la L (.slice (some ⟨g,0,none⟩) L.length (k+1))):=h
 have hki:(k:Int)<(L.length:Int):=by omega
 have hcm':=hcm
 unfold maxLen at hcm'
 clear h
 have hs1:∀j u,(flatF (L.take k))[j]?=some u→w1.cell? ((⟨g,0,none⟩:Addr).add j)=some u:=fun j u hu=>by
  have hj:j<(flatF (L.take k)).length:=(List.getElem?_eq_some_iff.1 hu).1
  rw[flatF_length,List.length_take] at hj
  rw[flatF_take,List.getElem?_take_of_lt (by omega)] at hu
  rw[Addr.add_lit,Nat.zero_add]
  exact frow_cells HM.out.own j u hu
 have hl1:(flatF (L.take k)).length=k*3:=by rw[flatF_length,List.length_take];congr 1;omega
 have hm1:0+k≤maxLen:=by unfold maxLen;omega
 go_enter Tryz.func121,Tryz.ntmps121
 go_wp2_with (at_builtin;refine wpList_append_own _ rfl _ _ 76 rfl w1.heap.size 80 i _ 3 32 Tryz.underlying76 hi hz0 hz1 hz2 rfl (by decide) (.slice none 0 0) 0 [] rfl (World.ownsRow_nil _ _ _ _) ⟨g,0,none⟩ k (k+1) (flatF (L.take k)) rfl hl1 hs1 (flatF_one _) hm1 (by omega) (Nat.le_refl _) ?_)
 intro v4 w4 hown4 hg4 _
 have hR4:Below w1.heap.size w1 w4:=below_grown hg4 (fun k h=>by cases h)
 have c4:=below_cell hR4 c2
 clear hs1 hl1 hg4
 have hs2:∀j u,([]:List Value)[j]?=some u→w4.cell? ((⟨g,0,none⟩:Addr).add j)=some u:=fun j u hu=>by
  simp at hu
 have hl2:([]:List Value).length=0*3:=rfl
 have hm2:k+0≤maxLen:=by unfold maxLen;omega
 go_wp2_with (at_builtin;refine wpList_append_own _ rfl _ _ 76 rfl w1.heap.size 80 i _ 3 32 Tryz.underlying76 hi hz0 hz1 hz2 rfl (by decide) v4 k (flatF (L.take k)) rfl hown4 ⟨g,0,none⟩ 0 _ [] rfl hl2 hs2 (fun u hu=>by cases hu) hm2 (by omega) hR4.size ?_)
 intro v5 w5 hown5 hg5 _
 have hb5:Below w1.heap.size w1 w5:=hR4.grown hg5 hR4.size (fun k h=>(hown4.lt k h).1)
 have hown6:w5.ownsRow w1.heap.size 80 3 v5 (L.eraseIdx k).length (flatF (L.eraseIdx k)):=by
  have e1:L.eraseIdx k=L.take k:=by rw[List.eraseIdx_eq_take_drop_succ,List.drop_eq_nil_of_le (by omega),List.append_nil]
  have e2:(L.take k).length=k+0:=by rw[List.length_take];omega
  rw[e1,e2]
  simpa using hown5
 obtain⟨p5,c5,rfl⟩:=fown_shape hown5
 have HE:=HM.out.laid hb5 hown6
 have HEH:Hid _:=HE
 have c6:=below_cell hb5 c2
 have f6:w5.frozen? ⟨m,2,none⟩=false:=by rw[hb5.frozen hmlt];exact f2
 clear HE hown4 hown5 hown6 hg5 hs2 hl2 hm2 hm1 hR4 c4 c2 f2
 go_wp2
 go_end0
 exact⟨_,rfl,HEH.out⟩
theorem fdropAt_B {W:World}{m t:Nat}{la:Int}{L:List Lh.Fl}{g:Nat}(cap:Nat)(k:Nat)(hkl:k<L.length)(hcc:k+1<cap)(_hcap:L.length≤cap)(h:MF W m t la L (.slice (some ⟨g,0,none⟩) L.length cap))(hl:L.length≤1000)(hcm:cap≤maxLen) :
  Calls Tryz.prog 121 #[.pointer (some ⟨m,0,none⟩),.int .i64 (k:Nat)] W fun e w'=>∃lv',e=.returned (.tuple #[])∧MF w' m t la (L.eraseIdx k) lv'∧Tur (FFoot m (.slice (some ⟨g,0,none⟩) L.length cap)) W w'∧∀b,FFoot m lv' b→FFoot m (.slice (some ⟨g,0,none⟩) L.length cap) b∨W.heap.size≤b:=by
 obtain⟨i,hi,hz0,hz1,hz2⟩:=info_parts infoFl
 have c2:=h.c2
 have f2:=h.fz 2
 have hmlt:=h.mlt
 obtain⟨w1,hw1⟩:∃w1,w1=W:=⟨_,rfl⟩
 subst hw1
 have HM:Hid (MF w1 m t la L (.slice (some ⟨g,0,none⟩) L.length cap)):=h
 have hki:(k:Int)<(L.length:Int):=by omega
 have hcm':=hcm
 unfold maxLen at hcm'
 clear h
 have hs1:∀j u,(flatF (L.take k))[j]?=some u→w1.cell? ((⟨g,0,none⟩:Addr).add j)=some u:=fun j u hu=>by
  have hj:j<(flatF (L.take k)).length:=(List.getElem?_eq_some_iff.1 hu).1
  rw[flatF_length,List.length_take] at hj
  rw[flatF_take,List.getElem?_take_of_lt (by omega)] at hu
  rw[Addr.add_lit,Nat.zero_add]
  exact frow_cells HM.out.own j u hu
 have hl1:(flatF (L.take k)).length=k*3:=by rw[flatF_length,List.length_take];congr 1;omega
 have hm1:0+k≤maxLen:=by unfold maxLen;omega
 go_enter Tryz.func121,Tryz.ntmps121
 go_wp2_with (at_builtin;refine wpList_append_own _ rfl _ _ 76 rfl w1.heap.size 80 i _ 3 32 Tryz.underlying76 hi hz0 hz1 hz2 rfl (by decide) (.slice none 0 0) 0 [] rfl (World.ownsRow_nil _ _ _ _) ⟨g,0,none⟩ k cap (flatF (L.take k)) rfl hl1 hs1 (flatF_one _) hm1 (by omega) (Nat.le_refl _) ?_)
 intro v4 w4 hown4 hg4 _
 have hR4:Below w1.heap.size w1 w4:=below_grown hg4 (fun k h=>by cases h)
 have c4:=below_cell hR4 c2
 clear hs1 hl1 hg4
 have hs2:∀j u,(flatF (L.drop (k+1)))[j]?=some u→w4.cell? ((⟨g,(k+1)*3,none⟩:Addr).add j)=some u:=fun j u hu=>by
  rw[flatF_drop,List.getElem?_drop] at hu
  rw[Addr.add_lit]
  exact below_cell hR4 (frow_cells HM.out.own _ u hu)
 have hl2:(flatF (L.drop (k+1))).length=(L.length - (k+1))*3:=by rw[flatF_length,List.length_drop]
 have hm2:k+(L.length - (k+1))≤maxLen:=by unfold maxLen;omega
 go_wp2_with (at_builtin;refine wpList_append_own _ rfl _ _ 76 rfl w1.heap.size 80 i _ 3 32 Tryz.underlying76 hi hz0 hz1 hz2 rfl (by decide) v4 k (flatF (L.take k)) rfl hown4 ⟨g,(k+1)*3,none⟩ (L.length - (k+1)) _ (flatF (L.drop (k+1))) rfl hl2 hs2 (flatF_one _) hm2 (by omega) hR4.size ?_)
 intro v5 w5 hown5 hg5 _
 have hb5:Below w1.heap.size w1 w5:=hR4.grown hg5 hR4.size (fun k h=>(hown4.lt k h).1)
 have hown6:w5.ownsRow w1.heap.size 80 3 v5 (L.eraseIdx k).length (flatF (L.eraseIdx k)):=by
  have e1:L.eraseIdx k=L.take k++L.drop (k+1):=List.eraseIdx_eq_take_drop_succ _ _
  have e2:(L.take k++L.drop (k+1)).length=k+(L.length - (k+1)):=by rw[List.length_append,List.length_take,List.length_drop];omega
  rw[e1,e2,flatF_append]
  exact hown5
 obtain⟨p5,c5,rfl⟩:=fown_shape hown5
 have HE:=HM.out.laid hb5 hown6
 have HEH:Hid _:=HE
 have c6:=below_cell hb5 c2
 have f6:w5.frozen? ⟨m,2,none⟩=false:=by rw[hb5.frozen hmlt];exact f2
 clear HE hown4 hown5 hown6 hg5 hs2 hl2 hm2 hm1 hR4 c4 c2 f2
 go_wp2
 go_end0
 exact⟨_,rfl,HEH.out⟩
theorem fdropAt_any {W:World}{m t:Nat}{la:Int}{L:List Lh.Fl}{lv:Value}(h:MF W m t la L lv)(hl:L.length≤1000)(k:Nat)(hk:k<L.length) :
  Calls Tryz.prog 121 #[.pointer (some ⟨m,0,none⟩),.int .i64 (k:Nat)] W fun e w'=>∃lv',e=.returned (.tuple #[])∧MF w' m t la (L.eraseIdx k) lv'∧Tur (FFoot m lv) W w'∧∀b,FFoot m lv' b→FFoot m lv b∨W.heap.size≤b:=by
 obtain⟨_,⟨_,e0⟩|⟨g,cap,cur,rfl,_,_,hcap,hcm,_⟩⟩:=h.own
 ·omega
 ·by_cases hc:k+1<cap
  ·exact fdropAt_B cap k hk hc hcap h hl hcm
  ·have e2:cap=k+1:=by omega
   subst e2
   exact fdropAt_A k (by omega) h hl hcm
theorem flay_at {L:List Lh.Fl}{x:Lh.Fl}{k:Nat}(hk:k≤L.length)(h1:∀j (h:j<L.length),j<k→(L[j]).1<x.1)(h2:∀h:k<L.length,¬(L[k]).1<x.1):Lh.flay x L=L.take k++x :: L.drop k:=by
 induction L generalizing k with
 | nil =>
  simp at hk
  subst hk
  rfl
 | cons y L ih =>
  match k with
  | 0 =>
   have hy:¬y.1<x.1:=h2 (by simp)
   simp[Lh.flay,hy]
  | k+1 =>
   have hy:y.1<x.1:=h1 0 (by simp) (by omega)
   have:=ih (k:=k) (by simpa using hk) (fun j h hj=>h1 (j+1) (by simpa using h) (by omega)) (fun h=>h2 (by simpa using h))
   simp only[Lh.flay] at this ⊢
   rw[List.takeWhile_cons_of_pos (by simpa using hy),List.dropWhile_cons_of_pos (by simpa using hy),List.take_succ_cons,List.drop_succ_cons,List.cons_append,this,List.cons_append]
theorem cellsX {w:World}{t:TypeId}(x:Lh.Fl):∀j u,(encF x)[j]?=some u→(w.alloc (.cells #[.int .u64 (x.1:Nat),.string x.2.1,.int .i64 x.2.2] t)).cell? ((⟨w.heap.size,0,none⟩:Addr).add j)=some u:=by
 intro j u hu
 match j,hu with
 | 0,hu=>simp[encF] at hu;subst hu;simp[Addr.add]
 | 1,hu=>simp[encF] at hu;subst hu;simp[Addr.add]
 | 2,hu=>simp[encF] at hu;subst hu;simp[Addr.add]
 | j+3,hu=>simp[encF] at hu
theorem encF_one (x:Lh.Fl):∀u∈encF x,u.oneCell'=true:=by
 intro u hu
 simp[encF] at hu
 rcases hu with rfl|rfl|rfl<;>rfl
theorem flay_some {W:World}{m t:Nat}{la:Int}{L:List Lh.Fl}{g cap:Nat}(h:MF W m t la L (.slice (some ⟨g,0,none⟩) L.length cap))(hl:L.length≤1000)(hcap:L.length≤cap)(hcm:cap≤maxLen)(x:Lh.Fl) :
  Calls Tryz.prog 122 #[.pointer (some ⟨m,0,none⟩),.agg #[.int .u64 (x.1:Nat),.string x.2.1,.int .i64 x.2.2]] W fun e w'=>∃lv',e=.returned (.tuple #[])∧MF w' m t la (Lh.flay x L) lv'∧Tur (FFoot m (.slice (some ⟨g,0,none⟩) L.length cap)) W w'∧∀b,FFoot m lv' b→FFoot m (.slice (some ⟨g,0,none⟩) L.length cap) b∨W.heap.size≤b:=by
 obtain⟨i,hi,hz0,hz1,hz2⟩:=info_parts infoFl
 have hb0:Below W.heap.size W (W.alloc (.cells #[.int .u64 (x.1:Nat),.string x.2.1,.int .i64 x.2.2] 80)):=(Below.refl _ _).alloc (Nat.le_refl _) _
 have HM:Hid (MF W m t la L (.slice (some ⟨g,0,none⟩) L.length cap)):=h
 have hmlt:=h.mlt
 have HX0:Hid (∀w',Below (W.alloc (.cells #[.int .u64 (x.1:Nat),.string x.2.1,.int .i64 x.2.2] 80)).heap.size (W.alloc (.cells #[.int .u64 (x.1:Nat),.string x.2.1,.int .i64 x.2.2] 80)) w'→w'.cell? ⟨W.heap.size,0,none⟩=some (.int .u64 (x.1:Nat))∧w'.cell? ⟨W.heap.size,1,none⟩=some (.string x.2.1)∧w'.cell? ⟨W.heap.size,2,none⟩=some (.int .i64 x.2.2)):=fun w' hb=>⟨below_cell hb (by simp),below_cell hb (by simp),below_cell hb (by simp)⟩
 have HK:Hid (∀k (hk:k<L.length) w',Below W.heap.size W w'→w'.cell? ⟨g,k*3,none⟩=some (.int .u64 ((L[k]).1:Nat))):=fun k hk w' hb=>below_cell hb (frow_cells h.own _ _ (flatF_get L k hk).1)
 have HB0:Hid (Below W.heap.size W (W.alloc (.cells #[.int .u64 (x.1:Nat),.string x.2.1,.int .i64 x.2.2] 80))):=hb0
 have hcm':=hcm
 unfold maxLen at hcm'
 clear h hb0
 go_enter Tryz.func122,Tryz.ntmps122
 go_wp2_with fail
 generalize W.alloc (.cells #[.int .u64 (x.1:Nat),.string x.2.1,.int .i64 x.2.2] 80)=W0 at *
 go_loopw [4] (fun u w'=>Below W0.heap.size W0 w'∧∃k:Nat,k≤L.length∧u=.int .i64 (k:Nat)∧∀j (h:j<L.length),j<k→(L[j]).1<x.1) (fun u _=>L.length - (intOf u).toNat)
 case atStart=>exact⟨Below.refl _ _,0,Nat.zero_le _,rfl,fun j _ h=>absurd h (by omega)⟩
 case round =>
  obtain⟨hb,k,hk,rfl,hp⟩:=hrel
  have HP:Hid (∀j (h:j<L.length),j<k→(L[j]).1<x.1):=hp
  clear hp
  have hbW:=below_then HB0.out hb
  obtain⟨x0,x1,x2⟩:=HX0.out wr hb
  have c2:wr.cell? ⟨m,2,none⟩=some (.slice (some ⟨g,0,none⟩) L.length cap):=below_cell hbW HM.out.c2
  by_cases hlt:k<L.length
  ·have hki:(k:Int)<(L.length:Int):=by omega
   have ck:=HK.out k hlt wr hbW
   by_cases hkx:(L[k]).1<x.1
   ·have d:decide (((L[k]).1:Int)<(x.1:Int))=true:=by simp;omega
    have HPN:Hid (∀j (h:j<L.length),j<k+1→(L[j]).1<x.1):=fun j h hj=>by
     by_cases e:j=k
     ·subst e;exact hkx
     ·exact HP.out j h (by omega)
    generalize (L[k]).1=z at *
    generalize x.1=xk at *
    go_wp2_with fail
    go_quiet (fail)
    go_wp2
    exact⟨⟨below_drewN hb nq,k+1,by omega,by go_num,HPN.out⟩,by simp[intOf];omega⟩
   ·have d:decide (((L[k]).1:Int)<(x.1:Int))=false:=by simp;omega
    have HFL:Hid (Lh.flay x L=L.take k++x :: L.drop k):=flay_at hk HP.out (fun _=>hkx)
    have hkc:k<cap:=by omega
    go_wp2_with fail
    go_quiet (fail)
    clear ck d hkx
    have hbx:Below W0.heap.size W0 (wr.drewN nq):=below_drewN hb nq
    clear x0 x1 x2 c2 hb hbW
    generalize wr.drewN nq=wx at *
    have hbW:=below_then HB0.out hbx
    have c2:wx.cell? ⟨m,2,none⟩=some (.slice (some ⟨g,0,none⟩) L.length cap):=below_cell hbW HM.out.c2
    have hs1:∀j u,(flatF (L.take k))[j]?=some u→wx.cell? ((⟨g,0,none⟩:Addr).add j)=some u:=fun j u hu=>by
     have hj:j<(flatF (L.take k)).length:=(List.getElem?_eq_some_iff.1 hu).1
     rw[flatF_length,List.length_take] at hj
     rw[flatF_take,List.getElem?_take_of_lt (by omega)] at hu
     rw[Addr.add_lit,Nat.zero_add]
     exact below_cell hbW (frow_cells HM.out.own j u hu)
    have hl1:(flatF (L.take k)).length=k*3:=by rw[flatF_length,List.length_take];congr 1;omega
    have hm1:0+k≤maxLen:=by unfold maxLen;omega
    go_wp2_with (at_builtin;refine wpList_append_own _ rfl _ _ 76 rfl W.heap.size 80 i _ 3 32 Tryz.underlying76 hi hz0 hz1 hz2 rfl (by decide) (.slice none 0 0) 0 [] rfl (World.ownsRow_nil _ _ _ _) ⟨g,0,none⟩ k cap (flatF (L.take k)) rfl hl1 hs1 (flatF_one _) hm1 (by omega) hbW.size ?_)
    intro v4 w4 hown4 hg4 _
    have hR4:Below wx.heap.size wx w4:=below_grown hg4 (fun k h=>by cases h)
    have hb4:Below W.heap.size W w4:=below_then hbW hR4
    obtain⟨x0,x1,x2⟩:=HX0.out w4 (below_then hbx hR4)
    have hown4':=hown4.alloc (.cells #[.int .u64 (x.1:Nat),.string x.2.1,.int .i64 x.2.2] 80)
    have hnews:=cellsX (w:=w4) (t:=80) x
    have hb4':Below W.heap.size W (w4.alloc (.cells #[.int .u64 (x.1:Nat),.string x.2.1,.int .i64 x.2.2] 80)):=hb4.alloc hb4.size _
    have hm2:k+1≤maxLen:=by unfold maxLen;omega
    clear hs1 hl1 hg4 c2 hown4
    go_wp2_with (at_builtin;refine wpList_append_own _ rfl _ _ 76 rfl W.heap.size 80 i _ 3 32 Tryz.underlying76 hi hz0 hz1 hz2 rfl (by decide) v4 k (flatF (L.take k)) rfl hown4' ⟨w4.heap.size,0,none⟩ 1 1 (encF x) rfl rfl hnews (encF_one x) hm2 (by omega) hb4'.size ?_)
    intro v5 w5 hown5 hg5 _
    have hb5:Below W.heap.size W w5:=hb4'.grown hg5 hb4'.size (fun k h=>(hown4'.lt k h).1)
    have c5:w5.cell? ⟨m,2,none⟩=some (.slice (some ⟨g,0,none⟩) L.length cap):=below_cell hb5 HM.out.c2
    clear hg5 hown4' hnews hb4' hb4 x0 x1 x2
    have hs2:∀j u,(flatF (L.drop k))[j]?=some u→w5.cell? ((⟨g,k*3,none⟩:Addr).add j)=some u:=fun j u hu=>by
     rw[flatF_drop,List.getElem?_drop] at hu
     rw[Addr.add_lit]
     exact below_cell hb5 (frow_cells HM.out.own _ u hu)
    have hl2:(flatF (L.drop k)).length=(L.length - k)*3:=by rw[flatF_length,List.length_drop]
    have hm3:k+1+(L.length - k)≤maxLen:=by unfold maxLen;omega
    go_wp2_with (at_builtin;refine wpList_append_own _ rfl _ _ 76 rfl W.heap.size 80 i _ 3 32 Tryz.underlying76 hi hz0 hz1 hz2 rfl (by decide) v5 (k+1) (flatF (L.take k)++encF x) rfl hown5 ⟨g,k*3,none⟩ (L.length - k) _ (flatF (L.drop k)) rfl hl2 hs2 (flatF_one _) hm3 (by omega) hb5.size ?_)
    intro v6 w6 hown6 hg6 _
    have hb6:Below W.heap.size W w6:=hb5.grown hg6 hb5.size (fun k h=>(hown5.lt k h).1)
    have hown7:w6.ownsRow W.heap.size 80 3 v6 (Lh.flay x L).length (flatF (Lh.flay x L)):=by
     have e2:(L.take k++x :: L.drop k).length=k+1+(L.length - k):=by rw[List.length_append,List.length_cons,List.length_take,List.length_drop];omega
     have e3:flatF (L.take k++x :: L.drop k)=flatF (L.take k)++(encF x++flatF (L.drop k)):=by
      rw[flatF_append]
      rfl
     rw[HFL.out,e2,e3]
     exact hown6
    clear hs2 hl2
    obtain⟨p6,cp6,rfl⟩:=fown_shape hown6
    have HEH:Hid _:=HM.out.laid hb6 hown7
    have c6:w6.cell? ⟨m,2,none⟩=some (.slice (some ⟨g,0,none⟩) L.length cap):=below_cell hb6 HM.out.c2
    have f6:w6.frozen? ⟨m,2,none⟩=false:=by rw[hb6.frozen hmlt];exact HM.out.fz 2
    clear hown5 hown6 hown7 hg6 hm1 hm2 hm3 c5
    go_wp2
    go_end0
    exact⟨_,rfl,HEH.out⟩
  ·have hki:decide ((k:Int)<(L.length:Int))=false:=by simp;omega
   have hkl:k=L.length:=by omega
   have HFL:Hid (Lh.flay x L=L.take k++x :: L.drop k):=flay_at hk HP.out (fun h=>absurd h hlt)
   by_cases hkc:k<cap
   ·clear hkl
    go_wp2_with fail
    go_quiet (fail)
    clear hki
    have hbx:Below W0.heap.size W0 (wr.drewN nq):=below_drewN hb nq
    clear x0 x1 x2 c2 hb hbW
    generalize wr.drewN nq=wx at *
    have hbW:=below_then HB0.out hbx
    have c2:wx.cell? ⟨m,2,none⟩=some (.slice (some ⟨g,0,none⟩) L.length cap):=below_cell hbW HM.out.c2
    have hs1:∀j u,(flatF (L.take k))[j]?=some u→wx.cell? ((⟨g,0,none⟩:Addr).add j)=some u:=fun j u hu=>by
     have hj:j<(flatF (L.take k)).length:=(List.getElem?_eq_some_iff.1 hu).1
     rw[flatF_length,List.length_take] at hj
     rw[flatF_take,List.getElem?_take_of_lt (by omega)] at hu
     rw[Addr.add_lit,Nat.zero_add]
     exact below_cell hbW (frow_cells HM.out.own j u hu)
    have hl1:(flatF (L.take k)).length=k*3:=by rw[flatF_length,List.length_take];congr 1;omega
    have hm1:0+k≤maxLen:=by unfold maxLen;omega
    go_wp2_with (at_builtin;refine wpList_append_own _ rfl _ _ 76 rfl W.heap.size 80 i _ 3 32 Tryz.underlying76 hi hz0 hz1 hz2 rfl (by decide) (.slice none 0 0) 0 [] rfl (World.ownsRow_nil _ _ _ _) ⟨g,0,none⟩ k cap (flatF (L.take k)) rfl hl1 hs1 (flatF_one _) hm1 (by omega) hbW.size ?_)
    intro v4 w4 hown4 hg4 _
    have hR4:Below wx.heap.size wx w4:=below_grown hg4 (fun k h=>by cases h)
    have hb4:Below W.heap.size W w4:=below_then hbW hR4
    obtain⟨x0,x1,x2⟩:=HX0.out w4 (below_then hbx hR4)
    have hown4':=hown4.alloc (.cells #[.int .u64 (x.1:Nat),.string x.2.1,.int .i64 x.2.2] 80)
    have hnews:=cellsX (w:=w4) (t:=80) x
    have hb4':Below W.heap.size W (w4.alloc (.cells #[.int .u64 (x.1:Nat),.string x.2.1,.int .i64 x.2.2] 80)):=hb4.alloc hb4.size _
    have hm2:k+1≤maxLen:=by unfold maxLen;omega
    clear hs1 hl1 hg4 c2 hown4
    go_wp2_with (at_builtin;refine wpList_append_own _ rfl _ _ 76 rfl W.heap.size 80 i _ 3 32 Tryz.underlying76 hi hz0 hz1 hz2 rfl (by decide) v4 k (flatF (L.take k)) rfl hown4' ⟨w4.heap.size,0,none⟩ 1 1 (encF x) rfl rfl hnews (encF_one x) hm2 (by omega) hb4'.size ?_)
    intro v5 w5 hown5 hg5 _
    have hb5:Below W.heap.size W w5:=hb4'.grown hg5 hb4'.size (fun k h=>(hown4'.lt k h).1)
    have c5:w5.cell? ⟨m,2,none⟩=some (.slice (some ⟨g,0,none⟩) L.length cap):=below_cell hb5 HM.out.c2
    clear hg5 hown4' hnews hb4' hb4 x0 x1 x2
    have hs2:∀j u,(flatF (L.drop k))[j]?=some u→w5.cell? ((⟨g,k*3,none⟩:Addr).add j)=some u:=fun j u hu=>by
     rw[flatF_drop,List.getElem?_drop] at hu
     rw[Addr.add_lit]
     exact below_cell hb5 (frow_cells HM.out.own _ u hu)
    have hl2:(flatF (L.drop k)).length=(L.length - k)*3:=by rw[flatF_length,List.length_drop]
    have hm3:k+1+(L.length - k)≤maxLen:=by unfold maxLen;omega
    go_wp2_with (at_builtin;refine wpList_append_own _ rfl _ _ 76 rfl W.heap.size 80 i _ 3 32 Tryz.underlying76 hi hz0 hz1 hz2 rfl (by decide) v5 (k+1) (flatF (L.take k)++encF x) rfl hown5 ⟨g,k*3,none⟩ (L.length - k) _ (flatF (L.drop k)) rfl hl2 hs2 (flatF_one _) hm3 (by omega) hb5.size ?_)
    intro v6 w6 hown6 hg6 _
    have hb6:Below W.heap.size W w6:=hb5.grown hg6 hb5.size (fun k h=>(hown5.lt k h).1)
    have hown7:w6.ownsRow W.heap.size 80 3 v6 (Lh.flay x L).length (flatF (Lh.flay x L)):=by
     have e2:(L.take k++x :: L.drop k).length=k+1+(L.length - k):=by rw[List.length_append,List.length_cons,List.length_take,List.length_drop];omega
     have e3:flatF (L.take k++x :: L.drop k)=flatF (L.take k)++(encF x++flatF (L.drop k)):=by
      rw[flatF_append]
      rfl
     rw[HFL.out,e2,e3]
     exact hown6
    clear hs2 hl2
    obtain⟨p6,cp6,rfl⟩:=fown_shape hown6
    have HEH:Hid _:=HM.out.laid hb6 hown7
    have c6:w6.cell? ⟨m,2,none⟩=some (.slice (some ⟨g,0,none⟩) L.length cap):=below_cell hb6 HM.out.c2
    have f6:w6.frozen? ⟨m,2,none⟩=false:=by rw[hb6.frozen hmlt];exact HM.out.fz 2
    clear hown5 hown6 hown7 hg6 hm1 hm2 hm3 c5
    go_wp2
    go_end0
    exact⟨_,rfl,HEH.out⟩
   ·have hke:k=cap:=by omega
    subst hke
    clear hkl hkc
    go_wp2_with fail
    go_quiet (fail)
    clear hki
    have hbx:Below W0.heap.size W0 (wr.drewN nq):=below_drewN hb nq
    clear x0 x1 x2 c2 hb hbW
    generalize wr.drewN nq=wx at *
    have hbW:=below_then HB0.out hbx
    have c2:wx.cell? ⟨m,2,none⟩=some (.slice (some ⟨g,0,none⟩) L.length k):=below_cell hbW HM.out.c2
    have hs1:∀j u,(flatF (L.take k))[j]?=some u→wx.cell? ((⟨g,0,none⟩:Addr).add j)=some u:=fun j u hu=>by
     have hj:j<(flatF (L.take k)).length:=(List.getElem?_eq_some_iff.1 hu).1
     rw[flatF_length,List.length_take] at hj
     rw[flatF_take,List.getElem?_take_of_lt (by omega)] at hu
     rw[Addr.add_lit,Nat.zero_add]
     exact below_cell hbW (frow_cells HM.out.own j u hu)
    have hl1:(flatF (L.take k)).length=k*3:=by rw[flatF_length,List.length_take];congr 1;omega
    have hm1:0+k≤maxLen:=by unfold maxLen;omega
    go_wp2_with (at_builtin;refine wpList_append_own _ rfl _ _ 76 rfl W.heap.size 80 i _ 3 32 Tryz.underlying76 hi hz0 hz1 hz2 rfl (by decide) (.slice none 0 0) 0 [] rfl (World.ownsRow_nil _ _ _ _) ⟨g,0,none⟩ k k (flatF (L.take k)) rfl hl1 hs1 (flatF_one _) hm1 (by omega) hbW.size ?_)
    intro v4 w4 hown4 hg4 _
    have hR4:Below wx.heap.size wx w4:=below_grown hg4 (fun k h=>by cases h)
    have hb4:Below W.heap.size W w4:=below_then hbW hR4
    obtain⟨x0,x1,x2⟩:=HX0.out w4 (below_then hbx hR4)
    have hown4':=hown4.alloc (.cells #[.int .u64 (x.1:Nat),.string x.2.1,.int .i64 x.2.2] 80)
    have hnews:=cellsX (w:=w4) (t:=80) x
    have hb4':Below W.heap.size W (w4.alloc (.cells #[.int .u64 (x.1:Nat),.string x.2.1,.int .i64 x.2.2] 80)):=hb4.alloc hb4.size _
    have hm2:k+1≤maxLen:=by unfold maxLen;omega
    clear hs1 hl1 hg4 c2 hown4
    go_wp2_with (at_builtin;refine wpList_append_own _ rfl _ _ 76 rfl W.heap.size 80 i _ 3 32 Tryz.underlying76 hi hz0 hz1 hz2 rfl (by decide) v4 k (flatF (L.take k)) rfl hown4' ⟨w4.heap.size,0,none⟩ 1 1 (encF x) rfl rfl hnews (encF_one x) hm2 (by omega) hb4'.size ?_)
    intro v5 w5 hown5 hg5 _
    have hb5:Below W.heap.size W w5:=hb4'.grown hg5 hb4'.size (fun k h=>(hown4'.lt k h).1)
    have c5:w5.cell? ⟨m,2,none⟩=some (.slice (some ⟨g,0,none⟩) L.length k):=below_cell hb5 HM.out.c2
    clear hg5 hown4' hnews hb4' hb4 x0 x1 x2
    have hs2:∀j u,([]:List Value)[j]?=some u→w5.cell? ((⟨g,0,none⟩:Addr).add j)=some u:=fun j u hu=>by
     simp at hu
    have hm3:k+1+0≤maxLen:=by unfold maxLen;omega
    go_wp2_with (at_builtin;refine wpList_append_own _ rfl _ _ 76 rfl W.heap.size 80 i _ 3 32 Tryz.underlying76 hi hz0 hz1 hz2 rfl (by decide) v5 (k+1) (flatF (L.take k)++encF x) rfl hown5 ⟨g,0,none⟩ 0 _ [] rfl rfl hs2 (fun u hu=>by cases hu) hm3 (by omega) hb5.size ?_)
    intro v6 w6 hown6 hg6 _
    have hb6:Below W.heap.size W w6:=hb5.grown hg6 hb5.size (fun k h=>(hown5.lt k h).1)
    have hown7:w6.ownsRow W.heap.size 80 3 v6 (Lh.flay x L).length (flatF (Lh.flay x L)):=by
     have e2:(L.take k++x :: L.drop k).length=k+1+0:=by rw[List.length_append,List.length_cons,List.length_take,List.length_drop];omega
     have e3:flatF (L.take k++x :: L.drop k)=flatF (L.take k)++encF x:=by
      rw[flatF_append,List.drop_eq_nil_of_le (by omega)]
      rfl
     rw[HFL.out,e2,e3]
     exact hown6
    clear hs2
    obtain⟨p6,cp6,rfl⟩:=fown_shape hown6
    have HEH:Hid _:=HM.out.laid hb6 hown7
    have c6:w6.cell? ⟨m,2,none⟩=some (.slice (some ⟨g,0,none⟩) L.length k):=below_cell hb6 HM.out.c2
    have f6:w6.frozen? ⟨m,2,none⟩=false:=by rw[hb6.frozen hmlt];exact HM.out.fz 2
    clear hown5 hown6 hown7 hg6 hm1 hm2 hm3 c5
    go_wp2
    go_end0
    exact⟨_,rfl,HEH.out⟩
end Go.Proofs.YtfhmfjcpggddkaaGreatDoor
