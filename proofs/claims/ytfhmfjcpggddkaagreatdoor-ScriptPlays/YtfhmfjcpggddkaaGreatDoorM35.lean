/- The model of flows: lay, of whatever it holds. -/
import Derived.Test.YtfhmfjcpggddkaaGreatDoorM6
import Derived.OwnWalk
import Derived.Test.YtfhmfjcpggddkaaGreatDoorHRef4
import Derived.Test.YtfhmfjcpggddkaaGreatDoorM11
import Derived.Test.YtfhmfjcpggddkaaGreatDoorM4
import Derived.Deep.RegionHeld3
import Derived.Test.YtfhmfjcpggddkaaGreatDoorM10
import Derived.Test.YtfhmfjcpggddkaaGreatDoorM18
set_option maxHeartbeats 20000000
set_option maxRecDepth 100000
namespace Go.Proofs.YtfhmfjcpggddkaaGreatDoor
open Go.RowKit
theorem flay_none {W:World}{m t:Nat}{la:Int}(h:MF W m t la [] (.slice none 0 0))(x:Lh.Fl) :
  Calls Tryz.prog 122 #[.pointer (some ⟨m,0,none⟩),.agg #[.int .u64 (x.1:Nat),.string x.2.1,.int .i64 x.2.2]] W fun e w'=>∃lv',e=.returned (.tuple #[])∧MF w' m t la (Lh.flay x []) lv'∧Tur (FFoot m (.slice none 0 0)) W w'∧∀b,FFoot m lv' b→FFoot m (.slice none 0 0) b∨W.heap.size≤b:=by
 obtain⟨i,hi,hz0,hz1,hz2⟩:=info_parts infoFl
 have hb0:Below W.heap.size W (W.alloc (.cells #[.int .u64 (x.1:Nat),.string x.2.1,.int .i64 x.2.2] 80)):=(Below.refl _ _).alloc (Nat.le_refl _) _
 have HM:Hid (MF W m t la [] (.slice none 0 0)):=h
 have hmlt:=h.mlt
 have HX0:Hid (∀w',Below (W.alloc (.cells #[.int .u64 (x.1:Nat),.string x.2.1,.int .i64 x.2.2] 80)).heap.size (W.alloc (.cells #[.int .u64 (x.1:Nat),.string x.2.1,.int .i64 x.2.2] 80)) w'→w'.cell? ⟨W.heap.size,0,none⟩=some (.int .u64 (x.1:Nat))∧w'.cell? ⟨W.heap.size,1,none⟩=some (.string x.2.1)∧w'.cell? ⟨W.heap.size,2,none⟩=some (.int .i64 x.2.2)):=fun w' hb=>⟨below_cell hb (by simp),below_cell hb (by simp),below_cell hb (by simp)⟩
 have HB0:Hid (Below W.heap.size W (W.alloc (.cells #[.int .u64 (x.1:Nat),.string x.2.1,.int .i64 x.2.2] 80))):=hb0
 clear h hb0
 go_enter Tryz.func122,Tryz.ntmps122
 go_wp2_with fail
 generalize W.alloc (.cells #[.int .u64 (x.1:Nat),.string x.2.1,.int .i64 x.2.2] 80)=W0 at *
 go_loopw [4] (fun u w'=>Below W0.heap.size W0 w'∧u=.int .i64 0) (fun _ _=>0)
 case atStart=>exact⟨Below.refl _ _,rfl⟩
 case round =>
  obtain⟨hb,rfl⟩:=hrel
  have hbW:=below_then HB0.out hb
  have c2:wr.cell? ⟨m,2,none⟩=some (.slice none 0 0):=below_cell hbW HM.out.c2
  go_wp2_with fail
  go_quiet (fail)
  have hbx:Below W0.heap.size W0 (wr.drewN nq):=below_drewN hb nq
  clear c2 hb hbW
  generalize wr.drewN nq=wx at *
  have hbW:=below_then HB0.out hbx
  have c2:wx.cell? ⟨m,2,none⟩=some (.slice none 0 0):=below_cell hbW HM.out.c2
  obtain⟨x0,x1,x2⟩:=HX0.out wx hbx
  have hown0:wx.ownsRow W.heap.size 80 3 (.slice none 0 0) 0 []:=World.ownsRow_nil _ _ _ _
  have hown4':=hown0.alloc (.cells #[.int .u64 (x.1:Nat),.string x.2.1,.int .i64 x.2.2] 80)
  have hnews:=cellsX (w:=wx) (t:=80) x
  have hb4':Below W.heap.size W (wx.alloc (.cells #[.int .u64 (x.1:Nat),.string x.2.1,.int .i64 x.2.2] 80)):=hbW.alloc hbW.size _
  have hm2:0+1≤maxLen:=by unfold maxLen;omega
  have tok1:True:=trivial
  have tok2:True:=trivial
  go_wp2_with (at_builtin;first
   | (clear tok1;refine wpList_append_own_none rfl _ _ 76 rfl W.heap.size 80 i 3 Tryz.underlying76 hi (.slice none 0 0) 0 [] rfl hown0 rfl ?_)
   | (clear tok2;refine wpList_append_own _ rfl _ _ 76 rfl W.heap.size 80 i _ 3 32 Tryz.underlying76 hi hz0 hz1 hz2 rfl (by decide) (.slice none 0 0) 0 [] rfl hown4' ⟨wx.heap.size,0,none⟩ 1 1 (encF x) rfl rfl hnews (encF_one x) hm2 (by omega) hb4'.size ?_))
  intro v5 w5 hown5 hg5 _
  have hb5:Below W.heap.size W w5:=hb4'.grown hg5 hb4'.size (fun k h=>(hown4'.lt k h).1)
  have c5:w5.cell? ⟨m,2,none⟩=some (.slice none 0 0):=below_cell hb5 HM.out.c2
  have f5:w5.frozen? ⟨m,2,none⟩=false:=by rw[hb5.frozen hmlt];exact HM.out.fz 2
  have hown7:w5.ownsRow W.heap.size 80 3 v5 (Lh.flay x []).length (flatF (Lh.flay x [])):=by
   simpa [Lh.flay,flatF] using hown5
  have HEH:Hid _:=HM.out.laid hb5 hown7
  clear hg5 hown4' hnews hb4' x0 x1 x2 hown0 hown7 c2 hm2
  obtain⟨p6,cp6,rfl⟩:=fown_shape hown5
  have hown6:=hown5
  clear hown5
  go_wp2_with (at_builtin;refine wpList_append_own_none rfl _ _ 76 rfl W.heap.size 80 i 3 Tryz.underlying76 hi _ _ _ rfl hown6 rfl ?_)
  go_end0
  exact⟨_,rfl,HEH.out⟩
theorem flay_any {W:World}{m t:Nat}{la:Int}{L:List Lh.Fl}{lv:Value}(h:MF W m t la L lv)(hl:L.length≤1000)(x:Lh.Fl) :
  Calls Tryz.prog 122 #[.pointer (some ⟨m,0,none⟩),.agg #[.int .u64 (x.1:Nat),.string x.2.1,.int .i64 x.2.2]] W fun e w'=>∃lv',e=.returned (.tuple #[])∧MF w' m t la (Lh.flay x L) lv'∧Tur (FFoot m lv) W w'∧∀b,FFoot m lv' b→FFoot m lv b∨W.heap.size≤b:=by
 obtain⟨_,⟨rfl,e0⟩|⟨g,cap,cur,rfl,_,_,hcap,hcm,_⟩⟩:=h.own
 ·obtain rfl:L=[]:=List.eq_nil_of_length_eq_zero e0
  exact flay_none h x
 ·exact flay_some h hl hcap hcm x
section
variable {W:World} {m t:Nat} {la:Int} {L:List Lh.Fl} {lv:Value}
theorem TickOk.not {now:Int}{j:Nat}(h:TickOk la now)(k:TickF la now j):False:=by
 unfold TickOk at h
 rcases k with⟨k,_⟩|⟨_,_,k,_⟩<;>omega
theorem ftick_ok (h:MF W m t la L lv){now:Int}(ht:TickOk la now) :
  Calls Tryz.prog 119 #[.pointer (some ⟨m,0,none⟩),.int .i64 now] W fun e w'=>e=.returned (.int .i64 0)∧w'=W:=by
 refine (ftick_any h now).mono ?_
 rintro e w' ⟨⟨_,rfl⟩|⟨j,hj,_⟩,rfl⟩
 ·exact⟨rfl,rfl⟩
 ·exact (ht.not hj).elim
theorem ftick_bad (h:MF W m t la L lv){now:Int}{j:Nat}(ht:TickF la now j) :
  Calls Tryz.prog 119 #[.pointer (some ⟨m,0,none⟩),.int .i64 now] W fun e w'=>e=.returned (.int .i64 ((j+1:Nat):Int))∧w'=W:=by
 refine (ftick_any h now).mono ?_
 rintro e w' ⟨⟨h1,rfl⟩|⟨i,hi,rfl⟩,rfl⟩
 ·exact (h1.not ht).elim
 ·obtain rfl:i=j:=by
   rcases hi with⟨h1,rfl⟩|⟨h1,h2,h3,rfl⟩<;>rcases ht with⟨g1,rfl⟩|⟨g1,g2,g3,rfl⟩<;>first|rfl|omega
  exact⟨rfl,rfl⟩
theorem TickF.num {now:Int}{j:Nat}(k:TickF la now j):j=1∨j=7:=by
 rcases k with⟨_,rfl⟩|⟨_,_,_,rfl⟩
 ·exact Or.inl rfl
 ·exact Or.inr rfl
theorem MF.tick (h:MF W m t la L lv)(now:Int):MF (W.setCell ⟨m,1,none⟩ (.int .i64 now)) m t now L lv∧Tur (FFoot m lv) W (W.setCell ⟨m,1,none⟩ (.int .i64 now)):=by
 have c0:=h.c0
 have c1:=h.c1
 have c2:=h.c2
 refine⟨⟨?_,?_,?_,fun k=>?_,fowns_setCell h.own (Nat.lt_succ_self m) _⟩,⟨rfl,rfl,rfl,by simp[World.setCell],fun b _ hf=>heap_setCell_other W ⟨m,1,none⟩ b _ (fun e=>hf (Or.inl e))⟩⟩
 ·simp[go_sem,c0]
 ·simp[go_sem,c1]
 ·simp[go_sem,c2]
 ·have:=h.fz k
  simp[go_sem,this]
theorem below_tur {F:Nat→Prop}{w w1 w2:World}(h:Tur F w w1)(hb:Below w1.heap.size w1 w2):Tur F w w2 :=
 ⟨hb.os.trans h.os,hb.tape.trans h.tape,hb.output.trans h.output,Nat.le_trans h.size hb.size,fun j hj hf=>(hb.block j (Nat.lt_of_lt_of_le hj h.size)).trans (h.block j hj hf)⟩
theorem fput_tick (h:MF W m t la L lv)(k:Nat)(s:ByteArray){now:Int}{j:Nat}(ht:TickF la now j) :
  Calls Tryz.prog 72 #[.pointer (some ⟨m,0,none⟩),.int .u64 (k:Nat),.string s,.int .i64 now] W fun e w'=>e=.returned (.int .i64 ((j+1:Nat):Int))∧w'=W:=by
 have h1:=ftick_bad h ht
 have hj:=ht.num
 clear h ht
 rcases hj with rfl|rfl
 all_goals
  go_enter Tryz.func72,Tryz.ntmps72
  go_wp2_with fail
  refine h1.mono ?_
  rintro e w1 ⟨rfl,rfl⟩
  clear h1
  go_wp2
  go_ret
  exact⟨rfl,rfl⟩
theorem fput_name (h:MF W m t la L lv)(k:Nat)(s:ByteArray)(hs:s.size≤300){now:Int}(ht:TickOk la now)(hn:Lh.isNm s=false) :
  Calls Tryz.prog 72 #[.pointer (some ⟨m,0,none⟩),.int .u64 (k:Nat),.string s,.int .i64 now] W fun e w'=>e=.returned (.int .i64 4)∧w'=W:=by
 have h1:=ftick_ok h ht
 have h2:=refName_any s W (Nat.le_trans hs (by decide))
 rw[hn] at h2
 clear h ht hn
 go_enter Tryz.func72,Tryz.ntmps72
 go_wp2_with fail
 refine h1.mono ?_
 rintro e w1 ⟨rfl,rfl⟩
 clear h1
 go_wp2_with fail
 refine h2.mono ?_
 rintro e w1 ⟨rfl,rfl⟩
 clear h2
 go_wp2
 go_ret
 exact⟨rfl,rfl⟩
theorem fput_there (h:MF W m t la L lv)(hl:L.length≤200)(htt:t≤1000)(k:Nat)(s:ByteArray)(hs:s.size≤300){now:Int}(ht:TickOk la now)(hn:Lh.isNm s=true)(hx:Lh.fix L k<L.length) :
  Calls Tryz.prog 72 #[.pointer (some ⟨m,0,none⟩),.int .u64 (k:Nat),.string s,.int .i64 now] W fun e w'=>e=.returned (.int .i64 0)∧∃lv',MF w' m t now (Lh.fput t L k s now) lv'∧Tur (FFoot m lv) W w'∧∀b,FFoot m lv' b→FFoot m lv b∨W.heap.size≤b:=by
 have h1:=ftick_ok h ht
 have h2:=refName_any s W (Nat.le_trans hs (by decide))
 rw[hn] at h2
 obtain⟨hM,hT⟩:=h.tick now
 have h3:=ffind_any hM (by omega) k
 have e1:ffi L k=(Lh.fix L k:Nat):=by unfold ffi;rw[if_pos hx]
 rw[e1] at h3
 have h4:=fdropAt_any hM (by omega) (Lh.fix L k) hx
 have HFP:Hid (Lh.fput t L k s now=Lh.flay (k,s,now+t) (L.eraseIdx (Lh.fix L k))):=by
  show Lh.fput t L k s now=_
  unfold Lh.fput Lh.frest
  rw[if_pos hx]
 have c1:=h.c1
 have f1:=h.fz 1
 have hle:(L.eraseIdx (Lh.fix L k)).length≤1000:=Nat.le_trans (List.eraseIdx_sublist _ _).length_le (by omega)
 have HT:Hid _:=hT
 obtain⟨ht1,ht2,_⟩:=ht
 clear h hM hT hn e1 hx
 generalize Lh.fix L k=q at *
 have d0:decide (0≤(q:Int))=true:=by simp
 go_enter Tryz.func72,Tryz.ntmps72
 go_wp2_with fail
 refine h1.mono ?_
 rintro e w1 ⟨rfl,rfl⟩
 clear h1
 go_wp2_with fail
 refine h2.mono ?_
 rintro e w1 ⟨rfl,rfl⟩
 clear h2
 go_wp2_with fail
 generalize w1.setCell ⟨m,1,none⟩ (.int .i64 now)=w2 at *
 refine h3.mono ?_
 rintro e w3 ⟨rfl,rfl⟩
 clear h3
 go_wp2_with fail
 refine h4.mono ?_
 rintro e w4 ⟨lv4,rfl,hM4,hT4,hF4⟩
 have c0:=hM4.c0
 have h5:=flay_any hM4 hle (k,s,now+t)
 have HT4:Hid _:=hT4
 have HF4:Hid _:=hF4
 clear h4 hM4 hT4 hF4
 go_wp2_with fail
 refine h5.mono ?_
 rintro e w5 ⟨lv5,rfl,hM5,hT5,hF5⟩
 have HM5:Hid _:=hM5
 have HT5:Hid _:=hT5
 have HF5:Hid _:=hF5
 clear h5 hM5 hT5 hF5
 go_wp2
 go_ret
 have hsz:w1.heap.size≤w3.heap.size:=HT.out.size
 have hG:∀b,FFoot m lv4 b→FFoot m lv b∨w1.heap.size≤b:=fun b hb=>by
  rcases HF4.out b hb with h|h
  ·exact Or.inl h
  ·exact Or.inr (Nat.le_trans hsz h)
 refine⟨rfl,lv5,by rw[HFP.out];exact HM5.out,(HT.out.trans HT4.out (fun b hb=>Or.inl hb)).trans HT5.out hG,fun b hb=>?_⟩
 rcases HF5.out b hb with h|h
 ·exact hG b h
 ·exact Or.inr (Nat.le_trans (Nat.le_trans hsz HT4.out.size) h)
end
def leastN (L:List Lh.Fl)(i:Nat):Nat:=(List.range i).foldl (fun b i=>if ((L.map fun x=>x.2.2).getD i 0)<((L.map fun x=>x.2.2).getD b 0) then i else b) 0
theorem leastN_succ (L:List Lh.Fl)(i:Nat):leastN L (i+1)=if ((L.map fun x=>x.2.2).getD i 0)<((L.map fun x=>x.2.2).getD (leastN L i) 0) then i else leastN L i:=by
 unfold leastN
 rw[List.range_succ,List.foldl_append]
 rfl
theorem leastN_one (L:List Lh.Fl):leastN L 1=0:=by
 rw[leastN_succ]
 have:leastN L 0=0:=rfl
 rw[this]
 simp
theorem leastN_lt (L:List Lh.Fl):∀i,0<i→i≤L.length→leastN L i<i
 | 0,h,_=>absurd h (by omega)
 | 1,_,_=>by rw[leastN_one];omega
 | i+2,_,h=>by
  rw[leastN_succ]
  have:=leastN_lt L (i+1) (by omega) (by omega)
  split<;>omega
theorem untilD {L:List Lh.Fl}{i:Nat}(h:i<L.length):(L.map fun x=>x.2.2).getD i 0=(L[i]).2.2:=by
 rw[List.getD_eq_getElem?_getD,List.getElem?_map,List.getElem?_eq_getElem h]
 rfl
section
variable {W:World} {m t:Nat} {la:Int} {L:List Lh.Fl} {lv:Value}
theorem fput_few (h:MF W m t la L lv)(hl:L.length<200)(htt:t≤1000)(k:Nat)(s:ByteArray)(hs:s.size≤300){now:Int}(ht:TickOk la now)(hn:Lh.isNm s=true)(hx:¬Lh.fix L k<L.length) :
  Calls Tryz.prog 72 #[.pointer (some ⟨m,0,none⟩),.int .u64 (k:Nat),.string s,.int .i64 now] W fun e w'=>e=.returned (.int .i64 0)∧∃lv',MF w' m t now (Lh.fput t L k s now) lv'∧Tur (FFoot m lv) W w'∧∀b,FFoot m lv' b→FFoot m lv b∨W.heap.size≤b:=by
 have h1:=ftick_ok h ht
 have h2:=refName_any s W (Nat.le_trans hs (by decide))
 rw[hn] at h2
 obtain⟨hM,hT⟩:=h.tick now
 have h3:=ffind_any hM (by omega) k
 have e1:ffi L k = -1:=by unfold ffi;rw[if_neg hx]
 rw[e1] at h3
 have h5:=flay_any hM (by omega) (k,s,now+t)
 have HFP:Hid (Lh.fput t L k s now=Lh.flay (k,s,now+t) L):=by
  show Lh.fput t L k s now=_
  unfold Lh.fput Lh.frest
  rw[if_neg hx,if_neg (by omega)]
 have c1:=h.c1
 have f1:=h.fz 1
 obtain⟨p,cap,rfl,_⟩:=h.row
 have c0:=hM.c0
 have c2:=hM.c2
 have HT:Hid _:=hT
 obtain⟨ht1,ht2,_⟩:=ht
 have d2:decide (200≤(L.length:Int))=false:=by simp;omega
 clear h hM hT hn e1 hx
 go_enter Tryz.func72,Tryz.ntmps72
 go_wp2_with fail
 refine h1.mono ?_
 rintro e w1 ⟨rfl,rfl⟩
 clear h1
 go_wp2_with fail
 refine h2.mono ?_
 rintro e w1 ⟨rfl,rfl⟩
 clear h2
 go_wp2_with fail
 generalize w1.setCell ⟨m,1,none⟩ (.int .i64 now)=w2 at *
 refine h3.mono ?_
 rintro e w3 ⟨rfl,rfl⟩
 clear h3
 go_wp2_with fail
 refine h5.mono ?_
 rintro e w5 ⟨lv5,rfl,hM5,hT5,hF5⟩
 have HM5:Hid _:=hM5
 have HT5:Hid _:=hT5
 have HF5:Hid _:=hF5
 clear h5 hM5 hT5 hF5
 go_wp2
 go_ret
 refine⟨rfl,lv5,by rw[HFP.out];exact HM5.out,HT.out.trans HT5.out (fun b hb=>Or.inl hb),fun b hb=>?_⟩
 rcases HF5.out b hb with h|h
 ·exact Or.inl h
 ·exact Or.inr (Nat.le_trans HT.out.size h)
theorem fput_full (h:MF W m t la L lv)(hl:L.length=200)(htt:t≤1000)(k:Nat)(s:ByteArray)(hs:s.size≤300){now:Int}(ht:TickOk la now)(hn:Lh.isNm s=true)(hx:¬Lh.fix L k<L.length) :
  Calls Tryz.prog 72 #[.pointer (some ⟨m,0,none⟩),.int .u64 (k:Nat),.string s,.int .i64 now] W fun e w'=>e=.returned (.int .i64 0)∧∃lv',MF w' m t now (Lh.fput t L k s now) lv'∧Tur (FFoot m lv) W w'∧∀b,FFoot m lv' b→FFoot m lv b∨W.heap.size≤b:=by
 have h1:=ftick_ok h ht
 have h2:=refName_any s W (Nat.le_trans hs (by decide))
 rw[hn] at h2
 obtain⟨hM,hT⟩:=h.tick now
 have h3:=ffind_any hM (by omega) k
 have e1:ffi L k = -1:=by unfold ffi;rw[if_neg hx]
 rw[e1] at h3
 have HFP:Hid (Lh.fput t L k s now=Lh.flay (k,s,now+t) (L.eraseIdx (leastN L L.length))):=by
  show Lh.fput t L k s now=_
  unfold Lh.fput Lh.frest
  rw[if_neg hx,if_pos (by omega)]
  rfl
 have c1:=h.c1
 have f1:=h.fz 1
 obtain⟨p,cap,rfl,_⟩:=h.row
 have HT:Hid _:=hT
 obtain⟨ht1,ht2,_⟩:=ht
 have d2:decide (200≤(L.length:Int))=true:=by simp;omega
 have HL:Hid (L.length=200):=hl
 have hle:L.length≤200:=by omega
 have HM2:Hid (MF (W.setCell ⟨m,1,none⟩ (.int .i64 now)) m t now L (.slice p L.length cap)):=hM
 have HRW:Hid (∀w',Below (W.setCell ⟨m,1,none⟩ (.int .i64 now)).heap.size (W.setCell ⟨m,1,none⟩ (.int .i64 now)) w'→∀i (hi:i<L.length),∃g,p=some ⟨g,0,none⟩∧w'.cell? ⟨g,i*3+2,none⟩=some (.int .i64 L[i].2.2)):=fun w' hb i hi=>by
  obtain⟨p',cap',e,hr⟩:=hM.row
  cases e
  obtain⟨g,e,_,_,q⟩:=hr i hi
  exact⟨g,e,below_cell hb q⟩
 have c2:=hM.c2
 clear h hM hT hn e1 hx hl
 go_enter Tryz.func72,Tryz.ntmps72
 go_wp2_with fail
 refine h1.mono ?_
 rintro e w1 ⟨rfl,rfl⟩
 clear h1
 go_wp2_with fail
 refine h2.mono ?_
 rintro e w1 ⟨rfl,rfl⟩
 clear h2
 go_wp2_with fail
 generalize w1.setCell ⟨m,1,none⟩ (.int .i64 now)=w2 at *
 refine h3.mono ?_
 rintro e w3 ⟨rfl,rfl⟩
 clear h3 f1 c1
 go_wp2_with fail
 go_loopw [12,13] (fun u v w'=>Below w3.heap.size w3 w'∧∃i:Nat,1≤i∧i≤L.length∧v=.int .i64 (i:Nat)∧u=.int .i64 (leastN L i:Nat)) (fun _ v _=>L.length - (intOf v).toNat)
 case atStart=>exact⟨Below.refl _ _,1,Nat.le_refl _,by rw[HL.out];omega,rfl,by rw[leastN_one];rfl⟩
 case round =>
  obtain⟨hb,i,hi1,hi,rfl,rfl⟩:=hrel
  have c2':=below_cell hb c2
  have hlo:=leastN_lt L i (by omega) hi
  have HSU:Hid _:=leastN_succ L i
  by_cases hlt:i<L.length
  ·have hll:leastN L i<L.length:=by omega
   obtain⟨g,rfl,ci⟩:=HRW.out wr hb i hlt
   obtain⟨g',e,cj⟩:=HRW.out wr hb _ hll
   cases e
   rw[untilD hlt,untilD hll] at HSU
   have hii:(i:Int)<(L.length:Int):=by omega
   have hji:((leastN L i:Nat):Int)<(L.length:Int):=by omega
   generalize (L[i]).2.2=y at *
   generalize (L[leastN L i]).2.2=z at *
   by_cases hyz:y<z
   ·have d:decide (y<z)=true:=decide_eq_true hyz
    have HS2:Hid (leastN L (i+1)=i):=by
     show leastN L (i+1)=i
     rw[HSU.out,if_pos hyz]
    clear HSU hlo
    generalize leastN L i=q at *
    clear hyz
    go_wp2_with fail
    go_quiet (fail)
    go_wp2
    exact⟨⟨below_drewN hb nq,i+1,by omega,by omega,by go_num,by rw[HS2.out]⟩,by simp[intOf];omega⟩
   ·have d:decide (y<z)=false:=decide_eq_false hyz
    have HS2:Hid (leastN L (i+1)=leastN L i):=by
     show leastN L (i+1)=leastN L i
     rw[HSU.out,if_neg hyz]
    clear HSU hlo
    generalize leastN L i=q at *
    clear hyz
    go_wp2_with fail
    go_quiet (fail)
    go_wp2
    exact⟨⟨below_drewN hb nq,i+1,by omega,by omega,by go_num,by rw[HS2.out]⟩,by simp[intOf];omega⟩
  ·have hie:i=L.length:=by omega
   have hii:decide ((i:Int)<(L.length:Int))=false:=by simp;omega
   subst hie
   have hM4:=HM2.out.later hb
   have h4:=fdropAt_any hM4 (by omega) (leastN L L.length) hlo
   have hle2:(L.eraseIdx (leastN L L.length)).length≤1000:=Nat.le_trans (List.eraseIdx_sublist _ _).length_le (by omega)
   clear hM4 HSU hlo hi hi1
   generalize leastN L L.length=q at *
   go_wp2_with fail
   refine h4.mono ?_
   rintro e w4 ⟨lv4,rfl,hM4,hT4,hF4⟩
   have c0:=hM4.c0
   have h5:=flay_any hM4 hle2 (k,s,now+t)
   have HT4:Hid _:=hT4
   have HF4:Hid _:=hF4
   have HBR:Hid (Below w3.heap.size w3 wr):=hb
   clear h4 hM4 hT4 hF4 hb c2 c2'
   go_wp2_with fail
   refine h5.mono ?_
   rintro e w5 ⟨lv5,rfl,hM5,hT5,hF5⟩
   have HM5:Hid _:=hM5
   have HT5:Hid _:=hT5
   have HF5:Hid _:=hF5
   clear h5 hM5 hT5 hF5
   go_wp2
   go_ret
   have hsz:w1.heap.size≤wr.heap.size:=Nat.le_trans HT.out.size HBR.out.size
   have hG:∀b,FFoot m lv4 b→FFoot m (.slice p L.length cap) b∨w1.heap.size≤b:=fun b hb=>by
    rcases HF4.out b hb with h|h
    ·exact Or.inl h
    ·exact Or.inr (Nat.le_trans hsz h)
   refine⟨rfl,lv5,by rw[HFP.out];exact HM5.out,((below_tur HT.out HBR.out).trans HT4.out (fun b hb=>Or.inl hb)).trans HT5.out hG,fun b hb=>?_⟩
   rcases HF5.out b hb with h|h
   ·exact hG b h
   ·exact Or.inr (Nat.le_trans (Nat.le_trans hsz HT4.out.size) h)
theorem fputM_any (h:MF W m t la L lv)(hk:Lh.FlOk L)(htt:t≤1000)(k:Nat)(s:ByteArray)(hs:s.size≤300)(now:Int) :
    Calls Tryz.prog 72 #[.pointer (some ⟨m,0,none⟩),.int .u64 (k:Nat),.string s,.int .i64 now] W fun e w'=>∃lv',Tur (FFoot m lv) W w'∧(∀b,FFoot m lv' b→FFoot m lv b∨W.heap.size≤b) ∧
      ((TickOk la now∧Lh.isNm s=true∧e=.returned (.int .i64 0)∧MF w' m t now (Lh.fput t L k s now) lv') ∨
       (∃j,(TickF la now j∨(TickOk la now∧Lh.isNm s=false∧j=3))∧e=.returned (.int .i64 ((j+1:Nat):Int))∧MF w' m t la L lv')):=by
  rcases tick_ex la now with ht|⟨j,ht⟩
  · cases hn:Lh.isNm s with
    | false =>
      refine (fput_name h k s hs ht hn).mono ?_
      rintro e w' ⟨rfl,rfl⟩
      exact⟨lv,Tur.of_below (Below.refl _ _),fun b hb=>Or.inl hb,Or.inr ⟨3,Or.inr ⟨ht,rfl,rfl⟩,rfl,h⟩⟩
    | true =>
      have hl:=hk.len
      by_cases hx:Lh.fix L k<L.length
      · refine (fput_there h hl htt k s hs ht hn hx).mono ?_
        rintro e w' ⟨rfl,lv',h1,h2,h3⟩
        exact⟨lv',h2,h3,Or.inl ⟨ht,rfl,rfl,h1⟩⟩
      · by_cases hf:L.length<200
        · refine (fput_few h hf htt k s hs ht hn hx).mono ?_
          rintro e w' ⟨rfl,lv',h1,h2,h3⟩
          exact⟨lv',h2,h3,Or.inl ⟨ht,rfl,rfl,h1⟩⟩
        · refine (fput_full h (by omega) htt k s hs ht hn hx).mono ?_
          rintro e w' ⟨rfl,lv',h1,h2,h3⟩
          exact⟨lv',h2,h3,Or.inl ⟨ht,rfl,rfl,h1⟩⟩
  · refine (fput_tick h k s ht).mono ?_
    rintro e w' ⟨rfl,rfl⟩
    exact⟨lv,Tur.of_below (Below.refl _ _),fun b hb=>Or.inl hb,Or.inr ⟨j,Or.inl ht,rfl,h⟩⟩
end
def swp (keep:Lh.Fl→Bool)(L:List Lh.Fl)(j:Nat):List Lh.Fl:=L.take j++(L.drop j).filter keep
theorem swp_all (keep:Lh.Fl→Bool)(L:List Lh.Fl):swp keep L L.length=L:=by simp[swp]
theorem swp_zero (keep:Lh.Fl→Bool)(L:List Lh.Fl):swp keep L 0=L.filter keep:=by simp[swp]
theorem swp_lt (keep:Lh.Fl→Bool)(L:List Lh.Fl){j:Nat}(h:j<L.length):j<(swp keep L (j+1)).length:=by
 unfold swp
 rw[List.length_append,List.length_take]
 omega
theorem swp_get (keep:Lh.Fl→Bool)(L:List Lh.Fl){j:Nat}(h:j<L.length)(h2:j<(swp keep L (j+1)).length):(swp keep L (j+1))[j]=L[j]:=by
 have h1:(swp keep L (j+1))[j]?=some L[j]:=by
  unfold swp
  rw[List.getElem?_append_left (by rw[List.length_take];omega),List.getElem?_take_of_lt (by omega),List.getElem?_eq_getElem h]
 rw[List.getElem?_eq_getElem h2] at h1
 exact Option.some.inj h1
theorem swp_keep {keep:Lh.Fl→Bool}{L:List Lh.Fl}{j:Nat}(h:j<L.length)(hk:keep L[j]=true):swp keep L (j+1)=swp keep L j:=by
 unfold swp
 rw[List.take_succ_eq_append_getElem h,List.drop_eq_getElem_cons h,List.filter_cons_of_pos hk,List.append_assoc]
 rfl
theorem swp_gone {keep:Lh.Fl→Bool}{L:List Lh.Fl}{j:Nat}(h:j<L.length)(hk:keep L[j]=false):(swp keep L (j+1)).eraseIdx j=swp keep L j:=by
 unfold swp
 rw[List.take_succ_eq_append_getElem h,List.drop_eq_getElem_cons (i:=j) h,List.filter_cons_of_neg (by simp[hk]),List.append_assoc,List.eraseIdx_append_of_length_le (by rw[List.length_take];omega)]
 rw[List.length_take,show j - min j L.length=0 by omega]
 rfl
theorem swp_le (keep:Lh.Fl→Bool)(L:List Lh.Fl)(j:Nat):(swp keep L j).length≤L.length:=by
 unfold swp
 have h1:=List.length_filter_le keep (L.drop j)
 rw[List.length_append,List.length_take]
 rw[List.length_drop] at h1
 omega
section
variable {W:World} {m t:Nat} {la:Int} {L:List Lh.Fl} {lv:Value}
theorem fget_tick (h:MF W m t la L lv)(k:Nat){now:Int}{j:Nat}(ht:TickF la now j) :
  Calls Tryz.prog 70 #[.pointer (some ⟨m,0,none⟩),.int .u64 (k:Nat),.int .i64 now] W fun e w'=>e=.returned (.tuple #[.string ByteArray.empty,.bool false,.int .i64 ((j+1:Nat):Int)])∧w'=W:=by
 have h1:=ftick_bad h ht
 have hj:=ht.num
 clear h ht
 rcases hj with rfl|rfl
 all_goals
  go_enter Tryz.func70,Tryz.ntmps70
  go_wp2_with fail
  refine h1.mono ?_
  rintro e w1 ⟨rfl,rfl⟩
  clear h1
  go_wp2
  go_ret3
  exact⟨rfl,rfl⟩
theorem fget_none (h:MF W m t la L lv)(hl:L.length≤200)(k:Nat){now:Int}(ht:TickOk la now)(hx:¬Lh.fix L k<L.length) :
  Calls Tryz.prog 70 #[.pointer (some ⟨m,0,none⟩),.int .u64 (k:Nat),.int .i64 now] W fun e w'=>e=.returned (.tuple #[.string ByteArray.empty,.bool false,.int .i64 0])∧MF w' m t now L lv∧Tur (FFoot m lv) W w':=by
 have h1:=ftick_ok h ht
 obtain⟨hM,hT⟩:=h.tick now
 have h3:=ffind_any hM (by omega) k
 have e1:ffi L k = -1:=by unfold ffi;rw[if_neg hx]
 rw[e1] at h3
 have c1:=h.c1
 have f1:=h.fz 1
 have HT:Hid _:=hT
 have HM:Hid _:=hM
 clear h hM hT e1 hx ht
 go_enter Tryz.func70,Tryz.ntmps70
 go_wp2_with fail
 refine h1.mono ?_
 rintro e w1 ⟨rfl,rfl⟩
 clear h1
 go_wp2_with fail
 generalize w1.setCell ⟨m,1,none⟩ (.int .i64 now)=w2 at *
 refine h3.mono ?_
 rintro e w3 ⟨rfl,rfl⟩
 clear h3
 go_wp2
 go_ret3
 exact⟨rfl,HM.out,HT.out⟩
theorem fget_there (h:MF W m t la L lv)(hl:L.length≤200)(k:Nat){now:Int}(ht:TickOk la now)(hx:Lh.fix L k<L.length) :
  Calls Tryz.prog 70 #[.pointer (some ⟨m,0,none⟩),.int .u64 (k:Nat),.int .i64 now] W fun e w'=>((now<(L[Lh.fix L k]).2.2∧e=.returned (.tuple #[.string (L[Lh.fix L k]).2.1,.bool true,.int .i64 0]))∨((L[Lh.fix L k]).2.2≤now∧e=.returned (.tuple #[.string ByteArray.empty,.bool false,.int .i64 0])))∧MF w' m t now L lv∧Tur (FFoot m lv) W w':=by
 have h1:=ftick_ok h ht
 obtain⟨hM,hT⟩:=h.tick now
 have h3:=ffind_any hM (by omega) k
 have e1:ffi L k=(Lh.fix L k:Nat):=by unfold ffi;rw[if_pos hx]
 rw[e1] at h3
 have c1:=h.c1
 have f1:=h.fz 1
 obtain⟨p,cap,rfl,hr⟩:=hM.row
 obtain⟨g,rfl,_,ch,cu⟩:=hr _ hx
 have c2:=hM.c2
 have HT:Hid _:=hT
 have HM:Hid _:=hM
 have hqi:((Lh.fix L k:Nat):Int)<(L.length:Int):=by omega
 clear h hM hT e1 ht hr
 generalize (L[Lh.fix L k]).2.2=y at *
 generalize (L[Lh.fix L k]).2.1=z at *
 generalize Lh.fix L k=q at *
 have d0:decide ((q:Int)<0)=false:=by simp
 by_cases hy:y≤now
 ·have d:decide (y≤now)=true:=decide_eq_true hy
  have HY:Hid (y≤now):=hy
  clear hy
  go_enter Tryz.func70,Tryz.ntmps70
  go_wp2_with fail
  refine h1.mono ?_
  rintro e w1 ⟨rfl,rfl⟩
  clear h1
  go_wp2_with fail
  generalize w1.setCell ⟨m,1,none⟩ (.int .i64 now)=w2 at *
  refine h3.mono ?_
  rintro e w3 ⟨rfl,rfl⟩
  clear h3
  go_wp2
  go_ret3
  exact⟨Or.inr ⟨HY.out,rfl⟩,HM.out,HT.out⟩
 ·have d:decide (y≤now)=false:=decide_eq_false hy
  have HY:Hid (now<y):=by show now<y;omega
  clear hy
  go_enter Tryz.func70,Tryz.ntmps70
  go_wp2_with fail
  refine h1.mono ?_
  rintro e w1 ⟨rfl,rfl⟩
  clear h1
  go_wp2_with fail
  generalize w1.setCell ⟨m,1,none⟩ (.int .i64 now)=w2 at *
  refine h3.mono ?_
  rintro e w3 ⟨rfl,rfl⟩
  clear h3
  go_wp2
  go_ret3
  exact⟨Or.inl ⟨HY.out,rfl⟩,HM.out,HT.out⟩
theorem fdropM_any {w1:World}(h:MF w1 m t la L lv)(hl:L.length≤200)(s:ByteArray) :
  Calls Tryz.prog 77 #[.pointer (some ⟨m,0,none⟩),.string s] w1 fun e w'=>e=.returned (.int .i64 ((L.length - (Lh.fdrop L s).length:Nat):Int))∧∃lv',MF w' m t la (Lh.fdrop L s) lv'∧Tur (FFoot m lv) w1 w'∧∀b,FFoot m lv' b→FFoot m lv b∨w1.heap.size≤b:=by
 obtain⟨p,cap,rfl,hr⟩:=h.row
 have c2:=h.c2
 have HM:Hid _:=h
 clear h hr
 go_enter Tryz.func77,Tryz.ntmps77
 go_wp2_with fail
 have HFE:Hid (Lh.fdrop L s=swp (fun x=>!decide (x.2.1=s)) L 0):=(swp_zero _ _).symm
 have hsw:=swp_all (fun x=>!decide (x.2.1=s)) L
 obtain⟨keep,hkp⟩:∃keep:Lh.Fl→Bool,keep=(fun x=>!decide (x.2.1=s)):=⟨_,rfl⟩
 rw[←hkp] at hsw HFE
 have HKP:Hid (keep=(fun x=>!decide (x.2.1=s))):=hkp
 clear hkp
 have HM0:Hid (MF w1 m t la (swp keep L L.length) (.slice p L.length cap)):=by rw[hsw];exact HM.out
 have HN0:Hid (L.length - (swp keep L L.length).length=0):=by show _ - _=0;rw[hsw];omega
 clear HM c2 hsw
 go_loopw [5,6] (fun u v w'=>∃(j:Nat) (i:Int),j≤L.length∧i+1=(j:Int)∧v=.int .i64 i∧u=.int .i64 ((L.length - (swp keep L j).length:Nat):Int)∧∃lv',MF w' m t la (swp keep L j) lv'∧Tur (FFoot m (.slice p L.length cap)) w1 w'∧∀b,FFoot m lv' b→FFoot m (.slice p L.length cap) b∨w1.heap.size≤b) (fun _ v _=>(intOf v+1).toNat)
 case atStart=>exact⟨L.length,(L.length:Int) - 1,Nat.le_refl _,by omega,rfl,by rw[HN0.out];rfl,_,HM0.out,Tur.of_below (Below.refl _ _),fun b hb=>Or.inl hb⟩
 case round =>
  obtain⟨j,i,hj,hij,rfl,rfl,lv',hM,hT,hF⟩:=hrel
  have HM1:Hid (MF wr m t la (swp keep L j) lv'):=hM
  have HT1:Hid (Tur (FFoot m (.slice p L.length cap)) w1 wr):=hT
  have HF1:Hid (∀b,FFoot m lv' b→FFoot m (.slice p L.length cap) b∨w1.heap.size≤b):=hF
  have hsl:=swp_le keep L j
  clear hT hF
  match j,hj,hij,HM1,hM,hsl with
  | 0,hj,hij,HM1,hM,hsl =>
   obtain rfl:i = -1:=by omega
   clear hM hij
   have HN:Hid (swp keep L 0=Lh.fdrop L s):=HFE.out.symm
   generalize swp keep L 0=M at *
   go_wp2
   go_ret
   refine⟨by rw[←HN.out];rfl,lv',by rw[←HN.out];exact HM1.out,HT1.out,HF1.out⟩
  | j+1,hj,hij,HM1,hM,hsl =>
   obtain rfl:i=(j:Int):=by omega
   have hlt:j<L.length:=by omega
   have hml:=swp_lt keep L hlt
   have hget:=swp_get keep L hlt hml
   obtain⟨p1,cap1,hlv,hr⟩:=hM.row
   subst hlv
   obtain⟨g,rfl,_,cu,_⟩:=hr j hml
   have c2:=hM.c2
   rw[hget] at cu
   have hji:(j:Int)<((swp keep L (j+1)).length:Int):=by omega
   have d0:decide (0≤(j:Int))=true:=by simp
   have hdr:=fdropAt_any hM (by omega) j hml
   have HG:Hid (keep L[j]=false→(swp keep L (j+1)).eraseIdx j=swp keep L j):=fun h=>swp_gone hlt h
   have HKE:Hid (keep L[j]=true→swp keep L (j+1)=swp keep L j):=fun h=>swp_keep hlt h
   have HKV:Hid (keep L[j]=!decide ((L[j]).2.1=s)):=by show keep L[j]=_;rw[HKP.out]
   clear hM hget hr hij
   generalize (L[j]).2.1=y at *
   by_cases hy:y=s
   ·have d:(y.toList==s.toList)=true:=bytes_same hy
    have e1:(swp keep L (j+1)).eraseIdx j=swp keep L j:=HG.out (by rw[HKV.out];simp[hy])
    have HEL:Hid ((swp keep L (j+1)).length=(swp keep L j).length+1):=by
     show _=_
     rw[←e1,List.length_eraseIdx_of_lt hml]
     omega
    rw[e1] at hdr
    have HLE:Hid ((swp keep L (j+1)).length≤L.length):=hsl
    clear e1 hsl HG HKE HKV hy
    go_wp2_with fail
    refine hdr.mono ?_
    rintro e w4 ⟨lv4,rfl,hM4,hT4,hF4⟩
    have HM4:Hid _:=hM4
    have HT4:Hid _:=hT4
    have HF4:Hid _:=hF4
    clear hdr hM4 hT4 hF4 cu c2
    go_wp2
    refine⟨⟨j,(j:Int) - 1,by omega,by omega,by go_num,?_,lv4,HM4.out,HT1.out.trans HT4.out HF1.out,fun b hb=>?_⟩,by first|(simp[intOf];done)|(simp[intOf];omega)⟩
    ·have h1:=HEL.out
     have h2:=HLE.out
     congr 1
     omega
    ·rcases HF4.out b hb with h|h
     ·exact HF1.out b h
     ·exact Or.inr (Nat.le_trans HT1.out.size h)
   ·have d:(y.toList==s.toList)=false:=bytes_parts hy
    have e1:swp keep L (j+1)=swp keep L j:=HKE.out (by rw[HKV.out];simp[hy])
    have HE:Hid (swp keep L (j+1)=swp keep L j):=e1
    clear e1 HG HKE HKV hdr hy
    go_wp2
    refine⟨⟨j,(j:Int) - 1,by omega,by omega,by go_num,by rw[HE.out],_,by rw[←HE.out];exact HM1.out,HT1.out,HF1.out⟩,by first|(simp[intOf];done)|(simp[intOf];omega)⟩
end
structure MB (W:World)(m hm fm:Nat)(L:List Mh)(lv fv dv:Value)(B:Nat)(S:Lh.Bl):Prop where
 c0:W.cell? ⟨m,0,none⟩=some (.pointer (some ⟨hm,0,none⟩))
 c1:W.cell? ⟨m,1,none⟩=some (.pointer (some ⟨fm,0,none⟩))
 c2:W.cell? ⟨m,2,none⟩=some (.int .i64 (S.size:Nat))
 c3:W.cell? ⟨m,3,none⟩=some dv
 c4:W.cell? ⟨m,4,none⟩=some (.int .i64 S.ep)
 fz:∀k,W.frozen? ⟨m,k,none⟩=false
 h:MH W hm S.f S.r L lv
 hs:hst L=S.hs
 lk:∀x∈L,x.looks.length≤B
 f:MF W fm S.t S.la S.L fv
 d:W.ownsRow 0 9 1 dv S.dr.length (S.dr.map Value.string)
 dn:S.dr.Nodup
 dh:∀s∈S.dr,Lh.hix S.hs s<S.hs.length
 mh:¬MFoot hm L lv m
 mf:¬FFoot fm fv m
 md:dv.ownBlock≠some m
 hf:∀b,MFoot hm L lv b→¬FFoot fm fv b
 hd:∀b,dv.ownBlock=some b→¬MFoot hm L lv b
 fd:∀b,dv.ownBlock=some b→¬FFoot fm fv b
def MBt (m hm fm:Nat)(L:List Mh)(lv fv dv:Value)(b:Nat):Prop:=b=m∨MFoot hm L lv b∨FFoot fm fv b∨dv.ownBlock=some b
section
variable {W W':World} {m hm fm:Nat} {L:List Mh} {lv fv dv:Value} {B:Nat} {S:Lh.Bl}
theorem MB.mlt (h:MB W m hm fm L lv fv dv B S):m<W.heap.size:=World.block_lt_of_cell? W ⟨m,0,none⟩ h.c0
theorem MB.lt (h:MB W m hm fm L lv fv dv B S):∀b,MBt m hm fm L lv fv dv b→b<W.heap.size:=by
 rintro b (rfl|hb|hb|hb)
 ·exact h.mlt
 ·exact (h.h.lt b hb).1
 ·exact (h.f.lt b hb).1
 ·exact (h.d.lt b hb).2
theorem MB.cells (h:MB W m hm fm L lv fv dv B S)(e:W'.heap[m]?=W.heap[m]?):W'.cell? ⟨m,0,none⟩=some (.pointer (some ⟨hm,0,none⟩))∧W'.cell? ⟨m,1,none⟩=some (.pointer (some ⟨fm,0,none⟩))∧W'.cell? ⟨m,2,none⟩=some (.int .i64 (S.size:Nat))∧W'.cell? ⟨m,3,none⟩=some dv∧W'.cell? ⟨m,4,none⟩=some (.int .i64 S.ep)∧∀k,W'.frozen? ⟨m,k,none⟩=false :=
 ⟨(World.cell?_of_block (w:=W) (w':=W') (a:=⟨m,0,none⟩) e).trans h.c0,(World.cell?_of_block (w:=W) (w':=W') (a:=⟨m,1,none⟩) e).trans h.c1,(World.cell?_of_block (w:=W) (w':=W') (a:=⟨m,2,none⟩) e).trans h.c2,(World.cell?_of_block (w:=W) (w':=W') (a:=⟨m,3,none⟩) e).trans h.c3,(World.cell?_of_block (w:=W) (w':=W') (a:=⟨m,4,none⟩) e).trans h.c4,fun k=>(World.frozen?_of_block (w:=W) (w':=W') (a:=⟨m,k,none⟩) e).trans (h.fz k)⟩
theorem MB.stay (h:MB W m hm fm L lv fv dv B S)(hs:∀b,MBt m hm fm L lv fv dv b→W'.heap[b]?=W.heap[b]?):MB W' m hm fm L lv fv dv B S:=by
 obtain⟨a0,a1,a2,a3,a4,a5⟩:=h.cells (hs m (Or.inl rfl))
 exact⟨a0,a1,a2,a3,a4,a5,h.h.stay fun b hb=>hs b (Or.inr (Or.inl hb)),h.hs,h.lk,h.f.stay fun b hb=>hs b (Or.inr (Or.inr (Or.inl hb))),owns_same h.d fun g e=>hs g (Or.inr (Or.inr (Or.inr e))),h.dn,h.dh,h.mh,h.mf,h.md,h.hf,h.hd,h.fd⟩
theorem MB.later (h:MB W m hm fm L lv fv dv B S)(hb:Below W.heap.size W W'):MB W' m hm fm L lv fv dv B S:=h.stay fun b hf=>hb.block b (h.lt b hf)
theorem MB.more (h:MB W m hm fm L lv fv dv B S){B':Nat}(hB:B≤B'):MB W m hm fm L lv fv dv B' S:=⟨h.c0,h.c1,h.c2,h.c3,h.c4,h.fz,h.h,h.hs,fun x hx=>Nat.le_trans (h.lk x hx) hB,h.f,h.d,h.dn,h.dh,h.mh,h.mf,h.md,h.hf,h.hd,h.fd⟩
theorem MB.drLen (h:MB W m hm fm L lv fv dv B S)(hl:S.hs.length≤12):S.dr.length≤12:=by
 refine Nat.le_trans (nodup_le (m:=S.hs.map fun x=>x.1) h.dn fun x hx=>?_) (by rw[List.length_map];exact hl)
 obtain⟨y,hy,rfl⟩:=Lh.hix_lt.1 (h.dh x hx)
 exact List.mem_map_of_mem hy
theorem MB.flows (h:MB W m hm fm L lv fv dv B S)(hT:Tur (FFoot fm fv) W W'){la:Int}{M:List Lh.Fl}{fv':Value}(hF:MF W' fm S.t la M fv')(hN:∀b,FFoot fm fv' b→FFoot fm fv b∨W.heap.size≤b):MB W' m hm fm L lv fv' dv B { S with la:=la,L:=M }∧Tur (MBt m hm fm L lv fv dv) W W'∧∀b,MBt m hm fm L lv fv' dv b→MBt m hm fm L lv fv dv b∨W.heap.size≤b:=by
 obtain⟨a0,a1,a2,a3,a4,a5⟩:=h.cells (hT.block m h.mlt h.mf)
 refine⟨⟨a0,a1,a2,a3,a4,a5,h.h.stay fun b hb=>hT.block b (h.h.lt b hb).1 (h.hf b hb),h.hs,h.lk,hF,owns_same h.d fun g e=>hT.block g (h.d.lt g e).2 (h.fd g e),h.dn,h.dh,h.mh,fun hq=>?_,h.md,fun b hb hq=>?_,h.hd,fun b hb hq=>?_⟩,⟨hT.os,hT.tape,hT.output,hT.size,fun b hb hq=>hT.block b hb fun hf=>hq (Or.inr (Or.inr (Or.inl hf)))⟩,?_⟩
 ·rcases hN m hq with h1|h1
  ·exact h.mf h1
  ·have:=h.mlt;omega
 ·rcases hN b hq with h1|h1
  ·exact h.hf b hb h1
  ·have:=(h.h.lt b hb).1;omega
 ·rcases hN b hq with h1|h1
  ·exact h.fd b hb h1
  ·have:=(h.d.lt b hb).2;omega
 ·rintro b (rfl|hb|hb|hb)
  ·exact Or.inl (Or.inl rfl)
  ·exact Or.inl (Or.inr (Or.inl hb))
  ·rcases hN b hb with h1|h1
   ·exact Or.inl (Or.inr (Or.inr (Or.inl h1)))
   ·exact Or.inr h1
  ·exact Or.inl (Or.inr (Or.inr (Or.inr hb)))
theorem MB.health (h:MB W m hm fm L lv fv dv B S)(hT:Tur (MFoot hm L lv) W W'){L':List Mh}{lv':Value}{l:List Lh.Hh}{B':Nat}(hH:MH W' hm S.f S.r L' lv')(hl:hst L'=l)(hk:∀x∈L',x.looks.length≤B')(hd:∀s∈S.dr,Lh.hix l s<l.length)(hN:∀b,MFoot hm L' lv' b→MFoot hm L lv b∨W.heap.size≤b):MB W' m hm fm L' lv' fv dv B' { S with hs:=l }∧Tur (MBt m hm fm L lv fv dv) W W'∧∀b,MBt m hm fm L' lv' fv dv b→MBt m hm fm L lv fv dv b∨W.heap.size≤b:=by
 obtain⟨a0,a1,a2,a3,a4,a5⟩:=h.cells (hT.block m h.mlt h.mh)
 refine⟨⟨a0,a1,a2,a3,a4,a5,hH,hl,hk,h.f.stay fun b hb=>hT.block b (h.f.lt b hb).1 fun hg=>h.hf b hg hb,owns_same h.d fun g e=>hT.block g (h.d.lt g e).2 (h.hd g e),h.dn,hd,fun hq=>?_,h.mf,h.md,fun b hb hq=>?_,fun b hb hq=>?_,h.fd⟩,⟨hT.os,hT.tape,hT.output,hT.size,fun b hb hq=>hT.block b hb fun hf=>hq (Or.inr (Or.inl hf))⟩,?_⟩
 ·rcases hN m hq with h1|h1
  ·exact h.mh h1
  ·have:=h.mlt;omega
 ·rcases hN b hb with h1|h1
  ·exact h.hf b h1 hq
  ·have:=(h.f.lt b hq).1;omega
 ·rcases hN b hq with h1|h1
  ·exact h.hd b hb h1
  ·have:=(h.d.lt b hb).2;omega
 ·rintro b (rfl|hb|hb|hb)
  ·exact Or.inl (Or.inl rfl)
  ·rcases hN b hb with h1|h1
   ·exact Or.inl (Or.inr (Or.inl h1))
   ·exact Or.inr h1
  ·exact Or.inl (Or.inr (Or.inr (Or.inl hb)))
  ·exact Or.inl (Or.inr (Or.inr (Or.inr hb)))
theorem MB.other (h:MB W m hm fm L lv fv dv B S)(k:Nat)(v:Value):MH (W.setCell ⟨m,k,none⟩ v) hm S.f S.r L lv∧MF (W.setCell ⟨m,k,none⟩ v) fm S.t S.la S.L fv∧(W.setCell ⟨m,k,none⟩ v).ownsRow 0 9 1 dv S.dr.length (S.dr.map Value.string):=by
 have ho:∀b,b≠m→(W.setCell ⟨m,k,none⟩ v).heap[b]?=W.heap[b]?:=fun b hb=>Below.heap_setCell _ _ _ b hb
 exact⟨h.h.stay fun b hb=>ho b fun e=>h.mh (e ▸ hb),h.f.stay fun b hb=>ho b fun e=>h.mf (e ▸ hb),owns_same h.d fun g e=>ho g fun e1=>h.md (e1 ▸ e)⟩
theorem MB.epoch (h:MB W m hm fm L lv fv dv B S)(e:Int):MB (W.setCell ⟨m,4,none⟩ (.int .i64 e)) m hm fm L lv fv dv B { S with ep:=e }∧Tur (MBt m hm fm L lv fv dv) W (W.setCell ⟨m,4,none⟩ (.int .i64 e)):=by
 obtain⟨h1,h2,h3⟩:=h.other 4 (.int .i64 e)
 refine⟨⟨?_,?_,?_,?_,World.cell?_setCell_same' _ _ _ (by rw[h.c4];rfl),fun k=>by rw[World.frozen?_setCell];exact h.fz k,h1,h.hs,h.lk,h2,h3,h.dn,h.dh,h.mh,h.mf,h.md,h.hf,h.hd,h.fd⟩,⟨rfl,rfl,rfl,by simp,fun b _ hq=>Below.heap_setCell _ _ _ b fun e=>hq (Or.inl e)⟩⟩
 ·rw[World.cell?_setCell_other _ _ _ _ (by simp)];exact h.c0
 ·rw[World.cell?_setCell_other _ _ _ _ (by simp)];exact h.c1
 ·rw[World.cell?_setCell_other _ _ _ _ (by simp)];exact h.c2
 ·rw[World.cell?_setCell_other _ _ _ _ (by simp)];exact h.c3
theorem MB.drained (h:MB W m hm fm L lv fv dv B S){v:Value}{dr:List ByteArray}(hd:W.ownsRow 0 9 1 v dr.length (dr.map Value.string))(hn:dr.Nodup)(hh:∀s∈dr,Lh.hix S.hs s<S.hs.length)(hv:∀b,v.ownBlock=some b→¬MBt m hm fm L lv fv dv b):MB (W.setCell ⟨m,3,none⟩ v) m hm fm L lv fv v B { S with dr:=dr }∧Tur (MBt m hm fm L lv fv dv) W (W.setCell ⟨m,3,none⟩ v):=by
 obtain⟨h1,h2,h3⟩:=h.other 3 v
 have ho:∀b,b≠m→(W.setCell ⟨m,3,none⟩ v).heap[b]?=W.heap[b]?:=fun b hb=>Below.heap_setCell _ _ _ b hb
 refine⟨⟨?_,?_,?_,World.cell?_setCell_same' _ _ _ (by rw[h.c3];rfl),?_,fun k=>by rw[World.frozen?_setCell];exact h.fz k,h1,h.hs,h.lk,h2,owns_same hd fun g e=>ho g fun e1=>hv g e (Or.inl e1),hn,hh,h.mh,h.mf,fun e=>hv m e (Or.inl rfl),h.hf,fun b e hq=>hv b e (Or.inr (Or.inl hq)),fun b e hq=>hv b e (Or.inr (Or.inr (Or.inl hq)))⟩,⟨rfl,rfl,rfl,by simp,fun b _ hq=>Below.heap_setCell _ _ _ b fun e=>hq (Or.inl e)⟩⟩
 ·rw[World.cell?_setCell_other _ _ _ _ (by simp)];exact h.c0
 ·rw[World.cell?_setCell_other _ _ _ _ (by simp)];exact h.c1
 ·rw[World.cell?_setCell_other _ _ _ _ (by simp)];exact h.c2
 ·rw[World.cell?_setCell_other _ _ _ _ (by simp)];exact h.c4
end
end Go.Proofs.YtfhmfjcpggddkaaGreatDoor
