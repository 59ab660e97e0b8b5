/- The landed script: the command that a word stands for. -/
import Derived.Test.YtfhmfjcpggddkaaGreatDoorM28
import Derived.Test.YtfhmfjcpggddkaaGreatDoorM43
import Derived.Test.YtfhmfjcpggddkaaGreatDoorM45
import Derived.Laws.EntriesVeiled
set_option maxHeartbeats 20000000
set_option maxRecDepth 100000
namespace Go.Proofs.YtfhmfjcpggddkaaGreatDoor
open Go.RowKit Lh
theorem plIs_some {st:Option Sc}{F:Nat→Prop}{p:Nat}{W:World}(h:PlIs st F p W)(hs:st≠none):∃S r g cap,st=some S∧PlY S F p r g cap W:=by
 rcases h with⟨h1,_⟩|h
 ·exact absurd h1 hs
 ·exact h
def CloR (w:List UInt8)(q:Nat)(f:Nat)(caps:Array Value)(early:Bool):Prop :=
 ∀(w0 W:World) (a:Nat→Addr) (p m:Nat) (F:Nat→Prop) (st:Option Sc) (j B:Nat) (N:List Nat) (H:List ByteArray) (vn vh:Value) (hh:Int) (n:Nat),
  PlC w0 a p q m F W→PlIs st F p W→StB st j→j≤100→(early=false→st≠none)→CmOk ⟨w,H,N⟩ hh n→H.length<1000000 →
  W.ownsRow B 3 1 vn N.length (N.map fun n=>.int .i64 (n:Nat))→W.ownsRow B 9 1 vh H.length (H.map Value.string)→(∀b,F b→b<B)→p+3<B →
  Calls Tryz.prog f (#[.agg #[vn,vh]]++caps) W (CmdE w0 a p q m F st ⟨w,H,N⟩ W)
theorem clo_hosts (q:Nat):CloR wHosts q 31 #[.pointer (some ⟨q,0,none⟩)] true:=by
 intro w0 W a p m F st j B N H vn vh hh n hP hI hB hj hst hc hl hn hv hFB hpB
 have hform:some (hh,n)=some (-1,0):=hc.form.symm.trans (show formW wHosts=some (-1,0) by decide)
 injection hform with hform
 injection hform with hh0 hn0
 subst hh0 hn0
 obtain rfl:=List.length_eq_zero_iff.1 (show N.length=0 from hc.num)
 have hne:H≠[]:=hc.any (by decide)
 obtain⟨hb,ch,rfl,hhb,hcl,hhc⟩:=hosts_at hv (List.length_pos_iff.2 hne)
 have hsz:∀s∈H,s.size≤300:=fun s hs=>by have:=(nm_word (hc.nm s hs)).2.2.2;omega
 have hvn:∃x n c,vn=.slice x n c:=by obtain⟨x,c,rfl⟩:=own_shape hn;exact⟨x,_,c,rfl⟩
 have hne2:∀S,st=some S→S.hosts≠[]:=fun S hS=>(hB S hS).ok.ne
 exact cl_hosts w0 a p q m F st H vn hb ch W hP hI hne2 hvn hhc hcl (List.length_pos_iff.2 hne) hl hsz (by omega)
theorem clo_table (q:Nat):CloR wTable q 33 #[.pointer (some ⟨q,0,none⟩)] false:=by
 intro w0 W a p m F st j B N H vn vh hh n hP hI hB hj hst hc hl hn hv hFB hpB
 have hform:some (hh,n)=some (0,1):=hc.form.symm.trans (show formW wTable=some (0,1) by decide)
 injection hform with hform
 injection hform with hh0 hn0
 subst hh0 hn0
 obtain⟨S,r,g,cap,rfl,hY⟩:=plIs_some hI (hst rfl)
 have hS:=hB S rfl
 obtain⟨k,rfl⟩:=List.length_eq_one_iff.1 (show N.length=1 from hc.num)
 obtain⟨nb,cn,rfl,hnb,_,hnc⟩:=nums_at hn (by simp)
 have hk:=hnc 0 (by simp)
 have hk9:=hc.hi k (by simp)
 have hnF:¬F nb:=fun h=>by have:=hFB nb h;omega
 obtain rfl:H=[]:=List.length_eq_zero_iff.1 (by have h1:((H.length:Nat):Int)=0:=hc.one (by decide);omega)
 have hvh:∃x n c,vh=.slice x n c:=by obtain⟨x,c,rfl⟩:=own_shape hv;exact⟨x,_,c,rfl⟩
 exact cl_table w0 W a p q m F S r g cap j hP hY hS nb cn k vh hk hk9 hvh
theorem clo_moves (q:Nat):CloR wMoves q 35 #[.pointer (some ⟨q,0,none⟩)] false:=by
 intro w0 W a p m F st j B N H vn vh hh n hP hI hB hj hst hc hl hn hv hFB hpB
 have hform:some (hh,n)=some (-1,1):=hc.form.symm.trans (show formW wMoves=some (-1,1) by decide)
 injection hform with hform
 injection hform with hh0 hn0
 subst hh0 hn0
 obtain⟨S,r,g,cap,rfl,hY⟩:=plIs_some hI (hst rfl)
 have hS:=hB S rfl
 obtain⟨k,rfl⟩:=List.length_eq_one_iff.1 (show N.length=1 from hc.num)
 obtain⟨nb,cn,rfl,hnb,_,hnc⟩:=nums_at hn (by simp)
 have hk:=hnc 0 (by simp)
 have hk9:=hc.hi k (by simp)
 have hnF:¬F nb:=fun h=>by have:=hFB nb h;omega
 have hne:H≠[]:=hc.any (by decide)
 obtain⟨hb,ch,rfl,hhb,hcl,hhc⟩:=hosts_at hv (List.length_pos_iff.2 hne)
 have hsz:∀s∈H,s.size≤300:=fun s hs=>by have:=(nm_word (hc.nm s hs)).2.2.2;omega
 exact cl_moves w0 W a p q m F S r g cap j hP hY hS nb cn hb ch k H hk hk9 hhc hcl hl hsz
theorem clo_ring (q:Nat):CloR wRing q 38 #[.pointer (some ⟨q,0,none⟩)] false:=by
 intro w0 W a p m F st j B N H vn vh hh n hP hI hB hj hst hc hl hn hv hFB hpB
 have hform:some (hh,n)=some (0,2):=hc.form.symm.trans (show formW wRing=some (0,2) by decide)
 injection hform with hform
 injection hform with hh0 hn0
 subst hh0 hn0
 obtain⟨S,r,g,cap,rfl,hY⟩:=plIs_some hI (hst rfl)
 have hS:=hB S rfl
 obtain⟨k,z,rfl⟩:=len_two (show N.length=2 from hc.num)
 obtain⟨nb,cn,rfl,hnb,_,hnc⟩:=nums_at hn (by simp)
 have hk:=hnc 0 (by simp)
 have hz:=hnc 1 (by simp)
 have hk9:=hc.hi k (by simp)
 have hz9:=hc.hi z (by simp)
 obtain rfl:H=[]:=List.length_eq_zero_iff.1 (by have h1:((H.length:Nat):Int)=0:=hc.one (by decide);omega)
 have hvh:∃x n c,vh=.slice x n c:=by obtain⟨x,c,rfl⟩:=own_shape hv;exact⟨x,_,c,rfl⟩
 exact cl_ring w0 W a p q m F S r g cap j hP hY hS nb cn k z vh hk hz hz9 hvh
theorem clo_rival (q:Nat):CloR wRival q 40 #[.pointer (some ⟨q,0,none⟩)] false:=by
 intro w0 W a p m F st j B N H vn vh hh n hP hI hB hj hst hc hl hn hv hFB hpB
 have hform:some (hh,n)=some (0,1):=hc.form.symm.trans (show formW wRival=some (0,1) by decide)
 injection hform with hform
 injection hform with hh0 hn0
 subst hh0 hn0
 obtain⟨S,r,g,cap,rfl,hY⟩:=plIs_some hI (hst rfl)
 have hS:=hB S rfl
 obtain⟨k,rfl⟩:=List.length_eq_one_iff.1 (show N.length=1 from hc.num)
 obtain⟨nb,cn,rfl,hnb,_,hnc⟩:=nums_at hn (by simp)
 have hk:=hnc 0 (by simp)
 have hk9:=hc.hi k (by simp)
 have hnF:¬F nb:=fun h=>by have:=hFB nb h;omega
 obtain rfl:H=[]:=List.length_eq_zero_iff.1 (by have h1:((H.length:Nat):Int)=0:=hc.one (by decide);omega)
 have hvh:∃x n c,vh=.slice x n c:=by obtain⟨x,c,rfl⟩:=own_shape hv;exact⟨x,_,c,rfl⟩
 exact cl_rival w0 W a p q m F S r g cap j hP hY hS nb cn k vh hk hk9 hvh
theorem clo_jump (q:Nat):CloR wJump q 43 #[] true:=by
 intro w0 W a p m F st j B N H vn vh hh n hP hI hB hj hst hc hl hn hv hFB hpB
 have hform:some (hh,n)=some (0,2):=hc.form.symm.trans (show formW wJump=some (0,2) by decide)
 injection hform with hform
 injection hform with hh0 hn0
 subst hh0 hn0
 obtain⟨k,z,rfl⟩:=len_two (show N.length=2 from hc.num)
 obtain⟨nb,cn,rfl,hnb,_,hnc⟩:=nums_at hn (by simp)
 have hk:=hnc 0 (by simp)
 have hz:=hnc 1 (by simp)
 have hk9:=hc.hi k (by simp)
 have hz9:=hc.hi z (by simp)
 obtain rfl:H=[]:=List.length_eq_zero_iff.1 (by have h1:((H.length:Nat):Int)=0:=hc.one (by decide);omega)
 have hvh:∃x n c,vh=.slice x n c:=by obtain⟨x,c,rfl⟩:=own_shape hv;exact⟨x,_,c,rfl⟩
 have hne2:∀S,st=some S→S.hosts≠[]:=fun S hS=>(hB S hS).ok.ne
 exact cl_jump w0 a p q m F st nb cn k z vh W hP hI hne2 hvh hk hz hk9
theorem clo_pick (q:Nat):CloR wPick q 45 #[.pointer (some ⟨q,0,none⟩)] false:=by
 intro w0 W a p m F st j B N H vn vh hh n hP hI hB hj hst hc hl hn hv hFB hpB
 have hform:some (hh,n)=some (0,1):=hc.form.symm.trans (show formW wPick=some (0,1) by decide)
 injection hform with hform
 injection hform with hh0 hn0
 subst hh0 hn0
 obtain⟨S,r,g,cap,rfl,hY⟩:=plIs_some hI (hst rfl)
 have hS:=hB S rfl
 obtain⟨k,rfl⟩:=List.length_eq_one_iff.1 (show N.length=1 from hc.num)
 obtain⟨nb,cn,rfl,hnb,_,hnc⟩:=nums_at hn (by simp)
 have hk:=hnc 0 (by simp)
 have hk9:=hc.hi k (by simp)
 have hnF:¬F nb:=fun h=>by have:=hFB nb h;omega
 obtain rfl:H=[]:=List.length_eq_zero_iff.1 (by have h1:((H.length:Nat):Int)=0:=hc.one (by decide);omega)
 have hvh:∃x n c,vh=.slice x n c:=by obtain⟨x,c,rfl⟩:=own_shape hv;exact⟨x,_,c,rfl⟩
 exact cl_pick w0 W a p q m F S r g cap j hP hY hS nb cn k vh hk hk9 hnF hvh
theorem clo_look (q:Nat):CloR wLook q 47 #[.pointer (some ⟨q,0,none⟩)] false:=by
 intro w0 W a p m F st j B N H vn vh hh n hP hI hB hj hst hc hl hn hv hFB hpB
 have hform:some (hh,n)=some (1,1):=hc.form.symm.trans (show formW wLook=some (1,1) by decide)
 injection hform with hform
 injection hform with hh0 hn0
 subst hh0 hn0
 obtain⟨S,r,g,cap,rfl,hY⟩:=plIs_some hI (hst rfl)
 have hS:=hB S rfl
 obtain⟨k,rfl⟩:=List.length_eq_one_iff.1 (show N.length=1 from hc.num)
 obtain⟨nb,cn,rfl,hnb,_,hnc⟩:=nums_at hn (by simp)
 have hk:=hnc 0 (by simp)
 have hk9:=hc.hi k (by simp)
 have hnF:¬F nb:=fun h=>by have:=hFB nb h;omega
 obtain⟨h,rfl⟩:=List.length_eq_one_iff.1 (show H.length=1 by have h1:((H.length:Nat):Int)=1:=hc.one (by decide);omega)
 obtain⟨hb,ch,rfl,hhb,_,hhc⟩:=hosts_at hv (by simp)
 have hh:=hhc 0 (by simp)
 have hhF:¬F hb:=fun q=>by have:=hFB hb q;omega
 exact cl_look w0 W a p q m F S r g cap j hP hY hS nb cn hb ch k h hk hh hnF hhF
theorem clo_drain (q:Nat):CloR wDrain q 50 #[.pointer (some ⟨q,0,none⟩)] false:=by
 intro w0 W a p m F st j B N H vn vh hh n hP hI hB hj hst hc hl hn hv hFB hpB
 have hform:some (hh,n)=some (1,1):=hc.form.symm.trans (show formW wDrain=some (1,1) by decide)
 injection hform with hform
 injection hform with hh0 hn0
 subst hh0 hn0
 obtain⟨S,r,g,cap,rfl,hY⟩:=plIs_some hI (hst rfl)
 have hS:=hB S rfl
 obtain⟨k,rfl⟩:=List.length_eq_one_iff.1 (show N.length=1 from hc.num)
 obtain⟨nb,cn,rfl,hnb,_,hnc⟩:=nums_at hn (by simp)
 have hk:=hnc 0 (by simp)
 have hk9:=hc.hi k (by simp)
 have hnF:¬F nb:=fun h=>by have:=hFB nb h;omega
 obtain⟨h,rfl⟩:=List.length_eq_one_iff.1 (show H.length=1 by have h1:((H.length:Nat):Int)=1:=hc.one (by decide);omega)
 obtain⟨hb,ch,rfl,hhb,_,hhc⟩:=hosts_at hv (by simp)
 have hh:=hhc 0 (by simp)
 have hhF:¬F hb:=fun q=>by have:=hFB hb q;omega
 exact cl_drain w0 W a p q m F S r g cap j hP hY hS nb cn hb ch k h hk hh hnF hhF
theorem clo_tick (q:Nat):CloR wTick q 52 #[.pointer (some ⟨q,0,none⟩)] false:=by
 intro w0 W a p m F st j B N H vn vh hh n hP hI hB hj hst hc hl hn hv hFB hpB
 have hform:some (hh,n)=some (0,1):=hc.form.symm.trans (show formW wTick=some (0,1) by decide)
 injection hform with hform
 injection hform with hh0 hn0
 subst hh0 hn0
 obtain⟨S,r,g,cap,rfl,hY⟩:=plIs_some hI (hst rfl)
 have hS:=hB S rfl
 obtain⟨k,rfl⟩:=List.length_eq_one_iff.1 (show N.length=1 from hc.num)
 obtain⟨nb,cn,rfl,hnb,_,hnc⟩:=nums_at hn (by simp)
 have hk:=hnc 0 (by simp)
 have hk9:=hc.hi k (by simp)
 have hnF:¬F nb:=fun h=>by have:=hFB nb h;omega
 obtain rfl:H=[]:=List.length_eq_zero_iff.1 (by have h1:((H.length:Nat):Int)=0:=hc.one (by decide);omega)
 have hvh:∃x n c,vh=.slice x n c:=by obtain⟨x,c,rfl⟩:=own_shape hv;exact⟨x,_,c,rfl⟩
 exact cl_tick w0 W a p q m F S r g cap j hP hY hS hj nb cn k vh hk hk9 hvh
theorem clo_up (q:Nat):CloR wUp q 53 #[.pointer (some ⟨q,0,none⟩)] false:=by
 intro w0 W a p m F st j B N H vn vh hh n hP hI hB hj hst hc hl hn hv hFB hpB
 have hform:some (hh,n)=some (0,0):=hc.form.symm.trans (show formW wUp=some (0,0) by decide)
 injection hform with hform
 injection hform with hh0 hn0
 subst hh0 hn0
 obtain⟨S,r,g,cap,rfl,hY⟩:=plIs_some hI (hst rfl)
 have hS:=hB S rfl
 obtain rfl:=List.length_eq_zero_iff.1 (show N.length=0 from hc.num)
 obtain rfl:H=[]:=List.length_eq_zero_iff.1 (by have h1:((H.length:Nat):Int)=0:=hc.one (by decide);omega)
 have hvh:∃x n c,vh=.slice x n c:=by obtain⟨x,c,rfl⟩:=own_shape hv;exact⟨x,_,c,rfl⟩
 have hvn:∃x n c,vn=.slice x n c:=by obtain⟨x,c,rfl⟩:=own_shape hn;exact⟨x,_,c,rfl⟩
 exact cl_up w0 W a p q m F S r g cap j hP hY hS vn vh hvn hvh
theorem clo_flows (q:Nat):CloR wFlows q 56 #[.pointer (some ⟨q,0,none⟩)] false:=by
 intro w0 W a p m F st j B N H vn vh hh n hP hI hB hj hst hc hl hn hv hFB hpB
 have hform:some (hh,n)=some (0,0):=hc.form.symm.trans (show formW wFlows=some (0,0) by decide)
 injection hform with hform
 injection hform with hh0 hn0
 subst hh0 hn0
 obtain⟨S,r,g,cap,rfl,hY⟩:=plIs_some hI (hst rfl)
 have hS:=hB S rfl
 obtain rfl:=List.length_eq_zero_iff.1 (show N.length=0 from hc.num)
 obtain rfl:H=[]:=List.length_eq_zero_iff.1 (by have h1:((H.length:Nat):Int)=0:=hc.one (by decide);omega)
 have hvh:∃x n c,vh=.slice x n c:=by obtain⟨x,c,rfl⟩:=own_shape hv;exact⟨x,_,c,rfl⟩
 have hvn:∃x n c,vn=.slice x n c:=by obtain⟨x,c,rfl⟩:=own_shape hn;exact⟨x,_,c,rfl⟩
 exact cl_flows w0 W a p q m F S r g cap j hP hY hS vn vh hvn hvh
theorem clo_export (q:Nat):CloR wExport q 58 #[.pointer (some ⟨q,0,none⟩)] false:=by
 intro w0 W a p m F st j B N H vn vh hh n hP hI hB hj hst hc hl hn hv hFB hpB
 have hform:some (hh,n)=some (0,0):=hc.form.symm.trans (show formW wExport=some (0,0) by decide)
 injection hform with hform
 injection hform with hh0 hn0
 subst hh0 hn0
 obtain⟨S,r,g,cap,rfl,hY⟩:=plIs_some hI (hst rfl)
 have hS:=hB S rfl
 obtain rfl:=List.length_eq_zero_iff.1 (show N.length=0 from hc.num)
 obtain rfl:H=[]:=List.length_eq_zero_iff.1 (by have h1:((H.length:Nat):Int)=0:=hc.one (by decide);omega)
 have hvh:∃x n c,vh=.slice x n c:=by obtain⟨x,c,rfl⟩:=own_shape hv;exact⟨x,_,c,rfl⟩
 have hvn:∃x n c,vn=.slice x n c:=by obtain⟨x,c,rfl⟩:=own_shape hn;exact⟨x,_,c,rfl⟩
 exact cl_export w0 W a p q m F S r g cap j hP hY hS vn vh hvn hvh
structure EntR (q:Nat)(w form:List UInt8)(more early:Bool)(f:Nat)(caps:Array Value):Prop where
 form_:formR w form more
 pos:more=true→0<form.length
 kind:∀x∈form,x=72∨x=78∨x=70
 caps_:caps=#[]∨caps=#[.pointer (some ⟨q,0,none⟩)]
 ent:∀args w,(callFunc f args).run Tryz.prog w=.ok (.enter f args) w
 early_:early=false↔w≠wHosts∧w≠wJump
 clo_:CloR w q f caps early
theorem bt_inj {x y:List UInt8}(h:bt x=bt y):x=y:=by
 have:=congrArg tx h
 exact this
theorem tab_found {q:Nat}{w:List UInt8}{v:Value}(h:(bt w,v)∈cmTab q):∃form more early f caps,v=cmA form more early (.func (.func f) #[] caps)∧EntR q w form more early f caps:=by
 unfold cmTab at h
 simp only[List.mem_cons,Prod.mk.injEq,List.not_mem_nil,or_false] at h
 rcases h with⟨h,rfl⟩|⟨h,rfl⟩|⟨h,rfl⟩|⟨h,rfl⟩|⟨h,rfl⟩|⟨h,rfl⟩|⟨h,rfl⟩|⟨h,rfl⟩|⟨h,rfl⟩|⟨h,rfl⟩|⟨h,rfl⟩|⟨h,rfl⟩|⟨h,rfl⟩
 ·obtain rfl:=bt_inj h
  exact⟨[72],true,true,31,#[.pointer (some ⟨q,0,none⟩)],rfl,formR_hosts,by decide,by decide,Or.inr rfl,enters_of Tryz.func31 (by kernel_rfl) rfl,by decide,clo_hosts q⟩
 ·obtain rfl:=bt_inj h
  exact⟨[78],false,false,33,#[.pointer (some ⟨q,0,none⟩)],rfl,(formR_N (by decide) (by decide)),by decide,by decide,Or.inr rfl,enters_of Tryz.func33 (by kernel_rfl) rfl,by decide,clo_table q⟩
 ·obtain rfl:=bt_inj h
  exact⟨[78,72],true,false,35,#[.pointer (some ⟨q,0,none⟩)],rfl,formR_moves,by decide,by decide,Or.inr rfl,enters_of Tryz.func35 (by kernel_rfl) rfl,by decide,clo_moves q⟩
 ·obtain rfl:=bt_inj h
  exact⟨[78,78],false,false,38,#[.pointer (some ⟨q,0,none⟩)],rfl,(formR_NN (by decide) (by decide)),by decide,by decide,Or.inr rfl,enters_of Tryz.func38 (by kernel_rfl) rfl,by decide,clo_ring q⟩
 ·obtain rfl:=bt_inj h
  exact⟨[78],false,false,40,#[.pointer (some ⟨q,0,none⟩)],rfl,(formR_N (by decide) (by decide)),by decide,by decide,Or.inr rfl,enters_of Tryz.func40 (by kernel_rfl) rfl,by decide,clo_rival q⟩
 ·obtain rfl:=bt_inj h
  exact⟨[78,78],false,true,43,#[],rfl,(formR_NN (by decide) (by decide)),by decide,by decide,Or.inl rfl,enters_of Tryz.func43 (by kernel_rfl) rfl,by decide,clo_jump q⟩
 ·obtain rfl:=bt_inj h
  exact⟨[78],false,false,45,#[.pointer (some ⟨q,0,none⟩)],rfl,(formR_N (by decide) (by decide)),by decide,by decide,Or.inr rfl,enters_of Tryz.func45 (by kernel_rfl) rfl,by decide,clo_pick q⟩
 ·obtain rfl:=bt_inj h
  exact⟨[72,70],false,false,47,#[.pointer (some ⟨q,0,none⟩)],rfl,(formR_HF (by decide) (by decide)),by decide,by decide,Or.inr rfl,enters_of Tryz.func47 (by kernel_rfl) rfl,by decide,clo_look q⟩
 ·obtain rfl:=bt_inj h
  exact⟨[72,70],false,false,50,#[.pointer (some ⟨q,0,none⟩)],rfl,(formR_HF (by decide) (by decide)),by decide,by decide,Or.inr rfl,enters_of Tryz.func50 (by kernel_rfl) rfl,by decide,clo_drain q⟩
 ·obtain rfl:=bt_inj h
  exact⟨[78],false,false,52,#[.pointer (some ⟨q,0,none⟩)],rfl,(formR_N (by decide) (by decide)),by decide,by decide,Or.inr rfl,enters_of Tryz.func52 (by kernel_rfl) rfl,by decide,clo_tick q⟩
 ·obtain rfl:=bt_inj h
  exact⟨[],false,false,53,#[.pointer (some ⟨q,0,none⟩)],rfl,(formR_0 (by decide) (by decide)),by decide,by decide,Or.inr rfl,enters_of Tryz.func53 (by kernel_rfl) rfl,by decide,clo_up q⟩
 ·obtain rfl:=bt_inj h
  exact⟨[],false,false,56,#[.pointer (some ⟨q,0,none⟩)],rfl,(formR_0 (by decide) (by decide)),by decide,by decide,Or.inr rfl,enters_of Tryz.func56 (by kernel_rfl) rfl,by decide,clo_flows q⟩
 ·obtain rfl:=bt_inj h
  exact⟨[],false,false,58,#[.pointer (some ⟨q,0,none⟩)],rfl,(formR_0 (by decide) (by decide)),by decide,by decide,Or.inr rfl,enters_of Tryz.func58 (by kernel_rfl) rfl,by decide,clo_export q⟩
theorem tab_none {q:Nat}{w:List UInt8}(h:∀v,(bt w,v)∉cmTab q):formW w=none:=by
 have hne:∀u:List UInt8,(∃v,(bt u,v)∈cmTab q)→w≠u:=fun u ⟨v,hv⟩ e=>h v (e ▸ hv)
 have n1:=hne wHosts ⟨_,List.mem_of_getElem? (i:=0) rfl⟩
 have n2:=hne wTable ⟨_,List.mem_of_getElem? (i:=1) rfl⟩
 have n3:=hne wMoves ⟨_,List.mem_of_getElem? (i:=2) rfl⟩
 have n4:=hne wRing ⟨_,List.mem_of_getElem? (i:=3) rfl⟩
 have n5:=hne wRival ⟨_,List.mem_of_getElem? (i:=4) rfl⟩
 have n6:=hne wJump ⟨_,List.mem_of_getElem? (i:=5) rfl⟩
 have n7:=hne wPick ⟨_,List.mem_of_getElem? (i:=6) rfl⟩
 have n8:=hne wLook ⟨_,List.mem_of_getElem? (i:=7) rfl⟩
 have n9:=hne wDrain ⟨_,List.mem_of_getElem? (i:=8) rfl⟩
 have n10:=hne wTick ⟨_,List.mem_of_getElem? (i:=9) rfl⟩
 have n11:=hne wUp ⟨_,List.mem_of_getElem? (i:=10) rfl⟩
 have n12:=hne wFlows ⟨_,List.mem_of_getElem? (i:=11) rfl⟩
 have n13:=hne wExport ⟨_,List.mem_of_getElem? (i:=12) rfl⟩
 unfold formW
 rw[if_neg n1,if_neg n3,if_neg (by simp[n2,n5,n7,n10]),if_neg (by simp[n4,n6]),if_neg (by simp[n8,n9]),if_neg (by simp[n11,n12,n13])]
theorem cutL_count:∀s:List UInt8,(cutL 32 s).length≤s.length+1
 | []=>by simp[cutL]
 | c :: cs=>by
  have h:=cutL_count cs
  unfold cutL
  split
  ·simp
   omega
  ·split
   ·simp
   ·rename_i w ws hw
    rw[hw] at h
    simp at h ⊢
    omega
theorem cutL_word:∀(s:List UInt8),∀x∈cutL 32 s,x.length≤s.length
 | [],x,h=>by
  simp[cutL] at h
  subst h
  simp
 | c :: cs,x,h=>by
  have ih:=cutL_word cs
  unfold cutL at h
  split at h
  ·rcases List.mem_cons.1 h with rfl|h
   ·simp
   ·have:=ih x h
    simp
    omega
  ·split at h
   ·rename_i hw
    simp at h
    subst h
    simp
   ·rename_i w ws hw
    rcases List.mem_cons.1 h with rfl|h
    ·have:=ih w (by rw[hw];simp)
     simp
     omega
    ·have:=ih x (by rw[hw];simp[h])
     simp
     omega
def LineE (w0:World)(a:Nat→Addr)(p q m:Nat)(F:Nat→Prop)(st:Option Sc)(s:List UInt8)(W:World)(e:Ending)(W':World):Prop :=
 ∃st' F' ans,LineR nwB st s st' ans∧AnsE a W' ans e∧PlC w0 a p q m F' W'∧PlIs st' F' p W'∧(∀b,F' b→F b∨W.heap.size≤b)∧Tur (fun b=>F b∨b=p) W W'
theorem cut_some (s:List UInt8):∃wd r,cutL 32 s=wd :: r:=by
 cases h:cutL 32 s with
 | nil=>exact absurd h (cutL_ne 32 s)
 | cons w r=>exact⟨w,r,rfl⟩
theorem lineE_err {w0 W W':World}{a:Nat→Addr}{p q m:Nat}{F:Nat→Prop}{st:Option Sc}{s:List UInt8}{c:Nat}{tv:ByteArray}{ev:Value}(hP:PlC w0 a p q m F W)(hI:PlIs st F p W)(hn:∀S,st=some S→S.hosts≠[])(hb:Below W.heap.size W W')(hL:LineR nwB st s st (errT c))(he:ErrIs a W' c (-1) ev)(hc:c≠0)(ht:Told (c - 1)):LineE w0 a p q m F st s W (.returned (.tuple #[.string tv,ev])) W' :=
 ⟨st,F,_,hL,ansE_err he hc ht,hP.later hb,hI.later (fun h=>(hP.F0 p h).2.1 rfl) hn hb,fun _ h=>Or.inl h,Tur.of_below hb⟩
theorem obey_miss (w0 W:World)(a:Nat→Addr)(p q m:Nat)(F:Nat→Prop)(st:Option Sc)(s wd:List UInt8)(r:List (List UInt8))(hs:s.length≤5000)(hcut:cutL 32 s=wd :: r)(hP:PlC w0 a p q m F W)(hI:PlIs st F p W)(hn:∀S,st=some S→S.hosts≠[])(hno:∀v,(bt wd,v)∉cmTab q) :
  Calls Tryz.prog 60 #[.pointer (some ⟨p,0,none⟩),.map (some m),.string (bt s)] W (LineE w0 a p q m F st s W):=by
 have hsp:=split_any s 32 (by omega) W hP.ea.c
 rw[hcut] at hsp
 have hcm:cmOf s=none:=by
  unfold cmOf
  rw[hcut]
  show (match formW wd with|none=>none|some (h,n)=>restW wd h n r)=none
  rw[tab_none hno]
 have HEND:Hid (∀tv w',Below W.heap.size W w'→LineE w0 a p q m F st s W (.returned (.tuple #[.string tv,.iface 378 (.pointer (some (a 0)))])) w'):=fun tv w' hb=>lineE_err hP hI hn hb (Or.inl ⟨hcm,rfl,rfl⟩) (Or.inr ⟨0,by decide,rfl,Or.inl ⟨rfl,rfl⟩⟩) (by decide) (Or.inl rfl)
 have HMAP:Hid (MapIs W m (cmTab q)):=hP.map
 have HS0:Hid (EC a W):=hP.ea.c
 clear hP hI hcut hcm
 go_enter Tryz.func60,Tryz.ntmps60
 go_wp2_with fail
 refine hsp.mono ?_
 rintro e w1 ⟨rfl,hb1,hl1,hcell⟩
 have c0:=hcell 0 (by simp)
 rw[List.getElem_cons_zero] at c0
 have hmap:=HMAP.out.same (hb1.block m HMAP.out.lt)
 have hlk:(Instr.lookup 52 (.map (some m)) (.string (bt wd)) true).run Tryz.prog w1=.ok (.tuple #[.agg #[.string ⟨#[]⟩,.bool false,.bool false,.nilFunc],.bool false]) w1:=by
  rcases hmap.look (P:=Tryz.prog) (bt wd) Tryz.underlying52 Tryz.underlying9 (z:=.agg #[.string ⟨#[]⟩,.bool false,.bool false,.nilFunc]) (by simp[Tryz.zeroValue87]) with⟨v,hv,_⟩|⟨_,h⟩
  ·exact absurd hv (hno v)
  ·exact h
 have s0:=(HS0.out.later hb1).s0
 have HB1:Hid (Below W.heap.size W w1):=hb1
 clear hsp hcell hmap hb1 hno
 obtain⟨w2,hw2⟩:∃w2,w2=w1.alloc (.cells #[.string ⟨#[]⟩,.bool false,.bool false,.nilFunc] 87):=⟨_,rfl⟩
 have hb2:Below w1.heap.size w1 w2:=by rw[hw2];exact (Below.refl _ _).alloc (Nat.le_refl _) _
 have HB2:Hid (Below w1.heap.size w1 w2.drew):=below_then hb2 (below_drewN (Below.refl _ _) 1)
 have s2:=below_cell hb2 s0
 clear hb2
 go_wp2_with fail
 rw[←hw2]
 clear hw2
 go_region
 go_wp2
 go_ret2
 exact HEND.out _ _ (below_then HB1.out HB2.out)
theorem cut_lens (s:List UInt8)(hs:s.length≤5000):(cutL 32 s).length≤5001∧∀x∈cutL 32 s,x.length≤5000:=by
 refine⟨Nat.le_trans (cutL_count s) (by omega),fun x hx=>Nat.le_trans (cutL_word s x hx) hs⟩
theorem lineS_cm {s wd form:List UInt8}{more:Bool}{r:List (List UInt8)}(hcut:cutL 32 s=wd :: r)(hf:formR wd form more):cmOf s=(readW form more r).map fun z=>⟨wd,z.2,z.1⟩:=by
 unfold cmOf
 rw[hcut]
 exact hf r
theorem tab_one {q:Nat}{w:List UInt8}{v v':Value}(h:(bt w,v)∈cmTab q)(h':(bt w,v')∈cmTab q):v=v':=by
 have hnd:(cmTab q).Pairwise fun x y=>tx x.1≠tx y.1:=by
  have:((cmTab q).map fun x=>tx x.1).Pairwise (·≠·):=by
   show List.Pairwise (·≠·) [wHosts,wTable,wMoves,wRing,wRival,wJump,wPick,wLook,wDrain,wTick,wUp,wFlows,wExport]
   decide
  exact List.pairwise_map.1 this
 by_cases hne:v=v'
 ·exact hne
 ·exfalso
  obtain⟨i,hi,e1⟩:=List.mem_iff_getElem.1 h
  obtain⟨j,hj,e2⟩:=List.mem_iff_getElem.1 h'
  have hp:=List.pairwise_iff_getElem.1 hnd
  rcases Nat.lt_trichotomy i j with q|q|q
  ·have:=hp i j hi hj q
   rw[e1,e2] at this
   exact this rfl
  ·subst q
   rw[e1] at e2
   injection e2 with _ e3
   exact hne e3
  ·have:=hp j i hj hi q
   rw[e1,e2] at this
   exact this rfl
theorem scanW_len {form:List UInt8}:∀(ws:List (List UInt8)) (i:Nat) (A B:List Nat × List ByteArray),scanW form i ws A=some B→B.2.length≤A.2.length+ws.length
 | [],_,A,B,h=>by
  obtain rfl:=Option.some.inj h
  simp
 | x :: xs,i,A,B,h=>by
  unfold scanW at h
  cases hs:stepW (kindW form i) x A with
  | none=>rw[hs] at h;cases h
  | some C =>
   rw[hs] at h
   have h1:=scanW_len xs (i+1) C B h
   have h2:=(stepW_len hs).2
   rw[List.length_cons]
   omega
theorem readW_len {form:List UInt8}{more:Bool}{ws:List (List UInt8)}{N:List Nat}{H:List ByteArray}(h:readW form more ws=some (N,H)):H.length≤ws.length:=by
 unfold readW at h
 split at h
 ·cases h
 ·have:=scanW_len ws 0 _ _ h
  simpa using this
def CmAt (w:World)(b:Nat)(form:List UInt8)(more early:Bool)(f:Nat)(caps:Array Value):Prop:=w.cell? ⟨b,0,none⟩=some (.string (bt form))∧w.cell? ⟨b,1,none⟩=some (.bool more)∧w.cell? ⟨b,2,none⟩=some (.bool early)∧w.cell? ⟨b,3,none⟩=some (.func (.func f) #[] caps)
theorem CmAt.later {w w':World}{b:Nat}{form:List UInt8}{more early:Bool}{f:Nat}{caps:Array Value}(h:CmAt w b form more early f caps)(hb:Below w.heap.size w w'):CmAt w' b form more early f caps:=⟨below_cell hb h.1,below_cell hb h.2.1,below_cell hb h.2.2.1,below_cell hb h.2.2.2⟩
theorem obey_look {W w1:World}{m q:Nat}{wd:List UInt8}{v:Value}(hM:MapIs W m (cmTab q))(hb:Below W.heap.size W w1)(hv:(bt wd,v)∈cmTab q):(Instr.lookup 52 (.map (some m)) (.string (bt wd)) true).run Tryz.prog w1=.ok (.tuple #[v,.bool true]) w1:=by
 rcases (hM.same (hb.block m hM.lt)).look (P:=Tryz.prog) (bt wd) Tryz.underlying52 Tryz.underlying9 (z:=.agg #[.string ⟨#[]⟩,.bool false,.bool false,.nilFunc]) (by simp[Tryz.zeroValue87]) with⟨v',h1,h2⟩|⟨h,_⟩
 ·rw[tab_one h1 hv] at h2
  exact h2
 ·exact absurd hv (h _)
theorem obey_words {W w1:World}{wd:List UInt8}{r:List (List UInt8)}(hcell:∀j (hj:j<(wd :: r).length),w1.cell? ⟨W.heap.size,j,none⟩=some (.string (bt (wd :: r)[j]))){w':World}{sp:Option Addr}(hb:Below w1.heap.size w1 w')(hsp:r=[]∨sp=some ⟨W.heap.size,1,none⟩):WordsAt w' sp r:=by
 rcases hsp with rfl|rfl
 ·exact fun k hk=>absurd hk (Nat.not_lt_zero k)
 ·intro k hk
  refine⟨W.heap.size,1,rfl,?_⟩
  have:=below_cell hb (hcell (k+1) (by simp;omega))
  rw[List.getElem_cons_succ] at this
  rw[Nat.add_comm 1 k]
  exact this
def RdR (N:List Nat)(H:List ByteArray)(e:Ending)(w' w'':World):Prop:=∃pn cn ph ch,e=.returned (.tuple #[.agg #[.slice pn N.length cn,.slice ph H.length ch],.bool true])∧w''.ownsRow w'.heap.size 3 1 (.slice pn N.length cn) N.length (N.map fun n=>.int .i64 (n:Nat))∧w''.ownsRow w'.heap.size 9 1 (.slice ph H.length ch) H.length (H.map Value.string)
def WfIs (w2 wf:World)(wb:Nat)(vn vh:Value)(N:List Nat)(H:List ByteArray):Prop:=Below w2.heap.size w2 wf∧wf.cell? ⟨wb,0,none⟩=some vn∧wf.cell? ⟨wb,1,none⟩=some vh∧wf.ownsRow w2.heap.size 3 1 vn N.length (N.map fun n=>.int .i64 (n:Nat))∧wf.ownsRow w2.heap.size 9 1 vh H.length (H.map Value.string)
theorem obey_bad (w0 W:World)(a:Nat→Addr)(p q m:Nat)(F:Nat→Prop)(st:Option Sc)(s wd:List UInt8)(r:List (List UInt8))(hs:s.length≤5000)(hcut:cutL 32 s=wd :: r)(hP:PlC w0 a p q m F W)(hI:PlIs st F p W)(hn:∀S,st=some S→S.hosts≠[])(form:List UInt8)(more early:Bool)(f:Nat)(caps:Array Value)(hv:(bt wd,cmA form more early (.func (.func f) #[] caps))∈cmTab q)(hE:EntR q wd form more early f caps)(hr:readW form more r=none) :
  Calls Tryz.prog 60 #[.pointer (some ⟨p,0,none⟩),.map (some m),.string (bt s)] W (LineE w0 a p q m F st s W):=by
 have hsp:=split_any s 32 (by omega) W hP.ea.c
 have hwl:=cut_lens s hs
 rw[hcut] at hsp hwl
 have hcm:cmOf s=none:=by rw[lineS_cm hcut hE.form_,hr];rfl
 have HEND:Hid (∀tv w',Below W.heap.size W w'→LineE w0 a p q m F st s W (.returned (.tuple #[.string tv,.iface 378 (.pointer (some (a 0)))])) w'):=fun tv w' hb=>lineE_err hP hI hn hb (Or.inl ⟨hcm,rfl,rfl⟩) (Or.inr ⟨0,by decide,rfl,Or.inl ⟨rfl,rfl⟩⟩) (by decide) (Or.inl rfl)
 have HMAP:Hid (MapIs W m (cmTab q)):=hP.map
 have HS0:Hid (EA a W):=hP.ea
 have HRD:Hid (∀w' sp sc,EA a w'→WordsAt w' sp r→Calls Tryz.prog 109 #[cmA form more early (.func (.func f) #[] caps),.slice sp r.length sc] w' fun e w''=>e=.returned (.tuple #[.agg #[.slice none 0 0,.slice none 0 0],.bool false])∧Below w'.heap.size w' w''):=fun w' sp sc he hw=>(readC_any a form more early _ sp sc r w' he.c he.e4 hE.pos hE.kind (by have:=hwl.1;simp only[List.length_cons] at this;omega) (fun x hx=>hwl.2 x (List.mem_cons_of_mem _ hx)) hw).mono fun _ _ ⟨q1,q2⟩=>by
  rcases q2 with⟨N,H,vn,vh,h1,_⟩|⟨_,h2⟩
  ·rw[hr] at h1
   cases h1
  ·exact⟨h2,q1⟩
 clear hP hI hcut hcm hE hr
 go_enter Tryz.func60,Tryz.ntmps60
 go_wp2_with fail
 refine hsp.mono ?_
 rintro e w1 ⟨rfl,hb1,hl1,hcell⟩
 have c0:=hcell 0 (by simp)
 rw[List.getElem_cons_zero] at c0
 have hlk:=obey_look HMAP.out hb1 hv
 unfold cmA at hlk
 have HB1:Hid (Below W.heap.size W w1):=hb1
 have HWA:Hid (∀w' sp,Below w1.heap.size w1 w'→(r=[]∨sp=some ⟨W.heap.size,1,none⟩)→WordsAt w' sp r):=fun w' sp hb hsp=>obey_words hcell hb hsp
 clear hsp hcell hv
 obtain⟨w2,hw2⟩:∃w2,w2=w1.alloc (.cells #[.string (bt form),.bool more,.bool early,.func (.func f) #[] caps] 87):=⟨_,rfl⟩
 have hb2:Below w1.heap.size w1 w2:=by rw[hw2];exact (Below.refl _ _).alloc (Nat.le_refl _) _
 have HB2:Hid (Below w1.heap.size w1 w2):=hb2
 have HK:Hid (CmAt w2 w1.heap.size form more early f caps):=by rw[hw2];exact⟨by simp,by simp,by simp,by simp⟩
 obtain⟨k0,k1,k2,k3⟩:=HK.out
 have hb0:Below w2.heap.size w2 w2.drew:=below_drewN (Below.refl _ _) 1
 clear hb1 hb2
 have hcal:∀w' sp sc,Below w2.heap.size w2 w'→(r=[]∨sp=some ⟨W.heap.size,1,none⟩)→Calls Tryz.prog 109 #[.agg #[.string (bt form),.bool more,.bool early,.func (.func f) #[] caps],.slice sp r.length sc] w' fun e w''=>e=.returned (.tuple #[.agg #[.slice none 0 0,.slice none 0 0],.bool false])∧Below w'.heap.size w' w''∧Below w2.heap.size w2 w'':=fun w' sp sc hb hsp=>(HRD.out w' sp sc (HS0.out.later (below_then (below_then HB1.out HB2.out) hb)) (HWA.out w' sp (below_then HB2.out hb) hsp)).mono fun _ _ ⟨q1,q2⟩=>⟨q1,q2,below_then hb q2⟩
 have s2:=below_cell HB2.out (HS0.out.later HB1.out).c.s0
 have HST:Hid (∀w',Below w2.heap.size w2 w'→w'.cell? ⟨1,0,none⟩=some (.iface 378 (.pointer (some (a 0))))):=fun w' hb=>below_cell hb s2
 clear HRD HWA hwl s2
 by_cases hre:r=[]
 case' pos=>subst hre
 case' neg =>
  have hl0:¬r.length=0:=fun h=>hre (List.length_eq_zero_iff.1 h)
  have hi1:(1:Int)≤(r.length:Int)+1:=by omega
 all_goals
  go_wp2_with fail
  rw[←hw2]
  clear hw2
  go_region_held3 (fun w'=>w'.cell? ⟨w1.heap.size,0,none⟩=some (.string (bt form))∧w'.cell? ⟨w1.heap.size,1,none⟩=some (.bool more)∧w'.cell? ⟨w1.heap.size,2,none⟩=some (.bool early)∧w'.cell? ⟨w1.heap.size,3,none⟩=some (.func (.func f) #[] caps))
   (first|exact HK.out.later (by first|assumption|exact below_al (by assumption) _|exact below_ald _|exact ((by assumption:Below w2.heap.size w2 w3).setCell (Nat.le_refl _) _).setCell (Nat.le_refl _) _))
   (first
    | (go_at_call 109;refine (hcal _ _ _ (by first|assumption|exact below_ald _) (by first|exact Or.inr rfl|simp)).mono ?_;rintro e w3 ⟨rfl,hb3,hb3'⟩;try (have hcf:=al_cells hb3;obtain⟨c0',c1',f0',f1'⟩:=hcf)))
  ·have hbf:Below w2.heap.size w2 (w3.alloc (.cells #[.slice none 0 0,.slice none 0 0] 83)):=below_al hb3' _
   generalize (w3.alloc (.cells #[.slice none 0 0,.slice none 0 0] 83))=wf at *
   have s3:=HST.out wf hbf
   have HBF:Hid (Below w2.heap.size w2 wf.drew):=below_then hbf (below_drewN (Below.refl _ _) 1)
   clear hcal HST k0 k1 k2 k3 hb0 hbf hb3 hb3' c0 hlk
   go_wp2_with fail
   go_region
   go_wp2
   go_ret2
   exact HEND.out _ _ (below_then (below_then HB1.out HB2.out) HBF.out)
  ·have hbf:Below w2.heap.size w2 ((w3.setCell ⟨w2.heap.size,0,none⟩ (.slice none 0 0)).setCell ⟨w2.heap.size,1,none⟩ (.slice none 0 0)):=(hb3'.setCell (p:=⟨w2.heap.size,0,none⟩) (Nat.le_refl _) _).setCell (p:=⟨w2.heap.size,1,none⟩) (Nat.le_refl _) _
   generalize ((w3.setCell ⟨w2.heap.size,0,none⟩ (.slice none 0 0)).setCell ⟨w2.heap.size,1,none⟩ (.slice none 0 0))=wf at *
   have s3:=HST.out wf hbf
   have HBF:Hid (Below w2.heap.size w2 wf.drew):=below_then hbf (below_drewN (Below.refl _ _) 1)
   clear hcal HST k0 k1 k2 k3 hb0 hbf hb3 hb3' c0 hlk
   go_wp2_with fail
   go_region
   go_wp2
   go_ret2
   exact HEND.out _ _ (below_then (below_then HB1.out HB2.out) HBF.out)
end Go.Proofs.YtfhmfjcpggddkaaGreatDoor
