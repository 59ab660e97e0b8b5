/- The law's model of a script: answers of flows, of an export, of hosts alone. -/
import Derived.Test.YtfhmfjcpggddkaaGreatDoorM38
import Derived.Test.YtfhmfjcpggddkaaGreatDoorScAt
import Derived.Test.YtfhmfjcpggddkaaGreatDoorScAm
import Derived.Deep.RegionLaw
import Derived.Test.YtfhmfjcpggddkaaGreatDoorM39
import Derived.Test.YtfhmfjcpggddkaaGreatDoorM29
set_option maxHeartbeats 20000000
set_option maxRecDepth 100000
namespace Go.Proofs.YtfhmfjcpggddkaaGreatDoor
open Go.RowKit Lh
def flowB (x:Fl):ByteArray:=bt (decL x.1)++⟨#[32]⟩++x.2.1
theorem flowB_tx (x:Fl):tx (flowB x)=flowT x:=by
 have e:flowB x=bt (flowT x):=by
  unfold flowB flowT
  have e1:(⟨#[32]⟩:ByteArray)=bt [32]:=rfl
  have e2:x.2.1=bt (tx x.2.1):=(bt_back _).symm
  rw[e1]
  conv=>lhs;arg 2;rw[e2]
  rw[bt_append,bt_append]
  simp
 rw[e]
 rfl
theorem flowsB_tx (L:List Fl):(L.map flowB).map tx=L.map flowT:=by
 rw[List.map_map]
 exact List.map_congr_left fun x _=>flowB_tx x
theorem take_drop_one {s:List UInt8}{i:Nat}(h:i<s.length):(s.drop i).take (i+1 - i)=[s[i]]:=by
 rw[show i+1 - i=1 by omega,List.drop_eq_getElem_cons h]
 rfl
theorem wrap_i7 (n:Nat)(h:n≤9999999):IntKind.i64.wrap (n:Int)=(n:Int):=by simp[IntKind.wrap,IntKind.signed,IntKind.bits];omega
theorem decB_size {k:Nat}(h:k≤9999999):(bt (decL k)).size≤7:=by
 rw[bt_size]
 exact decL_len (by decide) (by omega)
theorem ans_flows (m K:Nat)(F:Nat→Prop)(B:Nat)(c:Cm)(w:ByteArray)(S:Sc)(hv nv:Value)(j:Nat)(W:World)(hM:SM W m K F B (some S))(hK:K≤W.heap.size)(hS:SB S j)(hw:tx w=wFlows)(hcw:c.w=wFlows) :
    Calls Tryz.prog 14 #[.pointer (some ⟨m,0,none⟩),.agg #[.string w,hv,nv]] W (AnsP m K F B (some S) c W):=by
  have q0:=word_not (s:=w) (w:=wHosts) (by rw[hw];decide)
  unfold wHosts at q0
  have q1:=word_not (s:=w) (w:=wJump) (by rw[hw];decide)
  unfold wJump at q1
  have q2:=word_not (s:=w) (w:=wPick) (by rw[hw];decide)
  unfold wPick at q2
  have q3:=word_not (s:=w) (w:=wLook) (by rw[hw];decide)
  unfold wLook at q3
  have q4:=word_not (s:=w) (w:=wDrain) (by rw[hw];decide)
  unfold wDrain at q4
  have q5:=word_not (s:=w) (w:=wTick) (by rw[hw];decide)
  unfold wTick at q5
  have q6:=word_not (s:=w) (w:=wUp) (by rw[hw];decide)
  unfold wUp at q6
  have q7:=word_is (s:=w) (w:=wFlows) hw
  unfold wFlows at q7
  obtain⟨wa,hwa⟩:∃wa,wa=W.alloc (.cells #[.string w,hv,nv] 36):=⟨_,rfl⟩
  have hba:Below W.heap.size W wa:=by rw[hwa];exact (Below.refl _ _).alloc (Nat.le_refl _) _
  have k0:wa.cell? ⟨W.heap.size,0,none⟩=some (.string w):=by rw[hwa];simp
  have k1:wa.cell? ⟨W.heap.size,1,none⟩=some (hv):=by rw[hwa];simp
  have k2:wa.cell? ⟨W.heap.size,2,none⟩=some (nv):=by rw[hwa];simp
  have hKa:=Nat.le_trans hK hba.size
  have hMa:=hM.later hba hK
  have HBA:Hid (Below W.heap.size W wa):=hba
  have hb0:Below wa.heap.size wa wa.drew:=below_drewN (Below.refl _ _) 1
  obtain⟨x,hb,ho,hcc,hx,hF⟩:=hMa.some_ S rfl
  have hkey:=hS.key
  have hlen:=hS.ok.ok.ok.len
  have hhost:∀y∈S.b.L,y.2.1.size≤12:=fun y hy=>(nm_word (hS.ok.ok.host y hy)).2.2.2
  obtain⟨fp,fc,hfv,hrow⟩:=hx.at_.f.row
  have hc0:=hx.c0
  have hc1:=hx.at_.c1
  have hc2:=hx.at_.f.c2
  rw[hfv] at hc2
  have kpW:=hc0
  rw[hwa] at kpW
  have HC:Hid (∀w',Below wa.heap.size wa w'→w'.cell? ⟨m,0,none⟩=some (.pointer (some ⟨x.m,0,none⟩))∧w'.cell? ⟨x.m,1,none⟩=some (.pointer (some ⟨x.fm,0,none⟩))∧w'.cell? ⟨x.fm,2,none⟩=some (.slice fp S.b.L.length fc)):=fun w' hb=>⟨below_cell hb hc0,below_cell hb hc1,below_cell hb hc2⟩
  have HR:Hid (∀w',Below wa.heap.size wa w'→∀i (hi:i<S.b.L.length),∃g,fp=some ⟨g,0,none⟩∧w'.cell? ⟨g,i*3,none⟩=some (.int .u64 (S.b.L[i].1:Nat))∧w'.cell? ⟨g,i*3+1,none⟩=some (.string S.b.L[i].2.1)∧w'.cell? ⟨g,i*3+2,none⟩=some (.int .i64 S.b.L[i].2.2)):=fun w' hb i hi=>by
    obtain⟨g,e1,e2,e3,e4⟩:=hrow i hi
    exact⟨g,e1,below_cell hb e2,below_cell hb e3,below_cell hb e4⟩
  have HJ:Hid (∀w' v,Strs1 w' v (S.b.L.map flowB)→Calls Tryz.prog 27 #[v,.string ⟨#[44,32]⟩] w' fun r w''=>r=.returned (.string (bt (joinedS [44,32] (S.b.L.map flowT))))∧Below w'.heap.size w' w''):=fun w' v hv=>by
    have:=joined_any v (S.b.L.map flowB) ⟨#[44,32]⟩ w' hv (by rw[List.length_map];omega) (fun s hs=>by
      obtain⟨y,hy,rfl⟩:=List.mem_map.1 hs
      have h1:=hhost y hy
      have h2:=decB_size (hkey y hy)
      have h3:(⟨#[32]⟩:ByteArray).size=1:=rfl
      unfold flowB
      rw[ByteArray.size_append',ByteArray.size_append']
      omega) (by decide)
    rw[flowsB_tx] at this
    exact this
  have HKEY:Hid (∀y∈S.b.L,y.1≤9999999):=hkey
  have HHOST:Hid (∀y∈S.b.L,y.2.1.size≤12):=hhost
  have HDE:Hid (∀(w':World) (k:Nat),k≤9999999→Calls Tryz.prog 19 #[.int .i64 (k:Nat)] w' fun q w''=>q=.returned (.string (bt (decL k)))∧Below w'.heap.size w' w''):=fun w' k hk=>decimalM_any k (by omega) w'
  have HAN:Hid (∀w',Below wa.heap.size wa w'→AnsP m K F B (some S) c W (.returned (.string (bt (joinedS [44,32] (S.b.L.map flowT))))) w'):=fun w' hb=>⟨some S,_,rfl,Or.inr (Or.inr (Or.inr ⟨by rw[hcw];decide,by rw[hcw];decide,S,rfl,Or.inl ⟨S,Or.inr (Or.inr (Or.inr (Or.inr (Or.inr (Or.inl ⟨hcw,rfl,rfl⟩))))),rfl⟩⟩)),(SM.Post.same (hM.more (by omega)) (below_then hba hb) hK)⟩
  generalize bt (joinedS [44,32] (S.b.L.map flowT))=ans at *
  generalize S.b.L=L at *
  clear hw hba hM hMa hcw hx hF hb0 hS hkey hhost hc0 hc1 hc2 hrow hfv
  go_enter Tryz.func14,Tryz.ntmps14
  go_wp2_with fail
  rw[←hwa]
  clear hwa k0 k1 k2 kpW
  go_loopw [13,14] (fun u13 u14 W'=>∃k:Nat,k≤L.length∧u14=.int .i64 (k:Nat)∧TabL wa W' u13 k (L.map flowB)) (fun _ u14 _=>L.length - (intOf u14).toNat)
  case atStart=>exact⟨0,Nat.zero_le _,rfl,Below.refl _ _,by rw[List.take_zero];exact owns_nil _ _ _⟩
  case round =>
    obtain⟨k,hk,rfl,hT⟩:=hrel
    have HT:Hid (TabL wa wr u13 k (L.map flowB)):=hT
    obtain⟨e0,e1,e2⟩:=HC.out wr hT.b
    by_cases hlt:k<L.length
    · have hki:(k:Int)<(L.length:Int):=by omega
      obtain⟨g,rfl,r0,r1,r2⟩:=HR.out wr hT.b k hlt
      have hk7:=HKEY.out _ (List.getElem_mem hlt)
      have hh12:=HHOST.out _ (List.getElem_mem hlt)
      have hkl:k<(L.map flowB).length:=by rw[List.length_map];exact hlt
      have HNM:Hid ((L.map flowB)[k]'hkl=flowB (L[k]'hlt)):=by show _=_;rw[List.getElem_map]
      have HTK:Hid (((L.map flowB).take k).length=k):=by show _=_;rw[List.length_take,List.length_map];omega
      have hnk:=HTK.out
      have hlen':k≤100000:=by omega
      obtain⟨lp,lc,rfl⟩:∃lp lc,u13=.slice lp k lc:=by
        rcases hT.own.2 with⟨rfl,hz⟩|⟨q,cap,cur,rfl,_⟩
        · exact⟨none,0,by rw[hz]⟩
        · exact⟨_,_,rfl⟩
      obtain⟨⟨y1,y2,y3⟩,hy⟩:∃y,y=L[k]'hlt:=⟨_,rfl⟩
      rw[←hy] at r0 r1 r2 hk7 hh12 HNM
      simp only at r0 r1 r2 hk7 hh12
      have HY:Hid (flowB (y1,y2,y3)=bt (decL y1)++⟨#[32]⟩++y2):=rfl
      have hwi:=wrap_i7 y1 hk7
      have hds:=decB_size hk7
      have hde:=fun w'=>HDE.out w' y1 hk7
      have z1:(⟨#[32]⟩:ByteArray).size=1:=rfl
      generalize bt (decL y1)=D at *
      have n0:∀w,(Op.stringOp .add D ({ data:=#[32] }:ByteArray)).run Tryz.prog w=.ok (.string (D++{ data:=#[32] })) w:=fun w=>run_string_add_sum w _ _ (by omega)
      have n1:∀w,(Op.stringOp .add (D++{ data:=#[32] }) y2).run Tryz.prog w=.ok (.string (D++{ data:=#[32] }++y2)) w:=fun w=>run_string_add_sum w _ _ (by rw[ByteArray.size_append'];omega)
      obtain⟨wq,hwq⟩:∃wq,wq=wr.alloc (.cells #[.int .u64 (y1:Nat),.string y2,.int .i64 y3] 80):=⟨_,rfl⟩
      have hbq:Below wr.heap.size wr wq:=by rw[hwq];exact below_al (Below.refl _ _) _
      have x0:wq.cell? ⟨wr.heap.size,0,none⟩=some (.int .u64 (y1:Nat)):=by rw[hwq];simp
      have x1:wq.cell? ⟨wr.heap.size,1,none⟩=some (.string y2):=by rw[hwq];simp
      have HBQ:Hid (Below wr.heap.size wr wq):=hbq
      have HX1:Hid (∀w',Below wq.drew.heap.size wq.drew w'→w'.cell? ⟨wr.heap.size,1,none⟩=some (.string y2)):=fun w' hb=>below_cell (below_of_drew hb) x1
      have HOW:Hid (∀w',Below wq.drew.heap.size wq.drew w'→w'.ownsRow wa.heap.size 9 1 (.slice lp k lc) k (((L.map flowB).take k).map Value.string)∧wa.heap.size≤w'.heap.size):=fun w' hb=>⟨ownsRow_below HT.out.own (below_then hbq (below_of_drew hb)),Nat.le_trans HT.out.b.size (below_then hbq (below_of_drew hb)).size⟩
      clear hT hbq hy
      go_wp2_with fail
      rw[←hwq]
      clear hwq
      go_region_law (first
        | (refine step_append_tx w4 (D++{ data:=#[32] }++y2) wa.heap.size rfl _ _ rfl rfl (.slice lp k lc) ((L.map flowB).take k) k hnk rfl rfl (HOW.out _ hb4).1 hlen' (HOW.out _ hb4).2 ?_
           intro g5 cp w5 hown5 hgr5 hor5)
        | (go_simp;go_at_call 19;refine (hde _).mono ?_;rintro e w4 ⟨rfl,hb4⟩;have x14:=HX1.out _ hb4))
      all_goals
        go_wp2
        refine⟨⟨k+1,by omega,by go_num,?_,?_⟩,by simp[intOf];omega⟩
        · have h4:Below wr.heap.size wr w4:=below_then HBQ.out (below_of_drew hb4)
          exact (below_then HT.out.b (below_al h4 _)).grown hgr5 (Nat.le_trans (HOW.out _ hb4).2 (by simp)) fun q hq=>((HOW.out _ hb4).1.lt q hq).1
        · rw[List.take_succ_eq_append_getElem hkl,HNM.out,HY.out]
          exact hown5
    · obtain rfl:k=L.length:=by omega
      have hd8:decide ((L.length:Int)<(L.length:Int))=false:=by simp
      have hst:Strs1 wr u13 (L.map flowB):=by
        have:=hT.own
        rw[List.take_of_length_le (by rw[List.length_map];exact Nat.le_refl _)] at this
        have e:L.length=(L.map flowB).length:=by rw[List.length_map]
        rw[e] at this
        exact strs_of_owns this
      obtain⟨lp,lc,hu,_⟩:=strs1_sl hst
      rw[List.length_map] at hu
      subst hu
      have hjo:=HJ.out wr _ hst
      have HBW:Hid (Below wa.heap.size wa wr):=hT.b
      clear hT hst
      go_wp2_with fail
      refine hjo.mono ?_
      rintro r w6 ⟨rfl,hb6⟩
      clear hjo
      go_wp2
      go_ret
      exact HAN.out _ (below_then HBW.out hb6)
def expP (s:List UInt8)(i:Nat):List UInt8:=(s.take i).flatMap fun c=>if c=10 then [59,32] else [c]
theorem expP_len (s:List UInt8)(i:Nat):(expP s i).length≤2*i:=by
 unfold expP
 have:∀l:List UInt8,(l.flatMap fun c=>if c=10 then [59,32] else [c]).length≤2*l.length:=fun l=>by
  induction l with
  | nil=>simp
  | cons c l ih =>
   rw[List.flatMap_cons,List.length_append,List.length_cons]
   split
   ·simp only[List.length_cons,List.length_nil];omega
   ·simp only[List.length_cons,List.length_nil];omega
 have h1:=this (s.take i)
 rw[List.length_take] at h1
 omega
theorem expT_snoc (s:List UInt8){i:Nat}(h:i<s.length):expP s (i+1)=expP s i++(if s[i]=10 then [59,32] else [s[i]]):=by
 unfold expP
 rw[List.take_succ_eq_append_getElem h,List.flatMap_append]
 simp
theorem ans_export (m K:Nat)(F:Nat→Prop)(B:Nat)(c:Cm)(w:ByteArray)(S:Sc)(hv nv:Value)(j:Nat)(W:World)(hM:SM W m K F B (some S))(hK:K≤W.heap.size)(hS:SB S j)(hj:j≤1000000)(hw:tx w=wExport)(hcw:c.w=wExport) :
  Calls Tryz.prog 14 #[.pointer (some ⟨m,0,none⟩),.agg #[.string w,hv,nv]] W (AnsP m K F B (some S) c W):=by
 have q0:=word_not (s:=w) (w:=wHosts) (by rw[hw];decide)
 unfold wHosts at q0
 have q1:=word_not (s:=w) (w:=wJump) (by rw[hw];decide)
 unfold wJump at q1
 have q2:=word_not (s:=w) (w:=wPick) (by rw[hw];decide)
 unfold wPick at q2
 have q3:=word_not (s:=w) (w:=wLook) (by rw[hw];decide)
 unfold wLook at q3
 have q4:=word_not (s:=w) (w:=wDrain) (by rw[hw];decide)
 unfold wDrain at q4
 have q5:=word_not (s:=w) (w:=wTick) (by rw[hw];decide)
 unfold wTick at q5
 have q6:=word_not (s:=w) (w:=wUp) (by rw[hw];decide)
 unfold wUp at q6
 have q7:=word_not (s:=w) (w:=wFlows) (by rw[hw];decide)
 unfold wFlows at q7
 have q8:=word_is (s:=w) (w:=wExport) hw
 unfold wExport at q8
 obtain⟨wa,hwa⟩:∃wa,wa=W.alloc (.cells #[.string w,hv,nv] 36):=⟨_,rfl⟩
 have hba:Below W.heap.size W wa:=by rw[hwa];exact (Below.refl _ _).alloc (Nat.le_refl _) _
 have k0:wa.cell? ⟨W.heap.size,0,none⟩=some (.string w):=by rw[hwa];simp
 have k1:wa.cell? ⟨W.heap.size,1,none⟩=some (hv):=by rw[hwa];simp
 have k2:wa.cell? ⟨W.heap.size,2,none⟩=some (nv):=by rw[hwa];simp
 have hKa:=Nat.le_trans hK hba.size
 have hMa:=hM.later hba hK
 have HBA:Hid (Below W.heap.size W wa):=hba
 have hb0:Below wa.heap.size wa wa.drew:=below_drewN (Below.refl _ _) 1
 obtain⟨x,hb,ho,hcc,hx,hF⟩:=hMa.some_ S rfl
 have kp:=hx.c0
 have kpW:=kp
 rw[hwa] at kpW
 have hbo:=hS.ok.ok
 have hep:S.b.ep<1099511627776:=by have:=hS.ep;omega
 have hex:Calls Tryz.prog 29 #[.pointer (some ⟨x.m,0,none⟩)] wa fun e w'=>e=.returned (.string (bt (textL (S.b.ep+1).toNat S.b.L)))∧SM.Post m K F (B+1) wa (some { S with b:={ S.b with ep:=S.b.ep+1 } }) w':=(mexportU hx.at_ hbo hep).mono fun _ _ ⟨r1,r2⟩=>⟨r1,(hMa.turned hKa hx hF r2).more (by omega)⟩
 have htl:13≤(textL (S.b.ep+1).toNat S.b.L).length:=textL_long _ _
 have hth:(textL (S.b.ep+1).toNat S.b.L).length≤20000:=text_len (caF_of hbo (e:=S.b.ep+1) (by have:=hbo.ep0;omega) (by omega)) (keyIn_of hbo)
 have HAN:Hid (∀w',SM.Post m K F (B+1) wa (some { S with b:={ S.b with ep:=S.b.ep+1 } }) w'→AnsP m K F B (some S) c W (.returned (.string (bt (expP (textL (S.b.ep+1).toNat S.b.L) ((textL (S.b.ep+1).toNat S.b.L).length - 1))))) w'):=fun w' hP=>⟨_,_,rfl,Or.inr (Or.inr (Or.inr ⟨by rw[hcw];decide,by rw[hcw];decide,S,rfl,Or.inl ⟨_,Or.inr (Or.inr (Or.inr (Or.inr (Or.inr (Or.inr ⟨hcw,_,_,0,Or.inl ⟨hep,rfl,rfl,rfl⟩,rfl,by
  rw[if_pos rfl]
  unfold expP expT
  rw[List.dropLast_eq_take]⟩))))),rfl⟩⟩)),SM.Post.ahead hba hP⟩
 obtain⟨t,ht⟩:∃t,t=bt (textL (S.b.ep+1).toNat S.b.L):=⟨_,rfl⟩
 have hts:textL (S.b.ep+1).toNat S.b.L=tx t:=by rw[ht];rfl
 rw[←ht] at hex
 rw[hts] at htl hth HAN
 have hl:(tx t).length=t.size:=rfl
 rw[hl] at htl hth HAN
 generalize ({ S with b:={ S.b with ep:=S.b.ep+1 } }:Sc)=S1 at *
 clear hw hba hM hMa hcw hx hF hb0 hS hep hj ht hts hbo hl
 go_enter Tryz.func14,Tryz.ntmps14
 go_wp2_with fail
 rw[←hwa]
 clear hwa k0 k1 k2 kpW
 refine hex.mono ?_
 rintro r w1 ⟨rfl,hP1⟩
 have HPO:Hid (SM.Post m K F (B+1) wa (some S1) w1):=hP1
 clear hex hP1 kp
 go_wp2_with fail
 go_loopw [17,18] (fun u17 u18 W'=>W'=w1∧∃i:Nat,i+1≤t.size∧u18=.int .i64 (i:Nat)∧u17=.string (bt (expP (tx t) i))) (fun _ u18 _=>t.size - (intOf u18).toNat)
 case atStart=>exact⟨rfl,0,by omega,rfl,rfl⟩
 case round =>
  obtain⟨rfl,i,hi,rfl,rfl⟩:=hrel
  have hel:(bt (expP (tx t) i)).size≤60000:=by rw[bt_size];have:=expP_len (tx t) i;omega
  by_cases hlt:i+1<t.size
  ·have hil:i<t.size:=by omega
   have hdl:(i:Int)+1<(t.size:Int):=by omega
   have hdi:(i:Int)<(t.size:Int):=by omega
   have hsj:t[i]'hil=(tx t)[i]'hil:=rfl
   have HN:=expT_snoc (tx t) (i:=i) hil
   by_cases hc:t[i]'hil=10
   ·have d5:((((t[i]'hil).toNat:Nat):Int)==10)=true:=by rw[hc];rfl
    have HB:Hid (bt (expP (tx t) i)++⟨#[59,32]⟩=bt (expP (tx t) (i+1))):=by
     show _=_
     rw[HN,if_pos (hsj ▸ hc),←bt_append]
     rfl
    clear hc hsj HN
    generalize bt (expP (tx t) i)=acc at *
    go_wp2
    exact⟨⟨by trivial,i+1,by omega,by go_num,congrArg Value.string HB.out⟩,by simp[intOf];omega⟩
   ·have d4:¬(t[i]'hil).toNat=10:=fun e=>hc (UInt8.toNat_inj.1 e)
    have d5:((((t[i]'hil).toNat:Nat):Int)==10)=false:=by
     rw[beq_eq_false_iff_ne]
     omega
    have hov:¬9223372036854775807<(bt (expP (tx t) i)).size+(min (i+1) t.size - i):=by omega
    have HB:Hid (bt (expP (tx t) i)++t.extract i (i+1)=bt (expP (tx t) (i+1))):=by
     show _=_
     have e1:t=bt (tx t):=(bt_back t).symm
     have e2:=bt_extract (tx t) i (i+1)
     rw[←e1] at e2
     rw[HN,if_neg (show ¬(tx t)[i]'hil=10 from fun q=>hc (hsj.trans q)),e2,←bt_append]
     rw[show ((tx t).drop i).take (i+1 - i)=[(tx t)[i]'hil] from take_drop_one hil]
    clear hc hsj d4 HN
    generalize bt (expP (tx t) i)=acc at *
    go_wp2
    exact⟨⟨by trivial,i+1,by omega,by go_num,congrArg Value.string HB.out⟩,by simp[intOf];omega⟩
  ·have hdl:¬(i:Int)+1<(t.size:Int):=by omega
   have hd:decide ((i:Int)+1<(t.size:Int))=false:=by simp;omega
   have HAN2:=HAN.out _ HPO.out
   rw[show t.size - 1=i by omega] at HAN2
   have HAN3:Hid (AnsP m K F B (some S) c W (.returned (.string (bt (expP (tx t) i)))) wr):=HAN2
   clear HAN2
   go_wp2
   go_ret
   exact HAN3.out
theorem ints_at {W:World}{v:Value}{l:List Int}(h:Ints W v l)(h0:0<l.length):∃b o c,v=.slice (some ⟨b,o,none⟩) l.length c∧∀k (hk:k<l.length),W.cell? ⟨b,o+k,none⟩=some (.int .i64 l[k]):=by
 rcases h with⟨rfl,_⟩|⟨b,o,c,rfl,hc⟩
 ·cases h0
 ·exact⟨b,o,c,rfl,hc⟩
theorem ints_one {W:World}{v:Value}{k:Nat}(h:Ints W v ([k].map Int.ofNat)):∃b o c,v=.slice (some ⟨b,o,none⟩) 1 c∧W.cell? ⟨b,o,none⟩=some (.int .i64 (k:Nat))∧b<W.heap.size:=by
 obtain⟨b,o,c,e,hc⟩:=ints_at h (by simp)
 have h0:=hc 0 (by simp)
 exact⟨b,o,c,e,h0,World.block_lt_of_cell? W ⟨b,o+0,none⟩ h0⟩
theorem ints_two {W:World}{v:Value}{k z:Nat}(h:Ints W v ([k,z].map Int.ofNat)):∃b o c,v=.slice (some ⟨b,o,none⟩) 2 c∧W.cell? ⟨b,o,none⟩=some (.int .i64 (k:Nat))∧W.cell? ⟨b,o+1,none⟩=some (.int .i64 (z:Nat))∧b<W.heap.size:=by
 obtain⟨b,o,c,e,hc⟩:=ints_at h (by simp)
 have h0:=hc 0 (by simp)
 exact⟨b,o,c,e,h0,hc 1 (by simp),World.block_lt_of_cell? W ⟨b,o+0,none⟩ h0⟩
theorem strs_at {W:World}{v:Value}{xs:List ByteArray}(h:Strs1 W v xs)(h0:0<xs.length):∃b o c,v=.slice (some ⟨b,o,none⟩) xs.length c∧xs.length≤c∧b<W.heap.size∧∀k (hk:k<xs.length),W.cell? ⟨b,o+k,none⟩=some (.string xs[k]):=by
 rcases h with⟨rfl,_⟩|⟨b,o,c,rfl,hcap,hc⟩
 ·cases h0
 ·exact⟨b,o,c,rfl,hcap,World.block_lt_of_cell? W ⟨b,o+0,none⟩ (hc 0 h0),hc⟩
theorem len_two {l:List Nat}(h:l.length=2):∃k z,l=[k,z]:=by
 match l,h with
 | [k,z],_=>exact⟨k,z,rfl⟩
theorem form_n {w v:List UInt8}{h h':Int}{n n':Nat}(hf:formW w=some (h,n))(hw:w=v)(hv:formW v=some (h',n')):h=h'∧n=n':=by
 subst hw
 rw[hv] at hf
 injection hf with e
 injection e with e1 e2
 exact⟨e1.symm,e2.symm⟩
theorem form_words {w:List UInt8}{h:Int}{n:Nat}(hf:formW w=some (h,n)):(w=wHosts∧h = -1∧n=0)∨(w=wMoves∧h = -1∧n=1)∨((w=wTable∨w=wRival∨w=wPick∨w=wTick)∧h=0∧n=1)∨((w=wRing∨w=wJump)∧h=0∧n=2)∨((w=wLook∨w=wDrain)∧h=1∧n=1)∨((w=wUp∨w=wFlows∨w=wExport)∧h=0∧n=0):=by
 unfold formW at hf
 split at hf
 ·injection hf with e;injection e with e1 e2;exact Or.inl ⟨‹_›,e1.symm,e2.symm⟩
 split at hf
 ·injection hf with e;injection e with e1 e2;exact Or.inr (Or.inl ⟨‹_›,e1.symm,e2.symm⟩)
 split at hf
 ·injection hf with e;injection e with e1 e2;exact Or.inr (Or.inr (Or.inl ⟨‹_›,e1.symm,e2.symm⟩))
 split at hf
 ·injection hf with e;injection e with e1 e2;exact Or.inr (Or.inr (Or.inr (Or.inl ⟨‹_›,e1.symm,e2.symm⟩)))
 split at hf
 ·injection hf with e;injection e with e1 e2;exact Or.inr (Or.inr (Or.inr (Or.inr (Or.inl ⟨‹_›,e1.symm,e2.symm⟩))))
 split at hf
 ·injection hf with e;injection e with e1 e2;exact Or.inr (Or.inr (Or.inr (Or.inr (Or.inr ⟨‹_›,e1.symm,e2.symm⟩))))
 ·cases hf
theorem errIs_some {a:Nat→Addr}{W:World}{c:Nat}{pl:Int}{v:Value}(h:ErrIs a W c pl v)(hc:c≠0):∃t x,v=.iface t x:=errIs_pos h hc
theorem asked_any (a:Nat→Addr)(m b o cc:Nat)(xs:List ByteArray)(c:Cm)(hh:Int)(n:Nat)(w:ByteArray)(hv nv:Value)(W:World)(hE:Errs5 a W)(hH:Hst W m b o cc xs)(hI:LineIn W w hv nv c.H (c.N.map Int.ofNat))(hcw:c.w=tx w)(hc:CmOk c hh n)(hw:c.w=wTable∨c.w=wMoves∨c.w=wRing∨c.w=wRival) :
  Calls Tryz.prog 30 #[.pointer (some ⟨m,0,none⟩),.agg #[.string w,hv,nv]] W fun e w'=>∃t,e=.returned (.string (bt t))∧AskR xs c t∧Below W.heap.size W w':=by
 have hform:=hc.form
 have hnum:=hc.num
 have hhi:=hc.hi
 obtain⟨hhs,hns,_,hhl,hhz,hnl⟩:=hI
 obtain⟨sp,sc,rfl,_⟩:=strs1_sl hhs
 rcases hw with hw|hw|hw|hw
 ·have hn1:n=1:=(form_n hform hw (show formW wTable=some (0,1) by decide)).2
  subst hn1
  obtain⟨k,hk⟩:=List.length_eq_one_iff.1 hnum
  rw[hk] at hns
  obtain⟨nb,no,nc,rfl,hcell,_⟩:=ints_one hns
  have hk7:=hhi k (by rw[hk];simp)
  obtain⟨e,pl,hf⟩:=tabFault_ex xs (k:Nat)
  by_cases he:e=0
  ·subst he
   have hpl:pl = -1:=(tabFault_zero hf).1
   subst hpl
   exact (asked_table2 m b o cc xs w sp _ sc nb no nc k W hH (by rw[←hcw];exact hw) hcell hf).mono fun _ _ ⟨r1,r2⟩=>⟨_,r1,Or.inl ⟨hw,k,0,-1,hk,hf,Or.inr ⟨rfl,rfl⟩⟩,r2⟩
  ·exact (asked_table1 m b o cc xs w sp _ sc nb no nc k W hH (by rw[←hcw];exact hw) hcell hk7 e pl hf he (tabFault_le hf)).mono fun _ _ ⟨r1,r2⟩=>⟨_,r1,Or.inl ⟨hw,k,e,pl,hk,hf,Or.inl ⟨he,rfl⟩⟩,r2⟩
 ·have hn1:n=1:=(form_n hform hw (show formW wMoves=some (-1,1) by decide)).2
  subst hn1
  obtain⟨k,hk⟩:=List.length_eq_one_iff.1 hnum
  rw[hk] at hns
  obtain⟨nb,no,nc,rfl,hcell,_⟩:=ints_one hns
  have hk7:=hhi k (by rw[hk];simp)
  have hzs:∀i (h:i<c.H.length),(c.H[i]).size≤1000000:=fun i h=>by have:=hhz _ (List.getElem_mem h);omega
  have hzs3:∀i (h:i<c.H.length),(c.H[i]).size≤300:=fun i h=>by have:=hhz _ (List.getElem_mem h);omega
  obtain⟨e1,p1,hf1⟩:=tabFault_ex xs (k:Nat)
  obtain⟨e2,p2,hf2⟩:=tabFault_ex c.H (k:Nat)
  by_cases he1:e1=0
  ·subst he1
   obtain⟨hp1,h0,hq1,kk,hkk,hpr,h2,h5⟩:=tabFault_zero hf1
   subst hp1
   have hkk':k=kk:=by omega
   subst hkk'
   by_cases he2:e2=0
   ·subst he2
    obtain⟨hp2,h0',hq2,_⟩:=tabFault_zero hf2
    subst hp2
    refine (asked_moves3 m b o cc xs c.H w sp sc nb no nc k W hH (by rw[←hcw];exact hw) hhs hhl hcell hk7 hzs hf1 hf2 (mv xs c.H k k) (by have:=mv_le xs c.H k k;omega) (fun w' hb va vb ha hb'=>moves_good5 a va vb xs c.H k w' (hE.later hb) ha hb' h0 h0' hq1 hq2 hpr h5 hH.s300 hzs3)).mono fun _ _ ⟨r1,r2⟩=>⟨_,r1,Or.inr (Or.inl ⟨hw,k,0,-1,0,-1,hk,hf1,hf2,Or.inr (Or.inr ⟨rfl,rfl,rfl⟩)⟩),r2⟩
   ·refine (asked_moves2 m b o cc xs c.H w sp sc nb no nc k W hH (by rw[←hcw];exact hw) hhs hhl hcell hk7 hzs hf1 e2 p2 hf2 he2 (tabFault_le hf2) (fun w' hb va vb ha hb'=>(moves_bad25 a va vb xs c.H k w' e2 p2 (hE.later hb) ha hb' h0 hq1 hpr h5 hH.s300 hf2 he2 hzs (by omega)).mono fun _ _ ⟨ev,r1,r2,r3⟩=>by
     obtain⟨t,x,rfl⟩:=errIs_some r2 he2
     exact⟨t,x,r1,r3⟩)).mono fun _ _ ⟨r1,r2⟩=>⟨_,r1,Or.inr (Or.inl ⟨hw,k,0,-1,e2,p2,hk,hf1,hf2,Or.inr (Or.inl ⟨rfl,he2,rfl⟩)⟩),r2⟩
  ·refine (asked_moves1 m b o cc xs c.H w sp sc nb no nc k W hH (by rw[←hcw];exact hw) hhs hhl hcell hk7 e1 p1 hf1 he1 (tabFault_le hf1) (fun w' hb va vb ha hb'=>(moves_bad15 a va vb xs k w' e1 p1 (hE.later hb) ha hf1 he1 (by omega) hH.sBig (by have:=hH.le;omega)).mono fun _ _ ⟨ev,r1,r2,r3⟩=>by
     obtain⟨t,x,rfl⟩:=errIs_some r2 he1
     exact⟨t,x,r1,r3⟩)).mono fun _ _ ⟨r1,r2⟩=>⟨_,r1,Or.inr (Or.inl ⟨hw,k,e1,p1,e2,p2,hk,hf1,hf2,Or.inl ⟨he1,rfl⟩⟩),r2⟩
 ·have hn1:n=2:=(form_n hform hw (show formW wRing=some (0,2) by decide)).2
  subst hn1
  obtain⟨k,z,hk⟩:=len_two hnum
  rw[hk] at hns
  obtain⟨nb,no,nc,rfl,hcell,hcell2,_⟩:=ints_two hns
  exact (asked_ring m b o cc xs w sp _ sc nb no nc k z W hH (by rw[←hcw];exact hw) hcell hcell2 (hhi z (by rw[hk];simp))).mono fun _ _ ⟨t,r1,r2,r3⟩=>⟨t,r1,Or.inr (Or.inr (Or.inl ⟨hw,k,z,hk,r2⟩)),r3⟩
 ·have hn1:n=1:=(form_n hform hw (show formW wRival=some (0,1) by decide)).2
  subst hn1
  obtain⟨k,hk⟩:=List.length_eq_one_iff.1 hnum
  rw[hk] at hns
  obtain⟨nb,no,nc,rfl,hcell,_⟩:=ints_one hns
  exact (asked_rival m b o cc xs w sp _ sc nb no nc k W hH (by rw[←hcw];exact hw) hcell (hhi k (by rw[hk];simp))).mono fun _ _ ⟨r1,r2⟩=>⟨_,r1,Or.inr (Or.inr (Or.inr ⟨hw,k,hk,rfl⟩)),r2⟩
theorem ans_asked (m K:Nat)(F:Nat→Prop)(B:Nat)(c:Cm)(w:ByteArray)(a:Nat→Addr)(S:Sc)(hh:Int)(n:Nat)(hv nv:Value)(W:World)(hM:SM W m K F B (some S))(hK:K≤W.heap.size)(hE:Errs5 a W)(hI:LineIn W w hv nv c.H (c.N.map Int.ofNat))(hcw:c.w=tx w)(hc:CmOk c hh n)(hw:c.w=wTable∨c.w=wMoves∨c.w=wRing∨c.w=wRival) :
  Calls Tryz.prog 14 #[.pointer (some ⟨m,0,none⟩),.agg #[.string w,hv,nv]] W (AnsP m K F B (some S) c W):=by
 have q0:=word_not (s:=w) (w:=wHosts) (by rw[←hcw];rcases hw with e|e|e|e<;>rw[e]<;>decide)
 unfold wHosts at q0
 have q1:=word_not (s:=w) (w:=wJump) (by rw[←hcw];rcases hw with e|e|e|e<;>rw[e]<;>decide)
 unfold wJump at q1
 have q2:=word_not (s:=w) (w:=wPick) (by rw[←hcw];rcases hw with e|e|e|e<;>rw[e]<;>decide)
 unfold wPick at q2
 have q3:=word_not (s:=w) (w:=wLook) (by rw[←hcw];rcases hw with e|e|e|e<;>rw[e]<;>decide)
 unfold wLook at q3
 have q4:=word_not (s:=w) (w:=wDrain) (by rw[←hcw];rcases hw with e|e|e|e<;>rw[e]<;>decide)
 unfold wDrain at q4
 have q5:=word_not (s:=w) (w:=wTick) (by rw[←hcw];rcases hw with e|e|e|e<;>rw[e]<;>decide)
 unfold wTick at q5
 have q6:=word_not (s:=w) (w:=wUp) (by rw[←hcw];rcases hw with e|e|e|e<;>rw[e]<;>decide)
 unfold wUp at q6
 have q7:=word_not (s:=w) (w:=wFlows) (by rw[←hcw];rcases hw with e|e|e|e<;>rw[e]<;>decide)
 unfold wFlows at q7
 have q8:=word_not (s:=w) (w:=wExport) (by rw[←hcw];rcases hw with e|e|e|e<;>rw[e]<;>decide)
 unfold wExport at q8
 obtain⟨wa,hwa⟩:∃wa,wa=W.alloc (.cells #[.string w,hv,nv] 36):=⟨_,rfl⟩
 have hba:Below W.heap.size W wa:=by rw[hwa];exact (Below.refl _ _).alloc (Nat.le_refl _) _
 have k0:wa.cell? ⟨W.heap.size,0,none⟩=some (.string w):=by rw[hwa];simp
 have k1:wa.cell? ⟨W.heap.size,1,none⟩=some (hv):=by rw[hwa];simp
 have k2:wa.cell? ⟨W.heap.size,2,none⟩=some (nv):=by rw[hwa];simp
 have hKa:=Nat.le_trans hK hba.size
 have hMa:=hM.later hba hK
 have HBA:Hid (Below W.heap.size W wa):=hba
 have hb0:Below wa.heap.size wa wa.drew:=below_drewN (Below.refl _ _) 1
 obtain⟨x,hb,ho,hcc,hx,hF⟩:=hMa.some_ S rfl
 have kp:=hx.c0
 rw[hwa] at kp
 have hask:=asked_any a m hb ho hcc S.hosts c hh n w hv nv wa (hE.later hba) hx.hst ⟨hI.h.later hba,hI.n.later hba,hI.ws,hI.hl,hI.hs,hI.nl⟩ hcw hc hw
 have HAN:Hid (∀w' t,AskR S.hosts c t→Below wa.heap.size wa w'→AnsP m K F B (some S) c W (.returned (.string (bt t))) w'):=fun w' t hA hb=>⟨some S,t,rfl,Or.inr (Or.inr (Or.inr ⟨by rcases hw with e|e|e|e<;>rw[e]<;>decide,by rcases hw with e|e|e|e<;>rw[e]<;>decide,S,rfl,Or.inr ⟨hA,rfl⟩⟩)),(SM.Post.same (hM.more (by omega)) (below_then hba hb) hK)⟩
 clear hw hba hM hMa hx hF hb0 hE hI hc hcw k0 k1 k2
 go_enter Tryz.func14,Tryz.ntmps14
 go_wp2_with fail
 rw[←hwa]
 clear hwa
 refine hask.mono ?_
 rintro r w1 ⟨t,rfl,hA,hb1⟩
 have HA:Hid (AskR S.hosts c t):=hA
 clear hask hA
 go_wp2
 go_ret
 exact HAN.out _ _ HA.out hb1
theorem answer_any (a:Nat→Addr)(W0 W:World)(m:Nat)(F:Nat→Prop)(B:Nat)(st:Option Sc)(c:Cm)(hh:Int)(n j:Nat)(w:ByteArray)(hv nv:Value)(hE:Errs5 a W)(hM:SM W m W0.heap.size F B st)(hb:Below W0.heap.size W0 W)(hI:LineIn W0 w hv nv c.H (c.N.map Int.ofNat))(hcw:c.w=tx w)(hc:CmOk c hh n)(hS:StB st j)(hj:j≤1000)(hB:B≤99999) :
  Calls Tryz.prog 14 #[.pointer (some ⟨m,0,none⟩),.agg #[.string w,hv,nv]] W (AnsP m W0.heap.size F B st c W):=by
 have hK:W0.heap.size≤W.heap.size:=hb.size
 have hIW:LineIn W w hv nv c.H (c.N.map Int.ofNat):=⟨hI.h.later hb,hI.n.later hb,hI.ws,hI.hl,hI.hs,hI.nl⟩
 have hnum:=hc.num
 have hhi:=hc.hi
 obtain⟨sp,sc,hsl,_⟩:=strs1_sl hI.h
 have hns:=hI.n
 have hhs:=hI.h
 by_cases hwh:c.w=wHosts
 ·have hne:=hc.any (by have:=(form_n hc.form hwh (show formW wHosts=some (-1,0) by decide)).1;omega)
  have hpos:0<c.H.length:=List.length_pos_iff.2 hne
  obtain⟨sb,so,s2,rfl,hcap,hlo,_⟩:=strs_at hhs hpos
  obtain⟨e,pl,hf⟩:=isFault_ex c.H
  by_cases he:e=0
  ·subst he
   have hpl:pl = -1:=by
    rcases hf with⟨_,q,_⟩|⟨_,i,hi,_,_,⟨_,q⟩|⟨_,_,q⟩⟩|⟨_,_,_,q⟩
    ·cases q
    ·cases q
    ·cases q
    ·exact q
   subst hpl
   exact ans_hosts2 m _ F B c w c.H sb so s2 nv st W hM hK (by rw[←hcw];exact hwh) hwh rfl hIW.h hpos hI.hl hI.hs hlo hcap hf
  ·exact ans_hosts1 m _ F B c w c.H sb so s2 nv st e pl W hM hK (by rw[←hcw];exact hwh) hwh rfl hIW.h hpos hI.hl hI.hs hf he
 by_cases hwj:c.w=wJump
 ·have hn2:n=2:=(form_n hc.form hwj (show formW wJump=some (0,2) by decide)).2
  subst hn2
  obtain⟨k,z,hk⟩:=len_two hnum
  rw[hk] at hns
  obtain⟨nb,no,nc,rfl,c1,c2,_⟩:=ints_two hns
  subst hsl
  exact ans_jump m _ F B c w sp _ sc nb no nc k z st W hM hK (by rw[←hcw];exact hwj) hwj hk (below_cell hb c1) (below_cell hb c2) (hhi k (by rw[hk];simp)) (hhi z (by rw[hk];simp))
 cases st with
 | none=>exact ans_none m _ F B c w hv nv W hM hK (by rw[←hcw];exact hwh) (by rw[←hcw];exact hwj) hcw
 | some S =>
  have hSB:=hS S rfl
  rcases form_words hc.form with⟨hw,_⟩|⟨hw,_⟩|⟨hw,rfl,rfl⟩|⟨hw,rfl,rfl⟩|⟨hw,rfl,rfl⟩|⟨hw,rfl,rfl⟩
  ·exact absurd hw hwh
  ·exact ans_asked m _ F B c w a S hh n hv nv W hM hK hE hIW hcw hc (Or.inr (Or.inl hw))
  ·obtain⟨k,hk⟩:=List.length_eq_one_iff.1 hnum
   have hk7:=hhi k (by rw[hk];simp)
   rcases hw with hw|hw|hw|hw
   ·exact ans_asked m _ F B c w a S _ _ hv nv W hM hK hE hIW hcw hc (Or.inl hw)
   ·exact ans_asked m _ F B c w a S _ _ hv nv W hM hK hE hIW hcw hc (Or.inr (Or.inr (Or.inr hw)))
   ·rw[hk] at hns
    obtain⟨nb,no,nc,rfl,c1,hlt⟩:=ints_one hns
    subst hsl
    exact ans_pick m _ F B c w S sp _ sc nb no nc k W hM hK hSB.ok (by rw[←hcw];exact hw) hw hk (below_cell hb c1) hlt hk7
   ·rw[hk] at hns
    obtain⟨nb,no,nc,rfl,c1,hlt⟩:=ints_one hns
    subst hsl
    exact ans_tick m _ F B c w S sp _ sc nb no nc k W hM hK (by rw[←hcw];exact hw) hw hk (below_cell hb c1) hk7 hSB.n0 (by have:=hSB.n9;omega)
  ·rcases hw with hw|hw
   ·exact ans_asked m _ F B c w a S _ _ hv nv W hM hK hE hIW hcw hc (Or.inr (Or.inr (Or.inl hw)))
   ·exact absurd hw hwj
  ·obtain⟨k,hk⟩:=List.length_eq_one_iff.1 hnum
   obtain⟨h,hH⟩:=List.length_eq_one_iff.1 (show c.H.length=1 by have:=hc.one (by decide);omega)
   rw[hk] at hns
   obtain⟨nb,no,nc,rfl,c1,hlt⟩:=ints_one hns
   obtain⟨sb,so,s2,he,_,hlo,hx⟩:=strs_at hhs (by rw[hH];simp)
   have hx0:=hx 0 (by rw[hH];simp)
   have e1:c.H[0]'(by rw[hH];simp)=h:=by simp[hH]
   rw[e1] at hx0
   have e2:c.H.length=1:=by rw[hH];rfl
   rw[e2] at he
   subst he
   rcases hw with hw|hw
   ·exact ans_look m _ F B c w S sb so s2 nb no nc h k W hM hK hSB.ok (by rw[←hcw];exact hw) hw hH hk (below_cell hb hx0) (below_cell hb c1) hlo hlt hB
   ·exact ans_drain m _ F B c w S sb so s2 nb no nc h k W hM hK hSB.ok (by rw[←hcw];exact hw) hw hH hk (below_cell hb hx0) (below_cell hb c1) hlo hlt hB
  ·rcases hw with hw|hw|hw
   ·exact ans_up m _ F B c w S hv nv W hM hK hSB.ok (by rw[←hcw];exact hw) hw
   ·exact ans_flows m _ F B c w S hv nv j W hM hK hSB (by rw[←hcw];exact hw) hw
   ·exact ans_export m _ F B c w S hv nv j W hM hK hSB (by omega) (by rw[←hcw];exact hw) hw
end Go.Proofs.YtfhmfjcpggddkaaGreatDoor
