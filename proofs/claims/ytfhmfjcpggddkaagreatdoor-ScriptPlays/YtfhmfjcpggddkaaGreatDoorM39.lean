/- The law's model of a script: answers without hosts, of a jump, of hosts. -/
import Derived.Test.YtfhmfjcpggddkaaGreatDoorM38
set_option maxHeartbeats 20000000
set_option maxRecDepth 100000
namespace Go.Proofs.YtfhmfjcpggddkaaGreatDoor
open Go.RowKit Lh
theorem ans_none (m K:Nat)(F:Nat→Prop)(B:Nat)(c:Cm)(w:ByteArray)(hv nv:Value)(W:World)(hM:SM W m K F B none)(hK:K≤W.heap.size)(hHosts:tx w≠wHosts)(hJump:tx w≠wJump)(hcw:c.w=tx w) :
  Calls Tryz.prog 14 #[.pointer (some ⟨m,0,none⟩),.agg #[.string w,hv,nv]] W (AnsP m K F B none c W):=by
 have q0:=word_not (s:=w) (w:=wHosts) hHosts
 unfold wHosts at q0
 have q1:=word_not (s:=w) (w:=wJump) hJump
 unfold wJump at q1
 obtain⟨wa,hwa⟩:∃wa,wa=W.alloc (.cells #[.string w,hv,nv] 36):=⟨_,rfl⟩
 have hba:Below W.heap.size W wa:=by rw[hwa];exact (Below.refl _ _).alloc (Nat.le_refl _) _
 have k0:wa.cell? ⟨W.heap.size,0,none⟩=some (.string w):=by rw[hwa];simp
 have k1:wa.cell? ⟨W.heap.size,1,none⟩=some (hv):=by rw[hwa];simp
 have k2:wa.cell? ⟨W.heap.size,2,none⟩=some (nv):=by rw[hwa];simp
 have hKa:=Nat.le_trans hK hba.size
 have hMa:=hM.later hba hK
 have HBA:Hid (Below W.heap.size W wa):=hba
 have hb0:Below wa.heap.size wa wa.drew:=below_drewN (Below.refl _ _) 1
 obtain⟨kp,_,_⟩:=hMa.none_ rfl
 rw[hwa] at kp
 have het:=errorText_any 5 (by decide) (by decide) wa
 have HAN:Hid (∀w',Below wa.heap.size wa w'→AnsP m K F B none c W (.returned (.string (bt (errT 5)))) w'):=fun w' hb=>⟨none,_,rfl,Or.inr (Or.inr (Or.inl ⟨by rw[hcw];exact hHosts,by rw[hcw];exact hJump,rfl,rfl,rfl⟩)),(SM.Post.same (hM.more (by omega)) (below_then hba hb) hK)⟩
 generalize bt (errT 5)=et at *
 clear hHosts hJump hcw hba hM hMa hb0
 go_enter Tryz.func14,Tryz.ntmps14
 go_wp2_with fail
 rw[←hwa]
 clear hwa
 refine het.mono ?_
 rintro r w1 ⟨rfl,hb1⟩
 clear het
 go_wp2
 go_ret
 exact HAN.out _ hb1
theorem ans_jump (m K:Nat)(F:Nat→Prop)(B:Nat)(c:Cm)(w:ByteArray)(hp:Option Addr)(hn hc:Nat)(nb no nc:Nat)(k z:Nat)(st:Option Sc)(W:World)(hM:SM W m K F B st)(hK:K≤W.heap.size)(hw:tx w=wJump)(hcw:c.w=wJump)(hcN:c.N=[k,z])(hk:W.cell? ⟨nb,no,none⟩=some (.int .i64 (k:Nat)))(hz:W.cell? ⟨nb,no+1,none⟩=some (.int .i64 (z:Nat)))(hk7:k≤9999999)(hz7:z≤9999999) :
  Calls Tryz.prog 14 #[.pointer (some ⟨m,0,none⟩),.agg #[.string w,.slice hp hn hc,.slice (some ⟨nb,no,none⟩) 2 nc]] W (AnsP m K F B st c W):=by
 have q0:=word_not (s:=w) (w:=wHosts) (by rw[hw];decide)
 unfold wHosts at q0
 have q1:=word_is (s:=w) (w:=wJump) hw
 unfold wJump at q1
 obtain⟨wa,hwa⟩:∃wa,wa=W.alloc (.cells #[.string w,.slice hp hn hc,.slice (some ⟨nb,no,none⟩) 2 nc] 36):=⟨_,rfl⟩
 have hba:Below W.heap.size W wa:=by rw[hwa];exact (Below.refl _ _).alloc (Nat.le_refl _) _
 have k0:wa.cell? ⟨W.heap.size,0,none⟩=some (.string w):=by rw[hwa];simp
 have k1:wa.cell? ⟨W.heap.size,1,none⟩=some (.slice hp hn hc):=by rw[hwa];simp
 have k2:wa.cell? ⟨W.heap.size,2,none⟩=some (.slice (some ⟨nb,no,none⟩) 2 nc):=by rw[hwa];simp
 have hKa:=Nat.le_trans hK hba.size
 have hMa:=hM.later hba hK
 have HBA:Hid (Below W.heap.size W wa):=hba
 have hb0:Below wa.heap.size wa wa.drew:=below_drewN (Below.refl _ _) 1
 have hka:=below_cell hba hk
 have hza:=below_cell hba hz
 have hwr:=wrap_u7 k hk7
 have HC:Hid (∀w',Below wa.heap.size wa w'→w'.cell? ⟨W.heap.size,2,none⟩=some (.slice (some ⟨nb,no,none⟩) 2 nc)∧w'.cell? ⟨nb,no,none⟩=some (.int .i64 (k:Nat))∧w'.cell? ⟨nb,no+1,none⟩=some (.int .i64 (z:Nat))):=fun w' hb=>⟨below_cell hb k2,below_cell hb hka,below_cell hb hza⟩
 obtain⟨r,e,hre,hr9,he9,hcall⟩:∃(r e:Nat),((¬(1≤z∧z≤1048576)∧e=2)∨((1≤z∧z≤1048576)∧e=0∧r=jb k z))∧r<1000000000000000∧e≤9∧∀w',Below wa.heap.size wa w'→Calls Tryz.prog 22 #[.int .u64 (k:Nat),.int .i64 (z:Nat)] w' fun q w''=>q=.returned (.tuple #[.int .i64 (r:Nat),.int .i64 (e:Nat)])∧Below wa.heap.size wa w'':=by
  by_cases hz1:1≤z∧z≤1048576
  ·refine⟨jb k z,0,Or.inr ⟨hz1,rfl,rfl⟩,?_,by decide,fun w' hb=>(bucketOf_good k z w' hz1.1 hz1.2).mono fun _ _ ⟨r1,r2⟩=>⟨r1,below_then hb r2⟩⟩
   have:=jb_lt (k:=k) hz1.1
   omega
  ·exact⟨0,2,Or.inl ⟨hz1,rfl⟩,by decide,by decide,fun w' hb=>(bucketOf_bad k (z:Nat) w' (by omega)).mono fun _ _ ⟨r1,r2⟩=>⟨r1,below_then hb r2⟩⟩
 have HDE:Hid (∀w':World,Calls Tryz.prog 19 #[.int .i64 (r:Nat)] w' fun q w''=>q=.returned (.string (bt (decL r)))∧Below w'.heap.size w' w''):=fun w'=>decimalM_any r hr9 w'
 have HOE:Hid (∀w':World,Calls Tryz.prog 23 #[.int .i64 (e:Nat),.string (bt (decL r))] w' fun q w''=>q=.returned (.string (bt (if e=0 then decL r else errT e)))∧Below w'.heap.size w' w''):=fun w'=>orElse_at e he9 (decL r) _ rfl w'
 have HAN:Hid (∀w',Below wa.heap.size wa w'→AnsP m K F B st c W (.returned (.string (bt (if e=0 then decL r else errT e)))) w'):=fun w' hb=>by
  refine⟨st,_,rfl,Or.inr (Or.inl ⟨hcw,rfl,k,z,hcN,?_⟩),(SM.Post.same (hM.more (by omega)) (below_then hba hb) hK)⟩
  rcases hre with⟨q,rfl⟩|⟨q,rfl,rfl⟩
  ·exact Or.inl ⟨q,rfl⟩
  ·exact Or.inr ⟨q,rfl⟩
 generalize bt (if e=0 then decL r else errT e)=ans at *
 generalize bt (decL r)=dr at *
 clear hw hba hM hMa hk hz hre hr9 he9 hcw hcN
 go_enter Tryz.func14,Tryz.ntmps14
 go_wp2_with fail
 rw[←hwa]
 clear hwa
 go_region_held3 (fun w'=>w'.cell? ⟨W.heap.size,2,none⟩=some (.slice (some ⟨nb,no,none⟩) 2 nc)∧w'.cell? ⟨nb,no,none⟩=some (.int .i64 (k:Nat))∧w'.cell? ⟨nb,no+1,none⟩=some (.int .i64 (z:Nat)))
  (first|exact HC.out _ (by assumption))
  (first
   | (go_at_call 22;refine (hcall _ (by assumption)).mono ?_;rintro q w1 ⟨rfl,hb1⟩))
 have hd:=HDE.out w1
 clear hcall
 go_wp2_with fail
 refine hd.mono ?_
 rintro q w2 ⟨rfl,hb2⟩
 have ho:=HOE.out w2
 clear hd
 go_wp2_with fail
 refine ho.mono ?_
 rintro q w3 ⟨rfl,hb3⟩
 have hb13:=below_then hb1 (below_then hb2 hb3)
 clear ho
 go_wp2
 go_ret
 exact HAN.out _ hb13
theorem ans_hosts1 (m K:Nat)(F:Nat→Prop)(B:Nat)(c:Cm)(w:ByteArray)(xs:List ByteArray)(sb so sc:Nat)(nv:Value)(st:Option Sc)(e:Nat)(pl:Int)(W:World)(hM:SM W m K F B st)(hK:K≤W.heap.size)(hw:tx w=wHosts)(hcw:c.w=wHosts)(hcH:c.H=xs)(hX:Strs1 W (.slice (some ⟨sb,so,none⟩) xs.length sc) xs)(h0:0<xs.length)(h30:xs.length≤30)(hs:∀s∈xs,s.size≤60)(hf:IsFault xs e pl)(hne:e≠0) :
  Calls Tryz.prog 14 #[.pointer (some ⟨m,0,none⟩),.agg #[.string w,.slice (some ⟨sb,so,none⟩) xs.length sc,nv]] W (AnsP m K F B st c W):=by
 have q0:=word_is (s:=w) (w:=wHosts) hw
 unfold wHosts at q0
 obtain⟨wa,hwa⟩:∃wa,wa=W.alloc (.cells #[.string w,.slice (some ⟨sb,so,none⟩) xs.length sc,nv] 36):=⟨_,rfl⟩
 have hba:Below W.heap.size W wa:=by rw[hwa];exact (Below.refl _ _).alloc (Nat.le_refl _) _
 have k0:wa.cell? ⟨W.heap.size,0,none⟩=some (.string w):=by rw[hwa];simp
 have k1:wa.cell? ⟨W.heap.size,1,none⟩=some (.slice (some ⟨sb,so,none⟩) xs.length sc):=by rw[hwa];simp
 have k2:wa.cell? ⟨W.heap.size,2,none⟩=some (nv):=by rw[hwa];simp
 have hKa:=Nat.le_trans hK hba.size
 have hMa:=hM.later hba hK
 have HBA:Hid (Below W.heap.size W wa):=hba
 have hb0:Below wa.heap.size wa wa.drew:=below_drewN (Below.refl _ _) 1
 have hcal:Calls Tryz.prog 20 #[.slice (some ⟨sb,so,none⟩) xs.length sc,.int .i64 31,.int .i64 20,.int .i64 2,.int .i64 2] wa fun r w''=>r=.returned (.agg #[.int .i64 (e:Nat),.int .i64 pl])∧Below wa.heap.size wa w'':=balF_bad _ xs wa e pl hne (hX.later hba) h0 hf (fun k hk=>Nat.le_trans (hs _ (List.getElem_mem hk)) (by decide)) (by omega)
 have d0:0<e:=by omega
 have h9:=isFault_le hf
 have HET:Hid (∀w',Calls Tryz.prog 10 #[.int .i64 (e:Nat)] w' fun r w''=>r=.returned (.string (bt (errT e)))∧Below w'.heap.size w' w''):=fun w'=>errorText_any e (by omega) h9 w'
 have HAN:Hid (∀w',Below wa.heap.size wa w'→AnsP m K F B st c W (.returned (.string (bt (errT e)))) w'):=fun w' hb=>⟨st,_,rfl,Or.inl ⟨hcw,e,pl,by rw[hcH];exact hf,Or.inl ⟨hne,rfl,rfl⟩⟩,(SM.Post.same (hM.more (by omega)) (below_then hba hb) hK)⟩
 generalize bt (errT e)=et at *
 clear hw hba hM hMa hf hcw hcH hX hs hb0 hne h9
 go_enter Tryz.func14,Tryz.ntmps14
 go_wp2_with fail
 rw[←hwa]
 clear hwa
 refine hcal.mono ?_
 rintro r w1 ⟨rfl,hb1⟩
 have kf:(w1.alloc (.cells #[.int .i64 (e:Nat),.int .i64 pl] 59)).cell? ⟨w1.heap.size,0,none⟩=some (.int .i64 (e:Nat)):=by simp
 have hb2:=below_al hb1 (.cells #[.int .i64 (e:Nat),.int .i64 pl] 59)
 have het:=HET.out (w1.alloc (.cells #[.int .i64 (e:Nat),.int .i64 pl] 59))
 clear hcal
 go_wp2_with fail
 refine het.mono ?_
 rintro r w3 ⟨rfl,hb3⟩
 have hb4:=below_then hb2 hb3
 clear het hb1 hb2 hb3 kf
 go_wp2
 go_ret
 exact HAN.out _ hb4
theorem ans_hosts2 (m K:Nat)(F:Nat→Prop)(B:Nat)(c:Cm)(w:ByteArray)(xs:List ByteArray)(sb so sc:Nat)(nv:Value)(st:Option Sc)(W:World)(hM:SM W m K F B st)(hK:K≤W.heap.size)(hw:tx w=wHosts)(hcw:c.w=wHosts)(hcH:c.H=xs)(hX:Strs1 W (.slice (some ⟨sb,so,none⟩) xs.length sc) xs)(h0:0<xs.length)(h30:xs.length≤30)(hs:∀s∈xs,s.size≤60)(hlo:sb<K)(hcap:xs.length≤sc)(hf:IsFault xs 0 (-1)) :
  Calls Tryz.prog 14 #[.pointer (some ⟨m,0,none⟩),.agg #[.string w,.slice (some ⟨sb,so,none⟩) xs.length sc,nv]] W (AnsP m K F B st c W):=by
 have q0:=word_is (s:=w) (w:=wHosts) hw
 unfold wHosts at q0
 obtain⟨wa,hwa⟩:∃wa,wa=W.alloc (.cells #[.string w,.slice (some ⟨sb,so,none⟩) xs.length sc,nv] 36):=⟨_,rfl⟩
 have hba:Below W.heap.size W wa:=by rw[hwa];exact (Below.refl _ _).alloc (Nat.le_refl _) _
 have k0:wa.cell? ⟨W.heap.size,0,none⟩=some (.string w):=by rw[hwa];simp
 have k1:wa.cell? ⟨W.heap.size,1,none⟩=some (.slice (some ⟨sb,so,none⟩) xs.length sc):=by rw[hwa];simp
 have k2:wa.cell? ⟨W.heap.size,2,none⟩=some (nv):=by rw[hwa];simp
 have hKa:=Nat.le_trans hK hba.size
 have hMa:=hM.later hba hK
 have HBA:Hid (Below W.heap.size W wa):=hba
 have hb0:Below wa.heap.size wa wa.drew:=below_drewN (Below.refl _ _) 1
 obtain⟨h12,_,_,_⟩:=fault_facts hf
 have hcal:Calls Tryz.prog 20 #[.slice (some ⟨sb,so,none⟩) xs.length sc,.int .i64 31,.int .i64 20,.int .i64 2,.int .i64 2] wa fun r w''=>r=.returned (.agg #[.int .i64 0,.int .i64 (-1)])∧Below wa.heap.size wa w'':=balF_good _ xs wa (hX.later hba) h0 hf (fun k hk=>Nat.le_trans (hs _ (List.getElem_mem hk)) (by decide)) (by omega)
 have HXS:Hid (∀w',Below W.heap.size W w'→∀k (h:k<xs.length),w'.cell? ⟨sb,so+k,none⟩=some (.string xs[k])):=fun w' hb k hk=>by
  obtain⟨b,o,c,e,hx⟩:=strs1_pos hX h0
  injection e with e1 _ _
  injection e1 with e1
  injection e1 with e1 e2
  subst e1
  subst e2
  exact below_cell hb (hx k hk)
 have HNB:Hid (∀w',Below W.heap.size W w'→Calls Tryz.prog 21 #[.slice (some ⟨sb,so,none⟩) xs.length sc,.int .i64 31,.int .i64 20,.int .i64 2,.int .i64 2] w' fun e w''=>∃x:Mm,e=.returned (.pointer (some ⟨x.m,0,none⟩))∧x.At 0 (newB xs) w''∧(∀b,x.F b→w'.heap.size≤b)∧Below w'.heap.size w' w''):=fun w' hb=>(mnew (some ⟨sb,so,none⟩) sc xs 31 20 2 2 w' (fun k hk=>⟨sb,so,rfl,HXS.out w' hb k hk⟩) h12 (by decide) (by decide)).mono fun _ _ ⟨m',hm,fm,lv,r1,r2,r3,r4⟩=>⟨⟨m',hm,fm,newM xs,lv,.slice none 0 0,.slice none 0 0⟩,r1,r2,r3,r4⟩
 have HSZ:Hid (∀s∈xs,s.size≤60):=hs
 have HF0:Hid (IsFault xs 0 (-1)):=hf
 have HCM:Hid (CmR nwB st c (some ⟨xs,newB xs,0⟩) tOk):=Or.inl ⟨hcw,0,-1,by rw[hcH];exact hf,Or.inr ⟨rfl,by rw[hcH],rfl⟩⟩
 have HMA:Hid (SM wa m K F B st):=hMa
 have HM0:Hid (SM W m K F B st):=hM
 clear hw hba hM hMa hf hcw hcH hX hs hb0
 go_enter Tryz.func14,Tryz.ntmps14
 go_wp2_with fail
 rw[←hwa]
 clear hwa
 refine hcal.mono ?_
 rintro r w1 ⟨rfl,hb1⟩
 have kf:(w1.alloc (.cells #[.int .i64 0,.int .i64 (-1)] 59)).cell? ⟨w1.heap.size,0,none⟩=some (.int .i64 0):=by simp
 have hb2:=below_al hb1 (.cells #[.int .i64 0,.int .i64 (-1)] 59)
 have j1:=below_cell hb2 k1
 have hnb:=HNB.out _ (below_then HBA.out hb2)
 clear hcal k0 k2 hb1
 go_wp2_with fail
 generalize (w1.alloc (.cells #[.int .i64 0,.int .i64 (-1)] 59))=w2 at *
 refine hnb.mono ?_
 rintro r w3 ⟨x,rfl,hxA,hxF,hb3⟩
 have l1:=below_cell hb3 j1
 have hb23:=below_then hb2 hb3
 have hM3:=HMA.out.later hb23 hKa
 have hm3:=hM3.mlt
 obtain⟨⟨v0,e0⟩,⟨v1,e1⟩,⟨v2,e2⟩⟩:(∃v,w3.cell? ⟨m,0,none⟩=some v)∧(∃v,w3.cell? ⟨m,1,none⟩=some v)∧∃v,w3.cell? ⟨m,2,none⟩=some v:=by
  cases st with
  | none=>obtain⟨a,b,c⟩:=hM3.none_ rfl;exact⟨⟨_,a⟩,⟨_,b⟩,⟨_,c⟩⟩
  | some S=>obtain⟨_,_,_,_,hx,_⟩:=hM3.some_ S rfl;exact⟨⟨_,hx.c0⟩,⟨_,hx.hst.cell⟩,⟨_,hx.c2⟩⟩
 have f0:=hM3.fz 0
 have f1:=hM3.fz 1
 have f2:=hM3.fz 2
 have hmW:m<W.heap.size:=HM0.out.mlt
 have hne:¬W.heap.size=m:=by omega
 have hneL:¬m=W.heap.size:=by omega
 have HFIN:Hid (AnsP m K F B st c W (.returned (.string (bt tOk))) (((w3.setCell ⟨m,0,none⟩ (.pointer (some ⟨x.m,0,none⟩))).setCell ⟨m,1,none⟩ (.slice (some ⟨sb,so,none⟩) xs.length sc)).setCell ⟨m,2,none⟩ (.int .i64 0))):=by
  have hbW3:=below_then HBA.out hb23
  have ho:∀b,b≠m→(((w3.setCell ⟨m,0,none⟩ (.pointer (some ⟨x.m,0,none⟩))).setCell ⟨m,1,none⟩ (.slice (some ⟨sb,so,none⟩) xs.length sc)).setCell ⟨m,2,none⟩ (.int .i64 0)).heap[b]?=w3.heap[b]?:=fun b hb=>((Below.heap_setCell _ _ _ b hb).trans (Below.heap_setCell _ _ _ b hb)).trans (Below.heap_setCell _ _ _ b hb)
  have hsz:(((w3.setCell ⟨m,0,none⟩ (.pointer (some ⟨x.m,0,none⟩))).setCell ⟨m,1,none⟩ (.slice (some ⟨sb,so,none⟩) xs.length sc)).setCell ⟨m,2,none⟩ (.int .i64 0)).heap.size=w3.heap.size:=by simp
  have c0:(((w3.setCell ⟨m,0,none⟩ (.pointer (some ⟨x.m,0,none⟩))).setCell ⟨m,1,none⟩ (.slice (some ⟨sb,so,none⟩) xs.length sc)).setCell ⟨m,2,none⟩ (.int .i64 0)).cell? ⟨m,0,none⟩=some (.pointer (some ⟨x.m,0,none⟩)):=by simp[go_sem,e0]
  have c1:(((w3.setCell ⟨m,0,none⟩ (.pointer (some ⟨x.m,0,none⟩))).setCell ⟨m,1,none⟩ (.slice (some ⟨sb,so,none⟩) xs.length sc)).setCell ⟨m,2,none⟩ (.int .i64 0)).cell? ⟨m,1,none⟩=some (.slice (some ⟨sb,so,none⟩) xs.length sc):=by simp[go_sem,e1]
  have c2:(((w3.setCell ⟨m,0,none⟩ (.pointer (some ⟨x.m,0,none⟩))).setCell ⟨m,1,none⟩ (.slice (some ⟨sb,so,none⟩) xs.length sc)).setCell ⟨m,2,none⟩ (.int .i64 0)).cell? ⟨m,2,none⟩=some (.int .i64 0):=by simp[go_sem,e2]
  have fz:∀k,(((w3.setCell ⟨m,0,none⟩ (.pointer (some ⟨x.m,0,none⟩))).setCell ⟨m,1,none⟩ (.slice (some ⟨sb,so,none⟩) xs.length sc)).setCell ⟨m,2,none⟩ (.int .i64 0)).frozen? ⟨m,k,none⟩=false:=fun k=>by rw[World.frozen?_setCell,World.frozen?_setCell,World.frozen?_setCell];exact hM3.fz k
  have htt:Tur (fun b=>b=m) w3 (((w3.setCell ⟨m,0,none⟩ (.pointer (some ⟨x.m,0,none⟩))).setCell ⟨m,1,none⟩ (.slice (some ⟨sb,so,none⟩) xs.length sc)).setCell ⟨m,2,none⟩ (.int .i64 0)):=⟨rfl,rfl,rfl,by rw[hsz];exact Nat.le_refl _,fun b _ hq=>ho b hq⟩
  have hxs:=HXS.out _ hbW3
  generalize (((w3.setCell ⟨m,0,none⟩ (.pointer (some ⟨x.m,0,none⟩))).setCell ⟨m,1,none⟩ (.slice (some ⟨sb,so,none⟩) xs.length sc)).setCell ⟨m,2,none⟩ (.int .i64 0))=wf at *
  have hFm:=HM0.out.own
  have hKm:=(HM0.out.lt m hFm).1
  have hs2:=Nat.le_trans HBA.out.size hb2.size
  have hxlt:∀z,x.F z→w2.heap.size≤z∧z<w3.heap.size:=fun z hz=>⟨hxF z hz,MB.lt hxA z hz⟩
  refine⟨some ⟨xs,newB xs,0⟩,tOk,rfl,HCM.out,fun z=>z=m∨x.F z,⟨fz,Or.inl rfl,fun z hz=>?_,(fun e=>by cases e),fun T e=>?_⟩,((Tur.of_below (F:=F) hbW3).trans htt fun b hb=>Or.inl (by rw[hb];exact hFm)),fun z hz=>?_⟩
  ·rcases hz with rfl|hz
   ·exact⟨hKm,by rw[hsz];exact hm3⟩
   ·have:=hxlt z hz
    exact⟨by omega,by rw[hsz];exact this.2⟩
  ·obtain rfl:=Option.some.inj e
   refine⟨x,sb,so,sc,⟨c0,⟨c1,hcap,fun k hk=>?_,h0,h12,HSZ.out,HF0.out⟩,hlo,c2,?_⟩,fun z hz=>⟨Or.inr hz,?_⟩⟩
   ·exact (World.cell?_of_block (w:=w3) (w':=wf) (a:=⟨sb,so+k,none⟩) (ho sb (by omega))).trans (hxs k hk)
   ·exact MB.more (MB.stay hxA fun z hz=>ho z (by have:=hxlt z hz;omega)) (by omega)
   ·have:=hxlt z hz
    omega
  ·rcases hz with rfl|hz
   ·exact Or.inl hFm
   ·have:=hxlt z hz
    exact Or.inr (by omega)
 clear hM3 hxA hxF hb23 hb2 hb3 hnb kf j1 HMA HM0 HXS HSZ HF0 HCM HNB
 go_wp2
 go_ret
 exact HFIN.out
theorem ans_pick (m K:Nat)(F:Nat→Prop)(B:Nat)(c:Cm)(w:ByteArray)(S:Sc)(hp:Option Addr)(hn hc:Nat)(nb no nc:Nat)(k:Nat)(W:World)(hM:SM W m K F B (some S))(hK:K≤W.heap.size)(hS:SOk S)(hw:tx w=wPick)(hcw:c.w=wPick)(hcN:c.N=[k])(hk:W.cell? ⟨nb,no,none⟩=some (.int .i64 (k:Nat)))(hnb:nb<K)(hk7:k≤9999999) :
  Calls Tryz.prog 14 #[.pointer (some ⟨m,0,none⟩),.agg #[.string w,.slice hp hn hc,.slice (some ⟨nb,no,none⟩) 1 nc]] W (AnsP m K F B (some S) c W):=by
 have q0:=word_not (s:=w) (w:=wHosts) (by rw[hw];decide)
 unfold wHosts at q0
 have q1:=word_not (s:=w) (w:=wJump) (by rw[hw];decide)
 unfold wJump at q1
 have q2:=word_is (s:=w) (w:=wPick) hw
 unfold wPick at q2
 obtain⟨wa,hwa⟩:∃wa,wa=W.alloc (.cells #[.string w,.slice hp hn hc,.slice (some ⟨nb,no,none⟩) 1 nc] 36):=⟨_,rfl⟩
 have hba:Below W.heap.size W wa:=by rw[hwa];exact (Below.refl _ _).alloc (Nat.le_refl _) _
 have k0:wa.cell? ⟨W.heap.size,0,none⟩=some (.string w):=by rw[hwa];simp
 have k1:wa.cell? ⟨W.heap.size,1,none⟩=some (.slice hp hn hc):=by rw[hwa];simp
 have k2:wa.cell? ⟨W.heap.size,2,none⟩=some (.slice (some ⟨nb,no,none⟩) 1 nc):=by rw[hwa];simp
 have hKa:=Nat.le_trans hK hba.size
 have hMa:=hM.later hba hK
 have HBA:Hid (Below W.heap.size W wa):=hba
 have hb0:Below wa.heap.size wa wa.drew:=below_drewN (Below.refl _ _) 1
 obtain⟨x,hb,ho,hcc,hx,hF⟩:=hMa.some_ S rfl
 have kp:=hx.c0
 have kn:=hx.c2
 have kpW:=kp
 rw[hwa] at kpW
 have hmx:¬x.F m:=fun q=>(hF m q).2 rfl
 have hlx:¬x.F W.heap.size:=fun q=>by have:=(hM.lt _ (hF _ q).1).2;omega
 have hx_nb:¬x.F nb:=fun q=>by have:=(hM.lt _ (hF _ q).1).1;omega
 have hka:=below_cell hba hk
 have hwr:=wrap_u7 k hk7
 have HC:Hid (∀w',Tur x.F wa w'→w'.cell? ⟨m,0,none⟩=some (.pointer (some ⟨x.m,0,none⟩))∧w'.cell? ⟨m,2,none⟩=some (.int .i64 S.now)∧w'.cell? ⟨W.heap.size,2,none⟩=some (.slice (some ⟨nb,no,none⟩) 1 nc)∧w'.cell? ⟨nb,no,none⟩=some (.int .i64 (k:Nat))):=fun w' hT=>⟨tur_cell hT hmx kp,tur_cell hT hmx kn,tur_cell hT hlx k2,tur_cell hT hx_nb hka⟩
 have ht0:Tur x.F wa wa.drew:=Tur.of_below hb0
 have hcal:∀w',Below wa.heap.size wa w'→Calls Tryz.prog 24 #[.pointer (some ⟨x.m,0,none⟩),.int .u64 (k:Nat),.int .i64 S.now] w' fun e w''=>∃s kept q,e=.returned (.tuple #[.string s,.bool kept,.int .i64 ((q:Nat):Int)])∧(s.size≤300∧q≤9∧∃st',CmR nwB (some S) c st' (if q=0 then tx s++(if kept then tKept else tNew) else errT q)∧SM.Post m K F (B+1) wa st' w'')∧Tur x.F wa w'':=fun w' hbl=>(mpickU (MB.later hx.at_ hbl) hS.ok k S.now).mono fun _ _ ⟨b',s,kept,q,r1,r2,r3⟩=>by
  obtain⟨p1,p2⟩:=hMa.method hKa hx hF hbl r3 (by omega)
  exact⟨s,kept,q,r1,⟨pickR_sz hS.ok r2,pickR_e r2,some { S with b:=b' },Or.inr (Or.inr (Or.inr ⟨by rw[hcw];decide,by rw[hcw];decide,S,rfl,Or.inl ⟨_,Or.inl ⟨hcw,k,b',s,kept,q,hcN,r2,rfl,rfl⟩,rfl⟩⟩)),p1⟩,p2⟩
 have HK:Hid (∀st' w' w'',SM.Post m K F (B+1) wa st' w'→Below w'.heap.size w' w''→SM.Post m K F (B+1) W st' w''):=fun st' w' w'' hP hb=>SM.Post.ahead hba (hP.then hb hKa)
 clear hw hba hM hMa hk hcw hcN hx hF hmx hlx hx_nb
 go_enter Tryz.func14,Tryz.ntmps14
 go_wp2_with fail
 rw[←hwa]
 clear hwa
 go_region_held3 (fun w'=>w'.cell? ⟨m,0,none⟩=some (.pointer (some ⟨x.m,0,none⟩))∧w'.cell? ⟨m,2,none⟩=some (.int .i64 S.now)∧w'.cell? ⟨W.heap.size,2,none⟩=some (.slice (some ⟨nb,no,none⟩) 1 nc)∧w'.cell? ⟨nb,no,none⟩=some (.int .i64 (k:Nat)))
  (first|exact HC.out _ (by assumption))
  (first
   | (go_at_call 24;refine (hcal _ (by assumption)).mono ?_;rintro e w1 ⟨s,kept,q,rfl,hP1,ht1⟩))
 obtain⟨hsz,hq9,st',hcm,hPo⟩:=hP1
 have HPO:Hid (SM.Post m K F (B+1) wa st' w1):=hPo
 clear hPo ht1 hcal HC k0 k1 k2 kp kn hka hb0 ht0
 cases kept
 ·have hoe:=orElse_at q hq9 (tx s++tNew) (s++⟨#[32,110,101,119]⟩) (by rw[←bt_append,show bt (tx s)=s from bt_back s];rfl) w1
  simp only[Bool.false_eq_true,if_false] at hcm
  have HCM:Hid (CmR nwB (some S) c st' (if q=0 then tx s++tNew else errT q)):=hcm
  generalize (if q=0 then tx s++tNew else errT q)=ans at *
  clear hcm
  go_wp2_with fail
  refine hoe.mono ?_
  rintro r w2 ⟨rfl,hb2⟩
  clear hoe
  go_wp2
  go_ret
  exact⟨st',ans,rfl,HCM.out,HK.out _ _ _ HPO.out hb2⟩
 ·have hoe:=orElse_at q hq9 (tx s++tKept) (s++⟨#[32,107,101,112,116]⟩) (by rw[←bt_append,show bt (tx s)=s from bt_back s];rfl) w1
  simp only[if_true] at hcm
  have HCM:Hid (CmR nwB (some S) c st' (if q=0 then tx s++tKept else errT q)):=hcm
  generalize (if q=0 then tx s++tKept else errT q)=ans at *
  clear hcm
  go_wp2_with fail
  refine hoe.mono ?_
  rintro r w2 ⟨rfl,hb2⟩
  clear hoe
  go_wp2
  go_ret
  exact⟨st',ans,rfl,HCM.out,HK.out _ _ _ HPO.out hb2⟩
theorem ans_look (m K:Nat)(F:Nat→Prop)(B:Nat)(c:Cm)(w:ByteArray)(S:Sc)(sb so sc:Nat)(nb no nc:Nat)(h:ByteArray)(k:Nat)(W:World)(hM:SM W m K F B (some S))(hK:K≤W.heap.size)(hS:SOk S)(hw:tx w=wLook)(hcw:c.w=wLook)(hcH:c.H=[h])(hcN:c.N=[k])(hh:W.cell? ⟨sb,so,none⟩=some (.string h))(hk:W.cell? ⟨nb,no,none⟩=some (.int .i64 (k:Nat)))(hsb:sb<K)(hnb:nb<K)(hB:B≤99999) :
  Calls Tryz.prog 14 #[.pointer (some ⟨m,0,none⟩),.agg #[.string w,.slice (some ⟨sb,so,none⟩) 1 sc,.slice (some ⟨nb,no,none⟩) 1 nc]] W (AnsP m K F B (some S) c W):=by
 have q0:=word_not (s:=w) (w:=wHosts) (by rw[hw];decide)
 unfold wHosts at q0
 have q1:=word_not (s:=w) (w:=wJump) (by rw[hw];decide)
 unfold wJump at q1
 have q2:=word_not (s:=w) (w:=wPick) (by rw[hw];decide)
 unfold wPick at q2
 have q3:=word_is (s:=w) (w:=wLook) hw
 unfold wLook at q3
 obtain⟨wa,hwa⟩:∃wa,wa=W.alloc (.cells #[.string w,.slice (some ⟨sb,so,none⟩) 1 sc,.slice (some ⟨nb,no,none⟩) 1 nc] 36):=⟨_,rfl⟩
 have hba:Below W.heap.size W wa:=by rw[hwa];exact (Below.refl _ _).alloc (Nat.le_refl _) _
 have k0:wa.cell? ⟨W.heap.size,0,none⟩=some (.string w):=by rw[hwa];simp
 have k1:wa.cell? ⟨W.heap.size,1,none⟩=some (.slice (some ⟨sb,so,none⟩) 1 sc):=by rw[hwa];simp
 have k2:wa.cell? ⟨W.heap.size,2,none⟩=some (.slice (some ⟨nb,no,none⟩) 1 nc):=by rw[hwa];simp
 have hKa:=Nat.le_trans hK hba.size
 have hMa:=hM.later hba hK
 have HBA:Hid (Below W.heap.size W wa):=hba
 have hb0:Below wa.heap.size wa wa.drew:=below_drewN (Below.refl _ _) 1
 obtain⟨x,hb,ho,hcc,hx,hF⟩:=hMa.some_ S rfl
 have kp:=hx.c0
 have kn:=hx.c2
 have kpW:=kp
 rw[hwa] at kpW
 have hmx:¬x.F m:=fun q=>(hF m q).2 rfl
 have hlx:¬x.F W.heap.size:=fun q=>by have:=(hM.lt _ (hF _ q).1).2;omega
 have hx_nb:¬x.F nb:=fun q=>by have:=(hM.lt _ (hF _ q).1).1;omega
 have hx_sb:¬x.F sb:=fun q=>by have:=(hM.lt _ (hF _ q).1).1;omega
 have hka:=below_cell hba hk
 have hha:=below_cell hba hh
 have hk1:((k:Int)==1)=decide (k=1):=by
  by_cases q:k=1
  ·subst q;rfl
  ·rw[decide_eq_false q,beq_eq_false_iff_ne];omega
 have HC:Hid (∀w',Tur x.F wa w'→w'.cell? ⟨m,0,none⟩=some (.pointer (some ⟨x.m,0,none⟩))∧w'.cell? ⟨W.heap.size,1,none⟩=some (.slice (some ⟨sb,so,none⟩) 1 sc)∧w'.cell? ⟨W.heap.size,2,none⟩=some (.slice (some ⟨nb,no,none⟩) 1 nc)∧w'.cell? ⟨sb,so,none⟩=some (.string h)∧w'.cell? ⟨nb,no,none⟩=some (.int .i64 (k:Nat))):=fun w' hT=>⟨tur_cell hT hmx kp,tur_cell hT hlx k1,tur_cell hT hlx k2,tur_cell hT hx_sb hha,tur_cell hT hx_nb hka⟩
 have ht0:Tur x.F wa wa.drew:=Tur.of_below hb0
 have hcal:∀w',Below wa.heap.size wa w'→Calls Tryz.prog 25 #[.pointer (some ⟨x.m,0,none⟩),.string h,.bool (decide (k=1))] w' fun e w''=>∃t q,e=.returned (.tuple #[.bool t,.int .i64 ((q:Nat):Int)])∧(q≤9∧∃st',CmR nwB (some S) c st' (if q=0 then (if t then tTurned else tSame) else errT q)∧SM.Post m K F (B+1) wa st' w'')∧Tur x.F wa w'':=fun w' hbl=>(mlookU (MB.later hx.at_ hbl) hS.ok hB h (decide (k=1))).mono fun _ _ ⟨b',t,q,r1,r2,r3⟩=>by
  obtain⟨p1,p2⟩:=hMa.method hKa hx hF hbl r3 (by omega)
  have hq:q≤9:=by rcases r2 with⟨_,_,q,_⟩|⟨_,_,q,_⟩<;>omega
  exact⟨t,q,r1,⟨hq,some { S with b:=b' },Or.inr (Or.inr (Or.inr ⟨by rw[hcw];decide,by rw[hcw];decide,S,rfl,Or.inl ⟨_,Or.inr (Or.inl ⟨hcw,h,k,b',t,q,hcH,hcN,r2,rfl,rfl⟩),rfl⟩⟩)),p1⟩,p2⟩
 have HK:Hid (∀st' w' w'',SM.Post m K F (B+1) wa st' w'→Below w'.heap.size w' w''→SM.Post m K F (B+1) W st' w''):=fun st' w' w'' hP hb=>SM.Post.ahead hba (hP.then hb hKa)
 generalize decide (k=1)=is1 at *
 clear hw hba hM hMa hk hh hcw hcN hcH hx hF hmx hlx hx_nb hx_sb kn
 go_enter Tryz.func14,Tryz.ntmps14
 go_wp2_with fail
 rw[←hwa]
 clear hwa
 go_region_held3 (fun w'=>w'.cell? ⟨m,0,none⟩=some (.pointer (some ⟨x.m,0,none⟩))∧w'.cell? ⟨W.heap.size,1,none⟩=some (.slice (some ⟨sb,so,none⟩) 1 sc)∧w'.cell? ⟨W.heap.size,2,none⟩=some (.slice (some ⟨nb,no,none⟩) 1 nc)∧w'.cell? ⟨sb,so,none⟩=some (.string h)∧w'.cell? ⟨nb,no,none⟩=some (.int .i64 (k:Nat)))
  (first|exact HC.out _ (by assumption))
  (first
   | (go_at_call 25;refine (hcal _ (by assumption)).mono ?_;rintro e w1 ⟨t,q,rfl,hP1,ht1⟩))
 obtain⟨hq9,st',hcm,hPo⟩:=hP1
 have HPO:Hid (SM.Post m K F (B+1) wa st' w1):=hPo
 clear hPo ht1 hcal HC k0 k1 k2 kp hka hha hb0 ht0 hk1
 cases t
 ·have hoe:=orElse_at q hq9 tSame ⟨#[115,97,109,101]⟩ rfl w1
  simp only[Bool.false_eq_true,if_false] at hcm
  have HCM:Hid (CmR nwB (some S) c st' (if q=0 then tSame else errT q)):=hcm
  generalize (if q=0 then tSame else errT q)=ans at *
  clear hcm
  go_wp2_with fail
  refine hoe.mono ?_
  rintro r w2 ⟨rfl,hb2⟩
  clear hoe
  go_wp2
  go_ret
  exact⟨st',ans,rfl,HCM.out,HK.out _ _ _ HPO.out hb2⟩
 ·have hoe:=orElse_at q hq9 tTurned ⟨#[116,117,114,110,101,100]⟩ rfl w1
  simp only[if_true] at hcm
  have HCM:Hid (CmR nwB (some S) c st' (if q=0 then tTurned else errT q)):=hcm
  generalize (if q=0 then tTurned else errT q)=ans at *
  clear hcm
  go_wp2_with fail
  refine hoe.mono ?_
  rintro r w2 ⟨rfl,hb2⟩
  clear hoe
  go_wp2
  go_ret
  exact⟨st',ans,rfl,HCM.out,HK.out _ _ _ HPO.out hb2⟩
theorem ans_drain (m K:Nat)(F:Nat→Prop)(B:Nat)(c:Cm)(w:ByteArray)(S:Sc)(sb so sc:Nat)(nb no nc:Nat)(h:ByteArray)(k:Nat)(W:World)(hM:SM W m K F B (some S))(hK:K≤W.heap.size)(hS:SOk S)(hw:tx w=wDrain)(hcw:c.w=wDrain)(hcH:c.H=[h])(hcN:c.N=[k])(hh:W.cell? ⟨sb,so,none⟩=some (.string h))(hk:W.cell? ⟨nb,no,none⟩=some (.int .i64 (k:Nat)))(hsb:sb<K)(hnb:nb<K)(_hB:B≤99999) :
  Calls Tryz.prog 14 #[.pointer (some ⟨m,0,none⟩),.agg #[.string w,.slice (some ⟨sb,so,none⟩) 1 sc,.slice (some ⟨nb,no,none⟩) 1 nc]] W (AnsP m K F B (some S) c W):=by
 have q0:=word_not (s:=w) (w:=wHosts) (by rw[hw];decide)
 unfold wHosts at q0
 have q1:=word_not (s:=w) (w:=wJump) (by rw[hw];decide)
 unfold wJump at q1
 have q2:=word_not (s:=w) (w:=wPick) (by rw[hw];decide)
 unfold wPick at q2
 have q3:=word_not (s:=w) (w:=wLook) (by rw[hw];decide)
 unfold wLook at q3
 have q4:=word_is (s:=w) (w:=wDrain) hw
 unfold wDrain at q4
 obtain⟨wa,hwa⟩:∃wa,wa=W.alloc (.cells #[.string w,.slice (some ⟨sb,so,none⟩) 1 sc,.slice (some ⟨nb,no,none⟩) 1 nc] 36):=⟨_,rfl⟩
 have hba:Below W.heap.size W wa:=by rw[hwa];exact (Below.refl _ _).alloc (Nat.le_refl _) _
 have k0:wa.cell? ⟨W.heap.size,0,none⟩=some (.string w):=by rw[hwa];simp
 have k1:wa.cell? ⟨W.heap.size,1,none⟩=some (.slice (some ⟨sb,so,none⟩) 1 sc):=by rw[hwa];simp
 have k2:wa.cell? ⟨W.heap.size,2,none⟩=some (.slice (some ⟨nb,no,none⟩) 1 nc):=by rw[hwa];simp
 have hKa:=Nat.le_trans hK hba.size
 have hMa:=hM.later hba hK
 have HBA:Hid (Below W.heap.size W wa):=hba
 have hb0:Below wa.heap.size wa wa.drew:=below_drewN (Below.refl _ _) 1
 obtain⟨x,hb,ho,hcc,hx,hF⟩:=hMa.some_ S rfl
 have kp:=hx.c0
 have kn:=hx.c2
 have kpW:=kp
 rw[hwa] at kpW
 have hmx:¬x.F m:=fun q=>(hF m q).2 rfl
 have hlx:¬x.F W.heap.size:=fun q=>by have:=(hM.lt _ (hF _ q).1).2;omega
 have hx_nb:¬x.F nb:=fun q=>by have:=(hM.lt _ (hF _ q).1).1;omega
 have hx_sb:¬x.F sb:=fun q=>by have:=(hM.lt _ (hF _ q).1).1;omega
 have hka:=below_cell hba hk
 have hha:=below_cell hba hh
 have hk1:((k:Int)==1)=decide (k=1):=by
  by_cases q:k=1
  ·subst q;rfl
  ·rw[decide_eq_false q,beq_eq_false_iff_ne];omega
 have HC:Hid (∀w',Tur x.F wa w'→w'.cell? ⟨m,0,none⟩=some (.pointer (some ⟨x.m,0,none⟩))∧w'.cell? ⟨W.heap.size,1,none⟩=some (.slice (some ⟨sb,so,none⟩) 1 sc)∧w'.cell? ⟨W.heap.size,2,none⟩=some (.slice (some ⟨nb,no,none⟩) 1 nc)∧w'.cell? ⟨sb,so,none⟩=some (.string h)∧w'.cell? ⟨nb,no,none⟩=some (.int .i64 (k:Nat))):=fun w' hT=>⟨tur_cell hT hmx kp,tur_cell hT hlx k1,tur_cell hT hlx k2,tur_cell hT hx_sb hha,tur_cell hT hx_nb hka⟩
 have ht0:Tur x.F wa wa.drew:=Tur.of_below hb0
 have hcal:∀w',Below wa.heap.size wa w'→Calls Tryz.prog 26 #[.pointer (some ⟨x.m,0,none⟩),.string h,.bool (decide (k=1))] w' fun e w''=>∃q,e=.returned (.int .i64 ((q:Nat):Int))∧(q≤9∧∃st',CmR nwB (some S) c st' (if q=0 then tOk else errT q)∧SM.Post m K F (B+1) wa st' w'')∧Tur x.F wa w'':=fun w' hbl=>(mdrainU (MB.later hx.at_ hbl) hS.ok h (decide (k=1))).mono fun _ _ ⟨b',q,r1,r2,r3⟩=>by
  obtain⟨p1,p2⟩:=hMa.method hKa hx hF hbl r3 (by omega)
  have hq:q≤9:=by rcases r2 with⟨_,q,_⟩|⟨_,q,_⟩<;>omega
  exact⟨q,r1,⟨hq,some { S with b:=b' },Or.inr (Or.inr (Or.inr ⟨by rw[hcw];decide,by rw[hcw];decide,S,rfl,Or.inl ⟨_,Or.inr (Or.inr (Or.inl ⟨hcw,h,k,b',q,hcH,hcN,r2,rfl,rfl⟩)),rfl⟩⟩)),p1⟩,p2⟩
 have HK:Hid (∀st' w' w'',SM.Post m K F (B+1) wa st' w'→Below w'.heap.size w' w''→SM.Post m K F (B+1) W st' w''):=fun st' w' w'' hP hb=>SM.Post.ahead hba (hP.then hb hKa)
 have HOE:Hid (∀w' (q:Nat),q≤9→Calls Tryz.prog 23 #[.int .i64 (q:Nat),.string ⟨#[111,107]⟩] w' fun r w''=>∃t,r=.returned (.string t)∧Hid (t=bt (if q=0 then tOk else errT q))∧Below w'.heap.size w' w''∧(Tur x.F wa w'→Tur x.F wa w'')):=fun w' q hq=>(orElse_at q hq tOk ⟨#[111,107]⟩ rfl w').mono fun _ _ ⟨r1,r2⟩=>⟨_,r1,rfl,r2,fun hT=>hT.trans (Tur.of_below (F:=x.F) r2) fun b hb=>Or.inl hb⟩
 generalize decide (k=1)=is1 at *
 clear hw hba hM hMa hk hh hcw hcN hcH hx hF hmx hlx hx_nb hx_sb kn
 go_enter Tryz.func14,Tryz.ntmps14
 go_wp2_with fail
 rw[←hwa]
 clear hwa
 go_region_held3 (fun w'=>w'.cell? ⟨m,0,none⟩=some (.pointer (some ⟨x.m,0,none⟩))∧w'.cell? ⟨W.heap.size,1,none⟩=some (.slice (some ⟨sb,so,none⟩) 1 sc)∧w'.cell? ⟨W.heap.size,2,none⟩=some (.slice (some ⟨nb,no,none⟩) 1 nc)∧w'.cell? ⟨sb,so,none⟩=some (.string h)∧w'.cell? ⟨nb,no,none⟩=some (.int .i64 (k:Nat)))
  (first|exact HC.out _ (by first|assumption|exact ht2 ht1))
  (first
   | (go_at_call 26;refine (hcal _ (by assumption)).mono ?_;rintro e w1 ⟨q,rfl,hP1,ht1⟩)
   | (go_at_call 23;refine (HOE.out _ _ hP1.1).mono ?_;rintro r w2 ⟨t2,rfl,ht,hb2,ht2⟩))
 obtain⟨hq9,st',hcm,hPo⟩:=hP1
 have HCM:Hid (CmR nwB (some S) c st' (if q=0 then tOk else errT q)):=hcm
 clear hcm
 go_wp2
 go_ret
 exact⟨st',_,congrArg (fun z=>Ending.returned (Value.string z)) ht.out,HCM.out,HK.out _ _ _ hPo hb2⟩
theorem ans_tick (m K:Nat)(F:Nat→Prop)(B:Nat)(c:Cm)(w:ByteArray)(S:Sc)(hp:Option Addr)(hn hc:Nat)(nb no nc:Nat)(k:Nat)(W:World)(hM:SM W m K F B (some S))(hK:K≤W.heap.size)(hw:tx w=wTick)(hcw:c.w=wTick)(hcN:c.N=[k])(hk:W.cell? ⟨nb,no,none⟩=some (.int .i64 (k:Nat)))(hk7:k≤9999999)(hn0:0≤S.now)(hn9:S.now≤1000000000000) :
  Calls Tryz.prog 14 #[.pointer (some ⟨m,0,none⟩),.agg #[.string w,.slice hp hn hc,.slice (some ⟨nb,no,none⟩) 1 nc]] W (AnsP m K F B (some S) c W):=by
 have q0:=word_not (s:=w) (w:=wHosts) (by rw[hw];decide)
 unfold wHosts at q0
 have q1:=word_not (s:=w) (w:=wJump) (by rw[hw];decide)
 unfold wJump at q1
 have q2:=word_not (s:=w) (w:=wPick) (by rw[hw];decide)
 unfold wPick at q2
 have q3:=word_not (s:=w) (w:=wLook) (by rw[hw];decide)
 unfold wLook at q3
 have q4:=word_not (s:=w) (w:=wDrain) (by rw[hw];decide)
 unfold wDrain at q4
 have q5:=word_is (s:=w) (w:=wTick) hw
 unfold wTick at q5
 obtain⟨wa,hwa⟩:∃wa,wa=W.alloc (.cells #[.string w,.slice hp hn hc,.slice (some ⟨nb,no,none⟩) 1 nc] 36):=⟨_,rfl⟩
 have hba:Below W.heap.size W wa:=by rw[hwa];exact (Below.refl _ _).alloc (Nat.le_refl _) _
 have k0:wa.cell? ⟨W.heap.size,0,none⟩=some (.string w):=by rw[hwa];simp
 have k1:wa.cell? ⟨W.heap.size,1,none⟩=some (.slice hp hn hc):=by rw[hwa];simp
 have k2:wa.cell? ⟨W.heap.size,2,none⟩=some (.slice (some ⟨nb,no,none⟩) 1 nc):=by rw[hwa];simp
 have hKa:=Nat.le_trans hK hba.size
 have hMa:=hM.later hba hK
 have HBA:Hid (Below W.heap.size W wa):=hba
 have hb0:Below wa.heap.size wa wa.drew:=below_drewN (Below.refl _ _) 1
 obtain⟨x,hb,ho,hcc,hx,hF⟩:=hMa.some_ S rfl
 have kp:=hx.c0
 have kn:=hx.c2
 have kpW:=kp
 rw[hwa] at kpW
 have kf:=hMa.fz 2
 have hka:=below_cell hba hk
 have w1:IntKind.i64.wrap (S.now+(k:Int))=S.now+(k:Int):=by simp[IntKind.wrap,IntKind.signed,IntKind.bits];omega
 have HFIN:Hid (AnsP m K F B (some S) c W (.returned (.string (bt tOk))) (wa.drew.setCell ⟨m,2,none⟩ (.int .i64 (S.now+(k:Int))))):=⟨_,tOk,rfl,Or.inr (Or.inr (Or.inr ⟨by rw[hcw];decide,by rw[hcw];decide,S,rfl,Or.inl ⟨_,Or.inr (Or.inr (Or.inr (Or.inl ⟨hcw,k,hcN,rfl,rfl⟩))),rfl⟩⟩)),SM.Post.more (SM.Post.ahead (below_then hba hb0) ((hMa.later hb0 hKa).ticked (S.now+(k:Int)))) (by omega)⟩
 clear hw hba hM hMa hk hcw hcN hx hF hb0 hn0 hn9 hk7
 go_enter Tryz.func14,Tryz.ntmps14
 go_wp2_with fail
 rw[←hwa]
 clear hwa
 go_region
 go_wp2
 go_ret
 exact HFIN.out
theorem ans_up (m K:Nat)(F:Nat→Prop)(B:Nat)(c:Cm)(w:ByteArray)(S:Sc)(hv nv:Value)(W:World)(hM:SM W m K F B (some S))(hK:K≤W.heap.size)(hS:SOk S)(hw:tx w=wUp)(hcw:c.w=wUp) :
  Calls Tryz.prog 14 #[.pointer (some ⟨m,0,none⟩),.agg #[.string w,hv,nv]] W (AnsP m K F B (some S) c W):=by
 have q0:=word_not (s:=w) (w:=wHosts) (by rw[hw];decide)
 unfold wHosts at q0
 have q1:=word_not (s:=w) (w:=wJump) (by rw[hw];decide)
 unfold wJump at q1
 have q2:=word_not (s:=w) (w:=wPick) (by rw[hw];decide)
 unfold wPick at q2
 have q3:=word_not (s:=w) (w:=wLook) (by rw[hw];decide)
 unfold wLook at q3
 have q4:=word_not (s:=w) (w:=wDrain) (by rw[hw];decide)
 unfold wDrain at q4
 have q5:=word_not (s:=w) (w:=wTick) (by rw[hw];decide)
 unfold wTick at q5
 have q6:=word_is (s:=w) (w:=wUp) hw
 unfold wUp at q6
 obtain⟨wa,hwa⟩:∃wa,wa=W.alloc (.cells #[.string w,hv,nv] 36):=⟨_,rfl⟩
 have hba:Below W.heap.size W wa:=by rw[hwa];exact (Below.refl _ _).alloc (Nat.le_refl _) _
 have k0:wa.cell? ⟨W.heap.size,0,none⟩=some (.string w):=by rw[hwa];simp
 have k1:wa.cell? ⟨W.heap.size,1,none⟩=some (hv):=by rw[hwa];simp
 have k2:wa.cell? ⟨W.heap.size,2,none⟩=some (nv):=by rw[hwa];simp
 have hKa:=Nat.le_trans hK hba.size
 have hMa:=hM.later hba hK
 have HBA:Hid (Below W.heap.size W wa):=hba
 have hb0:Below wa.heap.size wa wa.drew:=below_drewN (Below.refl _ _) 1
 obtain⟨x,hb,ho,hcc,hx,hF⟩:=hMa.some_ S rfl
 have kp:=hx.c0
 have kh:=hx.at_.c0
 rw[hwa] at kp kh
 have hup:=ups_any hx.at_.h (by
  have h1:=congrArg List.length hx.at_.hs
  rw[hst_length] at h1
  have:=hS.ok.h.len
  omega)
 rw[hx.at_.hs] at hup
 have hpm:∀s∈hups S.b.hs,s.size≤1000:=fun s hs=>by
  obtain⟨y,hy,rfl⟩:=List.mem_map.1 hs
  have:=(nm_word (hS.ok.nm y (List.mem_filter.1 hy).1)).2.2.2
  omega
 have hul:(hups S.b.hs).length≤1000:=by
  have h1:=List.length_filter_le (fun x:Hh=>x.2.1) S.b.hs
  have h2:=hS.ok.h.len
  have h3:(hups S.b.hs).length≤S.b.hs.length:=by simpa [hups] using h1
  omega
 have HJ:Hid (∀w' v,Strs1 w' v (hups S.b.hs)→Calls Tryz.prog 27 #[v,.string ⟨#[32]⟩] w' fun r w''=>r=.returned (.string (bt (joinedS [32] ((hups S.b.hs).map tx))))∧Below w'.heap.size w' w''):=fun w' v hv=>joined_any v (hups S.b.hs) ⟨#[32]⟩ w' hv hul hpm (by decide)
 have HAN:Hid (∀w',Below wa.heap.size wa w'→AnsP m K F B (some S) c W (.returned (.string (bt (joinedS [32] ((hups S.b.hs).map tx))))) w'):=fun w' hb=>⟨some S,_,rfl,Or.inr (Or.inr (Or.inr ⟨by rw[hcw];decide,by rw[hcw];decide,S,rfl,Or.inl ⟨S,Or.inr (Or.inr (Or.inr (Or.inr (Or.inl ⟨hcw,rfl,rfl⟩)))),rfl⟩⟩)),(SM.Post.same (hM.more (by omega)) (below_then hba hb) hK)⟩
 generalize bt (joinedS [32] ((hups S.b.hs).map tx))=ans at *
 generalize hups S.b.hs=us at *
 clear hw hba hM hMa hcw hx hF hb0 hS hpm hul
 go_enter Tryz.func14,Tryz.ntmps14
 go_wp2_with fail
 rw[←hwa]
 clear hwa
 refine hup.mono ?_
 rintro r w1 ⟨v1,rfl,hv1,hb1⟩
 have hj:=HJ.out w1 v1 hv1
 clear hup hv1
 go_wp2_with fail
 refine hj.mono ?_
 rintro r w2 ⟨rfl,hb2⟩
 have hb12:=below_then hb1 hb2
 clear hj
 go_wp2
 go_ret
 exact HAN.out _ hb12
end Go.Proofs.YtfhmfjcpggddkaaGreatDoor
