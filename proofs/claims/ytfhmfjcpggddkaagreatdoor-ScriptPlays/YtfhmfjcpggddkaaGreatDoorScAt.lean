/- The law's model of a script: a table. -/
import Derived.Test.YtfhmfjcpggddkaaGreatDoorM33
import Derived.Test.YtfhmfjcpggddkaaGreatDoorM16
import Derived.Test.YtfhmfjcpggddkaaGreatDoorM15
import Derived.Deep.RegionLaw
set_option maxHeartbeats 20000000
set_option maxRecDepth 100000
namespace Go.Proofs.YtfhmfjcpggddkaaGreatDoor
open Go.RowKit Lh
theorem step_append_tx {ops:Array Oper}{o:Oper}{a:Act}{K:Act→World→Prop}{Q:Exit→Act→World→Prop}{E:Prop}{W:World}(w2:World)(s:ByteArray)(base:Nat)(hgd:o.guard=none)(so xo:Operand)
  (ho:o.op=.call { callee:=.builtin .append,args:=#[so,xo],argTypes:=#[22,22] }) (hW:W=w2.alloc (.cells #[.string s] 9))
  (v:Value) (ls:List ByteArray) (n:Nat) (hn:ls.length=n) (hs:a.eval so=v) (hx:a.eval xo=.slice (some ⟨w2.heap.size,0,none⟩) 1 1) (hown:w2.ownsRow base 9 1 v n (ls.map Value.string)) (hl:n≤100000) (hd:base≤w2.heap.size)
  (h:∀g cap w',w'.ownsRow base 9 1 (.slice (some ⟨g,0,none⟩) (n+1) cap) (n+1) ((ls++[s]).map Value.string)→W.grownBy w' v.ownBlock→(v.ownBlock=some g∨g=w2.heap.size+1)→K (a.put o.dst (.slice (some ⟨g,0,none⟩) (n+1) cap)) w') :
  if Region.wanted o (yielded ops a.tmps)=true then Oper.wp Tryz.prog o a W K Q else E:=by
 subst hn
 obtain⟨i,hi,hz0,hz1,hz2⟩:=info_parts infoS
 have hsz:W.heap.size=w2.heap.size+1:=by rw[hW];simp
 have hnews:∀j u,[Value.string s][j]?=some u→W.cell? ((⟨w2.heap.size,0,none⟩:Addr).add j)=some u:=fun j u hu=>by
  match j with
  | 0=>simp at hu;subst hu;rw[hW];simp[Addr.add]
  | j+1=>simp at hu
 refine step_append_lies W hgd so xo 22 ho base 9 i _ 1 16 Tryz.underlying22 hi hz0 hz1 hz2 rfl (by decide) v ls.length (ls.map Value.string) hs (by rw[hW];exact hown.alloc _) ⟨w2.heap.size,0,none⟩ 1 1 [.string s] hx rfl hnews (fun u hu=>by simp at hu;subst hu;rfl) (by decide) (by unfold maxLen;omega) (by omega) (by omega) (w2.heap.size+1) hsz ?_
 intro g cp w1 hown1 hgr hat _
 exact h g cp w1 (by rw[List.map_append];exact hown1) hgr hat
def slotsT (xs:List ByteArray)(n:Nat):List ByteArray:=(tab xs n n).map fun i=>nameAt xs i.toNat
theorem slotsT_tx (xs:List ByteArray)(n:Nat):(slotsT xs n).map tx=(tab xs n n).map fun i=>tx (nameAt xs i.toNat):=by simp[slotsT]
theorem slotsT_len (xs:List ByteArray)(n:Nat):(slotsT xs n).length=n:=by simp[slotsT,tab_length]
theorem slotsT_get {xs:List ByteArray}{n j k:Nat}(hk:k<(slotsT xs n).length)(hj:j<xs.length)(h:(tab xs n n).getD k 0=(j:Nat)):(slotsT xs n)[k]=xs[j]:=by
 have hk':k<(tab xs n n).length:=by simpa [slotsT] using hk
 have h1:(tab xs n n)[k]=(j:Nat):=by
  rw[List.getD_eq_getElem?_getD,List.getElem?_eq_getElem hk',Option.getD_some] at h
  exact h
 simp only[slotsT,List.getElem_map,h1]
 rw[←nameAt_lt hj]
 rfl
theorem asked_table1 (m b o c:Nat)(xs:List ByteArray)(w:ByteArray)(hp:Option Addr)(hn hc nb no nc:Nat)(n:Nat)(W:World)(hH:Hst W m b o c xs)(hw:tx w=wTable)(hk:W.cell? ⟨nb,no,none⟩=some (.int .i64 (n:Nat)))(hn7:n≤9999999)
  (e:Nat) (pl:Int) (hf:TabFault xs (n:Nat) e pl) (h1:e≠0) (h9:e≤9) :
  Calls Tryz.prog 30 #[.pointer (some ⟨m,0,none⟩),.agg #[.string w,.slice hp hn hc,.slice (some ⟨nb,no,none⟩) 1 nc]] W fun r w'=>r=.returned (.string (bt (errT e)))∧Below W.heap.size W w':=by
 have q1:=word_is (s:=w) (w:=wTable) hw
 unfold wTable at q1
 clear hw
 obtain⟨wa,hwa⟩:∃wa,wa=W.alloc (.cells #[.string w,.slice hp hn hc,.slice (some ⟨nb,no,none⟩) 1 nc] 36):=⟨_,rfl⟩
 have hba:Below W.heap.size W wa:=by rw[hwa];exact (Below.refl _ _).alloc (Nat.le_refl _) _
 have k0:wa.cell? ⟨W.heap.size,0,none⟩=some (.string w):=by rw[hwa];simp
 have k2:wa.cell? ⟨W.heap.size,2,none⟩=some (.slice (some ⟨nb,no,none⟩) 1 nc):=by rw[hwa];simp
 have hka:=below_cell hba hk
 have hH':=hH.later hba
 have hm1:=hH'.cell
 have HBA:Hid (Below W.heap.size W wa):=hba
 have HC:Hid (∀w',Below wa.heap.size wa w'→w'.cell? ⟨m,1,none⟩=some (.slice (some ⟨b,o,none⟩) xs.length c)∧w'.cell? ⟨W.heap.size,2,none⟩=some (.slice (some ⟨nb,no,none⟩) 1 nc)∧w'.cell? ⟨nb,no,none⟩=some (.int .i64 (n:Nat))):=fun w' hb=>⟨below_cell hb hm1,below_cell hb k2,below_cell hb hka⟩
 have hb0:Below wa.heap.size wa wa.drew:=below_drewN (Below.refl _ _) 1
 have HH:Hid (Hst wa m b o c xs):=hH'
 have hcal:∀w',Below wa.heap.size wa w'→Calls Tryz.prog 66 #[.slice (some ⟨b,o,none⟩) xs.length c,.int .i64 (n:Nat)] w' fun r w''=>r=.returned (.agg #[.int .i64 (e:Nat),.int .i64 pl])∧Below w'.heap.size w' w''∧Below wa.heap.size wa w'':=fun w' hb=>(tableFault_any _ xs (n:Nat) w' e pl ((HH.out.later hb).strs) hf (by omega) HH.out.sBig (by have:=HH.out.le;omega)).mono fun _ _ ⟨r1,r2⟩=>⟨r1,r2,below_then hb r2⟩
 have d0:0<e:=by omega
 have HET:Hid (∀w',Calls Tryz.prog 10 #[.int .i64 (e:Nat)] w' fun r w''=>r=.returned (.string (bt (errT e)))∧Below w'.heap.size w' w''):=fun w'=>errorText_any e (by omega) h9 w'
 generalize bt (errT e)=et at *
 clear hH hH' hba hk hf h1 h9
 go_enter Tryz.func30,Tryz.ntmps30
 go_wp2_with fail
 rw[←hwa]
 clear hwa
 go_region_held3 (fun w'=>w'.cell? ⟨m,1,none⟩=some (.slice (some ⟨b,o,none⟩) xs.length c)∧w'.cell? ⟨W.heap.size,2,none⟩=some (.slice (some ⟨nb,no,none⟩) 1 nc)∧w'.cell? ⟨nb,no,none⟩=some (.int .i64 (n:Nat)))
  (first|exact HC.out _ (by first|assumption|exact below_al (by assumption) _|exact below_ald _|exact ((by assumption:Below wa.heap.size wa w1).setCell (Nat.le_refl _) _).setCell (Nat.le_refl _) _))
  (first
   | (go_at_call 66;refine (hcal _ (by first|assumption|exact below_ald _)).mono ?_;rintro e w1 ⟨rfl,hb1,hb1'⟩;try (have hcf:=al_cells hb1;obtain⟨c0,c1,f0,f1⟩:=hcf)))
 ·have kf:(w1.alloc (.cells #[.int .i64 (e:Nat),.int .i64 pl] 59)).cell? ⟨w1.heap.size,0,none⟩=some (.int .i64 (e:Nat)):=by simp
  have hb2:=below_al hb1' (.cells #[.int .i64 (e:Nat),.int .i64 pl] 59)
  generalize (w1.alloc (.cells #[.int .i64 (e:Nat),.int .i64 pl] 59))=w2 at *
  have HB2:Hid (Below wa.heap.size wa w2):=hb2
  have het:=HET.out w2
  clear hb1 hb1' hb2 hb0 hcal
  go_wp2_with fail
  refine het.mono ?_
  rintro r w3 ⟨rfl,hb3⟩
  clear het
  go_wp2
  go_ret
  exact⟨rfl,below_then HBA.out (below_then HB2.out hb3)⟩
 ·have kf:((w1.setCell ⟨wa.heap.size,0,none⟩ (.int .i64 (e:Nat))).setCell ⟨wa.heap.size,1,none⟩ (.int .i64 pl)).cell? ⟨wa.heap.size,0,none⟩=some (.int .i64 (e:Nat)):=by simp[go_sem,c0]
  have hb2:Below wa.heap.size wa ((w1.setCell ⟨wa.heap.size,0,none⟩ (.int .i64 (e:Nat))).setCell ⟨wa.heap.size,1,none⟩ (.int .i64 pl)):=(hb1'.setCell (Nat.le_refl _) _).setCell (Nat.le_refl _) _
  generalize ((w1.setCell ⟨wa.heap.size,0,none⟩ (.int .i64 (e:Nat))).setCell ⟨wa.heap.size,1,none⟩ (.int .i64 pl))=w2 at *
  have HB2:Hid (Below wa.heap.size wa w2):=hb2
  have het:=HET.out w2
  clear hb1 hb1' hb2 hb0 hcal
  go_wp2_with fail
  refine het.mono ?_
  rintro r w3 ⟨rfl,hb3⟩
  clear het
  go_wp2
  go_ret
  exact⟨rfl,below_then HBA.out (below_then HB2.out hb3)⟩
structure TabL (wa W:World)(v:Value)(k:Nat)(ns:List ByteArray):Prop where
 b:Below wa.heap.size wa W
 own:W.ownsRow wa.heap.size 9 1 v k ((ns.take k).map Value.string)
theorem asked_table2 (m b o c:Nat)(xs:List ByteArray)(w:ByteArray)(hp:Option Addr)(hn hc nb no nc:Nat)(n:Nat)(W:World)(hH:Hst W m b o c xs)(hw:tx w=wTable)(hk:W.cell? ⟨nb,no,none⟩=some (.int .i64 (n:Nat)))
    (hf:TabFault xs (n:Nat) 0 (-1)) :
    Calls Tryz.prog 30 #[.pointer (some ⟨m,0,none⟩),.agg #[.string w,.slice hp hn hc,.slice (some ⟨nb,no,none⟩) 1 nc]] W fun r w'=>r=.returned (.string (bt (joinL 32 ((tab xs n n).map fun i=>tx (nameAt xs i.toNat)))))∧Below W.heap.size W w':=by
  obtain⟨hpr,h5⟩:Prm n∧n≤503:=by
    rcases hf with⟨_,q,_⟩|⟨_,_,q⟩|⟨_,_,q,_⟩
    · cases q
    · exact absurd rfl q
    · rcases q with⟨_,q⟩|⟨k,hk,_,h5,⟨_,q⟩|⟨q,_⟩⟩
      · cases q
      · cases q
      · have:n=k:=by omega
        subst this
        exact⟨q,h5⟩
  have h2:2≤n:=hpr.1
  have q1:=word_is (s:=w) (w:=wTable) hw
  unfold wTable at q1
  clear hw
  obtain⟨wa,hwa⟩:∃wa,wa=W.alloc (.cells #[.string w,.slice hp hn hc,.slice (some ⟨nb,no,none⟩) 1 nc] 36):=⟨_,rfl⟩
  have hba:Below W.heap.size W wa:=by rw[hwa];exact (Below.refl _ _).alloc (Nat.le_refl _) _
  have k0:wa.cell? ⟨W.heap.size,0,none⟩=some (.string w):=by rw[hwa];simp
  have k2:wa.cell? ⟨W.heap.size,2,none⟩=some (.slice (some ⟨nb,no,none⟩) 1 nc):=by rw[hwa];simp
  have hka:=below_cell hba hk
  have hH':=hH.later hba
  have hm1:=hH'.cell
  have HBA:Hid (Below W.heap.size W wa):=hba
  have HC:Hid (∀w',Below wa.heap.size wa w'→w'.cell? ⟨m,1,none⟩=some (.slice (some ⟨b,o,none⟩) xs.length c)∧w'.cell? ⟨W.heap.size,2,none⟩=some (.slice (some ⟨nb,no,none⟩) 1 nc)∧w'.cell? ⟨nb,no,none⟩=some (.int .i64 (n:Nat))):=fun w' hb=>⟨below_cell hb hm1,below_cell hb k2,below_cell hb hka⟩
  have hb0:Below wa.heap.size wa wa.drew:=below_drewN (Below.refl _ _) 1
  have HH:Hid (Hst wa m b o c xs):=hH'
  have hpos:=hH'.pos
  have hcal:∀w',Below wa.heap.size wa w'→Calls Tryz.prog 66 #[.slice (some ⟨b,o,none⟩) xs.length c,.int .i64 (n:Nat)] w' fun r w''=>r=.returned (.agg #[.int .i64 0,.int .i64 (-1)])∧Below w'.heap.size w' w''∧Below wa.heap.size wa w'':=fun w' hb=>(tableFault_any _ xs (n:Nat) w' 0 (-1) ((HH.out.later hb).strs) hf (by omega) HH.out.sBig (by have:=HH.out.le;omega)).mono fun _ _ ⟨r1,r2⟩=>⟨r1,r2,below_then hb r2⟩
  have HTO:Hid (∀w',Below wa.heap.size wa w'→Calls Tryz.prog 74 #[.slice (some ⟨b,o,none⟩) xs.length c,.int .i64 (n:Nat)] w' fun r w''=>∃g,r=.returned (.slice (some ⟨g,0,none⟩) n n)∧(∀k,k<n→∃j,∃hj:j<xs.length,w''.cell? ⟨g,k,none⟩=some (.int .i64 (j:Nat))∧∀h:k<(slotsT xs n).length,(slotsT xs n)[k]=xs[j])∧Below wa.heap.size wa w''):=fun w' hb=>(tableOf_any b o c xs n w' (HH.out.later hb).at_ HH.out.pos HH.out.le HH.out.s300 HH.out.cap hpr h5).mono fun _ _ ⟨g,r1,_,r3,r4⟩=>⟨g,r1,fun k hk=>by
    obtain⟨j,hj,e⟩:=tab_full hpr hpos hk
    refine⟨j,hj,?_,fun h=>slotsT_get h hj e⟩
    have hkl:k<(tab xs n n).length:=by rw[tab_length];exact hk
    have:=r3.cell (k:=k) hkl
    rw[List.getD_eq_getElem?_getD,List.getElem?_eq_getElem hkl,Option.getD_some] at e
    rw[this,e],below_then hb r4⟩
  have HHX:Hid (∀w',Below wa.heap.size wa w'→∀k (h:k<xs.length),w'.cell? ⟨b,o+k,none⟩=some (.string xs[k])):=fun w' hb=>(HH.out.later hb).at_
  have HJ:Hid (∀w' v,Strs1 w' v (slotsT xs n)→Calls Tryz.prog 27 #[v,.string ⟨#[32]⟩] w' fun r w''=>r=.returned (.string (bt (joinL 32 ((tab xs n n).map fun i=>tx (nameAt xs i.toNat)))))∧Below w'.heap.size w' w''):=fun w' v hv=>by
    have e:joinL 32 ((tab xs n n).map fun i=>tx (nameAt xs i.toNat))=joinedS (tx ⟨#[32]⟩) ((slotsT xs n).map tx):=by
      rw[slotsT_tx,joinL_joinS]
      unfold joinedS
      rw[if_neg]
      · rfl
      · intro e
        have h1:=congrArg List.length e
        rw[List.length_map,tab_length,List.length_nil] at h1
        omega
    rw[e]
    refine joined_any v (slotsT xs n) ⟨#[32]⟩ w' hv (by rw[slotsT_len];omega) (fun s hs=>?_) (by decide)
    obtain⟨k,hk,rfl⟩:=List.getElem_of_mem hs
    obtain⟨j,hj,e⟩:=tab_full hpr hpos (show k<n by rw[slotsT_len] at hk;exact hk)
    rw[slotsT_get hk hj e]
    have:=HH.out.sz _ (List.getElem_mem hj)
    omega
  have HNL:Hid ((slotsT xs n).length=n):=slotsT_len xs n
  generalize bt (joinL 32 ((tab xs n n).map fun i=>tx (nameAt xs i.toNat)))=ans at *
  generalize slotsT xs n=ns at *
  clear hH hH' hba hk hf hpr
  go_enter Tryz.func30,Tryz.ntmps30
  go_wp2_with fail
  rw[←hwa]
  clear hwa
  go_region_held3 (fun w'=>w'.cell? ⟨m,1,none⟩=some (.slice (some ⟨b,o,none⟩) xs.length c)∧w'.cell? ⟨W.heap.size,2,none⟩=some (.slice (some ⟨nb,no,none⟩) 1 nc)∧w'.cell? ⟨nb,no,none⟩=some (.int .i64 (n:Nat)))
    (first|exact HC.out _ (by first|assumption|exact below_al (by assumption) _|exact below_ald _|exact ((by assumption:Below wa.heap.size wa w1).setCell (Nat.le_refl _) _).setCell (Nat.le_refl _) _))
    (first
      | (go_at_call 66;refine (hcal _ (by first|assumption|exact below_ald _)).mono ?_;rintro e w1 ⟨rfl,hb1,hb1'⟩;try (have hcf:=al_cells hb1;obtain⟨c0,c1,f0,f1⟩:=hcf)))
  rotate_left
  · have kf:((w1.setCell ⟨wa.heap.size,0,none⟩ (.int .i64 0)).setCell ⟨wa.heap.size,1,none⟩ (.int .i64 (-1))).cell? ⟨wa.heap.size,0,none⟩=some (.int .i64 0):=by simp[go_sem,c0]
    have hb2:Below wa.heap.size wa ((w1.setCell ⟨wa.heap.size,0,none⟩ (.int .i64 0)).setCell ⟨wa.heap.size,1,none⟩ (.int .i64 (-1))):=(hb1'.setCell (Nat.le_refl _) _).setCell (Nat.le_refl _) _
    generalize ((w1.setCell ⟨wa.heap.size,0,none⟩ (.int .i64 0)).setCell ⟨wa.heap.size,1,none⟩ (.int .i64 (-1)))=w2 at *
    have HB2:Hid (Below wa.heap.size wa w2):=hb2
    obtain⟨j1,j2,j3⟩:=HC.out w2 hb2
    have hb2d:Below wa.heap.size wa w2.drew:=below_drewN hb2 1
    clear hb1 hb1' hb2 hb0 k0 k2 hka hm1 hcal
    go_wp2_with fail
    go_region_held3 (fun w'=>w'.cell? ⟨m,1,none⟩=some (.slice (some ⟨b,o,none⟩) xs.length c)∧w'.cell? ⟨W.heap.size,2,none⟩=some (.slice (some ⟨nb,no,none⟩) 1 nc)∧w'.cell? ⟨nb,no,none⟩=some (.int .i64 (n:Nat)))
      (first|exact HC.out _ (by assumption))
      (first
        | (go_at_call 74;refine (HTO.out _ (by assumption)).mono ?_;rintro r w3 ⟨g,rfl,hrow,hb3⟩))
    have HB3:Hid (Below wa.heap.size wa w3):=hb3
    have HROW:Hid (∀k,k<n→∃j,∃hj:j<xs.length,w3.cell? ⟨g,k,none⟩=some (.int .i64 (j:Nat))∧∀h:k<ns.length,ns[k]=xs[j]):=hrow
    have hb3d:Below w3.heap.size w3 w3:=Below.refl _ _
    clear hb3 hrow kf j1 j2 j3 hb2d
    go_wp2_with fail
    go_loopw [7,8] (fun u7 u8 W'=>∃k:Nat,k≤n∧u8=.int .i64 (k:Nat)∧TabL w3 W' u7 k ns) (fun _ u8 _=>n - (intOf u8).toNat)
    case atStart=>exact⟨0,Nat.zero_le _,rfl,Below.refl _ _,by rw[List.take_zero];exact owns_nil _ _ _⟩
    case round =>
      obtain⟨k,hk,rfl,hT⟩:=hrel
      have HT:Hid (TabL w3 wr u7 k ns):=hT
      have hbwr:=below_then HB3.out hT.b
      have hbd:w3.heap.size≤wr.heap.size:=hT.b.size
      by_cases hlt:k<n
      · obtain⟨j,hj,ct,hnm⟩:=HROW.out k hlt
        have hki:(k:Int)<(n:Int):=by omega
        have hji:(j:Int)<(xs.length:Int):=by omega
        have ct':=below_cell hT.b ct
        have cm':=(HC.out _ hbwr).1
        have cx':=HHX.out _ hbwr j hj
        have hkl:k<ns.length:=by rw[HNL.out];exact hlt
        have HNM:Hid (ns[k]'hkl=xs[j]):=hnm hkl
        have HTK:Hid ((ns.take k).length=k):=by show _=_;rw[List.length_take,HNL.out];omega
        have hlen:k≤100000:=by omega
        have hnk:=HTK.out
        have hown:=hT.own
        obtain⟨lp,lc,rfl⟩:∃lp lc,u7=.slice lp k lc:=by
          rcases hown.2 with⟨rfl,hz⟩|⟨q,cap,cur,rfl,_⟩
          · exact⟨none,0,by rw[hz]⟩
          · exact⟨_,_,rfl⟩
        have own1:wr.drew.ownsRow w3.heap.size 9 1 (.slice lp k lc) k ((ns.take k).map Value.string):=hown
        have HO1:Hid (wr.drew.ownsRow w3.heap.size 9 1 (.slice lp k lc) k ((ns.take k).map Value.string)):=own1
        have hbd':w3.heap.size≤wr.drew.heap.size:=hbd
        generalize xs[j]'hj=s at *
        clear hT hown own1 ct hnm hbd
        go_wp2_with fail
        go_region_law (first
          | (refine step_append_tx wr.drew s w3.heap.size rfl _ _ rfl rfl (.slice lp k lc) (ns.take k) k hnk rfl rfl HO1.out hlen hbd' ?_
             intro g5 cp w5 hown5 hgr5 hor5))
        all_goals
          go_wp2
          refine⟨⟨k+1,by omega,by go_num,?_,?_⟩,by simp[intOf];omega⟩
          · exact (HT.out.b.trans (below_drewN ((Below.refl _ _).alloc HT.out.b.size _) 1)).grown hgr5 (Nat.le_trans hbd' (by simp)) fun q hq=>(HO1.out.lt q hq).1
          · rw[List.take_succ_eq_append_getElem hkl,HNM.out]
            exact hown5
      · obtain rfl:k=n:=by omega
        have hd8:decide ((k:Int)<(k:Int))=false:=by simp
        have hst:Strs1 wr u7 ns:=by
          have:=hT.own
          rw[List.take_of_length_le (by rw[HNL.out];exact Nat.le_refl _),←HNL.out] at this
          exact strs_of_owns this
        obtain⟨lp,lc,hu,_⟩:=strs1_sl hst
        rw[HNL.out] at hu
        subst hu
        have hjo:=HJ.out wr _ hst
        have HBW:Hid (Below wa.heap.size wa wr):=hbwr
        clear hT hst hbwr
        go_wp2_with fail
        refine hjo.mono ?_
        rintro r w6 ⟨rfl,hb6⟩
        clear hjo
        go_wp2
        go_ret
        exact⟨rfl,below_then HBA.out (below_then HBW.out hb6)⟩
  · have kf:(w1.alloc (.cells #[.int .i64 0,.int .i64 (-1)] 59)).cell? ⟨w1.heap.size,0,none⟩=some (.int .i64 0):=by simp
    have hb2:=below_al hb1' (.cells #[.int .i64 0,.int .i64 (-1)] 59)
    generalize (w1.alloc (.cells #[.int .i64 0,.int .i64 (-1)] 59))=w2 at *
    have HB2:Hid (Below wa.heap.size wa w2):=hb2
    obtain⟨j1,j2,j3⟩:=HC.out w2 hb2
    have hb2d:Below wa.heap.size wa w2.drew:=below_drewN hb2 1
    clear hb1 hb1' hb2 hb0 k0 k2 hka hm1 hcal
    go_wp2_with fail
    go_region_held3 (fun w'=>w'.cell? ⟨m,1,none⟩=some (.slice (some ⟨b,o,none⟩) xs.length c)∧w'.cell? ⟨W.heap.size,2,none⟩=some (.slice (some ⟨nb,no,none⟩) 1 nc)∧w'.cell? ⟨nb,no,none⟩=some (.int .i64 (n:Nat)))
      (first|exact HC.out _ (by assumption))
      (first
        | (go_at_call 74;refine (HTO.out _ (by assumption)).mono ?_;rintro r w3 ⟨g,rfl,hrow,hb3⟩))
    have HB3:Hid (Below wa.heap.size wa w3):=hb3
    have HROW:Hid (∀k,k<n→∃j,∃hj:j<xs.length,w3.cell? ⟨g,k,none⟩=some (.int .i64 (j:Nat))∧∀h:k<ns.length,ns[k]=xs[j]):=hrow
    have hb3d:Below w3.heap.size w3 w3:=Below.refl _ _
    clear hb3 hrow kf j1 j2 j3 hb2d
    go_wp2_with fail
    go_loopw [7,8] (fun u7 u8 W'=>∃k:Nat,k≤n∧u8=.int .i64 (k:Nat)∧TabL w3 W' u7 k ns) (fun _ u8 _=>n - (intOf u8).toNat)
    case atStart=>exact⟨0,Nat.zero_le _,rfl,Below.refl _ _,by rw[List.take_zero];exact owns_nil _ _ _⟩
    case round =>
      obtain⟨k,hk,rfl,hT⟩:=hrel
      have HT:Hid (TabL w3 wr u7 k ns):=hT
      have hbwr:=below_then HB3.out hT.b
      have hbd:w3.heap.size≤wr.heap.size:=hT.b.size
      by_cases hlt:k<n
      · obtain⟨j,hj,ct,hnm⟩:=HROW.out k hlt
        have hki:(k:Int)<(n:Int):=by omega
        have hji:(j:Int)<(xs.length:Int):=by omega
        have ct':=below_cell hT.b ct
        have cm':=(HC.out _ hbwr).1
        have cx':=HHX.out _ hbwr j hj
        have hkl:k<ns.length:=by rw[HNL.out];exact hlt
        have HNM:Hid (ns[k]'hkl=xs[j]):=hnm hkl
        have HTK:Hid ((ns.take k).length=k):=by show _=_;rw[List.length_take,HNL.out];omega
        have hlen:k≤100000:=by omega
        have hnk:=HTK.out
        have hown:=hT.own
        obtain⟨lp,lc,rfl⟩:∃lp lc,u7=.slice lp k lc:=by
          rcases hown.2 with⟨rfl,hz⟩|⟨q,cap,cur,rfl,_⟩
          · exact⟨none,0,by rw[hz]⟩
          · exact⟨_,_,rfl⟩
        have own1:wr.drew.ownsRow w3.heap.size 9 1 (.slice lp k lc) k ((ns.take k).map Value.string):=hown
        have HO1:Hid (wr.drew.ownsRow w3.heap.size 9 1 (.slice lp k lc) k ((ns.take k).map Value.string)):=own1
        have hbd':w3.heap.size≤wr.drew.heap.size:=hbd
        generalize xs[j]'hj=s at *
        clear hT hown own1 ct hnm hbd
        go_wp2_with fail
        go_region_law (first
          | (refine step_append_tx wr.drew s w3.heap.size rfl _ _ rfl rfl (.slice lp k lc) (ns.take k) k hnk rfl rfl HO1.out hlen hbd' ?_
             intro g5 cp w5 hown5 hgr5 hor5))
        all_goals
          go_wp2
          refine⟨⟨k+1,by omega,by go_num,?_,?_⟩,by simp[intOf];omega⟩
          · exact (HT.out.b.trans (below_drewN ((Below.refl _ _).alloc HT.out.b.size _) 1)).grown hgr5 (Nat.le_trans hbd' (by simp)) fun q hq=>(HO1.out.lt q hq).1
          · rw[List.take_succ_eq_append_getElem hkl,HNM.out]
            exact hown5
      · obtain rfl:k=n:=by omega
        have hd8:decide ((k:Int)<(k:Int))=false:=by simp
        have hst:Strs1 wr u7 ns:=by
          have:=hT.own
          rw[List.take_of_length_le (by rw[HNL.out];exact Nat.le_refl _),←HNL.out] at this
          exact strs_of_owns this
        obtain⟨lp,lc,hu,_⟩:=strs1_sl hst
        rw[HNL.out] at hu
        subst hu
        have hjo:=HJ.out wr _ hst
        have HBW:Hid (Below wa.heap.size wa wr):=hbwr
        clear hT hst hbwr
        go_wp2_with fail
        refine hjo.mono ?_
        rintro r w6 ⟨rfl,hb6⟩
        clear hjo
        go_wp2
        go_ret
        exact⟨rfl,below_then HBA.out (below_then HBW.out hb6)⟩
end Go.Proofs.YtfhmfjcpggddkaaGreatDoor
