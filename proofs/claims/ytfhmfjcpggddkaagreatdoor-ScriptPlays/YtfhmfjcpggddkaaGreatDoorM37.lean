/- The model's balance: Pick of a new key, where some are open. -/
import Derived.Test.YtfhmfjcpggddkaaGreatDoorM36
import Derived.Test.YtfhmfjcpggddkaaGreatDoorM35
import Derived.Test.YtfhmfjcpggddkaaGreatDoorM7
import Derived.Test.YtfhmfjcpggddkaaGreatDoorM19
set_option maxHeartbeats 20000000
set_option maxRecDepth 100000
namespace Go.Proofs.YtfhmfjcpggddkaaGreatDoor
open Go.RowKit
section
variable {W W':World} {m hm fm:Nat} {L:List Mh} {lv fv dv:Value} {B:Nat} {S:Lh.Bl}
theorem rem_cast (a b:Nat):((a:Nat):Int).tmod (b:Int)=((a % b:Nat):Int):=rfl
theorem wrap_u (n:Nat)(h:n≤503):IntKind.u64.wrap (n:Int)=(n:Int):=by simp[IntKind.wrap,IntKind.signed,IntKind.bits];omega
theorem wrap_i (n:Nat)(h:n≤503):IntKind.i64.wrap (n:Int)=(n:Int):=by simp[IntKind.wrap,IntKind.signed,IntKind.bits];omega
theorem row_at {w:World}{g:Nat}{xs:List Int}{q i:Nat}(h:IntRow w g xs)(hq:q<xs.length)(hi:xs.getD q 0=(i:Nat)):w.cell? ⟨g,q,none⟩=some (.int .i64 (i:Nat)):=by
 rw[h.cell hq]
 rw[List.getD_eq_getElem?_getD,List.getElem?_eq_getElem hq] at hi
 simp at hi
 rw[hi]
theorem mpick_new (h:MB W m hm fm L lv fv dv B S)(hk:Lh.BOk S)(k:Nat)(ho:Lh.bopen S≠[])(now:Int)(hok:TickOk S.la now)(hks:∀z,¬Lh.BKeeps S k now z) :
  Calls Tryz.prog 24 #[.pointer (some ⟨m,0,none⟩),.int .u64 (k:Nat),.int .i64 now] W fun e w'=>e=.returned (.tuple #[.string (nwB (Lh.bopen S) S.size k),.bool false,.int .i64 0])∧MPost m hm fm L lv fv dv B W { S with la:=now,L:=Lh.fput S.t S.L k (nwB (Lh.bopen S) S.size k) now } w':=by
 obtain⟨iS,hiS,hz0,hz1,hz2⟩:=info_parts infoS
 have hget:=mget_ok h.f hk.ok.len k hok
 have c1:=h.c1
 have HH:Hid (MB W m hm fm L lv fv dv B S):=h
 have HK:Hid (Lh.BOk S):=hk
 have HOK:Hid (TickOk S.la now):=hok
 have HKS:Hid (∀z,¬Lh.BKeeps S k now z):=hks
 have hul:(Lh.hups S.hs).length≤12:=by
  unfold Lh.hups
  rw[List.length_map]
  exact Nat.le_trans (List.length_filter_le _ _) hk.h.len
 have hdl:S.dr.length≤12:=h.drLen hk.h.len
 clear h hk hok hks
 go_enter Tryz.func24,Tryz.ntmps24
 go_wp2_with fail
 refine hget.mono ?_
 rintro e w1 ⟨z,kept,rfl,hcase,hF1,hT1⟩
 have hB1:=HH.out.ticked hT1 hF1
 have c0:=hB1.c0
 have his:=isUp_any hB1.h (hB1.hok (HK.out.tick HOK.out.1 HOK.out.2.1)) z
 have hku:(kept=true∧Lh.hup (hst L) z=false)∨kept=false:=by
  rcases hcase with⟨rfl,q4,q5,rfl⟩|⟨rfl,_⟩
  ·cases hu:Lh.hup (hst L) (S.L[Lh.fix S.L k]).2.1 with
   | false=>exact Or.inl ⟨rfl,rfl⟩
   | true=>exact absurd ⟨q4,q5,rfl,by rw[←hB1.hs];exact hu⟩ (HKS.out _)
  ·exact Or.inr rfl
 have HB1:Hid (MB w1 m hm fm L lv fv dv B { S with la:=now }):=hB1
 have HF1:Hid (MF w1 fm S.t now S.L fv):=hF1
 have HT1:Hid (Tur (FFoot fm fv) W w1):=hT1
 have hups:=ups_any hB1.h (by have:=HK.out.h.len;rw[←hB1.hs,hst_length] at this;exact this)
 rw[show Lh.hups (hst L)=Lh.hups S.hs by rw[hB1.hs]] at hups
 have HD:Hid (∀w',Below w1.heap.size w1 w'→w'.cell? ⟨m,3,none⟩=some dv∧Strs1 w' dv S.dr):=fun w' hb=>⟨(HB1.out.later hb).c3,strs_of_owns (HB1.out.later hb).d⟩
 obtain⟨pd,cd,hdv⟩:∃p c,dv=.slice p S.dr.length c:=fown_shape hB1.d
 clear hget hcase hF1 hT1 hB1 c1
 go_wp2_with fail
 refine his.mono ?_
 rintro e w2 ⟨rfl,rfl⟩
 generalize Lh.hup (hst L) z=u at *
 clear his
 rcases hku with⟨rfl,rfl⟩|rfl
 all_goals
  go_wp2_with fail
  refine hups.mono ?_
  rintro e w3 ⟨v,rfl,hv,hb3⟩
  have HV:Hid (Strs1 w3 v (Lh.hups S.hs)):=hv
  obtain⟨pv,cv,rfl⟩:∃p c,v=.slice p (Lh.hups S.hs).length c:=hv.shape1
  clear hups hv c0
  go_wp2_with fail
  go_loopw [13,15] (fun uo ui W'=>Below w2.heap.size w2 W'∧Below w3.heap.size w3 W'∧∃i:Nat,i≤(Lh.hups S.hs).length∧ui=.int .i64 (i:Nat)∧W'.ownsRow w3.heap.size 9 1 uo (fl (drq S) ((Lh.hups S.hs).take i)).length ((fl (drq S) ((Lh.hups S.hs).take i)).map Value.string)) (fun _ ui _=>(Lh.hups S.hs).length - (intOf ui).toNat)
  case atStart=>exact⟨hb3,Below.refl _ _,0,Nat.zero_le _,rfl,by simpa [fl] using World.ownsRow_nil _ _ _ _⟩
  case round =>
   obtain⟨hbr,hb3r,i,hi,rfl,hown⟩:=hrel
   obtain⟨wo,hwo⟩:∃wo,wo=wr:=⟨_,rfl⟩
   subst hwo
   obtain⟨c3,hsd⟩:=HD.out wo hbr
   by_cases hlt:i<(Lh.hups S.hs).length
   ·have hki:(i:Int)<((Lh.hups S.hs).length:Int):=by omega
    obtain⟨gb,go,rfl,cx⟩:=(HV.out.later hb3r).cell1 hlt
    obtain⟨x,hx⟩:∃x,(Lh.hups S.hs)[i]'hlt=x:=⟨_,rfl⟩
    rw[hx] at cx
    have hfl:=fl_le (drq S) (Lh.hups S.hs) i
    have hidx:∀w',Below wo.heap.size wo w'→Calls Tryz.prog 73 #[.slice pd S.dr.length cd,.string x] w' fun e w''=>(∃j:Int,e=.returned (.int .i64 j)∧decide (j<0)=!drq S x)∧Below wo.heap.size wo w'':=fun w' hb=>by
     have h1:=idx_any dv S.dr x w' (HD.out w' (below_then hbr hb)).2 (by omega)
     rw[hdv,drq_mem] at h1
     exact h1.mono fun _ _ ⟨q1,q2⟩=>⟨q1,by rw[q2];exact hb⟩
    rw[hdv] at c3
    have hC:∀w',Below wo.heap.size wo w'→w'.cell? ⟨m,3,none⟩=some (.slice pd S.dr.length cd)∧w'.cell? ⟨gb,go+i,none⟩=some (.string x):=fun w' hb=>⟨below_cell hb c3,below_cell hb cx⟩
    cases hqx:drq S x with
    | true =>
     have HS:Hid (fl (drq S) ((Lh.hups S.hs).take (i+1))=fl (drq S) ((Lh.hups S.hs).take i)):=fl_gone hlt hx hqx
     have HOWN:Hid (wo.ownsRow w3.heap.size 9 1 u13 (fl (drq S) ((Lh.hups S.hs).take i)).length ((fl (drq S) ((Lh.hups S.hs).take i)).map Value.string)):=hown
     rw[hqx] at hidx
     simp only[Bool.not_true] at hidx
     clear hown hqx hx hsd hfl
     go_wp2_with fail
     go_region_held3 (fun w'=>Below wo.heap.size wo w'∧w'.cell? ⟨m,3,none⟩=some (.slice pd S.dr.length cd)∧w'.cell? ⟨gb,go+i,none⟩=some (.string x))
      (first|exact⟨by assumption,hC _ (by assumption)⟩|exact⟨below_drewN (Below.refl _ _) 1,hC _ (below_drewN (Below.refl _ _) 1)⟩)
      (first
       | (go_at_call 73;refine (hidx _ (by first|assumption|exact below_drewN (Below.refl _ _) 1)).mono ?_;rintro e w5 ⟨⟨j,rfl,hj⟩,hb5⟩))
     all_goals
      clear hidx hC
      go_wp2_with fail
      go_roundw
      case rel=>exact⟨below_then hbr hb5,below_then hb3r hb5,i+1,by omega,by go_num,by rw[HS.out];exact ownsRow_below HOWN.out hb5⟩
      case measure=>simp[intOf];omega
    | false =>
     have HS:Hid (fl (drq S) ((Lh.hups S.hs).take (i+1))=fl (drq S) ((Lh.hups S.hs).take i)++[x]):=fl_keep hlt hx hqx
     rw[hqx] at hidx
     simp only[Bool.not_false] at hidx
     obtain⟨vo,hvo⟩:∃vo,vo=u13:=⟨_,rfl⟩
     subst hvo
     generalize fl (drq S) ((Lh.hups S.hs).take i)=out at *
     have HOWN:Hid (wo.ownsRow w3.heap.size 9 1 vo out.length (out.map Value.string)):=hown
     have hmax:out.length+1≤maxLen:=by unfold maxLen;omega
     have hw23:w2.heap.size≤w3.heap.size:=hb3.size
     clear hown hqx hx hsd
     go_wp2_with fail
     go_region_held3 (fun w'=>Below wo.heap.size wo w'∧w'.cell? ⟨m,3,none⟩=some (.slice pd S.dr.length cd)∧w'.cell? ⟨gb,go+i,none⟩=some (.string x))
      (first|exact⟨by assumption,hC _ (by assumption)⟩|exact⟨below_drewN (Below.refl _ _) 1,hC _ (below_drewN (Below.refl _ _) 1)⟩)
      (first
       | (go_at_call 73;refine (hidx _ (by first|assumption|exact below_drewN (Below.refl _ _) 1)).mono ?_;rintro e w5 ⟨⟨j,rfl,hj⟩,hb5⟩))
     all_goals
      have cx5:=(hC w5 hb5).2
      have hown3:=(ownsRow_below HOWN.out hb5).alloc (.cells #[.string x] 9)
      have hnews:=cells_one (w:=w5) (t:=9) x
      have hb35:=below_then hb3r hb5
      have hb25:=below_then hbr hb5
      have hbw3:Below w3.heap.size w3 (w5.alloc (.cells #[.string x] 9)):=hb35.alloc hb35.size _
      have hbw2:Below w2.heap.size w2 (w5.alloc (.cells #[.string x] 9)):=hb25.alloc hb25.size _
      clear hidx hC
      go_wp2_with (at_builtin;refine wpList_append_own _ rfl _ _ 22 rfl w3.heap.size 9 iS _ 1 16 Tryz.underlying22 hiS hz0 hz1 hz2 rfl (by decide) vo out.length (out.map Value.string) rfl hown3 ⟨_,0,none⟩ 1 1 [.string x] rfl rfl hnews (fun u hu=>by simp at hu;subst hu;rfl) hmax (by omega) hbw3.size ?_)
      intro v' w4 hown4 hg4 _
      have hlo:=hown3.lt
      have hb4:Below w3.heap.size w3 w4:=hbw3.grown hg4 hbw3.size (fun k hk=>(hlo k hk).1)
      have hb42:Below w2.heap.size w2 w4:=hbw2.grown hg4 hbw2.size (fun k hk=>Nat.le_trans hw23 (hlo k hk).1)
      have hown5:=owns_snoc hown4
      have HOUT:Hid (w4.ownsRow w3.heap.size 9 1 v' (out++[x]).length ((out++[x]).map Value.string)):=by rw[List.length_append];exact hown5
      clear hown3 hnews hlo hg4 hbw3 hbw2 hmax hown4 hown5
      go_wp2
      exact⟨⟨hb42,hb4,i+1,by omega,by go_num,by rw[HS.out];exact HOUT.out⟩,by simp[intOf];omega⟩
   ·have hki:decide ((i:Int)<((Lh.hups S.hs).length:Int))=false:=by simp;omega
    have hopn:wo.ownsRow w3.heap.size 9 1 u13 (Lh.bopen S).length ((Lh.bopen S).map Value.string):=by
     have e:fl (drq S) ((Lh.hups S.hs).take i)=Lh.bopen S:=by
      rw[List.take_of_length_le (by omega)]
      exact drq_open S
     rw[e] at hown
     exact hown
    have HB4:Hid (MB wo m hm fm L lv fv dv B { S with la:=now }):=HB1.out.later hbr
    have HF4:Hid (MF wo fm S.t now S.L fv):=HF1.out.later hbr
    have HT4:Hid (Tur (FFoot fm fv) W wo):=HT1.out.behind hbr
    clear hown c3 hsd HD HV
    obtain⟨hl12,hnd,hnm⟩:=bopen_facts HK.out
    have h0:0<(Lh.bopen S).length:=by
     rcases Nat.eq_zero_or_pos (Lh.bopen S).length with h|h
     ·exact absurd (List.length_eq_zero_iff.1 h) ho
     ·exact h
    have hprm:=HK.out.prm
    have h2:2≤S.size:=hprm.1
    have h5:=HK.out.s5
    obtain⟨g4,c4,rfl,hg4,_,hcap,_,hcell,_⟩:=strRow_of hopn h0
    have htab:=tableOf_any g4 0 c4 (Lh.bopen S) S.size wo (fun k h=>by rw[Nat.zero_add];exact hcell k h) h0 hl12 (fun k h=>(hnm _ (List.getElem_mem h)).2) hcap hprm h5
    obtain⟨i4,hi4,hti⟩:=Lh.tab_full hprm h0 (x:=Lh.turn k % S.size) (Nat.mod_lt _ (by omega))
    have HNW:Hid (nwB (Lh.bopen S) S.size k=(Lh.bopen S)[i4]):=by
     show _=_
     unfold nwB
     rw[hti,dif_pos (by simpa using hi4)]
     simp
    obtain⟨zt,hzt⟩:∃zt,Lh.turn k=zt:=⟨_,rfl⟩
    have HZT:Hid (Lh.turn k=zt):=hzt
    rw[hzt] at hti
    have hrem:=rem_cast zt S.size
    have hmod:zt % S.size<S.size:=Nat.mod_lt _ (by omega)
    obtain⟨q,hq⟩:∃q,zt % S.size=q:=⟨_,rfl⟩
    rw[hq] at hti hrem hmod
    clear hq hzt
    have HNM:Hid (Lh.isNm (Lh.bopen S)[i4]=true∧((Lh.bopen S)[i4]).size≤300):=hnm _ (List.getElem_mem hi4)
    have cx:=hcell i4 hi4
    have c2':=HB4.out.c2
    have hl0:¬(Lh.bopen S).length=0:=by omega
    have HTL:Hid ((Lh.tab (Lh.bopen S) S.size S.size).length=S.size):=Lh.tab_length _ _ _
    clear hopn hcell hnm hnd hprm
    go_wp2_with fail
    refine htab.mono ?_
    rintro e w6 ⟨g6,rfl,hg6,hrow,hb6⟩
    have cs:w6.cell? ⟨g6,q,none⟩=some (.int .i64 (i4:Nat)):=row_at hrow (by rw[HTL.out];exact hmod) hti
    have hB6:=HB4.out.later hb6
    have c26:=hB6.c2
    have c16:=hB6.c1
    have cx6:=below_cell hb6 cx
    have HB6:Hid (MB w6 m hm fm L lv fv dv B { S with la:=now }):=hB6
    have HT6:Hid (Tur (FFoot fm fv) W w6):=HT4.out.behind hb6
    have HF6:Hid (MF w6 fm S.t now S.L fv):=HF4.out.later hb6
    have hw1:=wrap_u S.size h5
    have hw2:=wrap_i q (by omega)
    have hn0:¬S.size=0:=by omega
    have hml:(q:Int)<(S.size:Int):=by omega
    have hil:(i4:Int)<((Lh.bopen S).length:Int):=by omega
    obtain⟨s,hs⟩:∃s,(Lh.bopen S)[i4]'hi4=s:=⟨_,rfl⟩
    have HSX:Hid (nwB (Lh.bopen S) S.size k=s):=by rw[HNW.out];exact hs
    have HSN:Hid (Lh.isNm s=true∧s.size≤300):=by rw[←hs];exact HNM.out
    rw[hs] at cx6
    have hst:∀w',Below w6.heap.size w6 w'→Calls Tryz.prog 75 #[.int .u64 k] w' fun e w''=>e=.returned (.int .u64 (zt:Nat))∧Below w6.heap.size w6 w'':=fun w' hb=>by
     rw[←HZT.out]
     exact (turnOf_any k w').mono fun _ _ ⟨q1,q2⟩=>⟨q1,by rw[q2];exact hb⟩
    have hC:∀w',Below w6.heap.size w6 w'→w'.cell? ⟨m,2,none⟩=some (.int .i64 (S.size:Nat))∧w'.cell? ⟨g6,q,none⟩=some (.int .i64 (i4:Nat))∧w'.cell? ⟨g4,i4,none⟩=some (.string s):=fun w' hb=>⟨below_cell hb c26,below_cell hb cs,below_cell hb cx6⟩
    clear htab hrow hti HTL hb6 cx c2' hs hB6 HNW HNM hmod HB4 HF4 HT4 hbr hb3r hg4 hcap hl12 h2 h5 hg6
    go_wp2_with fail
    go_region_held3 (fun w'=>Below w6.heap.size w6 w'∧w'.cell? ⟨m,2,none⟩=some (.int .i64 (S.size:Nat))∧w'.cell? ⟨g6,q,none⟩=some (.int .i64 (i4:Nat))∧w'.cell? ⟨g4,i4,none⟩=some (.string s))
     (first|exact⟨by assumption,hC _ (by assumption)⟩|exact⟨below_drewN (Below.refl _ _) 1,hC _ (below_drewN (Below.refl _ _) 1)⟩)
     (first
      | (go_at_call 75;refine (hst _ (by first|assumption|exact below_drewN (Below.refl _ _) 1)).mono ?_;rintro e w8 ⟨rfl,hb8⟩))
    all_goals
     have c18:=below_cell hb8 c16
     have HB8:Hid (MB w8 m hm fm L lv fv dv B { S with la:=now }):=HB6.out.later hb8
     have HT8:Hid (Tur (FFoot fm fv) W w8):=HT6.out.behind hb8
     have hpt:=mput_ok (HF6.out.later hb8) HK.out.ok HK.out.t2 k s HSN.out.2 HSN.out.1 (la:=now) ⟨HOK.out.1,HOK.out.2.1,Int.le_refl _⟩
     clear hst hC cs cx6 c26 c16 hrem hw1 hw2 hn0 hml hil
     go_wp2_with fail
     refine hpt.mono ?_
     rintro e w9 ⟨fv',rfl,hF9,hT9,hN9⟩
     obtain⟨q1,q2,q3⟩:=HB8.out.flows hT9 hF9 hN9
     have HP:Hid (MPost m hm fm L lv fv dv B W { S with la:=now,L:=Lh.fput S.t S.L k s now } w9):=MPost.two HB8.out HT8.out HH.out q1 q2 q3
     clear hpt hF9 hT9 hN9 q1 q2 q3 c18
     go_wp2
     go_ret3
     exact⟨by rw[HSX.out];rfl,by rw[HSX.out];exact HP.out⟩
end
section
variable {W W':World} {m hm fm:Nat} {L:List Mh} {lv fv dv:Value} {B:Nat} {S:Lh.Bl}
def DPost (m hm fm:Nat)(L:List Mh)(lv fv dv:Value)(B:Nat)(W:World)(S':Lh.Bl)(w':World):Prop:=∃dv',MB w' m hm fm L lv fv dv' B S'∧Tur (MBt m hm fm L lv fv dv) W w'∧∀b,MBt m hm fm L lv fv dv' b→MBt m hm fm L lv fv dv b∨W.heap.size≤b
theorem mdrain_none (h:MB W m hm fm L lv fv dv B S)(hk:Lh.BOk S)(s:ByteArray)(is:Bool)(hx:¬Lh.hix S.hs s<S.hs.length) :
  Calls Tryz.prog 26 #[.pointer (some ⟨m,0,none⟩),.string s,.bool is] W fun e w'=>e=.returned (.int .i64 5)∧w'=W:=by
 have hfd:=find_any h.h (by have:=hk.h.len;rw[←h.hs,hst_length] at this;exact this) s
 have e1:fi (hst L) s = -1:=by unfold fi;rw[h.hs,if_neg hx]
 rw[e1] at hfd
 have c0:=h.c0
 clear h hk hx e1
 go_enter Tryz.func26,Tryz.ntmps26
 go_wp2_with fail
 refine hfd.mono ?_
 rintro e w1 ⟨rfl,rfl⟩
 clear hfd
 go_wp2
 go_ret
 exact⟨rfl,rfl⟩
theorem mdrain_good (h:MB W m hm fm L lv fv dv B S)(hk:Lh.BOk S)(s:ByteArray)(is:Bool)(hx:Lh.hix S.hs s<S.hs.length) :
  Calls Tryz.prog 26 #[.pointer (some ⟨m,0,none⟩),.string s,.bool is] W fun e w'=>e=.returned (.int .i64 0)∧DPost m hm fm L lv fv dv B W { S with dr:=Lh.bdrain S.dr s is } w':=by
 obtain⟨iS,hiS,hz0,hz1,hz2⟩:=info_parts infoS
 have hfd:=find_any h.h (by have:=hk.h.len;rw[←h.hs,hst_length] at this;exact this) s
 have e1:fi (hst L) s=(Lh.hix S.hs s:Nat):=by unfold fi;rw[h.hs,if_pos hx]
 rw[e1] at hfd
 have c0:=h.c0
 have hdl:=h.drLen hk.h.len
 have HH:Hid (MB W m hm fm L lv fv dv B S):=h
 have HX:Hid (Lh.hix S.hs s<S.hs.length):=hx
 obtain⟨pd,cd,hdv⟩:∃p c,dv=.slice p S.dr.length c:=fown_shape h.d
 have HD:Hid (∀w',Below W.heap.size W w'→w'.cell? ⟨m,3,none⟩=some (.slice pd S.dr.length cd)∧Strs1 w' (.slice pd S.dr.length cd) S.dr):=fun w' hb=>by
  rw[←hdv]
  exact⟨(h.later hb).c3,strs_of_owns (h.later hb).d⟩
 have HEND:Hid (∀w' v,Below W.heap.size W w'→w'.ownsRow W.heap.size 9 1 v (Lh.bdrain S.dr s is).length ((Lh.bdrain S.dr s is).map Value.string)→DPost m hm fm L lv fv dv B W { S with dr:=Lh.bdrain S.dr s is } (w'.setCell ⟨m,3,none⟩ v)):=fun w' v hb hown=>by
  have hv:∀b,v.ownBlock=some b→W.heap.size≤b:=fun b e=>(hown.lt b e).1
  obtain⟨q1,q2⟩:=(h.later hb).drained (fown_mono hown (Nat.zero_le _)) (bdrain_nodup h.dn s is) (fun z hz=>by
   rcases bdrain_mem.1 hz with⟨h1,_⟩|⟨_,rfl⟩
   ·exact h.dh z h1
   ·exact hx) (fun b e hq=>by have h1:=hv b e;have h2:=h.lt b hq;omega)
  refine⟨v,q1,(Tur.of_below hb).trans q2 fun b hb=>Or.inl hb,fun b hq=>?_⟩
  rcases hq with rfl|hq|hq|hq
  ·exact Or.inl (Or.inl rfl)
  ·exact Or.inl (Or.inr (Or.inl hq))
  ·exact Or.inl (Or.inr (Or.inr (Or.inl hq)))
  ·exact Or.inr (hv b hq)
 have hmf:∀w',Below W.heap.size W w'→w'.frozen? ⟨m,3,none⟩=false:=fun w' hb=>(h.later hb).fz 3
 have HMF:Hid (∀w',Below W.heap.size W w'→w'.frozen? ⟨m,3,none⟩=false):=hmf
 have d0:decide (((Lh.hix S.hs s:Nat):Int)<0)=false:=by simp
 clear h hk hx e1 hmf
 generalize ((Lh.hix S.hs s:Nat):Int)=zi at *
 go_enter Tryz.func26,Tryz.ntmps26
 go_wp2_with fail
 refine hfd.mono ?_
 rintro e w1 ⟨rfl,rfl⟩
 clear hfd c0
 go_wp2_with fail
 go_loopw [7,8] (fun uo ui W'=>Below w1.heap.size w1 W'∧∃i:Nat,i≤S.dr.length∧ui=.int .i64 (i:Nat)∧W'.ownsRow w1.heap.size 9 1 uo (fl (fun x=>decide (x=s)) (S.dr.take i)).length ((fl (fun x=>decide (x=s)) (S.dr.take i)).map Value.string)) (fun _ ui _=>S.dr.length - (intOf ui).toNat)
 case atStart=>exact⟨Below.refl _ _,0,Nat.zero_le _,rfl,by simpa [fl] using World.ownsRow_nil _ _ _ _⟩
 case round =>
  obtain⟨hbr,i,hi,rfl,hown⟩:=hrel
  obtain⟨wo,hwo⟩:∃wo,wo=wr:=⟨_,rfl⟩
  subst hwo
  obtain⟨c3,hsd⟩:=HD.out wo hbr
  obtain⟨vo,hvo⟩:∃vo,vo=u7:=⟨_,rfl⟩
  subst hvo
  by_cases hlt:i<S.dr.length
  ·have hki:(i:Int)<(S.dr.length:Int):=by omega
   obtain⟨gb,go,rfl,cx⟩:=hsd.cell1 hlt
   obtain⟨x,hx⟩:∃x,S.dr[i]'hlt=x:=⟨_,rfl⟩
   rw[hx] at cx
   have hfl:=fl_le (fun x=>decide (x=s)) S.dr i
   by_cases hq:x=s
   ·have HS:Hid (fl (fun x=>decide (x=s)) (S.dr.take (i+1))=fl (fun x=>decide (x=s)) (S.dr.take i)):=fl_gone hlt hx (by simpa using hq)
    have HOWN:Hid (wo.ownsRow w1.heap.size 9 1 vo (fl (fun x=>decide (x=s)) (S.dr.take i)).length ((fl (fun x=>decide (x=s)) (S.dr.take i)).map Value.string)):=hown
    have hbq:=bytes_same hq
    clear hown hq hx hsd hfl
    go_wp2_with fail
    go_roundw
    case rel=>exact⟨hbr,i+1,by omega,by go_num,by rw[HS.out];exact HOWN.out⟩
    case measure=>simp[intOf];omega
   ·have HS:Hid (fl (fun x=>decide (x=s)) (S.dr.take (i+1))=fl (fun x=>decide (x=s)) (S.dr.take i)++[x]):=fl_keep hlt hx (by simpa using hq)
    have hbq:=bytes_parts hq
    generalize fl (fun x=>decide (x=s)) (S.dr.take i)=out at *
    have hown3:=hown.alloc (.cells #[.string x] 9)
    have hnews:=cells_one (w:=wo) (t:=9) x
    have hbw3:Below w1.heap.size w1 (wo.alloc (.cells #[.string x] 9)):=hbr.alloc hbr.size _
    have hmax:out.length+1≤maxLen:=by unfold maxLen;omega
    clear hown hq hx hsd
    go_wp2_with (at_builtin;refine wpList_append_own _ rfl _ _ 22 rfl w1.heap.size 9 iS _ 1 16 Tryz.underlying22 hiS hz0 hz1 hz2 rfl (by decide) vo out.length (out.map Value.string) rfl hown3 ⟨_,0,none⟩ 1 1 [.string x] rfl rfl hnews (fun u hu=>by simp at hu;subst hu;rfl) hmax (by omega) hbw3.size ?_)
    intro v' w4 hown4 hg4 _
    have hlo:=hown3.lt
    have hb4:Below w1.heap.size w1 w4:=hbw3.grown hg4 hbw3.size (fun k hk=>(hlo k hk).1)
    have hown5:=owns_snoc hown4
    have HOUT:Hid (w4.ownsRow w1.heap.size 9 1 v' (out++[x]).length ((out++[x]).map Value.string)):=by rw[List.length_append];exact hown5
    clear hown3 hnews hlo hg4 hbw3 hmax hown4 hown5
    go_wp2
    exact⟨⟨hb4,i+1,by omega,by go_num,by rw[HS.out];exact HOUT.out⟩,by simp[intOf];omega⟩
  ·have hki:decide ((i:Int)<(S.dr.length:Int))=false:=by simp;omega
   have hfin:wo.ownsRow w1.heap.size 9 1 vo (S.dr.filter fun x=>!decide (x=s)).length ((S.dr.filter fun x=>!decide (x=s)).map Value.string):=by
    have e:fl (fun x=>decide (x=s)) (S.dr.take i)=S.dr.filter fun x=>!decide (x=s):=by rw[List.take_of_length_le (by omega)];rfl
    rw[e] at hown
    exact hown
   have f3:=HMF.out wo hbr
   clear hown hsd
   cases is with
   | false =>
    have HP:Hid (DPost m hm fm L lv fv dv B w1 { S with dr:=Lh.bdrain S.dr s false } (wo.setCell ⟨m,3,none⟩ vo)):=HEND.out wo vo hbr (by unfold Lh.bdrain;simpa using hfin)
    obtain⟨pq,cq,rfl⟩:=fown_shape hfin
    clear hfin
    go_wp2
    go_ret
    exact⟨rfl,HP.out⟩
   | true =>
    have HEQ:Hid (Lh.bdrain S.dr s true=(S.dr.filter fun x=>!decide (x=s))++[s]):=rfl
    have hfl:(S.dr.filter fun x=>!decide (x=s)).length≤12:=Nat.le_trans (List.length_filter_le _ _) hdl
    generalize (S.dr.filter fun x=>!decide (x=s))=out at *
    have hown3:=hfin.alloc (.cells #[.string s] 9)
    have hnews:=cells_one (w:=wo) (t:=9) s
    have hbw3:Below w1.heap.size w1 (wo.alloc (.cells #[.string s] 9)):=hbr.alloc hbr.size _
    have hmax:out.length+1≤maxLen:=by unfold maxLen;omega
    clear hfin f3
    go_wp2_with (at_builtin;refine wpList_append_own _ rfl _ _ 22 rfl w1.heap.size 9 iS _ 1 16 Tryz.underlying22 hiS hz0 hz1 hz2 rfl (by decide) vo out.length (out.map Value.string) rfl hown3 ⟨_,0,none⟩ 1 1 [.string s] rfl rfl hnews (fun u hu=>by simp at hu;subst hu;rfl) hmax (by omega) hbw3.size ?_)
    intro v' w4 hown4 hg4 _
    have hlo:=hown3.lt
    have hb4:Below w1.heap.size w1 w4:=hbw3.grown hg4 hbw3.size (fun k hk=>(hlo k hk).1)
    have hown5:=owns_snoc hown4
    have c34:=(HD.out w4 hb4).1
    have f34:=HMF.out w4 hb4
    have HP:Hid (DPost m hm fm L lv fv dv B w1 { S with dr:=Lh.bdrain S.dr s true } (w4.setCell ⟨m,3,none⟩ v')):=HEND.out w4 v' hb4 (by rw[HEQ.out,List.length_append];exact hown5)
    obtain⟨pq,cq,rfl⟩:=fown_shape hown5
    clear hown3 hnews hlo hg4 hbw3 hmax hown4 hown5
    go_wp2
    go_ret
    exact⟨rfl,HP.out⟩
theorem canT_of (hk:Lh.BOk S):CanT S.L:=fun x hx=>by
 have h1:=hk.ok.key x hx
 have h2:=hk.ok.lo x hx
 have h3:=hk.hi x hx
 have h4:=(nm_word (hk.host x hx)).2.2.2
 exact⟨h1,by omega,h2,by omega⟩
theorem MF.flows1 {t:Nat}{la:Int}{M:List Lh.Fl}(h:MF W fm t la M fv):Flows1 W fv M:=by
 obtain⟨p,cap,rfl,hr⟩:=h.row
 exact (flows_of_owns h.own).1
theorem mexport (h:MB W m hm fm L lv fv dv B S)(hk:Lh.BOk S)(hep:S.ep<1099511627776) :
  Calls Tryz.prog 29 #[.pointer (some ⟨m,0,none⟩)] W fun e w'=>e=.returned (.string (Lh.bt (Lh.textL (S.ep+1).toNat S.L)))∧MB w' m hm fm L lv fv dv B { S with ep:=S.ep+1 }∧Tur (MBt m hm fm L lv fv dv) W w':=by
 have h0:=hk.ep0
 obtain⟨q1,q2⟩:=h.epoch (S.ep+1)
 have c4:=h.c4
 have f4:=h.fz 4
 have hw:IntKind.i64.wrap (S.ep+1)=S.ep+1:=by simp[IntKind.wrap,IntKind.signed,IntKind.bits];omega
 have hcast:(((S.ep+1).toNat:Nat):Int)=S.ep+1:=by omega
 have HTX:Hid (∀w',Below (W.setCell ⟨m,4,none⟩ (.int .i64 (S.ep+1))).heap.size (W.setCell ⟨m,4,none⟩ (.int .i64 (S.ep+1))) w'→Calls Tryz.prog 79 #[.int .i64 (S.ep+1),fv] w' fun r w''=>r=.returned (.string (Lh.bt (Lh.textL (S.ep+1).toNat S.L)))∧Below (W.setCell ⟨m,4,none⟩ (.int .i64 (S.ep+1))).heap.size (W.setCell ⟨m,4,none⟩ (.int .i64 (S.ep+1))) w''):=fun w' hb=>by
  have:=textM_any (S.ep+1).toNat (by omega) fv S.L w' (q1.f.flows1.later hb) (by have:=hk.ok.len;omega) (canT_of hk)
  rw[hcast] at this
  exact this.mono fun _ _ ⟨r1,r2⟩=>⟨r1,below_then hb r2⟩
 have HCE:Hid (∀w',Below (W.setCell ⟨m,4,none⟩ (.int .i64 (S.ep+1))).heap.size (W.setCell ⟨m,4,none⟩ (.int .i64 (S.ep+1))) w'→w'.cell? ⟨m,4,none⟩=some (.int .i64 (S.ep+1))∧w'.cell? ⟨m,1,none⟩=some (.pointer (some ⟨fm,0,none⟩))∧w'.cell? ⟨fm,2,none⟩=some fv):=fun w' hb=>⟨(q1.later hb).c4,(q1.later hb).c1,(q1.later hb).f.c2⟩
 have HB:Hid (MB (W.setCell ⟨m,4,none⟩ (.int .i64 (S.ep+1))) m hm fm L lv fv dv B { S with ep:=S.ep+1 }):=q1
 have HT:Hid (Tur (MBt m hm fm L lv fv dv) W (W.setCell ⟨m,4,none⟩ (.int .i64 (S.ep+1)))):=q2
 clear h hk q1 q2 hcast
 generalize Lh.bt (Lh.textL (S.ep+1).toNat S.L)=tx at *
 go_enter Tryz.func29,Tryz.ntmps29
 go_wp2_with fail
 generalize W.setCell ⟨m,4,none⟩ (.int .i64 (S.ep+1))=W5 at *
 obtain⟨a0,a1,a2⟩:=HCE.out W5 (Below.refl _ _)
 go_region_held3 (fun w'=>Below W5.heap.size W5 w'∧w'.cell? ⟨m,4,none⟩=some (.int .i64 (S.ep+1))∧w'.cell? ⟨m,1,none⟩=some (.pointer (some ⟨fm,0,none⟩))∧w'.cell? ⟨fm,2,none⟩=some fv)
  (first|exact⟨by assumption,HCE.out _ (by assumption)⟩|exact⟨below_drewN (Below.refl _ _) 1,HCE.out _ (below_drewN (Below.refl _ _) 1)⟩)
  (first
   | (go_at_call 79;refine (HTX.out _ (by first|assumption|exact below_drewN (Below.refl _ _) 1)).mono ?_;rintro e w1 ⟨rfl,hb1⟩))
 all_goals
  go_wp2
  go_ret
  exact⟨rfl,HB.out.later hb1,HT.out.behind hb1⟩
end
end Go.Proofs.YtfhmfjcpggddkaaGreatDoor
