/- The landed script: flows, an export. -/
import Derived.Test.YtfhmfjcpggddkaaGreatDoorM28
import Derived.Test.YtfhmfjcpggddkaaGreatDoorM43
import Derived.Test.YtfhmfjcpggddkaaGreatDoorSxSh
import Derived.Test.YtfhmfjcpggddkaaGreatDoorM42
import Derived.Test.YtfhmfjcpggddkaaGreatDoorM12
import Derived.Test.YtfhmfjcpggddkaaGreatDoorM16
set_option maxHeartbeats 20000000
set_option maxRecDepth 100000
namespace Go.Proofs.YtfhmfjcpggddkaaGreatDoor
open Go.RowKit Lh
theorem replaceK_all (y:UInt8)(new:List UInt8):∀(n:Nat) (s:List UInt8),s.length≤n→Lib.replaceK [y] new (Lib.count s [y]) s=s.flatMap fun c=>if c=y then new else [c]:=by
 have hocc:∀(s:List UInt8) (j:Nat),s[j]?=some y→Lib.occAt s [y] j=true:=fun s j h=>by
  obtain⟨hj,e⟩:=List.getElem?_eq_some_iff.1 h
  unfold Lib.occAt
  rw[List.drop_eq_getElem_cons hj,e]
  simp[List.isPrefixOf]
 have hflat:∀s:List UInt8,(∀c∈s,c≠y)→(s.flatMap fun c=>if c=y then new else [c])=s:=fun s h=>by
  induction s with
  | nil=>rfl
  | cons c s ih =>
   rw[List.flatMap_cons,if_neg (h c (by simp)),ih fun z hz=>h z (by simp[hz])]
   rfl
 intro n
 induction n with
 | zero =>
  intro s hs
  obtain rfl:=List.length_eq_zero_iff.1 (Nat.le_zero.1 hs)
  rfl
 | succ n ih =>
  intro s hs
  rcases Lib.index_spec s [y] with⟨h1,h2⟩|⟨i,h1,h2,h3,h4⟩
  ·rw[Lib.count_miss h1,hflat s fun c hc e=>?_]
   ·rfl
   ·obtain⟨j,hj,rfl⟩:=List.mem_iff_getElem.1 hc
    have:=h2 j (by omega)
    rw[hocc s j (by rw[List.getElem?_eq_getElem hj,e])] at this
    cases this
  ·have hi:=Lib.occAt_head (t:=[]) rfl h3
   obtain⟨hil,hie⟩:=List.getElem?_eq_some_iff.1 hi
   rw[Lib.count_hit (by simp) h1,Nat.add_comm 1,Lib.replaceK_hit _ _ _ _ i h1]
   show s.take i++new++Lib.replaceK [y] new (Lib.count (s.drop (i+1)) [y]) (s.drop (i+1))=_
   rw[ih _ (by rw[List.length_drop];omega)]
   have hsp:s=s.take i++y :: s.drop (i+1):=by
    conv=>lhs;rw[←List.take_append_drop i s,List.drop_eq_getElem_cons hil,hie]
   have hno:(s.take i).flatMap (fun c=>if c=y then new else [c])=s.take i:=hflat _ fun c hc e=>by
    obtain⟨j,hj,rfl⟩:=List.mem_iff_getElem.1 hc
    rw[List.length_take] at hj
    have hjs:j<s.length:=by omega
    have h5:=h4 j (by omega)
    rw[List.getElem_take] at e
    rw[hocc s j (by rw[List.getElem?_eq_getElem hjs,e])] at h5
    cases h5
   conv=>rhs;rw[hsp,List.flatMap_append,List.flatMap_cons,if_pos rfl,hno]
   rw[List.append_assoc]
theorem exp_text (X:List UInt8):Lib.replaceAll (Lib.trimSuffix (X++[10]) [10]) [10] [59,32]=expT (X++[10]):=by
 have h1:Lib.trimSuffix (X++[10]) [10]=X:=by
  unfold Lib.trimSuffix Lib.hasSuffix
  rw[if_pos (by simp),List.length_append]
  simp
 rw[h1]
 unfold Lib.replaceAll Lib.replace
 rw[if_neg (by decide)]
 have h2:Lib.replaceNum X [10] (-1)=Lib.count X [10]:=by
  unfold Lib.replaceNum
  rw[if_pos (Or.inl (by decide))]
 rw[h2,replaceK_all 10 [59,32] X.length X (Nat.le_refl _)]
 unfold expT
 rw[List.dropLast_concat]
theorem flowTexts_any (a:Nat→Addr)(p:Nat)(F:Nat→Prop)(S:Sc)(r g cap j:Nat)(W:World)(he:EC a W)(hY:PlY S F p r g cap W)(hS:SB S j) :
    Calls Tryz.prog 57 #[.pointer (some ⟨p,0,none⟩)] W fun e W'=>∃v,e=.returned v∧Strs1 W' v (S.b.L.map flowB)∧Below W.heap.size W W':=by
  have hfl:=flows_bal S.b F r W hY.rep hS.ok.ok
  have hkey:=hS.key
  have hlen:=hS.ok.ok.ok.len
  have hhost:∀y∈S.b.L,y.2.1.size≤12:=fun y hy=>(nm_word (hS.ok.ok.host y hy)).2.2.2
  have c0:=hY.c0
  have HKEY:Hid (∀y∈S.b.L,y.1≤9999999):=hkey
  have HHOST:Hid (∀y∈S.b.L,y.2.1.size≤12):=hhost
  have HDE:Hid (∀(w':World) (k:Nat),Below W.heap.size W w'→k≤9999999→Calls Tryz.prog 104 #[.int .u64 (k:Nat),.int .i64 10] w' fun q w''=>q=.returned (.string (bt (decL k)))∧Below w'.heap.size w' w''):=fun w' k hb hk=>fmtU_any k (by omega) w' (he.later hb)
  generalize S.b.L=L at *
  clear hY hS hkey hhost he
  go_enter Tryz.func57,Tryz.ntmps57
  go_wp2_with fail
  refine hfl.mono ?_
  rintro e wa ⟨v,rfl,hfv,hba⟩
  obtain⟨fp,fc,rfl,hrow⟩:∃fp fc,v=.slice fp L.length fc∧∀i (hi:i<L.length),∃g,fp=some ⟨g,0,none⟩∧wa.cell? ⟨g,i*3,none⟩=some (.int .u64 (L[i].1:Nat))∧wa.cell? ⟨g,i*3+1,none⟩=some (.string L[i].2.1)∧wa.cell? ⟨g,i*3+2,none⟩=some (.int .i64 L[i].2.2):=by
    rcases hfv with⟨rfl,rfl|⟨ad,c,rfl⟩⟩|⟨g,c,rfl,_,_,h3,_⟩
    · exact⟨none,0,rfl,fun i hi=>absurd hi (Nat.not_lt_zero i)⟩
    · exact⟨some ad,c,rfl,fun i hi=>absurd hi (Nat.not_lt_zero i)⟩
    · exact⟨some ⟨g,0,none⟩,c,rfl,fun i hi=>⟨g,rfl,h3 i hi⟩⟩
  have HBA:Hid (Below W.heap.size W wa):=hba
  have HR:Hid (∀w',Below wa.heap.size wa w'→∀i (hi:i<L.length),∃g,fp=some ⟨g,0,none⟩∧w'.cell? ⟨g,i*3,none⟩=some (.int .u64 (L[i].1:Nat))∧w'.cell? ⟨g,i*3+1,none⟩=some (.string L[i].2.1)∧w'.cell? ⟨g,i*3+2,none⟩=some (.int .i64 L[i].2.2)):=fun w' hb i hi=>by
    obtain⟨g,e1,e2,e3,e4⟩:=hrow i hi
    exact⟨g,e1,below_cell hb e2,below_cell hb e3,below_cell hb e4⟩
  clear hfl hfv hba hrow
  go_wp2_with fail
  go_loopw [3,12] (fun u3 u12 W'=>∃k:Nat,k≤L.length∧u12=.int .i64 (k:Nat)∧TabL wa W' u3 k (L.map flowB)) (fun _ u12 _=>L.length - (intOf u12).toNat)
  case atStart=>exact⟨0,Nat.zero_le _,rfl,Below.refl _ _,by rw[List.take_zero];exact owns_nil _ _ _⟩
  case round =>
    obtain⟨k,hk,rfl,hT⟩:=hrel
    have HT:Hid (TabL wa wr u3 k (L.map flowB)):=hT
    by_cases hlt:k<L.length
    · have hki:(k:Int)<(L.length:Int):=by omega
      obtain⟨g,rfl,r0,r1,r2⟩:=HR.out wr hT.b k hlt
      have hk7:=HKEY.out _ (List.getElem_mem hlt)
      have hh12:=HHOST.out _ (List.getElem_mem hlt)
      have hkl:k<(L.map flowB).length:=by rw[List.length_map];exact hlt
      have HNM:Hid ((L.map flowB)[k]'hkl=flowB (L[k]'hlt)):=by show _=_;rw[List.getElem_map]
      have HTK:Hid (((L.map flowB).take k).length=k):=by show _=_;rw[List.length_take,List.length_map];omega
      have hnk:=HTK.out
      have hlen':k≤100000:=by omega
      obtain⟨lp,lc,rfl⟩:∃lp lc,u3=.slice lp k lc:=by
        rcases hT.own.2 with⟨rfl,hz⟩|⟨q,cap,cur,rfl,_⟩
        · exact⟨none,0,by rw[hz]⟩
        · exact⟨_,_,rfl⟩
      obtain⟨⟨y1,y2,y3⟩,hy⟩:∃y,y=L[k]'hlt:=⟨_,rfl⟩
      rw[←hy] at r0 r1 r2 hk7 hh12 HNM
      simp only at r0 r1 r2 hk7 hh12
      have HY:Hid (flowB (y1,y2,y3)=bt (decL y1)++⟨#[32]⟩++y2):=rfl
      have hds:=decB_size hk7
      obtain⟨wq,hwq⟩:∃wq,wq=wr.alloc (.cells #[.int .u64 (y1:Nat),.string y2,.int .i64 y3] 80):=⟨_,rfl⟩
      have hbq:Below wr.heap.size wr wq:=by rw[hwq];exact below_al (Below.refl _ _) _
      have HDW:Hid (∀w',Below wq.drew.heap.size wq.drew w'→Below W.heap.size W w'):=fun w' hb=>below_then (below_then HBA.out hT.b) (below_then hbq (below_of_drew hb))
      have hde:=fun w' (hb:Below wq.drew.heap.size wq.drew w')=>HDE.out w' y1 (HDW.out w' hb) hk7
      have hd0:=hde _ (Below.refl _ _)
      have z1:(⟨#[32]⟩:ByteArray).size=1:=rfl
      generalize bt (decL y1)=D at *
      have n0:∀w,(Op.stringOp .add D ({ data:=#[32] }:ByteArray)).run Tryz.prog w=.ok (.string (D++{ data:=#[32] })) w:=fun w=>run_string_add_sum w _ _ (by omega)
      have n1:∀w,(Op.stringOp .add (D++{ data:=#[32] }) y2).run Tryz.prog w=.ok (.string (D++{ data:=#[32] }++y2)) w:=fun w=>run_string_add_sum w _ _ (by rw[ByteArray.size_append'];omega)
      have x0:wq.cell? ⟨wr.heap.size,0,none⟩=some (.int .u64 (y1:Nat)):=by rw[hwq];simp
      have x1:wq.cell? ⟨wr.heap.size,1,none⟩=some (.string y2):=by rw[hwq];simp
      have HBQ:Hid (Below wr.heap.size wr wq):=hbq
      have HX1:Hid (∀w',Below wq.drew.heap.size wq.drew w'→w'.cell? ⟨wr.heap.size,1,none⟩=some (.string y2)):=fun w' hb=>below_cell (below_of_drew hb) x1
      have HOW:Hid (∀w',Below wq.drew.heap.size wq.drew w'→w'.ownsRow wa.heap.size 9 1 (.slice lp k lc) k (((L.map flowB).take k).map Value.string)∧wa.heap.size≤w'.heap.size):=fun w' hb=>⟨ownsRow_below HT.out.own (below_then hbq (below_of_drew hb)),Nat.le_trans HT.out.b.size (below_then hbq (below_of_drew hb)).size⟩
      clear hT hbq hy hde
      go_wp2_with fail
      rw[←hwq]
      clear hwq
      go_region_law (first
        | (refine step_append_tx w4 (D++{ data:=#[32] }++y2) wa.heap.size rfl _ _ rfl rfl (.slice lp k lc) ((L.map flowB).take k) k hnk rfl rfl (HOW.out _ hb4).1 hlen' (HOW.out _ hb4).2 ?_
           intro g5 cp w5 hown5 hgr5 hor5)
        | (go_simp;go_at_call 104;refine hd0.mono ?_;rintro e w4 ⟨rfl,hb4⟩;have x14:=HX1.out _ hb4))
      all_goals
        go_wp2
        refine⟨⟨k+1,by omega,by go_num,?_,?_⟩,by simp[intOf];omega⟩
        · have h4:Below wr.heap.size wr w4:=below_then HBQ.out (below_of_drew hb4)
          exact (below_then HT.out.b (below_al h4 _)).grown hgr5 (Nat.le_trans (HOW.out _ hb4).2 (by simp)) fun q hq=>((HOW.out _ hb4).1.lt q hq).1
        · rw[List.take_succ_eq_append_getElem hkl,HNM.out,HY.out]
          exact hown5
    · obtain rfl:k=L.length:=by omega
      have hd8:decide ((L.length:Int)<(L.length:Int))=false:=by simp
      have hst:Strs1 wr u3 (L.map flowB):=by
        have:=hT.own
        rw[List.take_of_length_le (by rw[List.length_map];exact Nat.le_refl _)] at this
        have e:L.length=(L.map flowB).length:=by rw[List.length_map]
        rw[e] at this
        exact strs_of_owns this
      have HST:Hid (Strs1 wr u3 (L.map flowB)):=hst
      have HBW:Hid (Below wa.heap.size wa wr):=hT.b
      clear hT hst
      go_wp2
      go_ret
      exact⟨_,rfl,HST.out,below_then HBA.out HBW.out⟩
theorem cl_flows (w0 W:World)(a:Nat→Addr)(p q m:Nat)(F:Nat→Prop)(S:Sc)(r g cap j:Nat)(hP:PlC w0 a p q m F W)(hY:PlY S F p r g cap W)(hS:SB S j)(vn vh:Value)(hvn:∃x n c,vn=.slice x n c)(hvh:∃x n c,vh=.slice x n c) :
  Calls Tryz.prog 56 #[.agg #[vn,vh],.pointer (some ⟨q,0,none⟩)] W (CmdE w0 a p q m F (some S) ⟨wFlows,[],[]⟩ W):=by
 obtain⟨ux,ul,uc,rfl⟩:=hvn
 obtain⟨vx,vl,vc,rfl⟩:=hvh
 have hn:=hS.ok.ne
 have hpF:¬F p:=fun h=>(hP.F0 p h).2.1 rfl
 obtain⟨wa,hwa⟩:∃wa,wa=W.alloc (.cells #[.slice ux ul uc,.slice vx vl vc] 83):=⟨_,rfl⟩
 have hba:Below W.heap.size W wa:=by rw[hwa];exact (Below.refl _ _).alloc (Nat.le_refl _) _
 have hPa:=hP.later hba
 have hYa:=hY.later hpF hn hba
 have HBA:Hid (Below W.heap.size W wa):=hba
 have k0:wa.cell? ⟨W.heap.size,0,none⟩=some (.slice ux ul uc):=by rw[hwa];simp
 have k1:wa.cell? ⟨W.heap.size,1,none⟩=some (.slice vx vl vc):=by rw[hwa];simp
 have kq:=hPa.q0
 have c0:=hYa.c0
 have c1:=hYa.c1
 have c2:=hYa.c2
 have hbd:Below wa.heap.size wa wa.drew:=below_drewN (Below.refl _ _) 1
 have hlF:¬F W.heap.size:=fun h=>absurd (hY.rep.lt _ h) (Nat.lt_irrefl _)
 have hqF:¬F q:=fun h=>(hP.F0 q h).2.2.1 rfl
 have hu:=flowTexts_any a p F S r g cap j wa hPa.ea.c hYa hS
 have hhost:∀y∈S.b.L,y.2.1.size≤12:=fun y hy=>(nm_word (hS.ok.ok.host y hy)).2.2.2
 have hlen:=hS.ok.ok.ok.len
 have HJ:Hid (∀w' v,Strs1 w' v (S.b.L.map flowB)→Calls Tryz.prog 54 #[v,.string ⟨#[44,32]⟩] w' fun r w''=>r=.returned (.string (bt (joinedS [44,32] (S.b.L.map flowT))))∧Below w'.heap.size w' w''):=fun w' v hv=>by
  have:=listed_any v (S.b.L.map flowB) ⟨#[44,32]⟩ w' hv (by rw[List.length_map];omega) (fun s hs=>by
   obtain⟨y,hy,rfl⟩:=List.mem_map.1 hs
   have h1:=hhost y hy
   have h2:=decB_size (hS.key y hy)
   have h3:(⟨#[32]⟩:ByteArray).size=1:=rfl
   unfold flowB
   rw[ByteArray.size_append',ByteArray.size_append']
   omega) (by decide)
  rw[flowsB_tx] at this
  exact this
 have HEND:Hid (∀w',Below wa.heap.size wa w'→CmdE w0 a p q m F (some S) ⟨wFlows,[],[]⟩ W (.returned (.tuple #[.string (bt (joinedS [44,32] (S.b.L.map flowT))),.nilIface])) w'):=fun w' hb=>by
  obtain⟨q1,q2,q3,q4⟩:=cmd_below hP hY hn (below_then hba hb)
  exact⟨some S,F,_,Or.inr (Or.inr (Or.inr ⟨by decide,by decide,S,rfl,Or.inl ⟨_,Or.inr (Or.inr (Or.inr (Or.inr (Or.inr (Or.inl ⟨rfl,rfl,rfl⟩))))),rfl⟩⟩)),ansE_ok rfl,q1,q2,q3,q4⟩
 generalize bt (joinedS [44,32] (S.b.L.map flowT))=ans at *
 generalize S.b.L.map flowB=us at *
 clear hP hY hPa hYa hS hba hhost hlen hlF hqF
 have kqW:=kq
 rw[hwa] at kqW
 go_enter Tryz.func56,Tryz.ntmps56
 go_wp2_with fail
 rw[←hwa]
 clear hwa kqW
 refine hu.mono ?_
 rintro e w1 ⟨v,rfl,hv,hb1⟩
 have hli:=HJ.out w1 v hv
 obtain⟨pv,cv,rfl,_⟩:=strs1_sl hv
 have HB1:Hid (Below wa.heap.size wa w1):=hb1
 clear hu hv hb1
 go_wp2_with fail
 refine hli.mono ?_
 rintro e w2 ⟨rfl,hb2⟩
 have HB2:Hid (Below w1.heap.size w1 w2):=hb2
 clear hli hb2
 go_wp2
 go_ret2
 exact HEND.out _ (below_then HB1.out HB2.out)
theorem trimB_any (s:ByteArray)(hs:s.size≤100000)(w:World):Calls Tryz.prog 107 #[.string s,.string ⟨#[10]⟩] w fun e w'=>e=.returned (.string (bt (Lib.trimSuffix (tx s) [10])))∧w'=w :=
 Any.strings_TrimSuffix lays102 s ⟨#[10]⟩ w (by omega)
theorem replB_any {a:Nat→Addr}(s:ByteArray)(hs:s.size≤100000)(w:World)(he:EC a w):Calls Tryz.prog 106 #[.string s,.string ⟨#[10]⟩,.string ⟨#[59,32]⟩] w fun e w'=>e=.returned (.string (bt (Lib.replaceAll (tx s) [10] [59,32])))∧Below w.heap.size w w':=by
 obtain⟨m,hm⟩:=he.mln
 refine Any.strings_ReplaceAll lays155 Builder_Extra_155 s ⟨#[10]⟩ ⟨#[59,32]⟩ m w (by omega) hm (by decide) ?_
 have h1:Lib.countB s ⟨#[10]⟩≤s.data.toList.length+1:=Lib.count_le _ _
 have h2:(⟨#[59,32]⟩:ByteArray).size=2:=rfl
 rw[Lib.size_eq] at hs
 rw[h2,Lib.size_eq]
 omega
theorem exportR_size {S S':Bl}{s:ByteArray}{c:Nat}(hok:BOk S)(h:ExportR S S' s c):s.size≤20000:=by
 rcases h with⟨h1,rfl,_⟩|⟨_,rfl,_⟩
 ·rw[bt_size]
  exact text_len (caF_of hok (e:=S.ep+1) (by have:=hok.ep0;omega) (by omega)) (keyIn_of hok)
 ·decide
theorem exportR_text {S S':Bl}{s:ByteArray}{c:Nat}(h:ExportR S S' s c)(hc:c=0):bt (Lib.replaceAll (Lib.trimSuffix (tx s) [10]) [10] [59,32])=bt (expT (textL (S.ep+1).toNat S.L)):=by
 rcases h with⟨_,rfl,_⟩|⟨_,_,rfl,_⟩
 ·have h1:tx (bt (textL (S.ep+1).toNat S.L))=(bodyL (S.ep+1).toNat S.L++sumL (bodyL (S.ep+1).toNat S.L))++[10]:=rfl
  rw[h1,exp_text]
  rfl
 ·cases hc
theorem exportP_any (a:Nat→Addr)(p:Nat)(F:Nat→Prop)(S:Sc)(r g cap j:Nat)(W:World)(he:∀w',Tur F W w'→EC a w')(hY:PlY S F p r g cap W)(hS:SB S j) :
  Calls Tryz.prog 59 #[.pointer (some ⟨p,0,none⟩)] W fun e W'=>∃F' b' s c ev tv,e=.returned (.tuple #[.string tv,ev])∧(∀b,F' b→F b∨W.heap.size≤b)∧Tur F W W'∧EvOf a c ev∧ExportR S.b b' s c∧RepB b' F' r W'∧(c=0→tv=bt (expT (textL (S.b.ep+1).toNat S.b.L))):=by
 have hex:=export_bal a S.b F r W (he W (Tur.of_below (Below.refl _ _))) hY.rep hS.ok.ok
 have c0:=hY.c0
 have HE:Hid (∀w',Tur F W w'→EC a w'):=he
 have HOK:Hid (BOk S.b):=hS.ok.ok
 clear hY hS he
 go_enter Tryz.func59,Tryz.ntmps59
 go_wp2_with fail
 refine hex.mono ?_
 rintro e w1 ⟨F',b',s,c,ev,q1,q2,rfl,q4,q5,q6⟩
 have hsz:=exportR_size HOK.out q5
 have htr:=trimB_any s (by omega) w1
 have hts:(bt (Lib.trimSuffix (tx s) [10])).size≤100000:=by
  rw[bt_size]
  have h1:=Lib.trimSuffix_le (tx s) [10]
  have h2:=hsz
  rw[Lib.size_eq] at h2
  have h3:(tx s).length≤20000:=h2
  omega
 have hre:=replB_any (bt (Lib.trimSuffix (tx s) [10])) hts w1 (HE.out w1 q2)
 rw[tx_bt] at hre
 have HT:Hid (c=0→bt (Lib.replaceAll (Lib.trimSuffix (tx s) [10]) [10] [59,32])=bt (expT (textL (S.b.ep+1).toNat S.b.L))):=exportR_text q5
 have HP:Hid ((∀b,F' b→F b∨W.heap.size≤b)∧Tur F W w1∧EvOf a c ev∧ExportR S.b b' s c∧RepB b' F' r w1):=⟨q1,q2,q4,q5,q6⟩
 clear hex q1 q2 q4 q5 q6 c0
 generalize bt (Lib.replaceAll (Lib.trimSuffix (tx s) [10]) [10] [59,32])=tv at *
 generalize bt (Lib.trimSuffix (tx s) [10])=ts at *
 go_wp2_with fail
 refine htr.mono ?_
 rintro e w2 ⟨rfl,rfl⟩
 clear htr
 go_wp2_with fail
 refine hre.mono ?_
 rintro e w3 ⟨rfl,hb3⟩
 have HB3:Hid (Below w2.heap.size w2 w3):=hb3
 clear hre hb3
 go_wp2
 go_ret2
 obtain⟨z1,z2,z3,z4,z5⟩:=HP.out
 exact⟨F',b',s,c,ev,tv,rfl,z1,z2.trans (Tur.of_below (F:=F) HB3.out) fun b hb=>Or.inl hb,z3,z4,z5.stay fun b hf=>HB3.out.block b (z5.lt b hf),HT.out⟩
theorem cl_export (w0 W:World)(a:Nat→Addr)(p q m:Nat)(F:Nat→Prop)(S:Sc)(r g cap j:Nat)(hP:PlC w0 a p q m F W)(hY:PlY S F p r g cap W)(hS:SB S j)(vn vh:Value)(hvn:∃x n c,vn=.slice x n c)(hvh:∃x n c,vh=.slice x n c) :
  Calls Tryz.prog 58 #[.agg #[vn,vh],.pointer (some ⟨q,0,none⟩)] W (CmdE w0 a p q m F (some S) ⟨wExport,[],[]⟩ W):=by
 obtain⟨ux,ul,uc,rfl⟩:=hvn
 obtain⟨vx,vl,vc,rfl⟩:=hvh
 have hn:=hS.ok.ne
 have hpF:¬F p:=fun h=>(hP.F0 p h).2.1 rfl
 obtain⟨wa,hwa⟩:∃wa,wa=W.alloc (.cells #[.slice ux ul uc,.slice vx vl vc] 83):=⟨_,rfl⟩
 have hba:Below W.heap.size W wa:=by rw[hwa];exact (Below.refl _ _).alloc (Nat.le_refl _) _
 have hPa:=hP.later hba
 have hYa:=hY.later hpF hn hba
 have HBA:Hid (Below W.heap.size W wa):=hba
 have k0:wa.cell? ⟨W.heap.size,0,none⟩=some (.slice ux ul uc):=by rw[hwa];simp
 have k1:wa.cell? ⟨W.heap.size,1,none⟩=some (.slice vx vl vc):=by rw[hwa];simp
 have kq:=hPa.q0
 have c0:=hYa.c0
 have c1:=hYa.c1
 have c2:=hYa.c2
 have hbd:Below wa.heap.size wa wa.drew:=below_drewN (Below.refl _ _) 1
 have hlF:¬F W.heap.size:=fun h=>absurd (hY.rep.lt _ h) (Nat.lt_irrefl _)
 have hqF:¬F q:=fun h=>(hP.F0 q h).2.2.1 rfl
 have hu:=exportP_any a p F S r g cap j wa (fun w' hT=>hPa.e.c.later (hT.below (fun b hb=>(hP.F0 b hb).1) hPa.b (Nat.le_refl _))) hYa hS
 have HEND:Hid (∀F' b' s c ev tv w',(∀b,F' b→F b∨wa.heap.size≤b)→Tur F wa w'→EvOf a c ev→ExportR S.b b' s c→RepB b' F' r w'→(c=0→tv=bt (expT (textL (S.b.ep+1).toNat S.b.L)))→CmdE w0 a p q m F (some S) ⟨wExport,[],[]⟩ W (.returned (.tuple #[.string tv,ev])) w'):=fun F' b' s c ev tv w' q1 q2 q3 q4 q5 q6=>by
  obtain⟨z1,z2,z3,z4⟩:=cmd_turned hP hY hn hba q2 q1 q5
  have y:c≠7∧c≠9:=by rcases q4 with⟨_,_,rfl,_⟩|⟨_,_,rfl,_⟩<;>decide
  exact⟨_,F',_,Or.inr (Or.inr (Or.inr ⟨by decide,by decide,S,rfl,Or.inl ⟨_,Or.inr (Or.inr (Or.inr (Or.inr (Or.inr (Or.inr ⟨rfl,b',s,c,q4,rfl,rfl⟩))))),rfl⟩⟩)),ansE_ev q3 (exportR_c q4) y.1 y.2 q6,z1,z2,z3,z4⟩
 clear hP hY hPa hYa hS hba hlF hqF
 have kqW:=kq
 rw[hwa] at kqW
 go_enter Tryz.func58,Tryz.ntmps58
 go_wp2_with fail
 rw[←hwa]
 clear hwa kqW
 refine hu.mono ?_
 rintro e w1 ⟨F',b',s,c,ev,tv,rfl,q1,q2,q3,q4,q5,q6⟩
 have HE:Hid (CmdE w0 a p q m F (some S) ⟨wExport,[],[]⟩ W (.returned (.tuple #[.string tv,ev])) w1):=HEND.out F' b' s c ev tv w1 q1 q2 q3 q4 q5 q6
 clear hu HEND q1 q2 q3 q4 q5 q6
 go_wp2
 go_ret2
 exact HE.out
theorem step_H (x:List UInt8)(A:List Nat × List ByteArray):stepW 72 x A=if isNm (bt x)=true then some (A.1,A.2++[bt x]) else none:=by
 unfold stepW
 rw[if_pos rfl]
theorem step_N (x:List UInt8)(A:List Nat × List ByteArray):stepW 78 x A=(numW x).map fun n=>(A.1++[n],A.2):=by
 unfold stepW
 rw[if_neg (by decide)]
 cases numW x with
 | none=>rfl
 | some n=>simp
theorem step_F (x:List UInt8)(A:List Nat × List ByteArray):stepW 70 x A=match numW x with|some n=>if n≤1 then some (A.1++[n],A.2) else none|none=>none:=by
 unfold stepW
 rw[if_neg (by decide)]
 cases numW x with
 | none=>rfl
 | some n=>simp
theorem scan_hosts {form:List UInt8}:∀(ws:List (List UInt8)) (i:Nat) (A:List Nat × List ByteArray),(∀j,i≤j→kindW form j=72)→scanW form i ws A=if namesW ws=true then some (A.1,A.2++ws.map bt) else none
 | [],i,A,_=>by simp[scanW,namesW]
 | x :: ws,i,A,h=>by
  show (match stepW (kindW form i) x A with|some B=>scanW form (i+1) ws B|none=>none)=_
  rw[h i (Nat.le_refl _),step_H]
  by_cases hx:isNm (bt x)=true
  ·rw[if_pos hx]
   show scanW form (i+1) ws _=_
   rw[scan_hosts ws (i+1) _ fun j hj=>h j (by omega)]
   simp[namesW,hx]
  ·rw[if_neg hx,if_neg (by simp[namesW,hx])]
def formR (w:List UInt8)(form:List UInt8)(more:Bool):Prop:=∀r:List (List UInt8),wordsC (w :: r)=(readW form more r).map fun z=>⟨w,z.2,z.1⟩
theorem formR_hosts:formR wHosts [72] true:=fun r=>by
 have hf:formW wHosts=some (-1,0):=by decide
 show (match formW wHosts with|none=>none|some (h,n)=>restW wHosts h n r)=_
 rw[hf]
 show restW wHosts (-1) 0 r=_
 unfold restW
 rw[if_neg (by decide),if_pos rfl]
 cases r with
 | nil=>rfl
 | cons x ws =>
  have h1:readW [72] true (x :: ws)=scanW [72] 0 (x :: ws) ([],[]):=readW_yes (by simp) (by simp)
  rw[h1,scan_hosts _ 0 _ fun j _=>by simp[kindW]]
  by_cases hn:namesW (x :: ws)=true
  ·rw[if_pos ⟨by simp,hn⟩,if_pos hn]
   simp
  ·rw[if_neg fun h=>hn h.2,if_neg hn]
   rfl
theorem formR_moves:formR wMoves [78,72] true:=fun r=>by
 have hf:formW wMoves=some (-1,1):=by decide
 show (match formW wMoves with|none=>none|some (h,n)=>restW wMoves h n r)=_
 rw[hf]
 show restW wMoves (-1) 1 r=_
 unfold restW
 rw[if_pos rfl]
 match r with
 | []=>rfl
 | [x] =>
  show (match numW x with|some k=>if ([]:List (List UInt8))≠[]∧namesW []=true then some (⟨wMoves,[].map bt,[k]⟩:Cm) else none|none=>none)=_
  have h1:readW [78,72] true [x]=none:=readW_no (Or.inl (by simp))
  rw[h1]
  cases numW x<;>simp
 | x :: y :: ws =>
  have h1:readW [78,72] true (x :: y :: ws)=scanW [78,72] 0 (x :: y :: ws) ([],[]):=readW_yes (by simp) (by simp)
  rw[h1]
  show _=(match stepW (kindW [78,72] 0) x ([],[]) with|some B=>scanW [78,72] 1 (y :: ws) B|none=>none).map _
  have k0:kindW [78,72] 0=78:=by decide
  rw[k0,step_N]
  show (match numW x with|some k=>if (y :: ws)≠[]∧namesW (y :: ws)=true then some (⟨wMoves,(y :: ws).map bt,[k]⟩:Cm) else none|none=>none)=_
  cases numW x with
  | none=>rfl
  | some k =>
   show _=(scanW [78,72] 1 (y :: ws) ([]++[k],[])).map _
   rw[scan_hosts _ 1 _ fun j hj=>by simp only[kindW,List.length_cons,List.length_nil];rw[Nat.min_eq_right (by omega)];rfl]
   by_cases hn:namesW (y :: ws)=true
   ·rw[if_pos hn]
    simp[hn]
   ·rw[if_neg hn]
    simp[hn]
theorem len_no {form:List UInt8}{r:List (List UInt8)}(h:r.length≠form.length):readW form false r=none:=readW_no (by
 rcases Nat.lt_or_gt_of_ne h with q|q
 ·exact Or.inl q
 ·exact Or.inr ⟨q,rfl⟩)
theorem len_yes {form:List UInt8}{r:List (List UInt8)}(h:r.length=form.length):readW form false r=scanW form 0 r ([],[]):=readW_yes (by omega) (by omega)
theorem mapM_len:∀ {r:List (List UInt8)} {ks:List Nat},r.mapM numW=some ks→ks.length=r.length
 | [],ks,h=>by
  simp at h
  subst h
  rfl
 | x :: r,ks,h=>by
  rw[List.mapM_cons] at h
  cases hx:numW x with
  | none=>rw[hx] at h;cases h
  | some k0 =>
   cases hr:r.mapM numW with
   | none=>rw[hx,hr] at h;cases h
   | some ks0 =>
    rw[hx,hr] at h
    obtain rfl:k0 :: ks0=ks:=Option.some.inj h
    simp[mapM_len hr]
theorem rest_nums {w:List UInt8}{n:Nat}(hf:formW w=some (0,n))(hm:w≠wMoves)(r:List (List UInt8)):wordsC (w :: r)=match r.mapM numW with|some ks=>if ks.length=n then some ⟨w,[],ks⟩ else none|none=>none:=by
 show (match formW w with|none=>none|some (h,n)=>restW w h n r)=_
 rw[hf]
 show restW w 0 n r=_
 unfold restW
 rw[if_neg hm,if_neg (by decide),if_neg (by decide)]
 cases r.mapM numW<;>rfl
theorem rest_short {w:List UInt8}{n:Nat}(hf:formW w=some (0,n))(hm:w≠wMoves){r:List (List UInt8)}(h:r.length≠n):wordsC (w :: r)=none:=by
 rw[rest_nums hf hm]
 cases hr:r.mapM numW with
 | none=>rfl
 | some ks =>
  show (if ks.length=n then some (⟨w,[],ks⟩:Cm) else none)=none
  rw[if_neg (by rw[mapM_len hr];exact h)]
theorem formR_N {w:List UInt8}(hf:formW w=some (0,1))(hm:w≠wMoves):formR w [78] false:=fun r=>by
 by_cases h:r.length=1
 ·obtain⟨x,rfl⟩:=List.length_eq_one_iff.1 h
  rw[rest_nums hf hm,len_yes rfl]
  show _=(match stepW (kindW [78] 0) x ([],[]) with|some B=>scanW [78] 1 [] B|none=>none).map _
  have k0:kindW [78] 0=78:=by decide
  rw[k0,step_N,List.mapM_cons]
  cases numW x with
  | none=>rfl
  | some k=>simp[scanW]
 ·rw[rest_short hf hm h,len_no h]
  rfl
theorem formR_NN {w:List UInt8}(hf:formW w=some (0,2))(hm:w≠wMoves):formR w [78,78] false:=fun r=>by
 by_cases h:r.length=2
 ·match r,h with
  | [x,y],_ =>
   rw[rest_nums hf hm,len_yes rfl]
   show _=(match stepW (kindW [78,78] 0) x ([],[]) with|some B=>scanW [78,78] 1 [y] B|none=>none).map _
   have k0:kindW [78,78] 0=78:=by decide
   have k1:kindW [78,78] 1=78:=by decide
   rw[k0,step_N,List.mapM_cons,List.mapM_cons]
   cases numW x with
   | none=>rfl
   | some k =>
    show _=(match stepW (kindW [78,78] 1) y ([]++[k],[]) with|some B=>scanW [78,78] 2 [] B|none=>none).map _
    rw[k1,step_N]
    cases numW y with
    | none=>rfl
    | some k2=>simp[scanW]
 ·rw[rest_short hf hm h,len_no h]
  rfl
theorem formR_0 {w:List UInt8}(hf:formW w=some (0,0))(hm:w≠wMoves):formR w [] false:=fun r=>by
 by_cases h:r.length=0
 ·obtain rfl:=List.length_eq_zero_iff.1 h
  rw[rest_nums hf hm,len_yes rfl]
  rfl
 ·rw[rest_short hf hm h,len_no h]
  rfl
theorem formR_HF {w:List UInt8}(hf:formW w=some (1,1))(hm:w≠wMoves):formR w [72,70] false:=fun r=>by
 show (match formW w with|none=>none|some (h,n)=>restW w h n r)=_
 rw[hf]
 show restW w 1 1 r=_
 unfold restW
 rw[if_neg hm,if_neg (by decide),if_pos rfl]
 by_cases h:r.length=2
 ·match r,h with
  | [x,y],_ =>
   rw[len_yes rfl]
   show _=(match stepW (kindW [72,70] 0) x ([],[]) with|some B=>scanW [72,70] 1 [y] B|none=>none).map _
   have k0:kindW [72,70] 0=72:=by decide
   have k1:kindW [72,70] 1=70:=by decide
   rw[k0,step_H]
   show (match numW y with|some k=>if isNm (bt x)=true∧k≤1 then some (⟨w,[bt x],[k]⟩:Cm) else none|none=>none)=_
   by_cases hx:isNm (bt x)=true
   ·rw[if_pos hx]
    show _=(match stepW (kindW [72,70] 1) y ([],[]++[bt x]) with|some B=>scanW [72,70] 2 [] B|none=>none).map _
    rw[k1,step_F]
    cases numW y with
    | none=>rfl
    | some k =>
     by_cases hk:k≤1
     ·simp[hx,hk,scanW]
     ·simp[hk]
   ·rw[if_neg hx]
    cases numW y with
    | none=>rfl
    | some k=>simp[hx]
 ·rw[len_no h]
  match r,h with
  | [],_=>rfl
  | [x],_=>rfl
  | [x,y],h=>exact absurd rfl h
  | x :: y :: z :: r,_=>rfl
end Go.Proofs.YtfhmfjcpggddkaaGreatDoor
