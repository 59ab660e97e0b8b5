/- SideMoves: behind side.Moves' return: one list is wrong. -/
import Derived.Test.YtjeicikflkjacaaGreatDoorM49
import Derived.Deep.RegionHeld3
set_option linter.unusedSimpArgs false
set_option linter.unusedVariables false
namespace Go.Proofs.YtjeicikflkjacaaGreatDoor.Sh
open Go Go.Conc Go.Conc.Lib Go.RowKit Go.ConcN
open Ms Po
open Par (Fm Gr on stopper LocIn)
set_option maxRecDepth 100000 in
set_option maxHeartbeats 32000000 in
theorem rest3y (a:Nat→Addr)(pa:Option Addr)(la ca b o N c:Nat)(n wk:Int)(own:Value)(g:Nat→Value)(xa:Value)(ev:Value)(Q:Nat→Option Addr)(L C:Nat→Nat)(K:Nat→Int)(PA:Int)(PL:Nat→Int)(xs:List ByteArray)(ys:Nat→List ByteArray)(j cj:Nat)(PJ:Int)(w:World)(hc:chkN (N:Nat) 100 wk=0)(hC:∀i,i<N→w.cell? ⟨b,o+i,none⟩=some (.slice (Q i) (L i) (C i)))(hN6:N<1000000)(hj:j<N)(hcj:cj≠0)(hTA:∀W:World,Below w.heap.size w W→Calls Tryz.prog 10 #[.slice pa la ca,.int .i64 n] W fun e w'=>e=.returned (.agg #[.int .i64 0,.int .i64 PA])∧Below W.heap.size W w')(hTL:∀i,i<j→∀W:World,Below w.heap.size w W→Calls Tryz.prog 10 #[.slice (Q i) (L i) (C i),.int .i64 n] W fun e w'=>e=.returned (.agg #[.int .i64 0,.int .i64 (PL i)])∧Below W.heap.size W w')(hTJ:∀W:World,Below w.heap.size w W→Calls Tryz.prog 10 #[.slice (Q j) (L j) (C j),.int .i64 n] W fun e w'=>e=.returned (.agg #[.int .i64 (cj:Nat),.int .i64 PJ])∧Below W.heap.size W w')(hOA:∀W:World,Below w.heap.size w W→Calls Tryz.prog 7 #[.slice pa la ca] W fun e w'=>∃v',e=.returned v'∧(∀w2,Below w'.heap.size w' w2→Strs1 w2 v' xs)∧Below W.heap.size W w')(hOL:∀i,i<N→∀W:World,Below w.heap.size w W→Calls Tryz.prog 7 #[.slice (Q i) (L i) (C i)] W fun e w'=>∃v',e=.returned v'∧Strs1 w' v' (ys i)∧Below W.heap.size W w')(hMV:∀i,i<j→∀W:World,Below w.heap.size w W→∀va vb,Strs1 W va xs→Strs1 W vb (ys i)→Calls Tryz.prog 11 #[va,vb,.int .i64 n] W fun e w'=>e=.returned (.tuple #[.int .i64 (K i),.nilIface])∧Below W.heap.size W w')(he:Errs a w)(hev:ErrIs a w cj (j:Nat) ev) :
  wpOps Tryz.prog opsD3 (Exit.then (Po.wpC Tryz.prog (bodyPost Tryz.prog Tryz.f3 (Says w)) [restE3]) (bodyPost Tryz.prog Tryz.f3 (Says w))) [6,7,8,9,10] ⟨tM4 pa (some ⟨b,o,none⟩) la ca N c n wk own g xa (.tuple #[.slice none 0 0,ev]),[]⟩ w:=by
 have HW:Hid (Calls Tryz.prog 9 #[.int .i64 wk,.int .i64 (N:Nat),.int .i64 100] w fun e w'=>e=.returned (.agg #[.int .i64 0,.int .i64 (-1)])∧Below w.heap.size w w'):=by
  have:=workersFault_any wk (N:Nat) 100 w
  rw[hc] at this
  exact this
 have HC:Hid (∀i,i<N→w.cell? ⟨b,o+i,none⟩=some (.slice (Q i) (L i) (C i))):=hC
 have HTA:Hid (∀W:World,Below w.heap.size w W→Calls Tryz.prog 10 #[.slice pa la ca,.int .i64 n] W fun e w'=>e=.returned (.agg #[.int .i64 0,.int .i64 PA])∧Below W.heap.size W w'):=hTA
 have HTL:Hid (∀i,i<j→∀W:World,Below w.heap.size w W→Calls Tryz.prog 10 #[.slice (Q i) (L i) (C i),.int .i64 n] W fun e w'=>e=.returned (.agg #[.int .i64 0,.int .i64 (PL i)])∧Below W.heap.size W w'):=hTL
 have HTJ:Hid (∀W:World,Below w.heap.size w W→Calls Tryz.prog 10 #[.slice (Q j) (L j) (C j),.int .i64 n] W fun e w'=>e=.returned (.agg #[.int .i64 (cj:Nat),.int .i64 PJ])∧Below W.heap.size W w'):=hTJ
 have HOA:Hid (∀W:World,Below w.heap.size w W→Calls Tryz.prog 7 #[.slice pa la ca] W fun e w'=>∃v',e=.returned v'∧(∀w2,Below w'.heap.size w' w2→Strs1 w2 v' xs)∧Below W.heap.size W w'):=hOA
 have HOL:Hid (∀i,i<N→∀W:World,Below w.heap.size w W→Calls Tryz.prog 7 #[.slice (Q i) (L i) (C i)] W fun e w'=>∃v',e=.returned v'∧Strs1 w' v' (ys i)∧Below W.heap.size W w'):=hOL
 have HMV:Hid (∀i,i<j→∀W:World,Below w.heap.size w W→∀va vb,Strs1 W va xs→Strs1 W vb (ys i)→Calls Tryz.prog 11 #[va,vb,.int .i64 n] W fun e w'=>e=.returned (.tuple #[.int .i64 (K i),.nilIface])∧Below W.heap.size W w'):=hMV
 have HE:Hid (Errs a w):=he
 have HEV:Hid (ErrIs a w cj (j:Nat) ev):=hev
 have jz:((cj:Int)==0)=false:=by rw[beq_eq_false_iff_ne];omega
 have jp:(0:Int)<(cj:Int):=by omega
 have jq:0<cj:=by omega
 have jr:¬cj=0:=hcj
 obtain⟨ii,hi,hz0,hz1,hz2⟩:=info_parts infoI
 clear hc hC hTA hTL hTJ hOA hOL hMV he hev
 refine listD3 ?_
 simp only[opsD3,restD3,restA3,restE3,tM4,Tryz.f3,Option.getD_some,List.drop,Po.wpC]
 go_wp2_with fail
 refine HW.out.mono ?_
 rintro e w1 ⟨rfl,hb1⟩
 have hb0:Below w.heap.size w (w1.alloc (.cells #[.int .i64 0,.int .i64 (-1)] 33)):=below_then hb1 ((Below.refl _ _).alloc (Nat.le_refl _) _)
 have hF0:FB (w1.alloc (.cells #[.int .i64 0,.int .i64 (-1)] 33)) w1.heap.size 0 (-1):=FB.made _ _ _
 have hfb:w.heap.size≤w1.heap.size:=hb1.size
 clear HW hb1
 go_wp2_with fail
 generalize (w1.alloc (.cells #[.int .i64 0,.int .i64 (-1)] 33))=W2 at *
 generalize w1.heap.size=fb at *
 clear w1
 go_loopw [16,17] (fun v t W=>Below w.heap.size w W∧((∃i:Nat,i≤j∧t=.int .i64 i∧FB W fb 0 (-1)∧W.ownsRow (fb+1) 3 1 v i (((List.range i).map K).map (Value.int .i64)))∨(t=.int .i64 ((j+1:Nat):Int)∧FB W fb (cj:Nat) (j:Nat)))) (fun _ t _=>N+1 - (intOf t).toNat)
 case atStart=>exact⟨hb0,.inl ⟨0,Nat.zero_le _,rfl,hF0,World.ownsRow_nil _ _ _ _⟩⟩
 case round =>
  obtain⟨hb,⟨i,hile,rfl,hF,hown⟩|⟨rfl,hFj⟩⟩:=hrel
  ·have HF:Hid (FB wr fb 0 (-1)):=hF
   have HO:Hid (wr.ownsRow (fb+1) 3 1 u16 i (((List.range i).map K).map (Value.int .i64))):=hown
   have f0:=hF.c0
   clear hF hown
   have hlN:i<N:=by omega
   have hii:(i:Int)<(N:Int):=by omega
   have hd:decide ((i:Int)<(N:Int))=true:=by simp;omega
   by_cases hlt:i<j
   ·skip
    have hcl:=below_cell hb (HC.out i hlN)
    have CA:Hid (Calls Tryz.prog 10 #[.slice pa la ca,.int .i64 n] wr fun e w'=>e=.returned (.agg #[.int .i64 0,.int .i64 PA])∧Below wr.heap.size wr w'):=HTA.out wr hb
    have CT:Hid (∀W:World,Below wr.heap.size wr W→Calls Tryz.prog 10 #[.slice (Q i) (L i) (C i),.int .i64 n] W fun e w'=>e=.returned (.agg #[.int .i64 0,.int .i64 (PL i)])∧Below W.heap.size W w'):=fun W h=>HTL.out i hlt W (below_then hb h)
    have CO2:Hid (∀W:World,Below w.heap.size w W→Calls Tryz.prog 7 #[.slice (Q i) (L i) (C i)] W fun e w'=>∃v',e=.returned v'∧Strs1 w' v' (ys i)∧Below W.heap.size W w'):=HOL.out i hlN
    have CM:Hid (∀W:World,Below w.heap.size w W→∀va vb,Strs1 W va xs→Strs1 W vb (ys i)→Calls Tryz.prog 11 #[va,vb,.int .i64 n] W fun e w'=>e=.returned (.tuple #[.int .i64 (K i),.nilIface])∧Below W.heap.size W w'):=HMV.out i hlt
    obtain⟨ki,hki⟩:∃ki,ki=K i:=⟨_,rfl⟩
    have HKI:Hid (K i=ki):=hki.symm
    rw[←hki] at CM
    clear hki
    generalize Q i=q at *
    generalize L i=l at *
    generalize C i=cq at *
    generalize PL i=pli at *
    generalize ys i=yi at *
    go_wp2_with fail
    refine CA.out.mono ?_
    rintro e w1 ⟨rfl,hb1⟩
    obtain⟨Wa,hWa⟩:∃Wa,Wa=(w1.alloc (.cells #[.int .i64 0,.int .i64 PA] 33)):=⟨_,rfl⟩
    have hbA:Below wr.heap.size wr Wa:=by rw[hWa];exact below_then hb1 ((Below.refl _ _).alloc (Nat.le_refl _) _)
    have gA:FB Wa w1.heap.size 0 PA:=by rw[hWa];exact FB.made _ _ _
    have k0:(w1.alloc (.cells #[.int .i64 0,.int .i64 PA] 33)).cell? ⟨w1.heap.size,0,none⟩=some (.int .i64 0):=by simp
    have hclA:(w1.alloc (.cells #[.int .i64 0,.int .i64 PA] 33)).cell? ⟨b,o+i,none⟩=some (.slice q l cq):=by rw[←hWa];exact below_cell hbA hcl
    have CTA:Hid (Calls Tryz.prog 10 #[.slice q l cq,.int .i64 n] (w1.alloc (.cells #[.int .i64 0,.int .i64 PA] 33)) fun e w'=>e=.returned (.agg #[.int .i64 0,.int .i64 pli])∧Below (w1.alloc (.cells #[.int .i64 0,.int .i64 PA] 33)).heap.size (w1.alloc (.cells #[.int .i64 0,.int .i64 PA] 33)) w'):=by rw[←hWa];exact CT.out Wa hbA
    have hgb:wr.heap.size≤w1.heap.size:=hb1.size
    have HWA:Hid (Wa=(w1.alloc (.cells #[.int .i64 0,.int .i64 PA] 33))):=hWa
    have HBA:Hid (Below wr.heap.size wr Wa):=hbA
    have GA:Hid (FB Wa w1.heap.size 0 PA):=gA
    clear CA CT hb1 hWa hbA gA
    go_wp2_with fail
    refine CTA.out.mono ?_
    rintro e w2 ⟨rfl,hb2⟩
    rw[←HWA.out] at hb2
    have g2:FB w2 w1.heap.size 0 PA:=GA.out.later hb2
    have hbw2:Below wr.heap.size wr w2:=below_then HBA.out hb2
    have c0:=g2.c0
    have c1:=g2.c1
    have z0:=g2.frozen 0
    have z1:=g2.frozen 1
    clear CTA HWA HBA GA hb2 k0 hclA
    generalize w1.heap.size=gb at *
    clear Wa
    have hne:gb≠fb:=by have:=HF.out.lt;omega
    have hb3:Below wr.heap.size wr ((w2.setCell ⟨gb,0,none⟩ (.int .i64 0)).setCell ⟨gb,1,none⟩ (.int .i64 pli)):=(hbw2.setCell hgb _).setCell hgb _
    have g3:FB ((w2.setCell ⟨gb,0,none⟩ (.int .i64 0)).setCell ⟨gb,1,none⟩ (.int .i64 pli)) gb 0 pli:=g2.set 0 pli
    have F3:Hid (FB ((w2.setCell ⟨gb,0,none⟩ (.int .i64 0)).setCell ⟨gb,1,none⟩ (.int .i64 pli)) fb 0 (-1)):=(HF.out.later hbw2).far hne 0 1 _ _
    have O3:Hid (((w2.setCell ⟨gb,0,none⟩ (.int .i64 0)).setCell ⟨gb,1,none⟩ (.int .i64 pli)).ownsRow (fb+1) 3 1 u16 i (((List.range i).map K).map (Value.int .i64))):=ownsRow_below HO.out hb3
    have h3c:=g3.c0
    have h3l:((w2.setCell ⟨gb,0,none⟩ (.int .i64 0)).setCell ⟨gb,1,none⟩ (.int .i64 pli)).cell? ⟨b,o+i,none⟩=some (.slice q l cq):=below_cell hb3 hcl
    have HB3:Hid (Below wr.heap.size wr ((w2.setCell ⟨gb,0,none⟩ (.int .i64 0)).setCell ⟨gb,1,none⟩ (.int .i64 pli))):=hb3
    clear g2 hbw2 g3 hb3
    go_wp2_with fail
    clear c0 c1 z0 z1
    generalize ((w2.setCell ⟨gb,0,none⟩ (.int .i64 0)).setCell ⟨gb,1,none⟩ (.int .i64 pli))=W3 at *
    clear w2
    have hbW:Below w.heap.size w W3:=below_then hb HB3.out
    have HK:Hid (∀W',Below W3.heap.size W3 W'→Below W3.heap.size W3 W'∧W'.cell? ⟨b,o+i,none⟩=some (.slice q l cq)):=fun W' h=>⟨h,below_cell h h3l⟩
    have HO1:Hid (∀W':World,Below W3.heap.size W3 W'→Calls Tryz.prog 7 #[.slice pa la ca] W' fun e w'=>∃v',e=.returned v'∧(∀w2,Below w'.heap.size w' w2→Strs1 w2 v' xs)∧Below W3.heap.size W3 w'):=fun W' h=>(HOA.out W' (below_then hbW h)).mono fun e w' ⟨v',r1,r2,r3⟩=>⟨v',r1,r2,below_then h r3⟩
    have HO2:Hid (∀W':World,Below W3.heap.size W3 W'→Calls Tryz.prog 7 #[.slice q l cq] W' fun e w'=>∃v',e=.returned v'∧Strs1 w' v' yi∧Below W'.heap.size W' w'∧Below W3.heap.size W3 w'):=fun W' h=>(CO2.out W' (below_then hbW h)).mono fun e w' ⟨v',r1,r2,r3⟩=>⟨v',r1,r2,r3,below_then h r3⟩
    have HM:Hid (∀W':World,Below W3.heap.size W3 W'→∀va vb,Strs1 W' va xs→Strs1 W' vb yi→Calls Tryz.prog 11 #[va,vb,.int .i64 n] W' fun e w'=>e=.returned (.tuple #[.int .i64 ki,.nilIface])∧Below W3.heap.size W3 w'):=fun W' h va vb r1 r2=>(CM.out W' (below_then hbW h) va vb r1 r2).mono fun e w' ⟨q1,q2⟩=>⟨q1,below_then h q2⟩
    have hbd:Below W3.heap.size W3 W3.drew:=below_drewN (Below.refl _ _) 1
    have HBW:Hid (Below w.heap.size w W3):=hbW
    clear CO2 CM hbW h3c
    go_region_held3 (fun W'=>Below W3.heap.size W3 W'∧W'.cell? ⟨b,o+i,none⟩=some (.slice q l cq))
     (first|exact HK.out _ (by assumption))
     (first
      | (go_at_call 7;refine (HO1.out _ (by assumption)).mono ?_;rintro e w4 ⟨v4,rfl,hv4,hb4⟩)
      | (go_at_call 7;refine (HO2.out _ (by assumption)).mono ?_;rintro e w5 ⟨v5,rfl,hv5,hb5,hb5'⟩)
      | (go_at_call 11;refine (HM.out _ (by assumption) _ _ (hv4 _ (by assumption)) (by assumption)).mono ?_;rintro e w6 ⟨rfl,hb6⟩))
    have O6:Hid (w6.ownsRow (fb+1) 3 1 u16 i (((List.range i).map K).map (Value.int .i64))):=ownsRow_below O3.out hb6
    have F6:Hid (FB w6 fb 0 (-1)):=F3.out.later hb6
    have HB6:Hid (Below w.heap.size w w6):=below_then HBW.out hb6
    clear hb4 hb5 hb5' hb6 hv4 hv5 HO1 HO2 HM HK O3 F3 HB3 hbd h3l
    have hnew:=cell_one_new w6 (.int .i64 ki) 3
    have hmx:i+1≤maxLen:=by unfold maxLen;omega
    have hbs:fb+1≤(w6.alloc (.cells #[.int .i64 ki] 3)).heap.size:=by
     have h1:(w6.alloc (.cells #[.int .i64 ki] 3)).heap.size=w6.heap.size+1:=by simp
     have:=F6.out.lt
     omega
    have ho6:(w6.alloc (.cells #[.int .i64 ki] 3)).ownsRow (fb+1) 3 1 u16 i (((List.range i).map K).map (Value.int .i64)):=O6.out.alloc _
    go_wp2_with (at_builtin;refine wpList_append_own _ rfl _ _ 27 rfl (fb+1) 3 ii _ 1 8 Tryz.underlying27 hi hz0 hz1 hz2 rfl (by decide) _ i _ rfl ho6 ⟨w6.heap.size,0,none⟩ 1 1 [.int .i64 ki] rfl rfl hnew (ints_oneCell1 _) hmx (by omega) hbs ?_)
    intro v2 w7 hown7 hg7 _
    have F7:Hid (FB w7 fb 0 (-1)):=by
     have fa:FB (w6.alloc (.cells #[.int .i64 ki] 3)) fb 0 (-1):=F6.out.later ((Below.refl _ _).alloc (Nat.le_refl _) _)
     exact fa.same (hg7.block fb fa.lt fun e=>by have:=(O6.out.lt fb e.symm).1;omega)
    have HB7:Hid (Below w.heap.size w w7):=((HB6.out.alloc HB6.out.size _).grown hg7 (by have:=hbs;omega) fun k h=>by have:=(O6.out.lt k h).1;omega)
    have O7:Hid (w7.ownsRow (fb+1) 3 1 v2 (i+1) (((List.range (i+1)).map K).map (Value.int .i64))):=by
     have h1:=hown7
     have e:((List.range (i+1)).map K).map (Value.int .i64)=((List.range i).map K).map (Value.int .i64)++[.int .i64 (K i)]:=by
      rw[List.range_succ,List.map_append,List.map_append]
      rfl
     rw[e,HKI.out,List.map_map]
     exact h1
    clear hown7 hg7 hnew hbs ho6 O6 F6 HB6 hmx
    go_wp2_with fail
    exact⟨⟨HB7.out,.inl ⟨i+1,by omega,by go_num,F7.out,O7.out⟩⟩,by simp[intOf];omega⟩
   ·obtain rfl:i=j:=by omega
    have hcl:=below_cell hb (HC.out i hlN)
    have CA:Hid (Calls Tryz.prog 10 #[.slice pa la ca,.int .i64 n] wr fun e w'=>e=.returned (.agg #[.int .i64 0,.int .i64 PA])∧Below wr.heap.size wr w'):=HTA.out wr hb
    have CT:Hid (∀W:World,Below wr.heap.size wr W→Calls Tryz.prog 10 #[.slice (Q i) (L i) (C i),.int .i64 n] W fun e w'=>e=.returned (.agg #[.int .i64 (cj:Nat),.int .i64 PJ])∧Below W.heap.size W w'):=fun W h=>HTJ.out W (below_then hb h)
    generalize Q i=q at *
    generalize L i=l at *
    generalize C i=cq at *
    generalize hPJ:PJ=pli at *
    clear hPJ
    go_wp2_with fail
    refine CA.out.mono ?_
    rintro e w1 ⟨rfl,hb1⟩
    obtain⟨Wa,hWa⟩:∃Wa,Wa=(w1.alloc (.cells #[.int .i64 0,.int .i64 PA] 33)):=⟨_,rfl⟩
    have hbA:Below wr.heap.size wr Wa:=by rw[hWa];exact below_then hb1 ((Below.refl _ _).alloc (Nat.le_refl _) _)
    have gA:FB Wa w1.heap.size 0 PA:=by rw[hWa];exact FB.made _ _ _
    have k0:(w1.alloc (.cells #[.int .i64 0,.int .i64 PA] 33)).cell? ⟨w1.heap.size,0,none⟩=some (.int .i64 0):=by simp
    have hclA:(w1.alloc (.cells #[.int .i64 0,.int .i64 PA] 33)).cell? ⟨b,o+i,none⟩=some (.slice q l cq):=by rw[←hWa];exact below_cell hbA hcl
    have CTA:Hid (Calls Tryz.prog 10 #[.slice q l cq,.int .i64 n] (w1.alloc (.cells #[.int .i64 0,.int .i64 PA] 33)) fun e w'=>e=.returned (.agg #[.int .i64 (cj:Nat),.int .i64 pli])∧Below (w1.alloc (.cells #[.int .i64 0,.int .i64 PA] 33)).heap.size (w1.alloc (.cells #[.int .i64 0,.int .i64 PA] 33)) w'):=by rw[←hWa];exact CT.out Wa hbA
    have hgb:wr.heap.size≤w1.heap.size:=hb1.size
    have HWA:Hid (Wa=(w1.alloc (.cells #[.int .i64 0,.int .i64 PA] 33))):=hWa
    have HBA:Hid (Below wr.heap.size wr Wa):=hbA
    have GA:Hid (FB Wa w1.heap.size 0 PA):=gA
    clear CA CT hb1 hWa hbA gA
    go_wp2_with fail
    refine CTA.out.mono ?_
    rintro e w2 ⟨rfl,hb2⟩
    rw[←HWA.out] at hb2
    have g2:FB w2 w1.heap.size 0 PA:=GA.out.later hb2
    have hbw2:Below wr.heap.size wr w2:=below_then HBA.out hb2
    have c0:=g2.c0
    have c1:=g2.c1
    have z0:=g2.frozen 0
    have z1:=g2.frozen 1
    clear CTA HWA HBA GA hb2 k0 hclA
    generalize w1.heap.size=gb at *
    clear Wa
    have hne:gb≠fb:=by have:=HF.out.lt;omega
    have hb3:Below wr.heap.size wr ((w2.setCell ⟨gb,0,none⟩ (.int .i64 (cj:Nat))).setCell ⟨gb,1,none⟩ (.int .i64 pli)):=(hbw2.setCell hgb _).setCell hgb _
    have g3:FB ((w2.setCell ⟨gb,0,none⟩ (.int .i64 (cj:Nat))).setCell ⟨gb,1,none⟩ (.int .i64 pli)) gb (cj:Nat) pli:=g2.set (cj:Nat) pli
    have F3:Hid (FB ((w2.setCell ⟨gb,0,none⟩ (.int .i64 (cj:Nat))).setCell ⟨gb,1,none⟩ (.int .i64 pli)) fb 0 (-1)):=(HF.out.later hbw2).far hne 0 1 _ _
    have O3:Hid (((w2.setCell ⟨gb,0,none⟩ (.int .i64 (cj:Nat))).setCell ⟨gb,1,none⟩ (.int .i64 pli)).ownsRow (fb+1) 3 1 u16 i (((List.range i).map K).map (Value.int .i64))):=ownsRow_below HO.out hb3
    have h3c:=g3.c0
    have h3l:((w2.setCell ⟨gb,0,none⟩ (.int .i64 (cj:Nat))).setCell ⟨gb,1,none⟩ (.int .i64 pli)).cell? ⟨b,o+i,none⟩=some (.slice q l cq):=below_cell hb3 hcl
    have HB3:Hid (Below wr.heap.size wr ((w2.setCell ⟨gb,0,none⟩ (.int .i64 (cj:Nat))).setCell ⟨gb,1,none⟩ (.int .i64 pli))):=hb3
    clear g2 hbw2 g3 hb3
    obtain⟨W3,hW3⟩:∃W3,W3=((w2.setCell ⟨gb,0,none⟩ (.int .i64 (cj:Nat))).setCell ⟨gb,1,none⟩ (.int .i64 pli)):=⟨_,rfl⟩
    have e0:((w2.setCell ⟨gb,0,none⟩ (.int .i64 (cj:Nat))).setCell ⟨gb,1,none⟩ (.int .i64 pli)).cell? ⟨fb,0,none⟩=some (.int .i64 0):=F3.out.c0
    have e1:((w2.setCell ⟨gb,0,none⟩ (.int .i64 (cj:Nat))).setCell ⟨gb,1,none⟩ (.int .i64 pli)).cell? ⟨fb,1,none⟩=some (.int .i64 (-1)):=F3.out.c1
    have y0:((w2.setCell ⟨gb,0,none⟩ (.int .i64 (cj:Nat))).setCell ⟨gb,1,none⟩ (.int .i64 pli)).frozen? ⟨fb,0,none⟩=false:=F3.out.frozen 0
    have y1:((w2.setCell ⟨gb,0,none⟩ (.int .i64 (cj:Nat))).setCell ⟨gb,1,none⟩ (.int .i64 pli)).frozen? ⟨fb,1,none⟩=false:=F3.out.frozen 1
    have FN:Hid (FB ((((w2.setCell ⟨gb,0,none⟩ (.int .i64 (cj:Nat))).setCell ⟨gb,1,none⟩ (.int .i64 pli)).setCell ⟨fb,0,none⟩ (.int .i64 (cj:Nat))).setCell ⟨fb,1,none⟩ (.int .i64 (i:Nat))) fb (cj:Nat) (i:Nat)):=F3.out.set _ _
    have BN:Hid (Below w.heap.size w ((((w2.setCell ⟨gb,0,none⟩ (.int .i64 (cj:Nat))).setCell ⟨gb,1,none⟩ (.int .i64 pli)).setCell ⟨fb,0,none⟩ (.int .i64 (cj:Nat))).setCell ⟨fb,1,none⟩ (.int .i64 (i:Nat)))):=(((below_then hb HB3.out).setCell hfb _).setCell hfb _)
    clear F3 O3 HB3 h3l hcl
    go_wp2_with fail
    exact⟨⟨BN.out,.inr ⟨by go_num,FN.out⟩⟩,by simp[intOf];omega⟩
  ·have fa0:=hFj.c0
   have fa1:=hFj.c1
   have HF2:Hid (Calls Tryz.prog 12 #[ev,.agg #[.int .i64 (cj:Nat),.int .i64 (j:Nat)]] wr fun e w'=>e=.returned (.bool true)∧Below w.heap.size w w'):=(faulted3_is (HE.out.later hb) (HEV.out.later hb)).mono fun e w' ⟨h1,h2⟩=>⟨h1,below_then hb h2⟩
   clear hFj
   by_cases h1:j+1<N
   ·have hii:((j+1:Nat):Int)<(N:Int):=by omega
    have hd:decide (((j+1:Nat):Int)<(N:Int))=true:=by simp;omega
    have hd2:(j:Int)+1<(N:Int):=by omega
    go_wp2_with fail
    refine HF2.out.mono ?_
    rintro e w2 ⟨rfl,hb3⟩
    clear HF2
    go_wp2
    go_ret
    exact⟨_,rfl,rfl,hb3⟩
   ·have hd:decide (((j+1:Nat):Int)<(N:Int))=false:=by simp;omega
    have hd2:¬(j:Int)+1<(N:Int):=by omega
    go_wp2_with fail
    refine HF2.out.mono ?_
    rintro e w2 ⟨rfl,hb3⟩
    clear HF2
    go_wp2
    go_ret
    exact⟨_,rfl,rfl,hb3⟩
end Go.Proofs.YtjeicikflkjacaaGreatDoor.Sh

/- SideMoves: behind side.Moves' return: the hosts are wrong. -/
set_option linter.unusedSimpArgs false
set_option linter.unusedVariables false
namespace Go.Proofs.YtjeicikflkjacaaGreatDoor.Sh
open Go Go.Conc Go.Conc.Lib Go.RowKit Go.ConcN
open Ms Po
open Par (Fm Gr on stopper LocIn)
set_option maxRecDepth 100000 in
set_option maxHeartbeats 32000000 in
theorem rest3x (a:Nat→Addr)(pa:Option Addr)(la ca b o N c:Nat)(n wk:Int)(own:Value)(g:Nat→Value)(xa:Value)(ev:Value)(PA:Int)(cj:Nat)(w:World)(hc:chkN (N:Nat) 100 wk=0)(hN6:N<1000000)(hN:0<N)(hcj:cj≠0)(hTA:∀W:World,Below w.heap.size w W→Calls Tryz.prog 10 #[.slice pa la ca,.int .i64 n] W fun e w'=>e=.returned (.agg #[.int .i64 (cj:Nat),.int .i64 PA])∧Below W.heap.size W w')(he:Errs a w)(hev:ErrIs a w cj ((0:Nat):Int) ev) :
  wpOps Tryz.prog opsD3 (Exit.then (Po.wpC Tryz.prog (bodyPost Tryz.prog Tryz.f3 (Says w)) [restE3]) (bodyPost Tryz.prog Tryz.f3 (Says w))) [6,7,8,9,10] ⟨tM4 pa (some ⟨b,o,none⟩) la ca N c n wk own g xa (.tuple #[.slice none 0 0,ev]),[]⟩ w:=by
 have HW:Hid (Calls Tryz.prog 9 #[.int .i64 wk,.int .i64 (N:Nat),.int .i64 100] w fun e w'=>e=.returned (.agg #[.int .i64 0,.int .i64 (-1)])∧Below w.heap.size w w'):=by
  have:=workersFault_any wk (N:Nat) 100 w
  rw[hc] at this
  exact this
 have HTA:Hid (∀W:World,Below w.heap.size w W→Calls Tryz.prog 10 #[.slice pa la ca,.int .i64 n] W fun e w'=>e=.returned (.agg #[.int .i64 (cj:Nat),.int .i64 PA])∧Below W.heap.size W w'):=hTA
 have HE:Hid (Errs a w):=he
 have HEV:Hid (ErrIs a w cj 0 ev):=hev
 have jz:((cj:Int)==0)=false:=by rw[beq_eq_false_iff_ne];omega
 have jp:(0:Int)<(cj:Int):=by omega
 have jq:0<cj:=by omega
 have jr:¬cj=0:=hcj
 clear hc hTA he hev
 refine listD3 ?_
 simp only[opsD3,restD3,restA3,restE3,tM4,Tryz.f3,Option.getD_some,List.drop,Po.wpC]
 go_wp2_with fail
 refine HW.out.mono ?_
 rintro e w1 ⟨rfl,hb1⟩
 have hb0:Below w.heap.size w (w1.alloc (.cells #[.int .i64 0,.int .i64 (-1)] 33)):=below_then hb1 ((Below.refl _ _).alloc (Nat.le_refl _) _)
 have hF0:FB (w1.alloc (.cells #[.int .i64 0,.int .i64 (-1)] 33)) w1.heap.size 0 (-1):=FB.made _ _ _
 have hfb:w.heap.size≤w1.heap.size:=hb1.size
 clear HW hb1
 go_wp2_with fail
 generalize (w1.alloc (.cells #[.int .i64 0,.int .i64 (-1)] 33))=W2 at *
 generalize w1.heap.size=fb at *
 clear w1
 go_loopw [17] (fun t W=>Below w.heap.size w W∧((t=.int .i64 0∧FB W fb 0 (-1))∨(t=.int .i64 1∧FB W fb (cj:Nat) 0))) (fun t _=>2 - (intOf t).toNat)
 case atStart=>exact⟨hb0,.inl ⟨rfl,hF0⟩⟩
 case round =>
  obtain⟨hb,⟨rfl,hF⟩|⟨rfl,hFj⟩⟩:=hrel
  ·have HF:Hid (FB wr fb 0 (-1)):=hF
   have f0:=hF.c0
   have CA:Hid (Calls Tryz.prog 10 #[.slice pa la ca,.int .i64 n] wr fun e w'=>e=.returned (.agg #[.int .i64 (cj:Nat),.int .i64 PA])∧Below wr.heap.size wr w'):=HTA.out wr hb
   have hd:decide ((0:Int)<(N:Int))=true:=by simp;omega
   clear hF
   go_wp2_with fail
   refine CA.out.mono ?_
   rintro e w1 ⟨rfl,hb1⟩
   have hbA:Below wr.heap.size wr (w1.alloc (.cells #[.int .i64 (cj:Nat),.int .i64 PA] 33)):=below_then hb1 ((Below.refl _ _).alloc (Nat.le_refl _) _)
   have F3:FB (w1.alloc (.cells #[.int .i64 (cj:Nat),.int .i64 PA] 33)) fb 0 (-1):=HF.out.later hbA
   have e0:=F3.c0
   have e1:=F3.c1
   have y0:=F3.frozen 0
   have y1:=F3.frozen 1
   have k0:(w1.alloc (.cells #[.int .i64 (cj:Nat),.int .i64 PA] 33)).cell? ⟨w1.heap.size,0,none⟩=some (.int .i64 (cj:Nat)):=by simp
   have FN:Hid (FB (((w1.alloc (.cells #[.int .i64 (cj:Nat),.int .i64 PA] 33)).setCell ⟨fb,0,none⟩ (.int .i64 (cj:Nat))).setCell ⟨fb,1,none⟩ (.int .i64 0)) fb (cj:Nat) 0):=F3.set _ _
   have BN:Hid (Below w.heap.size w (((w1.alloc (.cells #[.int .i64 (cj:Nat),.int .i64 PA] 33)).setCell ⟨fb,0,none⟩ (.int .i64 (cj:Nat))).setCell ⟨fb,1,none⟩ (.int .i64 0))):=(((below_then hb hbA).setCell hfb _).setCell hfb _)
   clear CA F3 hbA hb1 HF
   go_wp2_with fail
   exact⟨⟨BN.out,.inr ⟨by go_num,FN.out⟩⟩,by simp[intOf]⟩
  ·have fa0:=hFj.c0
   have fa1:=hFj.c1
   have HF2:Hid (Calls Tryz.prog 12 #[ev,.agg #[.int .i64 (cj:Nat),.int .i64 0]] wr fun e w'=>e=.returned (.bool true)∧Below w.heap.size w w'):=(faulted3_is (HE.out.later hb) (HEV.out.later hb)).mono fun e w' ⟨h1,h2⟩=>⟨h1,below_then hb h2⟩
   clear hFj
   by_cases h1:1<N
   ·have hii:(1:Int)<(N:Int):=by omega
    go_wp2_with fail
    refine HF2.out.mono ?_
    rintro e w2 ⟨rfl,hb3⟩
    clear HF2
    go_wp2
    go_ret
    exact⟨_,rfl,rfl,hb3⟩
   ·have hii:¬(1:Int)<(N:Int):=by omega
    go_wp2_with fail
    refine HF2.out.mono ?_
    rintro e w2 ⟨rfl,hb3⟩
    clear HF2
    go_wp2
    go_ret
    exact⟨_,rfl,rfl,hb3⟩
end Go.Proofs.YtjeicikflkjacaaGreatDoor.Sh

/- SideMoves: the law says true, whatever the tape, and all that was there stands. -/
set_option linter.unusedSimpArgs false
set_option linter.unusedVariables false
namespace Go.Proofs.YtjeicikflkjacaaGreatDoor.Sh
open Go Go.Conc Go.Conc.Lib Go.RowKit Go.ConcN
open Ms Po
open Par (Fm Gr on stopper LocIn)
theorem sayE3 (pa p:Option Addr)(la ca N c:Nat)(n wk:Int)(own:Value)(g:Nat→Value)(xa u:Value){v v8:World}(hb:Bel v.heap.size v v8)
  (h:∀τ d,wpOps Tryz.prog opsD3 (Exit.then (Po.wpC Tryz.prog (bodyPost Tryz.prog Tryz.f3 (Says (on v8 τ d))) [restE3]) (bodyPost Tryz.prog Tryz.f3 (Says (on v8 τ d)))) [6,7,8,9,10] ⟨tM4 pa p la ca N c n wk own g xa u,[]⟩ (on v8 τ d)) :
  Ends (Gr (Fm 3 (tM4 pa p la ca N c n wk own g xa u) (.inRegion opsD3 [6,7,8,9,10] :: [restE3].map Item.code) .run) []) v8 (Yea v):=by
 refine Ends.mono (R:=Yea v8) (Ends.rest0 ⟨_,Tryz.func3⟩ (by decide +kernel) (fun s hs=>by cases hs) restE3_t (fun u v' h=>h.2.size) (fun τ d=>?_)) fun u v' h=>h.from hb
 obtain⟨fr,v',u',h0,h1,h2,h3,h4⟩:=region_leaves (R:=fun u w'=>u=.bool true∧Below v8.heap.size (on v8 τ d) w') Tryz.func3 (h τ d)
 exact⟨fr,v',u',h0,h1,h2,h3,.ofOn h4⟩
theorem earlyE3 (pa p:Option Addr)(la ca N c:Nat)(n wk:Int){v v3:World}(hb:Bel v.heap.size v v3)
  (h:∀τ d,(cutA3 (.loop .skip)).wp Tryz.prog (bodyPost Tryz.prog Tryz.f3 (fun e w'=>∃u,e=.returned u∧u=.bool true∧Below v3.heap.size (on v3 τ d) w')) ⟨tB3 pa p la ca N c n wk,[]⟩ (on v3 τ d)) :
  Ends (Gr (Fm 3 (tB3 pa p la ca N c n wk) [.code restA3] .run) []) v3 (Yea v):=by
 refine Ends.mono (R:=Yea v3) (Ends.rest (k:=[]) (G:=[.code (cutA3 (.loop .skip))]) (K:=[.code restA3]) ⟨_,Tryz.func3⟩ (by decide +kernel) (fun s hs=>by cases hs) todoT.nil (.stop rfl cutA3_s) (fun u v' h=>h.2.size) (fun τ d=>?_)) fun u v' h=>h.from hb
 obtain⟨fr,v',u',h0,h1,h2,h3,h4⟩:=code_leaves (R:=fun u w'=>u=.bool true∧Below v3.heap.size (on v3 τ d) w') Tryz.func3 (h τ d)
 exact⟨fr,v',u',h0,h1,h2,h3,.ofOn h4⟩
theorem strs1_seen {v w:World}{u:Value}{xs:List ByteArray}(h:Strs1 v u xs)(hs:SeenIn v w):Strs1 w u xs:=by
 rcases h with h|⟨b,o,c,h1,h2,h3⟩
 ·exact .inl h
 ·exact .inr ⟨b,o,c,h1,h2,fun k hk=>hs.cell (h3 k hk)⟩
theorem lat_seen {v w:World}{p:Option Addr}{N:Nat}{lv:Nat→Value}{ys:Nat→List ByteArray}(h:LAt v p N lv ys)(hs:SeenIn v w):LAt w p N lv ys:=fun i hi=>by
 obtain⟨b,o,h1,h2,h3⟩:=h i hi
 exact⟨b,o,h1,hs.cell h2,strs1_seen h3 hs⟩
theorem Cop.rows {w W:World}{own:Value}{N:Nat}{ys:Nat→List ByteArray}{vb:Nat→Value}(C:Cop w W own N ys vb):Rows0 W own N vb:=by
 obtain⟨hl,⟨h,h0⟩|⟨g,cap,cur,h1,h2,h3,h4,h5,h6,h7⟩⟩:=C.owned
 ·exact .inl ⟨h,h0⟩
 ·refine .inr ⟨g,cap,cur,_,_,h1,h3,fun i hi=>?_⟩
  have hk:(cur.toList.take (N*1))[i]?=some (vb i):=by rw[h7];simp[hi]
  rw[List.getElem?_take_of_lt (by omega)] at hk
  simpa using hk
theorem short_sizes {xs:List ByteArray}(h:Short xs):(∀k (h:k<xs.length),(xs[k]).size≤300)∧xs.length<1000000:=⟨fun k hk=>Nat.le_trans (h.2 k hk) (by omega),by have:=h.1;omega⟩
theorem short_big {xs:List ByteArray}(h:Short xs):∀k (h:k<xs.length),(xs[k]).size≤1000000:=fun k hk=>Nat.le_trans (h.2 k hk) (by omega)
set_option maxHeartbeats 4000000 in
theorem rest3_any (a:Nat→Addr)(pa p:Option Addr)(la ca N c:Nat)(n wk:Int)(own:Value)(g:Nat→Value)(xa u:Value)(xs:List ByteArray)(lv:Nat→Value)(ys:Nat→List ByteArray){w:World}{B:Nat}(hn:-9223372036854775808≤n∧n≤9223372036854775807)(hN6:N<1000000)(he:Errs a w)(hA:Strs1 w (.slice pa la ca) xs)(hs:Short xs)(hL:LAt w p N lv ys)(hY:∀i,i<N→Short (ys i))(hS:SdR a (chkN (N:Nat) 100 wk) N (MovG xs ys n) B u w) :
  wpOps Tryz.prog opsD3 (Exit.then (Po.wpC Tryz.prog (bodyPost Tryz.prog Tryz.f3 (Says w)) [restE3]) (bodyPost Tryz.prog Tryz.f3 (Says w))) [6,7,8,9,10] ⟨tM4 pa p la ca N c n wk own g xa u,[]⟩ w:=by
 rcases hS with⟨hc,ev,rfl,hev⟩|⟨hc,ks,cs,pl,hg,hAns⟩
 ·exact rest3c a pa p la ca N c n wk own g xa ev _ w he rfl hc hev
 rcases Nat.eq_zero_or_pos N with h0|hpos
 ·subst h0
  rcases hAns with⟨_,x,rfl,ho⟩|⟨j,hj,_⟩
  ·obtain⟨po,co,rfl⟩:=(ints_of_owns ho).slice
   exact rest3z pa p po la ca c co n wk own g xa w hc
  ·exact absurd hj (Nat.not_lt_zero _)
 obtain⟨b,o,rfl,_,_⟩:=hL 0 hpos
 have hf:∀i,∃q:Option Addr × Nat × Nat,i<N→lv i=.slice q.1 q.2.1 q.2.2:=fun i=>by
  by_cases hi:i<N
  ·obtain⟨_,_,_,_,h⟩:=hL i hi
   obtain⟨q,cq,e⟩:=strs1_form h
   exact⟨(q,_,cq),fun _=>e⟩
  ·exact⟨(none,0,0),fun h=>absurd h hi⟩
 obtain⟨Q,hQ⟩:=Classical.axiomOfChoice hf
 have hC:∀i,i<N→w.cell? ⟨b,o+i,none⟩=some (.slice (Q i).1 (Q i).2.1 (Q i).2.2):=fun i hi=>by
  obtain⟨b',o',e,h,_⟩:=hL i hi
  injection e with e
  injection e with e1 e2
  subst e1 e2
  rw[h,hQ i hi]
 have hST:∀i,i<N→Strs1 w (.slice (Q i).1 (Q i).2.1 (Q i).2.2) (ys i):=fun i hi=>by
  obtain⟨_,_,_,_,h⟩:=hL i hi
  rw[hQ i hi] at h
  exact h
 have hOA:∀W:World,Below w.heap.size w W→Calls Tryz.prog 7 #[.slice pa la ca] W fun e w'=>∃v',e=.returned v'∧(∀w2,Below w'.heap.size w' w2→Strs1 w2 v' xs)∧Below W.heap.size W w':=fun W h=>(ownTexts_any _ xs W (hA.later h) (short_sizes hs).2).mono fun e w' ⟨v',r1,r2,r3⟩=>⟨v',r1,fun w2 hb=>r2.later hb,r3⟩
 have hOL:∀i,i<N→∀W:World,Below w.heap.size w W→Calls Tryz.prog 7 #[.slice (Q i).1 (Q i).2.1 (Q i).2.2] W fun e w'=>∃v',e=.returned v'∧Strs1 w' v' (ys i)∧Below W.heap.size W w':=fun i hi W h=>ownTexts_any _ (ys i) W ((hST i hi).later h) (short_sizes (hY i hi)).2
 have tf:∀(x:Value) (zs:List ByteArray) (cz:Nat) (pz:Int),Strs1 w x zs→Short zs→TabFault zs n cz pz→∀W:World,Below w.heap.size w W→Calls Tryz.prog 10 #[x,.int .i64 n] W fun e w'=>e=.returned (.agg #[.int .i64 (cz:Nat),.int .i64 pz])∧Below W.heap.size W w':=fun x zs cz pz h1 h2 h3 W h=>tableFault_any x zs n W cz pz (h1.later h) h3 hn (short_big h2) (short_sizes h2).2
 obtain⟨cA,pA,hfA⟩:=tabFault_ex xs n
 by_cases hcA:cA=0
 rotate_left
 ·
  have hcs:∀i,i<N→cs i=cA:=fun i hi=>by
   rcases (hg i hi).1 with⟨h,_⟩|⟨⟨q,h⟩,_⟩
   ·exact tabFault_one h hfA
   ·exact absurd (tabFault_one hfA h) hcA
  rcases hAns with⟨h,_⟩|⟨j,hj,hall,hne,ev,rfl,hev⟩
  ·exact absurd ((hcs 0 hpos).symm.trans (h 0 hpos)) hcA
  ·obtain rfl:j=0:=by
    rcases Nat.eq_zero_or_pos j with h|h
    ·exact h
    ·exact absurd ((hcs 0 hpos).symm.trans (hall 0 h)) hcA
   rw[hcs 0 hpos] at hev
   exact rest3x a pa la ca b o N c n wk own g xa ev pA cA w hc hN6 hpos hcA (tf _ xs cA pA hA hs hfA) he hev
 subst hcA
 have hcs:∀i,i<N→TabFault (ys i) n (cs i) (pl i):=fun i hi=>by
  rcases (hg i hi).1 with⟨h,h'⟩|⟨_,h⟩
  ·exact absurd (tabFault_one h hfA) h'
  ·exact h
 have hMV:∀i,i<N→cs i=0→∀W:World,Below w.heap.size w W→∀va vb,Strs1 W va xs→Strs1 W vb (ys i)→Calls Tryz.prog 11 #[va,vb,.int .i64 n] W fun e w'=>e=.returned (.tuple #[.int .i64 (ks i),.nilIface])∧Below W.heap.size W w':=fun i hi h0 W hW va vb h1 h2=>by
  obtain⟨m,e,hk⟩:=(hg i hi).2 h0
  have hz:=hcs i hi
  rw[h0] at hz
  obtain⟨_,z1,z2,m1,e1,hp,_,h5⟩:=tabFault_zero hfA
  obtain⟨_,y1,y2,_⟩:=tabFault_zero hz
  obtain rfl:m1=m:=by omega
  subst e
  rw[hk]
  exact moves_good a va vb xs (ys i) m1 W (he.later hW) h1 h2 z1 y1 z2 y2 hp h5 (short_sizes hs).1 (short_sizes (hY i hi)).1
 rcases hAns with⟨hz,x,rfl,ho⟩|⟨j,hj,hall,hne,ev,rfl,hev⟩
 ·have hI:=ints_of_owns ho
  obtain⟨po,co,e⟩:=hI.slice
  rw[List.length_map,List.length_range] at e
  subst e
  refine rest3g pa la ca b o N c n wk own g xa po co (fun i=>(Q i).1) (fun i=>(Q i).2.1) (fun i=>(Q i).2.2) ks pA pl xs ys w hc hC hN6 (tf _ xs 0 pA hA hs hfA) (fun i hi=>?_) hOA hOL (fun i hi=>hMV i hi (hz i hi)) hI
  have h:=hcs i hi
  rw[hz i hi] at h
  exact tf _ (ys i) 0 (pl i) (hST i hi) (hY i hi) h
 ·refine rest3y a pa la ca b o N c n wk own g xa ev (fun i=>(Q i).1) (fun i=>(Q i).2.1) (fun i=>(Q i).2.2) ks pA pl xs ys j (cs j) (pl j) w hc hC hN6 hj hne (tf _ xs 0 pA hA hs hfA) (fun i hi=>?_) (tf _ (ys j) (cs j) (pl j) (hST j hj) (hY j hj) (hcs j hj)) hOA hOL (fun i hi=>hMV i (by omega) (hall i hi)) he hev
  have h:=hcs i (by omega)
  rw[hall i hi] at h
  exact tf _ (ys i) 0 (pl i) (hST i (by omega)) (hY i (by omega)) h
set_option maxHeartbeats 4000000 in
theorem sideMoves_ends (a:Nat→Addr){v:World}(va:Value)(p:Option Addr)(N c:Nat)(xs:List ByteArray)(lv:Nat→Value)(ys:Nat→List ByteArray)(n wk:Int)(he:Errs a v)(hA:Strs1 v va xs)(hz:∀k (h:k<xs.length),(xs[k]).size≤maxLen)(hm:xs.length≤maxLen)(hL:LAt v p N lv ys)(hzl:∀i,i<N→(∀k (h:k<(ys i).length),((ys i)[k]).size≤maxLen)∧(ys i).length≤maxLen)(hn:-9223372036854775808≤n∧n≤9223372036854775807)(hG:PP.globals.size≤v.heap.size) :
  Ends (Gr (Frame.enter PP 3 #[va,.slice p N c,.int .i64 n,.int .i64 wk] .normal) []) v (Yea v):=by
 obtain⟨pa,ca,rfl⟩:=strs1_form hA
 obtain⟨la,hla⟩:∃la,la=xs.length:=⟨_,rfl⟩
 rw[←hla] at hA ⊢
 refine (Rch.to (toA3 pa p la ca N c n wk)).ends ?_
 rintro g1 v1 ⟨rfl,rfl⟩
 refine (abreast_rch a he hG (frA3 pa p la ca N c n wk) []).ends ?_
 rintro g2 v2 ⟨rfl,hb2⟩
 rw[frA3_finish]
 refine (Rch.to (toB3 pa p la ca N c n wk)).ends ?_
 rintro g3 v3 ⟨rfl,rfl⟩
 have hA3:Strs1 v3 (.slice pa la ca) xs:=strs1_seen hA hb2.seen
 have hL3:LAt v3 p N lv ys:=lat_seen hL hb2.seen
 by_cases hs:Short xs
 rotate_left
 ·exact earlyE3 pa p la ca N c n wk hb2 fun τ d=>early3l pa p la ca N c n wk xs (on v3 τ d) hA3 hz hm hs
 by_cases hN1:12<N∧N<100
 ·exact earlyE3 pa p la ca N c n wk hb2 fun τ d=>early3m pa p la ca N c n wk xs (on v3 τ d) hA3 hs hN1
 by_cases hN2:110<N
 ·exact earlyE3 pa p la ca N c n wk hb2 fun τ d=>early3g pa p la ca N c n wk xs (on v3 τ d) hA3 hs hN2
 have hNN:N≤12∨(100≤N∧N≤110):=by omega
 by_cases hY:∀i,i<N→Short (ys i)
 rotate_left
 ·have hY':∃i,i<N∧¬Short (ys i):=Classical.byContradiction fun h=>hY fun i hi=>Classical.byContradiction fun h'=>h ⟨i,hi,h'⟩
  refine earlyE3 pa p la ca N c n wk hb2 fun τ d=>?_
  rcases hNN with h|h
  ·exact long3a pa p la ca N c n wk xs lv ys (fun _=>undef) (on v3 τ d) hA3 hs hL3 h hzl hY'
  ·exact long3b pa p la ca N c n wk xs lv ys (fun _=>undef) (on v3 τ d) hA3 hs hL3 h hzl hY'
 refine (Rch.piece (f:=3) ⟨_,Tryz.func3⟩ (fun s hs=>by cases hs) (k:=[]) (G:=[.code (cutA3 .skip)]) (K:=[.code restA3]) (T:=[.code restD3]) todoT.nil (.cut rfl cutA3_c)
  (R:=fun f1 t1 v4=>f1=3∧∃τ d,Pas3 pa p la ca N c n wk (on v3 τ d) ys t1 v4)
  (fun τ d=>by
   have hw:(cutA3 .skip).wp Tryz.prog (fun e b w'=>e=.normal∧b.defers=[]∧Pas3 pa p la ca N c n wk (on v3 τ d) ys b.tmps w') ⟨tB3 pa p la ca N c n wk,[]⟩ (on v3 τ d):=by
    rcases hNN with h|h
    ·exact pass3a pa p la ca N c n wk xs lv ys (fun _=>undef) (on v3 τ d) hA3 hs hL3 h hY
    ·exact pass3b pa p la ca N c n wk xs lv ys (fun _=>undef) (on v3 τ d) hA3 hs hL3 h hY
   obtain⟨t1,v',h1,h2⟩:=steps_of_wp (f:=3) (R:=fun t1 v4=>Pas3 pa p la ca N c n wk (on v3 τ d) ys t1 v4) hw
   exact⟨_,t1,v',h1,rfl,τ,d,h2⟩)).ends ?_
 rintro g4 v4 ⟨f1,t1,rfl,rfl,τ,d,s1,s2,s3,s4,s5,own,vb,s6,C⟩
 have et:=tM_of pa p la ca N c n wk own s1 s2 s3 s4 s5 s6
 generalize (fun i=>t1.getD i undef)=g at et
 subst et
 have hb4:Bel v3.heap.size v3 v4:=.ofOn C.below
 refine (Rch.to (toC3 pa p la ca N c n wk own g)).ends ?_
 rintro g5 v5 ⟨rfl,rfl⟩
 have hb5:Bel v1.heap.size v1 v5:=hb2.trans hb4 hb2.size
 have hA5:Strs1 v5 (.slice pa la ca) xs:=strs1_seen hA3 hb4.seen
 refine (Rch.call (f:=7) (by decide +kernel) (fun s hs=>by cases hs) (R:=fun u v'=>v'.ownsRow v5.heap.size 9 1 u xs.length (xs.map Value.string)∧Bel v5.heap.size v5 v') (fun τ d=>(ownTexts_own _ xs (on v5 τ d) hA5 (short_sizes hs).2).mono fun e w' ⟨x',h1,h2,h3⟩=>⟨x',h1,h2,.ofOn h3⟩)).ends ?_
 rintro g6 v6 ⟨xa,rfl,hown,hb6⟩
 rw[frB3_finish]
 refine (Rch.to (toD3 pa p la ca N c n wk own g (own_form C.owned) xa)).ends ?_
 rintro g7 v7 ⟨rfl,rfl⟩
 have hb7:Bel v1.heap.size v1 v7:=hb5.trans hb6 hb5.size
 refine (moves_rch a xa own N vb xs ys n wk (errs_bel he hb7) (row0_of_owns hown) (rows0_seen C.rows hb6.seen) (fun i hi=>row0_seen (C.row i hi).1 hb6.seen) ⟨hn,(short_sizes hs).1,fun i hi=>(short_sizes (hY i hi)).1,(short_sizes hs).2,fun i hi=>(short_sizes (hY i hi)).2⟩ (by omega) (by have:=hb7.size;omega) (frC3 pa p la ca N c n wk own g xa) []).ends ?_
 rintro g8 v8 ⟨u,rfl,hb8,hS⟩
 rw[frC3_finish]
 have hb:Bel v1.heap.size v1 v8:=hb7.trans hb8 hb7.size
 have h38:Bel v3.heap.size v3 v8:=hb4.trans (hb6.trans hb8 hb6.size) hb4.size
 refine sayE3 pa p la ca N c n wk own g xa u hb fun τ d=>?_
 exact rest3_any a pa p la ca N c n wk own g xa u xs lv ys hn (by omega) (errs_on (errs_bel he hb) τ d) (strs1_seen hA3 h38.seen) hs (lat_seen hL3 h38.seen) hY hS
end Go.Proofs.YtjeicikflkjacaaGreatDoor.Sh
