/- The law FlowsActs: LongFlows and OwnFlows. -/
import Derived.Test.YtfhmfjcpggddkaaGreatDoorM5
import Derived.Test.YtfhmfjcpggddkaaGreatDoorM6
import Derived.Laws.AppendOwnNone
import Derived.Test.YtfhmfjcpggddkaaGreatDoorM4
import Derived.Deep.RegionHeld3
import Derived.BigQuiet
import Derived.Deep.QuietTactic
import Derived.Test.YtfhmfjcpggddkaaGreatDoorM2
import Derived.Test.YtfhmfjcpggddkaaGreatDoorM3
import Derived.Shelf.Strings.BuilderK
set_option maxHeartbeats 20000000
set_option maxRecDepth 100000
namespace Go.Proofs.YtfhmfjcpggddkaaGreatDoor
open Go.RowKit
theorem flows_of_owns {w:World}{base:Nat}{v:Value}{l:List Lh.Fl}(h:w.ownsRow base 80 3 v l.length (flatF l)):Flows1 w v l∧∀b o n c,v=.slice (some ⟨b,o,none⟩) n c→base≤b:=by
 rcases h with⟨hl,⟨rfl,h0⟩|⟨g,cap,cur,rfl,h2,h3,h4,h5,h6,h7⟩⟩
 ·exact⟨Or.inl ⟨List.eq_nil_of_length_eq_zero h0,Or.inl rfl⟩,fun b o n c e=>by cases e⟩
 ·have hown:w.ownsRow base 80 3 (.slice (some ⟨g,0,none⟩) l.length cap) l.length (flatF l):=⟨hl,Or.inr ⟨g,cap,cur,rfl,h2,h3,h4,h5,h6,h7⟩⟩
  refine⟨Or.inr ⟨g,0,cap,rfl,h4,fun i hi=>?_⟩,fun b o n c e=>by cases e;exact h2⟩
  obtain⟨g0,g1,g2⟩:=flatF_get l i hi
  simp only[Nat.zero_add]
  exact⟨frow_cells hown _ _ g0,frow_cells hown _ _ g1,frow_cells hown _ _ g2⟩
theorem belowM_any (n:Nat):∀(_h:n<1000000000000000) (W:World),
  Calls Tryz.prog 63 #[.int .i64 (-(n:Int))] W fun e w'=>e=.returned (.string (Lh.bt (Lh.decL n)))∧Below W.heap.size W w':=by
 induction n using Nat.strongRecOn with
 | ind n ih =>
  intro h W
  go_enter Tryz.func63,Tryz.ntmps63
  by_cases hs:n<10
  ·have hd:decide (-(n:Int) > -10)=true:=by simp;omega
   have HB:∀W,Calls Tryz.prog 116 #[.int .i64 (48+(n:Int))] W fun e w'=>e=.returned (.string (Lh.bt [UInt8.ofNat (48+n)]))∧Below W.heap.size W w':=by
    intro W
    have e:((48+n:Nat):Int)=48+(n:Int):=by omega
    rw[←e]
    exact byteM_any _ (by omega) W
   have HD:Hid (Lh.bt (Lh.decL n)=Lh.bt [UInt8.ofNat (48+n)]):=by
    show _=_
    rw[Lh.decL_small hs]
    rfl
   go_wp2_with fail
   refine (HB W).mono ?_
   rintro e w' ⟨rfl,hb⟩
   dsimp only
   go_wp2
   go_ret
   exact⟨by rw[HD.out];rfl,hb⟩
  ·have hd:decide (-(n:Int) > -10)=false:=by simp;omega
   have hd2:decide ((n:Int)<10)=false:=by simp;omega
   have HI:∀W,Calls Tryz.prog 63 #[.int .i64 (-((n / 10:Nat):Int))] W fun e w'=>e=.returned (.string (Lh.bt (Lh.decL (n / 10))))∧Below W.heap.size W w':=fun W=>ih (n / 10) (by omega) (by omega) W
   have HB:∀W,Calls Tryz.prog 116 #[.int .i64 (48+((n % 10:Nat):Int))] W fun e w'=>e=.returned (.string (Lh.bt [UInt8.ofNat (48+n % 10)]))∧Below W.heap.size W w':=by
    intro W
    have e:((48+n % 10:Nat):Int)=48+((n % 10:Nat):Int):=by omega
    rw[←e]
    exact byteM_any _ (by omega) W
   have HD:Hid (Lh.bt (Lh.decL n)=Lh.bt (Lh.decL (n / 10))++Lh.bt [UInt8.ofNat (48+n % 10)]):=by
    show _=_
    rw[Lh.decL_big hs,Lh.bt_append]
    rfl
   have hl:(Lh.decL (n / 10)).length≤15:=Lh.decL_len (by decide) (by omega)
   have hsz1:(Lh.bt (Lh.decL (n / 10))).size≤15:=by rw[Lh.bt_size];exact hl
   have hsz2:(Lh.bt [UInt8.ofNat (48+n % 10)]).size=1:=Lh.bt_size _
   clear hl
   have HI2:∀W,Calls Tryz.prog 63 #[.int .i64 (-((n:Int) / 10))] W fun e w'=>e=.returned (.string (Lh.bt (Lh.decL (n / 10))))∧Below W.heap.size W w':=HI
   have HB2:∀W,Calls Tryz.prog 116 #[.int .i64 (48+(n:Int) % 10)] W fun e w'=>e=.returned (.string (Lh.bt [UInt8.ofNat (48+n % 10)]))∧Below W.heap.size W w':=HB
   have hq:(-(n:Int)).tdiv 10 = -((n / 10:Nat):Int):=by
    rw[Int.neg_tdiv];rfl
   have hr:(-(n:Int)).tmod 10 = -((n % 10:Nat):Int):=by
    rw[Int.neg_tmod];rfl
   generalize Lh.bt (Lh.decL (n / 10))=y at *
   generalize Lh.bt [UInt8.ofNat (48+n % 10)]=x at *
   have hnd:n / 10<1000000000000000:=by omega
   have hnm:n % 10<10:=by omega
   go_wp2_with fail
   refine (HI2 W).mono ?_
   rintro e w1 ⟨rfl,hb1⟩
   dsimp only
   go_wp2_with fail
   refine (HB2 w1).mono ?_
   rintro e w2 ⟨rfl,hb2⟩
   dsimp only
   go_wp2
   go_ret
   exact⟨by rw[HD.out];rfl,below_then hb1 hb2⟩
theorem decimalM_any (n:Nat)(h:n<1000000000000000)(W:World) :
  Calls Tryz.prog 19 #[.int .i64 (n:Nat)] W fun e w'=>e=.returned (.string (Lh.bt (Lh.decL n)))∧Below W.heap.size W w':=by
 go_enter Tryz.func19,Tryz.ntmps19
 have hd:decide ((n:Int)<0)=false:=by simp
 go_wp2_with fail
 refine (belowM_any n h W).mono ?_
 rintro e w1 ⟨rfl,hb1⟩
 dsimp only
 go_wp2
 go_ret
 exact⟨rfl,hb1⟩
theorem sealM_any (s:List UInt8)(hs:s.length≤100000)(W:World) :
  Calls Tryz.prog 126 #[.string (Lh.bt s)] W fun e w'=>e=.returned (.string (Lh.bt (s++Lh.sumL s++[10])))∧w'=W:=by
 go_enter Tryz.func126,Tryz.ntmps126
 have hsz:=Lh.bt_size s
 have hc:=Lh.crcL_lt s
 have hsz2:=Lh.bt_size (Lh.hexL 8 (Lh.crcL s))
 have hl:=Lh.hexL_len 8 (Lh.crcL s)
 go_wp2_with fail
 refine (crcM_any s hs W).mono ?_
 rintro e w1 ⟨rfl,rfl⟩
 dsimp only
 go_wp2_with fail
 refine (hexM_any (Lh.crcL s) 8 (by omega) (by decide) _).mono ?_
 rintro e w1 ⟨rfl,rfl⟩
 dsimp only
 go_wp2
 go_ret
 have E:Lh.bt s++Lh.bt [115,117,109,32]++Lh.bt (Lh.hexL 8 (Lh.crcL s))++Lh.bt [10]=Lh.bt (s++Lh.sumL s++[10]):=by
  rw[Lh.bt_append,Lh.bt_append,Lh.bt_append]
  congr 1
  simp[Lh.sumL,Lh.joinL,Lh.sumW]
 exact⟨congrArg (fun x=>Ending.returned (.string x)) E,rfl⟩
namespace Lh
theorem line_bt (p:List UInt8)(x:Fl):bt p++bt (hexL 16 x.1)++bt [32]++x.2.1++bt [32]++bt (decL x.2.2.toNat)++bt [10]=bt (p++(lineF x++[10])):=by
 have e:x.2.1=bt x.2.1.data.toList:=rfl
 rw[e]
 rw[bt_append,bt_append,bt_append,bt_append,bt_append,bt_append]
 congr 1
 simp[lineF,joinL]
theorem head_bt (e n:Nat):bt [102,108,111,119,115,32]++bt (decL e)++bt [32]++bt (decL n)++bt [10]=bt (headL e n++[10]):=by
 rw[bt_append,bt_append,bt_append,bt_append]
 congr 1
 simp[headL,joinL,flowsW]
end Lh
def CanT (L:List Lh.Fl):Prop:=∀x∈L,x.1<18446744073709551616∧x.2.1.size≤60∧0≤x.2.2∧x.2.2.toNat<100000000000000
theorem textM_any (e:Nat)(he:e<100000000000000)(v:Value)(L:List Lh.Fl)(W:World)(hv:Flows1 W v L)(hl:L.length≤201)(hs:CanT L) :
  Calls Tryz.prog 79 #[.int .i64 (e:Nat),v] W fun r w'=>r=.returned (.string (Lh.bt (Lh.textL e L)))∧Below W.heap.size W w':=by
 obtain⟨p,c,rfl,hc⟩:=hv.cells
 have HC:Hid _:=hc
 have HS:Hid (CanT L):=hs
 have HD1:=decimalM_any e (by omega)
 have HD2:=decimalM_any L.length (by omega)
 have HHD:Hid (Lh.bt [102,108,111,119,115,32]++Lh.bt (Lh.decL e)++Lh.bt [32]++Lh.bt (Lh.decL L.length)++Lh.bt [10]=Lh.bt (Lh.headL e L.length++[10])):=Lh.head_bt _ _
 have hs1:(Lh.bt (Lh.decL e)).size≤15:=by rw[Lh.bt_size];exact Lh.decL_len (by decide) (by omega)
 have hs2:(Lh.bt (Lh.decL L.length)).size≤15:=by rw[Lh.bt_size];exact Lh.decL_len (by decide) (by omega)
 have HHL:Hid ((Lh.headL e L.length).length≤35):=Lh.headL_len he (by omega)
 have HBR:Hid (Lh.textL e L=(Lh.headL e L.length++[10]++Lh.rowsB L)++Lh.sumL (Lh.headL e L.length++[10]++Lh.rowsB L)++[10]):=by
  show _=_
  rw[←Lh.body_rows]
  rfl
 have HRL:Hid (∀i,(Lh.rowsB (L.take i)).length≤18693):=fun i=>by
  have h1:=Lh.rowsB_len (l:=L.take i) fun x hx=>⟨(hs x (List.mem_of_mem_take hx)).2.1,(hs x (List.mem_of_mem_take hx)).2.2.2⟩
  have h2:(L.take i).length≤201:=by rw[List.length_take];omega
  omega
 clear hv hc hs
 generalize Lh.bt (Lh.decL e)=b1 at *
 generalize Lh.bt (Lh.decL L.length)=b2 at *
 go_enter Tryz.func79,Tryz.ntmps79
 go_wp2_with fail
 refine (HD1 W).mono ?_
 rintro r w1 ⟨rfl,hb1⟩
 dsimp only
 go_wp2_with fail
 refine (HD2 w1).mono ?_
 rintro r w2 ⟨rfl,hb2⟩
 dsimp only
 have hbb:=below_then hb1 hb2
 clear hb1 hb2 HD1 HD2
 go_wp2_with fail
 go_loopw [5,6] (fun u5 u6 w'=>Below W.heap.size W w'∧∃i:Nat,i≤L.length∧u6=.int .i64 (i:Nat)∧u5=.string (Lh.bt (Lh.headL e L.length++[10]++Lh.rowsB (L.take i)))) (fun _ u6 _=>L.length - (intOf u6).toNat)
 case atStart =>
  refine⟨hbb,0,Nat.zero_le _,rfl,?_⟩
  have:Lh.headL e L.length++[10]++Lh.rowsB (L.take 0)=Lh.headL e L.length++[10]:=by simp[Lh.rowsB]
  rw[this]
  exact congrArg Value.string HHD.out
 case round =>
  obtain⟨hb,i,hi,rfl,rfl⟩:=hrel
  obtain⟨wo,hwo⟩:∃wo,wo=wr:=⟨_,rfl⟩
  subst hwo
  by_cases hil:i<L.length
  ·have hii:(i:Int)<(L.length:Int):=by omega
   obtain⟨b,o,rfl,a0,a1,a2⟩:=HC.out i hil
   have a0':=below_cell hb a0
   have a1':=below_cell hb a1
   have a2':=below_cell hb a2
   obtain⟨q1,q2,q3,q4⟩:=HS.out _ (List.getElem_mem hil)
   have hsP:(Lh.bt (Lh.headL e L.length++[10]++Lh.rowsB (L.take i))).size≤19000:=by
    have h1:=HHL.out
    have h2:=HRL.out i
    rw[Lh.bt_size]
    simp only[List.length_append,List.length_cons,List.length_nil]
    omega
   have HL:=Lh.line_bt (Lh.headL e L.length++[10]++Lh.rowsB (L.take i)) L[i]
   have HN:Lh.headL e L.length++[10]++Lh.rowsB (L.take (i+1))=Lh.headL e L.length++[10]++Lh.rowsB (L.take i)++(Lh.lineF L[i]++[10]):=by
    rw[Lh.rowsB_take hil,←List.append_assoc]
   have HE:Hid (Lh.bt (Lh.headL e L.length++[10]++Lh.rowsB (L.take i))++Lh.bt (Lh.hexL 16 (L[i]).1)++Lh.bt [32]++(L[i]).2.1++Lh.bt [32]++Lh.bt (Lh.decL (L[i]).2.2.toNat)++Lh.bt [10]=Lh.bt (Lh.headL e L.length++[10]++Lh.rowsB (L.take (i+1)))):=by
    show _=_
    rw[HL,HN]
   clear HL HN a0 a1 a2
   have hs3:(Lh.bt (Lh.hexL 16 (L[i]).1)).size=16:=by rw[Lh.bt_size];exact Lh.hexL_len _ _
   have hs4:(Lh.bt (Lh.decL (L[i]).2.2.toNat)).size≤14:=by rw[Lh.bt_size];exact Lh.decL_len (by decide) (by omega)
   have HX:=hexM_any (L[i]).1 16 q1 (by decide)
   have HD:=decimalM_any (L[i]).2.2.toNat (by omega)
   have hcast:(((L[i]).2.2.toNat:Nat):Int)=(L[i]).2.2:=by omega
   rw[hcast] at HD
   clear hcast q1 q3 q4
   generalize Lh.bt (Lh.headL e L.length++[10]++Lh.rowsB (L.take i))=P at *
   generalize Lh.bt (Lh.hexL 16 (L[i]).1)=X at *
   generalize Lh.bt (Lh.decL (L[i]).2.2.toNat)=D at *
   generalize (L[i]).1=k at *
   generalize (L[i]).2.1=s at *
   generalize (L[i]).2.2=u at *
   have HXW:Hid (∀W,Below wo.heap.size wo W→Calls Tryz.prog 125 #[.int .u64 (k:Nat),.int .i64 16] W fun e w'=>e=.returned (.string X)∧Below wo.heap.size wo w'):=fun W hW=>(HX W).mono fun _ _ ⟨h1,h2⟩=>⟨h1,by rw[h2];exact hW⟩
   have HDW:Hid (∀W,Below wo.heap.size wo W→Calls Tryz.prog 19 #[.int .i64 u] W fun e w'=>e=.returned (.string D)∧Below wo.heap.size wo w'):=fun W hW=>(HD W).mono fun _ _ ⟨h1,h2⟩=>⟨h1,below_then hW h2⟩
   have HKC:Hid (∀W,Below wo.heap.size wo W→Below wo.heap.size wo W∧W.cell? ⟨b,o+i*3,none⟩=some (.int .u64 (k:Nat))∧W.cell? ⟨b,o+i*3+1,none⟩=some (.string s)∧W.cell? ⟨b,o+i*3+2,none⟩=some (.int .i64 u)):=fun W hW=>⟨hW,below_cell hW a0',below_cell hW a1',below_cell hW a2'⟩
   clear HX HD
   have n0:∀w,(Op.stringOp .add (P) (X:ByteArray)).run Tryz.prog w=.ok (.string (P++X)) w:=fun w=>run_string_add_sum w _ _ (by have z1:(ByteArray.mk #[32]).size=1:=rfl;have z2:(ByteArray.mk #[10]).size=1:=rfl;(first|omega|(simp only[ByteArray.size_append'];omega)))
   have n1:∀w,(Op.stringOp .add (P++X) ({ data:=#[32] }:ByteArray)).run Tryz.prog w=.ok (.string (P++X++{ data:=#[32] })) w:=fun w=>run_string_add_sum w _ _ (by have z1:(ByteArray.mk #[32]).size=1:=rfl;have z2:(ByteArray.mk #[10]).size=1:=rfl;(first|omega|(simp only[ByteArray.size_append'];omega)))
   have n2:∀w,(Op.stringOp .add (P++X++{ data:=#[32] }) (s:ByteArray)).run Tryz.prog w=.ok (.string (P++X++{ data:=#[32] }++s)) w:=fun w=>run_string_add_sum w _ _ (by have z1:(ByteArray.mk #[32]).size=1:=rfl;have z2:(ByteArray.mk #[10]).size=1:=rfl;(first|omega|(simp only[ByteArray.size_append'];omega)))
   have n3:∀w,(Op.stringOp .add (P++X++{ data:=#[32] }++s) ({ data:=#[32] }:ByteArray)).run Tryz.prog w=.ok (.string (P++X++{ data:=#[32] }++s++{ data:=#[32] })) w:=fun w=>run_string_add_sum w _ _ (by have z1:(ByteArray.mk #[32]).size=1:=rfl;have z2:(ByteArray.mk #[10]).size=1:=rfl;(first|omega|(simp only[ByteArray.size_append'];omega)))
   have n4:∀w,(Op.stringOp .add (P++X++{ data:=#[32] }++s++{ data:=#[32] }) (D:ByteArray)).run Tryz.prog w=.ok (.string (P++X++{ data:=#[32] }++s++{ data:=#[32] }++D)) w:=fun w=>run_string_add_sum w _ _ (by have z1:(ByteArray.mk #[32]).size=1:=rfl;have z2:(ByteArray.mk #[10]).size=1:=rfl;(first|omega|(simp only[ByteArray.size_append'];omega)))
   have n5:∀w,(Op.stringOp .add (P++X++{ data:=#[32] }++s++{ data:=#[32] }++D) ({ data:=#[10] }:ByteArray)).run Tryz.prog w=.ok (.string (P++X++{ data:=#[32] }++s++{ data:=#[32] }++D++{ data:=#[10] })) w:=fun w=>run_string_add_sum w _ _ (by have z1:(ByteArray.mk #[32]).size=1:=rfl;have z2:(ByteArray.mk #[10]).size=1:=rfl;(first|omega|(simp only[ByteArray.size_append'];omega)))
   go_wp2_with fail
   go_region_held3 (fun w'=>Below wo.heap.size wo w'∧w'.cell? ⟨b,o+i*3,none⟩=some (.int .u64 (k:Nat))∧w'.cell? ⟨b,o+i*3+1,none⟩=some (.string s)∧w'.cell? ⟨b,o+i*3+2,none⟩=some (.int .i64 u))
    (first|exact HKC.out _ (by assumption)|exact HKC.out _ (below_drewN (Below.refl _ _) 1))
    (first
     | (go_at_call 125;refine (HXW.out _ (by first|assumption|exact below_drewN (Below.refl _ _) 1)).mono ?_;rintro e w7 ⟨rfl,hb7⟩)
     | (go_at_call 19;refine (HDW.out _ (by first|assumption|exact below_drewN (Below.refl _ _) 1)).mono ?_;rintro e w8 ⟨rfl,hb8⟩))
   all_goals
    go_wp2
    refine⟨⟨below_then hb hb8,i+1,by omega,by go_num,?_⟩,by simp[intOf];omega⟩
    exact congrArg Value.string HE.out
  ·have hii:decide ((i:Int)<(L.length:Int))=false:=by simp;omega
   have hie:L.take i=L:=List.take_of_length_le (by omega)
   rw[hie]
   have hlen:(Lh.headL e L.length++[10]++Lh.rowsB L).length≤19000:=by
    have h1:=HHL.out
    have h2:=HRL.out i
    rw[hie] at h2
    simp only[List.length_append,List.length_cons,List.length_nil]
    omega
   have HSl:=sealM_any (Lh.headL e L.length++[10]++Lh.rowsB L) (by omega)
   have HT:=HBR.out
   rw[←HT] at HSl
   clear HT
   generalize Lh.headL e L.length++[10]++Lh.rowsB L=P at *
   go_wp2_with fail
   refine (HSl _).mono ?_
   rintro r w3 ⟨rfl,rfl⟩
   dsimp only
   go_wp2
   go_ret
   exact⟨rfl,hb⟩
end Go.Proofs.YtfhmfjcpggddkaaGreatDoor
namespace Go.Proofs.YtfhmfjcpggddkaaGreatDoor
def KeyIn (l:List Lh.Fl):Prop:=∀x∈l,x.1<18446744073709551616
theorem nm_word {s:ByteArray}(h:Lh.isNm s=true):s.data.toList≠[]∧(32:UInt8)∉s.data.toList∧(10:UInt8)∉s.data.toList∧s.size≤12:=by
 simp only[Lh.isNm,Bool.and_eq_true,decide_eq_true_eq] at h
 obtain⟨⟨⟨h1,h2⟩,_⟩,h4⟩:=h
 have hl:s.data.toList.length=s.size:=rfl
 refine⟨fun e=>?_,fun hm=>?_,fun hm=>?_,h2⟩
 ·rw[e] at hl;simp at hl;omega
 ·have:=List.all_eq_true.1 h4 _ hm
  revert this
  decide
 ·have:=List.all_eq_true.1 h4 _ hm
  revert this
  decide
theorem caF_good {e:Int}{l:List Lh.Fl}{pl:Int}(h:CaF e l 0 pl):(0≤e∧e≤1099511627776∧l.length≤200)∧(∀j,∀hj:j<l.length,GoodF l j hj)∧pl = -1:=by
 rcases h with⟨_,h,_⟩|⟨h1,i,hi,_,_,h3⟩|⟨h1,h2,_,h3⟩
 ·cases h
 ·rcases h3 with⟨_,h⟩|⟨_,_,h⟩|⟨_,_,_,_,h⟩<;>cases h
 ·exact⟨h1,h2,h3⟩
theorem caF_word {e:Int}{l:List Lh.Fl}{pl:Int}(h:CaF e l 0 pl)(hk:KeyIn l):Lh.WordF l∧CanT l∧e.toNat<100000000000000∧(e.toNat:Int)=e:=by
 obtain⟨⟨h1,h2,h3⟩,hg,_⟩:=caF_good h
 refine⟨fun x hx=>?_,fun x hx=>?_,by omega,by omega⟩
 ·obtain⟨j,hj,rfl⟩:=List.getElem_of_mem hx
  obtain⟨g1,g2,g3,_⟩:=hg j hj
  obtain⟨n1,n2,n3,n4⟩:=nm_word g1
  exact⟨hk _ hx,g2,by omega,n1,n2,n3⟩
 ·obtain⟨j,hj,rfl⟩:=List.getElem_of_mem hx
  obtain⟨g1,g2,g3,_⟩:=hg j hj
  obtain⟨n1,n2,n3,n4⟩:=nm_word g1
  exact⟨hk _ hx,by omega,g2,by omega⟩
theorem text_len {e:Int}{l:List Lh.Fl}{pl:Int}(h:CaF e l 0 pl)(hk:KeyIn l):(Lh.textL e.toNat l).length≤20000:=by
 obtain⟨_,hc,he,_⟩:=caF_word h hk
 obtain⟨⟨_,_,h3⟩,_,_⟩:=caF_good h
 have h1:=Lh.headL_len (e:=e.toNat) (n:=l.length) he (by omega)
 have h2:=Lh.rowsB_len (l:=l) fun x hx=>⟨(hc x hx).2.1,(hc x hx).2.2.2⟩
 have h4:(Lh.sumL (Lh.bodyL e.toNat l)).length=12:=by
  simp[Lh.sumL,Lh.joinL,Lh.sumW,Lh.hexL_len]
 unfold Lh.textL
 rw[List.length_append,List.length_append,h4,Lh.body_rows]
 simp only[List.length_append,List.length_cons,List.length_nil]
 omega
end Go.Proofs.YtfhmfjcpggddkaaGreatDoor
namespace Go.Proofs.YtfhmfjcpggddkaaGreatDoor
open Go.RowKit Go.Maps Go.ChangeMaps
theorem checkOne_any {a:Nat→Addr}(b:Nat)(s:ByteArray)(w:World)(he:EC a w)(hx:w.cell? ⟨b,0,none⟩=some (.string s))(hs:s.size≤1000000) :
  Calls Tryz.prog 137 #[.slice (some ⟨b,0,none⟩) 1 1] w fun e w'=>Below w.heap.size w w'∧((Lh.isNm s=true∧e=.returned .nilIface)∨(Lh.isNm s=false∧∃t p,e=.returned (.iface t p))):=by
 have s3:=he.s3
 clear he
 go_enter Tryz.func137,Tryz.ntmps137
 go_wp2
 go_loopw [11] (fun t W=>W=w∧∃k:Nat,k≤1∧t=.int .i64 k∧(k=1→Lh.isNm s=true)) (fun t _=>1 - (intOf t).toNat)
 case atStart=>exact⟨rfl,0,Nat.zero_le _,rfl,fun h=>by cases h⟩
 case round =>
  obtain⟨rfl,k,hk,rfl,hpre⟩:=hrel
  have HP:Hid (k=1→Lh.isNm s=true):=hpre
  clear hpre
  by_cases hlt:k<1
  ·obtain rfl:k=0:=by omega
   cases hn:Lh.isNm s with
   | false =>
    have HN:Hid (Lh.isNm s=false):=hn
    clear hn
    go_wp2_with fail
    refine (isName_any _ _ hs).mono ?_
    rintro e w1 ⟨rfl,rfl⟩
    rw[HN.out]
    go_wp2
    go_ret
    exact⟨(Below.refl _ _).alloc (Nat.le_refl _) _,Or.inr ⟨HN.out,_,_,rfl⟩⟩
   | true =>
    have HN:Hid (Lh.isNm s=true):=hn
    clear hn
    go_wp2_with fail
    refine (isName_any _ _ hs).mono ?_
    rintro e w1 ⟨rfl,rfl⟩
    rw[HN.out]
    go_wp2_with fail
    refine (contains_any _ ([]:List ByteArray) _ _ (Or.inl ⟨rfl,_,_,rfl⟩) (by simp)).mono ?_
    rintro e w2 ⟨rfl,rfl⟩
    go_wp2
    refine⟨⟨by trivial,1,by omega,by go_num,by first|trivial|exact fun _=>HN.out⟩,by simp[intOf]⟩
  ·have hk1:k=1:=by omega
   have HN:Hid (Lh.isNm s=true):=HP.out hk1
   subst hk1
   go_wp2
   go_ret
   exact⟨Below.refl _ _,Or.inl ⟨HN.out,rfl⟩⟩
def KeyM (W:World)(b n:Nat)(ks:List Nat):Prop:=∃D:DataW Unit,W.ownsMap Tryz.prog 63 (plainElem Tryz.prog 3) b n D∧IsMap D∧∀z:Nat,has D (.int .u64 (z:Nat))=decide (z∈ks)
theorem KeyM.lt {W:World}{b n:Nat}{ks:List Nat}(h:KeyM W b n ks):b<W.heap.size:=by
 obtain⟨D,h,_⟩:=h
 exact h.lt
theorem KeyM.same {W W':World}{b n:Nat}{ks:List Nat}(h:KeyM W b n ks)(he:W'.heap[b]?=W.heap[b]?):KeyM W' b n ks:=by
 obtain⟨D,h1,h2⟩:=h
 exact⟨D,ownsMap_later h1 he,h2⟩
theorem KeyM.later {W W':World}{b n:Nat}{ks:List Nat}(h:KeyM W b n ks)(hb:Below W.heap.size W W'):KeyM W' b n ks:=h.same (hb.block b h.lt)
theorem KeyM.made (w:World):KeyM (w.alloc (.map #[] 0)) w.heap.size 0 []:=⟨_,World.ownsMap_made w _ _ _,isMap_empty,fun _=>by simp[has]⟩
theorem has_putK {D:DataW Unit}{ks:List Nat}(hm:IsMap D)(h:∀z:Nat,has D (.int .u64 (z:Nat))=decide (z∈ks))(x:Nat)(v:DataW Unit):IsMap (D.put (.int .u64 (x:Nat)) v)∧∀z:Nat,has (D.put (.int .u64 (x:Nat)) v) (.int .u64 (z:Nat))=decide (z∈ks++[x]):=by
 refine⟨hm.put _ _,fun z=>?_⟩
 by_cases e:z=x
 ·subst e
  rw[has_put_same (k:=.int .u64 _) hm (by simp[WideAt.IsKeyLit])]
  simp
 ·have hne:Lit.int .u64 (z:Nat)≠Lit.int .u64 (x:Nat):=by
   intro e2
   simp only[Lit.int.injEq,true_and] at e2
   omega
  rw[has_put_other hne,h z]
  simp[e]
def flV (x:Lh.Fl):Value:=.agg #[.int .u64 (x.1:Nat),.string x.2.1,.int .i64 x.2.2]
theorem checkFlow_any {a:Nat→Addr}(x:Lh.Fl)(mb n:Nat)(ks:List Nat)(w:World)(he:EC a w)(hk:KeyM w mb n ks)(hx:x.1<18446744073709551616)(hs:x.2.1.size≤1000000)(hu:-9223372036854775808≤x.2.2∧x.2.2≤9223372036854775807) :
    Calls Tryz.prog 253 #[flV x,.map (some mb)] w fun e w'=>Below w.heap.size w w' ∧
      ((Lh.isNm x.2.1=false∧e=.returned (.iface 378 (.pointer (some (a 3))))) ∨
       (Lh.isNm x.2.1=true∧(x.2.2<0∨1099511628776<x.2.2)∧e=.returned (.iface 378 (.pointer (some (a 1))))) ∨
       (Lh.isNm x.2.1=true∧0≤x.2.2∧x.2.2≤1099511628776∧x.1∈ks∧e=.returned (.iface 378 (.pointer (some (a 5))))) ∨
       (Lh.isNm x.2.1=true∧0≤x.2.2∧x.2.2≤1099511628776∧x.1∉ks∧e=.returned .nilIface)):=by
  obtain⟨k,s,u⟩:=x
  unfold flV
  have HE:Hid (EC a w):=he
  have HK:Hid (KeyM w mb n ks):=hk
  clear he hk
  dsimp only at *
  go_enter Tryz.func253,Tryz.ntmps253
  go_wp2_with fail
  have hb0:Below w.heap.size w ((w.alloc (.cells #[.int .u64 (k:Nat),.string s,.int .i64 u] 80)).alloc (.cells #[.string s] 9)):=((Below.refl _ _).alloc (Nat.le_refl _) _).alloc (by simp) _
  refine (checkOne_any (a:=a) (w.heap.size+1) s _ (HE.out.later hb0) (by simp) hs).mono ?_
  rintro e w1 ⟨hb1,hcase⟩
  have c0:w1.cell? ⟨w.heap.size,0,none⟩=some (.int .u64 (k:Nat)):=below_cell hb1 (by simp)
  have c1:w1.cell? ⟨w.heap.size,1,none⟩=some (.string s):=below_cell hb1 (by simp)
  have c2:w1.cell? ⟨w.heap.size,2,none⟩=some (.int .i64 u):=below_cell hb1 (by simp)
  have hbw:Below w.heap.size w w1:=below_then hb0 hb1
  have s1:=(HE.out.later hbw).s1
  have s3:=(HE.out.later hbw).s3
  have s5:=(HE.out.later hbw).s5
  obtain⟨D,hown,hmap,hhas⟩:=HK.out.later hbw
  have hhk:=hhas k
  have hkey:=fkeyU k hx
  have HB:Hid (Below w.heap.size w w1):=hbw
  clear hb0 hb1 hbw hhas hmap
  have tok1:True:=trivial
  rcases hcase with⟨hn,rfl⟩|⟨hn,t,p,rfl⟩
  · have HN:Hid (Lh.isNm s=true):=hn
    clear hn
    by_cases hu0:u<0
    · clear hown hkey hhk
      go_wp2
      go_ret
      exact⟨HB.out,Or.inr (Or.inl ⟨HN.out,Or.inl hu0,rfl⟩)⟩
    · by_cases hu1:1099511628776<u
      · have d0:decide (u<0)=false:=by simp;omega
        clear hown hkey hhk
        go_wp2
        go_ret
        exact⟨HB.out,Or.inr (Or.inl ⟨HN.out,Or.inr hu1,rfl⟩)⟩
      · have d0:decide (u<0)=false:=by simp;omega
        have d1:decide (1099511628776<u)=false:=by simp;omega
        by_cases hm:k∈ks
        · have hT:has D (.int .u64 (k:Nat))=true:=by rw[hhk];simpa using hm
          clear hhk
          go_wp2_with (at_lookup;clear tok1;refine wpList_lookup_own_ok_int _ rfl _ _ 320 rfl 63 3 .i64 (int_keyed Tryz.underlying63) Tryz.underlying320 Tryz.underlying3 (Tryz.zeroValue3 _) mb n D rfl hown _ _ rfl hkey ?_;intro cv hat hwc;rw[hT])
          go_ret
          exact⟨HB.out,Or.inr (Or.inr (Or.inl ⟨HN.out,by omega,by omega,hm,rfl⟩))⟩
        · have hT:has D (.int .u64 (k:Nat))=false:=by rw[hhk];simpa using hm
          clear hhk
          go_wp2_with (at_lookup;clear tok1;refine wpList_lookup_own_ok_int _ rfl _ _ 320 rfl 63 3 .i64 (int_keyed Tryz.underlying63) Tryz.underlying320 Tryz.underlying3 (Tryz.zeroValue3 _) mb n D rfl hown _ _ rfl hkey ?_;intro cv hat hwc;rw[hT])
          go_ret
          exact⟨HB.out,Or.inr (Or.inr (Or.inr ⟨HN.out,by omega,by omega,hm,rfl⟩))⟩
  · have HN:Hid (Lh.isNm s=false):=hn
    clear hn hown hkey hhk
    go_wp2
    go_ret
    exact⟨HB.out,Or.inl ⟨HN.out,rfl⟩⟩
theorem check_carry {a:Nat→Addr}(e:Int)(v:Value)(l:List Lh.Fl)(w:World)(he:EC a w)(hv:Flows1 w v l)(hl:l.length≤20000)(hin:∀x∈l,x.1<18446744073709551616∧x.2.1.size≤1000000∧-9223372036854775808≤x.2.2∧x.2.2≤9223372036854775807) :
  Calls Tryz.prog 208 #[.int .i64 e,v] w fun r w'=>∃c pl ev,r=.returned ev∧CaF e l c pl∧ErrIs a w' c pl ev∧(c≠0→ev≠.nilIface)∧Below w.heap.size w w':=by
 obtain⟨p,cp,rfl,hc⟩:=hv.cells
 have HC:Hid _:=hc
 have HE:Hid (EC a w):=he
 have HI:Hid (∀x∈l,x.1<18446744073709551616∧x.2.1.size≤1000000∧-9223372036854775808≤x.2.2∧x.2.2≤9223372036854775807):=hin
 have s1:=he.s1
 clear hc hv he hin
 go_enter Tryz.func208,Tryz.ntmps208
 by_cases h1:e<0
 ·go_wp2
  go_ret
  exact⟨2,-1,_,rfl,Or.inl ⟨Or.inl h1,rfl,rfl⟩,Or.inr ⟨1,by decide,rfl,Or.inl ⟨rfl,rfl⟩⟩,fun _=>by simp,Below.refl _ _⟩
 by_cases h2:1099511627776<e
 ·have d1:decide (e<0)=false:=by simp;omega
  go_wp2
  go_ret
  exact⟨2,-1,_,rfl,Or.inl ⟨Or.inr (Or.inl h2),rfl,rfl⟩,Or.inr ⟨1,by decide,rfl,Or.inl ⟨rfl,rfl⟩⟩,fun _=>by simp,Below.refl _ _⟩
 have d1:decide (e<0)=false:=by simp;omega
 have d2:decide (1099511627776<e)=false:=by simp;omega
 by_cases h3:200<l.length
 ·have d3:(200:Int)<(l.length:Int):=by omega
  go_wp2
  go_ret
  exact⟨2,-1,_,rfl,Or.inl ⟨Or.inr (Or.inr h3),rfl,rfl⟩,Or.inr ⟨1,by decide,rfl,Or.inl ⟨rfl,rfl⟩⟩,fun _=>by simp,Below.refl _ _⟩
 have d3:decide ((200:Int)<(l.length:Int))=false:=by simp;omega
 have HH:Hid (0≤e∧e≤1099511627776∧l.length≤200):=⟨by omega,by omega,by omega⟩
 have hmm:(Instr.makeMap 320 none).run Tryz.prog w=.ok (.map (some w.heap.size)) (w.alloc (.map #[] 0)):=by simp[Instr.makeMap]
 go_wp2_with fail
 go_loopw [24] (fun u24 W=>Below w.heap.size w W∧∃i:Nat,i≤l.length∧u24=.int .i64 (i:Nat)∧(∀j,j<i→∀hj:j<l.length,GoodF l j hj)∧KeyM W w.heap.size i ((l.take i).map (·.1))) (fun u24 _=>l.length - (intOf u24).toNat)
 case atStart=>exact⟨(Below.refl _ _).alloc (Nat.le_refl _) _,0,Nat.zero_le _,rfl,fun j h=>absurd h (by omega),KeyM.made w⟩
 case round =>
  obtain⟨hb,i,hi,rfl,hp,hkm⟩:=hrel
  have HP:Hid (∀j,j<i→∀hj:j<l.length,GoodF l j hj):=hp
  have HKM:Hid (KeyM wr w.heap.size i ((l.take i).map (·.1))):=hkm
  clear hp hkm hmm
  by_cases hil:i<l.length
  ·have hii:(i:Int)<(l.length:Int):=by omega
   obtain⟨b,o,rfl,x0,x1,x2⟩:=HC.out i hil
   have x0':=below_cell hb x0
   have x1':=below_cell hb x1
   have x2':=below_cell hb x2
   have HX:=HI.out _ (List.getElem_mem hil)
   clear x0 x1 x2
   go_wp2_with fail
   have hb0:=(Below.refl wr.heap.size wr).alloc (Nat.le_refl _) (.cells #[.int .u64 ((l[i]).1:Nat),.string (l[i]).2.1,.int .i64 (l[i]).2.2] 80)
   refine (checkFlow_any (a:=a) l[i] w.heap.size i ((l.take i).map (·.1)) _ (HE.out.later (below_then hb hb0)) (HKM.out.later hb0) HX.1 HX.2.1 HX.2.2).mono ?_
   rintro r w1 ⟨hb1,hcase⟩
   have c0:w1.cell? ⟨wr.heap.size,0,none⟩=some (.int .u64 ((l[i]).1:Nat)):=below_cell hb1 (by simp)
   have hbr1:=below_then hb0 hb1
   have hbw1:=below_then hb hbr1
   have HBW:Hid (Below w.heap.size w w1):=hbw1
   rcases hcase with⟨g1,rfl⟩|⟨g1,g2,rfl⟩|⟨g1,g2,g3,g4,rfl⟩|⟨g1,g2,g3,g4,rfl⟩
   ·have HF:Hid (CaF e l 4 i):=Or.inr (Or.inl ⟨HH.out,i,hil,HP.out,rfl,Or.inl ⟨g1,rfl⟩⟩)
    clear g1 hb0 hb1 hbr1 hbw1
    go_wp2
    go_ret
    exact⟨4,i,_,rfl,HF.out,Or.inr ⟨3,by decide,rfl,Or.inr ⟨w1.heap.size,rfl,by simp,by simp⟩⟩,fun _=>by simp,HBW.out.alloc HBW.out.size _⟩
   ·have HF:Hid (CaF e l 2 i):=Or.inr (Or.inl ⟨HH.out,i,hil,HP.out,rfl,Or.inr (Or.inl ⟨g1,g2,rfl⟩)⟩)
    clear g1 g2 hb0 hb1 hbr1 hbw1
    go_wp2
    go_ret
    exact⟨2,i,_,rfl,HF.out,Or.inr ⟨1,by decide,rfl,Or.inr ⟨w1.heap.size,rfl,by simp,by simp⟩⟩,fun _=>by simp,HBW.out.alloc HBW.out.size _⟩
   ·have HF:Hid (CaF e l 6 i):=Or.inr (Or.inl ⟨HH.out,i,hil,HP.out,rfl,Or.inr (Or.inr ⟨g1,g2,g3,by
     obtain⟨y,hy,hye⟩:=List.mem_map.1 g4
     obtain⟨j,hj,rfl⟩:=List.getElem_of_mem hy
     rw[List.length_take] at hj
     exact⟨j,by omega,by omega,by rw[List.getElem_take] at hye;exact hye⟩,rfl⟩)⟩)
    clear g1 g2 g3 g4 hb0 hb1 hbr1 hbw1
    go_wp2
    go_ret
    exact⟨6,i,_,rfl,HF.out,Or.inr ⟨5,by decide,rfl,Or.inr ⟨w1.heap.size,rfl,by simp,by simp⟩⟩,fun _=>by simp,HBW.out.alloc HBW.out.size _⟩
   ·have HG:Hid (∀j,j<i+1→∀hj:j<l.length,GoodF l j hj):=fun j hj hjl=>by
     by_cases ej:j=i
     ·subst ej
      exact⟨g1,g2,g3,fun q hq hqi he=>g4 (List.mem_map.2 ⟨l[q],List.mem_take_iff_getElem.2 ⟨q,by omega,rfl⟩,he⟩)⟩
     ·exact HP.out j (by omega) hjl
    obtain⟨D,hown,hmap,hhas⟩:=HKM.out.later hbr1
    have HPK:Hid (IsMap (D.put (.int .u64 ((l[i]).1:Nat)) (.lit (.int .i64 (i:Nat))))∧∀z:Nat,has (D.put (.int .u64 ((l[i]).1:Nat)) (.lit (.int .i64 (i:Nat)))) (.int .u64 (z:Nat))=decide (z∈(l.take (i+1)).map (·.1))):=by
     have:=has_putK hmap hhas (l[i]).1 (.lit (.int .i64 (i:Nat)))
     rw[List.take_succ_eq_append_getElem hil,List.map_append]
     exact this
    have hkey:=fkeyU (l[i]).1 HX.1
    have hpl:=plainElem_int (H:=Unit) Tryz.underlying3 (wfI (n:=i) (by omega))
    have hkl:i<maxLen:=by unfold maxLen;omega
    clear g1 g2 g3 g4 hb0 hb1 hbr1 hmap hhas hbw1
    generalize (l[i]).1=k at *
    go_wp2_with (at_mapUpdate;refine wpList_mapUpdate_own _ rfl _ _ _ 320 rfl 63 3 (int_keyed Tryz.underlying63) Tryz.underlying320 (plainElem Tryz.prog 3) w.heap.size i D rfl hown hkl _ _ (.int .u64 (k:Nat)) rfl rfl hkey (.lit (.int .i64 (i:Nat))) [] hpl ?_;intro w3 hown3 hgr3)
    go_roundw
    case rel =>
     exact⟨HBW.out.grown hgr3 HBW.out.size (fun q h=>by cases h;exact Nat.le_refl _),i+1,by omega,by go_num,HG.out,_,hown3,HPK.out.1,HPK.out.2⟩
    case measure=>simp[intOf];omega
  ·have hie:i=l.length:=by omega
   have hii:decide ((i:Int)<(l.length:Int))=false:=by simp;omega
   have HF:Hid (CaF e l 0 (-1)):=Or.inr (Or.inr ⟨HH.out,fun j hj=>HP.out j (by omega) hj,rfl,rfl⟩)
   clear hie
   go_wp2
   go_ret
   exact⟨0,-1,_,rfl,HF.out,Or.inl ⟨rfl,rfl,rfl⟩,fun h=>absurd rfl h,hb⟩
end Go.Proofs.YtfhmfjcpggddkaaGreatDoor
namespace Go.Proofs.YtfhmfjcpggddkaaGreatDoor
open Go.RowKit
def Pg (B b:Nat)(l:List UInt8)(w:World):Prop:=Lib.IsBuilderF 285 5 B b (Lib.byteCells l) w
theorem infoU8:(Tryz.prog.info? 5).map (fun i=>(i.zero,i.size,i.bytes))=some (some (.int .u8 0),1,1):=by kernel_rfl
theorem pgUsed (b:Nat)(w:World)(h0:w.cell? ⟨b,0,none⟩=some (.pointer (some ⟨b,0,none⟩))) :
  Calls Tryz.prog 149 #[.pointer (some ⟨b,0,none⟩)] w fun e w'=>e=.returned (.tuple #[])∧w'=w:=by
 obtain⟨j,hj,_⟩:=Option.map_eq_some_iff.1 (show (Tryz.prog.info? 145).map (·.size)=some 2 by kernel_rfl)
 go_enter Tryz.func149,Tryz.ntmps149
 go_wp2
 rw[Lib.run_neq_ptr_same w _ Tryz.underlying142 hj]
 go_wp2
 go_end0
 exact⟨rfl,rfl⟩
theorem pgFresh (b:Nat)(w:World)(h0:w.cell? ⟨b,0,none⟩=some (.pointer none))(hsh:w.shape? b=some (285,2))(hfz:w.frozen? ⟨b,0,none⟩=false) :
  Calls Tryz.prog 149 #[.pointer (some ⟨b,0,none⟩)] w fun e w'=>e=.returned (.tuple #[])∧w'=w.setCell ⟨b,0,none⟩ (.pointer (some ⟨b,0,none⟩)):=by
 obtain⟨j,hj,hjs⟩:=Option.map_eq_some_iff.1 (show (Tryz.prog.info? 145).map (·.size)=some 2 by kernel_rfl)
 go_enter Tryz.func149,Tryz.ntmps149
 go_wp2
 rw[Lib.run_to_unsafe w ⟨b,0,none⟩ Tryz.underlying142 Tryz.underlying166 hj (by rw[hjs];decide) hsh (Nat.zero_lt_succ 1)]
 simp only[Result.andThen]
 rw[Oper.upon_value]
 go_wp2
 rw[run_callFunc_extern Tryz.func188 (by kernel_rfl) (by kernel_rfl) (by kernel_rfl) (e:=Extern.AbiNoEscape.same) (by kernel_rfl)]
 rw[Lib.run_noEscape]
 simp only[Result.andThen]
 rw[Oper.upon_value]
 go_wp2
 rw[Lib.run_from_unsafe w ⟨b,0,none⟩ Tryz.underlying166 Tryz.underlying142 hj hsh (by kernel_rfl)]
 simp only[Result.andThen]
 rw[Oper.upon_value]
 go_wp2
 go_end0
 exact⟨rfl,rfl⟩
theorem pgCheck (B b:Nat)(l:List UInt8)(w:World)(h:Pg B b l w) :
  Calls Tryz.prog 149 #[.pointer (some ⟨b,0,none⟩)] w fun e w'=>e=.returned (.tuple #[])∧Lib.BuilderAtF 285 5 B b (.pointer (some ⟨b,0,none⟩)) (Lib.byteCells l) w'∧Below B w w'∧Lib.OthersKept 5 (some b) w w':=by
 rcases h with h|h
 ·refine (pgFresh b w h.cell0 h.shape h.frozen0).mono ?_
  rintro e w' ⟨rfl,rfl⟩
  exact⟨rfl,h.used _,(Below.refl B w).setCell (p:=⟨b,0,none⟩) h.1 _,(Lib.OthersKept.refl _ _ w).setCell ⟨b,0,none⟩ rfl _⟩
 ·refine (pgUsed b w h.cell0).mono ?_
  rintro e w' ⟨rfl,rfl⟩
  exact⟨rfl,h,Below.refl B _,Lib.OthersKept.refl _ _ _⟩
theorem okept_of {b:Option Nat}{w w':World}(hb:Below w.heap.size w w'):Lib.OthersKept 5 b w w':=fun k o hk _ _=>(hb.block k (by
 rcases Nat.lt_or_ge k w.heap.size with h'|h'
 ·exact h'
 ·simp[Array.getElem?_eq_none h'] at hk)).trans hk
theorem neP8:285≠5:=by decide
theorem block_lt {w:World}{b:Nat}{o:Obj}(h:w.heap[b]?=some o):b<w.heap.size:=by
 rcases Nat.lt_or_ge b w.heap.size with h'|h'
 ·exact h'
 ·simp[Array.getElem?_eq_none h'] at h
theorem pgText (B b:Nat)(l s:List UInt8)(w:World)(h:Pg B b l w)(hlen:l.length+s.length≤1000000)(hBw:B≤w.heap.size) :
  Calls Tryz.prog 93 #[.pointer (some ⟨b,0,none⟩),.string (Lh.bt s)] w fun e w'=>e=.returned (.tuple #[.int .i64 (s.length:Nat),.nilIface])∧Pg B b (l++s) w'∧Below B w w'∧Lib.OthersKept 5 (some b) w w':=by
 obtain⟨i0,hi,hz0,hz1,hz2⟩:=info_parts infoU8
 have hck:=pgCheck B b l w h
 have hsz:(Lh.bt s).size=s.length:=by simp[Lh.bt,ByteArray.size]
 have hll:(Lib.byteCells l).length=l.length:=Lib.byteCells_length l
 clear h
 go_enter Tryz.func93,Tryz.ntmps93
 go_wp2_with (go_at_call 149;refine hck.mono ?_)
 rintro e w1 ⟨rfl,h1,hb1,hk1⟩
 obtain⟨hB,v,hbk,hown,hne⟩:=h1
 have c0:w1.cell? ⟨b,0,none⟩=some (.pointer (some ⟨b,0,none⟩)):=by rw[Lib.cell_of_heap hbk];rfl
 have c1:w1.cell? ⟨b,1,none⟩=some v:=by rw[Lib.cell_of_heap hbk];rfl
 go_wp2_with (at_builtin;refine Lib.wpList_append_own_stringF _ rfl _ _ 143 9 rfl B 5 i0 Tryz.underlying143 Tryz.underlying9 hi hz0 hz1 hz2 _ _ _ rfl hown (Lh.bt s) rfl ?c3 ?c4 ?c5 ?_)
 case c3=>unfold maxLen;omega
 case c4=>omega
 case c5=>have:=hb1.size;omega
 intro v' w2 hown' hgrow _
 have hlt:=block_lt hbk
 have hb2:w2.heap[b]?=some (.cells #[.pointer (some ⟨b,0,none⟩),v] 285 (0,0)):=by
  rw[hgrow.block b hlt (fun e=>hne e.symm)]
  exact hbk
 have d0:w2.cell? ⟨b,0,none⟩=some (.pointer (some ⟨b,0,none⟩)):=by rw[Lib.cell_of_heap hb2];rfl
 have d1:w2.cell? ⟨b,1,none⟩=some v:=by rw[Lib.cell_of_heap hb2];rfl
 have f1:w2.frozen? ⟨b,1,none⟩=false:=Lib.frozen_of_heap hb2 1
 obtain⟨ao,n',cap,rfl⟩:∃ao n' cap,v'=.slice ao n' cap:=by
  rcases hown'.2 with⟨hv,_⟩|⟨g,cap,cur,fz,hv,_⟩
  ·exact⟨_,_,_,hv⟩
  ·exact⟨_,_,_,hv⟩
 go_wp2
 go_ret2
 refine⟨rfl,Or.inr ?_,?_,(hk1.grown hgrow (Lib.ownsRowF_kind hown)).setCell ⟨b,1,none⟩ rfl _⟩
 ·have e1:Lib.byteCells (l++s)=Lib.byteCells l++Lib.strCells (Lh.bt s):=by simp[Lib.byteCells,Lib.strCells,Lh.bt]
  rw[e1]
  exact Lib.BuilderAtF.put (T:=285) (e:=5) hB hb2 (bs':=Lib.byteCells l++Lib.strCells (Lh.bt s)) (by simpa [Lib.strCells_length,hll,hsz] using hown') neP8
 ·exact (hb1.grown hgrow (by have:=hb1.size;omega) (fun k hk=>(hown.lt k hk).1)).setCell (p:=⟨b,1,none⟩) hB _
theorem pgByte (B b:Nat)(l:List UInt8)(c:UInt8)(w:World)(h:Pg B b l w)(hlen:l.length≤1000000)(hBw:B≤w.heap.size) :
  Calls Tryz.prog 254 #[.pointer (some ⟨b,0,none⟩),.int .u8 (c.toNat:Nat)] w fun e w'=>e=.returned .nilIface∧Pg B b (l++[c]) w'∧Below B w w'∧Lib.OthersKept 5 (some b) w w':=by
 obtain⟨i0,hi,hz0,hz1,hz2⟩:=info_parts infoU8
 have hck:=pgCheck B b l w h
 have hll:(Lib.byteCells l).length=l.length:=Lib.byteCells_length l
 clear h
 go_enter Tryz.func254,Tryz.ntmps254
 go_wp2_with (go_at_call 149;refine hck.mono ?_)
 rintro e w1 ⟨rfl,h1,hb1,hk1⟩
 obtain⟨hB,v,hbk,hown,hne⟩:=h1
 have c0:w1.cell? ⟨b,0,none⟩=some (.pointer (some ⟨b,0,none⟩)):=by rw[Lib.cell_of_heap hbk];rfl
 have c1:w1.cell? ⟨b,1,none⟩=some v:=by rw[Lib.cell_of_heap hbk];rfl
 go_wp2_with (at_builtin;refine wpList_append_ownF _ rfl _ _ 143 rfl B 5 i0 (.int .u8 0) 1 1 Tryz.underlying143 hi hz0 hz1 hz2 rfl (by decide) _ _ _ rfl (hown.alloc _) ⟨w1.heap.size,0,none⟩ 1 1 [.int .u8 (c.toNat:Nat)] rfl rfl ?c1 ?c2 ?c3 ?c4 ?c5 ?_)
 case c1 =>
  intro j u hj
  match j,hj with
  | 0,hj=>simp at hj;subst hj;simp[Addr.add]
 case c2=>intro u hu;simp at hu;subst hu;rfl
 case c3=>unfold maxLen;omega
 case c4=>omega
 case c5=>have:=hb1.size;simp;omega
 intro v' w2 hown' hgrow _
 have hlt:=block_lt hbk
 have hb2:w2.heap[b]?=some (.cells #[.pointer (some ⟨b,0,none⟩),v] 285 (0,0)):=by
  rw[hgrow.block b (by simp;omega) (fun e=>hne e.symm),Lib.alloc_old w1 _ b hlt]
  exact hbk
 have d0:w2.cell? ⟨b,0,none⟩=some (.pointer (some ⟨b,0,none⟩)):=by rw[Lib.cell_of_heap hb2];rfl
 have d1:w2.cell? ⟨b,1,none⟩=some v:=by rw[Lib.cell_of_heap hb2];rfl
 have f1:w2.frozen? ⟨b,1,none⟩=false:=Lib.frozen_of_heap hb2 1
 obtain⟨g,cap,rfl⟩:∃g cap,v'=.slice (some ⟨g,0,none⟩) (l.length+1) cap:=by
  rcases hown'.2 with⟨_,h0⟩|⟨g,cap,cur,fz,hv,_⟩
  ·omega
  ·exact⟨g,cap,hv⟩
 go_wp2
 go_ret
 refine⟨rfl,Or.inr ?_,?_,((hk1.alloc _).grown hgrow (Lib.ownsRowF_kind (hown.alloc _))).setCell ⟨b,1,none⟩ rfl _⟩
 ·have e1:Lib.byteCells (l++[c])=Lib.byteCells l++[.int .u8 (c.toNat:Nat)]:=by simp[Lib.byteCells]
  rw[e1]
  exact Lib.BuilderAtF.put (T:=285) (e:=5) hB hb2 (bs':=Lib.byteCells l++[.int .u8 (c.toNat:Nat)]) (by simpa [hll] using hown') neP8
 ·have h2:=hb1.alloc (Nat.le_trans hBw hb1.size) (.cells #[.int .u8 (c.toNat:Nat)] 5)
  exact (h2.grown hgrow (Nat.le_trans hBw h2.size) (fun k hk=>(hown.lt k hk).1)).setCell (p:=⟨b,1,none⟩) hB _
theorem pgString (B b:Nat)(l:List UInt8)(w:World)(h:Pg B b l w)(h0:l≠[]) :
  Calls Tryz.prog 94 #[.pointer (some ⟨b,0,none⟩)] w fun e w'=>e=.returned (.string (Lh.bt l))∧Pg B b l w'∧Below B w w':=by
 obtain⟨p,hp,hAt⟩:∃p,(p=.pointer none∨p=.pointer (some ⟨b,0,none⟩))∧Lib.BuilderAtF 285 5 B b p (Lib.byteCells l) w:=by
  rcases h with h|h
  ·exact⟨_,.inl rfl,h⟩
  ·exact⟨_,.inr rfl,h⟩
 obtain⟨hB,v,hbk,hown,hne⟩:=hAt
 have hl0:l.length≠0:=by simpa using h0
 rw[Lib.byteCells_length] at hown
 obtain⟨g,cap,cur,fz,rfl,hbg,hg,hfz,hnc,hcm,hcs,htake⟩:∃g cap cur fz,v=.slice (some ⟨g,0,none⟩) l.length cap∧B≤g∧w.heap[g]?=some (.cells cur 5 fz)∧fz.2≤l.length*1∧l.length≤cap∧cap≤maxLen∧cur.size=cap*1∧cur.toList.take (l.length*1)=Lib.byteCells l:=by
  rcases hown.2 with⟨_,hz⟩|⟨g,cap,cur,fz,hv,r⟩
  ·exact absurd hz hl0
  ·exact⟨g,cap,cur,fz,hv,r⟩
 have c1:w.drew.cell? ⟨b,1,none⟩=some (.slice (some ⟨g,0,none⟩) l.length cap):=by
  have:w.drew.heap[b]?=some (.cells #[p,.slice (some ⟨g,0,none⟩) l.length cap] 285 (0,0)):=hbk
  rw[Lib.cell_of_heap this];rfl
 have hSD:(Builtin.unsafeSliceData_ #[143] 213 #[.slice (some ⟨g,0,none⟩) l.length cap]).run Tryz.prog w.drew=.ok (.pointer (some ⟨g,0,none⟩)) w.drew :=
  Lib.run_unsafeSliceData_row _ _ _ _ _ _ (by omega)
 have hUS:(Builtin.unsafeString_ #[213,3] 9 #[.pointer (some ⟨g,0,none⟩),.int .i64 l.length]).run Tryz.prog w.drew=.ok (.string ⟨l.toArray⟩) (w.drew.freeze ⟨g,0,none⟩ l.length):=by
  refine Lib.run_unsafeString_row w.drew 213 3 9 5 Tryz.underlying213 (by kernel_rfl) g cur.size (by have hg':w.drew.heap[g]?=some (.cells cur 5 fz):=hg;simp[World.shape?,hg']) l h0 (by omega) (by unfold maxLen at hcm;omega) ?_
  intro j x hx
  have:=hown.cells (g:=g) rfl j (.int .u8 x.toNat) (by simp[Lib.byteCells,hx])
  exact this
 have hkeep:Pg B b l (w.drew.freeze ⟨g,0,none⟩ l.length):=by
  have hA:Lib.BuilderAtF 285 5 B b p (Lib.byteCells l) w.drew:=⟨hB,_,hbk,by rw[Lib.byteCells_length];exact hown,hne⟩
  have hF:=hA.froze (g:=g) (cap:=cap) (by rw[Lib.byteCells_length];exact c1)
  rw[Lib.byteCells_length] at hF
  rcases hp with rfl|rfl
  ·exact .inl hF
  ·exact .inr hF
 go_enter Tryz.func94,Tryz.ntmps94
 go_wp2
 go_region
 all_goals (go_wp2;go_ret;exact⟨rfl,hkeep,Lib.below_freeze (Below.drew (Below.refl B w)) (p:=⟨g,0,none⟩) hbg _⟩)
end Go.Proofs.YtfhmfjcpggddkaaGreatDoor
