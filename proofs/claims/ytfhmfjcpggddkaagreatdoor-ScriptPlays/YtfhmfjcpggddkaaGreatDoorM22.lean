/- The landed balance: byTable. -/
import Derived.Test.YtfhmfjcpggddkaaGreatDoorM19
import Derived.Test.YtfhmfjcpggddkaaGreatDoorM21
import Derived.Test.YtfhmfjcpggddkaaGreatDoorM14
import Derived.Test.YtfhmfjcpggddkaaGreatDoorM16
import Derived.Test.YtfhmfjcpggddkaaGreatDoorM5
import Derived.Test.YtfhmfjcpggddkaaGreatDoorM17
import Derived.Test.YtfhmfjcpggddkaaGreatDoorM18
import Derived.Test.YtfhmfjcpggddkaaGreatDoorM4
import Derived.Sort.Walk0
set_option maxHeartbeats 20000000
set_option maxRecDepth 100000
namespace Go.Proofs.YtfhmfjcpggddkaaGreatDoor
open Go.RowKit Go.Shelf Go.Maps Go.ChangeMaps
section
variable {W W':World} {p hp fp fm db:Nat} {bs:List Nat} {lv:Value} {S:Lh.Bl}
theorem byTable_none (a:Nat→Addr)(he:Errs5 a W)(h:BR W p hp fp fm db bs lv S)(hk:Lh.BOk S)(k:Nat)(ho:Lh.bopen S=[]) :
  Calls Tryz.prog 153 #[.pointer (some ⟨p,0,none⟩),.int .u64 (k:Nat)] W fun e w'=>e=.returned (.tuple #[.string ByteArray.empty,.iface 378 (.pointer (some (a 4)))])∧Below W.heap.size W w':=by
 have hop:=openB h hk
 rw[ho] at hop
 have HE:Hid (Errs5 a W):=he
 have HC3:Hid (∀w',Below W.heap.size W w'→w'.cell? ⟨p,3,none⟩=some (.int .i64 (S.size:Nat))):=fun w' hb=>(h.later hb).c3
 clear h hk ho he
 go_enter Tryz.func153,Tryz.ntmps153
 go_wp2_with fail
 refine hop.mono ?_
 rintro e w1 ⟨v,rfl,hv,hb1⟩
 obtain⟨p0,c0,rfl⟩:∃p0 c0,v=.slice p0 0 c0:=by
  rcases hv with⟨_,rfl|⟨ad,c,rfl⟩⟩|⟨b,o,c,rfl,_⟩
  ·exact⟨_,_,rfl⟩
  ·exact⟨_,_,rfl⟩
  ·exact⟨_,_,rfl⟩
 have c3:=HC3.out w1 hb1
 have hmk:=make_none5 a p0 c0 (S.size:Nat) w1 (HE.out.later hb1)
 clear hop hv
 go_wp2_with fail
 refine hmk.mono ?_
 rintro e w2 ⟨rfl,hb2⟩
 clear hmk
 go_wp2
 go_ret2
 exact⟨rfl,below_then hb1 hb2⟩
theorem byTable_good (a:Nat→Addr)(he:Errs5 a W)(h:BR W p hp fp fm db bs lv S)(hk:Lh.BOk S)(k:Nat)(ho:Lh.bopen S≠[]) :
  Calls Tryz.prog 153 #[.pointer (some ⟨p,0,none⟩),.int .u64 (k:Nat)] W fun e w'=>e=.returned (.tuple #[.string (nwB (Lh.bopen S) S.size k),.nilIface])∧Below W.heap.size W w':=by
 have hop:=openB h hk
 have HE:Hid (Errs5 a W):=he
 have HC3:Hid (∀w',Below W.heap.size W w'→w'.cell? ⟨p,3,none⟩=some (.int .i64 (S.size:Nat))):=fun w' hb=>(h.later hb).c3
 obtain⟨hl12,hnd,hnm⟩:=bopen_facts hk
 have h0:0<(Lh.bopen S).length:=by
  rcases Nat.eq_zero_or_pos (Lh.bopen S).length with h|h
  ·exact absurd (List.length_eq_zero_iff.1 h) ho
  ·exact h
 have hprm:=hk.prm
 have h5:=hk.s5
 have h2:2≤S.size:=hprm.1
 have htl:=Lh.turn_lt k
 obtain⟨i,hi,hti⟩:=Lh.tab_full hprm h0 (x:=Lh.turn k % S.size) (Nat.mod_lt _ (by omega))
 have HNW:Hid (nwB (Lh.bopen S) S.size k=(Lh.bopen S)[i]):=by
  show _=_
  unfold nwB
  rw[hti,dif_pos (by simpa using hi)]
  simp
 have hf:IsFault (Lh.bopen S) 0 (-1):=fault_of hl12 (fun s hs=>(hnm s hs).1) hnd
 have HMK:Hid (∀v w',Below W.heap.size W w'→Strs1 w' v (Lh.bopen S)→Calls Tryz.prog 86 #[v,.int .i64 (S.size:Nat)] w' fun e w''=>∃g,e=.returned (.tuple #[.slice (some ⟨g,0,none⟩) S.size S.size,.nilIface])∧w'.heap.size≤g∧IntRow w'' g (Lh.tab (Lh.bopen S) S.size S.size)∧Below w'.heap.size w' w''):=fun v w' hb hv=>make_good5 a v _ S.size w' (HE.out.later hb) hv h0 hf (fun k hk=>(hnm _ (List.getElem_mem hk)).2) hprm h5
 have HTL:Hid ((Lh.tab (Lh.bopen S) S.size S.size).length=S.size):=Lh.tab_length _ _ _
 rw[HNW.out]
 clear h hk ho he hf hnm hnd HE HNW hprm
 generalize Lh.bopen S=xs at *
 generalize S.size=n at *
 go_enter Tryz.func153,Tryz.ntmps153
 go_wp2_with fail
 refine hop.mono ?_
 rintro e w1 ⟨v,rfl,hv,hb1⟩
 have c3:=HC3.out w1 hb1
 have hmk:=HMK.out v w1 hb1 hv
 obtain⟨b,o,c,rfl,hx⟩:=strs1_pos hv h0
 have cx:=hx i hi
 clear hop hv hx HMK
 go_wp2_with fail
 refine hmk.mono ?_
 rintro e w2 ⟨g,rfl,hg,hrow,hb2⟩
 have hb12:=below_then hb1 hb2
 have hmod:Lh.turn k % n<n:=Nat.mod_lt _ (by omega)
 have cs:w2.cell? ⟨g,Lh.turn k % n,none⟩=some (.int .i64 (i:Nat)):=by
  have h1:=hrow.cell (k:=Lh.turn k % n) (by rw[HTL.out];exact hmod)
  rw[h1]
  have h2:=hti
  rw[List.getD_eq_getElem?_getD,List.getElem?_eq_getElem (by rw[HTL.out];exact hmod)] at h2
  simp at h2
  rw[h2]
 have cx2:=below_cell hb2 cx
 have c32:=HC3.out w2 hb12
 have hrem:((Lh.turn k:Nat):Int).tmod (n:Int)=((Lh.turn k % n:Nat):Int):=rfl
 have hz:((n:Int)==0)=false:=by rw[beq_eq_false_iff_ne];omega
 have hil:(i:Int)<(xs.length:Int):=by omega
 have hml:((Lh.turn k % n:Nat):Int)<(n:Int):=by omega
 have HTU:Hid (∀w',Calls Tryz.prog 183 #[.int .u64 k] w' fun e w''=>e=.returned (.int .u64 (Lh.turn k:Nat))∧Below w'.heap.size w' w''):=fun w'=>turn_any k w'
 clear hmk hrow hti HTL HC3 cx c3 hb1 hmod
 obtain⟨s,hs⟩:∃s,xs[i]'hi=s:=⟨_,rfl⟩
 rw[hs] at cx2
 have HS:Hid (xs[i]'hi=s):=hs
 clear hs
 generalize Lh.turn k=z at *
 have hz64:z<18446744073709551616:=htl
 have hw1:IntKind.u64.wrap (n:Int)=(n:Int):=by simp[IntKind.wrap,IntKind.signed,IntKind.bits];omega
 have hn0:¬n=0:=by omega
 have hst:∀W',Below w2.heap.size w2 W'→Calls Tryz.prog 183 #[.int .u64 k] W' fun e w'=>e=.returned (.int .u64 (z:Nat))∧Below w2.heap.size w2 w':=fun W' hb=>(HTU.out W').mono fun e w' ⟨h1,h2⟩=>⟨h1,below_then hb h2⟩
 have h3c:=fun W' (hb:Below w2.heap.size w2 W')=>below_cell hb c32
 have hsc:=fun W' (hb:Below w2.heap.size w2 W')=>below_cell hb cs
 have hxc:=fun W' (hb:Below w2.heap.size w2 W')=>below_cell hb cx2
 obtain⟨m,hm⟩:∃m,z % n=m:=⟨_,rfl⟩
 rw[hm] at cs hsc hrem hml
 have HB12:Hid (Below W.heap.size W w2):=hb12
 clear hm hb12 HTU hz
 go_wp2_with fail
 go_region_held3 (fun w'=>Below w2.heap.size w2 w'∧w'.cell? ⟨p,3,none⟩=some (.int .i64 (n:Nat))∧w'.cell? ⟨g,m,none⟩=some (.int .i64 (i:Nat))∧w'.cell? ⟨b,o+i,none⟩=some (.string s))
  (first|exact⟨by assumption,h3c _ (by assumption),hsc _ (by assumption),hxc _ (by assumption)⟩|exact⟨below_drewN (Below.refl _ _) 1,h3c _ (below_drewN (Below.refl _ _) 1),hsc _ (below_drewN (Below.refl _ _) 1),hxc _ (below_drewN (Below.refl _ _) 1)⟩)
  (first
   | (go_at_call 183;refine (hst _ (by first|assumption|exact below_drewN (Below.refl _ _) 1)).mono ?_;rintro e w' ⟨rfl,hbn⟩))
 all_goals
  go_wp2
  go_ret2
  exact⟨by rw[HS.out];rfl,below_then HB12.out (by assumption)⟩
end
section
variable {W W':World} {p hp fp fm db:Nat} {bs:List Nat} {lv:Value} {S:Lh.Bl}
theorem pick_tick (a:Nat→Addr)(he:EF a W)(h:BR W p hp fp fm db bs lv S)(k:Nat)(now:Int)(j:Nat)(hf:TickF S.la now j) :
  Calls Tryz.prog 97 #[.pointer (some ⟨p,0,none⟩),.int .u64 (k:Nat),.int .i64 now] W fun e w'=>e=.returned (.tuple #[.string ByteArray.empty,.bool false,.iface 378 (.pointer (some (a j)))])∧Below W.heap.size W w':=by
 have hget:=getF_bad a he h.f k now j hf
 have c2:=h.c2
 clear h he hf
 go_enter Tryz.func97,Tryz.ntmps97
 go_wp2_with fail
 refine hget.mono ?_
 rintro e w1 ⟨rfl,hb1⟩
 clear hget
 go_wp2
 go_ret3
 exact⟨rfl,hb1⟩
theorem BR.ticked (h:BR W p hp fp fm db bs lv S){now:Int}(hT:Tur (FFt fp fm) W W')(hF:FR W' fp fm S.t now S.L):BR W' p hp fp fm db bs lv { S with la:=now }:=h.flows hT hF
theorem pick_keep (h:BR W p hp fp fm db bs lv S)(hk:Lh.BOk S)(k:Nat)(hkk:k<18446744073709551616)(now:Int)(hok:TickOk S.la now)(s:ByteArray)(hks:Lh.BKeeps S k now s)
  (hput:∀w1,Tur (FFt fp fm) W w1→FR w1 fp fm S.t now S.L→Calls Tryz.prog 154 #[.pointer (some ⟨fp,0,none⟩),.int .u64 (k:Nat),.string s,.int .i64 now] w1 fun e w'=>e=.returned .nilIface∧FR w' fp fm S.t now (Lh.fput S.t S.L k s now)∧Tur (FFt fp fm) w1 w') :
  Calls Tryz.prog 97 #[.pointer (some ⟨p,0,none⟩),.int .u64 (k:Nat),.int .i64 now] W fun e w'=>e=.returned (.tuple #[.string s,.bool true,.nilIface])∧BR w' p hp fp fm db bs lv { S with la:=now,L:=Lh.fput S.t S.L k s now }∧Tur (FFt fp fm) W w':=by
 have hget:=getF_ok h.f k hkk now hok
 have c2:=h.c2
 have HH:Hid (BR W p hp fp fm db bs lv S):=h
 have HK:Hid (Lh.BOk S):=hk
 have HP:Hid (∀w1,Tur (FFt fp fm) W w1→FR w1 fp fm S.t now S.L→Calls Tryz.prog 154 #[.pointer (some ⟨fp,0,none⟩),.int .u64 (k:Nat),.string s,.int .i64 now] w1 fun e w'=>e=.returned .nilIface∧FR w' fp fm S.t now (Lh.fput S.t S.L k s now)∧Tur (FFt fp fm) w1 w'):=hput
 obtain⟨hix,hlt,hsx,hup⟩:=hks
 have HUP:Hid (Lh.hup S.hs s=true):=hup
 have HSX:Hid ((S.L[Lh.fix S.L k]).2.1=s):=hsx
 have HLT:Hid (now<(S.L[Lh.fix S.L k]).2.2):=hlt
 have HIX:Hid (Lh.fix S.L k<S.L.length):=hix
 clear h hk hok hput hlt hsx hup
 go_enter Tryz.func97,Tryz.ntmps97
 go_wp2_with fail
 refine hget.mono ?_
 rintro e w1 ⟨hF1,hT1,⟨hi,hl,rfl⟩|⟨hn,rfl⟩⟩
 case inr =>
  have h1:=hn HIX.out
  have h2:=HLT.out
  omega
 rw[HSX.out]
 have hB1:=HH.out.ticked hT1 hF1
 have c0:=hB1.c0
 have c2':=hB1.c2
 have his:=isS_any hB1.h HK.out.h s
 rw[show Lh.hup ({ S with la:=now }:Lh.Bl).hs s=true from HUP.out] at his
 have HB1:Hid (BR w1 p hp fp fm db bs lv { S with la:=now }):=hB1
 have HF1:Hid (FR w1 fp fm S.t now S.L):=hF1
 have HT1:Hid (Tur (FFt fp fm) W w1):=hT1
 clear hget hF1 hT1 hB1 c2 hl HSX HLT HIX
 go_wp2_with fail
 refine his.mono ?_
 rintro e w2 ⟨rfl,hb2⟩
 have c2'':=below_cell hb2 c2'
 have hp2:=HP.out w2 (HT1.out.behind hb2) (HF1.out.later hb2)
 clear his c0 c2'
 go_wp2_with fail
 refine hp2.mono ?_
 rintro e w3 ⟨rfl,hF3,hT3⟩
 have HB3:Hid (BR w3 p hp fp fm db bs lv { S with la:=now,L:=Lh.fput S.t S.L k s now }):=(HB1.out.later hb2).flows hT3 hF3
 have HT3:Hid (Tur (FFt fp fm) W w3):=(HT1.out.behind hb2).trans hT3 fun b hb=>Or.inl hb
 clear hp2 hF3 hT3 c2''
 go_wp2
 go_ret3
 exact⟨rfl,HB3.out,HT3.out⟩
theorem pick_none (a:Nat→Addr)(h:BR W p hp fp fm db bs lv S)(hk:Lh.BOk S)(k:Nat)(hkk:k<18446744073709551616)(now:Int)(hok:TickOk S.la now)(hks:∀z,¬Lh.BKeeps S k now z)
  (hby:∀w1,Tur (FFt fp fm) W w1→BR w1 p hp fp fm db bs lv { S with la:=now }→Calls Tryz.prog 153 #[.pointer (some ⟨p,0,none⟩),.int .u64 (k:Nat)] w1 fun e w'=>e=.returned (.tuple #[.string ByteArray.empty,.iface 378 (.pointer (some (a 4)))])∧Below w1.heap.size w1 w') :
  Calls Tryz.prog 97 #[.pointer (some ⟨p,0,none⟩),.int .u64 (k:Nat),.int .i64 now] W fun e w'=>e=.returned (.tuple #[.string ByteArray.empty,.bool false,.iface 378 (.pointer (some (a 4)))])∧BR w' p hp fp fm db bs lv { S with la:=now }∧Tur (FFt fp fm) W w':=by
 have hget:=getF_ok h.f k hkk now hok
 have c2:=h.c2
 have HH:Hid (BR W p hp fp fm db bs lv S):=h
 have HK:Hid (Lh.BOk S):=hk
 have HBY:Hid (∀w1,Tur (FFt fp fm) W w1→BR w1 p hp fp fm db bs lv { S with la:=now }→Calls Tryz.prog 153 #[.pointer (some ⟨p,0,none⟩),.int .u64 (k:Nat)] w1 fun e w'=>e=.returned (.tuple #[.string ByteArray.empty,.iface 378 (.pointer (some (a 4)))])∧Below w1.heap.size w1 w'):=hby
 have HKS:Hid (∀z,¬Lh.BKeeps S k now z):=hks
 clear h hk hok hks hby
 go_enter Tryz.func97,Tryz.ntmps97
 go_wp2_with fail
 refine hget.mono ?_
 rintro e w1 ⟨hF1,hT1,⟨hi,hl,rfl⟩|⟨hn,rfl⟩⟩
 ·have hup:Lh.hup S.hs (S.L[Lh.fix S.L k]).2.1=false:=by
   cases hu:Lh.hup S.hs (S.L[Lh.fix S.L k]).2.1 with
   | false=>rfl
   | true=>exact absurd ⟨hi,hl,rfl,hu⟩ (HKS.out _)
  have hB1:=HH.out.ticked hT1 hF1
  have c0:=hB1.c0
  have his:=isS_any hB1.h HK.out.h (S.L[Lh.fix S.L k]).2.1
  rw[show Lh.hup ({ S with la:=now }:Lh.Bl).hs (S.L[Lh.fix S.L k]).2.1=false from hup] at his
  have HB1:Hid (BR w1 p hp fp fm db bs lv { S with la:=now }):=hB1
  have HF1:Hid (FR w1 fp fm S.t now S.L):=hF1
  have HT1:Hid (Tur (FFt fp fm) W w1):=hT1
  clear hget hF1 hT1 hB1 c2 hl hup HKS
  generalize (S.L[Lh.fix S.L k]).2.1=z at *
  go_wp2_with fail
  refine his.mono ?_
  rintro e w2 ⟨rfl,hb2⟩
  have HB2:Hid (BR w2 p hp fp fm db bs lv { S with la:=now }):=HB1.out.later hb2
  have HF2:Hid (FR w2 fp fm S.t now S.L):=HF1.out.later hb2
  have HT2:Hid (Tur (FFt fp fm) W w2):=HT1.out.behind hb2
  clear his c0 hb2 HB1 HF1 HT1
  have hby:=HBY.out w2 HT2.out HB2.out
  clear HBY HF2
  go_wp2_with fail
  refine hby.mono ?_
  rintro e w4 ⟨rfl,hb4⟩
  have HB4:Hid (BR w4 p hp fp fm db bs lv { S with la:=now }):=HB2.out.later hb4
  have HT4:Hid (Tur (FFt fp fm) W w4):=HT2.out.behind hb4
  clear hby hb4 HB2 HT2
  go_wp2
  go_ret3
  exact⟨rfl,HB4.out,HT4.out⟩
 ·have HB2:Hid (BR w1 p hp fp fm db bs lv { S with la:=now }):=HH.out.ticked hT1 hF1
  have HF2:Hid (FR w1 fp fm S.t now S.L):=hF1
  have HT2:Hid (Tur (FFt fp fm) W w1):=hT1
  clear hget hF1 hT1 c2 hn HKS
  have hby:=HBY.out w1 HT2.out HB2.out
  clear HBY HF2
  go_wp2_with fail
  refine hby.mono ?_
  rintro e w4 ⟨rfl,hb4⟩
  have HB4:Hid (BR w4 p hp fp fm db bs lv { S with la:=now }):=HB2.out.later hb4
  have HT4:Hid (Tur (FFt fp fm) W w4):=HT2.out.behind hb4
  clear hby hb4 HB2 HT2
  go_wp2
  go_ret3
  exact⟨rfl,HB4.out,HT4.out⟩
theorem pick_new (h:BR W p hp fp fm db bs lv S)(hk:Lh.BOk S)(k:Nat)(hkk:k<18446744073709551616)(now:Int)(hok:TickOk S.la now)(hks:∀z,¬Lh.BKeeps S k now z)(s:ByteArray)
  (hby:∀w1,Tur (FFt fp fm) W w1→BR w1 p hp fp fm db bs lv { S with la:=now }→Calls Tryz.prog 153 #[.pointer (some ⟨p,0,none⟩),.int .u64 (k:Nat)] w1 fun e w'=>e=.returned (.tuple #[.string s,.nilIface])∧Below w1.heap.size w1 w')
  (hput:∀w1,Tur (FFt fp fm) W w1→FR w1 fp fm S.t now S.L→Calls Tryz.prog 154 #[.pointer (some ⟨fp,0,none⟩),.int .u64 (k:Nat),.string s,.int .i64 now] w1 fun e w'=>e=.returned .nilIface∧FR w' fp fm S.t now (Lh.fput S.t S.L k s now)∧Tur (FFt fp fm) w1 w') :
  Calls Tryz.prog 97 #[.pointer (some ⟨p,0,none⟩),.int .u64 (k:Nat),.int .i64 now] W fun e w'=>e=.returned (.tuple #[.string s,.bool false,.nilIface])∧BR w' p hp fp fm db bs lv { S with la:=now,L:=Lh.fput S.t S.L k s now }∧Tur (FFt fp fm) W w':=by
 have hget:=getF_ok h.f k hkk now hok
 have c2:=h.c2
 have HH:Hid (BR W p hp fp fm db bs lv S):=h
 have HK:Hid (Lh.BOk S):=hk
 have HBY:Hid (∀w1,Tur (FFt fp fm) W w1→BR w1 p hp fp fm db bs lv { S with la:=now }→Calls Tryz.prog 153 #[.pointer (some ⟨p,0,none⟩),.int .u64 (k:Nat)] w1 fun e w'=>e=.returned (.tuple #[.string s,.nilIface])∧Below w1.heap.size w1 w'):=hby
 have HP:Hid (∀w1,Tur (FFt fp fm) W w1→FR w1 fp fm S.t now S.L→Calls Tryz.prog 154 #[.pointer (some ⟨fp,0,none⟩),.int .u64 (k:Nat),.string s,.int .i64 now] w1 fun e w'=>e=.returned .nilIface∧FR w' fp fm S.t now (Lh.fput S.t S.L k s now)∧Tur (FFt fp fm) w1 w'):=hput
 have HKS:Hid (∀z,¬Lh.BKeeps S k now z):=hks
 clear h hk hok hks hby hput
 go_enter Tryz.func97,Tryz.ntmps97
 go_wp2_with fail
 refine hget.mono ?_
 rintro e w1 ⟨hF1,hT1,⟨hi,hl,rfl⟩|⟨hn,rfl⟩⟩
 ·have hup:Lh.hup S.hs (S.L[Lh.fix S.L k]).2.1=false:=by
   cases hu:Lh.hup S.hs (S.L[Lh.fix S.L k]).2.1 with
   | false=>rfl
   | true=>exact absurd ⟨hi,hl,rfl,hu⟩ (HKS.out _)
  have hB1:=HH.out.ticked hT1 hF1
  have c0:=hB1.c0
  have his:=isS_any hB1.h HK.out.h (S.L[Lh.fix S.L k]).2.1
  rw[show Lh.hup ({ S with la:=now }:Lh.Bl).hs (S.L[Lh.fix S.L k]).2.1=false from hup] at his
  have HB1:Hid (BR w1 p hp fp fm db bs lv { S with la:=now }):=hB1
  have HF1:Hid (FR w1 fp fm S.t now S.L):=hF1
  have HT1:Hid (Tur (FFt fp fm) W w1):=hT1
  clear hget hF1 hT1 hB1 c2 hl hup HKS
  generalize (S.L[Lh.fix S.L k]).2.1=z at *
  go_wp2_with fail
  refine his.mono ?_
  rintro e w2 ⟨rfl,hb2⟩
  have HB2:Hid (BR w2 p hp fp fm db bs lv { S with la:=now }):=HB1.out.later hb2
  have HF2:Hid (FR w2 fp fm S.t now S.L):=HF1.out.later hb2
  have HT2:Hid (Tur (FFt fp fm) W w2):=HT1.out.behind hb2
  clear his c0 hb2 HB1 HF1 HT1
  have hby:=HBY.out w2 HT2.out HB2.out
  clear HBY
  go_wp2_with fail
  refine hby.mono ?_
  rintro e w4 ⟨rfl,hb4⟩
  have hB4:=HB2.out.later hb4
  have c2':=hB4.c2
  have HB4:Hid (BR w4 p hp fp fm db bs lv { S with la:=now }):=hB4
  have HT4:Hid (Tur (FFt fp fm) W w4):=HT2.out.behind hb4
  have hpt:=HP.out w4 HT4.out (HF2.out.later hb4)
  clear hby hb4 HB2 HT2 hB4 HP HF2
  go_wp2_with fail
  refine hpt.mono ?_
  rintro e w5 ⟨rfl,hF5,hT5⟩
  have HB5:Hid (BR w5 p hp fp fm db bs lv { S with la:=now,L:=Lh.fput S.t S.L k s now }):=HB4.out.flows hT5 hF5
  have HT5:Hid (Tur (FFt fp fm) W w5):=HT4.out.trans hT5 fun b hb=>Or.inl hb
  clear hpt hF5 hT5 c2' HB4 HT4
  go_wp2
  go_ret3
  exact⟨rfl,HB5.out,HT5.out⟩
 ·have HB2:Hid (BR w1 p hp fp fm db bs lv { S with la:=now }):=HH.out.ticked hT1 hF1
  have HF2:Hid (FR w1 fp fm S.t now S.L):=hF1
  have HT2:Hid (Tur (FFt fp fm) W w1):=hT1
  clear hget hF1 hT1 c2 hn HKS
  have hby:=HBY.out w1 HT2.out HB2.out
  clear HBY
  go_wp2_with fail
  refine hby.mono ?_
  rintro e w4 ⟨rfl,hb4⟩
  have hB4:=HB2.out.later hb4
  have c2':=hB4.c2
  have HB4:Hid (BR w4 p hp fp fm db bs lv { S with la:=now }):=hB4
  have HT4:Hid (Tur (FFt fp fm) W w4):=HT2.out.behind hb4
  have hpt:=HP.out w4 HT4.out (HF2.out.later hb4)
  clear hby hb4 HB2 HT2 hB4 HP HF2
  go_wp2_with fail
  refine hpt.mono ?_
  rintro e w5 ⟨rfl,hF5,hT5⟩
  have HB5:Hid (BR w5 p hp fp fm db bs lv { S with la:=now,L:=Lh.fput S.t S.L k s now }):=HB4.out.flows hT5 hF5
  have HT5:Hid (Tur (FFt fp fm) W w5):=HT4.out.trans hT5 fun b hb=>Or.inl hb
  clear hpt hF5 hT5 c2' HB4 HT4
  go_wp2
  go_ret3
  exact⟨rfl,HB5.out,HT5.out⟩
end
end Go.Proofs.YtfhmfjcpggddkaaGreatDoor
namespace Go.Proofs.YtfhmfjcpggddkaaGreatDoor
open Go.RowKit Go.Shelf
theorem isEdge_any (x:Int)(W:World):Calls Tryz.prog 172 #[.int .i64 x] W fun e w'=>e=.returned (.bool (decide (1≤x∧x≤10)))∧w'=W:=by
 by_cases h1:1≤x
 ·have d1:decide (1≤x)=true:=by simpa using h1
  by_cases h2:x≤10
  ·have d2:decide (x≤10)=true:=by simpa using h2
   have HD:Hid (decide (1≤x∧x≤10)=true):=by show decide (1≤x∧x≤10)=true;simp[h1,h2]
   clear h1 h2
   go_enter Tryz.func172,Tryz.ntmps172
   go_wp2
   go_ret
   exact⟨by rw[HD.out];rfl,rfl⟩
  ·have d2:decide (x≤10)=false:=by simpa using h2
   have HD:Hid (decide (1≤x∧x≤10)=false):=by show decide (1≤x∧x≤10)=false;simp[h2]
   clear h1 h2
   go_enter Tryz.func172,Tryz.ntmps172
   go_wp2
   go_ret
   exact⟨by rw[HD.out];rfl,rfl⟩
 ·have d1:decide (1≤x)=false:=by simpa using h1
  have HD:Hid (decide (1≤x∧x≤10)=false):=by show decide (1≤x∧x≤10)=false;simp[h1]
  clear h1
  go_enter Tryz.func172,Tryz.ntmps172
  go_wp2
  go_ret
  exact⟨by rw[HD.out];rfl,rfl⟩
theorem strs1_any {w:World}{v:Value}{xs:List ByteArray}(h:Strs1 w v xs):∃q cap,v=.slice q xs.length cap∧∀k (h:k<xs.length),∃b o,q=some ⟨b,o,none⟩∧w.cell? ⟨b,o+k,none⟩=some (.string xs[k]):=by
 rcases h with⟨rfl,rfl|⟨a,c,rfl⟩⟩|⟨b,o,c,rfl,_,hx⟩
 ·exact⟨_,_,rfl,fun k h=>absurd h (by simp)⟩
 ·exact⟨_,_,rfl,fun k h=>absurd h (by simp)⟩
 ·exact⟨_,_,rfl,fun k h=>⟨b,o,rfl,hx k h⟩⟩
theorem hnew_snoc (xs:List ByteArray){k:Nat}(h:k<xs.length):Lh.hnew (xs.take (k+1))=Lh.hnew (xs.take k)++[(xs[k],true,0)]:=by
 unfold Lh.hnew
 rw[List.take_succ_eq_append_getElem h,List.map_append]
 rfl
theorem HR.fresh {W:World}{p f r:Nat}(c0:W.cell? ⟨p,0,none⟩=some (.int .i64 (f:Nat)))(c1:W.cell? ⟨p,1,none⟩=some (.int .i64 (r:Nat)))(c2:W.cell? ⟨p,2,none⟩=some (.slice none 0 0))(fz:∀k,W.frozen? ⟨p,k,none⟩=false):HR W p f r [] [] (.slice none 0 0) :=
 ⟨c0,c1,c2,fz,World.ownsRow_nil _ _ _ _,rfl,fun i h=>absurd h (by simp),List.nodup_nil,fun b hb=>by simp at hb,fun b hb=>by simp at hb⟩
theorem newS_good (a:Nat→Addr)(v:Value)(xs:List ByteArray)(f r:Nat)(w:World)(he:Errs4 a w)(hv:Strs1 w v xs)(hf0:IsFault xs 0 (-1))(hs:∀s∈xs,s.size≤300)(hf1:1≤f)(hf:f≤10)(hr1:1≤r)(hr:r≤10) :
  Calls Tryz.prog 130 #[v,.int .i64 (f:Nat),.int .i64 (r:Nat)] w fun e w'=>∃p bs lv,e=.returned (.tuple #[.pointer (some ⟨p,0,none⟩),.nilIface])∧HR w' p f r (Lh.hnew xs) bs lv∧w.heap.size≤p∧Below w.heap.size w w':=by
 have hl:=(fault0 hf0).2.1
 have hck:=check_any4 a v xs w 0 (-1) he hv.strs hf0 (fun k h=>Nat.le_trans (hs _ (List.getElem_mem h)) (by decide)) (by omega)
 have hef:∀W,Calls Tryz.prog 172 #[.int .i64 (f:Nat)] W fun e w'=>e=.returned (.bool true)∧w'=W:=fun W=>by
  have:=isEdge_any (f:Nat) W
  rwa [decide_eq_true (by omega)] at this
 have her:∀W,Calls Tryz.prog 172 #[.int .i64 (r:Nat)] W fun e w'=>e=.returned (.bool true)∧w'=W:=fun W=>by
  have:=isEdge_any (r:Nat) W
  rwa [decide_eq_true (by omega)] at this
 have HEF:Hid (∀W,Calls Tryz.prog 172 #[.int .i64 (f:Nat)] W fun e w'=>e=.returned (.bool true)∧w'=W):=hef
 have HER:Hid (∀W,Calls Tryz.prog 172 #[.int .i64 (r:Nat)] W fun e w'=>e=.returned (.bool true)∧w'=W):=her
 have HV:Hid (Strs1 w v xs):=hv
 clear hef her hs hf0 he hv
 go_enter Tryz.func130,Tryz.ntmps130
 go_wp2_with fail
 refine hck.mono ?_
 rintro e w1 ⟨ev,rfl,hev,hb1⟩
 obtain rfl:=err0 hev
 clear hev hck
 go_wp2_with fail
 refine (HEF.out _).mono ?_
 rintro e w' ⟨rfl,rfl⟩
 go_wp2_with fail
 refine (HER.out _).mono ?_
 rintro e w2 ⟨rfl,rfl⟩
 clear HEF HER
 obtain⟨q,cap,rfl,hx⟩:=strs1_any HV.out
 have HX:Hid (∀k (h:k<xs.length),∃b o,q=some ⟨b,o,none⟩∧w.cell? ⟨b,o+k,none⟩=some (.string xs[k])):=hx
 clear hx HV
 go_wp2_with fail
 have hbW:Below w.heap.size w (w2.alloc (.cells #[.int .i64 (f:Nat),.int .i64 (r:Nat),.slice none 0 0] 250)):=hb1.alloc hb1.size _
 have hF:HR (w2.alloc (.cells #[.int .i64 (f:Nat),.int .i64 (r:Nat),.slice none 0 0] 250)) w2.heap.size f r [] [] (.slice none 0 0):=HR.fresh (by simp) (by simp) (by simp) (fun k=>by simp)
 have hpm:=hb1.size
 have HPM:Hid (w.heap.size≤w2.heap.size):=hpm
 generalize w2.alloc (.cells #[.int .i64 (f:Nat),.int .i64 (r:Nat),.slice none 0 0] 250)=w0 at *
 generalize w2.heap.size=p at *
 clear hb1 hpm
 go_loopw [11,32] (fun _ t W=>Below w.heap.size w W∧∃k:Nat,k≤xs.length∧t=.int .i64 k∧∃bs lv,HR W p f r (Lh.hnew (xs.take k)) bs lv) (fun _ t _=>xs.length - (intOf t).toNat)
 case atStart=>exact⟨hbW,0,Nat.zero_le _,rfl,_,_,hF⟩
 case round =>
  clear hbW hF
  obtain⟨hb,k,hk,rfl,bs,lv,hR⟩:=hrel
  obtain⟨wo,hwo⟩:∃wo,wo=wr:=⟨_,rfl⟩
  subst hwo
  by_cases hlt:k<xs.length
  ·obtain⟨b,o,rfl,hck⟩:=HX.out k hlt
   have cx:=below_cell hb hck
   have HP:Hid (Lh.hnew (xs.take (k+1))=Lh.hnew (xs.take k)++[(xs[k],true,0)]):=hnew_snoc xs hlt
   have hlen:(Lh.hnew (xs.take k)).length≤208:=by
    unfold Lh.hnew
    rw[List.length_map,List.length_take]
    omega
   generalize Lh.hnew (xs.take k)=l at *
   generalize xs[k]=s at *
   have hki:(k:Int)<(xs.length:Int):=by omega
   have c2:=hR.c2
   have f2:=hR.fz 2
   have hp:=hR.plt
   obtain⟨hB2,hS2,hq2⟩:=laid2 wo s true
   have HR2:Hid (HR wo p f r l bs lv):=hR
   have HB2:Hid _:=hB2
   have HS2:Hid _:=hS2
   have HQ2:Hid _:=hq2
   have HOW:Hid _:=ownsRow_below hR.own hB2
   have c2':=below_cell hB2 c2
   have hpl:p<((wo.alloc (.cells #[.string s,.bool true,.int .i64 0] 220)).alloc (.cells #[.pointer (some ⟨wo.heap.size,0,none⟩)] 217)).heap.size:=Nat.lt_of_lt_of_le hp hB2.size
   have HPL:Hid _:=hpl
   have HLO:Hid (∀j,HFoot p bs lv j→w.heap.size≤j):=fun j hj=>Nat.le_trans HPM.out (hR.lt j hj).2
   clear hck hR hB2 hS2 hq2 hpl
   go_wp2_with (at_builtin;refine wpList_append_s p (wo.heap.size+1) wo.heap.size rfl _ _ rfl lv bs l.length rfl rfl HOW.out hlen HPL.out HQ2.out ?_)
   intro g cp w1 hown hgr hat
   have hown':w1.ownsRow (p+1) 217 1 (.slice (some ⟨g,0,none⟩) (l.length+1) cp) (l.length+1) ((bs++[wo.heap.size]).map ptrS):=by rw[List.map_append];exact hown
   have HN:Hid _:=HR2.out.added (s,true,0) rfl HB2.out HS2.out hown' hgr (by simpa using hat)
   obtain⟨d2,g2⟩:=HR2.out.grown HB2.out hgr
   clear hown hown' hgr hat c2 f2 cx HB2 HS2 HQ2 HOW HPL c2' HR2
   go_wp2
   refine⟨⟨?_,k+1,by omega,by go_num,_,_,by rw[HP.out];exact HN.out.1⟩,by simp[intOf];omega⟩
   refine HN.out.2.1.below (B:=w.heap.size) (fun j hj=>HLO.out j hj) hb (Nat.le_refl _)
  ·have hki:decide ((k:Int)<(xs.length:Int))=false:=by simp;omega
   have HN:Hid (HR wo p f r (Lh.hnew xs) bs lv):=by
    have e:k=xs.length:=by omega
    rw[e,List.take_length] at hR
    exact hR
   clear hR
   go_wp2
   go_ret2
   exact⟨p,bs,lv,rfl,HN.out,HPM.out,hb⟩
end Go.Proofs.YtfhmfjcpggddkaaGreatDoor
namespace Go.Proofs.YtfhmfjcpggddkaaGreatDoor
open Go.RowKit Go.Shelf Go.Maps Go.ChangeMaps
theorem Errs5.four {a:Nat→Addr}{w:World}(h:Errs5 a w):Errs4 a w:=⟨h.s1,h.s3,h.s4,h.s5⟩
theorem new_bal (a:Nat→Addr)(v:Value)(xs:List ByteArray)(n t f r:Nat)(W:World)(he:Errs5 a W)(hv:Strs1 W v xs)(h0:0<xs.length)(hf:IsFault xs 0 (-1))(hs:∀s∈xs,s.size≤300)(hprm:Lh.Prm n)(h5:n≤503)(ht1:1≤t)(ht2:t≤1000)(hf1:1≤f)(hf2:f≤10)(hr1:1≤r)(hr2:r≤10) :
  Calls Tryz.prog 85 #[v,.int .i64 (n:Nat),.int .i64 (t:Nat),.int .i64 (f:Nat),.int .i64 (r:Nat)] W fun e w'=>∃p hp fp fm db bs lv,e=.returned (.tuple #[.pointer (some ⟨p,0,none⟩),.nilIface])∧BR w' p hp fp fm db bs lv ⟨f,r,n,t,Lh.hnew xs,[],0,0,[]⟩∧(∀b,BFt p hp fp fm db bs lv b→W.heap.size≤b)∧Below W.heap.size W w':=by
 have hnh:=newS_good a v xs f r W he.four hv hf hs hf1 hf2 hr1 hr2
 have HMK:Hid (∀w1,Below W.heap.size W w1→Calls Tryz.prog 86 #[v,.int .i64 n] w1 fun e w'=>∃g,e=.returned (.tuple #[.slice (some ⟨g,0,none⟩) n n,.nilIface])∧Below w1.heap.size w1 w'):=fun w1 hb=>(make_good5 a v xs n w1 (he.later hb) (hv.later hb) h0 hf (fun k hk=>hs _ (List.getElem_mem hk)) hprm h5).mono fun e w' ⟨g,q1,_,_,q4⟩=>⟨g,q1,q4⟩
 obtain⟨b,o,c,rfl,_⟩:=strs1_pos hv h0
 have hl0:((xs.length:Int)==0)=false:=by rw[beq_eq_false_iff_ne];omega
 have hl1:¬xs.length=0:=by omega
 have hmm:=@run_makeMap Tryz.prog
 clear hv hf hs hprm he
 go_enter Tryz.func85,Tryz.ntmps85
 go_wp2_with fail
 refine hnh.mono ?_
 rintro e w1 ⟨hp,bs,lv,rfl,hR,hph,hb1⟩
 have hmk:=HMK.out w1 hb1
 have HR1:Hid (HR w1 hp f r (Lh.hnew xs) bs lv):=hR
 clear hnh HMK hR
 go_wp2_with fail
 refine hmk.mono ?_
 rintro e w2 ⟨g,rfl,hb2⟩
 have hnf:=newF_good t w2 ht1 ht2
 clear hmk
 go_wp2_with fail
 refine hnf.mono ?_
 rintro e w3 ⟨fp,fm,rfl,hF,hfp,hfm,hb3⟩
 have HF:Hid (FR w3 fp fm t 0 []):=hF
 clear hnf hF
 go_wp2
 go_ret2
 have s1:=hb1.size
 have s2:=hb2.size
 have s3:=hb3.size
 have hb123:=below_then (below_then hb1 hb2) hb3
 have hH3:=HR1.out.later (below_then hb2 hb3)
 have hbA:Below w3.heap.size w3 (w3.alloc (.map #[] 0)):=(Below.refl _ _).alloc (Nat.le_refl _) _
 have hHl:=HR1.out.lt
 have hFl:=HF.out.lt
 refine⟨w3.heap.size+1,hp,fp,fm,w3.heap.size,bs,lv,rfl,⟨by simp,by simp,by simp,by simp,by simp,fun k=>by simp,?_,?_,⟨.map [],?_,SetN.zero⟩,List.nodup_nil,(fun s hs=>absurd hs (by simp)),by omega,(fun hq=>?_),?_,(fun hq=>?_),?_,?_⟩,?_,?_⟩
 ·exact (hH3.later hbA).later ((Below.refl _ _).alloc (Nat.le_refl _) _)
 ·exact (HF.out.later hbA).later ((Below.refl _ _).alloc (Nat.le_refl _) _)
 ·exact (World.ownsMap_made w3 _ _ _).alloc _
 ·have:=(hHl _ hq).1
  omega
 ·intro hq
  have:=hFl _ hq
  omega
 ·have:=(hHl _ hq).1
  omega
 ·intro hq
  have:=hFl _ hq
  omega
 ·rintro b hq (rfl|rfl)
  ·have:=(hHl _ hq).1
   omega
  ·have:=(hHl _ hq).1
   omega
 ·rintro b (rfl|rfl|hq|hq)
  ·omega
  ·omega
  ·have:=(hHl b hq).2
   omega
  ·rcases hq with rfl|rfl<;>omega
 ·exact (hb123.alloc (by omega) _).alloc (by simp;omega) _
end Go.Proofs.YtfhmfjcpggddkaaGreatDoor
namespace Go.Proofs.YtfhmfjcpggddkaaGreatDoor
open Go.RowKit Go.Sort
theorem nanU (x:Nat)(W:World):Calls Tryz.prog 181 #[.int .u64 x] W fun e w'=>e=.returned (.bool false)∧w'=W:=by
 go_enter Tryz.func181,Tryz.ntmps181
 go_wp2
 go_ret
 exact⟨by simp,rfl⟩
theorem nanS (x:ByteArray)(W:World):Calls Tryz.prog 182 #[.string x] W fun e w'=>e=.returned (.bool false)∧w'=W:=by
 go_enter Tryz.func182,Tryz.ntmps182
 go_wp2
 go_ret
 exact⟨by simp,rfl⟩
def cmpU (x y:Nat):Int:=if x<y then -1 else if y<x then 1 else 0
def cmpS (x y:ByteArray):Int:=if Lh.bl x<Lh.bl y then -1 else if Lh.bl y<Lh.bl x then 1 else 0
theorem compareU (x y:Nat)(W:World):Calls Tryz.prog 142 #[.int .u64 x,.int .u64 y] W fun e w'=>e=.returned (.int .i64 (cmpU x y))∧w'=W:=by
 unfold cmpU
 by_cases h1:x<y
 ·have e1:decide ((x:Int)<(y:Int))=true:=by simpa using h1
  rw[if_pos h1]
  go_enter Tryz.func142,Tryz.ntmps142
  go_wp2_with (first|(refine (nanU _ _).mono ?_;rintro e w' ⟨rfl,rfl⟩)|fail)
  go_ret
  exact⟨rfl,rfl⟩
 ·have e1:decide ((x:Int)<(y:Int))=false:=by simpa using h1
  rw[if_neg h1]
  by_cases h2:y<x
  ·have e2:decide ((y:Int)<(x:Int))=true:=by simpa using h2
   rw[if_pos h2]
   go_enter Tryz.func142,Tryz.ntmps142
   go_wp2_with (first|(refine (nanU _ _).mono ?_;rintro e w' ⟨rfl,rfl⟩)|fail)
   go_ret
   exact⟨rfl,rfl⟩
  ·have e2:decide ((y:Int)<(x:Int))=false:=by simpa using h2
   rw[if_neg h2]
   go_enter Tryz.func142,Tryz.ntmps142
   go_wp2_with (first|(refine (nanU _ _).mono ?_;rintro e w' ⟨rfl,rfl⟩)|fail)
   go_ret
   exact⟨rfl,rfl⟩
theorem less_bl (x y:ByteArray):Op.bytesLess x.toList y.toList=decide (Lh.bl x<Lh.bl y):=by
 rw[bytesLess_eq,ByteArray.toList_eq,ByteArray.toList_eq]
 rfl
theorem more_bl (x y:ByteArray):(!(Op.bytesLess x.toList y.toList || x.toList==y.toList))=decide (Lh.bl y<Lh.bl x):=by
 rw[less_bl]
 by_cases h:Lh.bl x<Lh.bl y
 ·have h2:¬Lh.bl y<Lh.bl x:=List.lt_asymm h
  simp[h,h2]
 ·by_cases e:x=y
  ·subst e
   have:¬Lh.bl x<Lh.bl x:=List.lt_irrefl _
   simp[this]
  ·have h3:Lh.bl y<Lh.bl x:=by
    refine Classical.byContradiction fun h4=>e (Lh.bl_inj (List.le_antisymm (List.not_lt.1 h4) (List.not_lt.1 h)))
   rw[bytes_parts e]
   simp[h,h3]
theorem compareS (x y:ByteArray)(W:World):Calls Tryz.prog 143 #[.string x,.string y] W fun e w'=>e=.returned (.int .i64 (cmpS x y))∧w'=W:=by
 unfold cmpS
 by_cases h1:Lh.bl x<Lh.bl y
 ·have e1:Op.bytesLess x.toList y.toList=true:=by rw[less_bl];simpa using h1
  rw[if_pos h1]
  clear h1
  go_enter Tryz.func143,Tryz.ntmps143
  go_wp2_with (first|(refine (nanS _ _).mono ?_;rintro e w' ⟨rfl,rfl⟩)|fail)
  go_ret
  exact⟨rfl,rfl⟩
 ·have e1:Op.bytesLess x.toList y.toList=false:=by rw[less_bl];simpa using h1
  have e3:=more_bl x y
  rw[e1,Bool.false_or] at e3
  rw[if_neg h1]
  clear h1
  by_cases h2:Lh.bl y<Lh.bl x
  ·have e2:(x.toList==y.toList)=false:=by simpa [h2] using e3
   rw[if_pos h2]
   clear e3 h2
   go_enter Tryz.func143,Tryz.ntmps143
   go_wp2_with (first|(refine (nanS _ _).mono ?_;rintro e w' ⟨rfl,rfl⟩)|fail)
   go_ret
   exact⟨rfl,rfl⟩
  ·have e2:(x.toList==y.toList)=true:=by simpa [h2] using e3
   rw[if_neg h2]
   clear e3 h2
   go_enter Tryz.func143,Tryz.ntmps143
   go_wp2_with (first|(refine (nanS _ _).mono ?_;rintro e w' ⟨rfl,rfl⟩)|fail)
   go_ret
   exact⟨rfl,rfl⟩
theorem or_two (b:Nat)(x y:Int)(W:World)(c0:W.cell? ⟨b,0,none⟩=some (.int .i64 x))(c1:W.cell? ⟨b,1,none⟩=some (.int .i64 y)) :
  Calls Tryz.prog 141 #[.slice (some ⟨b,0,none⟩) 2 2] W fun e w'=>e=.returned (.int .i64 (if x=0 then y else x))∧w'=W:=by
 by_cases hx:x=0
 ·subst hx
  rw[if_pos rfl]
  by_cases hy:y=0
  ·subst hy
   go_enter Tryz.func141,Tryz.ntmps141
   go_wp2
   refine wp_loop_rounds 3 ?_
   rw[rounds_succ]
   go_wp2
   rw[rounds_succ]
   go_wp2
   rw[rounds_succ]
   go_wp2
   go_ret
   exact⟨rfl,rfl⟩
  ·have hy':(y != 0)=true:=by simpa using hy
   clear hy
   go_enter Tryz.func141,Tryz.ntmps141
   go_wp2
   refine wp_loop_rounds 3 ?_
   rw[rounds_succ]
   go_wp2
   rw[rounds_succ]
   go_wp2
   go_ret
   exact⟨rfl,rfl⟩
 ·have hx':(x != 0)=true:=by simpa using hx
  rw[if_neg hx]
  clear hx
  go_enter Tryz.func141,Tryz.ntmps141
  go_wp2
  refine wp_loop_rounds 3 ?_
  rw[rounds_succ]
  go_wp2
  go_ret
  exact⟨rfl,rfl⟩
end Go.Proofs.YtfhmfjcpggddkaaGreatDoor
