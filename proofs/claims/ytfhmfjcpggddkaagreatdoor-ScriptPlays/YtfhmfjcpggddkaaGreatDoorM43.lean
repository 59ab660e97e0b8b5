/- The landed script: jumps, moves. -/
import Derived.Test.YtfhmfjcpggddkaaGreatDoorM29
import Derived.Test.YtfhmfjcpggddkaaGreatDoorM42
import Derived.Test.YtfhmfjcpggddkaaGreatDoorM32
import Derived.Test.YtfhmfjcpggddkaaGreatDoorM30
import Derived.Test.YtfhmfjcpggddkaaGreatDoorScAt
import Derived.Test.YtfhmfjcpggddkaaGreatDoorM3
import Derived.Lib.AppendIntMem
set_option maxHeartbeats 20000000
set_option maxRecDepth 100000
namespace Go.Proofs.YtfhmfjcpggddkaaGreatDoor
open Go.RowKit Lh
theorem errIs_nil {a:Nat→Addr}{W:World}:ErrIs a W 0 (-1) .nilIface:=Or.inl ⟨rfl,rfl,rfl⟩
theorem ansE_is {a:Nat→Addr}{W':World}{c:Nat}{pl:Int}{ev:Value}{ans:List UInt8}{tv:ByteArray}(h:ErrIs a W' c pl ev)(hc:c≤9)(h7:c≠7)(h9:c≠9)(ht:c=0→tv=bt ans):AnsE a W' (if c=0 then ans else errT c) (.returned (.tuple #[.string tv,ev])):=by
 by_cases h0:c=0
 ·rw[if_pos h0]
  exact⟨tv,ev,c,pl,rfl,h,Or.inl ⟨h0,ht h0⟩⟩
 ·rw[if_neg h0]
  exact⟨tv,ev,c,pl,rfl,h,Or.inr ⟨h0,rfl,errTold hc h7 h9⟩⟩
theorem tabFault_told {xs:List ByteArray}{n:Int}{c:Nat}{pl:Int}(h:TabFault xs n c pl):c≠7∧c≠9:=by
 rcases h with⟨_,rfl,_⟩|⟨_,h,_⟩|⟨_,_,h,_⟩
 ·decide
 ·exact isFault_told h
 ·rcases h with⟨_,rfl⟩|⟨m,_,_,_,⟨_,rfl⟩|⟨_,rfl⟩⟩<;>decide
theorem bucketU (a:Nat→Addr)(k n:Nat)(w:World)(he:Errs1 a w) :
  Calls Tryz.prog 44 #[.int .u64 (k:Nat),.int .i64 (n:Nat)] w fun e w'=>∃(nn c:Nat) (ev:Value),e=.returned (.tuple #[.int .i64 (nn:Nat),ev])∧nn≤9223372036854775807∧(ErrIs a w' c (-1) ev∧((¬(1≤n∧n≤1048576)∧c=2)∨((1≤n∧n≤1048576)∧c=0∧nn=jb k n)))∧Below w.heap.size w w':=by
 by_cases h:1≤n∧n≤1048576
 ·refine (bucket_good k n w h.1 h.2).mono fun _ _ ⟨r1,r2⟩=>⟨_,0,_,r1,?_,⟨errIs_nil,Or.inr ⟨h,rfl,rfl⟩⟩,r2⟩
  have:=jb_lt (k:=k) h.1
  omega
 ·exact (bucket_bad a k (n:Int) w he (by omega)).mono fun _ _ ⟨r1,r2⟩=>⟨0,2,_,r1,by decide,⟨Or.inr ⟨1,by decide,rfl,Or.inl ⟨rfl,rfl⟩⟩,Or.inl ⟨h,rfl⟩⟩,r2⟩
theorem cl_jump (w0:World)(a:Nat→Addr)(p q m:Nat)(F:Nat→Prop)(st:Option Sc)(nb cn k n:Nat)(vh:Value)(W:World)(hP:PlC w0 a p q m F W)(hI:PlIs st F p W)(hst:∀S,st=some S→S.hosts≠[])(hvh:∃x n c,vh=.slice x n c)(hk:W.cell? ⟨nb,0,none⟩=some (.int .i64 (k:Nat)))(hk2:W.cell? ⟨nb,1,none⟩=some (.int .i64 (n:Nat)))(hk9:k≤9999999) :
  Calls Tryz.prog 43 #[.agg #[.slice (some ⟨nb,0,none⟩) 2 cn,vh]] W (CmdE w0 a p q m F st ⟨wJump,[],[k,n]⟩ W):=by
 obtain⟨vx,vl,vc,rfl⟩:=hvh
 have hpF:¬F p:=fun h=>(hP.F0 p h).2.1 rfl
 obtain⟨wa,hwa⟩:∃wa,wa=W.alloc (.cells #[.slice (some ⟨nb,0,none⟩) 2 cn,.slice vx vl vc] 83):=⟨_,rfl⟩
 have hba:Below W.heap.size W wa:=by rw[hwa];exact (Below.refl _ _).alloc (Nat.le_refl _) _
 have hPa:=hP.later hba
 have hIa:=hI.later hpF hst hba
 have k0:wa.cell? ⟨W.heap.size,0,none⟩=some (.slice (some ⟨nb,0,none⟩) 2 cn):=by rw[hwa];simp
 have n0:=below_cell hba hk
 have n1:=below_cell hba hk2
 have hbd:Below wa.heap.size wa wa.drew:=below_drewN (Below.refl _ _) 1
 have hwr:IntKind.u64.wrap (k:Int)=(k:Int):=by
  rw[IntKind.wrap_u64]
  omega
 have HC:Hid (∀w',Below wa.heap.size wa w'→w'.cell? ⟨W.heap.size,0,none⟩=some (.slice (some ⟨nb,0,none⟩) 2 cn)∧w'.cell? ⟨nb,0,none⟩=some (.int .i64 (k:Nat))∧w'.cell? ⟨nb,1,none⟩=some (.int .i64 (n:Nat))):=fun w' hb=>⟨below_cell hb k0,below_cell hb n0,below_cell hb n1⟩
 have hcal:∀w',Below wa.heap.size wa w'→Calls Tryz.prog 44 #[.int .u64 (k:Nat),.int .i64 (n:Nat)] w' fun e w''=>∃(nn c:Nat) (ev:Value),e=.returned (.tuple #[.int .i64 (nn:Nat),ev])∧(nn≤9223372036854775807∧ErrIs a w'' c (-1) ev∧((¬(1≤n∧n≤1048576)∧c=2)∨((1≤n∧n≤1048576)∧c=0∧nn=jb k n)))∧Below wa.heap.size wa w'':=fun w' hbl=>(bucketU a k n w' ⟨(hPa.ea.b.e5.later hbl).s1⟩).mono fun _ _ ⟨nn,c,ev,r1,r2,⟨r3,r4⟩,r5⟩=>⟨nn,c,ev,r1,⟨r2,r3,r4⟩,below_then hbl r5⟩
 have hdig:∀w' nn c ev,Below wa.heap.size wa w'→(nn≤9223372036854775807∧ErrIs a w' c (-1) ev∧((¬(1≤n∧n≤1048576)∧c=2)∨((1≤n∧n≤1048576)∧c=0∧nn=jb k n)))→Calls Tryz.prog 36 #[.int .i64 (nn:Nat),ev] w' fun e w''=>∃tv,e=.returned (.tuple #[.string tv,ev])∧CmdE w0 a p q m F st ⟨wJump,[],[k,n]⟩ W (.returned (.tuple #[.string tv,ev])) w''∧Below wa.heap.size wa w'':=fun w' nn c ev hbl ⟨h1,h2,h3⟩=>(digits_any nn h1 ev w' (hPa.ea.c.later hbl)).mono fun _ w'' ⟨r1,r2⟩=>by
  have hb:=below_then hbl r2
  refine⟨_,r1,⟨st,F,if c=0 then decL nn else errT c,Or.inr (Or.inl ⟨rfl,rfl,k,n,rfl,?_⟩),ansE_is (h2.later r2) (by omega) (by omega) (by omega) (fun _=>rfl),hPa.later hb,hIa.later hpF hst hb,fun b h=>Or.inl h,Tur.of_below (below_then hba hb)⟩,hb⟩
  rcases h3 with⟨q1,rfl⟩|⟨q1,rfl,rfl⟩
  ·exact Or.inl ⟨q1,rfl⟩
  ·exact Or.inr ⟨q1,rfl⟩
 clear hP hI hPa hIa hba hk hk2
 go_enter Tryz.func43,Tryz.ntmps43
 go_wp2_with fail
 rw[←hwa]
 clear hwa
 go_region_held3 (fun w'=>w'.cell? ⟨W.heap.size,0,none⟩=some (.slice (some ⟨nb,0,none⟩) 2 cn)∧w'.cell? ⟨nb,0,none⟩=some (.int .i64 (k:Nat))∧w'.cell? ⟨nb,1,none⟩=some (.int .i64 (n:Nat)))
  (first|exact HC.out _ (by assumption))
  (first
   | (go_at_call 44;refine (hcal _ (by assumption)).mono ?_;rintro e w1 ⟨nn,c,ev,rfl,hE1,hb1⟩)
   | (go_at_call 36;refine (hdig _ _ _ _ hb1 hE1).mono ?_;rintro e w2 ⟨tv,rfl,hE2,hb2⟩))
 have HE2:Hid (CmdE w0 a p q m F st ⟨wJump,[],[k,n]⟩ W (.returned (.tuple #[.string tv,ev])) w2):=hE2
 clear hE2 hE1 hcal hdig HC
 go_wp2
 go_ret2
 exact HE2.out
def MovR (xs ys:List ByteArray)(k nn c:Nat):Prop:=∃e1 p1 e2 p2,TabFault xs (k:Nat) e1 p1∧TabFault ys (k:Nat) e2 p2∧((e1≠0∧c=e1)∨(e1=0∧e2≠0∧c=e2)∨(e1=0∧e2=0∧c=0∧nn=mv xs ys k k))
theorem movesU (a:Nat→Addr)(va vb:Value)(xs ys:List ByteArray)(k:Nat)(w:World)(he:Errs5 a w)(hv:Strs1 w va xs)(hv2:Strs1 w vb ys)(hx:∀s∈xs,s.size≤300)(hy:∀s∈ys,s.size≤300)(hxl:xs.length<1000000)(hyl:ys.length<1000000)(hk:k≤9999999) :
  Calls Tryz.prog 37 #[va,vb,.int .i64 (k:Nat)] w fun e w'=>∃(nn c:Nat) (ev:Value),e=.returned (.tuple #[.int .i64 (nn:Nat),ev])∧(nn≤9223372036854775807∧(∃pl,ErrIs a w' c pl ev)∧c≤9∧c≠7∧c≠9∧MovR xs ys k nn c)∧Below w.heap.size w w':=by
 have hx3:∀i (h:i<xs.length),(xs[i]).size≤300:=fun i h=>hx _ (List.getElem_mem h)
 have hy3:∀i (h:i<ys.length),(ys[i]).size≤300:=fun i h=>hy _ (List.getElem_mem h)
 obtain⟨e1,p1,hf1⟩:=tabFault_ex xs (k:Nat)
 obtain⟨e2,p2,hf2⟩:=tabFault_ex ys (k:Nat)
 by_cases he1:e1=0
 ·subst he1
  obtain⟨hp1,h0,hq1,kk,hkk,hpr,h2,h5⟩:=tabFault_zero hf1
  subst hp1
  have hkk':k=kk:=by omega
  subst hkk'
  by_cases he2:e2=0
  ·subst he2
   obtain⟨hp2,h0',hq2,_⟩:=tabFault_zero hf2
   subst hp2
   exact (moves_good5 a va vb xs ys k w he hv hv2 h0 h0' hq1 hq2 hpr h5 hx3 hy3).mono fun _ _ ⟨r1,r2⟩=>⟨_,0,_,r1,⟨by have:=mv_le xs ys k k;omega,⟨-1,errIs_nil⟩,by decide,by decide,by decide,0,-1,0,-1,hf1,hf2,Or.inr (Or.inr ⟨rfl,rfl,rfl,rfl⟩)⟩,r2⟩
  ·exact (moves_bad25 a va vb xs ys k w e2 p2 he hv hv2 h0 hq1 hpr h5 hx3 hf2 he2 (fun i h=>Nat.le_trans (hy3 i h) (by decide)) hyl).mono fun _ _ ⟨ev,r1,r2,r3⟩=>⟨0,e2,ev,r1,⟨by decide,⟨p2,r2⟩,tabFault_le hf2,(tabFault_told hf2).1,(tabFault_told hf2).2,0,-1,e2,p2,hf1,hf2,Or.inr (Or.inl ⟨rfl,he2,rfl⟩)⟩,r3⟩
 ·exact (moves_bad15 a va vb xs k w e1 p1 he hv hf1 he1 (by omega) (fun i h=>Nat.le_trans (hx3 i h) (by decide)) hxl).mono fun _ _ ⟨ev,r1,r2,r3⟩=>⟨0,e1,ev,r1,⟨by decide,⟨p1,r2⟩,tabFault_le hf1,(tabFault_told hf1).1,(tabFault_told hf1).2,e1,p1,e2,p2,hf1,hf2,Or.inl ⟨he1,rfl⟩⟩,r3⟩
theorem askR_moves {xs H:List ByteArray}{k nn c:Nat}(h:MovR xs H k nn c):AskR xs ⟨wMoves,H,[k]⟩ (if c=0 then decL nn else errT c):=by
 obtain⟨e1,p1,e2,p2,h1,h2,h3⟩:=h
 refine Or.inr (Or.inl ⟨rfl,k,e1,p1,e2,p2,rfl,h1,h2,?_⟩)
 rcases h3 with⟨q1,rfl⟩|⟨q1,q2,rfl⟩|⟨q1,q2,rfl,rfl⟩
 ·exact Or.inl ⟨q1,by rw[if_neg q1]⟩
 ·exact Or.inr (Or.inl ⟨q1,q2,by rw[if_neg q2]⟩)
 ·exact Or.inr (Or.inr ⟨q1,q2,by rw[if_pos rfl]⟩)
theorem cl_moves (w0 W:World)(a:Nat→Addr)(p q m:Nat)(F:Nat→Prop)(S:Sc)(r g cap j:Nat)(hP:PlC w0 a p q m F W)(hY:PlY S F p r g cap W)(hS:SB S j)(nb cn hb ch k:Nat)(H:List ByteArray)(hk:W.cell? ⟨nb,0,none⟩=some (.int .i64 (k:Nat)))(hk9:k≤9999999)(hh:∀i (hi:i<H.length),W.cell? ⟨hb,i,none⟩=some (.string H[i]))(hc:H.length≤ch)(hl:H.length<1000000)(hs:∀s∈H,s.size≤300) :
  Calls Tryz.prog 35 #[.agg #[.slice (some ⟨nb,0,none⟩) 1 cn,.slice (some ⟨hb,0,none⟩) H.length ch],.pointer (some ⟨q,0,none⟩)] W (CmdE w0 a p q m F (some S) ⟨wMoves,H,[k]⟩ W):=by
 have hn:=hS.ok.ne
 have hpF:¬F p:=fun h=>(hP.F0 p h).2.1 rfl
 obtain⟨wa,hwa⟩:∃wa,wa=W.alloc (.cells #[.slice (some ⟨nb,0,none⟩) 1 cn,.slice (some ⟨hb,0,none⟩) H.length ch] 83):=⟨_,rfl⟩
 have hba:Below W.heap.size W wa:=by rw[hwa];exact (Below.refl _ _).alloc (Nat.le_refl _) _
 have hPa:=hP.later hba
 have hYa:=hY.later hpF hn hba
 have HBA:Hid (Below W.heap.size W wa):=hba
 have k0:wa.cell? ⟨W.heap.size,0,none⟩=some (.slice (some ⟨nb,0,none⟩) 1 cn):=by rw[hwa];simp
 have k1:wa.cell? ⟨W.heap.size,1,none⟩=some (.slice (some ⟨hb,0,none⟩) H.length ch):=by rw[hwa];simp
 have kq:=hPa.q0
 have c0:=hYa.c0
 have c1:=hYa.c1
 have c2:=hYa.c2
 have hbd:Below wa.heap.size wa wa.drew:=below_drewN (Below.refl _ _) 1
 have hlF:¬F W.heap.size:=fun h=>absurd (hY.rep.lt _ h) (Nat.lt_irrefl _)
 have hqF:¬F q:=fun h=>(hP.F0 q h).2.2.1 rfl
 have nk:=below_cell hba hk
 have hv2:Strs1 wa (.slice (some ⟨hb,0,none⟩) H.length ch) H:=Or.inr ⟨hb,0,ch,rfl,hc,fun i hi=>by rw[Nat.zero_add];exact below_cell hba (hh i hi)⟩
 have hff:=fault_facts hS.ok.f
 have HC:Hid (∀w',Below wa.heap.size wa w'→w'.cell? ⟨q,0,none⟩=some (.pointer (some ⟨p,0,none⟩))∧w'.cell? ⟨p,1,none⟩=some (.slice (some ⟨g,0,none⟩) S.hosts.length cap)∧w'.cell? ⟨W.heap.size,0,none⟩=some (.slice (some ⟨nb,0,none⟩) 1 cn)∧w'.cell? ⟨W.heap.size,1,none⟩=some (.slice (some ⟨hb,0,none⟩) H.length ch)∧w'.cell? ⟨nb,0,none⟩=some (.int .i64 (k:Nat))):=fun w' hB=>⟨below_cell hB kq,below_cell hB c1,below_cell hB k0,below_cell hB k1,below_cell hB nk⟩
 have hcal:∀w',Below wa.heap.size wa w'→Calls Tryz.prog 37 #[.slice (some ⟨g,0,none⟩) S.hosts.length cap,.slice (some ⟨hb,0,none⟩) H.length ch,.int .i64 (k:Nat)] w' fun e w''=>∃(nn c:Nat) (ev:Value),e=.returned (.tuple #[.int .i64 (nn:Nat),ev])∧(nn≤9223372036854775807∧(∃pl,ErrIs a w'' c pl ev)∧c≤9∧c≠7∧c≠9∧MovR S.hosts H k nn c)∧Below wa.heap.size wa w'':=fun w' hbl=>(movesU a _ _ S.hosts H k w' (hPa.ea.b.e5.later hbl) (hYa.strs.later hbl) (hv2.later hbl) hff.2.2.2 hs (by omega) hl hk9).mono fun _ _ ⟨nn,c,ev,r1,r2,r3⟩=>⟨nn,c,ev,r1,r2,below_then hbl r3⟩
 have hdig:∀w' nn c ev,Below wa.heap.size wa w'→(nn≤9223372036854775807∧(∃pl,ErrIs a w' c pl ev)∧c≤9∧c≠7∧c≠9∧MovR S.hosts H k nn c)→Calls Tryz.prog 36 #[.int .i64 (nn:Nat),ev] w' fun e w''=>∃tv,e=.returned (.tuple #[.string tv,ev])∧CmdE w0 a p q m F (some S) ⟨wMoves,H,[k]⟩ W (.returned (.tuple #[.string tv,ev])) w''∧Below wa.heap.size wa w'':=fun w' nn c ev hbl ⟨h1,⟨pl,h2⟩,h3,h4,h5,h6⟩=>(digits_any nn h1 ev w' (hPa.ea.c.later hbl)).mono fun _ w'' ⟨r1,r2⟩=>by
  have hbb:=below_then hbl r2
  obtain⟨z1,z2,z3,z4⟩:=cmd_below hP hY hn (below_then hba hbb)
  exact⟨_,r1,⟨some S,F,if c=0 then decL nn else errT c,Or.inr (Or.inr (Or.inr ⟨show wMoves≠wHosts by decide,show wMoves≠wJump by decide,S,rfl,Or.inr ⟨askR_moves h6,rfl⟩⟩)),ansE_is (h2.later r2) h3 h4 h5 (fun _=>rfl),z1,z2,z3,z4⟩,hbb⟩
 clear hP hY hPa hYa hS hba hk hlF hqF c0 c2 hv2 hh hs hff
 go_enter Tryz.func35,Tryz.ntmps35
 go_wp2_with fail
 rw[←hwa]
 clear hwa
 go_region_held3 (fun w'=>w'.cell? ⟨q,0,none⟩=some (.pointer (some ⟨p,0,none⟩))∧w'.cell? ⟨p,1,none⟩=some (.slice (some ⟨g,0,none⟩) S.hosts.length cap)∧w'.cell? ⟨W.heap.size,0,none⟩=some (.slice (some ⟨nb,0,none⟩) 1 cn)∧w'.cell? ⟨W.heap.size,1,none⟩=some (.slice (some ⟨hb,0,none⟩) H.length ch)∧w'.cell? ⟨nb,0,none⟩=some (.int .i64 (k:Nat)))
  (first|exact HC.out _ (by assumption))
  (first
   | (go_at_call 37;refine (hcal _ (by assumption)).mono ?_;rintro e w1 ⟨nn,c,ev,rfl,hE1,hb1⟩)
   | (go_at_call 36;refine (hdig _ _ _ _ hb1 hE1).mono ?_;rintro e w2 ⟨tv,rfl,hE2,hb2⟩))
 have HE2:Hid (CmdE w0 a p q m F (some S) ⟨wMoves,H,[k]⟩ W (.returned (.tuple #[.string tv,ev])) w2):=hE2
 clear hE2 hE1 hcal hdig HC
 go_wp2
 go_ret2
 exact HE2.out
theorem cl_rival (w0 W:World)(a:Nat→Addr)(p q m:Nat)(F:Nat→Prop)(S:Sc)(r g cap j:Nat)(hP:PlC w0 a p q m F W)(hY:PlY S F p r g cap W)(hS:SB S j)(nb cn k:Nat)(vh:Value)(hk:W.cell? ⟨nb,0,none⟩=some (.int .i64 (k:Nat)))(hk9:k≤9999999)(hvh:∃x n c,vh=.slice x n c) :
  Calls Tryz.prog 40 #[.agg #[.slice (some ⟨nb,0,none⟩) 1 cn,vh],.pointer (some ⟨q,0,none⟩)] W (CmdE w0 a p q m F (some S) ⟨wRival,[],[k]⟩ W):=by
 obtain⟨vx,vl,vc,rfl⟩:=hvh
 have hn:=hS.ok.ne
 have hpF:¬F p:=fun h=>(hP.F0 p h).2.1 rfl
 obtain⟨wa,hwa⟩:∃wa,wa=W.alloc (.cells #[.slice (some ⟨nb,0,none⟩) 1 cn,.slice vx vl vc] 83):=⟨_,rfl⟩
 have hba:Below W.heap.size W wa:=by rw[hwa];exact (Below.refl _ _).alloc (Nat.le_refl _) _
 have hPa:=hP.later hba
 have hYa:=hY.later hpF hn hba
 have HBA:Hid (Below W.heap.size W wa):=hba
 have k0:wa.cell? ⟨W.heap.size,0,none⟩=some (.slice (some ⟨nb,0,none⟩) 1 cn):=by rw[hwa];simp
 have k1:wa.cell? ⟨W.heap.size,1,none⟩=some (.slice vx vl vc):=by rw[hwa];simp
 have kq:=hPa.q0
 have c0:=hYa.c0
 have c1:=hYa.c1
 have c2:=hYa.c2
 have hbd:Below wa.heap.size wa wa.drew:=below_drewN (Below.refl _ _) 1
 have hlF:¬F W.heap.size:=fun h=>absurd (hY.rep.lt _ h) (Nat.lt_irrefl _)
 have hqF:¬F q:=fun h=>(hP.F0 q h).2.2.1 rfl
 have nk:=below_cell hba hk
 have hwr:IntKind.u64.wrap (k:Int)=(k:Int):=by
  rw[IntKind.wrap_u64]
  omega
 have hff:=fault_facts hS.ok.f
 have h0:=List.length_pos_iff.2 hn
 have HC:Hid (∀w',Below wa.heap.size wa w'→w'.cell? ⟨q,0,none⟩=some (.pointer (some ⟨p,0,none⟩))∧w'.cell? ⟨p,1,none⟩=some (.slice (some ⟨g,0,none⟩) S.hosts.length cap)∧w'.cell? ⟨W.heap.size,0,none⟩=some (.slice (some ⟨nb,0,none⟩) 1 cn)∧w'.cell? ⟨nb,0,none⟩=some (.int .i64 (k:Nat))):=fun w' hB=>⟨below_cell hB kq,below_cell hB c1,below_cell hB k0,below_cell hB nk⟩
 have hcal:∀w',Below wa.heap.size wa w'→Calls Tryz.prog 41 #[.slice (some ⟨g,0,none⟩) S.hosts.length cap,.int .u64 (k:Nat)] w' fun e w''=>∃v',e=.returned (.tuple #[v',.nilIface])∧Strs1 w'' v' (order (score k) S.hosts)∧Below wa.heap.size wa w'':=fun w' hbl=>(order_good a _ S.hosts k (by omega) w' (hPa.ea.e4.later hbl) (hYa.strs.later hbl) h0 hS.ok.f (fun i h=>hff.2.2.2 _ (List.getElem_mem h)) (by omega)).mono fun _ _ ⟨v',r1,r2,r3⟩=>⟨v',r1,r2,below_then hbl r3⟩
 have HJ:Hid (∀w' v,Below wa.heap.size wa w'→Strs1 w' v (order (score k) S.hosts)→Calls Tryz.prog 42 #[v,.string ⟨#[32]⟩] w' fun e w''=>∃tv,e=.returned (.string tv)∧CmdE w0 a p q m F (some S) ⟨wRival,[],[k]⟩ W (.returned (.tuple #[.string tv,.nilIface])) w''):=fun w' v hbl hv=>(joinT_any v _ ⟨#[32]⟩ w' hv (by rw[order_length];omega) (fun s hs=>Nat.le_trans (hff.2.2.2 s ((order_perm _ _).mem_iff.1 hs)) (by decide)) (by decide)).mono fun _ w'' ⟨r1,r2⟩=>by
  obtain⟨z1,z2,z3,z4⟩:=cmd_below hP hY hn (below_then hba (below_then hbl r2))
  refine⟨_,r1,some S,F,_,Or.inr (Or.inr (Or.inr ⟨show wRival≠wHosts by decide,show wRival≠wJump by decide,S,rfl,Or.inr ⟨Or.inr (Or.inr (Or.inr ⟨rfl,k,rfl,rfl⟩)),rfl⟩⟩)),ansE_ok ?_,z1,z2,z3,z4⟩
  rw[joinL_joinS]
  rfl
 generalize order (score k) S.hosts=os at *
 clear hP hY hPa hYa hS hba hk hlF hqF c0 c2 hff
 go_enter Tryz.func40,Tryz.ntmps40
 go_wp2_with fail
 rw[←hwa]
 clear hwa
 go_region_held3 (fun w'=>w'.cell? ⟨q,0,none⟩=some (.pointer (some ⟨p,0,none⟩))∧w'.cell? ⟨p,1,none⟩=some (.slice (some ⟨g,0,none⟩) S.hosts.length cap)∧w'.cell? ⟨W.heap.size,0,none⟩=some (.slice (some ⟨nb,0,none⟩) 1 cn)∧w'.cell? ⟨nb,0,none⟩=some (.int .i64 (k:Nat)))
  (first|exact HC.out _ (by assumption))
  (first
   | (go_at_call 41;refine (hcal _ (by assumption)).mono ?_;rintro e w1 ⟨v,rfl,hv,hb1⟩))
 have hj:=HJ.out w1 v hb1 hv
 clear hcal HC HJ hv hb1
 go_wp2_with fail
 refine hj.mono ?_
 rintro e w2 ⟨tv,rfl,hE⟩
 have HE:Hid (CmdE w0 a p q m F (some S) ⟨wRival,[],[k]⟩ W (.returned (.tuple #[.string tv,.nilIface])) w2):=hE
 clear hj hE
 go_wp2
 go_ret2
 exact HE.out
def TxtRow (w:World)(g:Nat)(xs:List ByteArray):Prop:=w.heap[g]?=some (.cells (xs.map Value.string).toArray 9 (0,0))
section
variable {w w':World} {g:Nat} {xs:List ByteArray}
theorem TxtRow.cell (h:TxtRow w g xs){k:Nat}(hk:k<xs.length):w.cell? ⟨g,k,none⟩=some (.string xs[k]):=by
 rw[cell_of_row w g k _ _ _ h]
 simp[hk]
theorem TxtRow.frozen (h:TxtRow w g xs)(k:Nat):w.frozen? ⟨g,k,none⟩=false:=frozen_of_row w g k _ _ h
theorem TxtRow.set (h:TxtRow w g xs)(k:Nat)(v:ByteArray):TxtRow (w.setCell ⟨g,k,none⟩ (.string v)) g (xs.set k v):=by
 have:=heap_setCell_same w g k _ _ (.string v) h
 unfold TxtRow
 rw[this]
 simp[List.map_set]
theorem TxtRow.same (h:TxtRow w g xs)(he:w'.heap[g]?=w.heap[g]?):TxtRow w' g xs:=by
 unfold TxtRow
 rw[he]
 exact h
theorem TxtRow.lt (h:TxtRow w g xs):g<w.heap.size:=(Array.getElem?_eq_some_iff.1 h).1
theorem TxtRow.strs (h:TxtRow w g xs):Strs1 w (.slice (some ⟨g,0,none⟩) xs.length xs.length) xs:=Or.inr ⟨g,0,xs.length,rfl,Nat.le_refl _,fun k hk=>by rw[Nat.zero_add];exact h.cell hk⟩
theorem TxtRow.of_owns {base n:Nat}(h:w.ownsRow base 9 1 (.slice (some ⟨g,0,none⟩) n n) n (xs.map Value.string)):TxtRow w g xs:=by
 rcases h.2 with⟨h',_⟩|⟨g',cap',cur,h',_,hg,_,_,hcs,ht⟩
 ·simp at h'
 ·simp only[Value.slice.injEq,Option.some.injEq,Addr.mk.injEq,and_true,true_and] at h'
  obtain⟨rfl,rfl⟩:=h'
  unfold TxtRow
  rw[hg,←ht,List.take_of_length_le (by simp;omega)]
end
theorem made_texts (n:Nat):(madeCells #[Value.string ByteArray.empty] n).toList=(List.replicate n ByteArray.empty).map Value.string:=by
 rw[toList_madeCells_one]
 simp
theorem fill_set {xs:List ByteArray}{k n:Nat}(hk:k<xs.length)(hn:xs.length=n):(xs.take k++List.replicate (n - k) ByteArray.empty).set k xs[k]=xs.take (k+1)++List.replicate (n - (k+1)) ByteArray.empty:=by
 have h1:n - k=(n - (k+1))+1:=by omega
 rw[h1,List.replicate_succ,List.set_append_right _ _ (by simp;omega),List.length_take,Nat.min_eq_left (by omega),Nat.sub_self,List.set_cons_zero,List.take_succ_eq_append_getElem hk,List.append_assoc]
 rfl
theorem ringP_any (a:Nat→Addr)(p:Nat)(xs:List ByteArray)(g cap k z:Nat)(W:World)(he:Errs4 a W)(c1:W.cell? ⟨p,1,none⟩=some (.slice (some ⟨g,0,none⟩) xs.length cap))(hv:Strs1 W (.slice (some ⟨g,0,none⟩) xs.length cap) xs)(h0:0<xs.length)(hf:IsFault xs 0 (-1)) :
  Calls Tryz.prog 39 #[.pointer (some ⟨p,0,none⟩),.int .i64 (k:Nat),.int .u64 (z:Nat)] W fun e W'=>∃(tv:ByteArray) (ev:Value),e=.returned (.tuple #[.string tv,ev])∧Below W.heap.size W W'∧((¬(1≤k∧k≤16)∧ErrIs a W' 2 (-1) ev)∨((1≤k∧k≤16)∧ev=.nilIface∧∃P,IsRing k xs P∧(hostsF (turn z) P)[0]?=some tv)):=by
 have hff:=fault_facts hf
 by_cases hk:1≤k∧k≤16
 ·have hnew:=new_good a _ xs k W he hv h0 hf (fun i h=>hff.2.2.2 _ (List.getElem_mem h)) hk.1 hk.2
  have HK:Hid (1≤k∧k≤16):=hk
  have HF:Hid (xs.length≤12):=hff.1
  clear he hv hff hf hk
  go_enter Tryz.func39,Tryz.ntmps39
  go_wp2_with fail
  refine hnew.mono ?_
  rintro e w1 ⟨rb,blk,cp,P,rfl,hR,hI,hb1⟩
  obtain⟨p0,pl⟩:=ring_pos hI h0 HF.out HK.out.1 HK.out.2
  have hho:=host_any rb blk cp P z w1 hR hI.2 pl p0
  have HI:Hid (IsRing k xs P):=hI
  have HB:Hid (Below W.heap.size W w1):=hb1
  clear hnew hR hI hb1 p0 pl
  go_wp2_with fail
  refine hho.mono ?_
  rintro e w2 ⟨s,rfl,hs,hb2⟩
  have HS:Hid ((hostsF (turn z) P)[0]?=some s):=hs
  clear hho hs
  go_wp2
  go_ret2
  exact⟨s,_,rfl,below_then HB.out hb2,Or.inr ⟨HK.out,rfl,P,HI.out,HS.out⟩⟩
 ·have hnew:=new_bad a _ xs (k:Int) W 2 (-1) he hv (Or.inr (Or.inr ⟨h0,hf,Or.inl ⟨by omega,rfl⟩,rfl⟩)) (by decide) (fun i h=>Nat.le_trans (hff.2.2.2 _ (List.getElem_mem h)) (by decide)) (by omega)
  have HK:Hid (¬(1≤k∧k≤16)):=hk
  clear he hv hff hf hk
  go_enter Tryz.func39,Tryz.ntmps39
  go_wp2_with fail
  refine hnew.mono ?_
  rintro e w1 ⟨ev,rfl,hev,hb1⟩
  have HEV:Hid (ErrIs a w1 2 (-1) ev):=hev
  obtain⟨t,x,rfl⟩:=errPos hev (by decide)
  clear hnew hev
  go_wp2
  go_ret2
  exact⟨_,_,rfl,hb1,Or.inl ⟨HK.out,HEV.out⟩⟩
theorem cl_ring (w0 W:World)(a:Nat→Addr)(p q m:Nat)(F:Nat→Prop)(S:Sc)(r g cap j:Nat)(hP:PlC w0 a p q m F W)(hY:PlY S F p r g cap W)(hS:SB S j)(nb cn k z:Nat)(vh:Value)(hk:W.cell? ⟨nb,0,none⟩=some (.int .i64 (k:Nat)))(hk2:W.cell? ⟨nb,1,none⟩=some (.int .i64 (z:Nat)))(hz9:z≤9999999)(hvh:∃x n c,vh=.slice x n c) :
  Calls Tryz.prog 38 #[.agg #[.slice (some ⟨nb,0,none⟩) 2 cn,vh],.pointer (some ⟨q,0,none⟩)] W (CmdE w0 a p q m F (some S) ⟨wRing,[],[k,z]⟩ W):=by
 obtain⟨vx,vl,vc,rfl⟩:=hvh
 have hn:=hS.ok.ne
 have hpF:¬F p:=fun h=>(hP.F0 p h).2.1 rfl
 obtain⟨wa,hwa⟩:∃wa,wa=W.alloc (.cells #[.slice (some ⟨nb,0,none⟩) 2 cn,.slice vx vl vc] 83):=⟨_,rfl⟩
 have hba:Below W.heap.size W wa:=by rw[hwa];exact (Below.refl _ _).alloc (Nat.le_refl _) _
 have hPa:=hP.later hba
 have hYa:=hY.later hpF hn hba
 have HBA:Hid (Below W.heap.size W wa):=hba
 have k0:wa.cell? ⟨W.heap.size,0,none⟩=some (.slice (some ⟨nb,0,none⟩) 2 cn):=by rw[hwa];simp
 have k1:wa.cell? ⟨W.heap.size,1,none⟩=some (.slice vx vl vc):=by rw[hwa];simp
 have kq:=hPa.q0
 have c0:=hYa.c0
 have c1:=hYa.c1
 have c2:=hYa.c2
 have hbd:Below wa.heap.size wa wa.drew:=below_drewN (Below.refl _ _) 1
 have hlF:¬F W.heap.size:=fun h=>absurd (hY.rep.lt _ h) (Nat.lt_irrefl _)
 have hqF:¬F q:=fun h=>(hP.F0 q h).2.2.1 rfl
 have nk:=below_cell hba hk
 have nz:=below_cell hba hk2
 have hwr:IntKind.u64.wrap (z:Int)=(z:Int):=by
  rw[IntKind.wrap_u64]
  omega
 have HC:Hid (∀w',Below wa.heap.size wa w'→w'.cell? ⟨q,0,none⟩=some (.pointer (some ⟨p,0,none⟩))∧w'.cell? ⟨W.heap.size,0,none⟩=some (.slice (some ⟨nb,0,none⟩) 2 cn)∧w'.cell? ⟨nb,0,none⟩=some (.int .i64 (k:Nat))∧w'.cell? ⟨nb,1,none⟩=some (.int .i64 (z:Nat))):=fun w' hB=>⟨below_cell hB kq,below_cell hB k0,below_cell hB nk,below_cell hB nz⟩
 have hcal:∀w',Below wa.heap.size wa w'→Calls Tryz.prog 39 #[.pointer (some ⟨p,0,none⟩),.int .i64 (k:Nat),.int .u64 (z:Nat)] w' fun e w''=>∃(tv:ByteArray) (ev:Value),e=.returned (.tuple #[.string tv,ev])∧CmdE w0 a p q m F (some S) ⟨wRing,[],[k,z]⟩ W (.returned (.tuple #[.string tv,ev])) w''∧Below wa.heap.size wa w'':=fun w' hbl=>(ringP_any a p S.hosts g cap k z w' (hPa.ea.e4.later hbl) (below_cell hbl c1) (hYa.strs.later hbl) (List.length_pos_iff.2 hn) hS.ok.f).mono fun _ w'' ⟨tv,ev,r1,r2,r3⟩=>by
  have hbb:=below_then hbl r2
  obtain⟨z1,z2,z3,z4⟩:=cmd_below hP hY hn (below_then hba hbb)
  rcases r3 with⟨q1,q2⟩|⟨q1,rfl,P,q2,q3⟩
  ·exact⟨tv,ev,r1,⟨some S,F,_,Or.inr (Or.inr (Or.inr ⟨show wRing≠wHosts by decide,show wRing≠wJump by decide,S,rfl,Or.inr ⟨Or.inr (Or.inr (Or.inl ⟨rfl,k,z,rfl,Or.inl ⟨q1,rfl⟩⟩)),rfl⟩⟩)),ansE_err q2 (by decide) (errTold (by decide) (by decide) (by decide)),z1,z2,z3,z4⟩,hbb⟩
  ·exact⟨tv,_,r1,⟨some S,F,tx tv,Or.inr (Or.inr (Or.inr ⟨show wRing≠wHosts by decide,show wRing≠wJump by decide,S,rfl,Or.inr ⟨Or.inr (Or.inr (Or.inl ⟨rfl,k,z,rfl,Or.inr ⟨q1,P,tv,q2,q3,rfl⟩⟩)),rfl⟩⟩)),ansE_ok (bt_back tv).symm,z1,z2,z3,z4⟩,hbb⟩
 clear hP hY hPa hYa hS hba hk hk2 hlF hqF c0 c1 c2
 go_enter Tryz.func38,Tryz.ntmps38
 go_wp2_with fail
 rw[←hwa]
 clear hwa
 go_region_held3 (fun w'=>w'.cell? ⟨q,0,none⟩=some (.pointer (some ⟨p,0,none⟩))∧w'.cell? ⟨W.heap.size,0,none⟩=some (.slice (some ⟨nb,0,none⟩) 2 cn)∧w'.cell? ⟨nb,0,none⟩=some (.int .i64 (k:Nat))∧w'.cell? ⟨nb,1,none⟩=some (.int .i64 (z:Nat)))
  (first|exact HC.out _ (by assumption))
  (first
   | (go_at_call 39;refine (hcal _ (by assumption)).mono ?_;rintro e w1 ⟨tv,ev,rfl,hE1,hb1⟩))
 have HE1:Hid (CmdE w0 a p q m F (some S) ⟨wRing,[],[k,z]⟩ W (.returned (.tuple #[.string tv,ev])) w1):=hE1
 clear hE1 hcal HC
 go_wp2
 go_ret2
 exact HE1.out
theorem tableP_bad (a:Nat→Addr)(p:Nat)(xs:List ByteArray)(g cap k:Nat)(W:World)(he:Errs5 a W)(c1:W.cell? ⟨p,1,none⟩=some (.slice (some ⟨g,0,none⟩) xs.length cap))(hv:Strs1 W (.slice (some ⟨g,0,none⟩) xs.length cap) xs)(hs:∀s∈xs,s.size≤300)(hl:xs.length≤12)(hk:k≤9999999)(c:Nat)(pl:Int)(hf:TabFault xs (k:Nat) c pl)(hc:c≠0) :
  Calls Tryz.prog 34 #[.pointer (some ⟨p,0,none⟩),.int .i64 (k:Nat)] W fun e W'=>∃(tv:ByteArray) (ev:Value),e=.returned (.tuple #[.string tv,ev])∧Below W.heap.size W W'∧ErrIs a W' c pl ev:=by
 have hnew:=make_bad5 a _ xs (k:Int) W c pl he hv hf hc (by omega) (fun i h=>Nat.le_trans (hs _ (List.getElem_mem h)) (by decide)) (by omega)
 clear he hv hs hf
 go_enter Tryz.func34,Tryz.ntmps34
 go_wp2_with fail
 refine hnew.mono ?_
 rintro e w1 ⟨ev,rfl,hev,hb1⟩
 have HEV:Hid (ErrIs a w1 c pl ev):=hev
 obtain⟨t,x,rfl⟩:=errPos hev hc
 clear hnew hev
 go_wp2
 go_ret2
 exact⟨_,_,rfl,hb1,HEV.out⟩
theorem tableP_good (a:Nat→Addr)(p:Nat)(xs:List ByteArray)(g cap n:Nat)(W:World)(he:Errs5 a W)(c1:W.cell? ⟨p,1,none⟩=some (.slice (some ⟨g,0,none⟩) xs.length cap))(hx:∀i (h:i<xs.length),W.cell? ⟨g,i,none⟩=some (.string xs[i]))(hcap:xs.length≤cap)(h0:0<xs.length)(hf:IsFault xs 0 (-1))(hpr:Prm n)(h5:n≤503) :
  Calls Tryz.prog 34 #[.pointer (some ⟨p,0,none⟩),.int .i64 (n:Nat)] W fun e W'=>e=.returned (.tuple #[.string (bt (joinL 32 ((tab xs n n).map fun i=>tx (nameAt xs i.toNat)))),.nilIface])∧Below W.heap.size W W':=by
 have hff:=fault_facts hf
 have hv:Strs1 W (.slice (some ⟨g,0,none⟩) xs.length cap) xs:=Or.inr ⟨g,0,cap,rfl,hcap,fun k hk=>by rw[Nat.zero_add];exact hx k hk⟩
 have hnew:=make_good5 a _ xs n W he hv h0 hf (fun i h=>hff.2.2.2 _ (List.getElem_mem h)) hpr h5
 obtain⟨i0,hi0,hz0,hz1,hz2⟩:=info_parts infoS
 have hbyt:i0.bytes*n≤281474976710656:=by rw[hz2];omega
 have hmax:n≤maxLen:=by unfold maxLen;omega
 have HTX:Hid (joinL 32 ((tab xs n n).map fun i=>tx (nameAt xs i.toNat))=joinS (tx ⟨#[32]⟩) ((slotsT xs n).map tx)):=by
  show _=_
  rw[slotsT_tx,joinL_joinS]
  rfl
 have HSL:Hid (∀k,k<n→∃j,∃hj:j<xs.length,∀w' g',IntRow w' g' (tab xs n n)→w'.cell? ⟨g',k,none⟩=some (.int .i64 (j:Nat))∧∀h:k<(slotsT xs n).length,(slotsT xs n)[k]=xs[j]):=fun k hk=>by
  obtain⟨j,hj,e⟩:=tab_full hpr h0 hk
  refine⟨j,hj,fun w' g' hr=>⟨?_,fun h=>slotsT_get h hj e⟩⟩
  have hkl:k<(tab xs n n).length:=by rw[tab_length];exact hk
  have:=hr.cell (k:=k) hkl
  rw[List.getD_eq_getElem?_getD,List.getElem?_eq_getElem hkl,Option.getD_some] at e
  rw[this,e]
 have HSZ:Hid (∀s∈slotsT xs n,s.size≤1000):=fun s hs=>by
  unfold slotsT at hs
  obtain⟨i,hi,rfl⟩:=List.mem_map.1 hs
  obtain⟨k,hk,rfl⟩:=List.mem_iff_getElem.1 hi
  rw[tab_length] at hk
  obtain⟨j,hj,e⟩:=tab_full hpr h0 hk
  have hkl:k<(tab xs n n).length:=by rw[tab_length];exact hk
  rw[List.getD_eq_getElem?_getD,List.getElem?_eq_getElem hkl,Option.getD_some] at e
  rw[e]
  show (nameAt xs ((j:Int).toNat)).size≤1000
  rw[Int.toNat_natCast,nameAt_lt hj]
  have:=hff.2.2.2 _ (List.getElem_mem hj)
  omega
 have HLN:Hid ((slotsT xs n).length=n):=slotsT_len xs n
 have HX:Hid (∀i (h:i<xs.length),W.cell? ⟨g,i,none⟩=some (.string xs[i])):=hx
 have hgl:g<W.heap.size:=World.block_lt_of_cell? W _ (hx 0 h0)
 have hpl:p<W.heap.size:=World.block_lt_of_cell? W _ c1
 have HT:Hid (∃T,T=tab xs n n):=⟨_,rfl⟩
 generalize joinL 32 ((tab xs n n).map fun i=>tx (nameAt xs i.toNat))=ans at *
 generalize slotsT xs n=sl at *
 clear he hv hff hf hpr hx HT
 go_enter Tryz.func34,Tryz.ntmps34
 go_wp2_with fail
 refine hnew.mono ?_
 rintro e w1 ⟨tg,rfl,htg,hrow,hb1⟩
 have HB1:Hid (Below W.heap.size W w1):=hb1
 have HROW:Hid (IntRow w1 tg (tab xs n n)):=hrow
 have htl:=hrow.lt
 generalize tab xs n n=T at *
 clear hnew hrow hb1
 go_wp2_with (at_make;refine wpList_make_full _ rfl _ _ 22 rfl w1.heap.size 9 i0 _ 1 Tryz.underlying22 hi0 hz0 hz1 _ _ _ _ n rfl rfl rfl rfl hbyt hmax (Nat.le_refl _) ?_)
 intro w2 hown hgrow
 rw[made_texts] at hown
 have hb2:Below w1.heap.size w1 w2:=below_grown hgrow (fun k h=>by cases h)
 have hrow0:=TxtRow.of_owns hown
 have HR0:Hid (TxtRow w2 w1.heap.size (sl.take 0++List.replicate (n - 0) ByteArray.empty)):=by
  show TxtRow _ _ _
  rw[List.take_zero,List.nil_append,Nat.sub_zero]
  exact hrow0
 have HB2:Hid (Below w1.heap.size w1 w2):=hb2
 have s1:=HB1.out.size
 have hgn:g≠w1.heap.size:=by omega
 have hpn:p≠w1.heap.size:=by omega
 have htn:tg≠w1.heap.size:=by omega
 obtain⟨ng,hng⟩:∃ng,ng=w1.heap.size:=⟨_,rfl⟩
 rw[←hng] at HR0 hgn hpn htn
 rw[←hng]
 have HNG:Hid (ng=w1.heap.size):=hng
 clear hown hgrow hrow0 hb2 hng
 go_wp2_with fail
 go_loopw [9,10,28] (fun _ _ u28 w'=>Tur (fun b=>b=ng) w2 w'∧∃k:Nat,k≤n∧u28=.int .i64 (k:Nat)∧TxtRow w' ng (sl.take k++List.replicate (n - k) ByteArray.empty)) (fun _ _ u28 _=>n - (intOf u28).toNat)
 case atStart=>exact⟨Tur.of_below (Below.refl _ _),0,Nat.zero_le _,rfl,HR0.out⟩
 case round =>
  obtain⟨hT,k,hkn,rfl,hR⟩:=hrel
  obtain⟨wo,hwo⟩:∃wo,wo=wr:=⟨_,rfl⟩
  subst hwo
  have HT:Hid (Tur (fun b=>b=ng) w2 wo):=hT
  have HR:Hid (TxtRow wo ng (sl.take k++List.replicate (n - k) ByteArray.empty)):=hR
  by_cases hk:k<n
  ·obtain⟨j,hj,hcj⟩:=HSL.out k hk
   obtain⟨hc1,hc2⟩:=hcj w1 tg HROW.out
   have hks:k<sl.length:=by rw[HLN.out];exact hk
   have hjx:=hc2 hks
   have ct:wo.cell? ⟨tg,k,none⟩=some (.int .i64 (j:Nat)):=foot_cellS hT htn (below_cell HB2.out hc1)
   have cx:wo.cell? ⟨g,j,none⟩=some (.string (sl[k]'hks)):=by
    rw[hjx]
    exact foot_cellS hT hgn (below_cell HB2.out (below_cell HB1.out (HX.out j hj)))
   have cp:wo.cell? ⟨p,1,none⟩=some (.slice (some ⟨g,0,none⟩) xs.length cap):=foot_cellS hT hpn (below_cell HB2.out (below_cell HB1.out c1))
   have hlr:k<(sl.take k++List.replicate (n - k) ByteArray.empty).length:=by
    rw[List.length_append,List.length_take,List.length_replicate,HLN.out]
    omega
   obtain⟨y,cn⟩:∃y,wo.cell? ⟨ng,k,none⟩=some (.string y):=⟨_,hR.cell hlr⟩
   have fn:=hR.frozen k
   have hset:=hR.set k (sl[k]'hks)
   rw[fill_set hks HLN.out] at hset
   have hki:(k:Int)<(n:Int):=by omega
   have hji:(j:Int)<(xs.length:Int):=by omega
   have HT2:Hid (Tur (fun b=>b=ng) w2 (wo.setCell ⟨ng,k,none⟩ (.string (sl[k]'hks)))):=hT.trans (tur_setP _ ng k _) fun b hb=>Or.inl hb
   generalize sl[k]'hks=x at *
   have HSET:Hid (TxtRow (wo.setCell ⟨ng,k,none⟩ (.string x)) ng (sl.take (k+1)++List.replicate (n - (k+1)) ByteArray.empty)):=hset
   clear hset hR hT hcj hc1 hc2 hjx hlr
   go_wp2_with fail
   exact⟨⟨HT2.out,k+1,by omega,by go_num,HSET.out⟩,by simp[intOf];omega⟩
  ·obtain rfl:k=n:=by omega
   have hst:Strs1 wo (.slice (some ⟨ng,0,none⟩) k k) sl:=by
    have h1:=hR
    rw[Nat.sub_self,List.replicate_zero,List.append_nil,List.take_of_length_le (by rw[HLN.out];exact Nat.le_refl _)] at h1
    have h2:=h1.strs
    rw[HLN.out] at h2
    exact h2
   have hj:=joinT_any _ sl ⟨#[32]⟩ wo hst (by rw[HLN.out];omega) HSZ.out (by decide)
   rw[←HTX.out] at hj
   have HBW:Hid (Below W.heap.size W wo):=by
    show Below _ _ _
    have h1:=below_then HB1.out HB2.out
    exact hT.below (fun b hb=>by have e:b=ng:=hb;have e2:=HNG.out;omega) h1 (Nat.le_refl _)
   clear hR hT hst
   go_wp2_with fail
   refine hj.mono ?_
   rintro e w5 ⟨rfl,hb5⟩
   clear hj
   go_wp2
   go_ret2
   exact⟨rfl,below_then HBW.out hb5⟩
theorem cl_table (w0 W:World)(a:Nat→Addr)(p q m:Nat)(F:Nat→Prop)(S:Sc)(r g cap j:Nat)(hP:PlC w0 a p q m F W)(hY:PlY S F p r g cap W)(hS:SB S j)(nb cn k:Nat)(vh:Value)(hk:W.cell? ⟨nb,0,none⟩=some (.int .i64 (k:Nat)))(hk9:k≤9999999)(hvh:∃x n c,vh=.slice x n c) :
  Calls Tryz.prog 33 #[.agg #[.slice (some ⟨nb,0,none⟩) 1 cn,vh],.pointer (some ⟨q,0,none⟩)] W (CmdE w0 a p q m F (some S) ⟨wTable,[],[k]⟩ W):=by
 obtain⟨vx,vl,vc,rfl⟩:=hvh
 have hn:=hS.ok.ne
 have hpF:¬F p:=fun h=>(hP.F0 p h).2.1 rfl
 obtain⟨wa,hwa⟩:∃wa,wa=W.alloc (.cells #[.slice (some ⟨nb,0,none⟩) 1 cn,.slice vx vl vc] 83):=⟨_,rfl⟩
 have hba:Below W.heap.size W wa:=by rw[hwa];exact (Below.refl _ _).alloc (Nat.le_refl _) _
 have hPa:=hP.later hba
 have hYa:=hY.later hpF hn hba
 have HBA:Hid (Below W.heap.size W wa):=hba
 have k0:wa.cell? ⟨W.heap.size,0,none⟩=some (.slice (some ⟨nb,0,none⟩) 1 cn):=by rw[hwa];simp
 have k1:wa.cell? ⟨W.heap.size,1,none⟩=some (.slice vx vl vc):=by rw[hwa];simp
 have kq:=hPa.q0
 have c0:=hYa.c0
 have c1:=hYa.c1
 have c2:=hYa.c2
 have hbd:Below wa.heap.size wa wa.drew:=below_drewN (Below.refl _ _) 1
 have hlF:¬F W.heap.size:=fun h=>absurd (hY.rep.lt _ h) (Nat.lt_irrefl _)
 have hqF:¬F q:=fun h=>(hP.F0 q h).2.2.1 rfl
 have nk:=below_cell hba hk
 have hff:=fault_facts hS.ok.f
 have HC:Hid (∀w',Below wa.heap.size wa w'→w'.cell? ⟨q,0,none⟩=some (.pointer (some ⟨p,0,none⟩))∧w'.cell? ⟨W.heap.size,0,none⟩=some (.slice (some ⟨nb,0,none⟩) 1 cn)∧w'.cell? ⟨nb,0,none⟩=some (.int .i64 (k:Nat))):=fun w' hB=>⟨below_cell hB kq,below_cell hB k0,below_cell hB nk⟩
 have hcal:∀w',Below wa.heap.size wa w'→Calls Tryz.prog 34 #[.pointer (some ⟨p,0,none⟩),.int .i64 (k:Nat)] w' fun e w''=>∃(tv:ByteArray) (ev:Value),e=.returned (.tuple #[.string tv,ev])∧CmdE w0 a p q m F (some S) ⟨wTable,[],[k]⟩ W (.returned (.tuple #[.string tv,ev])) w''∧Below wa.heap.size wa w'':=fun w' hbl=>by
  obtain⟨c,pl,hf⟩:=tabFault_ex S.hosts (k:Nat)
  by_cases hc:c=0
  ·subst hc
   obtain⟨hp1,h0,hq1,kk,hkk,hpr,h2,h5⟩:=tabFault_zero hf
   subst hp1
   have hkk':k=kk:=by omega
   subst hkk'
   refine (tableP_good a p S.hosts g cap k w' (hPa.ea.b.e5.later hbl) (below_cell hbl c1) (fun i h=>below_cell hbl (hYa.hst i h)) hYa.cp h0 hq1 hpr h5).mono fun _ w'' ⟨r1,r2⟩=>?_
   have hbb:=below_then hbl r2
   obtain⟨z1,z2,z3,z4⟩:=cmd_below hP hY hn (below_then hba hbb)
   exact⟨_,_,r1,⟨some S,F,_,Or.inr (Or.inr (Or.inr ⟨show wTable≠wHosts by decide,show wTable≠wJump by decide,S,rfl,Or.inr ⟨Or.inl ⟨rfl,k,0,-1,rfl,hf,Or.inr ⟨rfl,rfl⟩⟩,rfl⟩⟩)),ansE_ok rfl,z1,z2,z3,z4⟩,hbb⟩
  ·refine (tableP_bad a p S.hosts g cap k w' (hPa.ea.b.e5.later hbl) (below_cell hbl c1) (hYa.strs.later hbl) hff.2.2.2 hff.1 hk9 c pl hf hc).mono fun _ w'' ⟨tv,ev,r1,r2,r3⟩=>?_
   have hbb:=below_then hbl r2
   obtain⟨z1,z2,z3,z4⟩:=cmd_below hP hY hn (below_then hba hbb)
   obtain⟨y7,y9⟩:=tabFault_told hf
   exact⟨tv,ev,r1,⟨some S,F,_,Or.inr (Or.inr (Or.inr ⟨show wTable≠wHosts by decide,show wTable≠wJump by decide,S,rfl,Or.inr ⟨Or.inl ⟨rfl,k,c,pl,rfl,hf,Or.inl ⟨hc,rfl⟩⟩,rfl⟩⟩)),ansE_err r3 hc (errTold (tabFault_le hf) y7 y9),z1,z2,z3,z4⟩,hbb⟩
 clear hP hY hPa hYa hS hba hk hlF hqF c0 c1 c2 hff
 go_enter Tryz.func33,Tryz.ntmps33
 go_wp2_with fail
 rw[←hwa]
 clear hwa
 go_region_held3 (fun w'=>w'.cell? ⟨q,0,none⟩=some (.pointer (some ⟨p,0,none⟩))∧w'.cell? ⟨W.heap.size,0,none⟩=some (.slice (some ⟨nb,0,none⟩) 1 cn)∧w'.cell? ⟨nb,0,none⟩=some (.int .i64 (k:Nat)))
  (first|exact HC.out _ (by assumption))
  (first
   | (go_at_call 34;refine (hcal _ (by assumption)).mono ?_;rintro e w1 ⟨tv,ev,rfl,hE1,hb1⟩))
 have HE1:Hid (CmdE w0 a p q m F (some S) ⟨wTable,[],[k]⟩ W (.returned (.tuple #[.string tv,ev])) w1):=hE1
 clear hE1 hcal HC
 go_wp2
 go_ret2
 exact HE1.out
end Go.Proofs.YtfhmfjcpggddkaaGreatDoor
namespace Go.Proofs.YtfhmfjcpggddkaaGreatDoor
open Go.RowKit Go.Sort Go.Shelf
theorem ifmtU_any {a:Nat→Addr}(u:Nat)(hu64:u<18446744073709551616)(w:World)(he:EC a w) :
  Calls Tryz.prog 162 #[.int .u64 (u:Nat),.int .i64 10] w fun e w'=>e=.returned (.string (Lh.bt (Lh.decL u)))∧Below w.heap.size w w':=by
 have hdec:Lh.decL u=Lib.decDigits u:=(Lh.decL_lib u).symm
 by_cases hs:u<100
 ·have hsm:=fun W=>Any.internal_strconv_small (P:=Tryz.prog) (ρ:=laysM171_ren) { laysM171 with } u hs W
  have iu:(u:Int)<100:=by omega
  go_enter Tryz.func162,Tryz.ntmps162
  go_wp2_with fail
  refine (hsm _).mono ?_
  rintro e w' ⟨rfl,rfl⟩
  go_wp2
  go_ret
  exact⟨by rw[hdec];rfl,Below.refl _ _⟩
 ·have hu1:1≤u:=by omega
  have hnd20:Lib.nDigits u≤20:=by have:=Lib.numDigits_eq u hu1 hu64;split at this<;>omega
  have hal:Tryz.prog.arrayLen 278=24:=by kernel_rfl
  have hsl:∀W,(Instr.sliceAt 278 (.pointer (some ⟨w.heap.size,0,none⟩)) none (some (.int .i64 (Lib.nDigits u:Int))) none).run Tryz.prog W=.ok (.slice (some ⟨w.heap.size,0,none⟩) (Lib.nDigits u) 24) W:=fun W=>by
   rw[run_sliceAt_array_h W 278 ⟨w.heap.size,0,none⟩ (by simp[Program.arrayLen,Program.elem,Tryz.underlying278]) .i64 (Lib.nDigits u:Int) (by omega) (by rw[hal];omega)]
   go_simp
  have hH0:=Lib.holds_zero0 w 278 (Lib.nDigits u) (by omega)
  have hfmt:=Any.internal_strconv_formatBase10 (P:=Tryz.prog) (ρ:=laysM171_ren) { laysM171 with } w.heap.size 0 24 u (Array.replicate (Lib.nDigits u) 0) (w.alloc (.cells Lib.zeros24 278)) hH0 (by rw[Array.size_replicate];exact Lib.lt_pow_nDigits u) hu64 (by rw[Array.size_replicate];omega)
  rw[Array.size_replicate] at hfmt
  have hnd:=Any.internal_strconv_numDigits (P:=Tryz.prog) (ρ:=laysM171_ren) { laysM171 with } u hu1 hu64 (w.alloc (.cells Lib.zeros24 278)) (Lib.tabIs_alloc he.tab _)
  have HH0:=Lib.hid hH0
  have iu:(100:Int)≤(u:Int):=by omega
  have HD:Hid (Lh.decL u=Lib.decDigits u):=hdec
  clear hH0 hal hdec he
  go_enter Tryz.func162,Tryz.ntmps162
  go_wp2_with fail
  refine hnd.mono ?_
  rintro e w' ⟨rfl,rfl⟩
  go_wp2_with fail
  refine hfmt.mono ?_
  rintro e w' ⟨rfl,k,v',dk,rfl,hF⟩
  have hcv:(convert 143 9 (.slice (some ⟨w.heap.size,0,none⟩) (Lib.nDigits u) 24)).run Tryz.prog ((putRow (fun (b:UInt8)=>Value.int .u8 (b.toNat:Int)) (w.alloc (.cells Lib.zeros24 278)) w.heap.size 0 dk).drewN k)=.ok (.string ⟨(Lib.decDigits u).toArray⟩) ((putRow (fun (b:UInt8)=>Value.int .u8 (b.toNat:Int)) (w.alloc (.cells Lib.zeros24 278)) w.heap.size 0 dk).drewN k):=by
   have h:=run_convert_bytes_back (P:=Tryz.prog) ((putRow (fun (b:UInt8)=>Value.int .u8 (b.toNat:Int)) (w.alloc (.cells Lib.zeros24 278)) w.heap.size 0 dk).drewN k) 143 9 5 ⟨w.heap.size,0,none⟩ 24 (Lib.decDigits u) Tryz.underlying143 Tryz.underlying5 Tryz.underlying9 (fun j hj=>by
    rw[Lib.row_is_numeral hF j hj,Lib.add_plain,World.cell?_drewN]
    exact cell?_putRow (fun (b:UInt8)=>Value.int .u8 (b.toNat:Int)) _ w.heap.size 0 _ dk HH0.out (by rw[hF.size,Array.size_replicate]) j (by rw[hF.size];rw[Lib.decDigits_length] at hj;exact hj))
   rw[Lib.decDigits_length] at h
   exact h
  go_wp2
  go_ret
  obtain⟨os,eo⟩:=Lib.fin_at w (.cells Lib.zeros24 278) dk k 0
  refine⟨by rw[HD.out];rfl,?_⟩
  rw[eo]
  exact Lib.below_grow _ w (Nat.le_refl _) k os
theorem fmtU_any {a:Nat→Addr}(u:Nat)(hu64:u<18446744073709551616)(w:World)(he:EC a w) :
  Calls Tryz.prog 104 #[.int .u64 (u:Nat),.int .i64 10] w fun e w'=>e=.returned (.string (Lh.bt (Lh.decL u)))∧Below w.heap.size w w':=by
 have h:=ifmtU_any u hu64 w he
 go_enter Tryz.func104,Tryz.ntmps104
 go_wp2_with fail
 refine h.mono ?_
 rintro e w' ⟨rfl,hb⟩
 go_wp2
 go_ret
 exact⟨rfl,hb⟩
end Go.Proofs.YtfhmfjcpggddkaaGreatDoor
