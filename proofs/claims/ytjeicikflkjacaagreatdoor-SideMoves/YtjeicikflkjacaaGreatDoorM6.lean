/- Sizes of tables: the reference's SizeError, the landed checkSize. -/
import Derived.Test.YtjeicikflkjacaaGreatDoorM3
import Derived.Test.YtjeicikflkjacaaGreatDoorM5
import Derived.Carry
set_option maxHeartbeats 20000000
set_option maxRecDepth 100000
namespace Go.Proofs.YtjeicikflkjacaaGreatDoor
open Go.RowKit
theorem sizeError_out (n:Int)(w:World)(h:n<2∨503<n)(hn:-9223372036854775808≤n∧n≤9223372036854775807) :
  Calls Tryz.prog 24 #[.int .i64 n] w fun r w'=>r=.returned (.int .i64 2)∧w'=w:=by
 by_cases h2:n<2
 ·have d1:decide (n<2)=true:=by simp;omega
  go_enter Tryz.func24,Tryz.ntmps24
  go_wp2
  go_ret
  exact⟨rfl,rfl⟩
 ·have d1:decide (n<2)=false:=by simp;omega
  have d2:decide (503<n)=true:=by simp;omega
  go_enter Tryz.func24,Tryz.ntmps24
  go_wp2
  go_ret
  exact⟨rfl,rfl⟩
theorem sizeError_in (m e:Nat)(w:World)(h2:2≤m)(h5:m≤503)(h:(¬Lh.Prm m∧e=3)∨(Lh.Prm m∧e=0)) :
  Calls Tryz.prog 24 #[.int .i64 m] w fun r w'=>r=.returned (.int .i64 e)∧w'=w:=by
 have d1:decide ((m:Int)<2)=false:=by simp;omega
 have d2:decide (503<(m:Int))=false:=by simp;omega
 have HH:Hid ((¬Lh.Prm m∧e=3)∨(Lh.Prm m∧e=0)):=h
 clear h
 go_enter Tryz.func24,Tryz.ntmps24
 go_wp2
 go_loop [3] (fun t=>∃k:Nat,2≤k∧k≤m∧t=.int .i64 k∧∀j,2≤j→j<k→m % j≠0) (fun t=>m - (intOf t).toNat)
 case atStart=>exact⟨2,Nat.le_refl _,h2,rfl,fun j h h'=>absurd h (by omega)⟩
 case round =>
  obtain⟨k,hk2,hkm,rfl,hpre⟩:=hrel
  have HP:Hid (∀j,2≤j→j<k→m % j≠0):=hpre
  clear hpre
  by_cases hlt:k<m
  ·have hd:decide ((k:Int)<(m:Int))=true:=by simp;omega
   have hk0:((k:Int)==0)=false:=by simp;omega
   by_cases hz:m % k=0
   ·have hzz:((m:Int) % (k:Int)==0)=true:=by rw[←Int.natCast_emod,hz];rfl
    have HZ:Hid (m % k=0):=hz
    clear hz
    go_wp2
    go_ret
    refine⟨?_,rfl⟩
    rcases HH.out with⟨_,e3⟩|⟨hp,_⟩
    ·rw[e3];rfl
    ·exact absurd HZ.out (hp.2 k hk2 hlt)
   ·have hzz:((m:Int) % (k:Int)==0)=false:=by rw[←Int.natCast_emod,beq_eq_false_iff_ne];omega
    have HZ:Hid (m % k≠0):=hz
    clear hz
    go_wp2
    go_round
    case rel =>
     refine⟨k+1,by omega,by omega,by go_num,fun j h hj=>?_⟩
     by_cases e:j=k
     ·subst e;exact HZ.out
     ·exact HP.out j h (by omega)
    case measure=>simp[intOf];omega
  ·have hd:decide ((k:Int)<(m:Int))=false:=by simp;omega
   go_wp2
   go_ret
   refine⟨?_,rfl⟩
   have hp:Lh.Prm m:=⟨h2,fun j h hj=>HP.out j h (by omega)⟩
   rcases HH.out with⟨hn,_⟩|⟨_,e0⟩
   ·exact absurd hp hn
   ·rw[e0];rfl
theorem sizeError_any (n:Int)(e:Nat)(w:World)(hn:-9223372036854775808≤n∧n≤9223372036854775807)(h:Lh.SizeIs n e) :
  Calls Tryz.prog 24 #[.int .i64 n] w fun r w'=>r=.returned (.int .i64 e)∧w'=w:=by
 rcases h with⟨h,rfl⟩|⟨m,rfl,h2,h5,h⟩
 ·exact sizeError_out n w h hn
 ·exact sizeError_in m e w h2 h5 h
theorem sq_cast (k:Nat):(k:Int)*(k:Int)=((k*k:Nat):Int):=by simp
theorem checkSize_in (a:Nat→Addr)(m e:Nat)(w:World)(he:Errs a w)(h2:2≤m)(h5:m≤503)(h:(¬Lh.Prm m∧e=3)∨(Lh.Prm m∧e=0)) :
  Calls Tryz.prog 35 #[.int .i64 m] w fun r w'=>∃ev,r=.returned ev∧ErrIs a w e (-1) ev∧w'=w:=by
 have s2:=he.s2
 have d1:decide ((m:Int)<2)=false:=by simp;omega
 have d2:decide (503<(m:Int))=false:=by simp;omega
 have HH:Hid ((¬Lh.Prm m∧e=3)∨(Lh.Prm m∧e=0)):=h
 clear h
 go_enter Tryz.func35,Tryz.ntmps35
 go_wp2
 go_loop [3] (fun t=>∃k:Nat,2≤k∧k≤23∧t=.int .i64 k∧∀j,2≤j→j<k→m % j≠0) (fun t=>30 - (intOf t).toNat)
 case atStart=>exact⟨2,Nat.le_refl _,by omega,rfl,fun j h h'=>absurd h (by omega)⟩
 case round =>
  obtain⟨k,hk2,hk23,rfl,hpre⟩:=hrel
  have HP:Hid (∀j,2≤j→j<k→m % j≠0):=hpre
  clear hpre
  have hsq:=Lh.sq_le hk23
  have hcast:=sq_cast k
  by_cases hlt:k*k≤m
  ·have hk22:=Lh.root_small h5 hlt
   have hkm:=Lh.root_lt hk2 hlt
   generalize hqq:k*k=q at *
   have HQ:Hid (k*k=q):=hqq
   clear hqq
   have hd:decide ((q:Int)≤(m:Int))=true:=by simp;omega
   have hk0:((k:Int)==0)=false:=by simp;omega
   by_cases hz:m % k=0
   ·have hzz:((m:Int) % (k:Int)==0)=true:=by rw[←Int.natCast_emod,hz];rfl
    have HZ:Hid (m % k=0):=hz
    clear hz
    go_wp2
    go_ret
    refine⟨_,rfl,?_,rfl⟩
    rcases HH.out with⟨_,e3⟩|⟨hp,_⟩
    ·exact Or.inr ⟨2,by decide,e3,Or.inl ⟨rfl,rfl⟩⟩
    ·exact absurd HZ.out (hp.2 k hk2 hkm)
   ·have hzz:((m:Int) % (k:Int)==0)=false:=by rw[←Int.natCast_emod,beq_eq_false_iff_ne];omega
    have HZ:Hid (m % k≠0):=hz
    clear hz
    go_wp2
    go_round
    case rel =>
     refine⟨k+1,by omega,by omega,by go_num,fun j h hj=>?_⟩
     by_cases e:j=k
     ·subst e;exact HZ.out
     ·exact HP.out j h (by omega)
    case measure=>simp[intOf];omega
  ·generalize hqq:k*k=q at *
   have HQ:Hid (k*k=q):=hqq
   clear hqq
   have hd:decide ((q:Int)≤(m:Int))=false:=by simp;omega
   have HL:Hid (¬q≤m):=hlt
   go_wp2
   go_ret
   refine⟨_,rfl,?_,rfl⟩
   have hp:Lh.Prm m:=Lh.prm_of_roots h2 (fun j h hj=>HP.out j h (by
    rcases Nat.lt_or_ge j k with h'|h'
    ·exact h'
    ·have:=Nat.mul_le_mul h' h'
     have:=HQ.out
     have:=HL.out
     omega))
   rcases HH.out with⟨hn,_⟩|⟨_,e0⟩
   ·exact absurd hp hn
   ·exact Or.inl ⟨e0,rfl,rfl⟩
theorem num_lt (s:ByteArray)(k:Nat):Lh.num s k<18446744073709551616:=Lh.turn_lt _
theorem rem_small (a n:Nat)(hn:0<n):a % n<n:=Nat.mod_lt _ hn
theorem rowL_snoc (s:ByteArray)(n j:Nat)(h:j<n):(Lh.rowL s n).take j++[((Lh.rowN s n j:Nat):Int)]=(Lh.rowL s n).take (j+1):=by
 rw[List.take_succ_eq_append_getElem (by rw[Lh.rowL_length];exact h),Lh.rowL_get]
theorem row_parts (s:ByteArray)(n:Nat)(h2:2≤n)(h5:n≤503):∃o k:Nat,o<n∧k+1<n∧(Lh.num s 1:Int) % (n:Int)=(o:Int)∧(Lh.num s 2:Int) % ((n:Int) - 1)=(k:Int) ∧
  ∀j:Nat,j<n→0≤(j:Int)*((k:Int)+1)∧(j:Int)*((k:Int)+1)≤300000∧((o:Int)+(j:Int)*((k:Int)+1)) % (n:Int)=((Lh.rowN s n j:Nat):Int):=by
 refine⟨Lh.num s 1 % n,Lh.num s 2 % (n - 1),rem_small _ _ (by omega),?_,by simp,?_,fun j hj=>?_⟩
 ·have:=rem_small (Lh.num s 2) (n - 1) (by omega)
  omega
 ·rw[Int.natCast_emod,Int.natCast_sub (by omega)];rfl
 ·have hk:=rem_small (Lh.num s 2) (n - 1) (by omega)
  have hb:j*(Lh.num s 2 % (n - 1)+1)≤503*503:=Nat.mul_le_mul (by omega) (by omega)
  have e:(j:Int)*(((Lh.num s 2 % (n - 1):Nat):Int)+1)=((j*(Lh.num s 2 % (n - 1)+1):Nat):Int):=by rw[Int.natCast_mul,Int.natCast_add];rfl
  refine⟨by omega,by omega,?_⟩
  rw[e,←Int.natCast_add,←Int.natCast_emod]
  rfl
theorem take_set_snoc {α:Type}{xs:List α}{j:Nat}(h:j<xs.length)(v:α):(xs.set j v).take (j+1)=xs.take j++[v]:=by
 rw[List.take_succ_eq_append_getElem (by simpa using h)]
 have e:(xs.take j).set j v=xs.take j:=List.set_eq_of_length_le (by simp;omega)
 simp[List.take_set,e]
theorem slotsOf_any (s:ByteArray)(n:Nat)(w:World)(hs:s.size≤300)(h2:2≤n)(h5:n≤503) :
  Calls Tryz.prog 50 #[.string s,.int .i64 n] w fun e w'=>∃g,e=.returned (.slice (some ⟨g,0,none⟩) n n)∧w.heap.size≤g∧IntRow w' g (Lh.rowL s n)∧Below w.heap.size w w':=by
 obtain⟨i,hi,hz0,hz1,hz2⟩:=info_parts infoI
 have hA:=num_lt s 1
 have hB:=num_lt s 2
 obtain⟨o,k,ho,hk,hc1,hc2,hrow⟩:=row_parts s n h2 h5
 have HROW:Hid (∀j:Nat,j<n→0≤(j:Int)*((k:Int)+1)∧(j:Int)*((k:Int)+1)≤300000∧((o:Int)+(j:Int)*((k:Int)+1)) % (n:Int)=((Lh.rowN s n j:Nat):Int)):=hrow
 clear hrow
 have hn0:((n:Int)==0)=false:=by simp;omega
 have hn1:((n:Int) - 1==0)=false:=by rw[beq_eq_false_iff_ne];omega
 have hbyt:i.bytes*n≤281474976710656:=by rw[hz2];omega
 have hmax:n≤maxLen:=by unfold maxLen;omega
 go_enter Tryz.func50,Tryz.ntmps50
 go_wp2_with fail
 refine (of_any s 1 _ hs).mono ?_
 rintro e w1 ⟨rfl,hb1⟩
 go_wp2_with fail
 refine (of_any s 2 _ hs).mono ?_
 rintro e w2 ⟨rfl,hb2⟩
 have hbA:=below_then hb1 hb2
 clear hb1 hb2
 go_wp2_with (at_make;refine wpList_make_full w2 rfl _ _ 27 rfl w2.heap.size 3 i _ 1 Tryz.underlying27 hi hz0 hz1 _ _ _ _ n rfl rfl rfl rfl hbyt hmax (Nat.le_refl _) ?_)
 intro w3 hown hgrow
 have hb3:Below w.heap.size w w3:=hbA.trans ((below_grown hgrow (fun k h=>by cases h)).mono hbA.size)
 rw[made_ints2] at hown
 have hrow0:=IntRow.of_owns hown
 have hgb:=hbA.size
 clear hown hgrow hbA
 generalize w2.heap.size=g at *
 go_wp2_with fail
 try rw[hc2]
 clear hc1 hc2
 go_loopw [27] (fun t W=>Below w.heap.size w W∧∃j:Nat,j≤n∧t=.int .i64 j∧∃xs:List Int,xs.length=n∧xs.take j=(Lh.rowL s n).take j∧IntRow W g xs) (fun t _=>n - (intOf t).toNat)
 case atStart=>exact⟨hb3,0,Nat.zero_le _,rfl,_,by simp,by simp,hrow0⟩
 case round =>
  obtain⟨hb,j,hj,rfl,xs,hlen,htake,hrow⟩:=hrel
  have HT:Hid (xs.take j=(Lh.rowL s n).take j):=htake
  have HLEN:Hid (xs.length=n):=hlen
  have HR:Hid (IntRow wr g xs):=hrow
  have HR0:Hid (IntRow w3 g (List.replicate n 0)):=hrow0
  clear htake
  by_cases hlt:j<n
  ·obtain⟨hj0,hj1,hj2⟩:=HROW.out j hlt
   rw[show (k:Int)+1=1+(k:Int) from Int.add_comm _ _] at hj0 hj1 hj2
   obtain⟨x0,c0⟩:∃x,wr.cell? ⟨g,j,none⟩=some (.int .i64 x):=⟨_,hrow.cell (k:=j) (by omega)⟩
   have f0:=hrow.frozen j
   have hd:decide ((j:Int)<(n:Int))=true:=by simp;omega
   clear hrow hlen hrow0
   go_wp2_with fail
   go_roundw
   case rel =>
    refine⟨hb.setCell hgb _,j+1,by omega,by go_num,xs.set j (Lh.rowN s n j:Nat),by simp[HLEN.out],?_,HR.out.set _ _⟩
    rw[take_set_snoc (by rw[HLEN.out];exact hlt),HT.out,rowL_snoc s n j hlt]
   case measure=>simp[intOf];omega
  ·have hd:decide ((j:Int)<(n:Int))=false:=by simp;omega
   have hfin:IntRow wr g (Lh.rowL s n):=by
    have h1:=HT.out
    rw[List.take_of_length_le (by rw[HLEN.out];omega),List.take_of_length_le (by rw[Lh.rowL_length];omega)] at h1
    rw[←h1]
    exact hrow
   have HF:Hid (IntRow wr g (Lh.rowL s n)):=hfin
   clear hfin hrow hrow0 hlen
   go_wp2
   go_ret
   exact⟨g,rfl,hgb,HF.out,hb⟩
structure Two (x y:Nat)(w w':World):Prop where
 os:w'.os=w.os
 tape:w'.tape=w.tape
 output:w'.output=w.output
 size:w'.heap.size=w.heap.size
 block:∀k,k≠x→k≠y→w'.heap[k]?=w.heap[k]?
theorem Two.refl (x y:Nat)(w:World):Two x y w w:=⟨rfl,rfl,rfl,rfl,fun _ _ _=>rfl⟩
theorem Two.drewN {x y:Nat}{w w':World}(h:Two x y w w')(n:Nat):Two x y w (w'.drewN n):=⟨h.os,h.tape,h.output,h.size,h.block⟩
theorem Two.drew {x y:Nat}{w w':World}(h:Two x y w w'):Two x y w w'.drew:=⟨h.os,h.tape,h.output,h.size,h.block⟩
theorem Two.setX {x y:Nat}{w w':World}(h:Two x y w w')(k:Nat)(v:Value):Two x y w (w'.setCell ⟨x,k,none⟩ v) :=
 ⟨h.os,h.tape,h.output,by simpa [World.setCell] using h.size,fun i h1 h2=>(heap_setCell_other w' ⟨x,k,none⟩ i v h1).trans (h.block i h1 h2)⟩
theorem Two.setY {x y:Nat}{w w':World}(h:Two x y w w')(k:Nat)(v:Value):Two x y w (w'.setCell ⟨y,k,none⟩ v) :=
 ⟨h.os,h.tape,h.output,by simpa [World.setCell] using h.size,fun i h1 h2=>(heap_setCell_other w' ⟨y,k,none⟩ i v h2).trans (h.block i h1 h2)⟩
def RowBlk (w:World)(rb:Nat)(h:Int)(sb n:Nat)(p:Nat):Prop:=w.heap[rb]?=some (.cells #[.int .i64 h,.slice (some ⟨sb,0,none⟩) n n,.int .i64 (p:Nat)] 102 (0,0))
section
variable {w w':World} {rb:Nat} {h:Int} {sb n p:Nat}
theorem RowBlk.c0 (hr:RowBlk w rb h sb n p):w.cell? ⟨rb,0,none⟩=some (.int .i64 h):=by rw[cell_of_row w rb 0 _ _ _ hr];rfl
theorem RowBlk.c1 (hr:RowBlk w rb h sb n p):w.cell? ⟨rb,1,none⟩=some (.slice (some ⟨sb,0,none⟩) n n):=by rw[cell_of_row w rb 1 _ _ _ hr];rfl
theorem RowBlk.c2 (hr:RowBlk w rb h sb n p):w.cell? ⟨rb,2,none⟩=some (.int .i64 (p:Nat)):=by rw[cell_of_row w rb 2 _ _ _ hr];rfl
theorem RowBlk.frozen (hr:RowBlk w rb h sb n p)(k:Nat):w.frozen? ⟨rb,k,none⟩=false:=frozen_of_row w rb k _ _ hr
theorem RowBlk.same (hr:RowBlk w rb h sb n p)(he:w'.heap[rb]?=w.heap[rb]?):RowBlk w' rb h sb n p:=by
 unfold RowBlk
 rw[he]
 exact hr
theorem RowBlk.step (hr:RowBlk w rb h sb n p)(q:Nat):RowBlk (w.setCell ⟨rb,2,none⟩ (.int .i64 (q:Nat))) rb h sb n q:=by
 have:=heap_setCell_same w rb 2 _ _ (.int .i64 (q:Nat)) hr
 unfold RowBlk
 rw[this]
 rfl
end
def nextOf (W:World)(rb:Nat):Nat:=(((W.cell? ⟨rb,2,none⟩).map intOf).getD 0).toNat
theorem RowBlk.nextOf {w:World}{rb:Nat}{h:Int}{sb n p:Nat}(hr:RowBlk w rb h sb n p):nextOf w rb=p:=by
 unfold Go.Proofs.YtjeicikflkjacaaGreatDoor.nextOf
 rw[hr.c2]
 simp[intOf]
theorem getD_at {out:List Int}{x:Nat}(h:x<out.length):out.getD x 0=out[x]:=Lh.getD_lt h
theorem take_core (rb sb sl n p0 p:Nat)(h:Int)(r:Nat→Nat)(out:List Int)(w:World)(hr:RowBlk w rb h sb n p0)(hs:IntRow w sb ((List.range n).map fun j=>((r j:Nat):Int)))(ho:IntRow w sl out)(hlen:out.length=n)
  (h1:rb≠sl) (h2:rb≠sb) (h3:sb≠sl) (hrn:∀j,j<n→r j<n) (hn:n≤503) (hp:p<n) (hpp:p0≤p) (hb:∀i,p0≤i→i<p→out.getD (r i) 0≠-1) (hf:out.getD (r p) 0 = -1) :
  Calls Tryz.prog 37 #[.pointer (some ⟨rb,0,none⟩),.slice (some ⟨sl,0,none⟩) n n] w fun e w'=>e=.returned (.tuple #[])∧RowBlk w' rb h sb n p∧IntRow w' sl (out.set (r p) h)∧Two rb sl w w':=by
 have HS:Hid (∀W,Two rb sl w W→∀j,j<n→W.cell? ⟨sb,j,none⟩=some (.int .i64 (r j:Nat))):=fun W hW j hj=>by
  have hs':=hs.same (hW.block sb (fun e=>h2 e.symm) h3)
  have:=hs'.cell (k:=j) (by simpa using hj)
  simpa using this
 have HB:Hid (∀i,p0≤i→i<p→out.getD (r i) 0≠-1):=hb
 have HF:Hid (out.getD (r p) 0 = -1):=hf
 have HLEN:Hid (out.length=n):=hlen
 have HLT:Hid (∀j,j<n→r j<n):=hrn
 have H1:Hid (rb≠sl):=h1
 clear hs hb hf hlen hrn h1 h2 h3
 go_enter Tryz.func37,Tryz.ntmps37
 go_wp2_with fail
 go_loopw [] (fun W=>Two rb sl w W∧IntRow W sl out∧∃q:Nat,p0≤q∧q≤p∧RowBlk W rb h sb n q) (fun W=>n - nextOf W rb)
 case atStart=>exact⟨Two.refl _ _ _,ho,p0,Nat.le_refl _,hpp,hr⟩
 case round =>
  obtain⟨h2w,ho',q,hq0,hqp,hrq⟩:=hrel
  have HO:Hid (IntRow wr sl out):=ho'
  have HRQ:Hid (RowBlk wr rb h sb n q):=hrq
  have H2W:Hid (Two rb sl w wr):=h2w
  have c1:=hrq.c1
  have c2:=hrq.c2
  have f2:=hrq.frozen 2
  have c0:=hrq.c0
  have cs:=HS.out _ h2w q (by omega)
  have hxn:=HLT.out q (by omega)
  have co:wr.cell? ⟨sl,r q,none⟩=some (.int .i64 (out.getD (r q) 0)):=by
   rw[ho'.cell (by rw[HLEN.out];exact hxn),getD_at (by rw[HLEN.out];exact hxn)]
  have fo:=ho'.frozen (r q)
  clear ho' hrq hr ho h2w
  have hqi:(q:Int)<(n:Int):=by omega
  have hxi:(r q:Int)<(n:Int):=by omega
  by_cases hqq:q<p
  ·have hne:=HB.out q hq0 hqq
   have hbb:(out.getD (r q) 0 != -1)=true:=by simpa using hne
   clear hne
   generalize out.getD (r q) 0=val at *
   generalize r q=x at *
   go_wp2_with fail
   go_quiet (fail)
   go_wp2_with fail
   have hcast:(q:Int)+1=((q+1:Nat):Int):=rfl
   have hd1:RowBlk (wr.drewN nq) rb h sb n q:=HRQ.out
   have hd2:IntRow (wr.drewN nq) sl out:=HO.out
   rw[hcast]
   have hstep:=hd1.step (q+1)
   refine⟨⟨(H2W.out.drewN nq).setX 2 _,hd2.same (heap_setCell_other _ _ _ _ (fun e=>H1.out e.symm)),q+1,by omega,by omega,hstep⟩,?_⟩
   rw[hstep.nextOf,HRQ.out.nextOf]
   omega
  ·have hqe:q=p:=by omega
   subst hqe
   have hbb:(out.getD (r q) 0 != -1)=false:=by rw[HF.out];rfl
   generalize out.getD (r q) 0=val at *
   have HX:Hid (r q<n):=hxn
   generalize hrx:r q=x at *
   have HRX:Hid (r q=x):=hrx
   clear hrx
   go_wp2_with fail
   go_quiet (fail)
   go_wp2_with fail
   have e0:(wr.drewN nq).cell? ⟨rb,0,none⟩=some (.int .i64 h):=c0
   have e1:(wr.drewN nq).cell? ⟨rb,1,none⟩=some (.slice (some ⟨sb,0,none⟩) n n):=c1
   have e2:(wr.drewN nq).cell? ⟨rb,2,none⟩=some (.int .i64 (q:Nat)):=c2
   have es:(wr.drewN nq).cell? ⟨sb,q,none⟩=some (.int .i64 (x:Nat)):=cs
   have eo:(wr.drewN nq).cell? ⟨sl,x,none⟩=some (.int .i64 val):=co
   have ef:(wr.drewN nq).frozen? ⟨sl,x,none⟩=false:=fo
   have ER:Hid (RowBlk (wr.drewN nq) rb h sb n q):=HRQ.out
   have EO:Hid (IntRow (wr.drewN nq) sl out):=HO.out
   have E2:Hid (Two rb sl w (wr.drewN nq)):=H2W.out.drewN nq
   clear c0 c1 c2 cs co fo f2 HRQ HO H2W
   generalize wr.drewN nq=W1 at *
   go_region
   all_goals
    go_wp2
    refine bodyPost_end (v:=.tuple #[]) (by simp[results,Tryz.results37,go_sem]) rfl ⟨rfl,?_,?_,?_⟩
    ·exact ER.out.same (heap_setCell_other W1 ⟨sl,x,none⟩ rb (.int .i64 h) H1.out)
    ·rw[HRX.out]
     exact EO.out.set x h
    ·exact (E2.out.setY x (.int .i64 h)).drew
theorem take_any (rb sb sl n p0 p:Nat)(h:Int)(s:ByteArray)(out:List Int)(w:World)(hr:RowBlk w rb h sb n p0)(hs:IntRow w sb (Lh.rowL s n))(ho:IntRow w sl out)(hlen:out.length=n)
  (h1:rb≠sl) (h2:rb≠sb) (h3:sb≠sl) (hn2:2≤n) (hn:n≤503) (hp:p<n) (hpp:p0≤p) (hb:∀i,p0≤i→i<p→out.getD (Lh.rowN s n i) 0≠-1) (hf:out.getD (Lh.rowN s n p) 0 = -1) :
  Calls Tryz.prog 37 #[.pointer (some ⟨rb,0,none⟩),.slice (some ⟨sl,0,none⟩) n n] w fun e w'=>e=.returned (.tuple #[])∧RowBlk w' rb h sb n p∧IntRow w' sl (out.set (Lh.rowN s n p) h)∧Two rb sl w w' :=
 take_core rb sb sl n p0 p h (Lh.rowN s n) out w hr hs ho hlen h1 h2 h3 (fun _ _=>Lh.rowAt_lt hn2) hn hp hpp hb hf
end Go.Proofs.YtjeicikflkjacaaGreatDoor
namespace Go.Proofs.YtjeicikflkjacaaGreatDoor
open Go.RowKit Go.Maps Go.ChangeMaps
theorem zeroRow (w:World):(zeroValue 75).run Tryz.prog w=.ok (.pointer none) w:=Tryz.zeroValue75 w
structure Laid (xs:List ByteArray)(n B mb k:Nat)(rb sb:Nat→Nat)(D:DataW Unit)(W:World):Prop where
 map:W.ownsMap Tryz.prog 9 ptrElem mb k D
 isMap:IsMap D
 atKey:∀i (h:i<xs.length),i<k→D.atKey (.string (xs[i]).data.toList) .nil=.lit (.int .i64 (rb i:Nat))
 row:∀i,i<k→RowBlk W (rb i) (i:Nat) (sb i) n 0
 slots:∀i (h:i<xs.length),i<k→IntRow W (sb i) (Lh.rowL xs[i] n)
 base:B≤mb
 rbLo:∀i,i<k→mb<rb i
 sbLo:∀i,i<k→mb<sb i
 rbLt:∀i,i<k→rb i<W.heap.size
 inj:∀i j,i<k→j<k→rb i=rb j→i=j
 apart:∀i j,i<k→j<k→rb i≠sb j
theorem makeMap_hint (w:World)(n:Nat):(Instr.makeMap 73 (some (.int .i64 (n:Nat)))).run Tryz.prog w=.ok (.map (some w.heap.size)) (w.alloc (.map #[] 0)):=by
 simp[Instr.makeMap,asInt,asIntOf]
theorem key_ne {xs:List ByteArray}(hnd:xs.Nodup){i k:Nat}(hi:i<xs.length)(hk:k<xs.length)(h:i≠k):Lit.string (xs[i]).data.toList≠Lit.string (xs[k]).data.toList:=by
 intro e
 simp only[Lit.string.injEq] at e
 refine h (Lh.nodup_inj hnd hi hk ?_)
 generalize xs[i]=x at *
 generalize xs[k]=y at *
 cases x
 cases y
 simpa using e
theorem Laid.next {xs:List ByteArray}{n B mb k:Nat}{rb sb:Nat→Nat}{D:DataW Unit}{W w1 w3:World}(hL:Laid xs n B mb k rb sb D W)(hnd:xs.Nodup)(hk:k<xs.length){g:Nat}(hb1:Below W.heap.size W w1)(hg:W.heap.size≤g)(hrow:IntRow w1 g (Lh.rowL xs[k] n))
  (hown3:w3.ownsMap Tryz.prog 9 ptrElem mb (k+1) (D.put (.string (xs[k]).data.toList) (.lit (.int .i64 (w1.heap.size:Nat)))))
  (hgr:(w1.alloc (.cells #[.int .i64 (k:Nat),.slice (some ⟨g,0,none⟩) n n,.int .i64 0] 102)).grownBy w3 (some mb)):∃rb' sb' D',Laid xs n B mb (k+1) rb' sb' D' w3:=by
 have hmb:=hL.map.lt
 have hs1:=hb1.size
 have hglt:=hrow.lt
 have hsa:(w1.alloc (.cells #[.int .i64 (k:Nat),.slice (some ⟨g,0,none⟩) n n,.int .i64 0] 102)).heap.size=w1.heap.size+1:=by simp
 have hs3:=hgr.size
 rw[hsa] at hs3
 have same:∀q,q<w1.heap.size→q≠mb→w3.heap[q]?=w1.heap[q]?:=fun q hq hne=>by
  rw[hgr.block q (by omega) (fun e=>hne (Option.some.inj e)),Below.heap_alloc _ _ _ hq]
 have old:∀q,q<W.heap.size→q≠mb→w3.heap[q]?=W.heap[q]?:=fun q hq hne=>(same q (by omega) hne).trans (hb1.block q hq)
 refine⟨fun i=>if i=k then w1.heap.size else rb i,fun i=>if i=k then g else sb i,_,hown3,hL.isMap.put _ _,fun i hi hik=>?_,fun i hik=>?_,fun i hi hik=>?_,hL.base,fun i hik=>?_,fun i hik=>?_,fun i hik=>?_,fun i j hi hj e=>?_,fun i j hi hj e=>?_⟩
 ·by_cases e:i=k
  ·subst e
   simp only[if_true]
   exact atKey_put_same (k:=.string _) hL.isMap (by simp[WideAt.IsKeyLit]) _ _
  ·simp only[if_neg e]
   rw[atKey_put_other (key_ne hnd hi hk e)]
   exact hL.atKey i hi (by omega)
 ·by_cases e:i=k
  ·subst e
   simp only[if_true]
   unfold RowBlk
   rw[hgr.block _ (by omega) (fun e=>by have:=Option.some.inj e;omega)]
   exact heap_alloc_new w1 _
  ·simp only[if_neg e]
   have h1:=hL.rbLt i (by omega)
   have h2:=hL.rbLo i (by omega)
   exact (hL.row i (by omega)).same (old _ h1 (by omega))
 ·by_cases e:i=k
  ·subst e
   simp only[if_true]
   exact hrow.same (same g hglt (by omega))
  ·simp only[if_neg e]
   have h2:=hL.sbLo i (by omega)
   have h3:=hL.slots i hi (by omega)
   exact h3.same (old _ h3.lt (by omega))
 ·by_cases e:i=k
  ·simp only[if_pos e];omega
  ·simp only[if_neg e];exact hL.rbLo i (by omega)
 ·by_cases e:i=k
  ·simp only[if_pos e];omega
  ·simp only[if_neg e];exact hL.sbLo i (by omega)
 ·by_cases e:i=k
  ·simp only[if_pos e];omega
  ·simp only[if_neg e]
   have:=hL.rbLt i (by omega)
   omega
 ·by_cases e1:i=k<;>by_cases e2:j=k
  ·omega
  ·simp only[if_pos e1,if_neg e2] at e
   have:=hL.rbLt j (by omega)
   omega
  ·simp only[if_neg e1,if_pos e2] at e
   have:=hL.rbLt i (by omega)
   omega
  ·simp only[if_neg e1,if_neg e2] at e
   exact hL.inj i j (by omega) (by omega) e
 ·by_cases e1:i=k<;>by_cases e2:j=k
  ·simp only[if_pos e1,if_pos e2] at e;omega
  ·simp only[if_pos e1,if_neg e2] at e
   have hj':j<xs.length:=by omega
   have:=(hL.slots j hj' (by omega)).lt
   omega
  ·simp only[if_neg e1,if_pos e2] at e
   have:=hL.rbLt i (by omega)
   omega
  ·simp only[if_neg e1,if_neg e2] at e
   exact hL.apart i j (by omega) (by omega) e
theorem keyStr (s:ByteArray)(hs:s.size≤300):keyOf Tryz.prog 9 (.string s)=some (.string s.data.toList):=Go.WideMaps.keyOf_string_mk Tryz.underlying9 (Nat.le_trans hs (by unfold maxLen;omega))
theorem rowsOf_core (b o c:Nat)(xs:List ByteArray)(n:Nat)(w:World)(hx:∀k (h:k<xs.length),w.cell? ⟨b,o+k,none⟩=some (.string xs[k]))(hl:xs.length≤12)(hnd:xs.Nodup)(hsz:∀k (h:k<xs.length),(xs[k]).size≤300)(h2:2≤n)(h5:n≤503) :
  Calls Tryz.prog 36 #[.slice (some ⟨b,o,none⟩) xs.length c,.int .i64 n] w fun e w'=>∃mb rb sb D,e=.returned (.map (some mb))∧Laid xs n w.heap.size mb xs.length rb sb D w'∧Below w.heap.size w w':=by
 have HX:Hid (∀k (h:k<xs.length),w.cell? ⟨b,o+k,none⟩=some (.string xs[k])):=hx
 have HND:Hid (xs.Nodup):=hnd
 have HSZ:Hid (∀k (h:k<xs.length),(xs[k]).size≤300):=hsz
 clear hx hnd hsz
 have hmm:=makeMap_hint w xs.length
 go_enter Tryz.func36,Tryz.ntmps36
 go_wp2_with fail
 go_loopw [13] (fun t W=>Below w.heap.size w W∧∃k:Nat,k≤xs.length∧t=.int .i64 k∧∃rb sb D,Laid xs n w.heap.size w.heap.size k rb sb D W) (fun t _=>xs.length - (intOf t).toNat)
 case atStart =>
  refine⟨(Below.refl _ _).alloc (Nat.le_refl _) _,0,Nat.zero_le _,rfl,fun _=>0,fun _=>0,_,World.ownsMap_made w _ _ _,isMap_empty,?_,?_,?_,Nat.le_refl _,?_,?_,?_,?_,?_⟩
  all_goals intros;omega
 case round =>
  obtain⟨hb,k,hk,rfl,rb,sb,D,hL⟩:=hrel
  clear hmm
  by_cases hlt:k<xs.length
  ·have cx:=below_cell hb (HX.out k hlt)
   have hsz:=HSZ.out k hlt
   have hkey:=keyStr xs[k] hsz
   have hslot:=slotsOf_any xs[k] n wr hsz h2 h5
   have HL:Hid (Laid xs n w.heap.size w.heap.size k rb sb D wr):=hL
   clear hL
   have hkl:k<maxLen:=by unfold maxLen;omega
   go_wp2_with fail
   refine hslot.mono ?_
   rintro e w1 ⟨g,rfl,hg,hrow,hb1⟩
   have hown:(w1.alloc (.cells #[.int .i64 (k:Nat),.slice (some ⟨g,0,none⟩) n n,.int .i64 0] 102)).ownsMap Tryz.prog 9 ptrElem w.heap.size k D :=
    (ownsMap_same HL.out.map (hb1.block _ HL.out.map.lt)).alloc _
   have HR:Hid (IntRow w1 g (Lh.rowL xs[k] n)):=hrow
   clear hrow hslot
   go_wp2_with (at_mapUpdate;refine wpList_mapUpdate_own _ rfl _ _ _ 73 rfl 9 75 (string_keyed Tryz.underlying9) Tryz.underlying73 ptrElem w.heap.size k D rfl hown hkl _ _ (.string (xs[k]).data.toList) rfl rfl hkey (.lit (.int .i64 (w1.heap.size:Nat))) [] (ptrElem_mk _) ?_;intro w3 hown3 hgr3)
   go_roundw
   case rel =>
    have hb2:Below w.heap.size w w1:=below_then hb hb1
    exact⟨(hb2.alloc hb2.size _).grown hgr3 (by have:=hb2.size;simp;omega) (fun k h=>by cases h;exact Nat.le_refl _),k+1,by omega,by go_num,HL.out.next HND.out hlt hb1 hg HR.out hown3 hgr3⟩
   case measure=>simp[intOf];omega
  ·have hke:k=xs.length:=by omega
   have hd:decide ((k:Int)<(xs.length:Int))=false:=by simp;omega
   have HL:Hid (∃rb sb D,Laid xs n w.heap.size w.heap.size xs.length rb sb D wr):=⟨rb,sb,D,hke ▸ hL⟩
   clear hL hke
   go_wp2
   go_ret
   obtain⟨rb,sb,D,hL⟩:=HL.out
   exact⟨_,rb,sb,D,rfl,hL,hb⟩
end Go.Proofs.YtjeicikflkjacaaGreatDoor
