/- table.Moves, where five errors alone are known. -/
import Derived.Test.YtjeicikflkjacaaGreatDoorM5
import Derived.Test.YtjeicikflkjacaaGreatDoorM7
import Derived.Test.YtjeicikflkjacaaGreatDoorM0
import Derived.Test.YtjeicikflkjacaaGreatDoorM1
import Derived.Test.YtjeicikflkjacaaGreatDoorM4
import Derived.Maps.AppendAt
set_option maxHeartbeats 20000000
set_option maxRecDepth 100000
namespace Go.Proofs.YtjeicikflkjacaaGreatDoor
open Go.RowKit
theorem moves_bad15 (a:Nat→Addr)(va vb:Value)(xs:List ByteArray)(n:Int)(w:World)(c:Nat)(pl:Int)(he:Errs5 a w)(hv:Strs1 w va xs)(hf:TabFault xs n c pl)(hc:c≠0)(hn:-9223372036854775808≤n∧n≤9223372036854775807)(hsz:∀k (h:k<xs.length),(xs[k]).size≤1000000)(hm:xs.length<1000000) :
  Calls Tryz.prog 11 #[va,vb,.int .i64 n] w fun e w'=>∃ev,e=.returned (.tuple #[.int .i64 0,ev])∧ErrIs a w' c pl ev∧Below w.heap.size w w':=by
 have hmk:=make_bad5 a va xs n w c pl he hv hf hc hn hsz hm
 clear he hv hf hsz
 go_enter Tryz.func11,Tryz.ntmps11
 go_wp2_with fail
 refine hmk.mono ?_
 rintro e w1 ⟨ev,rfl,hev,hb1⟩
 have HEV:Hid (ErrIs a w1 c pl ev):=hev
 obtain⟨t,x,rfl⟩:=errIs_pos hev hc
 clear hev hmk
 go_wp2
 go_ret2
 exact⟨_,rfl,HEV.out,hb1⟩
theorem moves_bad25 (a:Nat→Addr)(va vb:Value)(xs ys:List ByteArray)(n:Nat)(w:World)(c:Nat)(pl:Int)(he:Errs5 a w)(hv:Strs1 w va xs)(hv2:Strs1 w vb ys)(h0:0<xs.length)(hf1:IsFault xs 0 (-1))(hp:Lh.Prm n)(h5:n≤503)(hsz1:∀k (h:k<xs.length),(xs[k]).size≤300)(hf:TabFault ys n c pl)(hc:c≠0)(hsz:∀k (h:k<ys.length),(ys[k]).size≤1000000)(hm:ys.length<1000000) :
  Calls Tryz.prog 11 #[va,vb,.int .i64 n] w fun e w'=>∃ev,e=.returned (.tuple #[.int .i64 0,ev])∧ErrIs a w' c pl ev∧Below w.heap.size w w':=by
 have hmk:=make_good5 a va xs n w he hv h0 hf1 hsz1 hp h5
 have HMK2:Hid (∀W,Below w.heap.size w W→Calls Tryz.prog 25 #[vb,.int .i64 n] W fun e w'=>∃ev,e=.returned (.tuple #[.slice none 0 0,ev])∧ErrIs a w' c pl ev∧Below W.heap.size W w'):=fun W hW=>make_bad5 a vb ys n W c pl (he.later hW) (hv2.later hW) hf hc (by omega) hsz hm
 clear he hv hv2 hf hsz hf1 hsz1 hp
 go_enter Tryz.func11,Tryz.ntmps11
 go_wp2_with fail
 refine hmk.mono ?_
 rintro e w1 ⟨g1,rfl,hg1,hr1,hb1⟩
 clear hr1 hmk
 go_wp2_with fail
 refine (HMK2.out w1 hb1).mono ?_
 rintro e w2 ⟨ev,rfl,hev,hb2⟩
 have HEV:Hid (ErrIs a w2 c pl ev):=hev
 obtain⟨t,x,rfl⟩:=errIs_pos hev hc
 clear hev
 go_wp2
 go_ret2
 exact⟨_,rfl,HEV.out,below_then hb1 hb2⟩
theorem moves_good5 (a:Nat→Addr)(va vb:Value)(xs ys:List ByteArray)(n:Nat)(w:World)(he:Errs5 a w)(hv:Strs1 w va xs)(hv2:Strs1 w vb ys)(h0:0<xs.length)(h0':0<ys.length)(hf1:IsFault xs 0 (-1))(hf2:IsFault ys 0 (-1))(hp:Lh.Prm n)(h5:n≤503)(hsz1:∀k (h:k<xs.length),(xs[k]).size≤300)(hsz2:∀k (h:k<ys.length),(ys[k]).size≤300) :
  Calls Tryz.prog 11 #[va,vb,.int .i64 n] w fun e w'=>e=.returned (.tuple #[.int .i64 (mv xs ys n n:Nat),.nilIface])∧Below w.heap.size w w':=by
 have hmk:=make_good5 a va xs n w he hv h0 hf1 hsz1 hp h5
 have HMK2:Hid (∀W,Below w.heap.size w W→Calls Tryz.prog 25 #[vb,.int .i64 n] W fun e w'=>∃g,e=.returned (.tuple #[.slice (some ⟨g,0,none⟩) n n,.nilIface])∧W.heap.size≤g∧IntRow w' g (Lh.tab ys n n)∧Below W.heap.size W w'):=fun W hW=>make_good5 a vb ys n W (he.later hW) (hv2.later hW) h0' hf2 hsz2 hp h5
 have HP:Hid (Lh.Prm n):=hp
 obtain⟨_,h12,_⟩:=fault_zero hf1
 obtain⟨_,h12',_⟩:=fault_zero hf2
 obtain⟨b1,o1,c1,rfl,hx⟩:=strs1_pos hv h0
 obtain⟨b2,o2,c2,rfl,hy⟩:=strs1_pos hv2 h0'
 have HX:Hid (∀k (h:k<xs.length),w.cell? ⟨b1,o1+k,none⟩=some (.string xs[k])):=hx
 have HY:Hid (∀k (h:k<ys.length),w.cell? ⟨b2,o2+k,none⟩=some (.string ys[k])):=hy
 clear he hv hv2 hf1 hf2 hsz1 hsz2 hp hx hy
 go_enter Tryz.func11,Tryz.ntmps11
 go_wp2_with fail
 refine hmk.mono ?_
 rintro e w1 ⟨g1,rfl,hg1,hr1,hb1⟩
 have HR1:Hid (IntRow w1 g1 (Lh.tab xs n n)):=hr1
 clear hr1 hmk
 go_wp2_with fail
 refine (HMK2.out w1 hb1).mono ?_
 rintro e w2 ⟨g2,rfl,hg2,hr2,hb2⟩
 have HS1:Hid (∀W,Below w2.heap.size w2 W→∀i,i<n→∃j,∃hj:j<xs.length,W.cell? ⟨g1,i,none⟩=some (.int .i64 (j:Nat))∧xs[j]=owner xs n i):=fun W hW i hi=>slot_of HP.out h0 ((HR1.out.later hb2).later hW) hi
 have HS2:Hid (∀W,Below w2.heap.size w2 W→∀i,i<n→∃j,∃hj:j<ys.length,W.cell? ⟨g2,i,none⟩=some (.int .i64 (j:Nat))∧ys[j]=owner ys n i):=fun W hW i hi=>slot_of HP.out h0' (hr2.later hW) hi
 have HB:Hid (Below w.heap.size w w2):=below_then hb1 hb2
 clear hr2 HMK2 HR1 hb1 hb2
 go_wp2_with fail
 go_loopw [11,32] (fun vm t W=>Below w2.heap.size w2 W∧∃i:Nat,i≤n∧t=.int .i64 i∧vm=.int .i64 (mv xs ys n i:Nat)) (fun _ t _=>n - (intOf t).toNat)
 case atStart=>exact⟨Below.refl _ _,0,Nat.zero_le _,rfl,rfl⟩
 case round =>
  obtain⟨hb,i,hi,rfl,rfl⟩:=hrel
  by_cases hlt:i<n
  ·obtain⟨j1,hj1,c1',e1⟩:=HS1.out wr hb i hlt
   obtain⟨j2,hj2,c2',e2⟩:=HS2.out wr hb i hlt
   have d1:=below_cell (below_then HB.out hb) (HX.out j1 hj1)
   have d2:=below_cell (below_then HB.out hb) (HY.out j2 hj2)
   have hii:(i:Int)<(n:Int):=by omega
   have hj1i:(j1:Int)<(xs.length:Int):=by omega
   have hj2i:(j2:Int)<(ys.length:Int):=by omega
   have hmle:=mv_le xs ys n i
   have hd:decide ((i:Int)<(n:Int))=true:=by simp;omega
   rw[e1] at d1
   rw[e2] at d2
   by_cases heq:owner xs n i=owner ys n i
   ·have HM:Hid (mv xs ys n (i+1)=mv xs ys n i):=mv_same heq
    have hne:((owner xs n i).toList != (owner ys n i).toList)=false:=by rw[heq];simp
    have hne2:((owner xs n i).toList==(owner ys n i).toList)=true:=bytes_same heq
    clear heq e1 e2
    generalize owner xs n i=s1 at *
    generalize owner ys n i=s2 at *
    generalize mv xs ys n i=q at *
    go_wp2_with fail
    go_quiet (fail)
    go_wp2_with fail
    go_roundw
    case rel=>exact⟨below_drewN hb nq,i+1,by omega,by go_num,by rw[HM.out]⟩
    case measure=>simp[intOf];omega
   ·have HM:Hid (mv xs ys n (i+1)=mv xs ys n i+1):=mv_other heq
    have hne2:((owner xs n i).toList==(owner ys n i).toList)=false:=bytes_parts heq
    have hne:((owner xs n i).toList != (owner ys n i).toList)=true:=by unfold bne;rw[hne2];rfl
    clear heq e1 e2
    generalize owner xs n i=s1 at *
    generalize owner ys n i=s2 at *
    generalize mv xs ys n i=q at *
    go_wp2_with fail
    go_quiet (fail)
    go_wp2_with fail
    go_roundw
    case rel=>exact⟨below_drewN hb nq,i+1,by omega,by go_num,by rw[HM.out];rfl⟩
    case measure=>simp[intOf];omega
  ·have hd:decide ((i:Int)<(n:Int))=false:=by simp;omega
   have hie:i=n:=by omega
   subst hie
   go_wp2
   go_ret2
   exact⟨rfl,below_then HB.out hb⟩
end Go.Proofs.YtjeicikflkjacaaGreatDoor
namespace Go.Proofs.YtjeicikflkjacaaGreatDoor
namespace Lh
def jk (k:Nat):Nat:=(k*2862933555777941757+1) % 18446744073709551616
def jn (k b:Nat):Nat:=(b+1)*2147483648 / (k / 8589934592+1)
def jst (k:Nat):Nat→Nat × Nat
 | 0=>(k,0)
 | t+1=>(jk (jst k t).1,jn (jk (jst k t).1) (jst k t).2)
def jky (k t:Nat):Nat:=(jst k t).1
def jat (k t:Nat):Nat:=(jst k t).2
theorem jat_zero (k:Nat):jat k 0=0:=rfl
theorem jky_succ (k t:Nat):jky k (t+1)=jk (jky k t):=rfl
theorem jat_succ (k t:Nat):jat k (t+1)=jn (jky k (t+1)) (jat k t):=rfl
theorem jk_lt (k:Nat):jk k<18446744073709551616:=Nat.mod_lt _ (by decide)
theorem jn_rise (k b:Nat)(h:k<18446744073709551616):b+1≤jn k b:=by
 unfold jn
 have h1:k / 8589934592<2147483648:=Nat.div_lt_of_lt_mul (by omega)
 rw[Nat.le_div_iff_mul_le (by omega)]
 exact Nat.mul_le_mul_left _ (by omega)
theorem jat_rise (k t:Nat):jat k t+1≤jat k (t+1):=by
 rw[jat_succ,jky_succ]
 exact jn_rise _ _ (jk_lt _)
theorem jat_less (k s:Nat):∀t,s<t→jat k s<jat k t
 | 0,h=>absurd h (by omega)
 | t+1,h=>by
  have h1:=jat_rise k t
  by_cases e:s=t
  ·subst e;omega
  ·have:=jat_less k s t (by omega)
   omega
theorem jat_ge (k:Nat):∀t,t≤jat k t
 | 0=>Nat.zero_le _
 | t+1=>by
  have h1:=jat_rise k t
  have:=jat_ge k t
  omega
def jlen (k:Nat):Nat→Nat
 | 0=>0
 | n+1=>if jat k (jlen k n)=n then jlen k n+1 else jlen k n
theorem jlen_spec (k:Nat):∀n,(∀t,t<jlen k n→jat k t<n)∧n≤jat k (jlen k n)
 | 0=>⟨fun t h=>absurd h (by simp[jlen]),Nat.zero_le _⟩
 | n+1=>by
  obtain⟨h1,h2⟩:=jlen_spec k n
  unfold jlen
  by_cases e:jat k (jlen k n)=n
  ·rw[if_pos e]
   refine⟨fun t ht=>?_,?_⟩
   ·by_cases et:t=jlen k n
    ·rw[et,e];omega
    ·have:=h1 t (by omega)
     omega
   ·have:=jat_rise k (jlen k n)
    omega
  ·rw[if_neg e]
   refine⟨fun t ht=>?_,by omega⟩
   have:=h1 t ht
   omega
theorem jlen_below {k n t:Nat}:t<jlen k n↔jat k t<n:=by
 obtain⟨h1,h2⟩:=jlen_spec k n
 refine⟨h1 t,fun h=>?_⟩
 by_cases e:t<jlen k n
 ·exact e
 ·by_cases e2:jlen k n=t
  ·rw[e2] at h2;omega
  ·have:=jat_less k (jlen k n) t (by omega)
   omega
theorem jlen_le (k n:Nat):jlen k n≤n:=by
 by_cases h:n<jlen k n
 ·have h1:=jlen_below.1 h
  have:=jat_ge k n
  omega
 ·omega
theorem jlen_pos {k n:Nat}(h:1≤n):0<jlen k n:=jlen_below.2 (by rw[jat_zero];omega)
def jb (k n:Nat):Nat:=jat k (jlen k n - 1)
def jp (k m:Nat):List Int:=(List.range m).map fun t=>((jat k t:Nat):Int)
theorem jp_length (k m:Nat):(jp k m).length=m:=by simp[jp]
theorem jp_get (k m:Nat){t:Nat}(h:t<(jp k m).length):(jp k m)[t]=((jat k t:Nat):Int):=by simp[jp]
theorem jp_zero (k:Nat):jp k 0=[]:=rfl
theorem jp_snoc (k m:Nat):jp k (m+1)=jp k m++[((jat k m:Nat):Int)]:=by simp[jp,List.range_succ]
end Lh
end Go.Proofs.YtjeicikflkjacaaGreatDoor
namespace Go.Proofs.YtjeicikflkjacaaGreatDoor
open Go.RowKit
structure Errs1 (a:Nat→Addr)(w:World):Prop where
 s1:w.cell? ⟨0,0,none⟩=some (.iface 179 (.pointer (some (a 1))))
theorem jk_wrap (k:Nat):IntKind.u64.wrap (IntKind.u64.wrap ((k:Int)*2862933555777941757)+1)=((Lh.jk k:Nat):Int):=by
 unfold Lh.jk
 simp[IntKind.wrap,IntKind.bits,IntKind.signed]
theorem jnext_any (k b:Nat)(w:World)(hb:b≤1048576) :
  Calls Tryz.prog 40 #[.int .u64 (k:Nat),.int .u64 (b:Nat)] w fun e w'=>e=.returned (.tuple #[.int .u64 (Lh.jk k:Nat),.int .u64 (Lh.jn (Lh.jk k) b:Nat)])∧Below w.heap.size w w':=by
 go_enter Tryz.func40,Tryz.ntmps40
 go_wp2
 rw[jk_wrap]
 have hq:=Lh.jk_lt k
 obtain⟨q,hqe⟩:∃q,Lh.jk k=q:=⟨_,rfl⟩
 rw[hqe] at hq
 rw[hqe]
 have HQ:Hid (Lh.jk k=q):=hqe
 clear hqe
 have e1:IntKind.u64.wrap ((b:Int)+1)=(b:Int)+1:=by rw[IntKind.wrap_u64];omega
 have e2:IntKind.u64.wrap (((b:Int)+1)*2147483648)=((b:Int)+1)*2147483648:=by rw[IntKind.wrap_u64];omega
 have e3:IntKind.u64.wrap ((q:Int) / 8589934592+1)=(q:Int) / 8589934592+1:=by rw[IntKind.wrap_u64];omega
 have e4:((q:Int) / 8589934592+1==0)=false:=by rw[beq_eq_false_iff_ne];omega
 go_quiet (fail)
 go_wp2
 go_ret2
 refine⟨?_,below_drewN (Below.refl _ _) nq⟩
 rw[HQ.out]
 unfold Lh.jn
 simp
theorem last_core (K A:Nat→Nat)(n m:Nat)(w:World)(hn:n≤1048576)(h0:A 0=0)(h1:∀t,t<m→A t<n)(h2:n≤A m)(hr:∀t,A t+1≤A (t+1))
  (hnx:∀t W,t<m→Calls Tryz.prog 40 #[.int .u64 (K t:Nat),.int .u64 (A t:Nat)] W fun e w'=>e=.returned (.tuple #[.int .u64 (K (t+1):Nat),.int .u64 (A (t+1):Nat)])∧Below W.heap.size W w') :
  Calls Tryz.prog 30 #[.int .u64 (K 0:Nat),.int .i64 (n:Nat)] w fun e w'=>e=.returned (.int .i64 (A (m - 1):Nat))∧Below w.heap.size w w':=by
 have H1:Hid (∀t,t<m→A t<n):=h1
 have H2:Hid (n≤A m):=h2
 have HR:Hid (∀t,A t+1≤A (t+1)):=hr
 have HN:Hid (∀t W,t<m→Calls Tryz.prog 40 #[.int .u64 (K t:Nat),.int .u64 (A t:Nat)] W fun e w'=>e=.returned (.tuple #[.int .u64 (K (t+1):Nat),.int .u64 (A (t+1):Nat)])∧Below W.heap.size W w'):=hnx
 have H0:Hid (A 0=0):=h0
 clear h0 h1 h2 hr hnx
 go_enter Tryz.func30,Tryz.ntmps30
 go_wp2_with fail
 go_loopw [0,5,6] (fun ky bk a W=>Below w.heap.size w W∧∃t:Nat,t≤m∧ky=.int .u64 (K t:Nat)∧bk=.int .u64 (A (t - 1):Nat)∧a=.int .u64 (A t:Nat)) (fun _ _ a _=>n - (intOf a).toNat)
 case atStart=>exact⟨Below.refl _ _,0,Nat.zero_le _,rfl,by rw[H0.out];rfl,by rw[H0.out];rfl⟩
 case round =>
  obtain⟨hb,t,ht,rfl,rfl,rfl⟩:=hrel
  by_cases hlt:t<m
  ·have hal:=H1.out t hlt
   have hd:decide (A t<n)=true:=by simpa using hal
   have hrt:=HR.out t
   go_wp2_with fail
   refine (HN.out t _ hlt).mono ?_
   rintro e w1 ⟨rfl,hb1⟩
   go_wp2_with fail
   refine⟨⟨below_then hb hb1,t+1,by omega,rfl,rfl,rfl⟩,?_⟩
   simp[intOf]
   omega
  ·obtain rfl:t=m:=by omega
   have h2:=H2.out
   have hd:decide (A t<n)=false:=by simpa using h2
   have hfin:A (t - 1)≤1048576:=by
    cases t with
    | zero=>have:=H0.out;simp;omega
    | succ t=>have:=H1.out t (by omega);simp;omega
   clear h2
   go_wp2
   go_ret
   exact⟨rfl,hb⟩
theorem from_true (x y:Int)(w:World)(h1:1≤x)(h2:x≤y) :
  Calls Tryz.prog 29 #[.int .i64 x,.int .i64 y] w fun e w'=>e=.returned (.bool true)∧w'=w:=by
 have d1:decide (1≤x)=true:=by simpa using h1
 have d2:decide (x≤y)=true:=by simpa using h2
 clear h1 h2
 go_enter Tryz.func29,Tryz.ntmps29
 go_wp2
 go_ret
 exact⟨rfl,rfl⟩
theorem from_false (x y:Int)(w:World)(h:x<1∨y<x) :
  Calls Tryz.prog 29 #[.int .i64 x,.int .i64 y] w fun e w'=>e=.returned (.bool false)∧w'=w:=by
 by_cases h1:x<1
 ·have d1:decide (1≤x)=false:=by simp;omega
  clear h h1
  go_enter Tryz.func29,Tryz.ntmps29
  go_wp2
  go_ret
  exact⟨rfl,rfl⟩
 ·have d1:decide (1≤x)=true:=by simp;omega
  have d2:decide (x≤y)=false:=by simp;omega
  clear h h1
  go_enter Tryz.func29,Tryz.ntmps29
  go_wp2
  go_ret
  exact⟨rfl,rfl⟩
theorem last_any (k n:Nat)(w:World)(hn1:1≤n)(hn:n≤1048576) :
  Calls Tryz.prog 30 #[.int .u64 (k:Nat),.int .i64 (n:Nat)] w fun e w'=>e=.returned (.int .i64 (Lh.jb k n:Nat))∧Below w.heap.size w w' :=
 last_core (Lh.jky k) (Lh.jat k) n (Lh.jlen k n) w hn (Lh.jat_zero k) (fun _ h=>Lh.jlen_below.1 h) (Lh.jlen_spec k n).2 (Lh.jat_rise k)
  (fun t W h=>jnext_any (Lh.jky k t) (Lh.jat k t) W (by have:=Lh.jlen_below.1 h;omega))
theorem bucket_bad (a:Nat→Addr)(k:Nat)(x:Int)(w:World)(he:Errs1 a w)(h:x<1∨1048576<x) :
  Calls Tryz.prog 17 #[.int .u64 (k:Nat),.int .i64 x] w fun e w'=>e=.returned (.tuple #[.int .i64 0,.iface 179 (.pointer (some (a 1)))])∧Below w.heap.size w w':=by
 have s1:=he.s1
 go_enter Tryz.func17,Tryz.ntmps17
 go_wp2_with fail
 refine (from_false x 1048576 _ h).mono ?_
 rintro e w' ⟨rfl,rfl⟩
 clear h
 go_wp2_with fail
 go_quiet (fail)
 go_wp2
 go_ret2
 exact⟨rfl,below_drewN (Below.refl _ _) nq⟩
theorem bucket_good (k n:Nat)(w:World)(hn1:1≤n)(hn:n≤1048576) :
  Calls Tryz.prog 17 #[.int .u64 (k:Nat),.int .i64 (n:Nat)] w fun e w'=>e=.returned (.tuple #[.int .i64 (Lh.jb k n:Nat),.nilIface])∧Below w.heap.size w w':=by
 go_enter Tryz.func17,Tryz.ntmps17
 go_wp2_with fail
 refine (from_true (n:Nat) 1048576 _ (by omega) (by omega)).mono ?_
 rintro e w' ⟨rfl,rfl⟩
 go_wp2_with fail
 refine (last_any k n _ hn1 hn).mono ?_
 rintro e w1 ⟨rfl,hb1⟩
 go_wp2
 go_ret2
 exact⟨rfl,hb1⟩
end Go.Proofs.YtjeicikflkjacaaGreatDoor
