/- abreast, called beside leavers: it says true. -/
import Derived.Test.YtjeicikflkjacaaGreatDoorM48
import Derived.Test.YtjeicikflkjacaaGreatDoorM8
import Derived.Test.YtjeicikflkjacaaGreatDoorM1
import Derived.Test.YtjeicikflkjacaaGreatDoorM2
import Derived.Laws.AppendOwnNone
set_option linter.unusedSimpArgs false
set_option linter.unusedVariables false
namespace Go.Proofs.YtjeicikflkjacaaGreatDoor.Sh
open Go Go.Conc Go.Conc.Lib Go.RowKit Go.ConcN
open Ms Po
open Par (Fm Gr on stopper LocIn)
theorem nm_a:Lh.isNm ⟨#[97]⟩=true:=by decide
theorem nm_b:Lh.isNm ⟨#[98]⟩=true:=by decide
theorem mov_one {s t:ByteArray}(hs:Lh.isNm s=true)(ht:Lh.isNm t=true){c:Nat}{pl:Int}(h:MovFault [s] [t] 3 c pl):c=0:=by
 rcases h with⟨h,_⟩|⟨_,h⟩
 ·exact tabFault_one h (one_fault hs)
 ·exact tabFault_one h (one_fault ht)
noncomputable def laid5 (v:World):World:=((((v.alloc (.cells #[.string ⟨#[97]⟩] 9)).alloc (.cells #[.string ⟨#[97]⟩] 9)).alloc (.cells #[.string ⟨#[98]⟩] 9)).alloc (.cells #[.slice (some ⟨(v.heap.size+1),0,none⟩) 1 1,.slice (some ⟨(v.heap.size+2),0,none⟩) 1 1] 22))
theorem laid5_size (v:World):(laid5 v).heap.size=v.heap.size+4:=by simp[laid5]
theorem laid5_bel (v:World):Bel v.heap.size v (laid5 v):=.of (((((Below.refl _ _).alloc (Nat.le_refl _) _).alloc (by simp) _).alloc (by simp;omega) _).alloc (by simp;omega) _)
theorem laid5_get (v:World):(laid5 v).heap[v.heap.size]?=some (.cells #[.string ⟨#[97]⟩] 9)∧(laid5 v).heap[v.heap.size+1]?=some (.cells #[.string ⟨#[97]⟩] 9)∧(laid5 v).heap[v.heap.size+2]?=some (.cells #[.string ⟨#[98]⟩] 9)∧(laid5 v).heap[v.heap.size+3]?=some (.cells #[.slice (some ⟨(v.heap.size+1),0,none⟩) 1 1,.slice (some ⟨(v.heap.size+2),0,none⟩) 1 1] 22):=by
 have h:(laid5 v).heap=(((v.heap.push (.cells #[.string ⟨#[97]⟩] 9)).push (.cells #[.string ⟨#[97]⟩] 9)).push (.cells #[.string ⟨#[98]⟩] 9)).push (.cells #[.slice (some ⟨(v.heap.size+1),0,none⟩) 1 1,.slice (some ⟨(v.heap.size+2),0,none⟩) 1 1] 22):=rfl
 rw[h]
 refine⟨?_,?_,?_,?_⟩
 all_goals
  simp only[Array.getElem?_push,Array.size_push]
  repeat (first|rw[if_neg (by omega)])
  rw[if_pos trivial]
def ys5 (i:Nat):List ByteArray:=if i=0 then [⟨#[97]⟩] else [⟨#[98]⟩]
noncomputable def vb5 (b i:Nat):Value:=if i=0 then .slice (some ⟨b+1,0,none⟩) 1 1 else .slice (some ⟨b+2,0,none⟩) 1 1
theorem row_one {v:World}{b:Nat}{s:ByteArray}{ty:TypeId}{f:Nat × Nat}(h:v.heap[b]?=some (.cells #[.string s] ty f)):Row0 v (.slice (some ⟨b,0,none⟩) 1 1) [s]:=.inr ⟨b,1,_,_,_,rfl,by simp,h,fun k hk=>by
 have:k=0:=by simpa using hk
 subst this
 rfl⟩
theorem two {i:Nat}(h:i<2):i=0∨i=1:=by omega
set_option maxHeartbeats 4000000 in
theorem abreast_rch (a:Nat→Addr){v:World}(he:Errs a v)(hG:PP.globals.size≤v.heap.size)(c:Frame)(cs:List Frame):Rch (Gr (Frame.enter PP 5 #[] .normal) (c :: cs)) v (fun g' v'=>g'=Gr (c.finish (.bool true)) cs∧Bel v.heap.size v v'):=by
 refine (Rch.to to_build5).bind ?_
 rintro g1 v1 ⟨rfl,rfl⟩
 refine (Rch.alloc (fun b=>S5 (c :: cs) #[.bool false,undef,undef,undef,.slice (some ⟨b,0,none⟩) 1 1,undef,undef,undef,undef,undef,undef,undef,undef,undef,undef,undef,undef,undef] [.inRegion ops5 [1,2,3,4,5,6,7,8,9],.code rest5]) rfl (fun w=>build5_0 w)).bind ?_
 rintro g2 v2 ⟨rfl,rfl⟩
 refine (Rch.alloc (fun b=>S5 (c :: cs) #[.bool false,undef,undef,undef,.slice (some ⟨v1.heap.size,0,none⟩) 1 1,.slice (some ⟨b,0,none⟩) 1 1,undef,undef,undef,undef,undef,undef,undef,undef,undef,undef,undef,undef] [.inRegion ops5 [2,3,4,5,6,7,8,9],.code rest5]) rfl (fun w=>build5_1 v1.heap.size w)).bind ?_
 rintro g3 v3 ⟨e3,rfl⟩
 have z3:(v1.alloc (.cells #[.string ⟨#[97]⟩] 9)).heap.size=v1.heap.size+1:=by simp
 rw[z3] at e3
 subst e3
 refine (Rch.alloc (fun b=>S5 (c :: cs) #[.bool false,undef,undef,undef,.slice (some ⟨v1.heap.size,0,none⟩) 1 1,.slice (some ⟨(v1.heap.size+1),0,none⟩) 1 1,.slice (some ⟨b,0,none⟩) 1 1,undef,undef,undef,undef,undef,undef,undef,undef,undef,undef,undef] [.inRegion ops5 [3,4,5,6,7,8,9],.code rest5]) rfl (fun w=>build5_2 v1.heap.size (v1.heap.size+1) w)).bind ?_
 rintro g4 v4 ⟨e4,rfl⟩
 have z4:((v1.alloc (.cells #[.string ⟨#[97]⟩] 9)).alloc (.cells #[.string ⟨#[97]⟩] 9)).heap.size=v1.heap.size+2:=by simp
 rw[z4] at e4
 subst e4
 refine (Rch.alloc (fun b=>S5 (c :: cs) #[.bool false,undef,undef,undef,.slice (some ⟨v1.heap.size,0,none⟩) 1 1,.slice (some ⟨(v1.heap.size+1),0,none⟩) 1 1,.slice (some ⟨(v1.heap.size+2),0,none⟩) 1 1,.slice (some ⟨b,0,none⟩) 2 2,undef,undef,undef,undef,undef,undef,undef,undef,undef,undef] [.inRegion ops5 [4,5,6,7,8,9],.code rest5]) rfl (fun w=>build5_3 v1.heap.size (v1.heap.size+1) (v1.heap.size+2) w)).bind ?_
 rintro g5 v5 ⟨e5,e5'⟩
 have z5:(((v1.alloc (.cells #[.string ⟨#[97]⟩] 9)).alloc (.cells #[.string ⟨#[97]⟩] 9)).alloc (.cells #[.string ⟨#[98]⟩] 9)).heap.size=v1.heap.size+3:=by simp
 rw[z5] at e5
 subst e5
 obtain rfl:v5=laid5 v1:=e5'
 refine (Rch.to (to_moves5 v1.heap.size (v1.heap.size+1) (v1.heap.size+2) (v1.heap.size+3))).bind ?_
 rintro g6 v6 ⟨rfl,rfl⟩
 have hb4:=laid5_bel v1
 obtain⟨q0,q1,q2,q3⟩:=laid5_get v1
 have hz:=laid5_size v1
 refine (moves_rch a (.slice (some ⟨v1.heap.size,0,none⟩) 1 1) (.slice (some ⟨(v1.heap.size+3),0,none⟩) 2 2) 2 (vb5 v1.heap.size) [⟨#[97]⟩] ys5 3 2 (errs_bel he hb4) (row_one q0) (.inr ⟨_,_,_,_,_,rfl,q3,fun i hi=>?_⟩) (fun i hi=>?_) ⟨by omega,fun k hk=>?_,fun i hi k hk=>?_,by simp,fun i hi=>?_⟩ (by omega) (by omega) (fr5 v1.heap.size (v1.heap.size+1) (v1.heap.size+2) (v1.heap.size+3)) (c :: cs)).bind ?_
 ·rcases two hi with rfl|rfl<;>rfl
 ·rcases two hi with rfl|rfl
  ·exact row_one q1
  ·exact row_one q2
 ·have:k=0:=by simpa using hk
  subst this
  show ByteArray.size ⟨#[97]⟩≤300
  decide
 ·rcases two hi with rfl|rfl
  ·have:k=0:=by simpa [ys5] using hk
   subst this
   show ByteArray.size ⟨#[97]⟩≤300
   decide
  ·have:k=0:=by simpa [ys5] using hk
   subst this
   show ByteArray.size ⟨#[98]⟩≤300
   decide
 ·rcases two hi with rfl|rfl<;>simp[ys5]
 rintro g7 v7 ⟨u,rfl,hb7,hS⟩
 have hc0:chkN ((2:Nat):Int) 100 2=0:=by decide
 rcases hS with⟨h,_⟩|⟨_,ks,cs_,pl,hg,hA⟩
 ·exact absurd hc0 h
 have h0:=hg 0 (by omega)
 have h1:=hg 1 (by omega)
 have c0:cs_ 0=0:=mov_one nm_a nm_a h0.1
 have c1:cs_ 1=0:=mov_one nm_a nm_b h1.1
 have k0:ks 0=0:=by
  obtain⟨m,e,hk⟩:=h0.2 c0
  obtain rfl:m=3:=by omega
  rw[hk]
  show ((mv [⟨#[97]⟩] [⟨#[97]⟩] 3 3:Nat):Int)=0
  rw[mv_one_same]
  rfl
 have k1:ks 1=3:=by
  obtain⟨m,e,hk⟩:=h1.2 c1
  obtain rfl:m=3:=by omega
  rw[hk]
  show ((mv [⟨#[97]⟩] [⟨#[98]⟩] 3 3:Nat):Int)=3
  rw[mv_one_other (by decide)]
  rfl
 rcases hA with⟨_,x,rfl,hown⟩|⟨j,hj,_,hne,_⟩
 rotate_left
 ·rcases two hj with rfl|rfl
  ·exact absurd c0 hne
  ·exact absurd c1 hne
 have hI:Ints v7 x [0,3]:=by
  have:=ints_of_owns hown
  rw[show (List.range 2).map ks=[0,3] by simp[List.range,List.range.loop,k0,k1]] at this
  exact this
 obtain⟨p,cc,rfl⟩:=hI.slice
 rw[fr5_finish]
 refine (Rch.tail0 (R:=fun u v'=>u=.bool true∧Bel v7.heap.size v7 v') ⟨_,Tryz.func5⟩ (fun s hs=>by cases hs) rest5_t (fun τ d=>by
  obtain⟨fr,v',u',_,h1,h2,h3,h4⟩:=region_leaves (R:=fun u w'=>u=.bool true∧Below v7.heap.size (on v7 τ d) w') Tryz.func5 (end5 v1.heap.size (v1.heap.size+1) (v1.heap.size+2) (v1.heap.size+3) p cc (on v7 τ d) hI)
  exact⟨fr,v',u',h1,h2,h3,.ofOn h4⟩)).mono ?_
 rintro g8 v8 ⟨u,rfl,rfl,hb8⟩
 exact⟨rfl,hb4.trans (hb7.trans hb8 hb7.size) hb4.size⟩
end Go.Proofs.YtjeicikflkjacaaGreatDoor.Sh

/- The reference's PathOf; the landed Shares. -/
namespace Go.Proofs.YtjeicikflkjacaaGreatDoor
open Go.RowKit
set_option maxHeartbeats 2000000 in
theorem pathOf_core (K A:Nat→Nat)(n m:Nat)(w:World)(hn1:1≤n)(hn:n≤1048576)(h0:A 0=0)(hmn:m≤n)(h1:∀t,t<m→A t<n)(h2:n≤A m)(hr:∀t,A t+1≤A (t+1))(hkl:∀t,K (t+1)<18446744073709551616)
  (hk:∀t,IntKind.u64.wrap (IntKind.u64.wrap ((K t:Int)*2862933555777941757)+1)=((K (t+1):Nat):Int)) (ha:∀t,A (t+1)=(A t+1)*2147483648 / (K (t+1) / 8589934592+1))
  (P:Nat→List Int) (hp0:P 0=[]) (hps:∀t,P (t+1)=P t++[((A t:Nat):Int)]) :
  Calls Tryz.prog 28 #[.int .u64 (K 0:Nat),.int .i64 (n:Nat)] w fun e w'=>∃v,e=.returned (.tuple #[v,.int .i64 0])∧w'.ownsRow w.heap.size 3 1 v m ((P m).map (Value.int .i64))∧Below w.heap.size w w':=by
 obtain⟨i,hi,hz0,hz1,hz2⟩:=info_parts infoI
 have d1:decide ((n:Int)<1)=false:=by simp;omega
 have d2:decide (1048576<(n:Int))=false:=by simp;omega
 have H1:Hid (∀t,t<m→A t<n):=h1
 have H2:Hid (n≤A m):=h2
 have HR:Hid (∀t,A t+1≤A (t+1)):=hr
 have HKL:Hid (∀t,K (t+1)<18446744073709551616):=hkl
 have HK:Hid (∀t,IntKind.u64.wrap (IntKind.u64.wrap ((K t:Int)*2862933555777941757)+1)=((K (t+1):Nat):Int)):=hk
 have HA:Hid (∀t,A (t+1)=(A t+1)*2147483648 / (K (t+1) / 8589934592+1)):=ha
 have H0:Hid (A 0=0):=h0
 have HP0:Hid (P 0=[]):=hp0
 have HPS:Hid (∀t,P (t+1)=P t++[((A t:Nat):Int)]):=hps
 clear h0 h1 h2 hr hkl hk ha hp0 hps
 go_enter Tryz.func28,Tryz.ntmps28
 go_wp2_with fail
 go_loopw [0,6,8] (fun ky v a W=>Below w.heap.size w W∧∃t:Nat,t≤m∧ky=.int .u64 (K t:Nat)∧a=.int .i64 (A t:Nat)∧W.ownsRow w.heap.size 3 1 v t ((P t).map (Value.int .i64))) (fun _ _ a _=>n - (intOf a).toNat)
 case atStart=>exact⟨Below.refl _ _,0,Nat.zero_le _,rfl,by rw[H0.out];rfl,by rw[HP0.out];exact World.ownsRow_nil _ _ _ _⟩
 case round =>
  obtain⟨hb,t,ht,rfl,rfl,hown⟩:=hrel
  by_cases hlt:t<m
  ·have hal:=H1.out t hlt
   have hd:decide (A t<n)=true:=by simpa using hal
   have hrt:=HR.out t
   have hkq:=HKL.out t
   have hkw:=HK.out t
   have HAT:Hid (A (t+1)=(A t+1)*2147483648 / (K (t+1) / 8589934592+1)):=HA.out t
   have HPT:Hid (P (t+1)=P t++[((A t:Nat):Int)]):=HPS.out t
   have hmx:t+1≤maxLen:=by unfold maxLen;omega
   have hbs:∀q,w.heap.size≤(wr.alloc q).heap.size:=fun q=>by
    have h1:(wr.alloc q).heap.size=wr.heap.size+1:=by simp
    have:=hb.size
    omega
   have hnew:=cell_one_new wr (.int .i64 (A t:Nat)) 3
   have HO:Hid (wr.ownsRow w.heap.size 3 1 u6 t ((P t).map (Value.int .i64))):=hown
   clear hown
   have hx:A t≤1048576:=by omega
   have e4:(((K (t+1):Nat):Int) / 8589934592+1==0)=false:=by rw[beq_eq_false_iff_ne];omega
   go_wp2_with (at_builtin;refine wpList_append_own _ rfl _ _ 27 rfl w.heap.size 3 i _ 1 8 Tryz.underlying27 hi hz0 hz1 hz2 rfl (by decide) _ t _ rfl (HO.out.alloc _) ⟨wr.heap.size,0,none⟩ 1 1 [.int .i64 (A t:Nat)] rfl rfl hnew (ints_oneCell1 _) hmx (by omega) (hbs _) ?_)
   intro v2 w3 hown2 hg2 _
   have hb3:Below w.heap.size w w3:=(hb.alloc hb.size _).grown hg2 (hbs _) (fun k h=>(HO.out.lt k h).1)
   have HO2:Hid (w3.ownsRow w.heap.size 3 1 v2 (t+1) ((P (t+1)).map (Value.int .i64))):=by
    have h1:=hown2
    rw[HPT.out,List.map_append]
    exact h1
   clear hown2 hg2 hnew hbs
   go_wp2_with fail
   have hAI:((A t:Int)+1)*2147483648 / ((K (t+1):Int) / 8589934592+1)=((A (t+1):Nat):Int):=by rw[HAT.out];simp
   rw[hAI]
   refine⟨⟨hb3,t+1,by omega,rfl,rfl,HO2.out⟩,?_⟩
   simp[intOf]
   omega
  ·obtain rfl:t=m:=by omega
   have h2:=H2.out
   have hd:decide (A t<n)=false:=by simpa using h2
   clear h2
   have HO:Hid (wr.ownsRow w.heap.size 3 1 u6 t ((P t).map (Value.int .i64))):=hown
   clear hown
   go_wp2
   go_ret2
   exact⟨_,rfl,HO.out,hb⟩
theorem pathOf_good (k n:Nat)(w:World)(hn1:1≤n)(hn:n≤1048576) :
  Calls Tryz.prog 28 #[.int .u64 (k:Nat),.int .i64 (n:Nat)] w fun e w'=>∃v,e=.returned (.tuple #[v,.int .i64 0])∧w'.ownsRow w.heap.size 3 1 v (Lh.jlen k n) ((Lh.jp k (Lh.jlen k n)).map (Value.int .i64))∧Below w.heap.size w w' :=
 pathOf_core (Lh.jky k) (Lh.jat k) n (Lh.jlen k n) w hn1 hn (Lh.jat_zero k) (Lh.jlen_le k n) (fun _ h=>Lh.jlen_below.1 h) (Lh.jlen_spec k n).2 (Lh.jat_rise k) (fun t=>by rw[Lh.jky_succ];exact Lh.jk_lt _)
  (fun t=>by rw[jk_wrap,Lh.jky_succ]) (fun t=>by rw[Lh.jat_succ];rfl) (Lh.jp k) (Lh.jp_zero k) (Lh.jp_snoc k)
end Go.Proofs.YtjeicikflkjacaaGreatDoor

/- Keys, faults and workers: small contracts for the laws of stage 12. -/
namespace Go.Proofs.YtjeicikflkjacaaGreatDoor.Sh
open Go.RowKit
open Ms
set_option maxHeartbeats 1000000 in
theorem ownKeys_own (v:Value)(ks:List Nat)(w:World)(hv:Keys1 w v ks)(hm:ks.length<1000000) :
  Calls Tryz.prog 15 #[v] w fun e w'=>∃v',e=.returned v'∧w'.ownsRow w.heap.size 46 1 v' ks.length (ks.map encU)∧Below w.heap.size w w':=by
 obtain⟨i,hi,hz0,hz1,hz2⟩:=info_parts infoU
 have hmax:0+ks.length≤maxLen:=by unfold maxLen;omega
 rcases hv with⟨rfl,rfl|⟨ad,c,rfl⟩⟩|⟨b,o,c,rfl,hcap,hx⟩
 ·go_enter Tryz.func15,Tryz.ntmps15
  go_wp2_with (at_builtin;refine wpList_append_own_none rfl _ _ 41 rfl w.heap.size 46 i 1 Tryz.underlying41 hi (.slice none 0 0) 0 _ rfl (World.ownsRow_nil w _ _ _) rfl ?_)
  go_ret
  exact⟨_,rfl,World.ownsRow_nil w _ _ _,Below.refl _ _⟩
 ·have hnews:∀j u,(([]:List Nat).map encU)[j]?=some u→w.cell? (ad.add j)=some u:=fun j u h=>by simp at h
  go_enter Tryz.func15,Tryz.ntmps15
  go_wp2_with (at_builtin;refine wpList_append_own w rfl _ _ 41 rfl w.heap.size 46 i _ 1 8 Tryz.underlying41 hi hz0 hz1 hz2 rfl (by decide) (.slice none 0 0) 0 _ rfl (World.ownsRow_nil w _ _ _) ad 0 c (([]:List Nat).map encU) rfl rfl hnews (encU_one []) (by unfold maxLen;omega) (by omega) (Nat.le_refl _) ?_)
  intro v' w' hown hg _
  have hkk:w'.ownsRow w.heap.size 46 1 v' 0 (([]:List Nat).map encU):=by simpa using hown
  have HKK:Hid (w'.ownsRow w.heap.size 46 1 v' 0 (([]:List Nat).map encU)):=hkk
  clear hkk
  clear hown
  go_wp2
  go_ret
  exact⟨_,rfl,HKK.out,below_grown hg (fun k h=>by cases h)⟩
 ·have hnews:=cells_keys hx
  go_enter Tryz.func15,Tryz.ntmps15
  go_wp2_with (at_builtin;refine wpList_append_own w rfl _ _ 41 rfl w.heap.size 46 i _ 1 8 Tryz.underlying41 hi hz0 hz1 hz2 rfl (by decide) (.slice none 0 0) 0 _ rfl (World.ownsRow_nil w _ _ _) ⟨b,o,none⟩ ks.length c (ks.map encU) rfl (by simp) hnews (encU_one ks) hmax (by omega) (Nat.le_refl _) ?_)
  intro v' w' hown hg _
  have hkk:w'.ownsRow w.heap.size 46 1 v' ks.length (ks.map encU):=by simpa using hown
  have HKK:Hid (w'.ownsRow w.heap.size 46 1 v' ks.length (ks.map encU)):=hkk
  clear hkk
  clear hown hnews hx
  go_wp2
  go_ret
  exact⟨_,rfl,HKK.out,below_grown hg (fun k h=>by cases h)⟩
set_option maxHeartbeats 1000000 in
theorem faulted3_is {a:Nat→Addr}{W:World}{c:Nat}{pl:Int}{v:Value}(he:Errs a W)(h:ErrIs a W c pl v) :
  Calls Tryz.prog 12 #[v,.agg #[.int .i64 c,.int .i64 pl]] W fun e w'=>e=.returned (.bool true)∧Below W.heap.size W w':=by
 have hba:Below W.heap.size W (W.alloc (.cells #[.int .i64 c,.int .i64 pl] 33)):=(Below.refl _ _).alloc (Nat.le_refl _) _
 have hc:=code_is (he.later hba) (h.later hba)
 go_enter Tryz.func12,Tryz.ntmps12
 go_wp2_with fail
 refine hc.mono ?_
 rintro e w1 ⟨rfl,hb1⟩
 have c0:w1.cell? ⟨W.heap.size,0,none⟩=some (.int .i64 c):=below_cell hb1 (by simp)
 have c1:w1.cell? ⟨W.heap.size,1,none⟩=some (.int .i64 pl):=below_cell hb1 (by simp)
 have hbz:Below W.heap.size W w1:=hba.trans (hb1.mono (by simp))
 clear hb1 hba hc
 cases hz:((c:Int)==0) with
 | true =>
  go_wp2
  go_ret
  exact⟨rfl,hbz⟩
 | false =>
  go_wp2
  go_ret
  exact⟨by simp,hbz⟩
set_option maxHeartbeats 1000000 in
open Lh in
theorem bucketOf_good (k n:Nat)(w:World)(hn1:1≤n)(hn:n≤1048576) :
  Calls Tryz.prog 16 #[.int .u64 (k:Nat),.int .i64 (n:Nat)] w fun e w'=>e=.returned (.tuple #[.int .i64 (jb k n:Nat),.int .i64 0])∧Below w.heap.size w w':=by
 have hp:=pathOf_good k n w hn1 hn
 have h0:=jlen_pos (k:=k) hn1
 have hle:=jlen_le k n
 have hjb:jat k (jlen k n - 1)=jb k n:=rfl
 have hget:∀h:jlen k n - 1<(jp k (jlen k n)).length,(jp k (jlen k n))[jlen k n - 1]=((jat k (jlen k n - 1):Nat):Int):=fun h=>jp_get k _ h
 have hlen:=jp_length k (jlen k n)
 rw[hjb] at hget
 generalize jb k n=r at *
 generalize jp k (jlen k n)=L at *
 generalize jlen k n=q at *
 clear hjb
 go_enter Tryz.func16,Tryz.ntmps16
 go_wp2_with fail
 refine hp.mono ?_
 rintro e w1 ⟨v,rfl,hown,hb⟩
 obtain⟨g,c,rfl,hqc,hx⟩:=owns_head hown h0
 have hck:=hx (q - 1) (by omega)
 rw[hget (by omega)] at hck
 have e1:((q:Int) - 1)=((q - 1:Nat):Int):=by omega
 have e2:IntKind.i64.wrap ((q:Int) - 1)=((q - 1:Nat):Int):=by rw[e1];simp[IntKind.wrap,IntKind.signed,IntKind.bits];omega
 have e3:((q - 1:Nat):Int)<(q:Int):=by omega
 clear hp hown hx hget
 go_wp2
 go_ret2
 exact⟨rfl,hb⟩
theorem keys0_of_owns {w:World}{base n:Nat}{v:Value}{e:TypeId}{ks:List Nat}(h:w.ownsRow base e 1 v n (ks.map encU)):Keys0 w v ks:=by
 obtain⟨hl,⟨rfl,rfl⟩|⟨g,cap,cur,rfl,hbase,hb,hn,hm,hsz,ht⟩⟩:=h
 ·exact .inl ⟨rfl,by simpa using hl⟩
 ·have hl':ks.length=n:=by simpa using hl
  refine .inr ⟨g,cap,cur,e,(0,0),by rw[hl'],hb,fun k hk=>?_⟩
  have hk':(cur.toList.take (n*1))[k]?=some (.int .u64 (ks[k]:Nat)):=by rw[ht];simp[hk,encU]
  rw[List.getElem?_take_of_lt (by omega)] at hk'
  simpa using hk'
theorem cells_both {W:World}{b:Nat}{x y x0 y0:Value}(c0:W.cell? ⟨b,0,none⟩=some x0)(c1:W.cell? ⟨b,1,none⟩=some y0):((W.setCell ⟨b,0,none⟩ x).setCell ⟨b,1,none⟩ y).cell? ⟨b,0,none⟩=some x∧((W.setCell ⟨b,0,none⟩ x).setCell ⟨b,1,none⟩ y).cell? ⟨b,1,none⟩=some y:=by
 exact⟨by simp[go_sem,c0],by simp[go_sem,c1]⟩
set_option maxHeartbeats 1000000 in
theorem workersFault_any (wk N most:Int)(w:World):Calls Tryz.prog 9 #[.int .i64 wk,.int .i64 N,.int .i64 most] w fun e w'=>e=.returned (.agg #[.int .i64 (chkN N most wk:Nat),.int .i64 (-1)])∧Below w.heap.size w w':=by
 have hba:Below w.heap.size w (w.alloc (.cells #[.int .i64 0,.int .i64 0] 33)):=(Below.refl _ _).alloc (Nat.le_refl _) _
 have B3:Hid (Calls Tryz.prog 21 #[.int .i64 3] (w.alloc (.cells #[.int .i64 0,.int .i64 0] 33)) fun e w'=>e=.returned (.agg #[.int .i64 3,.int .i64 (-1)])∧Below (w.alloc (.cells #[.int .i64 0,.int .i64 0] 33)).heap.size (w.alloc (.cells #[.int .i64 0,.int .i64 0] 33)) w'):=bare_any 3 _
 have B2:Hid (Calls Tryz.prog 21 #[.int .i64 2] (w.alloc (.cells #[.int .i64 0,.int .i64 0] 33)) fun e w'=>e=.returned (.agg #[.int .i64 2,.int .i64 (-1)])∧Below (w.alloc (.cells #[.int .i64 0,.int .i64 0] 33)).heap.size (w.alloc (.cells #[.int .i64 0,.int .i64 0] 33)) w'):=bare_any 2 _
 have B0:Hid (Calls Tryz.prog 22 #[] (w.alloc (.cells #[.int .i64 0,.int .i64 0] 33)) fun e w'=>e=.returned (.agg #[.int .i64 0,.int .i64 (-1)])∧Below (w.alloc (.cells #[.int .i64 0,.int .i64 0] 33)).heap.size (w.alloc (.cells #[.int .i64 0,.int .i64 0] 33)) w'):=fine_any _
 have fin:∀ {w1:World} {x y:Value},Below (w.alloc (.cells #[.int .i64 0,.int .i64 0] 33)).heap.size (w.alloc (.cells #[.int .i64 0,.int .i64 0] 33)) w1→w1.cell? ⟨w.heap.size,0,none⟩=some (.int .i64 0)∧w1.cell? ⟨w.heap.size,1,none⟩=some (.int .i64 0)∧w1.frozen? ⟨w.heap.size,0,none⟩=false∧w1.frozen? ⟨w.heap.size,1,none⟩=false∧Below w.heap.size w w1:=fun hb=>⟨below_cell hb (by simp),below_cell hb (by simp),by rw[hb.frozen (by simp)];simp,by rw[hb.frozen (by simp)];simp,hba.trans (hb.mono (by simp))⟩
 by_cases hw1:wk<1
 ·rw[show chkN N most wk=3 by simp[chkN,hw1]]
  go_enter Tryz.func9,Tryz.ntmps9
  go_wp2_with fail
  refine B3.out.mono ?_
  rintro e w1 ⟨rfl,hb1⟩
  obtain⟨c0,c1,f0,f1,hb⟩:=fin (x:=undef) (y:=undef) hb1
  clear hb1
  go_wp2
  have hh:=cells_both (x:=.int .i64 3) (y:=.int .i64 (-1)) c0 c1
  exact bodyPost_ret (v:=.agg #[.int .i64 3,.int .i64 (-1)]) (by simp[results,Tryz.results9,go_sem,hh.1,hh.2]) rfl ⟨rfl,(hb.setCell (Nat.le_refl _) _).setCell (Nat.le_refl _) _⟩
 ·by_cases hw2:16<wk
  ·rw[show chkN N most wk=3 by simp[chkN,hw2]]
   go_enter Tryz.func9,Tryz.ntmps9
   go_wp2_with fail
   refine B3.out.mono ?_
   rintro e w1 ⟨rfl,hb1⟩
   obtain⟨c0,c1,f0,f1,hb⟩:=fin (x:=undef) (y:=undef) hb1
   clear hb1
   go_wp2
   have hh:=cells_both (x:=.int .i64 3) (y:=.int .i64 (-1)) c0 c1
   exact bodyPost_ret (v:=.agg #[.int .i64 3,.int .i64 (-1)]) (by simp[results,Tryz.results9,go_sem,hh.1,hh.2]) rfl ⟨rfl,(hb.setCell (Nat.le_refl _) _).setCell (Nat.le_refl _) _⟩
  ·by_cases hm:most<N
   ·rw[show chkN N most wk=2 by simp[chkN,hw1,hw2,hm]]
    go_enter Tryz.func9,Tryz.ntmps9
    go_wp2_with fail
    refine B2.out.mono ?_
    rintro e w1 ⟨rfl,hb1⟩
    obtain⟨c0,c1,f0,f1,hb⟩:=fin (x:=undef) (y:=undef) hb1
    clear hb1
    go_wp2
    have hh:=cells_both (x:=.int .i64 2) (y:=.int .i64 (-1)) c0 c1
    exact bodyPost_ret (v:=.agg #[.int .i64 2,.int .i64 (-1)]) (by simp[results,Tryz.results9,go_sem,hh.1,hh.2]) rfl ⟨rfl,(hb.setCell (Nat.le_refl _) _).setCell (Nat.le_refl _) _⟩
   ·rw[show chkN N most wk=0 by unfold chkN;rw[if_neg (by omega),if_neg (by omega)]]
    go_enter Tryz.func9,Tryz.ntmps9
    go_wp2_with fail
    refine B0.out.mono ?_
    rintro e w1 ⟨rfl,hb1⟩
    obtain⟨c0,c1,f0,f1,hb⟩:=fin (x:=undef) (y:=undef) hb1
    clear hb1
    go_wp2
    have hh:=cells_both (x:=.int .i64 0) (y:=.int .i64 (-1)) c0 c1
    exact bodyPost_ret (v:=.agg #[.int .i64 0,.int .i64 (-1)]) (by simp[results,Tryz.results9,go_sem,hh.1,hh.2]) rfl ⟨rfl,(hb.setCell (Nat.le_refl _) _).setCell (Nat.le_refl _) _⟩
end Go.Proofs.YtjeicikflkjacaaGreatDoor.Sh
