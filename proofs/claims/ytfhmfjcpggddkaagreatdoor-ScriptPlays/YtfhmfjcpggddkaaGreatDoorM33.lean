/- The reference's OrderOf: the walk. -/
import Derived.Test.YtfhmfjcpggddkaaGreatDoorM32
import Derived.Test.YtfhmfjcpggddkaaGreatDoorM28
import Derived.Test.YtfhmfjcpggddkaaGreatDoorM19
import Derived.Test.YtfhmfjcpggddkaaGreatDoorM31
import Derived.Deep.RegionHeld3
set_option maxHeartbeats 20000000
set_option maxRecDepth 100000
namespace Go.Proofs.YtfhmfjcpggddkaaGreatDoor
open Go.RowKit Go.Sort
theorem vowns_cells {w:World}{base n g cap:Nat}{e:TypeId}{xs:List ByteArray}(h:w.ownsRow base e 1 (.slice (some ⟨g,0,none⟩) n cap) n (xs.map Value.string)):∀k (h:k<xs.length),w.cell? ⟨g,k,none⟩=some (.string xs[k]):=by
 intro k hk
 have hl:xs.length=n:=by simpa using h.1
 rw[h.cellAt k (by omega)]
 simp[hk]
theorem vowns_mono {w:World}{base base' n:Nat}{e:TypeId}{v:Value}{xs:List Value}(h:w.ownsRow base e 1 v n xs)(hb:base'≤base):w.ownsRow base' e 1 v n xs:=by
 obtain⟨h1,h2|⟨g,cap,cur,e1,e2,e3⟩⟩:=h
 ·exact⟨h1,Or.inl h2⟩
 ·exact⟨h1,Or.inr ⟨g,cap,cur,e1,by omega,e3⟩⟩
theorem orderOf_core (f:ByteArray→Nat)(b o c:Nat)(xs:List ByteArray)(z:Nat)(w:World)(hx:∀k (h:k<xs.length),w.cell? ⟨b,o+k,none⟩=some (.string xs[k]))(hm:xs.length<1000000)
  (hsc:∀s∈xs,∀W,Calls Tryz.prog 129 #[.string s,.int .u64 (z:Nat)] W fun e w'=>e=.returned (.int .u64 (f s:Nat))∧w'=W) :
  Calls Tryz.prog 84 #[.slice (some ⟨b,o,none⟩) xs.length c,.int .u64 (z:Nat)] w fun e w'=>∃v',e=.returned v'∧Strs1 w' v' (Lh.order f xs)∧Below w.heap.size w w':=by
 obtain⟨i,hi,hz0,hz1,hz2⟩:=info_parts infoS
 have HX:Hid (∀k (h:k<xs.length),w.cell? ⟨b,o+k,none⟩=some (.string xs[k])):=hx
 have HSC:Hid (∀s∈xs,∀W,Calls Tryz.prog 129 #[.string s,.int .u64 (z:Nat)] W fun e w'=>e=.returned (.int .u64 (f s:Nat))∧w'=W):=hsc
 clear hx hsc
 go_enter Tryz.func84,Tryz.ntmps84
 go_wp2
 go_loopw [5,6] (fun vo t W=>Below w.heap.size w W∧∃(n:Nat) (ys:List ByteArray),n≤xs.length∧t=.int .i64 n∧W.ownsRow w.heap.size 9 1 vo n (ys.map Value.string)∧ys.Pairwise (Lh.leR f)∧ys.Perm (xs.take n)) (fun _ t _=>xs.length - (intOf t).toNat)
 case atStart=>exact⟨Below.refl _ _,0,[],Nat.zero_le _,rfl,owns_nil _ _ _,List.Pairwise.nil,by simp⟩
 case round =>
  obtain⟨hb,n,ys,hn,rfl,hown,hsort,hperm⟩:=hrel
  have HSO:Hid (ys.Pairwise (Lh.leR f)):=hsort
  have HPE:Hid (ys.Perm (xs.take n)):=hperm
  have HMEM:Hid (∀s∈ys,s∈xs):=fun s hs=>List.mem_of_mem_take (hperm.mem_iff.1 hs)
  clear hsort hperm
  have hyl:ys.length=n:=by simpa using hown.1
  by_cases hlt:n<xs.length
  ·have cx:=below_cell hb (HX.out n hlt)
   have hsx:=HSC.out xs[n] (List.getElem_mem hlt)
   generalize hxn:xs[n]=x at *
   have HXN:Hid (xs[n]=x):=hxn
   clear hxn
   obtain⟨hl,⟨rfl,rfl⟩|⟨g,cap,cur,rfl,hbase,hbk,hn',hcm,hsz,ht⟩⟩:=hown
   ·obtain rfl:ys=[]:=by simpa using hl
    rw[Nat.add_zero] at cx
    go_wp2_with fail
    refine (hsx _).mono ?_
    rintro e w1 ⟨rfl,rfl⟩
    clear hsx
    go_wp2_with fail
    refine wp_loop_rounds 1 ?_
    rw[rounds_succ]
    have hbs:∀q,w.heap.size≤(w1.alloc q).heap.size:=fun q=>by
     have h1:(w1.alloc q).heap.size=w1.heap.size+1:=by simp
     have:=hb.size
     omega
    have hnew:=cell_one_new w1 (.string x) 9
    have hmx:0+1≤maxLen:=by unfold maxLen;omega
    have tok1:True:=trivial
    have tok2:True:=trivial
    have tok3:True:=trivial
    go_wp2_with (first|(at_builtin;have _t:=tok1;refine wpList_append_own_none rfl _ _ 22 rfl w.heap.size 9 i 1 Tryz.underlying22 hi (.slice none 0 0) 0 _ rfl (owns_nil _ _ _) rfl ?_;clear tok1 _t)|(at_builtin;have _t:=tok2;refine wpList_append_own _ rfl _ _ 22 rfl w.heap.size 9 i _ 1 16 Tryz.underlying22 hi hz0 hz1 hz2 rfl (by decide) (.slice none 0 0) 0 _ rfl (owns_nil _ _ _) ⟨w1.heap.size,0,none⟩ 1 1 [.string x] rfl rfl hnew (strs_oneCell [x]) hmx (by omega) (hbs _) ?_;intro v2 w2 hown2 hg2 hnil2;clear tok2 _t)|(at_builtin;have _t:=tok3;refine wpList_append_own_none rfl _ _ 22 rfl w.heap.size 9 i 1 Tryz.underlying22 hi v2 (0+1) _ rfl hown2 rfl ?_;clear tok3 _t))
    have hb2:Below w.heap.size w w2:=(hb.alloc hb.size _).grown hg2 (hbs _) (fun k h=>by cases h)
    refine⟨⟨hb2,1,[x],by omega,rfl,by simpa using hown2,List.pairwise_singleton _ _,?_⟩,by simp[intOf];omega⟩
    have:=Lh.insR_perm (ys:=[]) (k:=0) hlt HPE.out
    rw[HXN.out] at this
    simpa using this
   ·have hcy:=fun k (h:k<ys.length)=>vowns_cells (w:=wr) (base:=w.heap.size) (e:=9) (n:=n) (g:=g) (cap:=cap) (xs:=ys) ⟨hl,Or.inr ⟨g,cap,cur,rfl,hbase,hbk,hn',hcm,hsz,ht⟩⟩ k h
    have HCY:Hid (∀k (h:k<ys.length),wr.cell? ⟨g,k,none⟩=some (.string ys[k])):=hcy
    have HYL:Hid (ys.length=n):=hyl
    clear hcy hyl hl hsz ht hbk
    unfold maxLen at hcm
    go_wp2_with fail
    refine (hsx _).mono ?_
    rintro e w1 ⟨rfl,rfl⟩
    clear hsx
    generalize w1=W0 at *
    generalize hfx:f x=fx at *
    have HFX:Hid (f x=fx):=hfx
    clear hfx
    go_wp2_with fail
    go_loopw [7] (fun t W=>Below W0.heap.size W0 W∧∃k:Nat,k≤n∧t=.int .i64 k∧∀j (h:j<ys.length),j<k→Lh.leR f ys[j] x) (fun t _=>n - (intOf t).toNat)
    case atStart=>exact⟨Below.refl _ _,0,Nat.zero_le _,rfl,fun j _ h=>absurd h (by omega)⟩
    case round =>
     obtain⟨hbr,k,hk,rfl,hlo⟩:=hrel
     have HLO:Hid (∀j (h:j<ys.length),j<k→Lh.leR f ys[j] x):=hlo
     clear hlo
     have cxr:=below_cell hbr cx
     by_cases hkn:k<n
     ·have hky:k<ys.length:=by have:=HYL.out;omega
      have cyr:=below_cell hbr (HCY.out k hky)
      have hd:decide ((k:Int)<(n:Int))=true:=by simp;omega
      have hi1:(k:Int)<(n:Int):=by omega
      have hi2:(n:Int)<(xs.length:Int):=by omega
      have hsy:=HSC.out ys[k] (HMEM.out _ (List.getElem_mem hky))
      generalize hyk:ys[k]=yk at *
      have HYK:Hid (ys[k]=yk):=hyk
      clear hyk
      have HCASE:Hid ((f yk<fx)∨(fx=f yk∧Op.bytesLess x.toList yk.toList=true)∨(fx=f yk∧Op.bytesLess x.toList yk.toList=false)∨fx<f yk):=by
       rcases Nat.lt_trichotomy fx (f yk) with h|h|h
       ·exact Or.inr (Or.inr (Or.inr h))
       ·cases hq:Op.bytesLess x.toList yk.toList with
        | true=>exact Or.inr (Or.inl ⟨h,rfl⟩)
        | false=>exact Or.inr (Or.inr (Or.inl ⟨h,rfl⟩))
       ·exact Or.inl h
      go_wp2_with fail
      refine (hsy _).mono ?_
      rintro e w1 ⟨rfl,rfl⟩
      clear hsy
      generalize hfy:f yk=fy at *
      have HFY:Hid (f yk=fy):=hfy
      clear hfy
      rcases HCASE.out with h1|⟨h1,hless⟩|⟨h1,hless⟩|h1
      ·have HHI:Hid (∀h:k<ys.length,Lh.leR f x ys[k]):=fun h=>by rw[HYK.out];exact Lh.leR_more (by rw[HFX.out,HFY.out];exact h1)
       have g1:decide (fy<fx)=true:=by simpa using h1
       clear h1 HCASE
       go_wp2_with fail
       go_quiet (fail)
       have hbq:Below W0.heap.size W0 (w1.drewN nq):=below_drewN hbr nq
       have hsq:W0.heap.size≤(w1.drewN nq).heap.size:=hbq.size
       have hs1:∀j u,((ys.take k).map Value.string)[j]?=some u→(w1.drewN nq).cell? ((⟨g,0,none⟩:Addr).add j)=some u:=cells_strs (fun j hj=>by
        have hj':j<ys.length:=by simp at hj;omega
        have:=below_cell hbq (HCY.out j hj')
        rw[Nat.zero_add,this];simp)
       have hlt1:((ys.take k).map Value.string).length=k*1:=by have:=HYL.out;simp;omega
       have hs3:∀W,Below W0.heap.size W0 W→∀j u,((ys.drop k).map Value.string)[j]?=some u→W.cell? ((⟨g,k,none⟩:Addr).add j)=some u:=fun W hW=>cells_strs (fun j hj=>by
        have hj':k+j<ys.length:=by simp at hj;omega
        have:=below_cell hW (HCY.out (k+j) hj')
        rw[this];simp)
       have hlt3:((ys.drop k).map Value.string).length=(n - k)*1:=by have:=HYL.out;simp;omega
       have hm1:0+k≤maxLen:=by unfold maxLen;omega
       have hm2:0+k+1≤maxLen:=by unfold maxLen;omega
       have hm3:0+k+1+(n - k)≤maxLen:=by unfold maxLen;omega
       have HHS:Hid _:=hs3
       clear hs3
       have tok1:True:=trivial
       have tok2:True:=trivial
       have tok3:True:=trivial
       go_wp2_with (first|(at_builtin;have _t:=tok1;refine wpList_append_own _ rfl _ _ 22 rfl W0.heap.size 9 i _ 1 16 Tryz.underlying22 hi hz0 hz1 hz2 rfl (by decide) (.slice none 0 0) 0 _ rfl (owns_nil _ _ _) ⟨g,0,none⟩ k cap ((ys.take k).map Value.string) rfl hlt1 hs1 (strs_oneCell _) hm1 (by omega) hsq ?_;intro v1 w1 hown1 hg1 hnil1;have hb1:Below W0.heap.size W0 w1:=hbq.grown hg1 hsq (fun k h=>by cases h);have cx1:=below_cell hb1 cx;clear tok1 _t hnil1)|(at_builtin;have _t:=tok2;refine wpList_append_own _ rfl _ _ 22 rfl W0.heap.size 9 i _ 1 16 Tryz.underlying22 hi hz0 hz1 hz2 rfl (by decide) v1 (0+k) _ rfl (hown1.alloc _) ⟨w1.heap.size,0,none⟩ 1 1 [.string x] rfl rfl (cell_one_new w1 (.string x) 9) (strs_oneCell [x]) hm2 (by omega) (Nat.le_trans hb1.size (by simp)) ?_;intro v2 w2 hown2 hg2 hnil2;have hb2:Below W0.heap.size W0 w2:=(hb1.alloc hb1.size _).grown hg2 (Nat.le_trans hb1.size (by simp)) (fun k h=>(hown1.lt k h).1);clear tok2 _t hnil2)|(at_builtin;have _t:=tok3;refine wpList_append_own _ rfl _ _ 22 rfl W0.heap.size 9 i _ 1 16 Tryz.underlying22 hi hz0 hz1 hz2 rfl (by decide) v2 (0+k+1) _ rfl hown2 ⟨g,k,none⟩ (n - k) (cap - k) ((ys.drop k).map Value.string) rfl hlt3 (HHS.out _ hb2) (strs_oneCell _) hm3 (by omega) hb2.size ?_;intro v3 w3 hown3 hg3 hnil3;clear tok3 _t hnil3))
       have hb3:Below W0.heap.size W0 w3:=hb2.grown hg3 hb2.size (fun k h=>(hown2.lt k h).1)
       refine⟨⟨hb.trans (hb3.mono hb.size),n+1,ys.take k++x :: ys.drop k,by omega,by go_num,?_,Lh.insR_sorted HSO.out HLO.out HHI.out,?_⟩,by simp[intOf];omega⟩
       ·have h3:=vowns_mono hown3 hb.size
        rw[show 0+k+1+(n - k)=n+1 by omega] at h3
        simpa using h3
       ·have:=Lh.insR_perm (k:=k) hlt HPE.out
        rwa [HXN.out] at this
      ·have HHI:Hid (∀h:k<ys.length,Lh.leR f x ys[k]):=fun h=>by rw[HYK.out];exact Lh.leR_same (by rw[HFX.out,HFY.out];exact h1) hless
       have g1:decide (fy<fx)=false:=by simp;omega
       have g2:((fx:Int)==(fy:Int))=true:=by simp;omega
       have g3:(fx==fy)=true:=by simp;omega
       clear h1 HCASE
       go_wp2_with fail
       go_quiet (fail)
       have hbq:Below W0.heap.size W0 (w1.drewN nq):=below_drewN hbr nq
       have hsq:W0.heap.size≤(w1.drewN nq).heap.size:=hbq.size
       have hs1:∀j u,((ys.take k).map Value.string)[j]?=some u→(w1.drewN nq).cell? ((⟨g,0,none⟩:Addr).add j)=some u:=cells_strs (fun j hj=>by
        have hj':j<ys.length:=by simp at hj;omega
        have:=below_cell hbq (HCY.out j hj')
        rw[Nat.zero_add,this];simp)
       have hlt1:((ys.take k).map Value.string).length=k*1:=by have:=HYL.out;simp;omega
       have hs3:∀W,Below W0.heap.size W0 W→∀j u,((ys.drop k).map Value.string)[j]?=some u→W.cell? ((⟨g,k,none⟩:Addr).add j)=some u:=fun W hW=>cells_strs (fun j hj=>by
        have hj':k+j<ys.length:=by simp at hj;omega
        have:=below_cell hW (HCY.out (k+j) hj')
        rw[this];simp)
       have hlt3:((ys.drop k).map Value.string).length=(n - k)*1:=by have:=HYL.out;simp;omega
       have hm1:0+k≤maxLen:=by unfold maxLen;omega
       have hm2:0+k+1≤maxLen:=by unfold maxLen;omega
       have hm3:0+k+1+(n - k)≤maxLen:=by unfold maxLen;omega
       have HHS:Hid _:=hs3
       clear hs3
       have tok1:True:=trivial
       have tok2:True:=trivial
       have tok3:True:=trivial
       go_wp2_with (first|(at_builtin;have _t:=tok1;refine wpList_append_own _ rfl _ _ 22 rfl W0.heap.size 9 i _ 1 16 Tryz.underlying22 hi hz0 hz1 hz2 rfl (by decide) (.slice none 0 0) 0 _ rfl (owns_nil _ _ _) ⟨g,0,none⟩ k cap ((ys.take k).map Value.string) rfl hlt1 hs1 (strs_oneCell _) hm1 (by omega) hsq ?_;intro v1 w1 hown1 hg1 hnil1;have hb1:Below W0.heap.size W0 w1:=hbq.grown hg1 hsq (fun k h=>by cases h);have cx1:=below_cell hb1 cx;clear tok1 _t hnil1)|(at_builtin;have _t:=tok2;refine wpList_append_own _ rfl _ _ 22 rfl W0.heap.size 9 i _ 1 16 Tryz.underlying22 hi hz0 hz1 hz2 rfl (by decide) v1 (0+k) _ rfl (hown1.alloc _) ⟨w1.heap.size,0,none⟩ 1 1 [.string x] rfl rfl (cell_one_new w1 (.string x) 9) (strs_oneCell [x]) hm2 (by omega) (Nat.le_trans hb1.size (by simp)) ?_;intro v2 w2 hown2 hg2 hnil2;have hb2:Below W0.heap.size W0 w2:=(hb1.alloc hb1.size _).grown hg2 (Nat.le_trans hb1.size (by simp)) (fun k h=>(hown1.lt k h).1);clear tok2 _t hnil2)|(at_builtin;have _t:=tok3;refine wpList_append_own _ rfl _ _ 22 rfl W0.heap.size 9 i _ 1 16 Tryz.underlying22 hi hz0 hz1 hz2 rfl (by decide) v2 (0+k+1) _ rfl hown2 ⟨g,k,none⟩ (n - k) (cap - k) ((ys.drop k).map Value.string) rfl hlt3 (HHS.out _ hb2) (strs_oneCell _) hm3 (by omega) hb2.size ?_;intro v3 w3 hown3 hg3 hnil3;clear tok3 _t hnil3))
       have hb3:Below W0.heap.size W0 w3:=hb2.grown hg3 hb2.size (fun k h=>(hown2.lt k h).1)
       refine⟨⟨hb.trans (hb3.mono hb.size),n+1,ys.take k++x :: ys.drop k,by omega,by go_num,?_,Lh.insR_sorted HSO.out HLO.out HHI.out,?_⟩,by simp[intOf];omega⟩
       ·have h3:=vowns_mono hown3 hb.size
        rw[show 0+k+1+(n - k)=n+1 by omega] at h3
        simpa using h3
       ·have:=Lh.insR_perm (k:=k) hlt HPE.out
        rwa [HXN.out] at this
      ·have HLE:Hid (Lh.leR f yk x):=Lh.leR_same_not (by rw[HFX.out,HFY.out];exact h1) hless
       have g1:decide (fy<fx)=false:=by simp;omega
       have g2:((fx:Int)==(fy:Int))=true:=by simp;omega
       have g3:(fx==fy)=true:=by simp;omega
       clear h1 HCASE
       go_wp2_with fail
       go_quiet (fail)
       go_wp2_with fail
       refine⟨⟨below_drewN hbr _,k+1,by omega,by go_num,fun j h hj=>?_⟩,by simp[intOf];omega⟩
       by_cases e:j=k
       ·subst e;rw[HYK.out];exact HLE.out
       ·exact HLO.out j h (by omega)
      ·have HLE:Hid (Lh.leR f yk x):=Lh.leR_less (by rw[HFX.out,HFY.out];exact h1)
       have g1:decide (fy<fx)=false:=by simp;omega
       have g2:((fx:Int)==(fy:Int))=false:=by rw[beq_eq_false_iff_ne];omega
       have g3:(fx==fy)=false:=by rw[beq_eq_false_iff_ne];omega
       clear h1 HCASE
       go_wp2_with fail
       go_quiet (fail)
       go_wp2_with fail
       refine⟨⟨below_drewN hbr _,k+1,by omega,by go_num,fun j h hj=>?_⟩,by simp[intOf];omega⟩
       by_cases e:j=k
       ·subst e;rw[HYK.out];exact HLE.out
       ·exact HLO.out j h (by omega)
     ·have hkk:k=n:=by omega
      subst hkk
      have HHI:Hid (∀h:k<ys.length,Lh.leR f x ys[k]):=fun h=>absurd h (by have:=HYL.out;omega)
      have hd:decide ((k:Int)<(k:Int))=false:=by simp
      have hi2:(k:Int)<(xs.length:Int):=by omega
      have hbq:Below W0.heap.size W0 wr:=hbr
      have hsq:W0.heap.size≤wr.heap.size:=hbq.size
      have hs1:∀j u,((ys.take k).map Value.string)[j]?=some u→wr.cell? ((⟨g,0,none⟩:Addr).add j)=some u:=cells_strs (fun j hj=>by
       have hj':j<ys.length:=by simp at hj;omega
       have:=below_cell hbq (HCY.out j hj')
       rw[Nat.zero_add,this];simp)
      have hlt1:((ys.take k).map Value.string).length=k*1:=by have:=HYL.out;simp;omega
      have hs3:∀(W:World) (ad:Addr) j u,(([]:List ByteArray).map Value.string)[j]?=some u→W.cell? (ad.add j)=some u:=fun W ad j u h=>by simp at h
      have hm1:0+k≤maxLen:=by unfold maxLen;omega
      have hm2:0+k+1≤maxLen:=by unfold maxLen;omega
      have hm3:0+k+1+0≤maxLen:=by unfold maxLen;omega
      obtain⟨ad,hif⟩:∃ad:Addr,(if cap=k then (some ⟨g,0,none⟩:Option Addr) else some ⟨g,k,none⟩)=some ad:=by
       by_cases h:cap=k
       ·exact⟨_,by rw[if_pos h]⟩
       ·exact⟨_,by rw[if_neg h]⟩
      have HHS:Hid _:=hs3
      clear hs3
      have tok1:True:=trivial
      have tok2:True:=trivial
      have tok3:True:=trivial
      go_wp2_with (first|(at_builtin;have _t:=tok1;refine wpList_append_own _ rfl _ _ 22 rfl W0.heap.size 9 i _ 1 16 Tryz.underlying22 hi hz0 hz1 hz2 rfl (by decide) (.slice none 0 0) 0 _ rfl (owns_nil _ _ _) ⟨g,0,none⟩ k cap ((ys.take k).map Value.string) rfl hlt1 hs1 (strs_oneCell _) hm1 (by omega) hsq ?_;intro v1 w1 hown1 hg1 hnil1;have hb1:Below W0.heap.size W0 w1:=hbq.grown hg1 hsq (fun k h=>by cases h);have cx1:=below_cell hb1 cx;clear tok1 _t hnil1)|(at_builtin;have _t:=tok2;refine wpList_append_own _ rfl _ _ 22 rfl W0.heap.size 9 i _ 1 16 Tryz.underlying22 hi hz0 hz1 hz2 rfl (by decide) v1 (0+k) _ rfl (hown1.alloc _) ⟨w1.heap.size,0,none⟩ 1 1 [.string x] rfl rfl (cell_one_new w1 (.string x) 9) (strs_oneCell [x]) hm2 (by omega) (Nat.le_trans hb1.size (by simp)) ?_;intro v2 w2 hown2 hg2 hnil2;have hb2:Below W0.heap.size W0 w2:=(hb1.alloc hb1.size _).grown hg2 (Nat.le_trans hb1.size (by simp)) (fun k h=>(hown1.lt k h).1);clear tok2 _t hnil2)|(at_builtin;have _t:=tok3;refine wpList_append_own _ rfl _ _ 22 rfl W0.heap.size 9 i _ 1 16 Tryz.underlying22 hi hz0 hz1 hz2 rfl (by decide) v2 (0+k+1) _ rfl hown2 ad 0 (cap - k) (([]:List ByteArray).map Value.string) rfl rfl (HHS.out _ _) (strs_oneCell _) hm3 (by omega) hb2.size ?_;intro v3 w3 hown3 hg3 hnil3;clear tok3 _t hnil3))
      have hb3:Below W0.heap.size W0 w3:=hb2.grown hg3 hb2.size (fun k h=>(hown2.lt k h).1)
      refine⟨⟨hb.trans (hb3.mono hb.size),k+1,ys.take k++x :: ys.drop k,by omega,by go_num,?_,Lh.insR_sorted HSO.out HLO.out HHI.out,?_⟩,by simp[intOf];omega⟩
      ·have h3:=vowns_mono hown3 hb.size
       rw[show 0+k+1+0=k+1 by omega] at h3
       have hdr:ys.drop k=[]:=List.drop_of_length_le (by have:=HYL.out;omega)
       rw[hdr]
       simpa using h3
      ·have:=Lh.insR_perm (k:=k) hlt HPE.out
       rwa [HXN.out] at this
  ·have hfull:xs.take n=xs:=List.take_of_length_le (by omega)
   have hperm:=HPE.out
   rw[hfull] at hperm
   have hfin:=Lh.order_unique HSO.out hperm
   have hst:=strs_of_owns hown
   rw[hfin] at hst
   have HST:Hid _:=hst
   clear hst hfin hperm hfull hown hyl
   go_wp2
   go_ret
   exact⟨_,rfl,HST.out,hb⟩
end Go.Proofs.YtfhmfjcpggddkaaGreatDoor
namespace Go.Proofs.YtfhmfjcpggddkaaGreatDoor
open Go.RowKit Lh
structure Hst (W:World)(m b o c:Nat)(xs:List ByteArray):Prop where
 cell:W.cell? ⟨m,1,none⟩=some (.slice (some ⟨b,o,none⟩) xs.length c)
 cap:xs.length≤c
 at_:∀k (h:k<xs.length),W.cell? ⟨b,o+k,none⟩=some (.string xs[k])
 pos:0<xs.length
 le:xs.length≤12
 sz:∀s∈xs,s.size≤60
 fault:IsFault xs 0 (-1)
section
variable {W W':World} {m b o c:Nat} {xs:List ByteArray}
theorem Hst.later (h:Hst W m b o c xs)(hb:Below W.heap.size W W'):Hst W' m b o c xs:=⟨below_cell hb h.cell,h.cap,fun k hk=>below_cell hb (h.at_ k hk),h.pos,h.le,h.sz,h.fault⟩
theorem Hst.strs (h:Hst W m b o c xs):Strs1 W (.slice (some ⟨b,o,none⟩) xs.length c) xs:=Or.inr ⟨b,o,c,rfl,h.cap,h.at_⟩
theorem Hst.s300 (h:Hst W m b o c xs):∀k (hk:k<xs.length),(xs[k]).size≤300:=fun k hk=>Nat.le_trans (h.sz _ (List.getElem_mem hk)) (by decide)
theorem Hst.sBig (h:Hst W m b o c xs):∀k (hk:k<xs.length),(xs[k]).size≤1000000:=fun k hk=>Nat.le_trans (h.sz _ (List.getElem_mem hk)) (by decide)
theorem Hst.blk (h:Hst W m b o c xs):b<W.heap.size:=World.block_lt_of_cell? W ⟨b,o+0,none⟩ (h.at_ 0 h.pos)
end
theorem wrap_u7 (n:Nat)(h:n≤9999999):IntKind.u64.wrap (n:Int)=(n:Int):=by simp[IntKind.wrap,IntKind.signed,IntKind.bits];omega
theorem asked_rival (m b o c:Nat)(xs:List ByteArray)(w:ByteArray)(hp:Option Addr)(hn hc nb no nc:Nat)(k:Nat)(W:World)(hH:Hst W m b o c xs)(hw:tx w=wRival)(hk:W.cell? ⟨nb,no,none⟩=some (.int .i64 (k:Nat)))(hk7:k≤9999999) :
  Calls Tryz.prog 30 #[.pointer (some ⟨m,0,none⟩),.agg #[.string w,.slice hp hn hc,.slice (some ⟨nb,no,none⟩) 1 nc]] W fun e w'=>e=.returned (.string (bt (joinL 32 ((order (score k) xs).map tx))))∧Below W.heap.size W w':=by
 have q1:=word_not (s:=w) (w:=wTable) (by rw[hw];decide)
 have q2:=word_not (s:=w) (w:=wMoves) (by rw[hw];decide)
 have q3:=word_not (s:=w) (w:=wRing) (by rw[hw];decide)
 unfold wTable at q1
 unfold wMoves at q2
 unfold wRing at q3
 clear hw
 obtain⟨wa,hwa⟩:∃wa,wa=W.alloc (.cells #[.string w,.slice hp hn hc,.slice (some ⟨nb,no,none⟩) 1 nc] 36):=⟨_,rfl⟩
 have hba:Below W.heap.size W wa:=by rw[hwa];exact (Below.refl _ _).alloc (Nat.le_refl _) _
 have k0:wa.cell? ⟨W.heap.size,0,none⟩=some (.string w):=by rw[hwa];simp
 have k2:wa.cell? ⟨W.heap.size,2,none⟩=some (.slice (some ⟨nb,no,none⟩) 1 nc):=by rw[hwa];simp
 have hka:=below_cell hba hk
 have hH':=hH.later hba
 have hm1:=hH'.cell
 have HOR:Hid (∀w',Below wa.heap.size wa w'→Calls Tryz.prog 84 #[.slice (some ⟨b,o,none⟩) xs.length c,.int .u64 (k:Nat)] w' fun e w''=>∃v',e=.returned v'∧Strs1 w'' v' (order (score k) xs)∧Below wa.heap.size wa w''):=fun w' hb=>(orderOf_core (score k) b o c xs k w' (hH'.later hb).at_ (by have:=hH'.le;omega) (fun s hs W=>scoreOf_any s k (by omega) W (by have:=hH'.sz s hs;omega))).mono fun _ _ ⟨v',r1,r2,r3⟩=>⟨v',r1,r2,below_then hb r3⟩
 have HO:Hid (∀W' v,Strs1 W' v (order (score k) xs)→Below wa.heap.size wa W'→Calls Tryz.prog 27 #[v,.string ⟨#[32]⟩] W' fun r w'=>r=.returned (.string (bt (joinL 32 ((order (score k) xs).map tx))))∧Below wa.heap.size wa w'):=fun W' v hv hb=>by
  have hpm:(order (score k) xs).Perm xs:=List.mergeSort_perm _ _
  have e:joinL 32 ((order (score k) xs).map tx)=joinedS (tx ⟨#[32]⟩) ((order (score k) xs).map tx):=by
   rw[joinL_joinS]
   unfold joinedS
   rw[if_neg]
   ·rfl
   ·intro e
    have h1:=congrArg List.length e
    rw[List.length_map,hpm.length_eq] at h1
    have:=hH'.pos
    rw[List.length_nil] at h1
    omega
  rw[e]
  exact (joined_any v (order (score k) xs) ⟨#[32]⟩ W' hv (by rw[hpm.length_eq];have:=hH'.le;omega) (fun s hs=>by have:=hH'.sz s (hpm.mem_iff.1 hs);omega) (by decide)).mono fun _ _ ⟨r1,r2⟩=>⟨r1,below_then hb r2⟩
 have HBA:Hid (Below W.heap.size W wa):=hba
 have HC:Hid (∀w',Below wa.heap.size wa w'→w'.cell? ⟨m,1,none⟩=some (.slice (some ⟨b,o,none⟩) xs.length c)∧w'.cell? ⟨W.heap.size,2,none⟩=some (.slice (some ⟨nb,no,none⟩) 1 nc)∧w'.cell? ⟨nb,no,none⟩=some (.int .i64 (k:Nat))):=fun w' hb=>⟨below_cell hb hm1,below_cell hb k2,below_cell hb hka⟩
 have hb0:Below wa.heap.size wa wa.drew:=below_drewN (Below.refl _ _) 1
 have hwr:=wrap_u7 k hk7
 generalize order (score k) xs=ys at *
 clear hH hH' hba hk
 go_enter Tryz.func30,Tryz.ntmps30
 go_wp2_with fail
 rw[←hwa]
 clear hwa
 go_region_held3 (fun w'=>w'.cell? ⟨m,1,none⟩=some (.slice (some ⟨b,o,none⟩) xs.length c)∧w'.cell? ⟨W.heap.size,2,none⟩=some (.slice (some ⟨nb,no,none⟩) 1 nc)∧w'.cell? ⟨nb,no,none⟩=some (.int .i64 (k:Nat)))
  (first|exact HC.out _ (by assumption))
  (first
   | (go_at_call 84;refine (HOR.out _ (by assumption)).mono ?_;rintro e w1 ⟨v1,rfl,hv1,hb1⟩)
   | (go_at_call 27;refine (HO.out _ _ (by assumption) (by assumption)).mono ?_;rintro e w2 ⟨rfl,hb2⟩))
 all_goals
  go_wp2
  go_ret
  exact⟨rfl,below_then HBA.out (by assumption)⟩
theorem below_al {w w':World}(h:Below w.heap.size w w')(o:Obj):Below w.heap.size w (w'.alloc o):=h.alloc h.size o
theorem below_ald {w:World}(o:Obj):Below w.heap.size w (w.alloc o).drew:=below_drewN (below_al (Below.refl _ _) o) 1
theorem al_cells {w w1:World}{x y:Value}{t:TypeId}(hb:Below (w.alloc (.cells #[x,y] t)).drew.heap.size (w.alloc (.cells #[x,y] t)).drew w1):w1.cell? ⟨w.heap.size,0,none⟩=some x∧w1.cell? ⟨w.heap.size,1,none⟩=some y∧w1.frozen? ⟨w.heap.size,0,none⟩=false∧w1.frozen? ⟨w.heap.size,1,none⟩=false:=by
 have hb':Below (w.alloc (.cells #[x,y] t)).heap.size (w.alloc (.cells #[x,y] t)) w1:=below_of_drew hb
 exact⟨below_cell hb' (by simp),below_cell hb' (by simp),by rw[hb'.frozen (by simp)];simp,by rw[hb'.frozen (by simp)];simp⟩
open Go.Sort in
theorem ring_exS (c:Nat)(xs:List ByteArray):∃P,Lh.IsRing c xs P:=by
 obtain⟨P,hP⟩:∃P,Lh.pts c xs=P:=⟨_,rfl⟩
 refine⟨P.mergeSort fun x y=>!(ltOf cfP) y x,by rw[hP];exact List.mergeSort_perm _ _,?_⟩
 have:=List.pairwise_mergeSort (le:=fun x y=>!(ltOf cfP) y x) (fun a b c h k=>by
  simp only[Bool.not_eq_eq_eq_not,Bool.not_true] at h k ⊢
  rw[ltP_false] at *
  exact Lh.leF_trans h k) (fun a b=>by
  by_cases h:ltOf cfP b a=false
  ·simp[h]
  ·have h':ltOf cfP b a=true:=by simpa using h
   have h2:ltOf cfP a b=false:=by
    rw[←Bool.not_eq_true]
    intro h3
    have:=swoP.trans _ _ _ h' h3
    rw[swoP.irrefl] at this
    cases this
   simp[h2]) P
 refine this.imp fun {a b} h=>?_
 simp only[Bool.not_eq_eq_eq_not,Bool.not_true] at h
 exact (ltP_false b a).1 h
theorem rng_fault {xs:List ByteArray}{n:Nat}(h0:0<xs.length)(hf:IsFault xs 0 (-1)):(¬(1≤n∧n≤16)∧RngFault xs (n:Nat) 2 (-1))∨((1≤n∧n≤16)∧RngFault xs (n:Nat) 0 (-1)):=by
 by_cases h:1≤n∧n≤16
 ·exact Or.inr ⟨h,Or.inr (Or.inr ⟨h0,hf,Or.inr ⟨n,rfl,h.1,h.2,rfl⟩,rfl⟩)⟩
 ·exact Or.inl ⟨h,Or.inr (Or.inr ⟨h0,hf,Or.inl ⟨by omega,rfl⟩,rfl⟩)⟩
theorem asked_ring (m b o c:Nat)(xs:List ByteArray)(w:ByteArray)(hp:Option Addr)(hn hc nb no nc:Nat)(k z:Nat)(W:World)(hH:Hst W m b o c xs)(hw:tx w=wRing)(hk:W.cell? ⟨nb,no,none⟩=some (.int .i64 (k:Nat)))(hz:W.cell? ⟨nb,no+1,none⟩=some (.int .i64 (z:Nat)))(hz7:z≤9999999) :
  Calls Tryz.prog 30 #[.pointer (some ⟨m,0,none⟩),.agg #[.string w,.slice hp hn hc,.slice (some ⟨nb,no,none⟩) 2 nc]] W fun e w'=>∃a,e=.returned (.string (bt a))∧((¬(1≤k∧k≤16)∧a=errT 2)∨((1≤k∧k≤16)∧∃P s,IsRing k xs P∧(hostsF (turn z) P)[0]?=some s∧a=tx s))∧Below W.heap.size W w':=by
 have q1:=word_not (s:=w) (w:=wTable) (by rw[hw];decide)
 have q2:=word_not (s:=w) (w:=wMoves) (by rw[hw];decide)
 have q3:=word_is (s:=w) (w:=wRing) hw
 unfold wTable at q1
 unfold wMoves at q2
 unfold wRing at q3
 clear hw
 obtain⟨wa,hwa⟩:∃wa,wa=W.alloc (.cells #[.string w,.slice hp hn hc,.slice (some ⟨nb,no,none⟩) 2 nc] 36):=⟨_,rfl⟩
 have hba:Below W.heap.size W wa:=by rw[hwa];exact (Below.refl _ _).alloc (Nat.le_refl _) _
 have k0:wa.cell? ⟨W.heap.size,0,none⟩=some (.string w):=by rw[hwa];simp
 have k2:wa.cell? ⟨W.heap.size,2,none⟩=some (.slice (some ⟨nb,no,none⟩) 2 nc):=by rw[hwa];simp
 have hka:=below_cell hba hk
 have hza:=below_cell hba hz
 have hH':=hH.later hba
 have hm1:=hH'.cell
 have HBA:Hid (Below W.heap.size W wa):=hba
 have HC:Hid (∀w',Below wa.heap.size wa w'→w'.cell? ⟨m,1,none⟩=some (.slice (some ⟨b,o,none⟩) xs.length c)∧w'.cell? ⟨W.heap.size,2,none⟩=some (.slice (some ⟨nb,no,none⟩) 2 nc)∧w'.cell? ⟨nb,no,none⟩=some (.int .i64 (k:Nat))∧w'.cell? ⟨nb,no+1,none⟩=some (.int .i64 (z:Nat))):=fun w' hb=>⟨below_cell hb hm1,below_cell hb k2,below_cell hb hka,below_cell hb hza⟩
 have hb0:Below wa.heap.size wa wa.drew:=below_drewN (Below.refl _ _) 1
 have hwr:=wrap_u7 z hz7
 have HH:Hid (Hst wa m b o c xs):=hH'
 have hfa:=rng_fault (n:=k) hH'.pos hH'.fault
 have HRF:Hid (∀e pl,RngFault xs (k:Nat) e pl→∀w',Below wa.heap.size wa w'→Calls Tryz.prog 81 #[.slice (some ⟨b,o,none⟩) xs.length c,.int .i64 (k:Nat)] w' fun r w''=>r=.returned (.agg #[.int .i64 e,.int .i64 pl])∧Below w'.heap.size w' w''∧Below wa.heap.size wa w''):=fun e pl hf w' hb=>(ringFault_any _ xs (k:Nat) w' e pl ((HH.out.later hb).strs) hf HH.out.sBig (by have:=HH.out.le;omega)).mono fun _ _ ⟨r1,r2⟩=>⟨r1,r2,below_then hb r2⟩
 clear hH hH' hba hk hz
 go_enter Tryz.func30,Tryz.ntmps30
 go_wp2_with fail
 rw[←hwa]
 clear hwa
 rcases hfa with⟨hbad,hf⟩|⟨hgood,hf⟩
 ·have hcal:=HRF.out 2 (-1) hf
  clear HRF hf
  go_region_held3 (fun w'=>w'.cell? ⟨m,1,none⟩=some (.slice (some ⟨b,o,none⟩) xs.length c)∧w'.cell? ⟨W.heap.size,2,none⟩=some (.slice (some ⟨nb,no,none⟩) 2 nc)∧w'.cell? ⟨nb,no,none⟩=some (.int .i64 (k:Nat))∧w'.cell? ⟨nb,no+1,none⟩=some (.int .i64 (z:Nat)))
   (first|exact HC.out _ (by first|assumption|exact below_al (by assumption) _|exact below_ald _|exact ((by assumption:Below wa.heap.size wa w1).setCell (Nat.le_refl _) _).setCell (Nat.le_refl _) _))
   (first
    | (go_at_call 81;refine (hcal _ (by first|assumption|exact below_ald _)).mono ?_;rintro e w1 ⟨rfl,hb1,hb1'⟩;try (have hcf:=al_cells hb1;obtain⟨c0,c1,f0,f1⟩:=hcf)))
  ·have kf:(w1.alloc (.cells #[.int .i64 2,.int .i64 (-1)] 59)).cell? ⟨w1.heap.size,0,none⟩=some (.int .i64 2):=by simp
   have hb2:=below_al hb1' (.cells #[.int .i64 2,.int .i64 (-1)] 59)
   generalize (w1.alloc (.cells #[.int .i64 2,.int .i64 (-1)] 59))=w2 at *
   have HB2:Hid (Below wa.heap.size wa w2):=hb2
   have HBD:Hid (¬(1≤k∧k≤16)):=hbad
   have het:=errorText_any 2 (by decide) (by decide) w2
   clear hb1 hb1' hb2 hbad hb0
   go_wp2_with fail
   refine het.mono ?_
   rintro e w3 ⟨rfl,hb3⟩
   clear het
   go_wp2
   go_ret
   exact⟨_,rfl,Or.inl ⟨HBD.out,rfl⟩,below_then HBA.out (below_then HB2.out hb3)⟩
  ·have kf:((w1.setCell ⟨wa.heap.size,0,none⟩ (.int .i64 2)).setCell ⟨wa.heap.size,1,none⟩ (.int .i64 (-1))).cell? ⟨wa.heap.size,0,none⟩=some (.int .i64 2):=by simp[go_sem,c0]
   have hb2:Below wa.heap.size wa ((w1.setCell ⟨wa.heap.size,0,none⟩ (.int .i64 2)).setCell ⟨wa.heap.size,1,none⟩ (.int .i64 (-1))):=(hb1'.setCell (Nat.le_refl _) _).setCell (Nat.le_refl _) _
   generalize ((w1.setCell ⟨wa.heap.size,0,none⟩ (.int .i64 2)).setCell ⟨wa.heap.size,1,none⟩ (.int .i64 (-1)))=w2 at *
   have HB2:Hid (Below wa.heap.size wa w2):=hb2
   have HBD:Hid (¬(1≤k∧k≤16)):=hbad
   have het:=errorText_any 2 (by decide) (by decide) w2
   clear hb1 hb1' hb2 hbad hb0
   go_wp2_with fail
   refine het.mono ?_
   rintro e w3 ⟨rfl,hb3⟩
   clear het
   go_wp2
   go_ret
   exact⟨_,rfl,Or.inl ⟨HBD.out,rfl⟩,below_then HBA.out (below_then HB2.out hb3)⟩
 ·have hcal:=HRF.out 0 (-1) hf
  clear HRF hf
  obtain⟨P,hI⟩:=ring_exS k xs
  obtain⟨p0,pl⟩:=ring_pos hI HH.out.pos HH.out.le hgood.1 hgood.2
  have hptl:(Lh.pts k xs).length<1000000:=by rw[←hI.1.length_eq];exact pl
  obtain⟨s,hs1,hs2⟩:∃y,(Lh.hostsF (Lh.turn z) P)[0]?=some y∧(Lh.hostsF (Lh.turn z) P).take 1=[y]:=by
   have hh:=Lh.hosts_head (f:=Lh.turn z) hI.2 p0
   refine⟨_,hh,?_⟩
   generalize (P[Lh.start (Lh.turn z) P]'(Lh.start_lt p0)).2=y at hh
   generalize Lh.hostsF (Lh.turn z) P=D at hh
   match D,hh with
   | d :: T,hh=>simpa using hh
  have HRO:Hid (∀w',Below wa.heap.size wa w'→Calls Tryz.prog 82 #[.slice (some ⟨b,o,none⟩) xs.length c,.int .i64 (k:Nat)] w' fun e w''=>∃rb blk cp,e=.returned (.pointer (some ⟨rb,0,none⟩))∧RingBlk w'' rb blk cp (Lh.pts k xs)∧Below wa.heap.size wa w''):=fun w' hb=>(ringOf_any b o c xs k w' (HH.out.later hb).at_ (HH.out.later hb).blk HH.out.le HH.out.pos hgood.1 hgood.2 HH.out.s300).mono fun _ _ ⟨rb,blk,cp,r1,r2,r3⟩=>⟨rb,blk,cp,r1,r2,below_then hb r3⟩
  have HNX:Hid (∀w' rb blk cp,RingBlk w' rb blk cp (Lh.pts k xs)→Below wa.heap.size wa w'→Calls Tryz.prog 83 #[.pointer (some ⟨rb,0,none⟩),.int .u64 (z:Nat),.int .i64 1] w' fun e w''=>∃g q cap,e=.returned (.slice (some ⟨g,q,none⟩) 1 cap)∧w''.cell? ⟨g,q,none⟩=some (.string s)∧Below wa.heap.size wa w''):=fun w' rb blk cp hR hb =>
   (nextOf_any rb blk cp (Lh.pts k xs) (Lh.rot (Lh.turn z) P) z 1 w' hR ((Lh.rot_perm _ _).trans hI.1) (Lh.rot_sorted hI.2) hptl).mono fun _ _ ⟨v,h1,h2,h3⟩=>by
    have e1:(Lh.dd [] (Lh.rot (Lh.turn z) P)).take (1:Int).toNat=[s]:=hs2
    rw[e1] at h2
    obtain⟨g,q,cap,rfl,hx⟩:=strsPos h2 (by simp)
    exact⟨g,q,cap,h1,hx 0 (by simp),below_then hb h3⟩
  have HAN:Hid ((1≤k∧k≤16)∧∃P s',IsRing k xs P∧(hostsF (turn z) P)[0]?=some s'∧tx s=tx s'):=⟨hgood,P,s,hI,hs1,rfl⟩
  have hsb:bt (tx s)=s:=bt_back s
  clear hI p0 pl hptl hs1 hs2 hgood
  go_region_held3 (fun w'=>w'.cell? ⟨m,1,none⟩=some (.slice (some ⟨b,o,none⟩) xs.length c)∧w'.cell? ⟨W.heap.size,2,none⟩=some (.slice (some ⟨nb,no,none⟩) 2 nc)∧w'.cell? ⟨nb,no,none⟩=some (.int .i64 (k:Nat))∧w'.cell? ⟨nb,no+1,none⟩=some (.int .i64 (z:Nat)))
   (first|exact HC.out _ (by first|assumption|exact below_al (by assumption) _|exact below_ald _|exact ((by assumption:Below wa.heap.size wa w1).setCell (Nat.le_refl _) _).setCell (Nat.le_refl _) _))
   (first
    | (go_at_call 81;refine (hcal _ (by first|assumption|exact below_ald _)).mono ?_;rintro e w1 ⟨rfl,hb1,hb1'⟩;try (have hcf:=al_cells hb1;obtain⟨c0,c1,f0,f1⟩:=hcf)))
  ·have kf:(w1.alloc (.cells #[.int .i64 0,.int .i64 (-1)] 59)).cell? ⟨w1.heap.size,0,none⟩=some (.int .i64 0):=by simp
   have hb2:=below_al hb1' (.cells #[.int .i64 0,.int .i64 (-1)] 59)
   generalize (w1.alloc (.cells #[.int .i64 0,.int .i64 (-1)] 59))=w2 at *
   have HB2:Hid (Below wa.heap.size wa w2):=hb2
   obtain⟨j1,j2,j3,j4⟩:=HC.out w2 hb2
   have hb2d:Below wa.heap.size wa w2.drew:=below_drewN hb2 1
   clear hb1 hb1' hb2 hb0 k0 k2 hka hza hm1 hcal
   go_wp2_with fail
   refine wp_region_held_drew (S:=fun w'=>w'.cell? ⟨m,1,none⟩=some (.slice (some ⟨b,o,none⟩) xs.length c)∧w'.cell? ⟨W.heap.size,2,none⟩=some (.slice (some ⟨nb,no,none⟩) 2 nc)∧w'.cell? ⟨nb,no,none⟩=some (.int .i64 (k:Nat))∧w'.cell? ⟨nb,no+1,none⟩=some (.int .i64 (z:Nat))) (by kernel_rfl) ?_ (fun hHeld=>?_)
   ·exact HC.out _ hb2d
   refine wpAnyH_take (i:=0) (v:=?vb0) rfl (by kernel_rfl) (by kernel_rfl) (by kernel_rfl) (fun _ _ _ h=>h) (Or.inl ⟨by rfl,?yb0⟩) (by assumption) ?rb0
   case yb0 =>
    intro w hSw
    try dsimp only at hSw
    go_simp
    try with_reducible rfl
   refine wpAnyH_take (i:=1) (v:=?vb1) rfl (by kernel_rfl) (by kernel_rfl) (by kernel_rfl) (fun _ _ _ h=>h) (Or.inl ⟨by rfl,?yb1⟩) (by assumption) ?rb1
   case yb1 =>
    intro w hSw
    try dsimp only at hSw
    go_simp
    try with_reducible rfl
   refine wpAnyH_take (i:=2) (v:=?vb2) rfl (by kernel_rfl) (by kernel_rfl) (by kernel_rfl) (fun _ _ _ h=>h) (Or.inl ⟨by rfl,?yb2⟩) (by assumption) ?rb2
   case yb2 =>
    intro w hSw
    try dsimp only at hSw
    go_simp
    try with_reducible rfl
   refine wpAnyH_take (i:=3) (v:=?vb3) rfl (by kernel_rfl) (by kernel_rfl) (by kernel_rfl) (fun _ _ _ h=>h) (Or.inl ⟨by rfl,?yb3⟩) (by assumption) ?rb3
   case yb3 =>
    intro w hSw
    try dsimp only at hSw
    go_simp
    try with_reducible rfl
   refine wpAnyH_take (i:=4) (v:=?vb4) rfl (by kernel_rfl) (by kernel_rfl) (by kernel_rfl) (fun _ _ _ h=>h) (Or.inl ⟨by rfl,?yb4⟩) (by assumption) ?rb4
   case yb4 =>
    intro w hSw
    try dsimp only at hSw
    go_simp
    try with_reducible rfl
   refine wpAnyH_take (i:=5) (v:=?vb5) rfl (by kernel_rfl) (by kernel_rfl) (by kernel_rfl) (fun _ _ _ h=>h) (Or.inl ⟨by rfl,?yb5⟩) (by assumption) ?rb5
   case yb5 =>
    intro w hSw
    try dsimp only at hSw
    go_simp
    try with_reducible rfl
   refine wpAnyH_take (i:=6) (v:=?vb6) rfl (by kernel_rfl) (by kernel_rfl) (by kernel_rfl) (fun _ _ _ h=>h) (Or.inl ⟨by rfl,?yb6⟩) (by assumption) ?rb6
   case yb6 =>
    intro w hSw
    try dsimp only at hSw
    go_simp
    try with_reducible rfl
   refine wpAnyH_take (i:=7) (v:=?vb7) rfl (by kernel_rfl) (by kernel_rfl) (by kernel_rfl) (fun _ _ _ h=>h) (Or.inl ⟨by rfl,?yb7⟩) (by assumption) ?rb7
   case yb7 =>
    intro w hSw
    try dsimp only at hSw
    go_simp
    try with_reducible rfl
   refine wpAnyH_take (i:=9) (v:=?vb9) rfl (by kernel_rfl) (by kernel_rfl) (by kernel_rfl) (fun _ _ _ h=>h) (Or.inl ⟨by rfl,?yb9⟩) (by assumption) ?rb9
   case yb9 =>
    intro w hSw
    try dsimp only at hSw
    go_simp
    try with_reducible rfl
   refine wpAnyH_take (i:=10) (v:=?vb10) rfl (by kernel_rfl) (by kernel_rfl) (by kernel_rfl) (fun _ _ _ h=>h) (Or.inl ⟨by rfl,?yb10⟩) (by assumption) ?rb10
   case yb10 =>
    intro w hSw
    try dsimp only at hSw
    go_simp
    try with_reducible rfl
   refine wpAnyH_take (i:=11) (v:=?vb11) rfl (by kernel_rfl) (by kernel_rfl) (by kernel_rfl) (fun _ _ _ h=>h) (Or.inl ⟨by rfl,?yb11⟩) (by assumption) ?rb11
   case yb11 =>
    intro w hSw
    try dsimp only at hSw
    go_simp
    try with_reducible rfl
   refine wpAnyH_take (i:=12) (v:=?vb12) rfl (by kernel_rfl) (by kernel_rfl) (by kernel_rfl) (fun _ _ _ h=>h) (Or.inl ⟨by rfl,?yb12⟩) (by assumption) ?rb12
   case yb12 =>
    intro w hSw
    try dsimp only at hSw
    go_simp
    try with_reducible rfl
   refine wpAnyH_take (i:=13) (v:=?vb13) rfl (by kernel_rfl) (by kernel_rfl) (by kernel_rfl) (fun _ _ _ h=>h) (Or.inl ⟨by rfl,?yb13⟩) (by assumption) ?rb13
   case yb13 =>
    intro w hSw
    try dsimp only at hSw
    go_simp
    try with_reducible rfl
   refine wpAnyH_ready (rs:=[8]) (by kernel_rfl) (by simp) ?_
   refine AllReadyH.cons rfl (fun K hK=>?_) AllReadyH.nil
   go_simp
   go_at_call 82
   refine (HRO.out _ hb2d).mono ?_
   rintro e w3 ⟨rb,blk,cp,rfl,hrb,hb3⟩
   go_wp2_with fail
   refine hK.out _ _ ?_ (fun hHeld=>?_)
   ·exact HC.out _ hb3
   clear hK K
   refine wpAnyH_ready (rs:=[14]) (by kernel_rfl) (by simp) ?_
   refine AllReadyH.cons rfl (fun K hK=>?_) AllReadyH.nil
   go_simp
   go_at_call 83
   refine (HNX.out _ _ _ _ hrb hb3).mono ?_
   rintro e w4 ⟨g,q,cap,rfl,hgq,hb4⟩
   go_wp2_with fail
   refine hK.out _ _ ?_ (fun hHeld=>?_)
   ·exact HC.out _ hb4
   clear hK K
   refine wpAnyH_take (i:=15) (v:=?vb15) rfl (by kernel_rfl) (by kernel_rfl) (by kernel_rfl) (fun _ _ _ h=>h) (Or.inl ⟨by rfl,?yb15⟩) (by assumption) ?rb15
   case yb15 =>
    intro w hSw
    try dsimp only at hSw
    go_simp
    try with_reducible rfl
   refine wpAnyH_ready (rs:=[16]) (by kernel_rfl) (by simp) ?_
   refine AllReadyH.cons rfl (fun K hK=>?_) AllReadyH.nil
   go_simp
   refine hK.out _ _ ?_ (fun hHeld=>?_)
   ·exact HC.out _ hb4
   clear hK K
   refine wpAnyH_take (i:=17) (v:=?vb17) rfl (by kernel_rfl) (by kernel_rfl) (by kernel_rfl) (fun _ _ _ h=>h) (Or.inl ⟨by rfl,?yb17⟩) (by assumption) ?rb17
   case yb17 =>
    intro w hSw
    try dsimp only at hSw
    go_simp
    try with_reducible rfl
   refine wpAnyH_done (by kernel_rfl) ?_ _
   go_wp2
   go_ret
   exact⟨tx s,by rw[hsb];rfl,Or.inr HAN.out,below_then HBA.out hb4⟩
  ·have kf:((w1.setCell ⟨wa.heap.size,0,none⟩ (.int .i64 0)).setCell ⟨wa.heap.size,1,none⟩ (.int .i64 (-1))).cell? ⟨wa.heap.size,0,none⟩=some (.int .i64 0):=by simp[go_sem,c0]
   have hb2:Below wa.heap.size wa ((w1.setCell ⟨wa.heap.size,0,none⟩ (.int .i64 0)).setCell ⟨wa.heap.size,1,none⟩ (.int .i64 (-1))):=(hb1'.setCell (Nat.le_refl _) _).setCell (Nat.le_refl _) _
   generalize ((w1.setCell ⟨wa.heap.size,0,none⟩ (.int .i64 0)).setCell ⟨wa.heap.size,1,none⟩ (.int .i64 (-1)))=w2 at *
   have HB2:Hid (Below wa.heap.size wa w2):=hb2
   obtain⟨j1,j2,j3,j4⟩:=HC.out w2 hb2
   have hb2d:Below wa.heap.size wa w2.drew:=below_drewN hb2 1
   clear hb1 hb1' hb2 hb0 k0 k2 hka hza hm1 hcal
   go_wp2_with fail
   refine wp_region_held_drew (S:=fun w'=>w'.cell? ⟨m,1,none⟩=some (.slice (some ⟨b,o,none⟩) xs.length c)∧w'.cell? ⟨W.heap.size,2,none⟩=some (.slice (some ⟨nb,no,none⟩) 2 nc)∧w'.cell? ⟨nb,no,none⟩=some (.int .i64 (k:Nat))∧w'.cell? ⟨nb,no+1,none⟩=some (.int .i64 (z:Nat))) (by kernel_rfl) ?_ (fun hHeld=>?_)
   ·exact HC.out _ hb2d
   refine wpAnyH_take (i:=0) (v:=?vc0) rfl (by kernel_rfl) (by kernel_rfl) (by kernel_rfl) (fun _ _ _ h=>h) (Or.inl ⟨by rfl,?yc0⟩) (by assumption) ?rc0
   case yc0 =>
    intro w hSw
    try dsimp only at hSw
    go_simp
    try with_reducible rfl
   refine wpAnyH_take (i:=1) (v:=?vc1) rfl (by kernel_rfl) (by kernel_rfl) (by kernel_rfl) (fun _ _ _ h=>h) (Or.inl ⟨by rfl,?yc1⟩) (by assumption) ?rc1
   case yc1 =>
    intro w hSw
    try dsimp only at hSw
    go_simp
    try with_reducible rfl
   refine wpAnyH_take (i:=2) (v:=?vc2) rfl (by kernel_rfl) (by kernel_rfl) (by kernel_rfl) (fun _ _ _ h=>h) (Or.inl ⟨by rfl,?yc2⟩) (by assumption) ?rc2
   case yc2 =>
    intro w hSw
    try dsimp only at hSw
    go_simp
    try with_reducible rfl
   refine wpAnyH_take (i:=3) (v:=?vc3) rfl (by kernel_rfl) (by kernel_rfl) (by kernel_rfl) (fun _ _ _ h=>h) (Or.inl ⟨by rfl,?yc3⟩) (by assumption) ?rc3
   case yc3 =>
    intro w hSw
    try dsimp only at hSw
    go_simp
    try with_reducible rfl
   refine wpAnyH_take (i:=4) (v:=?vc4) rfl (by kernel_rfl) (by kernel_rfl) (by kernel_rfl) (fun _ _ _ h=>h) (Or.inl ⟨by rfl,?yc4⟩) (by assumption) ?rc4
   case yc4 =>
    intro w hSw
    try dsimp only at hSw
    go_simp
    try with_reducible rfl
   refine wpAnyH_take (i:=5) (v:=?vc5) rfl (by kernel_rfl) (by kernel_rfl) (by kernel_rfl) (fun _ _ _ h=>h) (Or.inl ⟨by rfl,?yc5⟩) (by assumption) ?rc5
   case yc5 =>
    intro w hSw
    try dsimp only at hSw
    go_simp
    try with_reducible rfl
   refine wpAnyH_take (i:=6) (v:=?vc6) rfl (by kernel_rfl) (by kernel_rfl) (by kernel_rfl) (fun _ _ _ h=>h) (Or.inl ⟨by rfl,?yc6⟩) (by assumption) ?rc6
   case yc6 =>
    intro w hSw
    try dsimp only at hSw
    go_simp
    try with_reducible rfl
   refine wpAnyH_take (i:=7) (v:=?vc7) rfl (by kernel_rfl) (by kernel_rfl) (by kernel_rfl) (fun _ _ _ h=>h) (Or.inl ⟨by rfl,?yc7⟩) (by assumption) ?rc7
   case yc7 =>
    intro w hSw
    try dsimp only at hSw
    go_simp
    try with_reducible rfl
   refine wpAnyH_take (i:=9) (v:=?vc9) rfl (by kernel_rfl) (by kernel_rfl) (by kernel_rfl) (fun _ _ _ h=>h) (Or.inl ⟨by rfl,?yc9⟩) (by assumption) ?rc9
   case yc9 =>
    intro w hSw
    try dsimp only at hSw
    go_simp
    try with_reducible rfl
   refine wpAnyH_take (i:=10) (v:=?vc10) rfl (by kernel_rfl) (by kernel_rfl) (by kernel_rfl) (fun _ _ _ h=>h) (Or.inl ⟨by rfl,?yc10⟩) (by assumption) ?rc10
   case yc10 =>
    intro w hSw
    try dsimp only at hSw
    go_simp
    try with_reducible rfl
   refine wpAnyH_take (i:=11) (v:=?vc11) rfl (by kernel_rfl) (by kernel_rfl) (by kernel_rfl) (fun _ _ _ h=>h) (Or.inl ⟨by rfl,?yc11⟩) (by assumption) ?rc11
   case yc11 =>
    intro w hSw
    try dsimp only at hSw
    go_simp
    try with_reducible rfl
   refine wpAnyH_take (i:=12) (v:=?vc12) rfl (by kernel_rfl) (by kernel_rfl) (by kernel_rfl) (fun _ _ _ h=>h) (Or.inl ⟨by rfl,?yc12⟩) (by assumption) ?rc12
   case yc12 =>
    intro w hSw
    try dsimp only at hSw
    go_simp
    try with_reducible rfl
   refine wpAnyH_take (i:=13) (v:=?vc13) rfl (by kernel_rfl) (by kernel_rfl) (by kernel_rfl) (fun _ _ _ h=>h) (Or.inl ⟨by rfl,?yc13⟩) (by assumption) ?rc13
   case yc13 =>
    intro w hSw
    try dsimp only at hSw
    go_simp
    try with_reducible rfl
   refine wpAnyH_ready (rs:=[8]) (by kernel_rfl) (by simp) ?_
   refine AllReadyH.cons rfl (fun K hK=>?_) AllReadyH.nil
   go_simp
   go_at_call 82
   refine (HRO.out _ hb2d).mono ?_
   rintro e w3 ⟨rb,blk,cp,rfl,hrb,hb3⟩
   go_wp2_with fail
   refine hK.out _ _ ?_ (fun hHeld=>?_)
   ·exact HC.out _ hb3
   clear hK K
   refine wpAnyH_ready (rs:=[14]) (by kernel_rfl) (by simp) ?_
   refine AllReadyH.cons rfl (fun K hK=>?_) AllReadyH.nil
   go_simp
   go_at_call 83
   refine (HNX.out _ _ _ _ hrb hb3).mono ?_
   rintro e w4 ⟨g,q,cap,rfl,hgq,hb4⟩
   go_wp2_with fail
   refine hK.out _ _ ?_ (fun hHeld=>?_)
   ·exact HC.out _ hb4
   clear hK K
   refine wpAnyH_take (i:=15) (v:=?vc15) rfl (by kernel_rfl) (by kernel_rfl) (by kernel_rfl) (fun _ _ _ h=>h) (Or.inl ⟨by rfl,?yc15⟩) (by assumption) ?rc15
   case yc15 =>
    intro w hSw
    try dsimp only at hSw
    go_simp
    try with_reducible rfl
   refine wpAnyH_ready (rs:=[16]) (by kernel_rfl) (by simp) ?_
   refine AllReadyH.cons rfl (fun K hK=>?_) AllReadyH.nil
   go_simp
   refine hK.out _ _ ?_ (fun hHeld=>?_)
   ·exact HC.out _ hb4
   clear hK K
   refine wpAnyH_take (i:=17) (v:=?vc17) rfl (by kernel_rfl) (by kernel_rfl) (by kernel_rfl) (fun _ _ _ h=>h) (Or.inl ⟨by rfl,?yc17⟩) (by assumption) ?rc17
   case yc17 =>
    intro w hSw
    try dsimp only at hSw
    go_simp
    try with_reducible rfl
   refine wpAnyH_done (by kernel_rfl) ?_ _
   go_wp2
   go_ret
   exact⟨tx s,by rw[hsb];rfl,Or.inr HAN.out,below_then HBA.out hb4⟩
end Go.Proofs.YtfhmfjcpggddkaaGreatDoor
