/- mix.Sorted. -/
import Derived.Test.YtfhmfjcpggddkaaGreatDoorM4
import Derived.Test.YtfhmfjcpggddkaaGreatDoorSort
import Derived.Sort.OwnSorted
import Derived.Sort.Walk0
import Derived.Deep.RegionWith
import Derived.Test.YtfhmfjcpggddkaaGreatDoorM10
import Derived.Maps.OwnOps
import Derived.Maps.OwnSet
import Derived.Test.YtfhmfjcpggddkaaGreatDoorM9
set_option maxHeartbeats 20000000
set_option maxRecDepth 100000
namespace Go.Proofs.YtfhmfjcpggddkaaGreatDoor
open Go.RowKit Go.Sort
namespace Lh
def sortL (l:List (List UInt8)):List (List UInt8):=l.mergeSort fun x y=>decide (x≤y)
def sortT (xs:List ByteArray):List ByteArray:=(sortL (xs.map fun s=>s.data.toList)).map fun l=>⟨l.toArray⟩
theorem sortL_length (l:List (List UInt8)):(sortL l).length=l.length:=List.length_mergeSort _
theorem sortT_length (xs:List ByteArray):(sortT xs).length=xs.length:=by simp[sortT,sortL_length]
end Lh
theorem Strs1.src {w:World}{v:Value}{xs:List ByteArray}(h:Strs1 w v xs):∃sp c,v=.slice sp xs.length c∧(0<xs.length→∃b o,sp=some ⟨b,o,none⟩∧∀k (h:k<xs.length),w.cell? ⟨b,o+k,none⟩=some (.string xs[k])):=by
 rcases h with⟨rfl,rfl|⟨a,c,rfl⟩⟩|⟨b,o,c,rfl,_,hc⟩
 ·exact⟨_,_,rfl,fun h=>absurd h (by simp)⟩
 ·exact⟨_,_,rfl,fun h=>absurd h (by simp)⟩
 ·exact⟨_,_,rfl,fun _=>⟨b,o,rfl,hc⟩⟩
theorem sizeS:(Tryz.prog.info? 9).map (·.size)=some 1:=by kernel_rfl
theorem strs_enc (xs:List ByteArray):xs.map Value.string=(xs.map fun s=>s.data.toList).map encStr:=by
 rw[List.map_map];rfl
theorem enc_strs (l:List (List UInt8)):l.map encStr=(l.map fun b=>(⟨b.toArray⟩:ByteArray)).map Value.string:=by
 rw[List.map_map];rfl
namespace Lh
def leT (x y:ByteArray):Prop:=x.data.toList≤y.data.toList
theorem sort_unique {xs ys:List ByteArray}(hs:ys.Pairwise leT)(hp:ys.Perm xs):ys=sortT xs:=by
 have h1:(ys.map fun s=>s.data.toList)=sortL (xs.map fun s=>s.data.toList):=by
  refine List.Perm.eq_of_pairwise (le:=fun a b:List UInt8=>a≤b) (fun a b _ _ h k=>List.le_antisymm h k) ?_ ?_ ?_
  ·rw[List.pairwise_map];exact hs
  ·have:=List.pairwise_mergeSort (le:=fun x y:List UInt8=>decide (x≤y)) (fun a b c h k=>by simp at h k ⊢;exact List.le_trans h k) (fun a b=>by simp;exact List.le_total a b) (xs.map fun s=>s.data.toList)
   exact this.imp (fun h=>by simpa using h)
  ·exact (hp.map _).trans (List.mergeSort_perm _ _).symm
 unfold sortT
 rw[←h1,List.map_map]
 have:((fun l:List UInt8=>(⟨l.toArray⟩:ByteArray)) ∘ fun s:ByteArray=>s.data.toList)=id:=rfl
 rw[this,List.map_id]
theorem ins_sorted {ys:List ByteArray}{x:ByteArray}{k:Nat}(hs:ys.Pairwise leT)(hk:k≤ys.length)(hlo:∀j (h:j<ys.length),j<k→leT ys[j] x)(hhi:∀h:k<ys.length,leT x ys[k]) :
  (ys.take k++x :: ys.drop k).Pairwise leT:=by
 have hpw:=List.pairwise_iff_getElem.1 hs
 have hlow:∀y∈ys.take k,leT y x:=by
  intro y hy
  rw[List.mem_take_iff_getElem] at hy
  obtain⟨j,hj,rfl⟩:=hy
  exact hlo j (by omega) (by omega)
 have hhigh:∀y∈ys.drop k,leT x y:=by
  intro y hy
  rw[List.mem_drop_iff_getElem] at hy
  obtain⟨j,hj,rfl⟩:=hy
  have hkl:k<ys.length:=by omega
  rcases Nat.eq_zero_or_pos j with h|h
  ·subst h;simpa using hhi hkl
  ·exact List.le_trans (hhi hkl) (hpw k (k+j) hkl (by omega) (by omega))
 rw[List.pairwise_append,List.pairwise_cons]
 refine⟨hs.sublist (List.take_sublist _ _),⟨hhigh,hs.sublist (List.drop_sublist _ _)⟩,fun a ha b hb=>?_⟩
 rcases List.mem_cons.1 hb with rfl|hb
 ·exact hlow a ha
 ·exact List.le_trans (hlow a ha) (hhigh b hb)
theorem ins_perm {ys xs:List ByteArray}{n:Nat}(hn:n<xs.length){k:Nat}(hp:ys.Perm (xs.take n)):(ys.take k++xs[n] :: ys.drop k).Perm (xs.take (n+1)):=by
 rw[List.take_succ_eq_append_getElem hn]
 refine List.perm_middle.trans ?_
 rw[List.take_append_drop]
 exact (hp.cons _).trans (List.perm_append_singleton _ _).symm
theorem less_true {x y:ByteArray}(h:Op.bytesLess x.toList y.toList=true):leT x y:=by
 rw[bytesLess_eq] at h
 have:=List.le_of_lt (of_decide_eq_true h)
 rwa [ByteArray.toList_eq,ByteArray.toList_eq] at this
theorem less_false {x y:ByteArray}(h:Op.bytesLess x.toList y.toList=false):leT y x:=by
 rw[bytesLess_eq] at h
 have h':¬x.toList<y.toList:=of_decide_eq_false h
 have:=List.not_lt.1 h'
 rwa [ByteArray.toList_eq,ByteArray.toList_eq] at this
end Lh
theorem owns_cells {w:World}{base n g cap:Nat}{e:TypeId}{xs:List ByteArray}(h:w.ownsRow base e 1 (.slice (some ⟨g,0,none⟩) n cap) n (xs.map Value.string)):∀k (h:k<xs.length),w.cell? ⟨g,k,none⟩=some (.string xs[k]):=by
 intro k hk
 have hl:xs.length=n:=by simpa using h.1
 rw[h.cellAt k (by omega)]
 simp[hk]
theorem owns_mono {w:World}{base base' n:Nat}{e:TypeId}{v:Value}{xs:List Value}(h:w.ownsRow base e 1 v n xs)(hb:base'≤base):w.ownsRow base' e 1 v n xs:=by
 obtain⟨h1,h2|⟨g,cap,cur,e1,e2,e3⟩⟩:=h
 ·exact⟨h1,Or.inl h2⟩
 ·exact⟨h1,Or.inr ⟨g,cap,cur,e1,by omega,e3⟩⟩
theorem sortedOf_core (b o c:Nat)(xs:List ByteArray)(w:World)(hx:∀k (h:k<xs.length),w.cell? ⟨b,o+k,none⟩=some (.string xs[k]))(hm:xs.length<1000000) :
  Calls Tryz.prog 123 #[.slice (some ⟨b,o,none⟩) xs.length c] w fun e w'=>∃v',e=.returned v'∧Strs1 w' v' (Lh.sortT xs)∧Below w.heap.size w w':=by
 obtain⟨i,hi,hz0,hz1,hz2⟩:=info_parts infoS
 have HX:Hid _:=hx
 clear hx
 go_enter Tryz.func123,Tryz.ntmps123
 go_wp2
 go_loopw [3,4] (fun vo t W=>Below w.heap.size w W∧∃(n:Nat) (ys:List ByteArray),n≤xs.length∧t=.int .i64 n∧W.ownsRow w.heap.size 9 1 vo n (ys.map Value.string)∧ys.Pairwise Lh.leT∧ys.Perm (xs.take n)) (fun _ t _=>xs.length - (intOf t).toNat)
 case atStart=>exact⟨Below.refl _ _,0,[],Nat.zero_le _,rfl,owns_nil _ _ _,List.Pairwise.nil,by simp⟩
 case round =>
  obtain⟨hb,n,ys,hn,rfl,hown,hsort,hperm⟩:=hrel
  have HSO:Hid _:=hsort
  have HPE:Hid _:=hperm
  clear hsort hperm
  have hyl:ys.length=n:=by simpa using hown.1
  by_cases hlt:n<xs.length
  ·have cx:=below_cell hb (HX.out n hlt)
   generalize hxn:xs[n]=x at *
   have HXN:Hid _:=hxn
   clear hxn
   obtain⟨hl,⟨rfl,rfl⟩|⟨g,cap,cur,rfl,hbase,hbk,hn',hcm,hsz,ht⟩⟩:=hown
   ·obtain rfl:ys=[]:=by simpa using hl
    rw[Nat.add_zero] at cx
    go_wp2_with fail
    refine wp_loop_rounds 1 ?_
    rw[rounds_succ]
    go_wp2_with fail
    go_quiet (fail)
    have hbs:∀q,w.heap.size≤((wr.drewN nq).alloc q).heap.size:=fun q=>by
     have h1:((wr.drewN nq).alloc q).heap.size=wr.heap.size+1:=by simp
     have:=hb.size
     omega
    have hnew:=cell_one_new (wr.drewN nq) (.string x) 9
    have hmx:0+1≤maxLen:=by unfold maxLen;omega
    have tok1:True:=trivial
    have tok2:True:=trivial
    have tok3:True:=trivial
    go_wp2_with (first|(at_builtin;have _t:=tok1;refine wpList_append_own_none rfl _ _ 22 rfl w.heap.size 9 i 1 Tryz.underlying22 hi (.slice none 0 0) 0 _ rfl (owns_nil _ _ _) rfl ?_;clear tok1 _t)|(at_builtin;have _t:=tok2;refine wpList_append_own _ rfl _ _ 22 rfl w.heap.size 9 i _ 1 16 Tryz.underlying22 hi hz0 hz1 hz2 rfl (by decide) (.slice none 0 0) 0 _ rfl (owns_nil _ _ _) ⟨wr.heap.size,0,none⟩ 1 1 [.string x] rfl rfl hnew (strs_oneCell [x]) hmx (by omega) (hbs _) ?_;intro v2 w2 hown2 hg2 hnil2;clear tok2 _t)|(at_builtin;have _t:=tok3;refine wpList_append_own_none rfl _ _ 22 rfl w.heap.size 9 i 1 Tryz.underlying22 hi v2 (0+1) _ rfl hown2 rfl ?_;clear tok3 _t))
    have hb2:Below w.heap.size w w2:=((below_drewN hb nq).alloc (by have:=hb.size;simpa using this) _).grown hg2 (hbs _) (fun k h=>by cases h)
    refine⟨⟨hb2,1,[x],by omega,rfl,by simpa using hown2,List.pairwise_singleton _ _,?_⟩,by simp[intOf];omega⟩
    have:=Lh.ins_perm (ys:=[]) (k:=0) hlt HPE.out
    rw[HXN.out] at this
    simpa using this
   ·have hcy:=fun k (h:k<ys.length)=>owns_cells (w:=wr) (base:=w.heap.size) (e:=9) (n:=n) (g:=g) (cap:=cap) (xs:=ys) ⟨hl,Or.inr ⟨g,cap,cur,rfl,hbase,hbk,hn',hcm,hsz,ht⟩⟩ k h
    have HCY:Hid _:=hcy
    have HYL:Hid _:=hyl
    clear hcy hyl hl hsz ht hbk
    unfold maxLen at hcm
    generalize wr=W0 at *
    go_wp2_with fail
    go_loopw [5] (fun t W=>Below W0.heap.size W0 W∧∃k:Nat,k≤n∧t=.int .i64 k∧∀j (h:j<ys.length),j<k→Lh.leT ys[j] x) (fun t _=>n - (intOf t).toNat)
    case atStart=>exact⟨Below.refl _ _,0,Nat.zero_le _,rfl,fun j _ h=>absurd h (by omega)⟩
    case round =>
     obtain⟨hbr,k,hk,rfl,hlo⟩:=hrel
     have HLO:Hid _:=hlo
     clear hlo
     have cxr:=below_cell hbr cx
     by_cases hkn:k<n
     ·have hky:k<ys.length:=by have:=HYL.out;omega
      have cyr:=below_cell hbr (HCY.out k hky)
      have hd:decide ((k:Int)<(n:Int))=true:=by simp;omega
      have hi1:(k:Int)<(n:Int):=by omega
      have hi2:(n:Int)<(xs.length:Int):=by omega
      generalize hyk:ys[k]=yk at *
      have HYK:Hid _:=hyk
      clear hyk
      cases hless:Op.bytesLess yk.toList x.toList with
      | true =>
       have HLE:Hid _:=Lh.less_true hless
       go_wp2_with fail
       go_quiet (fail)
       go_wp2_with fail
       refine⟨⟨below_drewN hbr _,k+1,by omega,by go_num,fun j h hj=>?_⟩,by simp[intOf];omega⟩
       by_cases e:j=k
       ·subst e;rw[HYK.out];exact HLE.out
       ·exact HLO.out j h (by omega)
      | false =>
       have HHI:Hid (∀h:k<ys.length,Lh.leT x ys[k]):=fun h=>by rw[HYK.out];exact Lh.less_false hless
       go_wp2_with fail
       go_quiet (fail)
       have hbq:Below W0.heap.size W0 (wr.drewN nq):=below_drewN hbr nq
       have hsq:W0.heap.size≤(wr.drewN nq).heap.size:=hbq.size
       have hs1:∀j u,((ys.take k).map Value.string)[j]?=some u→(wr.drewN nq).cell? ((⟨g,0,none⟩:Addr).add j)=some u:=cells_strs (fun j hj=>by
        have hj':j<ys.length:=by simp at hj;omega
        have:=below_cell hbq (HCY.out j hj')
        rw[Nat.zero_add,this];simp)
       have hlt1:((ys.take k).map Value.string).length=k*1:=by have:=HYL.out;simp;omega
       have hs3:∀W,Below W0.heap.size W0 W→∀j u,((ys.drop k).map Value.string)[j]?=some u→W.cell? ((⟨g,k,none⟩:Addr).add j)=some u:=fun W hW=>cells_strs (fun j hj=>by
        have hj':k+j<ys.length:=by simp at hj;omega
        have:=below_cell hW (HCY.out (k+j) hj')
        rw[this];simp)
       have hlt3:((ys.drop k).map Value.string).length=(n - k)*1:=by have:=HYL.out;simp;omega
       have hm1:0+k≤maxLen:=by unfold maxLen;omega
       have hm2:0+k+1≤maxLen:=by unfold maxLen;omega
       have hm3:0+k+1+(n - k)≤maxLen:=by unfold maxLen;omega
       have HHS:Hid _:=hs3
       clear hs3
       have tok1:True:=trivial
       have tok2:True:=trivial
       have tok3:True:=trivial
       go_wp2_with (first|(at_builtin;have _t:=tok1;refine wpList_append_own _ rfl _ _ 22 rfl W0.heap.size 9 i _ 1 16 Tryz.underlying22 hi hz0 hz1 hz2 rfl (by decide) (.slice none 0 0) 0 _ rfl (owns_nil _ _ _) ⟨g,0,none⟩ k cap ((ys.take k).map Value.string) rfl hlt1 hs1 (strs_oneCell _) hm1 (by omega) hsq ?_;intro v1 w1 hown1 hg1 hnil1;have hb1:Below W0.heap.size W0 w1:=hbq.grown hg1 hsq (fun k h=>by cases h);have cx1:=below_cell hb1 cx;clear tok1 _t hnil1)|(at_builtin;have _t:=tok2;refine wpList_append_own _ rfl _ _ 22 rfl W0.heap.size 9 i _ 1 16 Tryz.underlying22 hi hz0 hz1 hz2 rfl (by decide) v1 (0+k) _ rfl (hown1.alloc _) ⟨w1.heap.size,0,none⟩ 1 1 [.string x] rfl rfl (cell_one_new w1 (.string x) 9) (strs_oneCell [x]) hm2 (by omega) (Nat.le_trans hb1.size (by simp)) ?_;intro v2 w2 hown2 hg2 hnil2;have hb2:Below W0.heap.size W0 w2:=(hb1.alloc hb1.size _).grown hg2 (Nat.le_trans hb1.size (by simp)) (fun k h=>(hown1.lt k h).1);clear tok2 _t hnil2)|(at_builtin;have _t:=tok3;refine wpList_append_own _ rfl _ _ 22 rfl W0.heap.size 9 i _ 1 16 Tryz.underlying22 hi hz0 hz1 hz2 rfl (by decide) v2 (0+k+1) _ rfl hown2 ⟨g,k,none⟩ (n - k) (cap - k) ((ys.drop k).map Value.string) rfl hlt3 (HHS.out _ hb2) (strs_oneCell _) hm3 (by omega) hb2.size ?_;intro v3 w3 hown3 hg3 hnil3;clear tok3 _t hnil3))
       have hb3:Below W0.heap.size W0 w3:=hb2.grown hg3 hb2.size (fun k h=>(hown2.lt k h).1)
       refine⟨⟨hb.trans (hb3.mono hb.size),n+1,ys.take k++x :: ys.drop k,by omega,by go_num,?_,Lh.ins_sorted HSO.out (by have:=HYL.out;omega) HLO.out HHI.out,?_⟩,by simp[intOf];omega⟩
       ·have h3:=owns_mono hown3 hb.size
        rw[show 0+k+1+(n - k)=n+1 by omega] at h3
        simpa using h3
       ·have:=Lh.ins_perm (k:=k) hlt HPE.out
        rwa [HXN.out] at this
     ·have hkk:k=n:=by omega
      subst hkk
      have HHI:Hid (∀h:k<ys.length,Lh.leT x ys[k]):=fun h=>absurd h (by have:=HYL.out;omega)
      have hd:decide ((k:Int)<(k:Int))=false:=by simp
      have hi2:(k:Int)<(xs.length:Int):=by omega
      go_wp2_with fail
      go_quiet (fail)
      have hbq:Below W0.heap.size W0 (wr.drewN nq):=below_drewN hbr nq
      have hsq:W0.heap.size≤(wr.drewN nq).heap.size:=hbq.size
      have hs1:∀j u,((ys.take k).map Value.string)[j]?=some u→(wr.drewN nq).cell? ((⟨g,0,none⟩:Addr).add j)=some u:=cells_strs (fun j hj=>by
       have hj':j<ys.length:=by simp at hj;omega
       have:=below_cell hbq (HCY.out j hj')
       rw[Nat.zero_add,this];simp)
      have hlt1:((ys.take k).map Value.string).length=k*1:=by have:=HYL.out;simp;omega
      have hs3:∀(W:World) (ad:Addr) j u,(([]:List ByteArray).map Value.string)[j]?=some u→W.cell? (ad.add j)=some u:=fun W ad j u h=>by simp at h
      have hm1:0+k≤maxLen:=by unfold maxLen;omega
      have hm2:0+k+1≤maxLen:=by unfold maxLen;omega
      have hm3:0+k+1+0≤maxLen:=by unfold maxLen;omega
      obtain⟨ad,hif⟩:∃ad:Addr,(if cap=k then (some ⟨g,0,none⟩:Option Addr) else some ⟨g,k,none⟩)=some ad:=by
       by_cases h:cap=k
       ·exact⟨_,by rw[if_pos h]⟩
       ·exact⟨_,by rw[if_neg h]⟩
      have HHS:Hid _:=hs3
      clear hs3
      have tok1:True:=trivial
      have tok2:True:=trivial
      have tok3:True:=trivial
      go_wp2_with (first|(at_builtin;have _t:=tok1;refine wpList_append_own _ rfl _ _ 22 rfl W0.heap.size 9 i _ 1 16 Tryz.underlying22 hi hz0 hz1 hz2 rfl (by decide) (.slice none 0 0) 0 _ rfl (owns_nil _ _ _) ⟨g,0,none⟩ k cap ((ys.take k).map Value.string) rfl hlt1 hs1 (strs_oneCell _) hm1 (by omega) hsq ?_;intro v1 w1 hown1 hg1 hnil1;have hb1:Below W0.heap.size W0 w1:=hbq.grown hg1 hsq (fun k h=>by cases h);have cx1:=below_cell hb1 cx;clear tok1 _t hnil1)|(at_builtin;have _t:=tok2;refine wpList_append_own _ rfl _ _ 22 rfl W0.heap.size 9 i _ 1 16 Tryz.underlying22 hi hz0 hz1 hz2 rfl (by decide) v1 (0+k) _ rfl (hown1.alloc _) ⟨w1.heap.size,0,none⟩ 1 1 [.string x] rfl rfl (cell_one_new w1 (.string x) 9) (strs_oneCell [x]) hm2 (by omega) (Nat.le_trans hb1.size (by simp)) ?_;intro v2 w2 hown2 hg2 hnil2;have hb2:Below W0.heap.size W0 w2:=(hb1.alloc hb1.size _).grown hg2 (Nat.le_trans hb1.size (by simp)) (fun k h=>(hown1.lt k h).1);clear tok2 _t hnil2)|(at_builtin;have _t:=tok3;refine wpList_append_own _ rfl _ _ 22 rfl W0.heap.size 9 i _ 1 16 Tryz.underlying22 hi hz0 hz1 hz2 rfl (by decide) v2 (0+k+1) _ rfl hown2 ad 0 (cap - k) (([]:List ByteArray).map Value.string) rfl rfl (HHS.out _ _) (strs_oneCell _) hm3 (by omega) hb2.size ?_;intro v3 w3 hown3 hg3 hnil3;clear tok3 _t hnil3))
      have hb3:Below W0.heap.size W0 w3:=hb2.grown hg3 hb2.size (fun k h=>(hown2.lt k h).1)
      refine⟨⟨hb.trans (hb3.mono hb.size),k+1,ys.take k++x :: ys.drop k,by omega,by go_num,?_,Lh.ins_sorted HSO.out (by have:=HYL.out;omega) HLO.out HHI.out,?_⟩,by simp[intOf];omega⟩
      ·have h3:=owns_mono hown3 hb.size
       rw[show 0+k+1+0=k+1 by omega] at h3
       have hdr:ys.drop k=[]:=List.drop_of_length_le (by have:=HYL.out;omega)
       rw[hdr]
       simpa using h3
      ·have:=Lh.ins_perm (k:=k) hlt HPE.out
       rwa [HXN.out] at this
  ·have hfull:xs.take n=xs:=List.take_of_length_le (by omega)
   have hperm:=HPE.out
   rw[hfull] at hperm
   have hfin:=Lh.sort_unique HSO.out hperm
   have hst:=strs_of_owns hown
   rw[hfin] at hst
   have HST:Hid _:=hst
   clear hst hfin hperm hfull hown hyl
   go_wp2
   go_ret
   exact⟨_,rfl,HST.out,hb⟩
end Go.Proofs.YtfhmfjcpggddkaaGreatDoor
namespace Go.Proofs.YtfhmfjcpggddkaaGreatDoor
open Go.RowKit
theorem below_of_drew {w w':World}(h:Below w.drew.heap.size w.drew w'):Below w.heap.size w w':=⟨h.os,h.tape,h.output,h.size,h.block⟩
theorem sortedOf_zero (p:Option Addr)(cap:Nat)(w:World) :
  Calls Tryz.prog 123 #[.slice p 0 cap] w fun e w'=>e=.returned (.slice none 0 0)∧w'=w:=by
 go_enter Tryz.func123,Tryz.ntmps123
 go_wp2
 refine wp_loop_rounds 1 ?_
 rw[rounds_succ]
 go_wp2
 go_ret
 exact⟨rfl,rfl⟩
theorem sortedOf_any (v:Value)(xs:List ByteArray)(w:World)(hv:Strs1 w v xs)(hm:xs.length<1000000) :
  Calls Tryz.prog 123 #[v] w fun e w'=>∃v',e=.returned v'∧Strs1 w' v' (Lh.sortT xs)∧Below w.heap.size w w':=by
 rcases hv with⟨rfl,rfl|⟨ad,c,rfl⟩⟩|⟨b,o,c,rfl,hcap,hx⟩
 ·exact (sortedOf_zero _ _ w).mono fun e w' ⟨h1,h2⟩=>⟨_,h1,Or.inl ⟨by rw[←Lh.sort_unique (xs:=[]) (ys:=[]) List.Pairwise.nil List.Perm.nil],Or.inl rfl⟩,by rw[h2];exact Below.refl _ _⟩
 ·exact (sortedOf_zero _ _ w).mono fun e w' ⟨h1,h2⟩=>⟨_,h1,Or.inl ⟨by rw[←Lh.sort_unique (xs:=[]) (ys:=[]) List.Pairwise.nil List.Perm.nil],Or.inl rfl⟩,by rw[h2];exact Below.refl _ _⟩
 ·exact sortedOf_core b o c xs w hx hm
end Go.Proofs.YtfhmfjcpggddkaaGreatDoor
namespace Go.Proofs.YtfhmfjcpggddkaaGreatDoor
open Go.RowKit Go.Maps Go.ChangeMaps
def ptrElem (v:Value):Option (DataW Unit × List MemPlace) :=
 match v with
 | .pointer (some ⟨b,0,none⟩)=>some (.lit (.int .i64 (b:Nat)),[])
 | .pointer none=>some (.nil,[])
 | _=>none
theorem ptrElem_inv {v:Value}{r:Nat}{ps:List MemPlace}(h:ptrElem v=some (.lit (.int .i64 (r:Nat)),ps)):v=.pointer (some ⟨r,0,none⟩):=by
 unfold ptrElem at h
 split at h
 ·simp only[Option.some.injEq,Prod.mk.injEq,DataW.lit.injEq,Lit.int.injEq,true_and] at h
  have:_=r:=Int.ofNat.inj h.1
  subst this
  rfl
 ·simp at h
 ·cases h
theorem ptrElem_mk (b:Nat):ptrElem (.pointer (some ⟨b,0,none⟩))=some (.lit (.int .i64 (b:Nat)),[]):=rfl
theorem wpList_lookup_ptr {P:Program}(w:World){ops:Array Oper}{rest:List Oper}{o:Oper}{a:Act}{Q:Exit→Act→World→Prop}
  (hg:o.guard=none) (m x:Operand) (t:TypeId) (hop:o.op=Op.lookup t m x false)
  (k e:TypeId) (K:Keyed P k) (ht:P.underlying t=some (.map k e)) (hz:(zeroValue e).run P w=.ok (.pointer none) w) (b n:Nat) (D:DataW Unit)
  (hm:a.eval m=.map (some b)) (hown:w.ownsMap P k ptrElem b n D) (key:Value) (kl:Lit) (hx:a.eval x=key) (hkey:keyOf P k key=some kl) (r:Nat) (hr:D.atKey kl .nil=.lit (.int .i64 (r:Nat)))
  (hK:wpList P ops Q rest (a.put o.dst (.pointer (some ⟨r,0,none⟩))) w) :
  wpList P ops Q (o :: rest) a w:=by
 refine wpList_plain hg fun K' hK'=>?_
 obtain⟨v,ps,hrun,hv⟩:=hown.lookup K ht hz (zd:=.nil) (zp:=[]) rfl hkey
 rw[hr] at hv
 obtain rfl:=ptrElem_inv hv
 unfold Oper.wp
 simp[execOp,hop,hm,hx,hrun,Result.andThen]
 exact hK' _ _ hK
theorem ownsMap_same {P:Program}{k:TypeId}{R:Value→Option (DataW Unit × List MemPlace)}{w w':World}{b n:Nat}{D:DataW Unit}(h:w.ownsMap P k R b n D)(he:w'.heap[b]?=w.heap[b]?):w'.ownsMap P k R b n D:=by
 obtain⟨es,clock,hb,r⟩:=h
 exact⟨es,clock,he.trans hb,r⟩
end Go.Proofs.YtfhmfjcpggddkaaGreatDoor
namespace Go.Proofs.YtfhmfjcpggddkaaGreatDoor
open Go.RowKit
namespace Lh
theorem sortT_perm (xs:List ByteArray):(sortT xs).Perm xs:=by
 unfold sortT
 have h:=(List.mergeSort_perm (xs.map fun s=>s.data.toList) (fun x y=>decide (x≤y))).map (fun l:List UInt8=>(⟨l.toArray⟩:ByteArray))
 rw[List.map_map] at h
 have e:((fun l:List UInt8=>(⟨l.toArray⟩:ByteArray)) ∘ fun s:ByteArray=>s.data.toList)=id:=rfl
 rw[e,List.map_id] at h
 exact h
def ix (xs:List ByteArray)(s:ByteArray):Nat:=xs.findIdx fun x=>decide (x=s)
theorem ix_lt {xs:List ByteArray}{s:ByteArray}(h:s∈xs):ix xs s<xs.length:=List.findIdx_lt_length.2 ⟨s,h,by simp⟩
theorem ix_at {xs:List ByteArray}{s:ByteArray}(h:s∈xs):xs[ix xs s]'(ix_lt h)=s:=by
 exact of_decide_eq_true (List.findIdx_getElem (p:=fun x=>decide (x=s)) (xs:=xs) (w:=ix_lt h))
theorem nodup_inj {xs:List ByteArray}(hn:xs.Nodup){i j:Nat}(hi:i<xs.length)(hj:j<xs.length)(h:xs[i]=xs[j]):i=j:=by
 have hp:=List.pairwise_iff_getElem.1 hn
 rcases Nat.lt_trichotomy i j with hlt|e|hgt
 ·exact absurd h (hp i j hi hj hlt)
 ·exact e
 ·exact absurd h.symm (hp j i hj hi hgt)
theorem ix_first {xs:List ByteArray}{s:ByteArray}{k:Nat}(hk:k<xs.length)(he:xs[k]=s)(hb:∀j (h:j<xs.length),j<k→xs[j]≠s):ix xs s=k:=by
 have hm:s∈xs:=he ▸ List.getElem_mem hk
 rcases Nat.lt_trichotomy (ix xs s) k with h|h|h
 ·exact absurd (ix_at hm) (hb _ (ix_lt hm) h)
 ·exact h
 ·have:=List.not_of_lt_findIdx (p:=fun x=>decide (x=s)) h
  simp[he] at this
def nameAt (ys:List ByteArray)(k:Nat):ByteArray:=ys.getD k ByteArray.empty
theorem nameAt_lt {ys:List ByteArray}{k:Nat}(h:k<ys.length):nameAt ys k=ys[k]:=by
 unfold nameAt;rw[List.getD_eq_getElem?_getD,List.getElem?_eq_getElem h];rfl
theorem nameAt_mem {xs:List ByteArray}{k:Nat}(h:k<xs.length):nameAt (sortT xs) k∈xs:=by
 have h':k<(sortT xs).length:=by rw[sortT_length];exact h
 rw[nameAt_lt h']
 exact (sortT_perm xs).mem_iff.1 (List.getElem_mem h')
def rowN (s:ByteArray)(n j:Nat):Nat:=rowAt (num s 1) (num s 2) n j
def rowL (s:ByteArray)(n:Nat):List Int:=(List.range n).map fun j=>((rowN s n j:Nat):Int)
theorem rowL_length (s:ByteArray)(n:Nat):(rowL s n).length=n:=by simp[rowL]
theorem rowL_get (s:ByteArray)(n:Nat){j:Nat}(h:j<(rowL s n).length):(rowL s n)[j]=((rowN s n j:Nat):Int):=by simp[rowL]
def rowsN (ys:List ByteArray)(n k j:Nat):Nat:=rowN (nameAt ys k) n j
def valsN (xs ys:List ByteArray)(k:Nat):Int:=(ix xs (nameAt ys k):Nat)
def tab (xs:List ByteArray)(n t:Nat):List Int:=fill n xs.length (rowsN (sortT xs) n) (valsN xs (sortT xs)) t
theorem tab_length (xs:List ByteArray)(n t:Nat):(tab xs n t).length=n:=fill_length _ _ _ _ _
theorem tab_ok {xs:List ByteArray}{n:Nat}(hp:Prm n)(h0:0<xs.length):RowsOk n xs.length (rowsN (sortT xs) n) (valsN xs (sortT xs)) :=
 ⟨h0,fun _ _ _ _=>rowAt_lt hp.1,fun _ _ _ _ hi hj h=>rowAt_inj hp hi hj h,fun _ _=>by unfold valsN;omega⟩
theorem tab_step {xs:List ByteArray}{n t p:Nat}(hp:p<n)(hf:(tab xs n t).getD (rowsN (sortT xs) n (t % xs.length) p) 0<0)(hb:∀i,i<p→0≤(tab xs n t).getD (rowsN (sortT xs) n (t % xs.length) i) 0) :
  tab xs n (t+1)=(tab xs n t).set (rowsN (sortT xs) n (t % xs.length) p) (valsN xs (sortT xs) (t % xs.length)):=by
 show step1 _ _ _ _ t (tab xs n t)=_
 unfold step1
 rw[pick_unique hp hf hb]
theorem tab_keeps {xs:List ByteArray}{n:Nat}(hp:Prm n)(h0:0<xs.length){t:Nat}{x:Nat}(hx:0≤(tab xs n t).getD x 0):0≤(tab xs n (t+1)).getD x 0:=by
 have hr:=tab_ok (xs:=xs) hp h0
 have hk:t % xs.length<xs.length:=Nat.mod_lt _ h0
 show 0≤(step1 _ _ _ _ t (tab xs n t)).getD x 0
 unfold step1
 rw[List.getD_eq_getElem?_getD] at hx ⊢
 rw[List.getElem?_set]
 split
 ·split
  ·simp[hr.val _ hk]
  ·simp
 ·exact hx
theorem tab_free {xs:List ByteArray}{n:Nat}(hp:Prm n)(h0:0<xs.length){t:Nat}(ht:t<n){k:Nat}(hk:k<xs.length):∃j,j<n∧(tab xs n t).getD (rowsN (sortT xs) n k j) 0<0:=fill_pick (tab_ok hp h0) ht hk
theorem tab_full {xs:List ByteArray}{n:Nat}(hp:Prm n)(h0:0<xs.length){x:Nat}(hx:x<n):∃i,∃_:i<xs.length,(tab xs n n).getD x 0=(i:Nat):=by
 obtain⟨k,hk,_,e⟩:=fill_full (tab_ok hp h0) hx
 exact⟨_,ix_lt (nameAt_mem hk),e⟩
end Lh
end Go.Proofs.YtfhmfjcpggddkaaGreatDoor
namespace Go.Proofs.YtfhmfjcpggddkaaGreatDoor
namespace Lh
theorem prm_of_roots {n:Nat}(h2:2≤n)(h:∀d,2≤d→d*d≤n→n % d≠0):Prm n:=by
 refine⟨h2,fun k hk hkn hz=>?_⟩
 obtain⟨q,hq⟩:=Nat.dvd_of_mod_eq_zero hz
 have hq2:2≤q:=by
  rcases Nat.lt_or_ge q 2 with hlt|hge
  ·have:q=0∨q=1:=by omega
   rcases this with rfl|rfl
   ·omega
   ·omega
  ·exact hge
 rcases Nat.le_total k q with hle|hle
 ·exact h k hk (by rw[hq];exact Nat.mul_le_mul_left _ hle) hz
 ·exact h q hq2 (by rw[hq];exact Nat.mul_le_mul_right _ hle) (by rw[hq,Nat.mul_mod_left])
theorem root_lt {n d:Nat}(h2:2≤d)(hd:d*d≤n):d<n:=by
 have:d*2≤d*d:=Nat.mul_le_mul_left _ h2
 omega
theorem root_small {n d:Nat}(hn:n≤503)(hd:d*d≤n):d≤22:=by
 rcases Nat.lt_or_ge 22 d with h|h
 ·have:23*23≤d*d:=Nat.mul_le_mul (by omega) (by omega)
  omega
 ·exact h
theorem sq_le {d:Nat}(h:d≤23):d*d≤529:=Nat.mul_le_mul h h
def SizeIs (n:Int)(e:Nat):Prop:=((n<2∨503<n)∧e=2)∨∃m:Nat,n=m∧2≤m∧m≤503∧((¬Prm m∧e=3)∨(Prm m∧e=0))
open Classical in
theorem sizeIs_ex (n:Int):∃e,SizeIs n e:=by
 by_cases h:n<2∨503<n
 ·exact⟨2,Or.inl ⟨h,rfl⟩⟩
 ·obtain⟨m,hm⟩:=Int.eq_ofNat_of_zero_le (show 0≤n by omega)
  by_cases hp:Prm m
  ·exact⟨0,Or.inr ⟨m,hm,by omega,by omega,Or.inr ⟨hp,rfl⟩⟩⟩
  ·exact⟨3,Or.inr ⟨m,hm,by omega,by omega,Or.inl ⟨hp,rfl⟩⟩⟩
end Lh
end Go.Proofs.YtfhmfjcpggddkaaGreatDoor
namespace Go.Proofs.YtfhmfjcpggddkaaGreatDoor
open Go.RowKit
theorem sizeError_out (n:Int)(w:World)(h:n<2∨503<n)(hn:-9223372036854775808≤n∧n≤9223372036854775807) :
  Calls Tryz.prog 118 #[.int .i64 n] w fun r w'=>r=.returned (.int .i64 2)∧w'=w:=by
 by_cases h2:n<2
 ·have d1:decide (n<2)=true:=by simp;omega
  go_enter Tryz.func118,Tryz.ntmps118
  go_wp2
  go_ret
  exact⟨rfl,rfl⟩
 ·have d1:decide (n<2)=false:=by simp;omega
  have d2:decide (503<n)=true:=by simp;omega
  go_enter Tryz.func118,Tryz.ntmps118
  go_wp2
  go_ret
  exact⟨rfl,rfl⟩
theorem sizeError_in (m e:Nat)(w:World)(h2:2≤m)(h5:m≤503)(h:(¬Lh.Prm m∧e=3)∨(Lh.Prm m∧e=0)) :
  Calls Tryz.prog 118 #[.int .i64 m] w fun r w'=>r=.returned (.int .i64 e)∧w'=w:=by
 have d1:decide ((m:Int)<2)=false:=by simp;omega
 have d2:decide (503<(m:Int))=false:=by simp;omega
 have HH:Hid ((¬Lh.Prm m∧e=3)∨(Lh.Prm m∧e=0)):=h
 clear h
 go_enter Tryz.func118,Tryz.ntmps118
 go_wp2
 go_loop [3] (fun t=>∃k:Nat,2≤k∧k≤m∧t=.int .i64 k∧∀j,2≤j→j<k→m % j≠0) (fun t=>m - (intOf t).toNat)
 case atStart=>exact⟨2,Nat.le_refl _,h2,rfl,fun j h h'=>absurd h (by omega)⟩
 case round =>
  obtain⟨k,hk2,hkm,rfl,hpre⟩:=hrel
  have HP:Hid (∀j,2≤j→j<k→m % j≠0):=hpre
  clear hpre
  by_cases hlt:k<m
  ·have hd:decide ((k:Int)<(m:Int))=true:=by simp;omega
   have hk0:((k:Int)==0)=false:=by simp;omega
   by_cases hz:m % k=0
   ·have hzz:((m:Int) % (k:Int)==0)=true:=by rw[←Int.natCast_emod,hz];rfl
    have HZ:Hid (m % k=0):=hz
    clear hz
    go_wp2
    go_ret
    refine⟨?_,rfl⟩
    rcases HH.out with⟨_,e3⟩|⟨hp,_⟩
    ·rw[e3];rfl
    ·exact absurd HZ.out (hp.2 k hk2 hlt)
   ·have hzz:((m:Int) % (k:Int)==0)=false:=by rw[←Int.natCast_emod,beq_eq_false_iff_ne];omega
    have HZ:Hid (m % k≠0):=hz
    clear hz
    go_wp2
    go_round
    case rel =>
     refine⟨k+1,by omega,by omega,by go_num,fun j h hj=>?_⟩
     by_cases e:j=k
     ·subst e;exact HZ.out
     ·exact HP.out j h (by omega)
    case measure=>simp[intOf];omega
  ·have hd:decide ((k:Int)<(m:Int))=false:=by simp;omega
   go_wp2
   go_ret
   refine⟨?_,rfl⟩
   have hp:Lh.Prm m:=⟨h2,fun j h hj=>HP.out j h (by omega)⟩
   rcases HH.out with⟨hn,_⟩|⟨_,e0⟩
   ·exact absurd hp hn
   ·rw[e0];rfl
theorem sizeError_any (n:Int)(e:Nat)(w:World)(hn:-9223372036854775808≤n∧n≤9223372036854775807)(h:Lh.SizeIs n e) :
  Calls Tryz.prog 118 #[.int .i64 n] w fun r w'=>r=.returned (.int .i64 e)∧w'=w:=by
 rcases h with⟨h,rfl⟩|⟨m,rfl,h2,h5,h⟩
 ·exact sizeError_out n w h hn
 ·exact sizeError_in m e w h2 h5 h
theorem sq_cast (k:Nat):(k:Int)*(k:Int)=((k*k:Nat):Int):=by simp
theorem num_lt (s:ByteArray)(k:Nat):Lh.num s k<18446744073709551616:=Lh.turn_lt _
theorem rem_small (a n:Nat)(hn:0<n):a % n<n:=Nat.mod_lt _ hn
theorem rowL_snoc (s:ByteArray)(n j:Nat)(h:j<n):(Lh.rowL s n).take j++[((Lh.rowN s n j:Nat):Int)]=(Lh.rowL s n).take (j+1):=by
 rw[List.take_succ_eq_append_getElem (by rw[Lh.rowL_length];exact h),Lh.rowL_get]
theorem row_parts (s:ByteArray)(n:Nat)(h2:2≤n)(h5:n≤503):∃o k:Nat,o<n∧k+1<n∧(Lh.num s 1:Int) % (n:Int)=(o:Int)∧(Lh.num s 2:Int) % ((n:Int) - 1)=(k:Int) ∧
  ∀j:Nat,j<n→0≤(j:Int)*((k:Int)+1)∧(j:Int)*((k:Int)+1)≤300000∧((o:Int)+(j:Int)*((k:Int)+1)) % (n:Int)=((Lh.rowN s n j:Nat):Int):=by
 refine⟨Lh.num s 1 % n,Lh.num s 2 % (n - 1),rem_small _ _ (by omega),?_,by simp,?_,fun j hj=>?_⟩
 ·have:=rem_small (Lh.num s 2) (n - 1) (by omega)
  omega
 ·rw[Int.natCast_emod,Int.natCast_sub (by omega)];rfl
 ·have hk:=rem_small (Lh.num s 2) (n - 1) (by omega)
  have hb:j*(Lh.num s 2 % (n - 1)+1)≤503*503:=Nat.mul_le_mul (by omega) (by omega)
  have e:(j:Int)*(((Lh.num s 2 % (n - 1):Nat):Int)+1)=((j*(Lh.num s 2 % (n - 1)+1):Nat):Int):=by rw[Int.natCast_mul,Int.natCast_add];rfl
  refine⟨by omega,by omega,?_⟩
  rw[e,←Int.natCast_add,←Int.natCast_emod]
  rfl
theorem rowOf_own (s:ByteArray)(n:Nat)(w:World)(hs:s.size≤300)(h2:2≤n)(h5:n≤503) :
  Calls Tryz.prog 124 #[.string s,.int .i64 n] w fun e w'=>∃v,e=.returned v∧w'.ownsRow w.heap.size 3 1 v n ((Lh.rowL s n).map (Value.int .i64))∧Below w.heap.size w w':=by
 obtain⟨i,hi,hz0,hz1,hz2⟩:=info_parts infoI
 have hA:=num_lt s 1
 have hB:=num_lt s 2
 obtain⟨o,k,ho,hk,hc1,hc2,hrow⟩:=row_parts s n h2 h5
 have HROW:Hid (∀j:Nat,j<n→0≤(j:Int)*((k:Int)+1)∧(j:Int)*((k:Int)+1)≤300000∧((o:Int)+(j:Int)*((k:Int)+1)) % (n:Int)=((Lh.rowN s n j:Nat):Int)):=hrow
 clear hrow
 have hn0:((n:Int)==0)=false:=by simp;omega
 have hn1:((n:Int) - 1==0)=false:=by rw[beq_eq_false_iff_ne];omega
 go_enter Tryz.func124,Tryz.ntmps124
 go_wp2_with fail
 refine (numberOf_any s 1 _ hs).mono ?_
 rintro e w1 ⟨rfl,rfl⟩
 go_wp2_with fail
 refine (numberOf_any s 2 _ hs).mono ?_
 rintro e w2 ⟨rfl,rfl⟩
 go_wp2_with fail
 have LEN:Hid ((Lh.rowL s n).length=n):=Lh.rowL_length s n
 rw[hc2]
 clear hc1 hc2
 go_loopw [7,8] (fun vo t W=>Below w2.heap.size w2 W∧∃j:Nat,j≤n∧t=.int .i64 j∧W.ownsRow w2.heap.size 3 1 vo j (((Lh.rowL s n).take j).map (Value.int .i64))) (fun _ t _=>n - (intOf t).toNat)
 case atStart=>exact⟨Below.refl _ _,0,Nat.zero_le _,rfl,by simpa using World.ownsRow_nil _ _ _ _⟩
 case round =>
  obtain⟨hb,j,hj,rfl,hown⟩:=hrel
  by_cases hlt:j<n
  ·obtain⟨hj0,hj1,hj2⟩:=HROW.out j hlt
   have hd:decide ((j:Int)<(n:Int))=true:=by simp;omega
   have hmx:j+1≤maxLen:=by unfold maxLen;omega
   have hbs:∀q,w2.heap.size≤(wr.alloc q).heap.size:=fun q=>by
    have h1:(wr.alloc q).heap.size=wr.heap.size+1:=by simp
    have:=hb.size
    omega
   have hnew:=cell_one_new wr (.int .i64 (Lh.rowN s n j:Nat)) 3
   go_wp2_with (at_builtin;refine wpList_append_own _ rfl _ _ 34 rfl w2.heap.size 3 i _ 1 8 Tryz.underlying34 hi hz0 hz1 hz2 rfl (by decide) _ j _ rfl (hown.alloc _) ⟨wr.heap.size,0,none⟩ 1 1 [.int .i64 (Lh.rowN s n j:Nat)] rfl rfl hnew (ints_oneCell1 _) hmx (by omega) (hbs _) ?_;intro v2 w3 hown2 hg2 hnil2)
   go_roundw
   case rel =>
    refine⟨(hb.alloc hb.size _).grown hg2 (hbs _) (fun k h=>(hown.lt k h).1),j+1,by omega,by go_num,?_⟩
    rw[←rowL_snoc s n j hlt,List.map_append]
    exact hown2
   case measure=>simp[intOf];omega
  ·have hd:decide ((j:Int)<(n:Int))=false:=by simp;omega
   have hjn:j=n:=by omega
   have hfin:=hown
   rw[List.take_of_length_le (by rw[LEN.out];omega),hjn] at hfin
   have HF:Hid _:=hfin
   clear hfin hown hjn
   go_wp2
   go_ret
   exact⟨_,rfl,HF.out,hb⟩
theorem rowOf_any (s:ByteArray)(n:Nat)(w:World)(hs:s.size≤300)(h2:2≤n)(h5:n≤503) :
  Calls Tryz.prog 124 #[.string s,.int .i64 n] w fun e w'=>∃v,e=.returned v∧Ints w' v (Lh.rowL s n)∧Below w.heap.size w w' :=
 (rowOf_own s n w hs h2 h5).mono fun _ _ ⟨v,h1,h2,h3⟩=>⟨v,h1,ints_of_owns h2,h3⟩
theorem rowOf_at (s:ByteArray)(n:Nat)(w:World)(hs:s.size≤300)(h2:2≤n)(h5:n≤503) :
  Calls Tryz.prog 124 #[.string s,.int .i64 n] w fun e w'=>∃g c,e=.returned (.slice (some ⟨g,0,none⟩) n c)∧w.heap.size≤g∧(∀j,j<n→w'.cell? ⟨g,j,none⟩=some (.int .i64 (Lh.rowN s n j:Nat)))∧Below w.heap.size w w' :=
 (rowOf_own s n w hs h2 h5).mono fun _ _ ⟨v,h1,ho,h3⟩=>by
  have ho':=ho
  rcases ho.2 with⟨_,hn⟩|⟨g,cap,cur,rfl,hg,_⟩
  ·omega
  ·refine⟨g,cap,h1,hg,fun j hj=>?_,h3⟩
   rw[ho'.cellAt j (by omega)]
   have hl:j<(Lh.rowL s n).length:=by rw[Lh.rowL_length];exact hj
   simp[hl,Lh.rowL_get]
theorem take_set_snoc {α:Type}{xs:List α}{j:Nat}(h:j<xs.length)(v:α):(xs.set j v).take (j+1)=xs.take j++[v]:=by
 rw[List.take_succ_eq_append_getElem (by simpa using h)]
 have e:(xs.take j).set j v=xs.take j:=List.set_eq_of_length_le (by simp;omega)
 simp[List.take_set,e]
theorem slotsOf_any (s:ByteArray)(n:Nat)(w:World)(hs:s.size≤300)(h2:2≤n)(h5:n≤503) :
  Calls Tryz.prog 174 #[.string s,.int .i64 n] w fun e w'=>∃g,e=.returned (.slice (some ⟨g,0,none⟩) n n)∧w.heap.size≤g∧IntRow w' g (Lh.rowL s n)∧Below w.heap.size w w':=by
 obtain⟨i,hi,hz0,hz1,hz2⟩:=info_parts infoI
 have hA:=num_lt s 1
 have hB:=num_lt s 2
 obtain⟨o,k,ho,hk,hc1,hc2,hrow⟩:=row_parts s n h2 h5
 have HROW:Hid (∀j:Nat,j<n→0≤(j:Int)*((k:Int)+1)∧(j:Int)*((k:Int)+1)≤300000∧((o:Int)+(j:Int)*((k:Int)+1)) % (n:Int)=((Lh.rowN s n j:Nat):Int)):=hrow
 clear hrow
 have hn0:((n:Int)==0)=false:=by simp;omega
 have hn1:((n:Int) - 1==0)=false:=by rw[beq_eq_false_iff_ne];omega
 have hbyt:i.bytes*n≤281474976710656:=by rw[hz2];omega
 have hmax:n≤maxLen:=by unfold maxLen;omega
 go_enter Tryz.func174,Tryz.ntmps174
 go_wp2_with fail
 refine (of_any s 1 _ hs).mono ?_
 rintro e w1 ⟨rfl,hb1⟩
 go_wp2_with fail
 refine (of_any s 2 _ hs).mono ?_
 rintro e w2 ⟨rfl,hb2⟩
 have hbA:=below_then hb1 hb2
 clear hb1 hb2
 go_wp2_with (at_make;refine wpList_make_full w2 rfl _ _ 34 rfl w2.heap.size 3 i _ 1 Tryz.underlying34 hi hz0 hz1 _ _ _ _ n rfl rfl rfl rfl hbyt hmax (Nat.le_refl _) ?_)
 intro w3 hown hgrow
 have hb3:Below w.heap.size w w3:=hbA.trans ((below_grown hgrow (fun k h=>by cases h)).mono hbA.size)
 rw[made_ints2] at hown
 have hrow0:=IntRow.of_owns hown
 have hgb:=hbA.size
 clear hown hgrow hbA
 generalize w2.heap.size=g at *
 go_wp2_with fail
 try rw[hc2]
 clear hc1 hc2
 go_loopw [27] (fun t W=>Below w.heap.size w W∧∃j:Nat,j≤n∧t=.int .i64 j∧∃xs:List Int,xs.length=n∧xs.take j=(Lh.rowL s n).take j∧IntRow W g xs) (fun t _=>n - (intOf t).toNat)
 case atStart=>exact⟨hb3,0,Nat.zero_le _,rfl,_,by simp,by simp,hrow0⟩
 case round =>
  obtain⟨hb,j,hj,rfl,xs,hlen,htake,hrow⟩:=hrel
  have HT:Hid (xs.take j=(Lh.rowL s n).take j):=htake
  have HLEN:Hid (xs.length=n):=hlen
  have HR:Hid (IntRow wr g xs):=hrow
  have HR0:Hid (IntRow w3 g (List.replicate n 0)):=hrow0
  clear htake
  by_cases hlt:j<n
  ·obtain⟨hj0,hj1,hj2⟩:=HROW.out j hlt
   rw[show (k:Int)+1=1+(k:Int) from Int.add_comm _ _] at hj0 hj1 hj2
   obtain⟨x0,c0⟩:∃x,wr.cell? ⟨g,j,none⟩=some (.int .i64 x):=⟨_,hrow.cell (k:=j) (by omega)⟩
   have f0:=hrow.frozen j
   have hd:decide ((j:Int)<(n:Int))=true:=by simp;omega
   clear hrow hlen hrow0
   go_wp2_with fail
   go_roundw
   case rel =>
    refine⟨hb.setCell hgb _,j+1,by omega,by go_num,xs.set j (Lh.rowN s n j:Nat),by simp[HLEN.out],?_,HR.out.set _ _⟩
    rw[take_set_snoc (by rw[HLEN.out];exact hlt),HT.out,rowL_snoc s n j hlt]
   case measure=>simp[intOf];omega
  ·have hd:decide ((j:Int)<(n:Int))=false:=by simp;omega
   have hfin:IntRow wr g (Lh.rowL s n):=by
    have h1:=HT.out
    rw[List.take_of_length_le (by rw[HLEN.out];omega),List.take_of_length_le (by rw[Lh.rowL_length];omega)] at h1
    rw[←h1]
    exact hrow
   have HF:Hid (IntRow wr g (Lh.rowL s n)):=hfin
   clear hfin hrow hrow0 hlen
   go_wp2
   go_ret
   exact⟨g,rfl,hgb,HF.out,hb⟩
end Go.Proofs.YtfhmfjcpggddkaaGreatDoor
