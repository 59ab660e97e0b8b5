/- The reference's NextOf. -/
import Derived.Test.YtfhmfjcpggddkaaGreatDoorM30
import Derived.Deep.RegionHeld3
import Derived.Deep.AppendLies
import Derived.Deep.RegionLaw
set_option maxHeartbeats 20000000
set_option maxRecDepth 100000
namespace Go.Proofs.YtfhmfjcpggddkaaGreatDoor
open Go.RowKit Go.Sort Go.Shelf Go.Lib
def lenV:Value→Nat
 | .slice _ n _=>n
 | _=>0
def BestIs (out:List ByteArray)(f:Nat)(L:List Lh.Pt)(tb:Value)(i:Nat):Prop :=
 (tb=.int .i64 (-1)∧∀j (h:j<L.length),j<i→L[j].2∈out) ∨
 ∃b0,∃hb0:b0<L.length,b0<i∧tb=.int .i64 (b0:Nat)∧¬L[b0].2∈out∧∀j (h:j<L.length),j<i→¬L[j].2∈out→Lh.leF f L[b0] L[j]
theorem BestIs.skip {out:List ByteArray}{f:Nat}{L:List Lh.Pt}{tb:Value}{i:Nat}(h:BestIs out f L tb i)(hi:i<L.length)(hm:L[i].2∈out):BestIs out f L tb (i+1):=by
 rcases h with⟨h1,h2⟩|⟨b0,hb0,h1,h2,h3,h4⟩
 ·refine Or.inl ⟨h1,fun j hj hji=>?_⟩
  by_cases e:j=i
  ·subst e;exact hm
  ·exact h2 j hj (by omega)
 ·refine Or.inr ⟨b0,hb0,by omega,h2,h3,fun j hj hji hn=>?_⟩
  by_cases e:j=i
  ·subst e;exact absurd hm hn
  ·exact h4 j hj (by omega) hn
theorem BestIs.first {out:List ByteArray}{f:Nat}{L:List Lh.Pt}{i:Nat}(h2:∀j (h:j<L.length),j<i→L[j].2∈out)(hi:i<L.length)(hm:¬L[i].2∈out):BestIs out f L (.int .i64 (i:Nat)) (i+1):=by
 refine Or.inr ⟨i,hi,by omega,rfl,hm,fun j hj hji hn=>?_⟩
 by_cases e:j=i
 ·subst e;exact Lh.leF_refl _ _
 ·exact absurd (h2 j hj (by omega)) hn
theorem BestIs.turn {out:List ByteArray}{f:Nat}{L:List Lh.Pt}{i b0:Nat}(hb0:b0<L.length)(h4:∀j (h:j<L.length),j<i→¬L[j].2∈out→Lh.leF f L[b0] L[j])(hi:i<L.length)(hm:¬L[i].2∈out)(hl:Lh.lessF f L[i] L[b0]=true):BestIs out f L (.int .i64 (i:Nat)) (i+1):=by
 refine Or.inr ⟨i,hi,by omega,rfl,hm,fun j hj hji hn=>?_⟩
 by_cases e:j=i
 ·subst e;exact Lh.leF_refl _ _
 ·exact Lh.leF_trans (Lh.lessF_true hl) (h4 j hj (by omega) hn)
theorem BestIs.stay {out:List ByteArray}{f:Nat}{L:List Lh.Pt}{i b0:Nat}(hb0:b0<L.length)(hbi:b0<i)(h3:¬L[b0].2∈out)(h4:∀j (h:j<L.length),j<i→¬L[j].2∈out→Lh.leF f L[b0] L[j])(hi:i<L.length)(hl:Lh.lessF f L[i] L[b0]=false):BestIs out f L (.int .i64 (b0:Nat)) (i+1):=by
 refine Or.inr ⟨b0,hb0,by omega,rfl,h3,fun j hj hji hn=>?_⟩
 by_cases e:j=i
 ·subst e;exact Lh.lessF_false hl
 ·exact h4 j hj (by omega) hn
theorem less_pt (f:Nat)(p q:Lh.Pt)(w:World) :
  Calls Tryz.prog 128 #[.int .u64 (f:Nat),.agg #[.int .u64 (p.1:Nat),.string p.2],.agg #[.int .u64 (q.1:Nat),.string q.2]] w fun e w'=>e=.returned (.bool (Lh.lessF f p q))∧Below w.heap.size w w':=less_any f p.1 q.1 p.2 q.2 w
theorem nextOf_any (rb blk cap:Nat)(L R:List Lh.Pt)(z:Nat)(many:Int)(w:World)(hR:RingBlk w rb blk cap L)(hp:R.Perm L)(hs:R.Pairwise (Lh.leF (Lh.turn z)))(hl:L.length<1000000) :
  Calls Tryz.prog 83 #[.pointer (some ⟨rb,0,none⟩),.int .u64 (z:Nat),.int .i64 many] w fun e w'=>∃v,e=.returned v∧Strs1 w' v ((Lh.dd [] R).take many.toNat)∧Below w.heap.size w w':=by
 obtain⟨ii,hi,hz0,hz1,hz2⟩:=info_parts infoS
 have HCR:Hid (∀W,Below w.heap.size w W→W.cell? ⟨rb,0,none⟩=some (.slice (some ⟨blk,0,none⟩) L.length cap)):=fun W hW=>below_cell hW hR.1
 have HCA:Hid (∀W,Below w.heap.size w W→∀i (h:i<L.length),W.cell? ⟨blk,i*2,none⟩=some (.int .u64 (L[i].1:Nat))∧W.cell? ⟨blk,i*2+1,none⟩=some (.string L[i].2)):=fun W hW i h=>⟨below_cell hW (hR.2 i h).1,below_cell hW (hR.2 i h).2⟩
 have HT:=turnOf_any z w
 have hdl:(Lh.dd [] R).length≤L.length:=by
  have:=Lh.dd_length_le R []
  rw[hp.length_eq] at this
  simpa using this
 have HDL:Hid ((Lh.dd [] R).length≤L.length):=hdl
 clear hdl
 generalize Lh.turn z=f at *
 have HNX:Hid (∀k,k≤(Lh.dd [] R).length→∀b0 (hb0:b0<L.length),¬L[b0].2∈(Lh.dd [] R).take k→(∀j (h:j<L.length),j<L.length→¬L[j].2∈(Lh.dd [] R).take k→Lh.leF f L[b0] L[j])→k<(Lh.dd [] R).length∧(Lh.dd [] R).take (k+1)=(Lh.dd [] R).take k++[L[b0].2]):=fun k hk b0 hb0 hn hmin =>
  Lh.dd_next hs (hp.mem_iff.2 (List.getElem_mem hb0)) hk hn (fun q hq hqn=>by
   obtain⟨j,hj,rfl⟩:=List.getElem_of_mem (hp.mem_iff.1 hq)
   exact hmin j hj hj hqn)
 have HALL:Hid (∀k,k≤(Lh.dd [] R).length→(∀j (h:j<L.length),j<L.length→L[j].2∈(Lh.dd [] R).take k)→k=(Lh.dd [] R).length):=fun k hk h =>
  Lh.dd_all hk (fun q hq=>by
   obtain⟨j,hj,rfl⟩:=List.getElem_of_mem (hp.mem_iff.1 hq)
   exact h j hj hj)
 generalize Lh.dd [] R=D at *
 clear hR hp hs
 go_enter Tryz.func83,Tryz.ntmps83
 go_wp2_with fail
 refine HT.mono ?_
 rintro e w1 ⟨rfl,rfl⟩
 clear HT
 go_wp2_with fail
 go_loopw [8] (fun v W=>Below w1.heap.size w1 W∧∃k:Nat,k≤D.length∧k≤many.toNat∧W.ownsRow w1.heap.size 9 1 v k ((D.take k).map Value.string)) (fun v _=>D.length - lenV v)
 case atStart=>exact⟨Below.refl _ _,0,Nat.zero_le _,Nat.zero_le _,by simpa using owns_nil w1 _ _⟩
 case round =>
  obtain⟨hb,k,hkD,hkm,hown⟩:=hrel
  obtain⟨p,c,rfl⟩:∃p c,u8=.slice p k c:=by
   obtain⟨_,⟨rfl,rfl⟩|⟨g,cp,_,rfl,_⟩⟩:=hown
   ·exact⟨_,_,rfl⟩
   ·exact⟨_,_,rfl⟩
  have hkl:k<1000000:=by have:=HDL.out;omega
  by_cases hkk:(k:Int)<many
  ·have hd:decide ((k:Int)<many)=true:=by simpa using hkk
   have HOWN:Hid (wr.ownsRow w1.heap.size 9 1 (.slice p k c) k ((D.take k).map Value.string)):=hown
   clear hown
   have hdn:D.length - k=D.length - k:=rfl
   clear hdn
   generalize wr=W0 at *
   have hout:(D.take k).length<1000000:=by rw[List.length_take];omega
   have HSTR:Hid (∀W,Below W0.heap.size W0 W→Strs W (.slice p k c) (D.take k)):=fun W hW=>(strs_of_owns (ownsRow_below HOWN.out hW)).strs
   go_wp2_with fail
   go_loopw [9,10] (fun tb t W=>Below W0.heap.size W0 W∧∃i:Nat,i≤L.length∧t=.int .i64 i∧BestIs (D.take k) f L tb i) (fun _ t _=>L.length - (intOf t).toNat)
   case atStart=>exact⟨Below.refl _ _,0,Nat.zero_le _,rfl,Or.inl ⟨rfl,fun j _ h=>absurd h (by omega)⟩⟩
   case round =>
    obtain⟨hbr,i,hil,rfl,hbest⟩:=hrel
    have hbw:Below w1.heap.size w1 wr:=below_then hb hbr
    have c0:=HCR.out wr hbw
    by_cases hlt:i<L.length
    ·obtain⟨ca,ch⟩:=HCA.out wr hbw i hlt
     have hii:(i:Int)<(L.length:Int):=by omega
     have hmem:=refMem_any (.slice p k c) (D.take k) L[i].2 wr (HSTR.out wr hbr) hout
     by_cases hin:L[i].2∈D.take k
     ·have HB2:Hid (BestIs (D.take k) f L u9 (i+1)):=hbest.skip hlt hin
      rw[Lh.mem_true hin] at hmem
      clear hin hbest ca
      generalize L[i].2=s at *
      go_wp2_with fail
      refine hmem.mono ?_
      rintro e w2 ⟨⟨j,rfl,hj⟩,rfl⟩
      clear hmem
      go_wp2
      exact⟨⟨hbr,i+1,by omega,by go_num,HB2.out⟩,by simp[intOf];omega⟩
     ·rw[Lh.mem_false hin] at hmem
      rcases hbest with⟨rfl,hall⟩|⟨b0,hb0,hbi,rfl,hn0,hmin⟩
      ·have HB2:Hid (BestIs (D.take k) f L (.int .i64 (i:Nat)) (i+1)):=BestIs.first hall hlt hin
       clear hin hall ca
       generalize L[i].2=s at *
       go_wp2_with fail
       refine hmem.mono ?_
       rintro e w2 ⟨⟨j,rfl,hj⟩,rfl⟩
       clear hmem
       go_wp2_with fail
       go_quiet (fail)
       go_wp2
       exact⟨⟨below_drewN hbr _,i+1,by omega,by go_num,HB2.out⟩,by simp[intOf];omega⟩
      ·have hb0i:(b0:Int)<(L.length:Int):=by omega
       have hd0:decide ((b0:Int)<0)=false:=by simp
       have HSS:Hid (∀W',Below W0.heap.size W0 W'→Below W0.heap.size W0 W'∧W'.cell? ⟨rb,0,none⟩=some (.slice (some ⟨blk,0,none⟩) L.length cap)∧W'.cell? ⟨blk,i*2,none⟩=some (.int .u64 (L[i].1:Nat))∧W'.cell? ⟨blk,i*2+1,none⟩=some (.string L[i].2)∧W'.cell? ⟨blk,b0*2,none⟩=some (.int .u64 (L[b0].1:Nat))∧W'.cell? ⟨blk,b0*2+1,none⟩=some (.string L[b0].2)):=fun W' hW'=>⟨hW',HCR.out _ (below_then hb hW'),(HCA.out _ (below_then hb hW') i hlt).1,(HCA.out _ (below_then hb hW') i hlt).2,(HCA.out _ (below_then hb hW') b0 hb0).1,(HCA.out _ (below_then hb hW') b0 hb0).2⟩
       cases hr:Lh.lessF f L[i] L[b0]
       ·have HB2:Hid (BestIs (D.take k) f L (.int .i64 (b0:Nat)) (i+1)):=BestIs.stay hb0 hbi hn0 hmin hlt hr
        have hless:∀W',Below W0.heap.size W0 W'→Calls Tryz.prog 128 #[.int .u64 (f:Nat),.agg #[.int .u64 (L[i].1:Nat),.string L[i].2],.agg #[.int .u64 (L[b0].1:Nat),.string L[b0].2]] W' fun e w'=>e=.returned (.bool false)∧Below W0.heap.size W0 w':=fun W' hW'=>(less_pt f L[i] L[b0] W').mono fun e w' ⟨h1,h2⟩=>⟨by rw[h1,hr],below_then hW' h2⟩
        clear hr hin hn0 hmin ca
        generalize L[i]=pi at *
        generalize L[b0]=pb at *
        go_wp2_with fail
        refine hmem.mono ?_
        rintro e w2 ⟨⟨j,rfl,hj⟩,rfl⟩
        clear hmem
        go_wp2_with fail
        go_region_held3 (fun w'=>Below W0.heap.size W0 w'∧w'.cell? ⟨rb,0,none⟩=some (.slice (some ⟨blk,0,none⟩) L.length cap)∧w'.cell? ⟨blk,i*2,none⟩=some (.int .u64 (pi.1:Nat))∧w'.cell? ⟨blk,i*2+1,none⟩=some (.string pi.2)∧w'.cell? ⟨blk,b0*2,none⟩=some (.int .u64 (pb.1:Nat))∧w'.cell? ⟨blk,b0*2+1,none⟩=some (.string pb.2))
         (first|exact HSS.out _ (by assumption)|exact HSS.out _ (below_drewN hbr 1))
         (first
          | (go_at_call 128;refine (hless _ (by first|assumption|exact below_drewN hbr 1)).mono ?_;rintro e w' ⟨rfl,hbn⟩))
        all_goals
         go_wp2
         exact⟨⟨hbn,i+1,by omega,by go_num,HB2.out⟩,by simp[intOf];omega⟩
       ·have HB2:Hid (BestIs (D.take k) f L (.int .i64 (i:Nat)) (i+1)):=BestIs.turn hb0 hmin hlt hin hr
        have hless:∀W',Below W0.heap.size W0 W'→Calls Tryz.prog 128 #[.int .u64 (f:Nat),.agg #[.int .u64 (L[i].1:Nat),.string L[i].2],.agg #[.int .u64 (L[b0].1:Nat),.string L[b0].2]] W' fun e w'=>e=.returned (.bool true)∧Below W0.heap.size W0 w':=fun W' hW'=>(less_pt f L[i] L[b0] W').mono fun e w' ⟨h1,h2⟩=>⟨by rw[h1,hr],below_then hW' h2⟩
        clear hr hin hn0 hmin ca
        generalize L[i]=pi at *
        generalize L[b0]=pb at *
        go_wp2_with fail
        refine hmem.mono ?_
        rintro e w2 ⟨⟨j,rfl,hj⟩,rfl⟩
        clear hmem
        go_wp2_with fail
        go_region_held3 (fun w'=>Below W0.heap.size W0 w'∧w'.cell? ⟨rb,0,none⟩=some (.slice (some ⟨blk,0,none⟩) L.length cap)∧w'.cell? ⟨blk,i*2,none⟩=some (.int .u64 (pi.1:Nat))∧w'.cell? ⟨blk,i*2+1,none⟩=some (.string pi.2)∧w'.cell? ⟨blk,b0*2,none⟩=some (.int .u64 (pb.1:Nat))∧w'.cell? ⟨blk,b0*2+1,none⟩=some (.string pb.2))
         (first|exact HSS.out _ (by assumption)|exact HSS.out _ (below_drewN hbr 1))
         (first
          | (go_at_call 128;refine (hless _ (by first|assumption|exact below_drewN hbr 1)).mono ?_;rintro e w' ⟨rfl,hbn⟩))
        all_goals
         go_wp2
         exact⟨⟨hbn,i+1,by omega,by go_num,HB2.out⟩,by simp[intOf];omega⟩
    ·have hie:i=L.length:=by omega
     subst hie
     have hstr:=ownsRow_below HOWN.out hbr
     rcases hbest with⟨rfl,hall⟩|⟨b0,hb0,hbi,rfl,hn0,hmin⟩
     ·have HK:Hid (k=D.length):=HALL.out k hkD hall
      have HFS:Hid (Strs1 wr (.slice p k c) (D.take k)):=strs_of_owns hstr
      clear hall hstr
      go_wp2
      go_ret
      refine⟨_,rfl,?_,hbw⟩
      have e1:=HK.out
      have e2:=HFS.out
      rw[e1,List.take_length] at e2
      rw[List.take_of_length_le (by omega),e1]
      exact e2
     ·obtain⟨hkD',htk⟩:=HNX.out k hkD b0 hb0 hn0 hmin
      have HTK:Hid (D.take (k+1)=D.take k++[L[b0].2]):=htk
      obtain⟨_,ch⟩:=HCA.out wr hbw b0 hb0
      have hb0i:(b0:Int)<(L.length:Int):=by omega
      have hd0:decide ((b0:Int)<0)=false:=by simp
      clear htk hn0 hmin
      generalize L[b0].2=s at *
      have hown3:=hstr.alloc (.cells #[.string s] 9)
      have hnews:=cells_one (w:=wr) (t:=9) s
      have hbw3:Below w1.heap.size w1 (wr.alloc (.cells #[.string s] 9)):=hbw.alloc hbw.size _
      have hmax:k+1≤maxLen:=by unfold maxLen;omega
      clear hstr
      go_wp2_with (at_builtin;refine wpList_append_own _ rfl _ _ 22 rfl w1.heap.size 9 ii _ 1 16 Tryz.underlying22 hi hz0 hz1 hz2 rfl (by decide) (.slice p k c) k _ rfl hown3 ⟨wr.heap.size,0,none⟩ 1 1 [.string s] rfl rfl hnews (fun u hu=>by simp at hu;subst hu;rfl) hmax (by omega) hbw3.size ?_)
      intro v' w4 hown4 hg4 _
      have hlo:=hown3.lt
      have hb4:Below w1.heap.size w1 w4:=hbw3.grown hg4 hbw3.size (fun q hq=>(hlo q hq).1)
      have hout4:w4.ownsRow w1.heap.size 9 1 v' (k+1) ((D.take k).map Value.string++[.string s]):=by simpa using hown4
      have HOUT:Hid (w4.ownsRow w1.heap.size 9 1 v' (k+1) ((D.take k).map Value.string++[.string s])):=hout4
      clear hout4
      clear hown3 hnews hlo hg4 hbw3 hmax
      obtain⟨_,⟨_,hbad⟩|⟨g,cp,cur,rfl,_⟩⟩:=hown4
      ·omega
      go_wp2
      refine⟨⟨hb4,k+1,hkD',by omega,?_⟩,by simp[lenV];omega⟩
      rw[HTK.out]
      exact owns_snoc HOUT.out
  ·have hd:decide ((k:Int)<many)=false:=by simpa using hkk
   go_wp2
   go_ret
   have:k=many.toNat:=by omega
   refine⟨_,rfl,?_,hb⟩
   rw[←this]
   exact strs_of_owns hown
theorem infoQ:(Tryz.prog.info? 190).map (fun i=>(i.zero,i.size,i.bytes))=some (some (.agg #[.int .u64 0,.string ByteArray.empty]),2,24):=by kernel_rfl
theorem far_cell {wr W w1:World}{o:Obj}{row:Option Nat}{x k:Nat}{val:Value}(hW:W.heap=wr.heap.push o)(hg:W.grownBy w1 row)(hne:some x≠row)(h:wr.cell? ⟨x,k,none⟩=some val):w1.cell? ⟨x,k,none⟩=some val:=by
 have hx:x<wr.heap.size:=World.block_lt_of_cell? wr ⟨x,k,none⟩ h
 have hx2:x<W.heap.size:=by rw[hW];simp;omega
 have e:w1.heap[x]?=wr.heap[x]?:=by
  rw[hg.block x hx2 hne,hW,Array.getElem?_push_lt hx,Array.getElem?_eq_getElem hx]
 rw[World.cell?_of_block (w:=wr) (w':=w1) (a:=⟨x,k,none⟩) e]
 exact h
theorem far_frozen {wr W w1:World}{o:Obj}{row:Option Nat}{x k:Nat}(hW:W.heap=wr.heap.push o)(hg:W.grownBy w1 row)(hne:some x≠row)(hx:x<wr.heap.size)(h:wr.frozen? ⟨x,k,none⟩=false):w1.frozen? ⟨x,k,none⟩=false:=by
 have hx2:x<W.heap.size:=by rw[hW];simp;omega
 have e:w1.heap[x]?=wr.heap[x]?:=by
  rw[hg.block x hx2 hne,hW,Array.getElem?_push_lt hx,Array.getElem?_eq_getElem hx]
 rw[World.frozen?_of_block (w:=wr) (w':=w1) (a:=⟨x,k,none⟩) e]
 exact h
theorem owns_setCell {w:World}{base:Nat}{e:TypeId}{size:Nat}{v:Value}{n:Nat}{xs:List Value}(h:w.ownsRow base e size v n xs){x k:Nat}(hx:x<base)(u:Value):(w.setCell ⟨x,k,none⟩ u).ownsRow base e size v n xs:=by
 refine h.kept (row:=some x) ⟨rfl,rfl,rfl,by simp[World.setCell],fun j _ hne=>heap_setCell_other w ⟨x,k,none⟩ j u (fun e=>hne (by rw[e]))⟩ ?_
 cases hv:v.ownBlock with
 | none=>exact Or.inl rfl
 | some g =>
  have:=(h.lt g hv).1
  exact Or.inr (fun e=>by cases e;omega)
theorem owns_heap {w W:World}{base:Nat}{e:TypeId}{size:Nat}{v:Value}{n:Nat}{xs:List Value}{o:Obj}(h:w.ownsRow base e size v n xs)(hW:W.heap=w.heap.push o):W.ownsRow base e size v n xs:=by
 obtain⟨h1,h2|⟨g,cap,cur,e1,e2,e3,e4⟩⟩:=h
 ·exact⟨h1,Or.inl h2⟩
 ·refine⟨h1,Or.inr ⟨g,cap,cur,e1,e2,?_,e4⟩⟩
  have hg:g<w.heap.size:=(Array.getElem?_eq_some_iff.1 e3).1
  rw[hW,Array.getElem?_push_lt hg,←Array.getElem?_eq_getElem hg]
  exact e3
theorem cellsP_heap {wr W:World}{t:TypeId}(p:Lh.Pt)(hW:W.heap=wr.heap.push (.cells #[.int .u64 (p.1:Nat),.string p.2] t (0,0))):∀j u,(encP p)[j]?=some u→W.cell? ((⟨wr.heap.size,0,none⟩:Addr).add j)=some u:=by
 intro j u hu
 have e:W.heap[wr.heap.size]?=some (.cells #[.int .u64 (p.1:Nat),.string p.2] t (0,0)):=by rw[hW];simp
 match j,hu with
 | 0,hu=>simp[encP] at hu;subst hu;simp[Addr.add,World.cell?,e]
 | 1,hu=>simp[encP] at hu;subst hu;simp[Addr.add,World.cell?,e]
 | j+2,hu=>simp[encP] at hu
theorem step_append_pt {ops:Array Oper}{o:Oper}{a:Act}{K:Act→World→Prop}{Q:Exit→Act→World→Prop}{E:Prop}{W:World}(wr:World)(at1:Nat)(s:ByteArray)(rb:Nat)(hgd:o.guard=none)(so xo:Operand)
  (ho:o.op=.call { callee:=.builtin .append,args:=#[so,xo],argTypes:=#[185,185] }) (hW:W.heap=wr.heap.push (.cells #[.int .u64 (at1:Nat),.string s] 190 (0,0)))
  (v:Value) (P1:List Lh.Pt) (hs:a.eval so=v) (hx:a.eval xo=.slice (some ⟨wr.heap.size,0,none⟩) 1 1) (hown:wr.ownsRow (rb+1) 190 2 v P1.length (flatP P1)) (hl:P1.length≤208) (hrb:rb<wr.heap.size)
  (h:∀g cap w',w'.ownsRow (rb+1) 190 2 (.slice (some ⟨g,0,none⟩) (P1.length+1) cap) (P1.length+1) (flatP (P1++[(at1,s)]))→W.grownBy w' v.ownBlock→K (a.put o.dst (.slice (some ⟨g,0,none⟩) (P1.length+1) cap)) w') :
  if Region.wanted o (yielded ops a.tmps)=true then Oper.wp Tryz.prog o a W K Q else E:=by
 obtain⟨i,hi,hz0,hz1,hz2⟩:=info_parts infoQ
 have hsz:W.heap.size=wr.heap.size+1:=by rw[hW];simp
 refine step_append_lies W hgd so xo 185 ho (rb+1) 190 i _ 2 24 Tryz.underlying185 hi hz0 hz1 hz2 rfl (by decide) v P1.length (flatP P1) hs (owns_heap hown hW) ⟨wr.heap.size,0,none⟩ 1 1 (encP (at1,s)) hx rfl (cellsP_heap (at1,s) hW) (encP_one _) (by decide) (by unfold maxLen;omega) (by omega) (by omega) (wr.heap.size+1) hsz ?_
 intro g cp w1 hown1 hgr _ _
 rw[←flatP_snoc] at hown1
 exact h g cp w1 hown1 hgr
theorem ringOf_any (b o cap:Nat)(xs:List ByteArray)(c:Nat)(w:World)(hx:∀k (h:k<xs.length),w.cell? ⟨b,o+k,none⟩=some (.string xs[k]))(hb0:b<w.heap.size)(hl:xs.length≤12)(h0:0<xs.length)(hc1:1≤c)(hc:c≤16)(hs:∀k (h:k<xs.length),(xs[k]).size≤300) :
    Calls Tryz.prog 82 #[.slice (some ⟨b,o,none⟩) xs.length cap,.int .i64 (c:Nat)] w fun e w'=>∃rb blk cp,e=.returned (.pointer (some ⟨rb,0,none⟩))∧RingBlk w' rb blk cp (Lh.pts c xs)∧Below w.heap.size w w':=by
  obtain⟨i,hi,hz0,hz1,hz2⟩:=info_parts infoQ
  have HX:Hid (∀k (h:k<xs.length),w.cell? ⟨b,o+k,none⟩=some (.string xs[k])):=hx
  have HS:Hid (∀k (h:k<xs.length),(xs[k]).size≤300):=hs
  clear hx hs
  obtain⟨rb,hrb⟩:∃rb,w.heap.size=rb:=⟨_,rfl⟩
  have HRB:Hid (w.heap.size=rb):=hrb
  go_enter Tryz.func82,Tryz.ntmps82
  go_wp2_with fail
  have hbW:=(Below.refl w.heap.size w).alloc (Nat.le_refl _) (.cells #[.slice none 0 0] 187)
  have cr0:(w.alloc (.cells #[.slice none 0 0] 187)).cell? ⟨rb,0,none⟩=some (.slice none 0 0):=by rw[←hrb];simp
  have fr0:(w.alloc (.cells #[.slice none 0 0] 187)).frozen? ⟨rb,0,none⟩=false:=by rw[←hrb];simp
  have hb0':b<rb:=by omega
  rw[hrb] at hbW
  generalize w.alloc (.cells #[.slice none 0 0] 187)=w0 at *
  clear hrb hb0
  go_loopw [6] (fun t W=>Below rb w W∧∃k:Nat,k≤xs.length∧t=.int .i64 k∧∃v,W.cell? ⟨rb,0,none⟩=some v∧W.frozen? ⟨rb,0,none⟩=false∧W.ownsRow (rb+1) 190 2 v (Lh.pts c (xs.take k)).length (flatP (Lh.pts c (xs.take k)))) (fun t _=>xs.length - (intOf t).toNat)
  case atStart=>exact⟨hbW,0,Nat.zero_le _,rfl,_,cr0,fr0,World.ownsRow_nil _ _ _ _⟩
  case round =>
    clear cr0 fr0 hbW
    obtain⟨hb,k,hk,rfl,v,cr,fr,hown⟩:=hrel
    by_cases hlt:k<xs.length
    · have HCX:Hid (∀W,Below rb w W→W.cell? ⟨b,o+k,none⟩=some (.string xs[k])):=fun W hW=>below_cell (by rw[HRB.out];exact hW) (HX.out k hlt)
      have hsz:=HS.out k hlt
      have HP:Hid (Lh.pts c (xs.take (k+1))=Lh.pts c (xs.take k)++Lh.pts1 c xs[k]):=pts_snoc c xs k hlt
      have hlen:(Lh.pts c (xs.take k)).length≤192:=by
        rw[Lh.pts_length,List.length_take]
        exact mul_bound (by omega) hc
      generalize Lh.pts c (xs.take k)=P0 at *
      generalize xs[k]=s at *
      have HSZ:Hid (s.size≤300):=hsz
      clear hsz
      have hki:(k:Int)<(xs.length:Int):=by omega
      go_wp2_with fail
      go_loopw [7] (fun t W=>Below rb w W∧∃j:Nat,j≤c∧t=.int .i64 j∧∃v,W.cell? ⟨rb,0,none⟩=some v∧W.frozen? ⟨rb,0,none⟩=false∧W.ownsRow (rb+1) 190 2 v (P0++(Lh.pts1 c s).take j).length (flatP (P0++(Lh.pts1 c s).take j))) (fun t _=>c - (intOf t).toNat)
      case atStart=>exact⟨hb,0,Nat.zero_le _,rfl,v,cr,fr,by simpa using hown⟩
      case round =>
        clear hown hb cr fr
        obtain⟨hb,j,hj,rfl,v,cr,fr,hown⟩:=hrel
        by_cases hjc:j<c
        · have hlj:(P0++(Lh.pts1 c s).take j).length≤208:=by
            rw[List.length_append,List.length_take]
            omega
          have hap:P0++(Lh.pts1 c s).take (j+1)=(P0++(Lh.pts1 c s).take j)++[(Lh.num s (1000+j),s)]:=by
            rw[pts1_snoc c j s hjc,List.append_assoc]
          have HAP:Hid (P0++(Lh.pts1 c s).take (j+1)=(P0++(Lh.pts1 c s).take j)++[(Lh.num s (1000+j),s)]):=hap
          clear hap
          generalize P0++(Lh.pts1 c s).take j=P1 at *
          have hnum:=fun W'=>numberOf_any s (1000+j) W' HSZ.out
          rw[show ((1000+j:Nat):Int)=IntKind.u64.wrap (IntKind.i64.wrap (1000+(j:Int))) by simp[IntKind.wrap,IntKind.bits,IntKind.signed];omega] at hnum
          generalize Lh.num s (1000+j)=at1 at *
          have HNUM:Hid (∀W',Calls Tryz.prog 127 #[.string s,.int .u64 (IntKind.u64.wrap (IntKind.i64.wrap (1000+(j:Int))))] W' fun e w'=>e=.returned (.int .u64 (at1:Nat))∧w'=W'):=hnum
          clear hnum
          have cx:=HCX.out wr hb
          have HNE:Hid (∀x,x≤rb→some x≠v.ownBlock):=fun x hx e=>by
            have:=(hown.lt x e.symm).1
            omega
          have hrl:rb<wr.heap.size:=World.block_lt_of_cell? wr ⟨rb,0,none⟩ cr
          have hmax:P1.length+1≤maxLen:=by unfold maxLen;omega
          have hbr:b≠rb:=by omega
          have hrb2:rb≠b:=by omega
          have HOWN:Hid (wr.ownsRow (rb+1) 190 2 v P1.length (flatP P1)):=hown
          clear hown
          go_wp2_with fail
          go_region_law (first
            | (refine step_append_pt wr at1 s rb rfl _ _ rfl rfl v P1 rfl rfl HOWN.out hlj hrl ?_
               intro g cp w1 hown1 hgr
               have hr1:=far_cell (wr:=wr) (x:=rb) (k:=0) rfl hgr (HNE.out rb (Nat.le_refl _)) cr
               have fr1:=far_frozen (wr:=wr) (x:=rb) (k:=0) rfl hgr (HNE.out rb (Nat.le_refl _)) hrl fr)
            | (go_simp;go_at_call 127;refine (HNUM.out _).mono ?_;rintro e w' ⟨rfl,rfl⟩))
          all_goals
            have hbw1:Below rb w w1:=by
              refine (hb.trans (below_drewN ((Below.refl rb wr).alloc (Nat.le_of_lt hrl) _) 1)).grown hgr (by simp;omega) (fun q e=>?_)
              · refine Nat.le_of_lt (Nat.lt_of_not_le fun h=>HNE.out q h ?_)
                exact e.symm
            have hbw2:Below rb w (w1.setCell ⟨rb,0,none⟩ (.slice (some ⟨g,0,none⟩) (P1.length+1) cp)):=hbw1.setCell (Nat.le_refl _) _
            have hownN:=owns_setCell (k:=0) hown1 (Nat.lt_succ_self rb) (.slice (some ⟨g,0,none⟩) (P1.length+1) cp)
            have crN:(w1.setCell ⟨rb,0,none⟩ (.slice (some ⟨g,0,none⟩) (P1.length+1) cp)).cell? ⟨rb,0,none⟩=some (.slice (some ⟨g,0,none⟩) (P1.length+1) cp):=by simp[go_sem,hr1]
            have frN:(w1.setCell ⟨rb,0,none⟩ (.slice (some ⟨g,0,none⟩) (P1.length+1) cp)).frozen? ⟨rb,0,none⟩=false:=by simp[go_sem,fr1]
            clear hown1 hgr hr1 fr1 hbw1 cr fr cx hb
            generalize w1.setCell ⟨rb,0,none⟩ (.slice (some ⟨g,0,none⟩) (P1.length+1) cp)=wN at *
            go_wp2
            refine⟨⟨hbw2,j+1,by omega,by go_num,_,crN,frN,?_⟩,by simp[intOf];omega⟩
            rw[HAP.out,List.length_append]
            exact hownN
        · go_wp2
          have hjj:j=c:=by omega
          subst hjj
          rw[List.take_of_length_le (by rw[Lh.pts1_length];exact Nat.le_refl _),←HP.out] at hown
          exact⟨⟨hb,k+1,by omega,by go_num,v,cr,fr,hown⟩,by simp[intOf];omega⟩
    · go_wp2
      go_ret
      have hkk:k=xs.length:=by omega
      subst hkk
      rw[List.take_length] at hown
      have hlp1:0<(Lh.pts c xs).length:=by rw[Lh.pts_length];exact Nat.mul_pos h0 hc1
      obtain⟨g,cp,rfl,_,_,_,hpts,_⟩:=pts_of_owns hown hlp1
      refine⟨rb,g,cp,rfl,⟨cr,hpts⟩,by rw[HRB.out];exact hb⟩
end Go.Proofs.YtfhmfjcpggddkaaGreatDoor
