/- The reference's HostsFault, and LongHosts. -/
import Derived.Test.YtjeicikflkjacaaGreatDoorM2
import Derived.Laws.AppendOwnNone
import Derived.Laws.CopyOwn
import Derived.Test.YtjeicikflkjacaaGreatDoorM1
import Derived.SliceStrings
set_option maxHeartbeats 20000000
namespace Go.Proofs.YtjeicikflkjacaaGreatDoor
open Go.RowKit
theorem bare_any (n:Int)(w:World):Calls Tryz.prog 21 #[.int .i64 n] w fun e w'=>e=.returned (.agg #[.int .i64 n,.int .i64 (-1)])∧Below w.heap.size w w':=by
 go_enter Tryz.func21,Tryz.ntmps21
 go_wp2
 exact bodyPost_ret (v:=.agg #[.int .i64 n,.int .i64 (-1)]) (by simp[results,Tryz.results21,go_sem]) rfl ⟨rfl,(Below.refl _ _).alloc (Nat.le_refl _) _⟩
theorem fine_any (w:World):Calls Tryz.prog 22 #[] w fun e w'=>e=.returned (.agg #[.int .i64 0,.int .i64 (-1)])∧Below w.heap.size w w':=by
 go_enter Tryz.func22,Tryz.ntmps22
 go_wp2
 exact bodyPost_ret (v:=.agg #[.int .i64 0,.int .i64 (-1)]) (by simp[results,Tryz.results22,go_sem]) rfl ⟨rfl,(Below.refl _ _).alloc (Nat.le_refl _) _⟩
theorem hfault_core (b o cap:Nat)(xs:List ByteArray)(w:World)(c:Nat)(pl:Int)(hx:∀k (h:k<xs.length),w.cell? ⟨b,o+k,none⟩=some (.string xs[k]))
  (hf:IsFault xs c pl) (h12:¬12<xs.length) (hs:∀k (h:k<xs.length),(xs[k]).size≤1000000) :
  Calls Tryz.prog 33 #[.slice (some ⟨b,o,none⟩) xs.length cap] w fun e w'=>e=.returned (.agg #[.int .i64 c,.int .i64 pl])∧Below w.heap.size w w':=by
 have HF:Hid _:=hf
 have HS:Hid _:=hs
 have e12:decide (12<(xs.length:Int))=false:=by simp;omega
 have hba:∀q,Below w.heap.size w (w.alloc q):=fun q=>(Below.refl _ _).alloc (Nat.le_refl _) _
 have HX:Hid (∀q k (h:k<xs.length),(w.alloc q).cell? ⟨b,o+k,none⟩=some (.string xs[k])):=fun q k h=>below_cell (hba q) (hx k h)
 clear hx hf hs hba
 go_enter Tryz.func33,Tryz.ntmps33
 go_wp2_with fail
 have hbW:=(Below.refl w.heap.size w).alloc (Nat.le_refl _) (.cells #[.int .i64 0,.int .i64 0] 33)
 have HXW:=HX.out (.cells #[.int .i64 0,.int .i64 0] 33)
 go_loopw [3] (fun t W=>W=w.alloc (.cells #[.int .i64 0,.int .i64 0] 33)∧∃k:Nat,k≤xs.length∧t=.int .i64 k∧∀j,j<k→∀hj:j<xs.length,Good xs j hj) (fun t _=>xs.length - (intOf t).toNat)
 case atStart=>exact⟨rfl,0,Nat.zero_le _,rfl,fun j h=>absurd h (by omega)⟩
 case round =>
  obtain⟨rfl,k,hk,rfl,hpre⟩:=hrel
  have HP:Hid _:=hpre
  clear hpre
  have HXX:Hid _:=HXW
  clear HXW
  by_cases hlt:k<xs.length
  ·have cx:=HXX.out k hlt
   have hsz:=HS.out k hlt
   cases hn:Lh.isNm xs[k] with
   | false =>
    have HC:Hid _:=fault_name HF.out h12 hlt HP.out hn
    have HN:Hid _:=hn
    clear hn
    go_wp2_with fail
    refine (refName_any _ _ hsz).mono ?_
    rintro e w1 ⟨rfl,rfl⟩
    rw[HN.out]
    go_wp2
    exact bodyPost_ret (v:=.agg #[.int .i64 c,.int .i64 pl]) (by rw[HC.out.1,HC.out.2];simp[results,Tryz.results33,go_sem]) rfl ⟨rfl,(Below.refl _ _).alloc (Nat.le_refl _) _⟩
   | true =>
    have HN:Hid _:=hn
    cases hme:Lh.mem xs[k] (xs.take k) with
    | true =>
     have HC:Hid _:=fault_exist HF.out h12 hlt HP.out hn hme
     have HM:Hid _:=hme
     clear hn hme
     go_wp2_with fail
     refine (refName_any _ _ hsz).mono ?_
     rintro e w1 ⟨rfl,rfl⟩
     rw[HN.out]
     go_wp2_with fail
     refine (refIndex_any b o cap xs k hlt _ HXX.out (by omega)).mono ?_
     rintro e w2 ⟨⟨j,rfl,hj⟩,rfl⟩
     have hj':decide (j<(k:Int))=true:=by rw[hj,HM.out]
     clear hj
     go_wp2
     exact bodyPost_ret (v:=.agg #[.int .i64 c,.int .i64 pl]) (by rw[HC.out.1,HC.out.2];simp[results,Tryz.results33,go_sem]) rfl ⟨rfl,(Below.refl _ _).alloc (Nat.le_refl _) _⟩
    | false =>
     have HM:Hid _:=hme
     clear hn hme
     go_wp2_with fail
     refine (refName_any _ _ hsz).mono ?_
     rintro e w1 ⟨rfl,rfl⟩
     rw[HN.out]
     go_wp2_with fail
     refine (refIndex_any b o cap xs k hlt _ HXX.out (by omega)).mono ?_
     rintro e w2 ⟨⟨j,rfl,hj⟩,rfl⟩
     have hj':decide (j<(k:Int))=false:=by rw[hj,HM.out]
     clear hj
     go_wp2
     refine⟨⟨by trivial,k+1,by omega,by go_num,fun j hj hl=>?_⟩,by simp[intOf];omega⟩
     by_cases e:j=k
     ·subst e;exact⟨HN.out,HM.out⟩
     ·exact HP.out j (by omega) hl
  ·have HC:Hid _:=fault_none HF.out h12 (fun j hj=>HP.out j (by omega) hj)
   go_wp2_with fail
   refine (fine_any _).mono ?_
   rintro e w1 ⟨rfl,hb1⟩
   have c0:w1.cell? ⟨w.heap.size,0,none⟩=some (.int .i64 0):=below_cell hb1 (by simp)
   have c1:w1.cell? ⟨w.heap.size,1,none⟩=some (.int .i64 0):=below_cell hb1 (by simp)
   have f0:w1.frozen? ⟨w.heap.size,0,none⟩=false:=by rw[hb1.frozen (by simp)];simp
   have f1:w1.frozen? ⟨w.heap.size,1,none⟩=false:=by rw[hb1.frozen (by simp)];simp
   have hbz:Below w.heap.size w w1:=hbW.trans (hb1.mono (by simp))
   clear hb1 hbW
   go_wp2
   exact bodyPost_ret (v:=.agg #[.int .i64 c,.int .i64 pl]) (by rw[HC.out.1,HC.out.2];simp[results,Tryz.results33,go_sem,c0,c1]) rfl ⟨rfl,(hbz.setCell (Nat.le_refl _) _).setCell (Nat.le_refl _) _⟩
theorem hfault_long (p:Option Addr)(n cap:Nat)(w:World)(h12:12<n)(_hm:n<1000000) :
  Calls Tryz.prog 33 #[.slice p n cap] w fun e w'=>e=.returned (.agg #[.int .i64 2,.int .i64 (-1)])∧Below w.heap.size w w':=by
 have e12:decide (12<(n:Int))=true:=by simp;omega
 have hbW:=(Below.refl w.heap.size w).alloc (Nat.le_refl _) (.cells #[.int .i64 0,.int .i64 0] 33)
 go_enter Tryz.func33,Tryz.ntmps33
 go_wp2_with fail
 refine (bare_any _ _).mono ?_
 rintro e w1 ⟨rfl,hb1⟩
 have c0:w1.cell? ⟨w.heap.size,0,none⟩=some (.int .i64 0):=below_cell hb1 (by simp)
 have c1:w1.cell? ⟨w.heap.size,1,none⟩=some (.int .i64 0):=below_cell hb1 (by simp)
 have f0:w1.frozen? ⟨w.heap.size,0,none⟩=false:=by rw[hb1.frozen (by simp)];simp
 have f1:w1.frozen? ⟨w.heap.size,1,none⟩=false:=by rw[hb1.frozen (by simp)];simp
 have hbz:Below w.heap.size w w1:=hbW.trans (hb1.mono (by simp))
 clear hb1 hbW
 go_wp2
 exact bodyPost_ret (v:=.agg #[.int .i64 2,.int .i64 (-1)]) (by simp[results,Tryz.results33,go_sem,c0,c1]) rfl ⟨rfl,(hbz.setCell (Nat.le_refl _) _).setCell (Nat.le_refl _) _⟩
theorem hfault_zero (p:Option Addr)(cap:Nat)(w:World) :
  Calls Tryz.prog 33 #[.slice p 0 cap] w fun e w'=>e=.returned (.agg #[.int .i64 0,.int .i64 (-1)])∧Below w.heap.size w w':=by
 have hbW:=(Below.refl w.heap.size w).alloc (Nat.le_refl _) (.cells #[.int .i64 0,.int .i64 0] 33)
 go_enter Tryz.func33,Tryz.ntmps33
 go_wp2_with fail
 refine wp_loop_rounds 1 ?_
 rw[rounds_succ]
 go_wp2_with fail
 refine (fine_any _).mono ?_
 rintro e w1 ⟨rfl,hb1⟩
 have c0:w1.cell? ⟨w.heap.size,0,none⟩=some (.int .i64 0):=below_cell hb1 (by simp)
 have c1:w1.cell? ⟨w.heap.size,1,none⟩=some (.int .i64 0):=below_cell hb1 (by simp)
 have f0:w1.frozen? ⟨w.heap.size,0,none⟩=false:=by rw[hb1.frozen (by simp)];simp
 have f1:w1.frozen? ⟨w.heap.size,1,none⟩=false:=by rw[hb1.frozen (by simp)];simp
 have hbz:Below w.heap.size w w1:=hbW.trans (hb1.mono (by simp))
 clear hb1 hbW
 go_wp2
 exact bodyPost_ret (v:=.agg #[.int .i64 0,.int .i64 (-1)]) (by simp[results,Tryz.results33,go_sem,c0,c1]) rfl ⟨rfl,(hbz.setCell (Nat.le_refl _) _).setCell (Nat.le_refl _) _⟩
theorem hfault_any (v:Value)(xs:List ByteArray)(w:World)(c:Nat)(pl:Int)(hv:Strs w v xs)(hf:IsFault xs c pl)(hs:∀k (h:k<xs.length),(xs[k]).size≤1000000)(hm:xs.length<1000000) :
  Calls Tryz.prog 33 #[v] w fun e w'=>e=.returned (.agg #[.int .i64 c,.int .i64 pl])∧Below w.heap.size w w':=by
 by_cases h12:12<xs.length
 ·obtain⟨rfl,rfl⟩:=fault_long hf h12
  obtain⟨p,cap,rfl⟩:=hv.slice
  exact hfault_long p _ cap w h12 hm
 ·rcases hv with⟨rfl,p,cap,rfl⟩|⟨b,o,cap,rfl,hcap,hx⟩
  ·obtain⟨rfl,rfl⟩:=fault_none hf h12 (fun j hj=>absurd hj (by simp))
   exact hfault_zero p cap w
  ·exact hfault_core b o cap xs w c pl hx hf h12 hs
theorem long_core (b o cap:Nat)(xs:List ByteArray)(w:World)(hx:∀k (h:k<xs.length),w.cell? ⟨b,o+k,none⟩=some (.string xs[k]))(hs:∀k (h:k<xs.length),(xs[k]).size≤maxLen)(h30:¬30<xs.length) :
  Calls Tryz.prog 6 #[.slice (some ⟨b,o,none⟩) xs.length cap] w fun e w'=>(e=.returned (.int .i64 1)∨(e=.returned (.int .i64 0)∧∀k (h:k<xs.length),(xs[k]).size≤60))∧w'=w:=by
 have HX:Hid _:=hx
 have HS:Hid _:=hs
 have e30:decide (30<(xs.length:Int))=false:=by simp;omega
 clear hx hs
 go_enter Tryz.func6,Tryz.ntmps6
 go_wp2
 go_loop [3] (fun t=>∃k:Nat,k≤xs.length∧t=.int .i64 k∧∀j (h:j<xs.length),j<k→(xs[j]).size≤60) (fun t=>xs.length - (intOf t).toNat)
 case atStart=>exact⟨0,Nat.zero_le _,rfl,fun j _ h=>absurd h (by omega)⟩
 case round =>
  obtain⟨k,hk,rfl,hpre⟩:=hrel
  have HP:Hid _:=hpre
  clear hpre
  by_cases hlt:k<xs.length
  ·have cx:=HX.out k hlt
   have hsz:=HS.out k hlt
   unfold maxLen at hsz
   by_cases h60:60<(xs[k]).size
   ·have e60:decide (60<((xs[k]).size:Int))=true:=by simp;omega
    go_wp2
    go_ret
    exact⟨Or.inl rfl,rfl⟩
   ·have e60:decide (60<((xs[k]).size:Int))=false:=by simp;omega
    go_wp2
    go_round
    case rel =>
     refine⟨k+1,by omega,by go_num,fun j h hj=>?_⟩
     by_cases e:j=k
     ·subst e;omega
     ·exact HP.out j h (by omega)
    case measure=>simp[intOf];omega
  ·go_wp2
   go_ret
   exact⟨Or.inr ⟨rfl,fun j h=>HP.out j h (by omega)⟩,rfl⟩
theorem long_zero (p:Option Addr)(cap:Nat)(w:World) :
  Calls Tryz.prog 6 #[.slice p 0 cap] w fun e w'=>e=.returned (.int .i64 0)∧w'=w:=by
 go_enter Tryz.func6,Tryz.ntmps6
 go_wp2
 refine wp_loop_rounds 1 ?_
 rw[rounds_succ]
 go_wp2
 go_ret
 exact⟨rfl,rfl⟩
theorem long_long (p:Option Addr)(n cap:Nat)(w:World)(h30:30<n)(hm:n≤maxLen) :
  Calls Tryz.prog 6 #[.slice p n cap] w fun e w'=>e=.returned (.int .i64 1)∧w'=w:=by
 unfold maxLen at hm
 have e30:decide (30<(n:Int))=true:=by simp;omega
 go_enter Tryz.func6,Tryz.ntmps6
 go_wp2
 go_ret
 exact⟨rfl,rfl⟩
theorem long_any (v:Value)(xs:List ByteArray)(w:World)(hv:Strs w v xs)(hs:∀k (h:k<xs.length),(xs[k]).size≤maxLen)(hm:xs.length≤maxLen) :
  Calls Tryz.prog 6 #[v] w fun e w'=>(e=.returned (.int .i64 1)∨(e=.returned (.int .i64 0)∧xs.length≤30∧∀k (h:k<xs.length),(xs[k]).size≤60))∧w'=w:=by
 by_cases h30:30<xs.length
 ·obtain⟨p,cap,rfl⟩:=hv.slice
  exact (long_long p _ cap w h30 hm).mono fun e w' ⟨h1,h2⟩=>⟨Or.inl h1,h2⟩
 ·rcases hv with⟨rfl,p,cap,rfl⟩|⟨b,o,cap,rfl,hcap,hx⟩
  ·exact (long_zero p cap w).mono fun e w' ⟨h1,h2⟩=>⟨Or.inr ⟨h1,by simp,fun k h=>absurd h (by simp)⟩,h2⟩
  ·refine (long_core b o cap xs w hx hs h30).mono fun e w' ⟨h1,h2⟩=>⟨?_,h2⟩
   rcases h1 with h1|⟨h1,h3⟩
   ·exact Or.inl h1
   ·exact Or.inr ⟨h1,by omega,h3⟩
def Strs1 (w:World)(v:Value)(xs:List ByteArray):Prop :=
 (xs=[]∧(v=.slice none 0 0∨∃a c,v=.slice (some a) 0 c))∨∃b o c,v=.slice (some ⟨b,o,none⟩) xs.length c∧xs.length≤c∧∀k (h:k<xs.length),w.cell? ⟨b,o+k,none⟩=some (.string xs[k])
theorem Strs1.strs {w:World}{v:Value}{xs:List ByteArray}(h:Strs1 w v xs):Strs w v xs:=by
 rcases h with⟨rfl,rfl|⟨a,c,rfl⟩⟩|h
 ·exact Or.inl ⟨rfl,_,_,rfl⟩
 ·exact Or.inl ⟨rfl,_,_,rfl⟩
 ·exact Or.inr h
theorem Strs1.later {w w':World}{v:Value}{xs:List ByteArray}(h:Strs1 w v xs)(hb:Below w.heap.size w w'):Strs1 w' v xs:=by
 rcases h with h|⟨b,o,c,rfl,hcap,hc⟩
 ·exact Or.inl h
 ·exact Or.inr ⟨b,o,c,rfl,hcap,fun k hk=>below_cell hb (hc k hk)⟩
theorem infoS:(Tryz.prog.info? 9).map (fun i=>(i.zero,i.size,i.bytes))=some (some (.string ByteArray.empty),1,16):=by kernel_rfl
theorem strs_of_owns {w:World}{base n:Nat}{v:Value}{e:TypeId}{xs:List ByteArray}(h:w.ownsRow base e 1 v n (xs.map Value.string)):Strs1 w v xs:=by
 obtain⟨hl,⟨rfl,rfl⟩|⟨g,cap,cur,rfl,hbase,hb,hn,hm,hsz,ht⟩⟩:=h
 ·have:xs=[]:=by simpa using hl
  exact Or.inl ⟨this,Or.inl rfl⟩
 ·have hl':xs.length=n:=by simpa using hl
  refine Or.inr ⟨g,0,cap,by rw[hl'],by omega,fun k hk=>?_⟩
  have hk':(cur.toList.take (n*1))[k]?=some (.string xs[k]):=by rw[ht];simp[hk]
  rw[List.getElem?_take_of_lt (by omega)] at hk'
  simp only[World.cell?,hb,Nat.zero_add]
  simpa using hk'
theorem owns_nil (w:World)(base:Nat)(e:TypeId):w.ownsRow base e 1 (.slice none 0 0) 0 (([]:List ByteArray).map Value.string):=⟨rfl,Or.inl ⟨rfl,rfl⟩⟩
theorem strs_oneCell (xs:List ByteArray):∀u∈xs.map Value.string,u.oneCell'=true:=by
 intro u hu
 obtain⟨_,_,rfl⟩:=List.mem_map.1 hu
 rfl
theorem cells_strs {w:World}{b o:Nat}{xs:List ByteArray}(hx:∀k (h:k<xs.length),w.cell? ⟨b,o+k,none⟩=some (.string xs[k])):∀j u,(xs.map Value.string)[j]?=some u→w.cell? ((⟨b,o,none⟩:Addr).add j)=some u:=by
 intro j u hu
 obtain⟨hj,rfl⟩:=List.getElem?_eq_some_iff.1 hu
 rw[Addr.add_lit,hx j (by simpa using hj)]
 simp
theorem ownTexts_any (v:Value)(xs:List ByteArray)(w:World)(hv:Strs1 w v xs)(hm:xs.length<1000000) :
  Calls Tryz.prog 7 #[v] w fun e w'=>∃v',e=.returned v'∧Strs1 w' v' xs∧Below w.heap.size w w':=by
 obtain⟨i,hi,hz0,hz1,hz2⟩:=info_parts infoS
 have hmax:0+xs.length≤maxLen:=by unfold maxLen;omega
 rcases hv with⟨rfl,rfl|⟨ad,c,rfl⟩⟩|⟨b,o,c,rfl,hcap,hx⟩
 ·go_enter Tryz.func7,Tryz.ntmps7
  go_wp2_with (at_builtin;refine wpList_append_own_none rfl _ _ 22 rfl w.heap.size 9 i 1 Tryz.underlying22 hi (.slice none 0 0) 0 _ rfl (owns_nil w _ _) rfl ?_)
  go_ret
  exact⟨_,rfl,Or.inl ⟨rfl,Or.inl rfl⟩,Below.refl _ _⟩
 ·have hn:([]:List ByteArray).map Value.string=[]:=rfl
  have hnews:∀j u,(([]:List ByteArray).map Value.string)[j]?=some u→w.cell? (ad.add j)=some u:=fun j u h=>by simp at h
  go_enter Tryz.func7,Tryz.ntmps7
  go_wp2_with fail
  go_ret
  exact⟨_,rfl,Or.inl ⟨rfl,Or.inl rfl⟩,Below.refl _ _⟩
 ·have hnews:=cells_strs hx
  go_enter Tryz.func7,Tryz.ntmps7
  go_wp2_with (at_builtin;refine wpList_append_own w rfl _ _ 22 rfl w.heap.size 9 i _ 1 16 Tryz.underlying22 hi hz0 hz1 hz2 rfl (by decide) (.slice none 0 0) 0 _ rfl (owns_nil w _ _) ⟨b,o,none⟩ xs.length c (xs.map Value.string) rfl (by simp) hnews (strs_oneCell xs) hmax (by omega) (Nat.le_refl _) ?_)
  intro v' w' hown hg _
  go_wp2
  go_ret
  refine⟨_,rfl,strs_of_owns (by simpa using hown),below_grown hg (fun k h=>by cases h)⟩
end Go.Proofs.YtjeicikflkjacaaGreatDoor
namespace Go.Proofs.YtjeicikflkjacaaGreatDoor
open Go.ChangeShapes Go.WideShapes Go.ChangeAt Go.RowKit
open Go.ChangeMaps (open_string shut_string)
theorem open_texts {H:Type}{enc:TypeId × Value→H}{W:World}{v:Value}{fuel:Nat}{x:DataW H × List MemPlace}{a0:Option Addr}{len cap:Nat}(hv:v=.slice a0 len cap)
  (hf:DataW.trod enc Tryz.prog W 0 (fun _=>true) true fuel 22 [.slice a0 len cap]=some x) :
  ∃xs:List ByteArray,Strs1 W v xs∧(∀k (h:k<xs.length),(xs[k]).size≤maxLen)∧xs.length≤maxLen:=by
 subst hv
 rcases open_strings Tryz.underlying22 Tryz.underlying9 cellsS hf with⟨hcs,_⟩|⟨a,len',cap',ss,hcs,_,hl,hm,hz,_,hcell,hws⟩
 ·simp at hcs
  obtain⟨rfl,rfl,rfl⟩:=hcs
  exact⟨[],Or.inl ⟨rfl,Or.inl rfl⟩,fun k h=>absurd h (by simp),by simp⟩
 ·simp at hcs
  obtain⟨rfl,rfl,rfl⟩:=hcs
  simp only[if_true] at hz
  have hlen:(ss.take len).length=len:=by simp;omega
  refine⟨ss.take len,?_,fun k h=>hws _ (List.mem_of_mem_take (List.getElem_mem h)),by omega⟩
  rcases Nat.eq_zero_or_pos len with h0|h0
  ·subst h0
   exact Or.inl ⟨by simp,Or.inr ⟨_,_,rfl⟩⟩
  ·obtain⟨b,off,spot⟩:=a
   have hspot:spot=none:=by simpa [Addr.add] using World.cell?_spot (hcell 0 (by omega))
   subst hspot
   refine Or.inr ⟨b,off,cap,by rw[hlen],by omega,fun k h=>?_⟩
   have hk:k<ss.length:=by omega
   have:=hcell k hk
   rw[Addr.add_lit] at this
   rw[this]
   simp[List.getD,hk]
end Go.Proofs.YtjeicikflkjacaaGreatDoor
