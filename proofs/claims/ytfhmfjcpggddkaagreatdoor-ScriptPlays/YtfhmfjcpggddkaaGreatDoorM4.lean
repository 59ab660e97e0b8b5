/- The model's small functions of texts: Byte, Decimal. -/
import Derived.Test.YtfhmfjcpggddkaaGreatDoorM3
import Derived.Test.YtfhmfjcpggddkaaGreatDoorM2
import Derived.Laws.AppendOwnNone
import Derived.Laws.CopyOwn
set_option maxHeartbeats 20000000
set_option maxRecDepth 100000
namespace Go.Proofs.YtfhmfjcpggddkaaGreatDoor
open Go.RowKit
theorem fold_take {α β:Type}(f:α→β→α)(z:α){s:List β}{i:Nat}(h:i<s.length){b:β}(hb:s[i]=b):(s.take (i+1)).foldl f z=f ((s.take i).foldl f z) b:=by
 subst hb
 rw[List.take_succ_eq_append_getElem h,List.foldl_append]
 rfl
theorem fold_range {α:Type}(f:α→Nat→α)(z:α)(k:Nat):(List.range (k+1)).foldl f z=f ((List.range k).foldl f z) k:=by
 rw[List.range_succ,List.foldl_append]
 rfl
theorem xorI (a b:Nat)(ha:a<2 ^ 32)(hb:b<2 ^ 32):bits .xor .i64 (a:Int) (b:Int)=((a ^^^ b:Nat):Int):=by
 have hx:a ^^^ b<2 ^ 32:=Nat.xor_lt_two_pow ha hb
 have h1:(BitVec.ofInt 64 (a:Int)).toNat=a:=by
  rw[BitVec.ofInt_natCast,BitVec.toNat_ofNat];exact Nat.mod_eq_of_lt (by omega)
 have h2:(BitVec.ofInt 64 (b:Int)).toNat=b:=by
  rw[BitVec.ofInt_natCast,BitVec.toNat_ofNat];exact Nat.mod_eq_of_lt (by omega)
 show IntKind.i64.wrap ((BitVec.ofInt 64 (a:Int) ^^^ BitVec.ofInt 64 (b:Int)).toNat:Int)=_
 rw[BitVec.toNat_xor,h1,h2,IntKind.wrap_i64]
 omega
theorem byteM_any (n:Nat)(h:n<256)(W:World) :
  Calls Tryz.prog 116 #[.int .i64 (n:Nat)] W fun e w'=>e=.returned (.string (Lh.bt [UInt8.ofNat n]))∧Below W.heap.size W w':=by
 have hcv:(convert 143 9 (.slice (some ⟨W.heap.size,0,none⟩) 1 1)).run Tryz.prog (W.alloc (.cells #[.int .u8 (n:Nat)] 5))=.ok (.string (Lh.bt [UInt8.ofNat n])) (W.alloc (.cells #[.int .u8 (n:Nat)] 5)):=by
  rw[run_convert_bytes_string _ _ _ _ _ _ _ Tryz.underlying143 Tryz.underlying5 Tryz.underlying9,run_bytesToString _ ⟨W.heap.size,0,none⟩ 1 1 [(n:Int)] (by go_simp)]
  congr 2
 go_enter Tryz.func116,Tryz.ntmps116
 go_wp2
 go_ret
 exact⟨rfl,(Below.refl _ _).alloc (Nat.le_refl _) _⟩
theorem crcM_any (s:List UInt8)(hs:s.length≤100000)(W:World) :
  Calls Tryz.prog 171 #[.string (Lh.bt s)] W fun e w'=>e=.returned (.int .u64 ((Lh.crcL s:Nat):Int))∧w'=W:=by
 go_enter Tryz.func171,Tryz.ntmps171
 have hsz:=Lh.bt_size s
 go_wp2_with fail
 go_loop [3,4,5,6] (fun u3 u4 _ _=>∃i:Nat,i≤s.length∧u4=.int .i64 (i:Nat)∧u3=.int .i64 (((s.take i).foldl Lh.crcByte 4294967295:Nat):Int)) (fun _ u4 _ _=>s.length - (intOf u4).toNat)
 case atStart=>exact⟨0,Nat.zero_le _,rfl,rfl⟩
 case round =>
  obtain⟨i,hi,rfl,rfl⟩:=hrel
  by_cases hlt:i<s.length
  ·have hii:(i:Int)<(s.length:Int):=by omega
   have hbs:i<(Lh.bt s).size:=by rw[hsz];exact hlt
   obtain⟨b,hb⟩:∃b,(Lh.bt s)[i]=b:=⟨_,rfl⟩
   have hb2:s[i]=b:=hb
   have HSU:Hid ((s.take (i+1)).foldl Lh.crcByte 4294967295=Lh.crcByte ((s.take i).foldl Lh.crcByte 4294967295) b):=fold_take Lh.crcByte 4294967295 hlt hb2
   have hc32:(s.take i).foldl Lh.crcByte 4294967295<2 ^ 32:=Lh.crcFold_lt _ (by decide)
   generalize (s.take i).foldl Lh.crcByte 4294967295=c at *
   go_wp2_with fail
   go_loop [3,5,6] (fun u3 u5 _=>∃k:Nat,k≤8∧u5=.int .i64 (k:Nat)∧u3=.int .i64 (((List.range k).foldl (Lh.crcBit b.toNat) c:Nat):Int)) (fun _ u5 _=>8 - (intOf u5).toNat)
   case atStart=>exact⟨0,Nat.zero_le _,rfl,rfl⟩
   case round =>
    obtain⟨k,hk,rfl,rfl⟩:=hrel
    by_cases hk8:k<8
    ·have hki:(k:Int)<8:=by omega
     have hd32:(List.range k).foldl (Lh.crcBit b.toNat) c<2 ^ 32:=Lh.crcK_lt _ hc32
     have HSK:Hid ((List.range (k+1)).foldl (Lh.crcBit b.toNat) c=Lh.crcBit b.toNat ((List.range k).foldl (Lh.crcBit b.toNat) c) k):=fold_range (Lh.crcBit b.toNat) c k
     generalize (List.range k).foldl (Lh.crcBit b.toNat) c=d at *
     have hbt:=b.toNat_lt
     have hsh:b.toNat >>> k<2 ^ 32:=by
      rw[Nat.shiftRight_eq_div_pow]
      exact Nat.lt_of_le_of_lt (Nat.div_le_self _ _) (by omega)
     have hx:=xorI d (b.toNat >>> k) hd32 hsh
     have hw:wrap64 (b.toNat:Int)=(b.toNat:Int):=by unfold wrap64;omega
     have hdv:((b.toNat:Int) / 2 ^ k)=((b.toNat >>> k:Nat):Int):=by
      rw[Nat.shiftRight_eq_div_pow]
      push_cast
      rfl
     have hx2:=xorI (d / 2) 3988292384 (by omega) (by decide)
     have hd2:((d:Int) / 2)=((d / 2:Nat):Int):=by omega
     have hx3:bits .xor .i64 ((d:Int) / 2) 3988292384=((d / 2 ^^^ 3988292384:Nat):Int):=by rw[hd2];exact hx2
     have hmd:((d ^^^ (b.toNat >>> k):Nat):Int).tmod 2=(((d ^^^ (b.toNat >>> k)) % 2:Nat):Int):=rfl
     have hkey:bits .xor .i64 (d:Int) (wrap64 ((Lh.bt s)[i].toNat:Int) / 2 ^ k)=((d ^^^ (b.toNat >>> k):Nat):Int):=by rw[hb,hw,hdv,hx]
     cases hbit:((bits .xor .i64 (d:Int) (wrap64 ((Lh.bt s)[i].toNat:Int) / 2 ^ k)).tmod 2==1) with
     | true =>
      have HB:Hid ((d ^^^ (b.toNat >>> k)) % 2=1):=by
       rw[hkey,hmd] at hbit
       have:(((d ^^^ (b.toNat >>> k)) % 2:Nat):Int)=1:=by simpa using hbit
       show _=1
       omega
      have HX3:Hid (bits .xor .i64 ((d:Int) / 2) 3988292384=((d / 2 ^^^ 3988292384:Nat):Int)):=hx3
      clear hx hw hdv hx2 hx3 hd2 hmd hkey hsh hb hb2
      go_wp2
      refine⟨⟨k+1,by omega,by go_num,?_⟩,by simp[intOf];omega⟩
      rw[HX3.out,HSK.out]
      unfold Lh.crcBit
      rw[if_pos HB.out]
     | false =>
      have HB:Hid (¬(d ^^^ (b.toNat >>> k)) % 2=1):=by
       rw[hkey,hmd] at hbit
       show ¬_
       intro e
       rw[e] at hbit
       cases hbit
      have HD2:Hid (((d:Int) / 2)=((d / 2:Nat):Int)):=hd2
      clear hx hw hdv hx2 hx3 hd2 hmd hkey hsh hb hb2
      go_wp2
      refine⟨⟨k+1,by omega,by go_num,?_⟩,by simp[intOf];omega⟩
      rw[HD2.out,HSK.out]
      unfold Lh.crcBit
      rw[if_neg HB.out]
    ·have hk9:k=8:=by omega
     have hki:decide ((k:Int)<8)=false:=by simp;omega
     have HK8:Hid ((List.range k).foldl (Lh.crcBit b.toNat) c=Lh.crcByte c b):=by rw[hk9];rfl
     clear hk9
     generalize (List.range k).foldl (Lh.crcBit b.toNat) c=d at *
     go_wp2
     refine⟨⟨i+1,by omega,by go_num,?_⟩,by simp[intOf];omega⟩
     rw[HSU.out,HK8.out]
  ·have hii:decide ((i:Int)<(s.length:Int))=false:=by simp;omega
   have hie:i=s.length:=by omega
   have HR:Hid ((s.take i).foldl Lh.crcByte 4294967295=Lh.crcRaw s):=by rw[hie,List.take_length];rfl
   have hc32:(s.take i).foldl Lh.crcByte 4294967295<2 ^ 32:=Lh.crcFold_lt _ (by decide)
   clear hie
   generalize (s.take i).foldl Lh.crcByte 4294967295=c at *
   have hx:=xorI c 4294967295 hc32 (by decide)
   have HX:Hid (bits .xor .i64 (c:Int) 4294967295=((c ^^^ 4294967295:Nat):Int)):=hx
   have hxl:c ^^^ 4294967295<2 ^ 32:=Nat.xor_lt_two_pow hc32 (by decide)
   clear hx
   go_wp2
   go_ret
   rw[HX.out,IntKind.wrap_u64]
   have e1:((c ^^^ 4294967295:Nat):Int) % 18446744073709551616=((c ^^^ 4294967295:Nat):Int):=by omega
   have e2:Lh.crcL s=c ^^^ 4294967295:=by rw[HR.out];rfl
   rw[e2]
   rw[e1]
   exact⟨rfl,rfl⟩
namespace Lh
theorem fold_ten:∀(l:List UInt8) (a:Nat),l.all isDg=true→l.foldl (fun n c=>10*n+(c.toNat - 48)) a<(a+1)*10 ^ l.length
 | [],a,_=>by simp
 | c :: l,a,h=>by
  simp only[List.all_cons,Bool.and_eq_true] at h
  have hc:c.toNat≤57:=by
   have:=h.1
   simp[isDg] at this
   omega
  have:=fold_ten l (10*a+(c.toNat - 48)) h.2
  simp only[List.foldl_cons,List.length_cons]
  refine Nat.lt_of_lt_of_le this ?_
  rw[Nat.pow_succ,Nat.mul_comm (10 ^ l.length) 10,←Nat.mul_assoc]
  exact Nat.mul_le_mul_right _ (by omega)
theorem valL_lt {l:List UInt8}(h:l.all isDg=true):valL l<10 ^ l.length:=by
 have:=fold_ten l 0 h
 simpa [valL] using this
end Lh
namespace Lh
end Lh
structure Errs4 (a:Nat→Addr)(w:World):Prop where
 s1:w.cell? ⟨0,0,none⟩=some (.iface 378 (.pointer (some (a 1))))
 s3:w.cell? ⟨3,0,none⟩=some (.iface 378 (.pointer (some (a 3))))
 s4:w.cell? ⟨4,0,none⟩=some (.iface 378 (.pointer (some (a 4))))
 s5:w.cell? ⟨5,0,none⟩=some (.iface 378 (.pointer (some (a 5))))
theorem Errs4.later {a:Nat→Addr}{w w':World}(h:Errs4 a w)(hb:Below w.heap.size w w'):Errs4 a w':=⟨below_cell hb h.s1,below_cell hb h.s3,below_cell hb h.s4,below_cell hb h.s5⟩
theorem check_core4 (a:Nat→Addr)(b o cap:Nat)(xs:List ByteArray)(w:World)(c:Nat)(pl:Int)(he:Errs4 a w)(hcap:xs.length≤cap)(hx:∀k (h:k<xs.length),w.cell? ⟨b,o+k,none⟩=some (.string xs[k]))
  (hf:IsFault xs c pl) (h12:¬12<xs.length) (hs:∀k (h:k<xs.length),(xs[k]).size≤1000000) :
  Calls Tryz.prog 137 #[.slice (some ⟨b,o,none⟩) xs.length cap] w fun e w'=>∃ev,e=.returned ev∧ErrIs a w' c pl ev∧Below w.heap.size w w':=by
 have HX:Hid _:=hx
 have HF:Hid _:=hf
 have HS:Hid _:=hs
 have e12:decide (12<(xs.length:Int))=false:=by simp;omega
 have s3:=he.s3
 have s5:=he.s5
 clear hx hf hs
 go_enter Tryz.func137,Tryz.ntmps137
 go_wp2
 go_loopw [11] (fun t W=>W=w∧∃k:Nat,k≤xs.length∧t=.int .i64 k∧∀j,j<k→∀hj:j<xs.length,Good xs j hj) (fun t _=>xs.length - (intOf t).toNat)
 case atStart=>exact⟨rfl,0,Nat.zero_le _,rfl,fun j h=>absurd h (by omega)⟩
 case round =>
  obtain⟨rfl,k,hk,rfl,hpre⟩:=hrel
  have HP:Hid _:=hpre
  clear hpre
  by_cases hlt:k<xs.length
  ·have cx:=HX.out k hlt
   have hsz:=HS.out k hlt
   cases hn:Lh.isNm xs[k] with
   | false =>
    have HC:Hid _:=fault_name HF.out h12 hlt HP.out hn
    have HN:Hid _:=hn
    clear hn
    go_wp2_with fail
    refine (isName_any _ _ hsz).mono ?_
    rintro e w1 ⟨rfl,rfl⟩
    rw[HN.out]
    go_wp2
    go_ret
    refine⟨_,rfl,Or.inr ⟨3,by decide,HC.out.1,Or.inr ⟨w1.heap.size,rfl,by rw[HC.out.2];simp,by simp⟩⟩,(Below.refl _ _).alloc (Nat.le_refl _) _⟩
   | true =>
    have HN:Hid _:=hn
    have hst:=strs_take hcap HX.out k hk
    have HST:Hid _:=hst
    clear hst
    cases hme:Lh.mem xs[k] (xs.take k) with
    | true =>
     have HC:Hid _:=fault_exist HF.out h12 hlt HP.out hn hme
     have HM:Hid _:=hme
     clear hn hme
     go_wp2_with fail
     refine (isName_any _ _ hsz).mono ?_
     rintro e w1 ⟨rfl,rfl⟩
     rw[HN.out]
     go_wp2_with fail
     refine (contains_any _ (xs.take k) _ _ HST.out (by simp;omega)).mono ?_
     rintro e w2 ⟨rfl,rfl⟩
     rw[HM.out]
     go_wp2
     go_ret
     refine⟨_,rfl,Or.inr ⟨5,by decide,HC.out.1,Or.inr ⟨w2.heap.size,rfl,by rw[HC.out.2];simp,by simp⟩⟩,(Below.refl _ _).alloc (Nat.le_refl _) _⟩
    | false =>
     have HM:Hid _:=hme
     clear hn hme
     go_wp2_with fail
     refine (isName_any _ _ hsz).mono ?_
     rintro e w1 ⟨rfl,rfl⟩
     rw[HN.out]
     go_wp2_with fail
     refine (contains_any _ (xs.take k) _ _ HST.out (by simp;omega)).mono ?_
     rintro e w2 ⟨rfl,rfl⟩
     rw[HM.out]
     go_wp2
     refine⟨⟨by trivial,k+1,by omega,by go_num,fun j hj hl=>?_⟩,by simp[intOf];omega⟩
     by_cases e:j=k
     ·subst e;exact⟨HN.out,HM.out⟩
     ·exact HP.out j (by omega) hl
  ·have HC:Hid _:=fault_none HF.out h12 (fun j hj=>HP.out j (by omega) hj)
   go_wp2
   go_ret
   refine⟨_,rfl,Or.inl ⟨HC.out.1,HC.out.2,rfl⟩,Below.refl _ _⟩
theorem check_long4 (a:Nat→Addr)(p:Option Addr)(n cap:Nat)(w:World)(he:Errs4 a w)(h12:12<n)(_hm:n<1000000) :
  Calls Tryz.prog 137 #[.slice p n cap] w fun e w'=>e=.returned (.iface 378 (.pointer (some (a 1))))∧w'=w:=by
 have e12:decide (12<(n:Int))=true:=by simp;omega
 have s1:=he.s1
 go_enter Tryz.func137,Tryz.ntmps137
 go_wp2
 go_ret
 exact⟨rfl,rfl⟩
theorem check_any4 (a:Nat→Addr)(v:Value)(xs:List ByteArray)(w:World)(c:Nat)(pl:Int)(he:Errs4 a w)(hv:Strs w v xs)(hf:IsFault xs c pl)(hs:∀k (h:k<xs.length),(xs[k]).size≤1000000)(hm:xs.length<1000000) :
  Calls Tryz.prog 137 #[v] w fun e w'=>∃ev,e=.returned ev∧ErrIs a w' c pl ev∧Below w.heap.size w w':=by
 by_cases h12:12<xs.length
 ·obtain⟨rfl,rfl⟩:=fault_long hf h12
  obtain⟨p,cap,rfl⟩:=hv.slice
  exact (check_long4 a p _ cap w he h12 hm).mono fun e w' ⟨h1,h2⟩=>⟨_,h1,Or.inr ⟨1,by decide,rfl,Or.inl ⟨rfl,rfl⟩⟩,by rw[h2];exact Below.refl _ _⟩
 ·rcases hv with⟨rfl,p,cap,rfl⟩|⟨b,o,cap,rfl,hcap,hx⟩
  ·obtain⟨rfl,rfl⟩:=fault_none hf h12 (fun j hj=>absurd hj (by simp))
   exact (check_zero p cap w).mono fun e w' ⟨h1,h2⟩=>⟨_,h1,Or.inl ⟨rfl,rfl,rfl⟩,by rw[h2];exact Below.refl _ _⟩
  ·exact check_core4 a b o cap xs w c pl he hcap hx hf h12 hs
theorem bare_any (n:Int)(w:World):Calls Tryz.prog 67 #[.int .i64 n] w fun e w'=>e=.returned (.agg #[.int .i64 n,.int .i64 (-1)])∧Below w.heap.size w w':=by
 go_enter Tryz.func67,Tryz.ntmps67
 go_wp2
 exact bodyPost_ret (v:=.agg #[.int .i64 n,.int .i64 (-1)]) (by simp[results,Tryz.results67,go_sem]) rfl ⟨rfl,(Below.refl _ _).alloc (Nat.le_refl _) _⟩
theorem fine_any (w:World):Calls Tryz.prog 170 #[] w fun e w'=>e=.returned (.agg #[.int .i64 0,.int .i64 (-1)])∧Below w.heap.size w w':=by
 go_enter Tryz.func170,Tryz.ntmps170
 go_wp2
 exact bodyPost_ret (v:=.agg #[.int .i64 0,.int .i64 (-1)]) (by simp[results,Tryz.results170,go_sem]) rfl ⟨rfl,(Below.refl _ _).alloc (Nat.le_refl _) _⟩
theorem hfault_core (b o cap:Nat)(xs:List ByteArray)(w:World)(c:Nat)(pl:Int)(hx:∀k (h:k<xs.length),w.cell? ⟨b,o+k,none⟩=some (.string xs[k]))
  (hf:IsFault xs c pl) (h12:¬12<xs.length) (hs:∀k (h:k<xs.length),(xs[k]).size≤1000000) :
  Calls Tryz.prog 117 #[.slice (some ⟨b,o,none⟩) xs.length cap] w fun e w'=>e=.returned (.agg #[.int .i64 c,.int .i64 pl])∧Below w.heap.size w w':=by
 have HF:Hid _:=hf
 have HS:Hid _:=hs
 have e12:decide (12<(xs.length:Int))=false:=by simp;omega
 have hba:∀q,Below w.heap.size w (w.alloc q):=fun q=>(Below.refl _ _).alloc (Nat.le_refl _) _
 have HX:Hid (∀q k (h:k<xs.length),(w.alloc q).cell? ⟨b,o+k,none⟩=some (.string xs[k])):=fun q k h=>below_cell (hba q) (hx k h)
 clear hx hf hs hba
 go_enter Tryz.func117,Tryz.ntmps117
 go_wp2_with fail
 have hbW:=(Below.refl w.heap.size w).alloc (Nat.le_refl _) (.cells #[.int .i64 0,.int .i64 0] 59)
 have HXW:=HX.out (.cells #[.int .i64 0,.int .i64 0] 59)
 go_loopw [3] (fun t W=>W=w.alloc (.cells #[.int .i64 0,.int .i64 0] 59)∧∃k:Nat,k≤xs.length∧t=.int .i64 k∧∀j,j<k→∀hj:j<xs.length,Good xs j hj) (fun t _=>xs.length - (intOf t).toNat)
 case atStart=>exact⟨rfl,0,Nat.zero_le _,rfl,fun j h=>absurd h (by omega)⟩
 case round =>
  obtain⟨rfl,k,hk,rfl,hpre⟩:=hrel
  have HP:Hid _:=hpre
  clear hpre
  have HXX:Hid _:=HXW
  clear HXW
  by_cases hlt:k<xs.length
  ·have cx:=HXX.out k hlt
   have hsz:=HS.out k hlt
   cases hn:Lh.isNm xs[k] with
   | false =>
    have HC:Hid _:=fault_name HF.out h12 hlt HP.out hn
    have HN:Hid _:=hn
    clear hn
    go_wp2_with fail
    refine (refName_any _ _ hsz).mono ?_
    rintro e w1 ⟨rfl,rfl⟩
    rw[HN.out]
    go_wp2
    exact bodyPost_ret (v:=.agg #[.int .i64 c,.int .i64 pl]) (by rw[HC.out.1,HC.out.2];simp[results,Tryz.results117,go_sem]) rfl ⟨rfl,(Below.refl _ _).alloc (Nat.le_refl _) _⟩
   | true =>
    have HN:Hid _:=hn
    cases hme:Lh.mem xs[k] (xs.take k) with
    | true =>
     have HC:Hid _:=fault_exist HF.out h12 hlt HP.out hn hme
     have HM:Hid _:=hme
     clear hn hme
     go_wp2_with fail
     refine (refName_any _ _ hsz).mono ?_
     rintro e w1 ⟨rfl,rfl⟩
     rw[HN.out]
     go_wp2_with fail
     refine (refIndex_any b o cap xs k hlt _ HXX.out (by omega)).mono ?_
     rintro e w2 ⟨⟨j,rfl,hj⟩,rfl⟩
     have hj':decide (j<(k:Int))=true:=by rw[hj,HM.out]
     clear hj
     go_wp2
     exact bodyPost_ret (v:=.agg #[.int .i64 c,.int .i64 pl]) (by rw[HC.out.1,HC.out.2];simp[results,Tryz.results117,go_sem]) rfl ⟨rfl,(Below.refl _ _).alloc (Nat.le_refl _) _⟩
    | false =>
     have HM:Hid _:=hme
     clear hn hme
     go_wp2_with fail
     refine (refName_any _ _ hsz).mono ?_
     rintro e w1 ⟨rfl,rfl⟩
     rw[HN.out]
     go_wp2_with fail
     refine (refIndex_any b o cap xs k hlt _ HXX.out (by omega)).mono ?_
     rintro e w2 ⟨⟨j,rfl,hj⟩,rfl⟩
     have hj':decide (j<(k:Int))=false:=by rw[hj,HM.out]
     clear hj
     go_wp2
     refine⟨⟨by trivial,k+1,by omega,by go_num,fun j hj hl=>?_⟩,by simp[intOf];omega⟩
     by_cases e:j=k
     ·subst e;exact⟨HN.out,HM.out⟩
     ·exact HP.out j (by omega) hl
  ·have HC:Hid _:=fault_none HF.out h12 (fun j hj=>HP.out j (by omega) hj)
   go_wp2_with fail
   refine (fine_any _).mono ?_
   rintro e w1 ⟨rfl,hb1⟩
   have c0:w1.cell? ⟨w.heap.size,0,none⟩=some (.int .i64 0):=below_cell hb1 (by simp)
   have c1:w1.cell? ⟨w.heap.size,1,none⟩=some (.int .i64 0):=below_cell hb1 (by simp)
   have f0:w1.frozen? ⟨w.heap.size,0,none⟩=false:=by rw[hb1.frozen (by simp)];simp
   have f1:w1.frozen? ⟨w.heap.size,1,none⟩=false:=by rw[hb1.frozen (by simp)];simp
   have hbz:Below w.heap.size w w1:=hbW.trans (hb1.mono (by simp))
   clear hb1 hbW
   go_wp2
   exact bodyPost_ret (v:=.agg #[.int .i64 c,.int .i64 pl]) (by rw[HC.out.1,HC.out.2];simp[results,Tryz.results117,go_sem,c0,c1]) rfl ⟨rfl,(hbz.setCell (Nat.le_refl _) _).setCell (Nat.le_refl _) _⟩
theorem hfault_long (p:Option Addr)(n cap:Nat)(w:World)(h12:12<n)(_hm:n<1000000) :
  Calls Tryz.prog 117 #[.slice p n cap] w fun e w'=>e=.returned (.agg #[.int .i64 2,.int .i64 (-1)])∧Below w.heap.size w w':=by
 have e12:decide (12<(n:Int))=true:=by simp;omega
 have hbW:=(Below.refl w.heap.size w).alloc (Nat.le_refl _) (.cells #[.int .i64 0,.int .i64 0] 59)
 go_enter Tryz.func117,Tryz.ntmps117
 go_wp2_with fail
 refine (bare_any _ _).mono ?_
 rintro e w1 ⟨rfl,hb1⟩
 have c0:w1.cell? ⟨w.heap.size,0,none⟩=some (.int .i64 0):=below_cell hb1 (by simp)
 have c1:w1.cell? ⟨w.heap.size,1,none⟩=some (.int .i64 0):=below_cell hb1 (by simp)
 have f0:w1.frozen? ⟨w.heap.size,0,none⟩=false:=by rw[hb1.frozen (by simp)];simp
 have f1:w1.frozen? ⟨w.heap.size,1,none⟩=false:=by rw[hb1.frozen (by simp)];simp
 have hbz:Below w.heap.size w w1:=hbW.trans (hb1.mono (by simp))
 clear hb1 hbW
 go_wp2
 exact bodyPost_ret (v:=.agg #[.int .i64 2,.int .i64 (-1)]) (by simp[results,Tryz.results117,go_sem,c0,c1]) rfl ⟨rfl,(hbz.setCell (Nat.le_refl _) _).setCell (Nat.le_refl _) _⟩
theorem hfault_zero (p:Option Addr)(cap:Nat)(w:World) :
  Calls Tryz.prog 117 #[.slice p 0 cap] w fun e w'=>e=.returned (.agg #[.int .i64 0,.int .i64 (-1)])∧Below w.heap.size w w':=by
 have hbW:=(Below.refl w.heap.size w).alloc (Nat.le_refl _) (.cells #[.int .i64 0,.int .i64 0] 59)
 go_enter Tryz.func117,Tryz.ntmps117
 go_wp2_with fail
 refine wp_loop_rounds 1 ?_
 rw[rounds_succ]
 go_wp2_with fail
 refine (fine_any _).mono ?_
 rintro e w1 ⟨rfl,hb1⟩
 have c0:w1.cell? ⟨w.heap.size,0,none⟩=some (.int .i64 0):=below_cell hb1 (by simp)
 have c1:w1.cell? ⟨w.heap.size,1,none⟩=some (.int .i64 0):=below_cell hb1 (by simp)
 have f0:w1.frozen? ⟨w.heap.size,0,none⟩=false:=by rw[hb1.frozen (by simp)];simp
 have f1:w1.frozen? ⟨w.heap.size,1,none⟩=false:=by rw[hb1.frozen (by simp)];simp
 have hbz:Below w.heap.size w w1:=hbW.trans (hb1.mono (by simp))
 clear hb1 hbW
 go_wp2
 exact bodyPost_ret (v:=.agg #[.int .i64 0,.int .i64 (-1)]) (by simp[results,Tryz.results117,go_sem,c0,c1]) rfl ⟨rfl,(hbz.setCell (Nat.le_refl _) _).setCell (Nat.le_refl _) _⟩
theorem hfault_any (v:Value)(xs:List ByteArray)(w:World)(c:Nat)(pl:Int)(hv:Strs w v xs)(hf:IsFault xs c pl)(hs:∀k (h:k<xs.length),(xs[k]).size≤1000000)(hm:xs.length<1000000) :
  Calls Tryz.prog 117 #[v] w fun e w'=>e=.returned (.agg #[.int .i64 c,.int .i64 pl])∧Below w.heap.size w w':=by
 by_cases h12:12<xs.length
 ·obtain⟨rfl,rfl⟩:=fault_long hf h12
  obtain⟨p,cap,rfl⟩:=hv.slice
  exact hfault_long p _ cap w h12 hm
 ·rcases hv with⟨rfl,p,cap,rfl⟩|⟨b,o,cap,rfl,hcap,hx⟩
  ·obtain⟨rfl,rfl⟩:=fault_none hf h12 (fun j hj=>absurd hj (by simp))
   exact hfault_zero p cap w
  ·exact hfault_core b o cap xs w c pl hx hf h12 hs
theorem long_core (b o cap:Nat)(xs:List ByteArray)(w:World)(hx:∀k (h:k<xs.length),w.cell? ⟨b,o+k,none⟩=some (.string xs[k]))(hs:∀k (h:k<xs.length),(xs[k]).size≤maxLen)(h30:¬30<xs.length) :
  Calls Tryz.prog 11 #[.slice (some ⟨b,o,none⟩) xs.length cap] w fun e w'=>(e=.returned (.int .i64 1)∨(e=.returned (.int .i64 0)∧∀k (h:k<xs.length),(xs[k]).size≤60))∧w'=w:=by
 have HX:Hid _:=hx
 have HS:Hid _:=hs
 have e30:decide (30<(xs.length:Int))=false:=by simp;omega
 clear hx hs
 go_enter Tryz.func11,Tryz.ntmps11
 go_wp2
 go_loop [3] (fun t=>∃k:Nat,k≤xs.length∧t=.int .i64 k∧∀j (h:j<xs.length),j<k→(xs[j]).size≤60) (fun t=>xs.length - (intOf t).toNat)
 case atStart=>exact⟨0,Nat.zero_le _,rfl,fun j _ h=>absurd h (by omega)⟩
 case round =>
  obtain⟨k,hk,rfl,hpre⟩:=hrel
  have HP:Hid _:=hpre
  clear hpre
  by_cases hlt:k<xs.length
  ·have cx:=HX.out k hlt
   have hsz:=HS.out k hlt
   unfold maxLen at hsz
   by_cases h60:60<(xs[k]).size
   ·have e60:decide (60<((xs[k]).size:Int))=true:=by simp;omega
    go_wp2
    go_ret
    exact⟨Or.inl rfl,rfl⟩
   ·have e60:decide (60<((xs[k]).size:Int))=false:=by simp;omega
    go_wp2
    go_round
    case rel =>
     refine⟨k+1,by omega,by go_num,fun j h hj=>?_⟩
     by_cases e:j=k
     ·subst e;omega
     ·exact HP.out j h (by omega)
    case measure=>simp[intOf];omega
  ·go_wp2
   go_ret
   exact⟨Or.inr ⟨rfl,fun j h=>HP.out j h (by omega)⟩,rfl⟩
theorem long_zero (p:Option Addr)(cap:Nat)(w:World) :
  Calls Tryz.prog 11 #[.slice p 0 cap] w fun e w'=>e=.returned (.int .i64 0)∧w'=w:=by
 go_enter Tryz.func11,Tryz.ntmps11
 go_wp2
 refine wp_loop_rounds 1 ?_
 rw[rounds_succ]
 go_wp2
 go_ret
 exact⟨rfl,rfl⟩
theorem long_long (p:Option Addr)(n cap:Nat)(w:World)(h30:30<n)(hm:n≤maxLen) :
  Calls Tryz.prog 11 #[.slice p n cap] w fun e w'=>e=.returned (.int .i64 1)∧w'=w:=by
 unfold maxLen at hm
 have e30:decide (30<(n:Int))=true:=by simp;omega
 go_enter Tryz.func11,Tryz.ntmps11
 go_wp2
 go_ret
 exact⟨rfl,rfl⟩
theorem long_any (v:Value)(xs:List ByteArray)(w:World)(hv:Strs w v xs)(hs:∀k (h:k<xs.length),(xs[k]).size≤maxLen)(hm:xs.length≤maxLen) :
  Calls Tryz.prog 11 #[v] w fun e w'=>(e=.returned (.int .i64 1)∨(e=.returned (.int .i64 0)∧xs.length≤30∧∀k (h:k<xs.length),(xs[k]).size≤60))∧w'=w:=by
 by_cases h30:30<xs.length
 ·obtain⟨p,cap,rfl⟩:=hv.slice
  exact (long_long p _ cap w h30 hm).mono fun e w' ⟨h1,h2⟩=>⟨Or.inl h1,h2⟩
 ·rcases hv with⟨rfl,p,cap,rfl⟩|⟨b,o,cap,rfl,hcap,hx⟩
  ·exact (long_zero p cap w).mono fun e w' ⟨h1,h2⟩=>⟨Or.inr ⟨h1,by simp,fun k h=>absurd h (by simp)⟩,h2⟩
  ·refine (long_core b o cap xs w hx hs h30).mono fun e w' ⟨h1,h2⟩=>⟨?_,h2⟩
   rcases h1 with h1|⟨h1,h3⟩
   ·exact Or.inl h1
   ·exact Or.inr ⟨h1,by omega,h3⟩
def Strs1 (w:World)(v:Value)(xs:List ByteArray):Prop :=
 (xs=[]∧(v=.slice none 0 0∨∃a c,v=.slice (some a) 0 c))∨∃b o c,v=.slice (some ⟨b,o,none⟩) xs.length c∧xs.length≤c∧∀k (h:k<xs.length),w.cell? ⟨b,o+k,none⟩=some (.string xs[k])
theorem Strs1.strs {w:World}{v:Value}{xs:List ByteArray}(h:Strs1 w v xs):Strs w v xs:=by
 rcases h with⟨rfl,rfl|⟨a,c,rfl⟩⟩|h
 ·exact Or.inl ⟨rfl,_,_,rfl⟩
 ·exact Or.inl ⟨rfl,_,_,rfl⟩
 ·exact Or.inr h
theorem Strs1.later {w w':World}{v:Value}{xs:List ByteArray}(h:Strs1 w v xs)(hb:Below w.heap.size w w'):Strs1 w' v xs:=by
 rcases h with h|⟨b,o,c,rfl,hcap,hc⟩
 ·exact Or.inl h
 ·exact Or.inr ⟨b,o,c,rfl,hcap,fun k hk=>below_cell hb (hc k hk)⟩
theorem infoS:(Tryz.prog.info? 9).map (fun i=>(i.zero,i.size,i.bytes))=some (some (.string ByteArray.empty),1,16):=by kernel_rfl
theorem strs_of_owns {w:World}{base n:Nat}{v:Value}{e:TypeId}{xs:List ByteArray}(h:w.ownsRow base e 1 v n (xs.map Value.string)):Strs1 w v xs:=by
 obtain⟨hl,⟨rfl,rfl⟩|⟨g,cap,cur,rfl,hbase,hb,hn,hm,hsz,ht⟩⟩:=h
 ·have:xs=[]:=by simpa using hl
  exact Or.inl ⟨this,Or.inl rfl⟩
 ·have hl':xs.length=n:=by simpa using hl
  refine Or.inr ⟨g,0,cap,by rw[hl'],by omega,fun k hk=>?_⟩
  have hk':(cur.toList.take (n*1))[k]?=some (.string xs[k]):=by rw[ht];simp[hk]
  rw[List.getElem?_take_of_lt (by omega)] at hk'
  simp only[World.cell?,hb,Nat.zero_add]
  simpa using hk'
theorem owns_nil (w:World)(base:Nat)(e:TypeId):w.ownsRow base e 1 (.slice none 0 0) 0 (([]:List ByteArray).map Value.string):=⟨rfl,Or.inl ⟨rfl,rfl⟩⟩
theorem strs_oneCell (xs:List ByteArray):∀u∈xs.map Value.string,u.oneCell'=true:=by
 intro u hu
 obtain⟨_,_,rfl⟩:=List.mem_map.1 hu
 rfl
theorem cells_strs {w:World}{b o:Nat}{xs:List ByteArray}(hx:∀k (h:k<xs.length),w.cell? ⟨b,o+k,none⟩=some (.string xs[k])):∀j u,(xs.map Value.string)[j]?=some u→w.cell? ((⟨b,o,none⟩:Addr).add j)=some u:=by
 intro j u hu
 obtain⟨hj,rfl⟩:=List.getElem?_eq_some_iff.1 hu
 rw[Addr.add_lit,hx j (by simpa using hj)]
 simp
theorem ownTexts_any (v:Value)(xs:List ByteArray)(w:World)(hv:Strs1 w v xs)(hm:xs.length<1000000) :
  Calls Tryz.prog 80 #[v] w fun e w'=>∃v',e=.returned v'∧Strs1 w' v' xs∧Below w.heap.size w w':=by
 obtain⟨i,hi,hz0,hz1,hz2⟩:=info_parts infoS
 have hmax:0+xs.length≤maxLen:=by unfold maxLen;omega
 rcases hv with⟨rfl,rfl|⟨ad,c,rfl⟩⟩|⟨b,o,c,rfl,hcap,hx⟩
 ·go_enter Tryz.func80,Tryz.ntmps80
  go_wp2_with (at_builtin;refine wpList_append_own_none rfl _ _ 22 rfl w.heap.size 9 i 1 Tryz.underlying22 hi (.slice none 0 0) 0 _ rfl (owns_nil w _ _) rfl ?_)
  go_ret
  exact⟨_,rfl,Or.inl ⟨rfl,Or.inl rfl⟩,Below.refl _ _⟩
 ·have hn:([]:List ByteArray).map Value.string=[]:=rfl
  have hnews:∀j u,(([]:List ByteArray).map Value.string)[j]?=some u→w.cell? (ad.add j)=some u:=fun j u h=>by simp at h
  go_enter Tryz.func80,Tryz.ntmps80
  go_wp2_with fail
  go_ret
  exact⟨_,rfl,Or.inl ⟨rfl,Or.inl rfl⟩,Below.refl _ _⟩
 ·have hnews:=cells_strs hx
  go_enter Tryz.func80,Tryz.ntmps80
  go_wp2_with (at_builtin;refine wpList_append_own w rfl _ _ 22 rfl w.heap.size 9 i _ 1 16 Tryz.underlying22 hi hz0 hz1 hz2 rfl (by decide) (.slice none 0 0) 0 _ rfl (owns_nil w _ _) ⟨b,o,none⟩ xs.length c (xs.map Value.string) rfl (by simp) hnews (strs_oneCell xs) hmax (by omega) (Nat.le_refl _) ?_)
  intro v' w' hown hg _
  go_wp2
  go_ret
  refine⟨_,rfl,strs_of_owns (by simpa using hown),below_grown hg (fun k h=>by cases h)⟩
end Go.Proofs.YtfhmfjcpggddkaaGreatDoor
