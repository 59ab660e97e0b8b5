/- The landed Make. -/
import Derived.Test.YtjeicikflkjacaaGreatDoorM3
set_option maxHeartbeats 20000000
set_option maxRecDepth 100000
namespace Go.Proofs.YtjeicikflkjacaaGreatDoor
open Go.RowKit Go.Maps Go.ChangeMaps
theorem nodup_of_good {xs:List ByteArray}(h:∀j,∀hj:j<xs.length,Good xs j hj):xs.Nodup:=by
 refine List.pairwise_iff_getElem.2 fun i j hi hj hij e=>?_
 have h2:=(h j hj).2
 rw[Lh.mem_true] at h2
 ·cases h2
 ·rw[List.mem_take_iff_getElem]
  exact⟨i,by omega,e⟩
theorem fault_zero {xs:List ByteArray}{pl:Int}(h:IsFault xs 0 pl):pl = -1∧xs.length≤12∧xs.Nodup:=by
 rcases h with⟨_,h,_⟩|⟨_,i,_,_,_,⟨_,h⟩|⟨_,_,h⟩⟩|⟨h,hg,_,h'⟩
 ·cases h
 ·cases h
 ·cases h
 ·exact⟨h',by omega,nodup_of_good hg⟩
theorem errIs_zero {a:Nat→Addr}{W:World}{pl:Int}{v:Value}(h:ErrIs a W 0 pl v):v=.nilIface:=by
 rcases h with⟨_,_,h⟩|⟨i,_,h,_⟩
 ·exact h
 ·omega
theorem errIs_pos {a:Nat→Addr}{W:World}{c:Nat}{pl:Int}{v:Value}(h:ErrIs a W c pl v)(hc:c≠0):∃t x,v=.iface t x:=by
 rcases h with⟨h,_⟩|⟨j,_,_,⟨_,h⟩|⟨b,h,_⟩⟩
 ·exact absurd h hc
 ·exact⟨_,_,h⟩
 ·exact⟨_,_,h⟩
theorem strs1_pos {w:World}{v:Value}{xs:List ByteArray}(h:Strs1 w v xs)(hp:0<xs.length):∃b o c,v=.slice (some ⟨b,o,none⟩) xs.length c∧∀k (h:k<xs.length),w.cell? ⟨b,o+k,none⟩=some (.string xs[k]):=by
 rcases h with⟨rfl,_⟩|⟨b,o,c,rfl,_,hc⟩
 ·cases hp
 ·exact⟨b,o,c,rfl,hc⟩
theorem tab_neg {xs:List ByteArray}{n t x:Nat}(h0:0<xs.length)(hx:x<n)(h:(Lh.tab xs n t).getD x 0<0):(Lh.tab xs n t).getD x 0 = -1:=by
 have hl:x<(Lh.tab xs n t).length:=by rw[Lh.tab_length];exact hx
 rw[getD_at hl] at h ⊢
 rcases Lh.fill_vals h0 t _ (List.getElem_mem hl) with e|⟨k,_,e⟩
 ·exact e
 ·rw[e] at h
  unfold Lh.valsN at h
  omega
structure St (xs:List ByteArray)(n g:Nat)(rb sb:Nat→Nat)(w5:World)(T:Nat)(W:World):Prop where
 os:W.os=w5.os
 tape:W.tape=w5.tape
 output:W.output=w5.output
 size:W.heap.size=w5.heap.size
 block:∀k,k≠g→(∀i,i<xs.length→k≠rb i)→W.heap[k]?=w5.heap[k]?
 out:IntRow W g (Lh.tab xs n T)
 rows:∀i (h:i<xs.length),∃p,RowBlk W (rb i) (i:Nat) (sb i) n p∧∀q,q<p→0≤(Lh.tab xs n T).getD (Lh.rowN xs[i] n q) 0
theorem St.find {xs:List ByteArray}{n g:Nat}{rb sb:Nat→Nat}{w5:World}{T:Nat}{W:World}(h:St xs n g rb sb w5 T W)(hp:Lh.Prm n)(h0:0<xs.length)(hT:T<n) :
  ∃i,∃hi:i<xs.length,∃p0 p,Lh.nameAt (Lh.sortT xs) (T % xs.length)=xs[i]∧RowBlk W (rb i) (i:Nat) (sb i) n p0∧p<n∧p0≤p ∧
   (∀q,p0≤q→q<p→(Lh.tab xs n T).getD (Lh.rowN xs[i] n q) 0≠-1)∧(Lh.tab xs n T).getD (Lh.rowN xs[i] n p) 0 = -1 ∧
   Lh.tab xs n (T+1)=(Lh.tab xs n T).set (Lh.rowN xs[i] n p) (i:Nat)∧∀q,q<p→0≤(Lh.tab xs n (T+1)).getD (Lh.rowN xs[i] n q) 0:=by
 have hk:T % xs.length<xs.length:=Nat.mod_lt _ h0
 have hm:=Lh.nameAt_mem hk
 have hi:=Lh.ix_lt hm
 have hat:=Lh.ix_at hm
 obtain⟨p0,hr,htk⟩:=h.rows _ hi
 obtain⟨hpn,hfree,hall⟩:=Lh.pick_spec (Lh.tab_free (xs:=xs) hp h0 hT hk)
 have hrow:∀q,Lh.rowsN (Lh.sortT xs) n (T % xs.length) q=Lh.rowN xs[Lh.ix xs (Lh.nameAt (Lh.sortT xs) (T % xs.length))] n q:=fun q=>by rw[hat];rfl
 have hstep:=Lh.tab_step hpn hfree hall
 rw[hrow] at hfree hstep
 have hall':∀q,q<Lh.pick (Lh.tab xs n T) (Lh.rowsN (Lh.sortT xs) n (T % xs.length)) n→0≤(Lh.tab xs n T).getD (Lh.rowN xs[Lh.ix xs (Lh.nameAt (Lh.sortT xs) (T % xs.length))] n q) 0:=fun q hq=>by rw[←hrow];exact hall q hq
 refine⟨_,hi,p0,_,hat.symm,hr,hpn,?_,fun q _ hq=>?_,tab_neg h0 (Lh.rowAt_lt hp.1) hfree,hstep,fun q hq=>Lh.tab_keeps hp h0 (hall' q hq)⟩
 ·rcases Nat.lt_or_ge (Lh.pick (Lh.tab xs n T) (Lh.rowsN (Lh.sortT xs) n (T % xs.length)) n) p0 with hlt|hge
  ·have:=htk _ hlt
   omega
  ·exact hge
 ·have:=hall' q hq
  omega
theorem St.step {xs:List ByteArray}{n g B mb:Nat}{rb sb:Nat→Nat}{D:DataW Unit}{w5:World}{T:Nat}{W W':World}(h:St xs n g rb sb w5 T W)(hL:Laid xs n B mb xs.length rb sb D w5)(hg:g<B)(hp:Lh.Prm n)(h0:0<xs.length){i p:Nat}(hi:i<xs.length)
  (htab:Lh.tab xs n (T+1)=(Lh.tab xs n T).set (Lh.rowN xs[i] n p) (i:Nat)) (htk:∀q,q<p→0≤(Lh.tab xs n (T+1)).getD (Lh.rowN xs[i] n q) 0)
  (hr:RowBlk W' (rb i) (i:Nat) (sb i) n p) (ho:IntRow W' g ((Lh.tab xs n T).set (Lh.rowN xs[i] n p) (i:Nat))) (h2:Two (rb i) g W W'):St xs n g rb sb w5 (T+1) W':=by
 refine⟨h2.os.trans h.os,h2.tape.trans h.tape,h2.output.trans h.output,h2.size.trans h.size,fun k hk hk'=>(h2.block k (hk' i hi) hk).trans (h.block k hk hk'),by rw[htab];exact ho,fun j hj=>?_⟩
 by_cases e:j=i
 ·subst e
  exact⟨p,hr,htk⟩
 ·obtain⟨q,hq,hqt⟩:=h.rows j hj
  have hlo:=hL.rbLo j hj
  have hB:=hL.base
  exact⟨q,hq.same (h2.block _ (fun e'=>e (hL.inj j i hj hi e')) (by omega)),fun r hr=>Lh.tab_keeps hp h0 (hqt r hr)⟩
theorem St.below {xs:List ByteArray}{n g B:Nat}{rb sb:Nat→Nat}{w w5:World}{T:Nat}{W:World}(h:St xs n g rb sb w5 T W)(hb:Below B w w5)(hg:B≤g)(hr:∀i,i<xs.length→B≤rb i):Below B w W :=
 hb.trans ⟨h.os,h.tape,h.output,by rw[h.size];exact Nat.le_refl _,fun k hk=>h.block k (by omega) (fun i hi=>by have:=hr i hi;omega)⟩
theorem replicate_tab (xs:List ByteArray)(n:Nat):List.replicate n (-1:Int)=Lh.tab xs n 0:=rfl
theorem make_good (a:Nat→Addr)(v:Value)(xs:List ByteArray)(n:Nat)(w:World)(he:Errs a w)(hv:Strs1 w v xs)(h0:0<xs.length)(hf:IsFault xs 0 (-1))(hsz:∀k (h:k<xs.length),(xs[k]).size≤300)(hp:Lh.Prm n)(h5:n≤503) :
  Calls Tryz.prog 25 #[v,.int .i64 n] w fun e w'=>∃g,e=.returned (.tuple #[.slice (some ⟨g,0,none⟩) n n,.nilIface])∧w.heap.size≤g∧IntRow w' g (Lh.tab xs n n)∧Below w.heap.size w w':=by
 obtain⟨i,hi,hz0,hz1,hz2⟩:=info_parts infoI
 obtain⟨_,h12,hnd⟩:=fault_zero hf
 have hsort:=sorted_good a v xs w he hv hf (fun k h=>Nat.le_trans (hsz k h) (by decide)) (by omega)
 obtain⟨b,o,c,rfl,hx⟩:=strs1_pos hv h0
 have HX:Hid (∀k (h:k<xs.length),w.cell? ⟨b,o+k,none⟩=some (.string xs[k])):=hx
 have HND:Hid (xs.Nodup):=hnd
 have HSZ:Hid (∀k (h:k<xs.length),(xs[k]).size≤300):=hsz
 have HP:Hid (Lh.Prm n):=hp
 have h2:2≤n:=hp.1
 have HE:Hid (Errs a w):=he
 clear hx hnd hsz hp hv hf he
 have hl0:((xs.length:Int)==0)=false:=by rw[beq_eq_false_iff_ne];omega
 have hbyt:i.bytes*n≤281474976710656:=by rw[hz2];omega
 have hmax:n≤maxLen:=by unfold maxLen;omega
 go_enter Tryz.func25,Tryz.ntmps25
 go_wp2_with fail
 refine hsort.mono ?_
 rintro e w1 ⟨vn,rfl,hvn,hb1⟩
 clear hsort
 have hlen:(Lh.sortT xs).length=xs.length:=Lh.sortT_length xs
 obtain⟨nb,no,nc,rfl,hn⟩:=strs1_pos hvn (by omega)
 rw[hlen]
 have HN:Hid (∀k (h:k<(Lh.sortT xs).length),w1.cell? ⟨nb,no+k,none⟩=some (.string (Lh.sortT xs)[k])):=hn
 have HLEN:Hid ((Lh.sortT xs).length=xs.length):=hlen
 clear hn hvn hlen
 go_wp2_with fail
 refine (checkSize_in a n 0 w1 (HE.out.later hb1) h2 h5 (Or.inr ⟨HP.out,rfl⟩)).mono ?_
 rintro e w1' ⟨ev,rfl,hev,rfl⟩
 obtain rfl:=errIs_zero hev
 clear hev
 go_wp2_with (at_make;refine wpList_make_full _ rfl _ _ 27 rfl w1'.heap.size 3 i _ 1 Tryz.underlying27 hi hz0 hz1 _ _ _ _ n rfl rfl rfl rfl hbyt hmax (Nat.le_refl _) ?_)
 intro w2 hown hgrow
 have hb2:Below w1'.heap.size w1' w2:=below_grown hgrow (fun k h=>by cases h)
 rw[made_ints2] at hown
 have hrow0:=IntRow.of_owns hown
 have hgb:=hb1.size
 have HN2:Hid (∀k (h:k<(Lh.sortT xs).length),w2.cell? ⟨nb,no+k,none⟩=some (.string (Lh.sortT xs)[k])):=fun k h=>below_cell hb2 (HN.out k h)
 have hnb:nb<w1'.heap.size:=World.block_lt_of_cell? w1' ⟨nb,no+0,none⟩ (HN.out 0 (by rw[HLEN.out];exact h0))
 have hb3:Below w.heap.size w w2:=below_then hb1 hb2
 clear hown hgrow hb2 HN hb1
 generalize w1'.heap.size=g at *
 go_wp2_with fail
 go_loopw [34] (fun t W=>Below w.heap.size w W∧Below g w2 W∧∃j:Nat,j≤n∧t=.int .i64 j∧∃ys:List Int,ys.length=n∧ys.take j=List.replicate j (-1)∧IntRow W g ys) (fun t _=>n - (intOf t).toNat)
 case atStart=>exact⟨hb3,Below.refl _ _,0,Nat.zero_le _,rfl,_,by simp,by simp,hrow0⟩
 case round =>
  obtain⟨hb,hbg,j,hj,rfl,ys,hlen,htake,hrow⟩:=hrel
  have HT:Hid (ys.take j=List.replicate j (-1)):=htake
  have HYL:Hid (ys.length=n):=hlen
  have HR:Hid (IntRow wr g ys):=hrow
  clear htake hrow0
  by_cases hlt:j<n
  ·obtain⟨x0,c0⟩:∃x,wr.cell? ⟨g,j,none⟩=some (.int .i64 x):=⟨_,hrow.cell (k:=j) (by omega)⟩
   have f0:=hrow.frozen j
   have hd:decide ((j:Int)<(n:Int))=true:=by simp;omega
   clear hrow hlen
   go_wp2_with fail
   go_roundw
   case rel =>
    refine⟨hb.setCell hgb _,hbg.setCell (Nat.le_refl _) _,j+1,by omega,by go_num,ys.set j (-1),by simp[HYL.out],?_,HR.out.set _ _⟩
    rw[take_set_snoc (by rw[HYL.out];exact hlt),HT.out,List.replicate_succ']
   case measure=>simp[intOf];omega
  ·have hd:decide ((j:Int)<(n:Int))=false:=by simp;omega
   have hfin:IntRow wr g (Lh.tab xs n 0):=by
    have h1:=HT.out
    rw[List.take_of_length_le (by rw[HYL.out];omega),show j=n by omega,replicate_tab xs] at h1
    rw[←h1]
    exact hrow
   have HF:Hid (IntRow wr g (Lh.tab xs n 0)):=hfin
   have hglt:=hfin.lt
   have hrows:=rowsOf_core b o c xs n wr (fun k h=>below_cell hb (HX.out k h)) h12 HND.out HSZ.out h2 h5
   have HN3:Hid (∀k (h:k<(Lh.sortT xs).length),wr.cell? ⟨nb,no+k,none⟩=some (.string (Lh.sortT xs)[k])):=fun k h=>by
    rw[hbg.cell (p:=⟨nb,no+k,none⟩) hnb]
    exact HN2.out k h
   clear hfin hrow hlen hbg HN2 HT HYL HR
   go_wp2_with fail
   refine hrows.mono ?_
   rintro e w5 ⟨mb,rb,sb,D,rfl,hL,hb5⟩
   have HL:Hid (Laid xs n wr.heap.size mb xs.length rb sb D w5):=hL
   have HO:Hid (IntRow w5 g (Lh.tab xs n 0)):=HF.out.later hb5
   have HB5:Hid (Below w.heap.size w w5):=below_then hb hb5
   have HN5:Hid (∀k (h:k<(Lh.sortT xs).length),w5.cell? ⟨nb,no+k,none⟩=some (.string (Lh.sortT xs)[k])):=fun k h=>below_cell hb5 (HN3.out k h)
   clear hL hrows HN3 HF hb5
   go_wp2_with fail
   go_loopw [45] (fun t W=>∃T:Nat,T≤n∧t=.int .i64 T∧St xs n g rb sb w5 T W) (fun t _=>n - (intOf t).toNat)
   case atStart=>exact⟨0,Nat.zero_le _,rfl,rfl,rfl,rfl,rfl,fun _ _ _=>rfl,HO.out,fun i hi=>⟨0,HL.out.row i hi,fun q h=>absurd h (by omega)⟩⟩
   case round =>
    rename_i W1
    obtain⟨T,hT,rfl,hst⟩:=hrel
    have HST:Hid (St xs n g rb sb w5 T wr):=hst
    by_cases hTn:T<n
    ·obtain⟨i',hi',p0,p,hname,hrb,hpn,hpp,htk,hfree,htab,htk'⟩:=hst.find HP.out h0 hTn
     have hk:T % xs.length<(Lh.sortT xs).length:=by rw[HLEN.out];exact Nat.mod_lt _ h0
     have hlo:=HL.out.rbLo
     have hbase:=HL.out.base
     have hmlt:=HL.out.map.lt
     have cn:wr.cell? ⟨nb,no+T % xs.length,none⟩=some (.string xs[i']):=by
      have h1:=HN5.out _ hk
      rw[←Lh.nameAt_lt hk,hname] at h1
      rw[World.cell?_of_block (w:=w5) (hst.block nb (by omega) (fun q hq=>by have:=hlo q hq;show nb≠rb q;omega))]
      exact h1
     have hown:wr.ownsMap Tryz.prog 9 ptrElem mb xs.length D:=ownsMap_same HL.out.map (hst.block mb (by omega) (fun q hq=>by have:=hlo q hq;omega))
     have hkey:=keyStr xs[i'] (HSZ.out i' hi')
     have hat:=HL.out.atKey i' hi' hi'
     have hsl:IntRow wr (sb i') (Lh.rowL xs[i'] n):=(HL.out.slots i' hi' hi').same (hst.block _ (by have:=HL.out.sbLo i' hi';omega) (fun q hq e=>HL.out.apart q i' hq hi' e.symm))
     have htake:=take_any (rb i') (sb i') g n p0 p (i':Nat) xs[i'] (Lh.tab xs n T) wr hrb hsl hst.out (Lh.tab_length _ _ _) (by have:=hlo i' hi';omega) (HL.out.apart i' i' hi' hi') (by have:=HL.out.sbLo i' hi';omega) h2 h5 hpn hpp htk hfree
     have HTAB:Hid (Lh.tab xs n (T+1)=(Lh.tab xs n T).set (Lh.rowN xs[i'] n p) (i':Nat)):=htab
     have HTK:Hid (∀q,q<p→0≤(Lh.tab xs n (T+1)).getD (Lh.rowN xs[i'] n q) 0):=htk'
     have HNM:Hid (Lh.nameAt (Lh.sortT xs) (T % xs.length)=xs[i']):=hname
     have hd:decide ((T:Int)<(n:Int))=true:=by simp;omega
     have hmi:(T:Int) % (xs.length:Int)<(xs.length:Int):=Int.emod_lt_of_pos _ (by omega)
     have hmi0:0≤(T:Int) % (xs.length:Int):=Int.emod_nonneg _ (by omega)
     clear hst hname hrb htk hfree htab htk' hsl hk hlo
     go_wp2_with (at_lookup;refine wpList_lookup_ptr _ rfl _ _ 73 rfl 9 75 (string_keyed Tryz.underlying9) Tryz.underlying73 (zeroRow _) mb xs.length D rfl hown _ (.string (xs[i']).data.toList) rfl hkey (rb i') hat ?_)
     refine htake.mono ?_
     rintro e W' ⟨rfl,hr',ho',h2'⟩
     have HSN:Hid (St xs n g rb sb w5 (T+1) W'):=HST.out.step HL.out hglt HP.out h0 hi' HTAB.out HTK.out hr' ho' h2'
     clear htake hr' ho' h2' hown cn HTAB HTK HNM hat hkey
     go_wp2_with fail
     go_roundw
     case rel=>exact⟨T+1,by omega,by go_num,HSN.out⟩
     case measure=>simp[intOf];omega
    ·have hd:decide ((T:Int)<(n:Int))=false:=by simp;omega
     have hTe:T=n:=by omega
     have HFO:Hid (IntRow wr g (Lh.tab xs n n)):=by have:=hst.out;rwa [hTe] at this
     have HFB:Hid (Below w.heap.size w wr):=hst.below HB5.out hgb (fun q hq=>by have:=HL.out.rbLo q hq;have:=HL.out.base;have:=hb.size;omega)
     clear hst HST
     go_wp2
     go_ret2
     exact⟨g,rfl,hgb,HFO.out,HFB.out⟩
def TabFault (xs:List ByteArray)(n:Int)(c:Nat)(pl:Int):Prop :=
 (xs=[]∧c=5∧pl = -1)∨(0<xs.length∧IsFault xs c pl∧c≠0)∨(0<xs.length∧IsFault xs 0 (-1)∧Lh.SizeIs n c∧pl = -1)
theorem tabFault_ex (xs:List ByteArray)(n:Int):∃c pl,TabFault xs n c pl:=by
 rcases Nat.eq_zero_or_pos xs.length with h|h
 ·exact⟨5,-1,Or.inl ⟨List.length_eq_zero_iff.1 h,rfl,rfl⟩⟩
 ·obtain⟨c,pl,hf⟩:=isFault_ex xs
  by_cases hc:c=0
  ·subst hc
   obtain⟨e,he⟩:=Lh.sizeIs_ex n
   exact⟨e,-1,Or.inr (Or.inr ⟨h,by have:=(fault_zero hf).1;rwa [this] at hf,he,rfl⟩)⟩
  ·exact⟨c,pl,Or.inr (Or.inl ⟨h,hf,hc⟩)⟩
theorem tabFault_zero {xs:List ByteArray}{n:Int}{pl:Int}(h:TabFault xs n 0 pl):pl = -1∧0<xs.length∧IsFault xs 0 (-1)∧∃m:Nat,n=m∧Lh.Prm m∧2≤m∧m≤503:=by
 rcases h with⟨_,h,_⟩|⟨_,_,h⟩|⟨h0,hf,hs,hp⟩
 ·cases h
 ·exact absurd rfl h
 ·rcases hs with⟨_,h⟩|⟨m,hm,h2,h5,⟨_,h⟩|⟨hprm,_⟩⟩
  ·cases h
  ·cases h
  ·exact⟨hp,h0,hf,m,hm,hprm,h2,h5⟩
end Go.Proofs.YtjeicikflkjacaaGreatDoor
namespace Go.Proofs.YtjeicikflkjacaaGreatDoor
open Go.RowKit
def owner (xs:List ByteArray)(n i:Nat):ByteArray:=Lh.nameAt xs ((Lh.tab xs n n).getD i 0).toNat
def mv (xs ys:List ByteArray)(n k:Nat):Nat:=(List.range k).countP fun i=>decide (owner xs n i≠owner ys n i)
theorem mv_zero (xs ys:List ByteArray)(n:Nat):mv xs ys n 0=0:=rfl
theorem mv_le (xs ys:List ByteArray)(n k:Nat):mv xs ys n k≤k:=by
 have:=List.countP_le_length (p:=fun i=>decide (owner xs n i≠owner ys n i)) (l:=List.range k)
 simpa [mv] using this
theorem mv_same {xs ys:List ByteArray}{n k:Nat}(h:owner xs n k=owner ys n k):mv xs ys n (k+1)=mv xs ys n k:=by
 unfold mv
 rw[List.range_succ,List.countP_append]
 simp[h]
theorem mv_other {xs ys:List ByteArray}{n k:Nat}(h:owner xs n k≠owner ys n k):mv xs ys n (k+1)=mv xs ys n k+1:=by
 unfold mv
 rw[List.range_succ,List.countP_append]
 simp[h]
theorem slot_of {xs:List ByteArray}{n g:Nat}{W:World}(hp:Lh.Prm n)(h0:0<xs.length)(hr:IntRow W g (Lh.tab xs n n)){i:Nat}(hi:i<n):∃j,∃hj:j<xs.length,W.cell? ⟨g,i,none⟩=some (.int .i64 (j:Nat))∧xs[j]=owner xs n i:=by
 obtain⟨j,hj,e⟩:=Lh.tab_full hp h0 hi
 have hl:i<(Lh.tab xs n n).length:=by rw[Lh.tab_length];exact hi
 refine⟨j,hj,?_,?_⟩
 ·rw[hr.cell hl,←getD_at hl,e]
 ·unfold owner
  rw[e,Int.toNat_natCast,Lh.nameAt_lt hj]
theorem moves_good (a:Nat→Addr)(va vb:Value)(xs ys:List ByteArray)(n:Nat)(w:World)(he:Errs a w)(hv:Strs1 w va xs)(hv2:Strs1 w vb ys)(h0:0<xs.length)(h0':0<ys.length)(hf1:IsFault xs 0 (-1))(hf2:IsFault ys 0 (-1))(hp:Lh.Prm n)(h5:n≤503)(hsz1:∀k (h:k<xs.length),(xs[k]).size≤300)(hsz2:∀k (h:k<ys.length),(ys[k]).size≤300) :
  Calls Tryz.prog 11 #[va,vb,.int .i64 n] w fun e w'=>e=.returned (.tuple #[.int .i64 (mv xs ys n n:Nat),.nilIface])∧Below w.heap.size w w':=by
 have hmk:=make_good a va xs n w he hv h0 hf1 hsz1 hp h5
 have HMK2:Hid (∀W,Below w.heap.size w W→Calls Tryz.prog 25 #[vb,.int .i64 n] W fun e w'=>∃g,e=.returned (.tuple #[.slice (some ⟨g,0,none⟩) n n,.nilIface])∧W.heap.size≤g∧IntRow w' g (Lh.tab ys n n)∧Below W.heap.size W w'):=fun W hW=>make_good a vb ys n W (he.later hW) (hv2.later hW) h0' hf2 hsz2 hp h5
 have HP:Hid (Lh.Prm n):=hp
 obtain⟨_,h12,_⟩:=fault_zero hf1
 obtain⟨_,h12',_⟩:=fault_zero hf2
 obtain⟨b1,o1,c1,rfl,hx⟩:=strs1_pos hv h0
 obtain⟨b2,o2,c2,rfl,hy⟩:=strs1_pos hv2 h0'
 have HX:Hid (∀k (h:k<xs.length),w.cell? ⟨b1,o1+k,none⟩=some (.string xs[k])):=hx
 have HY:Hid (∀k (h:k<ys.length),w.cell? ⟨b2,o2+k,none⟩=some (.string ys[k])):=hy
 clear he hv hv2 hf1 hf2 hsz1 hsz2 hp hx hy
 go_enter Tryz.func11,Tryz.ntmps11
 go_wp2_with fail
 refine hmk.mono ?_
 rintro e w1 ⟨g1,rfl,hg1,hr1,hb1⟩
 have HR1:Hid (IntRow w1 g1 (Lh.tab xs n n)):=hr1
 clear hr1 hmk
 go_wp2_with fail
 refine (HMK2.out w1 hb1).mono ?_
 rintro e w2 ⟨g2,rfl,hg2,hr2,hb2⟩
 have HS1:Hid (∀W,Below w2.heap.size w2 W→∀i,i<n→∃j,∃hj:j<xs.length,W.cell? ⟨g1,i,none⟩=some (.int .i64 (j:Nat))∧xs[j]=owner xs n i):=fun W hW i hi=>slot_of HP.out h0 ((HR1.out.later hb2).later hW) hi
 have HS2:Hid (∀W,Below w2.heap.size w2 W→∀i,i<n→∃j,∃hj:j<ys.length,W.cell? ⟨g2,i,none⟩=some (.int .i64 (j:Nat))∧ys[j]=owner ys n i):=fun W hW i hi=>slot_of HP.out h0' (hr2.later hW) hi
 have HB:Hid (Below w.heap.size w w2):=below_then hb1 hb2
 clear hr2 HMK2 HR1 hb1 hb2
 go_wp2_with fail
 go_loopw [11,32] (fun vm t W=>Below w2.heap.size w2 W∧∃i:Nat,i≤n∧t=.int .i64 i∧vm=.int .i64 (mv xs ys n i:Nat)) (fun _ t _=>n - (intOf t).toNat)
 case atStart=>exact⟨Below.refl _ _,0,Nat.zero_le _,rfl,rfl⟩
 case round =>
  obtain⟨hb,i,hi,rfl,rfl⟩:=hrel
  by_cases hlt:i<n
  ·obtain⟨j1,hj1,c1',e1⟩:=HS1.out wr hb i hlt
   obtain⟨j2,hj2,c2',e2⟩:=HS2.out wr hb i hlt
   have d1:=below_cell (below_then HB.out hb) (HX.out j1 hj1)
   have d2:=below_cell (below_then HB.out hb) (HY.out j2 hj2)
   have hii:(i:Int)<(n:Int):=by omega
   have hj1i:(j1:Int)<(xs.length:Int):=by omega
   have hj2i:(j2:Int)<(ys.length:Int):=by omega
   have hmle:=mv_le xs ys n i
   have hd:decide ((i:Int)<(n:Int))=true:=by simp;omega
   rw[e1] at d1
   rw[e2] at d2
   by_cases heq:owner xs n i=owner ys n i
   ·have HM:Hid (mv xs ys n (i+1)=mv xs ys n i):=mv_same heq
    have hne:((owner xs n i).toList != (owner ys n i).toList)=false:=by rw[heq];simp
    have hne2:((owner xs n i).toList==(owner ys n i).toList)=true:=bytes_same heq
    clear heq e1 e2
    generalize owner xs n i=s1 at *
    generalize owner ys n i=s2 at *
    generalize mv xs ys n i=q at *
    go_wp2_with fail
    go_quiet (fail)
    go_wp2_with fail
    go_roundw
    case rel=>exact⟨below_drewN hb nq,i+1,by omega,by go_num,by rw[HM.out]⟩
    case measure=>simp[intOf];omega
   ·have HM:Hid (mv xs ys n (i+1)=mv xs ys n i+1):=mv_other heq
    have hne2:((owner xs n i).toList==(owner ys n i).toList)=false:=bytes_parts heq
    have hne:((owner xs n i).toList != (owner ys n i).toList)=true:=by unfold bne;rw[hne2];rfl
    clear heq e1 e2
    generalize owner xs n i=s1 at *
    generalize owner ys n i=s2 at *
    generalize mv xs ys n i=q at *
    go_wp2_with fail
    go_quiet (fail)
    go_wp2_with fail
    go_roundw
    case rel=>exact⟨below_drewN hb nq,i+1,by omega,by go_num,by rw[HM.out];rfl⟩
    case measure=>simp[intOf];omega
  ·have hd:decide ((i:Int)<(n:Int))=false:=by simp;omega
   have hie:i=n:=by omega
   subst hie
   go_wp2
   go_ret2
   exact⟨rfl,below_then HB.out hb⟩
theorem someFault_none (p:Option Addr)(c:Nat)(w:World) :
  Calls Tryz.prog 23 #[.slice p 0 c] w fun e w'=>e=.returned (.agg #[.int .i64 5,.int .i64 (-1)])∧Below w.heap.size w w':=by
 have hbW:=(Below.refl w.heap.size w).alloc (Nat.le_refl _) (.cells #[.int .i64 0,.int .i64 0] 33)
 go_enter Tryz.func23,Tryz.ntmps23
 go_wp2_with fail
 refine (bare_any _ _).mono ?_
 rintro e w1 ⟨rfl,hb1⟩
 have c0:w1.cell? ⟨w.heap.size,0,none⟩=some (.int .i64 0):=below_cell hb1 (by simp)
 have c1:w1.cell? ⟨w.heap.size,1,none⟩=some (.int .i64 0):=below_cell hb1 (by simp)
 have f0:w1.frozen? ⟨w.heap.size,0,none⟩=false:=by rw[hb1.frozen (by simp)];simp
 have f1:w1.frozen? ⟨w.heap.size,1,none⟩=false:=by rw[hb1.frozen (by simp)];simp
 have hbz:Below w.heap.size w w1:=hbW.trans (hb1.mono (by simp))
 clear hb1 hbW
 go_wp2
 exact bodyPost_ret (v:=.agg #[.int .i64 5,.int .i64 (-1)]) (by simp[results,Tryz.results23,go_sem,c0,c1]) rfl ⟨rfl,(hbz.setCell (Nat.le_refl _) _).setCell (Nat.le_refl _) _⟩
theorem someFault_some (v:Value)(xs:List ByteArray)(w:World)(c:Nat)(pl:Int)(hv:Strs1 w v xs)(h0:0<xs.length)(hf:IsFault xs c pl)(hs:∀k (h:k<xs.length),(xs[k]).size≤1000000)(hm:xs.length<1000000) :
  Calls Tryz.prog 23 #[v] w fun e w'=>e=.returned (.agg #[.int .i64 c,.int .i64 pl])∧Below w.heap.size w w':=by
 have hbW:=(Below.refl w.heap.size w).alloc (Nat.le_refl _) (.cells #[.int .i64 0,.int .i64 0] 33)
 have hcall:=hfault_any v xs _ c pl (hv.later hbW).strs hf hs hm
 obtain⟨b,o,cp,rfl,hx⟩:=strs1_pos hv h0
 have hl0:((xs.length:Int)==0)=false:=by rw[beq_eq_false_iff_ne];omega
 clear hv hx hf hs
 go_enter Tryz.func23,Tryz.ntmps23
 go_wp2_with fail
 refine hcall.mono ?_
 rintro e w1 ⟨rfl,hb1⟩
 have c0:w1.cell? ⟨w.heap.size,0,none⟩=some (.int .i64 0):=below_cell hb1 (by simp)
 have c1:w1.cell? ⟨w.heap.size,1,none⟩=some (.int .i64 0):=below_cell hb1 (by simp)
 have f0:w1.frozen? ⟨w.heap.size,0,none⟩=false:=by rw[hb1.frozen (by simp)];simp
 have f1:w1.frozen? ⟨w.heap.size,1,none⟩=false:=by rw[hb1.frozen (by simp)];simp
 have hbz:Below w.heap.size w w1:=hbW.trans (hb1.mono (by simp))
 clear hb1 hbW hcall
 go_wp2
 exact bodyPost_ret (v:=.agg #[.int .i64 c,.int .i64 pl]) (by simp[results,Tryz.results23,go_sem,c0,c1]) rfl ⟨rfl,(hbz.setCell (Nat.le_refl _) _).setCell (Nat.le_refl _) _⟩
theorem someFault_any (v:Value)(xs:List ByteArray)(w:World)(c:Nat)(pl:Int)(hv:Strs1 w v xs)(hf:(xs=[]∧c=5∧pl = -1)∨(0<xs.length∧IsFault xs c pl))(hs:∀k (h:k<xs.length),(xs[k]).size≤1000000)(hm:xs.length<1000000) :
  Calls Tryz.prog 23 #[v] w fun e w'=>e=.returned (.agg #[.int .i64 c,.int .i64 pl])∧Below w.heap.size w w':=by
 rcases hf with⟨rfl,rfl,rfl⟩|⟨h0,hf⟩
 ·obtain⟨p,cp,rfl⟩:=hv.strs.slice
  exact someFault_none p cp w
 ·exact someFault_some v xs w c pl hv h0 hf hs hm
theorem cells_two {W:World}{b:Nat}{x y x0 y0:Value}(c0:W.cell? ⟨b,0,none⟩=some x0)(c1:W.cell? ⟨b,1,none⟩=some y0)(q:Obj) :
  (((W.setCell ⟨b,0,none⟩ x).setCell ⟨b,1,none⟩ y).alloc q).cell? ⟨b,0,none⟩=some x∧(((W.setCell ⟨b,0,none⟩ x).setCell ⟨b,1,none⟩ y).alloc q).cell? ⟨b,1,none⟩=some y:=by
 have e0:((W.setCell ⟨b,0,none⟩ x).setCell ⟨b,1,none⟩ y).cell? ⟨b,0,none⟩=some x:=by simp[go_sem,c0]
 have e1:((W.setCell ⟨b,0,none⟩ x).setCell ⟨b,1,none⟩ y).cell? ⟨b,1,none⟩=some y:=by simp[go_sem,c1]
 exact⟨below_cell ((Below.refl _ _).alloc (Nat.le_refl _) _) e0,below_cell ((Below.refl _ _).alloc (Nat.le_refl _) _) e1⟩
theorem tableFault_hosts (v:Value)(xs:List ByteArray)(n:Int)(w:World)(c:Nat)(pl:Int)(hv:Strs1 w v xs)(hf:(xs=[]∧c=5∧pl = -1)∨(0<xs.length∧IsFault xs c pl))(hc:c≠0)(hs:∀k (h:k<xs.length),(xs[k]).size≤1000000)(hm:xs.length<1000000) :
  Calls Tryz.prog 10 #[v,.int .i64 n] w fun e w'=>e=.returned (.agg #[.int .i64 c,.int .i64 pl])∧Below w.heap.size w w':=by
 have hc0:((c:Int)==0)=false:=by rw[beq_eq_false_iff_ne];omega
 have HV:Hid (Strs1 w v xs):=hv
 have HC:Hid (∀W,Below w.heap.size w W→Calls Tryz.prog 23 #[v] W fun e w'=>e=.returned (.agg #[.int .i64 c,.int .i64 pl])∧Below W.heap.size W w'):=fun W hW=>someFault_any v xs W c pl (hv.later hW) hf hs hm
 clear hv hf hs
 go_enter Tryz.func10,Tryz.ntmps10
 go_wp2_with fail
 have hbW:=(Below.refl w.heap.size w).alloc (Nat.le_refl _) (.cells #[.int .i64 0,.int .i64 0] 33)
 refine (HC.out _ hbW).mono ?_
 rintro e w1 ⟨rfl,hb1⟩
 have c0:w1.cell? ⟨w.heap.size,0,none⟩=some (.int .i64 0):=below_cell hb1 (by simp)
 have c1:w1.cell? ⟨w.heap.size,1,none⟩=some (.int .i64 0):=below_cell hb1 (by simp)
 have f0:w1.frozen? ⟨w.heap.size,0,none⟩=false:=by rw[hb1.frozen (by simp)];simp
 have f1:w1.frozen? ⟨w.heap.size,1,none⟩=false:=by rw[hb1.frozen (by simp)];simp
 have hsz:w.heap.size<w1.heap.size:=by have:=hb1.size;simp at this;omega
 have hbz:Below w.heap.size w w1:=hbW.trans (hb1.mono (by simp))
 clear hb1 hbW HC
 go_wp2
 have hh:=cells_two (x:=.int .i64 c) (y:=.int .i64 pl) c0 c1 (.cells #[.int .i64 c,.int .i64 pl] 33)
 exact bodyPost_ret (v:=.agg #[.int .i64 c,.int .i64 pl]) (by simp[results,Tryz.results10,go_sem,hh.1,hh.2]) rfl ⟨rfl,((hbz.setCell (Nat.le_refl _) _).setCell (Nat.le_refl _) _).alloc (by have:=hbz.size;simpa using this) _⟩
theorem tableFault_size (v:Value)(xs:List ByteArray)(n:Int)(w:World)(e0:Nat)(hv:Strs1 w v xs)(h0:0<xs.length)(hf:IsFault xs 0 (-1))(hn:-9223372036854775808≤n∧n≤9223372036854775807)(hse:Lh.SizeIs n e0)(hs:∀k (h:k<xs.length),(xs[k]).size≤1000000)(hm:xs.length<1000000) :
  Calls Tryz.prog 10 #[v,.int .i64 n] w fun e w'=>e=.returned (.agg #[.int .i64 e0,.int .i64 (-1)])∧Below w.heap.size w w':=by
 have HV:Hid (Strs1 w v xs):=hv
 have HC:Hid (∀W,Below w.heap.size w W→Calls Tryz.prog 23 #[v] W fun e w'=>e=.returned (.agg #[.int .i64 0,.int .i64 (-1)])∧Below W.heap.size W w'):=fun W hW=>someFault_any v xs W 0 (-1) (hv.later hW) (Or.inr ⟨h0,hf⟩) hs hm
 have HS:Hid (Lh.SizeIs n e0):=hse
 clear hv hf hs hse
 have hbW:=(Below.refl w.heap.size w).alloc (Nat.le_refl _) (.cells #[.int .i64 0,.int .i64 0] 33)
 have hc2:=HC.out _ hbW
 go_enter Tryz.func10,Tryz.ntmps10
 go_wp2_with fail
 refine hc2.mono ?_
 rintro e w1 ⟨rfl,hb1⟩
 have c0:w1.cell? ⟨w.heap.size,0,none⟩=some (.int .i64 0):=below_cell hb1 (by simp)
 have c1:w1.cell? ⟨w.heap.size,1,none⟩=some (.int .i64 0):=below_cell hb1 (by simp)
 have f0:w1.frozen? ⟨w.heap.size,0,none⟩=false:=by rw[hb1.frozen (by simp)];simp
 have f1:w1.frozen? ⟨w.heap.size,1,none⟩=false:=by rw[hb1.frozen (by simp)];simp
 have hsz:w.heap.size<w1.heap.size:=by have:=hb1.size;simp at this;omega
 have hbz:Below w.heap.size w w1:=hbW.trans (hb1.mono (by simp))
 clear hb1 hbW HC hc2
 go_wp2_with fail
 refine (sizeError_any n e0 _ hn HS.out).mono ?_
 rintro e w2 ⟨rfl,rfl⟩
 by_cases he:e0=0
 ·subst he
  go_wp2
  have hh:=cells_two (x:=.int .i64 0) (y:=.int .i64 (-1)) c0 c1 (.cells #[.int .i64 0,.int .i64 (-1)] 33)
  exact bodyPost_ret (v:=.agg #[.int .i64 0,.int .i64 (-1)]) (by simp[results,Tryz.results10,go_sem,hh.1,hh.2]) rfl ⟨rfl,((hbz.setCell (Nat.le_refl _) _).setCell (Nat.le_refl _) _).alloc (by have:=hbz.size;simpa using this) _⟩
 ·have hd:decide (0<(e0:Int))=true:=by simp;omega
  go_wp2_with fail
  refine (bare_any _ _).mono ?_
  rintro e w3 ⟨rfl,hb3⟩
  have d0:w3.cell? ⟨w.heap.size,0,none⟩=some (.int .i64 0):=below_cell hb3 (below_cell ((Below.refl _ _).alloc (Nat.le_refl _) _) c0)
  have d1:w3.cell? ⟨w.heap.size,1,none⟩=some (.int .i64 0):=below_cell hb3 (below_cell ((Below.refl _ _).alloc (Nat.le_refl _) _) c1)
  have g0:w3.frozen? ⟨w.heap.size,0,none⟩=false:=by rw[hb3.frozen (by simp;omega),((Below.refl w1.heap.size w1).alloc (Nat.le_refl _) _).frozen hsz];exact f0
  have g1:w3.frozen? ⟨w.heap.size,1,none⟩=false:=by rw[hb3.frozen (by simp;omega),((Below.refl w1.heap.size w1).alloc (Nat.le_refl _) _).frozen hsz];exact f1
  have hby:Below w.heap.size w w3:=(hbz.alloc hbz.size _).trans (hb3.mono (by simp;omega))
  clear hb3 c0 c1 f0 f1
  go_wp2
  exact bodyPost_ret (v:=.agg #[.int .i64 e0,.int .i64 (-1)]) (by simp[results,Tryz.results10,go_sem,d0,d1]) rfl ⟨rfl,(hby.setCell (Nat.le_refl _) _).setCell (Nat.le_refl _) _⟩
theorem tableFault_any (v:Value)(xs:List ByteArray)(n:Int)(w:World)(c:Nat)(pl:Int)(hv:Strs1 w v xs)(hf:TabFault xs n c pl)(hn:-9223372036854775808≤n∧n≤9223372036854775807)(hs:∀k (h:k<xs.length),(xs[k]).size≤1000000)(hm:xs.length<1000000) :
  Calls Tryz.prog 10 #[v,.int .i64 n] w fun e w'=>e=.returned (.agg #[.int .i64 c,.int .i64 pl])∧Below w.heap.size w w':=by
 rcases hf with⟨h,rfl,rfl⟩|⟨h0,hf,hc⟩|⟨h0,hf,hse,rfl⟩
 ·exact tableFault_hosts v xs n w 5 (-1) hv (Or.inl ⟨h,rfl,rfl⟩) (by decide) hs hm
 ·exact tableFault_hosts v xs n w c pl hv (Or.inr ⟨h0,hf⟩) hc hs hm
 ·exact tableFault_size v xs n w c hv h0 hf hn hse hs hm
end Go.Proofs.YtjeicikflkjacaaGreatDoor
