/- mix.Sorted. -/
import Derived.Test.YtjeicikflkjacaaGreatDoorM3
import Derived.Test.YtjeicikflkjacaaGreatDoorSort
import Derived.Sort.OwnSorted
import Derived.Test.YtjeicikflkjacaaGreatDoorM1
import Derived.Laws.Rows
import Derived.Sort.Walk0
import Derived.Deep.RegionWith
import Derived.Maps.OwnOps
import Derived.Maps.OwnSet
set_option maxHeartbeats 20000000
namespace Go.Proofs.YtjeicikflkjacaaGreatDoor
open Go.RowKit Go.Sort
namespace Lh
def sortL (l:List (List UInt8)):List (List UInt8):=l.mergeSort fun x y=>decide (x≤y)
def sortT (xs:List ByteArray):List ByteArray:=(sortL (xs.map fun s=>s.data.toList)).map fun l=>⟨l.toArray⟩
theorem sortL_length (l:List (List UInt8)):(sortL l).length=l.length:=List.length_mergeSort _
theorem sortT_length (xs:List ByteArray):(sortT xs).length=xs.length:=by simp[sortT,sortL_length]
end Lh
theorem Strs1.src {w:World}{v:Value}{xs:List ByteArray}(h:Strs1 w v xs):∃sp c,v=.slice sp xs.length c∧(0<xs.length→∃b o,sp=some ⟨b,o,none⟩∧∀k (h:k<xs.length),w.cell? ⟨b,o+k,none⟩=some (.string xs[k])):=by
 rcases h with⟨rfl,rfl|⟨a,c,rfl⟩⟩|⟨b,o,c,rfl,_,hc⟩
 ·exact⟨_,_,rfl,fun h=>absurd h (by simp)⟩
 ·exact⟨_,_,rfl,fun h=>absurd h (by simp)⟩
 ·exact⟨_,_,rfl,fun _=>⟨b,o,rfl,hc⟩⟩
theorem sizeS:(Tryz.prog.info? 9).map (·.size)=some 1:=by kernel_rfl
theorem strs_enc (xs:List ByteArray):xs.map Value.string=(xs.map fun s=>s.data.toList).map encStr:=by
 rw[List.map_map];rfl
theorem enc_strs (l:List (List UInt8)):l.map encStr=(l.map fun b=>(⟨b.toArray⟩:ByteArray)).map Value.string:=by
 rw[List.map_map];rfl
theorem sorted_good (a:Nat→Addr)(v:Value)(xs:List ByteArray)(w:World)(he:Errs a w)(hv:Strs1 w v xs)(hf:IsFault xs 0 (-1))(hs:∀k (h:k<xs.length),(xs[k]).size≤1000000)(hm:xs.length<1000000) :
  Calls Tryz.prog 34 #[v] w fun e w'=>∃v',e=.returned (.tuple #[v',.nilIface])∧Strs1 w' v' (Lh.sortT xs)∧Below w.heap.size w w':=by
 obtain⟨i,hi,hz0,hz1,hz2⟩:=info_parts infoS
 have hchk:=check_any a v xs w 0 (-1) he hv.strs hf hs hm
 have HSRC:∃sp c,v=.slice sp xs.length c∧Hid (∀W,Below w.heap.size w W→0<xs.length→∃ad,sp=some ad∧∀j u,(xs.map Value.string)[j]?=some u→W.cell? (ad.add j)=some u):=by
  obtain⟨sp,c,rfl,h⟩:=hv.src
  refine⟨sp,c,rfl,fun W hb hpos=>?_⟩
  obtain⟨b,o,rfl,hc⟩:=h hpos
  exact⟨_,rfl,cells_strs (fun k hk=>below_cell hb (hc k hk))⟩
 obtain⟨sp,c,rfl,HSRC⟩:=HSRC
 clear hv
 have hmax:xs.length≤maxLen:=by unfold maxLen;omega
 have hbyt:i.bytes*xs.length≤281474976710656:=by rw[hz2];omega
 go_enter Tryz.func34,Tryz.ntmps34
 go_wp2_with fail
 refine hchk.mono ?_
 rintro e w1 ⟨ev,rfl,hev,hb1⟩
 have hev':ev=.nilIface:=by
  rcases hev with⟨_,_,h⟩|⟨j,_,h,_⟩
  ·exact h
  ·omega
 subst hev'
 clear hev hchk
 go_wp2_with (at_make;refine wpList_make_full w1 rfl _ _ 22 rfl w1.heap.size 9 i _ 1 Tryz.underlying22 hi hz0 hz1 _ _ _ _ xs.length rfl rfl rfl rfl hbyt hmax (Nat.le_refl _) ?_)
 intro w2 hown hgrow
 have hb2:Below w.heap.size w w2:=hb1.trans ((below_grown hgrow (fun k h=>by cases h)).mono hb1.size)
 obtain⟨hl,⟨hnil,_⟩|⟨g,cap,cur,hgv,hbase,hbk,hn,hcm,hsz,ht⟩⟩:=hown
 ·cases hnil
 obtain⟨rfl,rfl⟩:w1.heap.size=g∧xs.length=cap:=by
  simp only[Value.slice.injEq,Option.some.injEq,Addr.mk.injEq] at hgv
  exact⟨hgv.1.1,hgv.2.2⟩
 clear hgv hl ht hgrow hbase
 obtain⟨cur⟩:=cur
 have hcl:cur.length=xs.length:=by simpa using hsz
 go_wp2_with (refine wpList_copy_splice rfl (.tmp 14) (.tmp 15) 22 22 rfl 9 Tryz.underlying22 sizeS _ _ _ _ _ _ rfl rfl w1.heap.size 0 cur 9 hbk (xs.map Value.string) (by simp) (fun hp=>⟨rfl,HSRC.out _ hb2 (by simpa using hp)⟩) (by simp;omega) (strs_oneCell xs) w.heap.size w hb2 hb1.size ?_)
 intro w3 hg3 hb3
 have hspl:splice cur 0 (xs.map Value.string)=xs.map Value.string:=by
  simp[splice,List.drop_of_length_le (show cur.length≤xs.length by omega)]
 have hblk:w3.heap[w1.heap.size]?=some (.cells (xs.map Value.string).toArray 9 (0,0)):=by rw[←hspl];exact hg3.out
 have hH:Holds encStr w3 w1.heap.size 0 (xs.map fun s=>s.data.toList).toArray:=holds_of_block hblk (by rw[←strs_enc,List.length_map];exact List.take_of_length_le (by simp))
 have hlt:w1.heap.size<w3.heap.size:=(Array.getElem?_eq_some_iff.1 hblk).1
 have hsort:=sort_string w1.heap.size 0 xs.length (xs.map fun s=>s.data.toList) w3 hH hlt (by simp;omega)
 rw[List.length_map] at hsort
 clear hH hspl hg3 hbk hcl
 go_wp2_with fail
 refine hsort.mono ?_
 rintro e w4 ⟨rfl,nn,os,hw4⟩
 have hown4:=ownsRow_sorted (n:=nn) (os:=os) (base:=w.heap.size) (ts:=Lh.sortL (xs.map fun s=>s.data.toList)) (ss:=xs.map fun s=>s.data.toList) (cap:=xs.length) (Lh.sortL_length _) hb1.size hblk (by simp) hmax (by simp)
 have hg4:=grownBy_sorted (w:=w3) (g:=w1.heap.size) (n:=nn) (os:=os) (Lh.sortL (xs.map fun s=>s.data.toList)).toArray
 have e4:w4=grow (putRow encStr (Sort.ahead w3 nn) w1.heap.size 0 (Lh.sortL (xs.map fun s=>s.data.toList)).toArray) os:=hw4
 rw[←e4] at hown4 hg4
 clear hw4 e4 hsort hblk
 have hb4:Below w.heap.size w w4:=hb3.grown hg4 hb3.size (fun k hk=>by cases hk;exact hb1.size)
 rw[List.length_map,enc_strs] at hown4
 have hfin:=strs_of_owns hown4
 have HFIN:Hid _:=hfin
 clear hfin hown4 hg4 hb3 hb2
 go_wp2
 go_ret2
 exact⟨_,rfl,HFIN.out,hb4⟩
end Go.Proofs.YtjeicikflkjacaaGreatDoor
namespace Go.Proofs.YtjeicikflkjacaaGreatDoor
open Go.RowKit
def IntRow (w:World)(g:Nat)(xs:List Int):Prop:=w.heap[g]?=some (.cells (xs.map (Value.int .i64)).toArray 3 (0,0))
section
variable {w w':World} {g:Nat} {xs:List Int}
theorem IntRow.cell (h:IntRow w g xs){k:Nat}(hk:k<xs.length):w.cell? ⟨g,k,none⟩=some (.int .i64 xs[k]):=by
 rw[cell_of_row w g k _ _ _ h]
 simp[hk]
theorem IntRow.frozen (h:IntRow w g xs)(k:Nat):w.frozen? ⟨g,k,none⟩=false:=frozen_of_row w g k _ _ h
theorem IntRow.set (h:IntRow w g xs)(k:Nat)(v:Int):IntRow (w.setCell ⟨g,k,none⟩ (.int .i64 v)) g (xs.set k v):=by
 have:=heap_setCell_same w g k _ _ (.int .i64 v) h
 unfold IntRow
 rw[this]
 simp[List.map_set]
theorem IntRow.same (h:IntRow w g xs)(he:w'.heap[g]?=w.heap[g]?):IntRow w' g xs:=by
 unfold IntRow
 rw[he]
 exact h
theorem IntRow.lt (h:IntRow w g xs):g<w.heap.size:=(Array.getElem?_eq_some_iff.1 h).1
theorem IntRow.later (h:IntRow w g xs)(hb:Below w.heap.size w w'):IntRow w' g xs:=h.same (hb.block g h.lt)
theorem IntRow.of_owns {base n:Nat}(h:w.ownsRow base 3 1 (.slice (some ⟨g,0,none⟩) n n) n (xs.map (Value.int .i64))):IntRow w g xs:=by
 rcases h.2 with⟨h',_⟩|⟨g',cap',cur,h',_,hg,_,_,hcs,ht⟩
 ·simp at h'
 ·simp only[Value.slice.injEq,Option.some.injEq,Addr.mk.injEq,and_true,true_and] at h'
  obtain⟨rfl,rfl⟩:=h'
  unfold IntRow
  rw[hg,←ht,List.take_of_length_le (by simp;omega)]
end
theorem infoI:(Tryz.prog.info? 3).map (fun i=>(i.zero,i.size,i.bytes))=some (some (.int .i64 0),1,8):=by kernel_rfl
theorem ints_oneCell1 (x:Int):∀u∈[Value.int .i64 x],u.oneCell'=true:=by
 intro u hu
 simp at hu
 subst hu
 rfl
theorem ints_of_owns {w:World}{base n:Nat}{v:Value}{xs:List Int}(h:w.ownsRow base 3 1 v n (xs.map (Value.int .i64))):Ints w v xs:=by
 have hl:xs.length=n:=by simpa using h.1
 rcases h.2 with⟨rfl,rfl⟩|⟨g,cap,cur,rfl,_⟩
 ·exact Or.inl ⟨List.length_eq_zero_iff.1 hl,_,_,rfl⟩
 ·refine Or.inr ⟨g,0,cap,by rw[hl],fun k hk=>?_⟩
  rw[Nat.zero_add,h.cellAt k (by omega)]
  simp[hk]
theorem made_ints2 (n:Nat):(madeCells #[Value.int .i64 0] n).toList=(List.replicate n (0:Int)).map (Value.int .i64):=by
 rw[toList_madeCells_one]
 simp
end Go.Proofs.YtjeicikflkjacaaGreatDoor
namespace Go.Proofs.YtjeicikflkjacaaGreatDoor
open Go.RowKit Go.Maps Go.ChangeMaps
def ptrElem (v:Value):Option (DataW Unit × List MemPlace) :=
 match v with
 | .pointer (some ⟨b,0,none⟩)=>some (.lit (.int .i64 (b:Nat)),[])
 | .pointer none=>some (.nil,[])
 | _=>none
theorem ptrElem_inv {v:Value}{r:Nat}{ps:List MemPlace}(h:ptrElem v=some (.lit (.int .i64 (r:Nat)),ps)):v=.pointer (some ⟨r,0,none⟩):=by
 unfold ptrElem at h
 split at h
 ·simp only[Option.some.injEq,Prod.mk.injEq,DataW.lit.injEq,Lit.int.injEq,true_and] at h
  have:_=r:=Int.ofNat.inj h.1
  subst this
  rfl
 ·simp at h
 ·cases h
theorem ptrElem_mk (b:Nat):ptrElem (.pointer (some ⟨b,0,none⟩))=some (.lit (.int .i64 (b:Nat)),[]):=rfl
theorem wpList_lookup_ptr {P:Program}(w:World){ops:Array Oper}{rest:List Oper}{o:Oper}{a:Act}{Q:Exit→Act→World→Prop}
  (hg:o.guard=none) (m x:Operand) (t:TypeId) (hop:o.op=Op.lookup t m x false)
  (k e:TypeId) (K:Keyed P k) (ht:P.underlying t=some (.map k e)) (hz:(zeroValue e).run P w=.ok (.pointer none) w) (b n:Nat) (D:DataW Unit)
  (hm:a.eval m=.map (some b)) (hown:w.ownsMap P k ptrElem b n D) (key:Value) (kl:Lit) (hx:a.eval x=key) (hkey:keyOf P k key=some kl) (r:Nat) (hr:D.atKey kl .nil=.lit (.int .i64 (r:Nat)))
  (hK:wpList P ops Q rest (a.put o.dst (.pointer (some ⟨r,0,none⟩))) w) :
  wpList P ops Q (o :: rest) a w:=by
 refine wpList_plain hg fun K' hK'=>?_
 obtain⟨v,ps,hrun,hv⟩:=hown.lookup K ht hz (zd:=.nil) (zp:=[]) rfl hkey
 rw[hr] at hv
 obtain rfl:=ptrElem_inv hv
 unfold Oper.wp
 simp[execOp,hop,hm,hx,hrun,Result.andThen]
 exact hK' _ _ hK
theorem ownsMap_same {P:Program}{k:TypeId}{R:Value→Option (DataW Unit × List MemPlace)}{w w':World}{b n:Nat}{D:DataW Unit}(h:w.ownsMap P k R b n D)(he:w'.heap[b]?=w.heap[b]?):w'.ownsMap P k R b n D:=by
 obtain⟨es,clock,hb,r⟩:=h
 exact⟨es,clock,he.trans hb,r⟩
end Go.Proofs.YtjeicikflkjacaaGreatDoor
namespace Go.Proofs.YtjeicikflkjacaaGreatDoor
namespace Lh
def Prm (n:Nat):Prop:=2≤n∧∀k,2≤k→k<n→n % k≠0
def rowAt (A B n j:Nat):Nat:=(A % n+j*(B % (n - 1)+1)) % n
theorem prm_coprime {n s:Nat}(hp:Prm n)(h0:0<s)(hs:s<n):Nat.Coprime n s:=by
 have h1:=Nat.gcd_dvd_left n s
 have h2:=Nat.gcd_dvd_right n s
 have hle:=Nat.le_of_dvd h0 h2
 have hpos:0<Nat.gcd n s:=Nat.gcd_pos_of_pos_right _ h0
 rcases Nat.lt_or_ge (Nat.gcd n s) 2 with h|h
 ·show Nat.gcd n s=1
  omega
 ·exact absurd (Nat.mod_eq_zero_of_dvd h1) (hp.2 _ h (by omega))
theorem skip_lt {n B:Nat}(h:2≤n):B % (n - 1)+1<n:=by
 have:=Nat.mod_lt B (show n - 1 > 0 by omega)
 omega
theorem rowAt_lt {A B n j:Nat}(h:2≤n):rowAt A B n j<n:=Nat.mod_lt _ (by omega)
theorem rowAt_inj_le {A B n i j:Nat}(hp:Prm n)(hij:i≤j)(hj:j<n)(h:rowAt A B n j=rowAt A B n i):i=j:=by
 unfold rowAt at h
 have hs:=skip_lt (B:=B) hp.1
 have h0:0<B % (n - 1)+1:=Nat.succ_pos _
 generalize B % (n - 1)+1=s at h hs h0
 have h1:=Nat.sub_mod_eq_zero_of_mod_eq h
 have h2:A % n+j*s - (A % n+i*s)=s*(j - i):=by
  rw[Nat.add_sub_add_left,←Nat.sub_mul,Nat.mul_comm]
 rw[h2] at h1
 have hd:=Nat.Coprime.dvd_of_dvd_mul_left (prm_coprime hp h0 hs) (Nat.dvd_of_mod_eq_zero h1)
 rcases Nat.eq_zero_or_pos (j - i) with hz|hz
 ·omega
 ·have:=Nat.le_of_dvd hz hd
  omega
theorem rowAt_inj {A B n i j:Nat}(hp:Prm n)(hi:i<n)(hj:j<n)(h:rowAt A B n i=rowAt A B n j):i=j:=by
 rcases Nat.le_total i j with hle|hle
 ·exact rowAt_inj_le hp hle hj h.symm
 ·exact (rowAt_inj_le hp hle hi h).symm
theorem inj_surj (n:Nat)(f:Nat→Nat)(hlt:∀i,i<n→f i<n)(hinj:∀i j,i<n→j<n→f i=f j→i=j)(x:Nat)(hx:x<n):∃i,i<n∧f i=x:=by
 refine Decidable.byContradiction fun hno=>?_
 have hnd:((List.range n).map f).Nodup:=by
  refine List.pairwise_map.2 ?_
  refine List.Pairwise.imp_of_mem ?_ (List.nodup_range (n:=n))
  intro a b ha hb hab e
  exact hab (hinj a b (List.mem_range.1 ha) (List.mem_range.1 hb) e)
 have hsub:(List.range n).map f ⊆ (List.range n).erase x:=by
  intro y hy
  obtain⟨i,hi,rfl⟩:=List.mem_map.1 hy
  have hi':=List.mem_range.1 hi
  refine (List.mem_erase_of_ne ?_).2 (List.mem_range.2 (hlt i hi'))
  intro e
  exact hno ⟨i,hi',e⟩
 have:=hnd.length_le_of_subset hsub
 rw[List.length_erase_of_mem (List.mem_range.2 hx)] at this
 simp at this
 omega
def pick (out:List Int)(r:Nat→Nat)(n:Nat):Nat:=((List.range n).find? fun j=>decide (out.getD (r j) 0<0)).getD 0
theorem pick_spec {out:List Int}{r:Nat→Nat}{n:Nat}(h:∃j,j<n∧out.getD (r j) 0<0):pick out r n<n∧out.getD (r (pick out r n)) 0<0∧∀i,i<pick out r n→0≤out.getD (r i) 0:=by
 unfold pick
 cases hf:(List.range n).find? fun j=>decide (out.getD (r j) 0<0) with
 | none =>
  obtain⟨j,hj,hlt⟩:=h
  have:=List.find?_eq_none.1 hf j (List.mem_range.2 hj)
  exact absurd (decide_eq_true hlt) this
 | some j =>
  obtain⟨h1,h2,h3⟩:=List.find?_range_eq_some.1 hf
  refine⟨List.mem_range.1 h2,of_decide_eq_true h1,fun i hi=>?_⟩
  have:=h3 i hi
  simp at this
  simpa using this
theorem pick_unique {out:List Int}{r:Nat→Nat}{n j:Nat}(hj:j<n)(hf:out.getD (r j) 0<0)(hb:∀i,i<j→0≤out.getD (r i) 0):pick out r n=j:=by
 obtain⟨h1,h2,h3⟩:=pick_spec ⟨j,hj,hf⟩
 rcases Nat.lt_trichotomy (pick out r n) j with h|h|h
 ·have:=hb _ h;omega
 ·exact h
 ·have:=h3 _ h;omega
def step1 (n m:Nat)(rows:Nat→Nat→Nat)(vals:Nat→Int)(t:Nat)(out:List Int):List Int:=out.set (rows (t % m) (pick out (rows (t % m)) n)) (vals (t % m))
def fill (n m:Nat)(rows:Nat→Nat→Nat)(vals:Nat→Int):Nat→List Int
 | 0=>List.replicate n (-1)
 | t+1=>step1 n m rows vals t (fill n m rows vals t)
structure RowsOk (n m:Nat)(rows:Nat→Nat→Nat)(vals:Nat→Int):Prop where
 pos:0<m
 lt:∀k,k<m→∀j,j<n→rows k j<n
 inj:∀k,k<m→∀i j,i<n→j<n→rows k i=rows k j→i=j
 val:∀k,k<m→0≤vals k
theorem fill_length (n m:Nat)(rows:Nat→Nat→Nat)(vals:Nat→Int):∀t,(fill n m rows vals t).length=n
 | 0=>by simp[fill]
 | t+1=>by simp[fill,step1,fill_length n m rows vals t]
theorem getD_lt {out:List Int}{x:Nat}(h:x<out.length):out.getD x 0=out[x]:=by
 rw[List.getD_eq_getElem?_getD,List.getElem?_eq_getElem h];rfl
theorem fill_free {n m:Nat}{rows:Nat→Nat→Nat}{vals:Nat→Int}(hr:RowsOk n m rows vals):∀t,t≤n→(fill n m rows vals t).countP (fun v=>decide (v<0))=n - t
 | 0,_=>by simp[fill,List.countP_replicate]
 | t+1,ht=>by
  have ih:=fill_free hr t (by omega)
  have hl:=fill_length n m rows vals t
  have hk:t % m<m:=Nat.mod_lt _ hr.pos
  have hex:∃j,j<n∧(fill n m rows vals t).getD (rows (t % m) j) 0<0:=by
   have hpos:0<(fill n m rows vals t).countP (fun v=>decide (v<0)):=by omega
   obtain⟨v,hv,hv0⟩:=List.countP_pos_iff.1 hpos
   obtain⟨x,hx,rfl⟩:=List.getElem_of_mem hv
   obtain⟨j,hj,e⟩:=inj_surj n (rows (t % m)) (hr.lt _ hk) (hr.inj _ hk) x (by omega)
   refine⟨j,hj,?_⟩
   rw[e,getD_lt hx]
   exact of_decide_eq_true hv0
  obtain⟨h1,h2,_⟩:=pick_spec hex
  have hlt:rows (t % m) (pick (fill n m rows vals t) (rows (t % m)) n)<(fill n m rows vals t).length:=by rw[hl];exact hr.lt _ hk _ h1
  rw[getD_lt hlt] at h2
  show (step1 n m rows vals t (fill n m rows vals t)).countP _=_
  unfold step1
  rw[List.countP_set hlt,ih]
  have hv:=hr.val _ hk
  simp only[decide_eq_true h2,if_true]
  rw[if_neg (by simp;omega)]
  omega
theorem fill_pick {n m:Nat}{rows:Nat→Nat→Nat}{vals:Nat→Int}(hr:RowsOk n m rows vals){t:Nat}(ht:t<n){k:Nat}(hk:k<m):∃j,j<n∧(fill n m rows vals t).getD (rows k j) 0<0:=by
 have h:=fill_free hr t (by omega)
 have hl:=fill_length n m rows vals t
 have hpos:0<(fill n m rows vals t).countP (fun v=>decide (v<0)):=by omega
 obtain⟨v,hv,hv0⟩:=List.countP_pos_iff.1 hpos
 obtain⟨x,hx,rfl⟩:=List.getElem_of_mem hv
 obtain⟨j,hj,e⟩:=inj_surj n (rows k) (hr.lt _ hk) (hr.inj _ hk) x (by omega)
 refine⟨j,hj,?_⟩
 rw[e,getD_lt hx]
 exact of_decide_eq_true hv0
def turns (n m k:Nat):Nat:=(List.range n).countP fun t=>decide (t % m=k)
theorem fill_vals {n m:Nat}{rows:Nat→Nat→Nat}{vals:Nat→Int}(hm:0<m):∀t v,v∈fill n m rows vals t→v = -1∨∃k,k<m∧v=vals k
 | 0,v,h=>Or.inl (List.eq_of_mem_replicate h)
 | t+1,v,h=>by
  rcases List.mem_or_eq_of_mem_set h with h|h
  ·exact fill_vals hm t v h
  ·exact Or.inr ⟨t % m,Nat.mod_lt _ hm,h⟩
theorem pick_congr {o1 o2:List Int}{r:Nat→Nat}{n:Nat}(h:∀j,j<n→(o1.getD (r j) 0<0↔o2.getD (r j) 0<0)):pick o1 r n=pick o2 r n:=by
 unfold pick
 have:(List.range n).find? (fun j=>decide (o1.getD (r j) 0<0))=(List.range n).find? (fun j=>decide (o2.getD (r j) 0<0)):=by
  have:∀l:List Nat,(∀j∈l,j<n)→l.find? (fun j=>decide (o1.getD (r j) 0<0))=l.find? (fun j=>decide (o2.getD (r j) 0<0)):=by
   intro l
   induction l with
   | nil=>intro _;rfl
   | cons a t ih =>
    intro hl
    have e:decide (o1.getD (r a) 0<0)=decide (o2.getD (r a) 0<0):=decide_eq_decide.2 (h a (hl a (List.mem_cons_self ..)))
    rw[List.find?_cons,List.find?_cons,e,ih (fun j hj=>hl j (List.mem_cons_of_mem _ hj))]
  exact this _ (fun j hj=>List.mem_range.1 hj)
 rw[this]
def over (vals:Nat→Int)(v:Int):Int:=if v<0 then -1 else vals v.toNat
theorem fill_over {n m:Nat}{rows:Nat→Nat→Nat}{vals:Nat→Int}(hr:RowsOk n m rows vals):∀t,t≤n→fill n m rows vals t=(fill n m rows (fun k=>(k:Int)) t).map (over vals)
 | 0,_=>by simp[fill,over]
 | t+1,ht=>by
  have ih:=fill_over hr t (by omega)
  have hkt:t % m<m:=Nat.mod_lt _ hr.pos
  have hl0:=fill_length n m rows (fun k=>(k:Int)) t
  have key:∀x,x<n→((fill n m rows vals t).getD x 0<0↔(fill n m rows (fun k=>(k:Int)) t).getD x 0<0):=by
   intro x hx
   have hx0:x<(fill n m rows (fun k=>(k:Int)) t).length:=by rw[hl0];exact hx
   rw[ih,getD_lt (by simpa using hx0),getD_lt hx0,List.getElem_map]
   rcases fill_vals hr.pos t _ (List.getElem_mem hx0) with e|⟨k,hk,e⟩
   ·rw[e];simp[over]
   ·have:=hr.val k hk
    have e':over vals (fill n m rows (fun k=>(k:Int)) t)[x]=vals k:=by
     rw[e];simp only[over];rw[if_neg (by omega)];simp
    rw[e',e]
    omega
  have hp:=pick_congr (o1:=fill n m rows vals t) (o2:=fill n m rows (fun k=>(k:Int)) t) (r:=rows (t % m)) (n:=n) (fun j hj=>key _ (hr.lt _ hkt j hj))
  show step1 n m rows vals t (fill n m rows vals t)=(step1 n m rows (fun k=>(k:Int)) t (fill n m rows (fun k=>(k:Int)) t)).map (over vals)
  unfold step1
  rw[hp,List.map_set,ih]
  congr 1
theorem fill_full {n m:Nat}{rows:Nat→Nat→Nat}{vals:Nat→Int}(hr:RowsOk n m rows vals){x:Nat}(hx:x<n):∃k,k<m∧(fill n m rows (fun k=>(k:Int)) n).getD x 0=k∧(fill n m rows vals n).getD x 0=vals k:=by
 have hr0:RowsOk n m rows (fun k=>(k:Int)):=⟨hr.pos,hr.lt,hr.inj,fun k _=>by omega⟩
 have hl0:=fill_length n m rows (fun k=>(k:Int)) n
 have hx0:x<(fill n m rows (fun k=>(k:Int)) n).length:=by rw[hl0];exact hx
 have hfree:=fill_free hr0 n (Nat.le_refl _)
 rw[Nat.sub_self] at hfree
 have hge:=List.countP_eq_zero.1 hfree _ (List.getElem_mem hx0)
 rcases fill_vals hr.pos n _ (List.getElem_mem hx0) with e|⟨k,hk,e⟩
 ·rw[e] at hge;simp at hge
 ·refine⟨k,hk,by rw[getD_lt hx0,e],?_⟩
  rw[fill_over hr n (Nat.le_refl _),getD_lt (by simpa using hx0),List.getElem_map,e]
  simp only[over]
  rw[if_neg (by omega)]
  simp
end Lh
end Go.Proofs.YtjeicikflkjacaaGreatDoor
namespace Go.Proofs.YtjeicikflkjacaaGreatDoor
open Go.RowKit
namespace Lh
theorem sortT_perm (xs:List ByteArray):(sortT xs).Perm xs:=by
 unfold sortT
 have h:=(List.mergeSort_perm (xs.map fun s=>s.data.toList) (fun x y=>decide (x≤y))).map (fun l:List UInt8=>(⟨l.toArray⟩:ByteArray))
 rw[List.map_map] at h
 have e:((fun l:List UInt8=>(⟨l.toArray⟩:ByteArray)) ∘ fun s:ByteArray=>s.data.toList)=id:=rfl
 rw[e,List.map_id] at h
 exact h
def ix (xs:List ByteArray)(s:ByteArray):Nat:=xs.findIdx fun x=>decide (x=s)
theorem ix_lt {xs:List ByteArray}{s:ByteArray}(h:s∈xs):ix xs s<xs.length:=List.findIdx_lt_length.2 ⟨s,h,by simp⟩
theorem ix_at {xs:List ByteArray}{s:ByteArray}(h:s∈xs):xs[ix xs s]'(ix_lt h)=s:=by
 exact of_decide_eq_true (List.findIdx_getElem (p:=fun x=>decide (x=s)) (xs:=xs) (w:=ix_lt h))
theorem nodup_inj {xs:List ByteArray}(hn:xs.Nodup){i j:Nat}(hi:i<xs.length)(hj:j<xs.length)(h:xs[i]=xs[j]):i=j:=by
 have hp:=List.pairwise_iff_getElem.1 hn
 rcases Nat.lt_trichotomy i j with hlt|e|hgt
 ·exact absurd h (hp i j hi hj hlt)
 ·exact e
 ·exact absurd h.symm (hp j i hj hi hgt)
def nameAt (ys:List ByteArray)(k:Nat):ByteArray:=ys.getD k ByteArray.empty
theorem nameAt_lt {ys:List ByteArray}{k:Nat}(h:k<ys.length):nameAt ys k=ys[k]:=by
 unfold nameAt;rw[List.getD_eq_getElem?_getD,List.getElem?_eq_getElem h];rfl
theorem nameAt_mem {xs:List ByteArray}{k:Nat}(h:k<xs.length):nameAt (sortT xs) k∈xs:=by
 have h':k<(sortT xs).length:=by rw[sortT_length];exact h
 rw[nameAt_lt h']
 exact (sortT_perm xs).mem_iff.1 (List.getElem_mem h')
def rowN (s:ByteArray)(n j:Nat):Nat:=rowAt (num s 1) (num s 2) n j
def rowL (s:ByteArray)(n:Nat):List Int:=(List.range n).map fun j=>((rowN s n j:Nat):Int)
theorem rowL_length (s:ByteArray)(n:Nat):(rowL s n).length=n:=by simp[rowL]
theorem rowL_get (s:ByteArray)(n:Nat){j:Nat}(h:j<(rowL s n).length):(rowL s n)[j]=((rowN s n j:Nat):Int):=by simp[rowL]
def rowsN (ys:List ByteArray)(n k j:Nat):Nat:=rowN (nameAt ys k) n j
def valsN (xs ys:List ByteArray)(k:Nat):Int:=(ix xs (nameAt ys k):Nat)
def tab (xs:List ByteArray)(n t:Nat):List Int:=fill n xs.length (rowsN (sortT xs) n) (valsN xs (sortT xs)) t
theorem tab_length (xs:List ByteArray)(n t:Nat):(tab xs n t).length=n:=fill_length _ _ _ _ _
theorem tab_ok {xs:List ByteArray}{n:Nat}(hp:Prm n)(h0:0<xs.length):RowsOk n xs.length (rowsN (sortT xs) n) (valsN xs (sortT xs)) :=
 ⟨h0,fun _ _ _ _=>rowAt_lt hp.1,fun _ _ _ _ hi hj h=>rowAt_inj hp hi hj h,fun _ _=>by unfold valsN;omega⟩
theorem tab_step {xs:List ByteArray}{n t p:Nat}(hp:p<n)(hf:(tab xs n t).getD (rowsN (sortT xs) n (t % xs.length) p) 0<0)(hb:∀i,i<p→0≤(tab xs n t).getD (rowsN (sortT xs) n (t % xs.length) i) 0) :
  tab xs n (t+1)=(tab xs n t).set (rowsN (sortT xs) n (t % xs.length) p) (valsN xs (sortT xs) (t % xs.length)):=by
 show step1 _ _ _ _ t (tab xs n t)=_
 unfold step1
 rw[pick_unique hp hf hb]
theorem tab_keeps {xs:List ByteArray}{n:Nat}(hp:Prm n)(h0:0<xs.length){t:Nat}{x:Nat}(hx:0≤(tab xs n t).getD x 0):0≤(tab xs n (t+1)).getD x 0:=by
 have hr:=tab_ok (xs:=xs) hp h0
 have hk:t % xs.length<xs.length:=Nat.mod_lt _ h0
 show 0≤(step1 _ _ _ _ t (tab xs n t)).getD x 0
 unfold step1
 rw[List.getD_eq_getElem?_getD] at hx ⊢
 rw[List.getElem?_set]
 split
 ·split
  ·simp[hr.val _ hk]
  ·simp
 ·exact hx
theorem tab_free {xs:List ByteArray}{n:Nat}(hp:Prm n)(h0:0<xs.length){t:Nat}(ht:t<n){k:Nat}(hk:k<xs.length):∃j,j<n∧(tab xs n t).getD (rowsN (sortT xs) n k j) 0<0:=fill_pick (tab_ok hp h0) ht hk
theorem tab_full {xs:List ByteArray}{n:Nat}(hp:Prm n)(h0:0<xs.length){x:Nat}(hx:x<n):∃i,∃_:i<xs.length,(tab xs n n).getD x 0=(i:Nat):=by
 obtain⟨k,hk,_,e⟩:=fill_full (tab_ok hp h0) hx
 exact⟨_,ix_lt (nameAt_mem hk),e⟩
end Lh
end Go.Proofs.YtjeicikflkjacaaGreatDoor
namespace Go.Proofs.YtjeicikflkjacaaGreatDoor
namespace Lh
theorem prm_of_roots {n:Nat}(h2:2≤n)(h:∀d,2≤d→d*d≤n→n % d≠0):Prm n:=by
 refine⟨h2,fun k hk hkn hz=>?_⟩
 obtain⟨q,hq⟩:=Nat.dvd_of_mod_eq_zero hz
 have hq2:2≤q:=by
  rcases Nat.lt_or_ge q 2 with hlt|hge
  ·have:q=0∨q=1:=by omega
   rcases this with rfl|rfl
   ·omega
   ·omega
  ·exact hge
 rcases Nat.le_total k q with hle|hle
 ·exact h k hk (by rw[hq];exact Nat.mul_le_mul_left _ hle) hz
 ·exact h q hq2 (by rw[hq];exact Nat.mul_le_mul_right _ hle) (by rw[hq,Nat.mul_mod_left])
theorem root_lt {n d:Nat}(h2:2≤d)(hd:d*d≤n):d<n:=by
 have:d*2≤d*d:=Nat.mul_le_mul_left _ h2
 omega
theorem root_small {n d:Nat}(hn:n≤503)(hd:d*d≤n):d≤22:=by
 rcases Nat.lt_or_ge 22 d with h|h
 ·have:23*23≤d*d:=Nat.mul_le_mul (by omega) (by omega)
  omega
 ·exact h
theorem sq_le {d:Nat}(h:d≤23):d*d≤529:=Nat.mul_le_mul h h
def SizeIs (n:Int)(e:Nat):Prop:=((n<2∨503<n)∧e=2)∨∃m:Nat,n=m∧2≤m∧m≤503∧((¬Prm m∧e=3)∨(Prm m∧e=0))
open Classical in
theorem sizeIs_ex (n:Int):∃e,SizeIs n e:=by
 by_cases h:n<2∨503<n
 ·exact⟨2,Or.inl ⟨h,rfl⟩⟩
 ·obtain⟨m,hm⟩:=Int.eq_ofNat_of_zero_le (show 0≤n by omega)
  by_cases hp:Prm m
  ·exact⟨0,Or.inr ⟨m,hm,by omega,by omega,Or.inr ⟨hp,rfl⟩⟩⟩
  ·exact⟨3,Or.inr ⟨m,hm,by omega,by omega,Or.inl ⟨hp,rfl⟩⟩⟩
end Lh
end Go.Proofs.YtjeicikflkjacaaGreatDoor
