/- mix.Sorted. -/
import Derived.Test.YtjeicikflkjacaaGreatDoorM1
import Derived.Test.YtjeicikflkjacaaGreatDoorSort
import Derived.Sort.OwnSorted
import Derived.Test.YtjeicikflkjacaaGreatDoorM0
import Derived.Laws.Rows
import Derived.Sort.Walk0
import Derived.Deep.RegionWith
import Derived.Maps.OwnOps
import Derived.Maps.OwnSet
import Derived.Carry
set_option maxHeartbeats 20000000
set_option maxRecDepth 100000
namespace Go.Proofs.YtjeicikflkjacaaGreatDoor
open Go.RowKit Go.Sort
namespace Lh
def sortL (l:List (List UInt8)):List (List UInt8):=l.mergeSort fun x y=>decide (x≤y)
def sortT (xs:List ByteArray):List ByteArray:=(sortL (xs.map fun s=>s.data.toList)).map fun l=>⟨l.toArray⟩
theorem sortL_length (l:List (List UInt8)):(sortL l).length=l.length:=List.length_mergeSort _
theorem sortT_length (xs:List ByteArray):(sortT xs).length=xs.length:=by simp[sortT,sortL_length]
end Lh
theorem Strs1.src {w:World}{v:Value}{xs:List ByteArray}(h:Strs1 w v xs):∃sp c,v=.slice sp xs.length c∧(0<xs.length→∃b o,sp=some ⟨b,o,none⟩∧∀k (h:k<xs.length),w.cell? ⟨b,o+k,none⟩=some (.string xs[k])):=by
 rcases h with⟨rfl,rfl|⟨a,c,rfl⟩⟩|⟨b,o,c,rfl,_,hc⟩
 ·exact⟨_,_,rfl,fun h=>absurd h (by simp)⟩
 ·exact⟨_,_,rfl,fun h=>absurd h (by simp)⟩
 ·exact⟨_,_,rfl,fun _=>⟨b,o,rfl,hc⟩⟩
theorem sizeS:(Tryz.prog.info? 9).map (·.size)=some 1:=by kernel_rfl
theorem strs_enc (xs:List ByteArray):xs.map Value.string=(xs.map fun s=>s.data.toList).map encStr:=by
 rw[List.map_map];rfl
theorem enc_strs (l:List (List UInt8)):l.map encStr=(l.map fun b=>(⟨b.toArray⟩:ByteArray)).map Value.string:=by
 rw[List.map_map];rfl
theorem sorted_good (a:Nat→Addr)(v:Value)(xs:List ByteArray)(w:World)(he:Errs a w)(hv:Strs1 w v xs)(hf:IsFault xs 0 (-1))(hs:∀k (h:k<xs.length),(xs[k]).size≤1000000)(hm:xs.length<1000000) :
  Calls Tryz.prog 34 #[v] w fun e w'=>∃v',e=.returned (.tuple #[v',.nilIface])∧Strs1 w' v' (Lh.sortT xs)∧Below w.heap.size w w':=by
 obtain⟨i,hi,hz0,hz1,hz2⟩:=info_parts infoS
 have hchk:=check_any a v xs w 0 (-1) he hv.strs hf hs hm
 have HSRC:∃sp c,v=.slice sp xs.length c∧Hid (∀W,Below w.heap.size w W→0<xs.length→∃ad,sp=some ad∧∀j u,(xs.map Value.string)[j]?=some u→W.cell? (ad.add j)=some u):=by
  obtain⟨sp,c,rfl,h⟩:=hv.src
  refine⟨sp,c,rfl,fun W hb hpos=>?_⟩
  obtain⟨b,o,rfl,hc⟩:=h hpos
  exact⟨_,rfl,cells_strs (fun k hk=>below_cell hb (hc k hk))⟩
 obtain⟨sp,c,rfl,HSRC⟩:=HSRC
 clear hv
 have hmax:xs.length≤maxLen:=by unfold maxLen;omega
 have hbyt:i.bytes*xs.length≤281474976710656:=by rw[hz2];omega
 go_enter Tryz.func34,Tryz.ntmps34
 go_wp2_with fail
 refine hchk.mono ?_
 rintro e w1 ⟨ev,rfl,hev,hb1⟩
 have hev':ev=.nilIface:=by
  rcases hev with⟨_,_,h⟩|⟨j,_,h,_⟩
  ·exact h
  ·omega
 subst hev'
 clear hev hchk
 go_wp2_with (at_make;refine wpList_make_full w1 rfl _ _ 22 rfl w1.heap.size 9 i _ 1 Tryz.underlying22 hi hz0 hz1 _ _ _ _ xs.length rfl rfl rfl rfl hbyt hmax (Nat.le_refl _) ?_)
 intro w2 hown hgrow
 have hb2:Below w.heap.size w w2:=hb1.trans ((below_grown hgrow (fun k h=>by cases h)).mono hb1.size)
 obtain⟨hl,⟨hnil,_⟩|⟨g,cap,cur,hgv,hbase,hbk,hn,hcm,hsz,ht⟩⟩:=hown
 ·cases hnil
 obtain⟨rfl,rfl⟩:w1.heap.size=g∧xs.length=cap:=by
  simp only[Value.slice.injEq,Option.some.injEq,Addr.mk.injEq] at hgv
  exact⟨hgv.1.1,hgv.2.2⟩
 clear hgv hl ht hgrow hbase
 obtain⟨cur⟩:=cur
 have hcl:cur.length=xs.length:=by simpa using hsz
 go_wp2_with (refine wpList_copy_splice rfl (.tmp 14) (.tmp 15) 22 22 rfl 9 Tryz.underlying22 sizeS _ _ _ _ _ _ rfl rfl w1.heap.size 0 cur 9 hbk (xs.map Value.string) (by simp) (fun hp=>⟨rfl,HSRC.out _ hb2 (by simpa using hp)⟩) (by simp;omega) (strs_oneCell xs) w.heap.size w hb2 hb1.size ?_)
 intro w3 hg3 hb3
 have hspl:splice cur 0 (xs.map Value.string)=xs.map Value.string:=by
  simp[splice,List.drop_of_length_le (show cur.length≤xs.length by omega)]
 have hblk:w3.heap[w1.heap.size]?=some (.cells (xs.map Value.string).toArray 9 (0,0)):=by rw[←hspl];exact hg3.out
 have hH:Holds encStr w3 w1.heap.size 0 (xs.map fun s=>s.data.toList).toArray:=holds_of_block hblk (by rw[←strs_enc,List.length_map];exact List.take_of_length_le (by simp))
 have hlt:w1.heap.size<w3.heap.size:=(Array.getElem?_eq_some_iff.1 hblk).1
 have hsort:=sort_string w1.heap.size 0 xs.length (xs.map fun s=>s.data.toList) w3 hH hlt (by simp;omega)
 rw[List.length_map] at hsort
 clear hH hspl hg3 hbk hcl
 go_wp2_with fail
 refine hsort.mono ?_
 rintro e w4 ⟨rfl,nn,os,hw4⟩
 have hown4:=ownsRow_sorted (n:=nn) (os:=os) (base:=w.heap.size) (ts:=Lh.sortL (xs.map fun s=>s.data.toList)) (ss:=xs.map fun s=>s.data.toList) (cap:=xs.length) (Lh.sortL_length _) hb1.size hblk (by simp) hmax (by simp)
 have hg4:=grownBy_sorted (w:=w3) (g:=w1.heap.size) (n:=nn) (os:=os) (Lh.sortL (xs.map fun s=>s.data.toList)).toArray
 have e4:w4=grow (putRow encStr (Sort.ahead w3 nn) w1.heap.size 0 (Lh.sortL (xs.map fun s=>s.data.toList)).toArray) os:=hw4
 rw[←e4] at hown4 hg4
 clear hw4 e4 hsort hblk
 have hb4:Below w.heap.size w w4:=hb3.grown hg4 hb3.size (fun k hk=>by cases hk;exact hb1.size)
 rw[List.length_map,enc_strs] at hown4
 have hfin:=strs_of_owns hown4
 have HFIN:Hid _:=hfin
 clear hfin hown4 hg4 hb3 hb2
 go_wp2
 go_ret2
 exact⟨_,rfl,HFIN.out,hb4⟩
end Go.Proofs.YtjeicikflkjacaaGreatDoor
namespace Go.Proofs.YtjeicikflkjacaaGreatDoor
open Go.RowKit
def IntRow (w:World)(g:Nat)(xs:List Int):Prop:=w.heap[g]?=some (.cells (xs.map (Value.int .i64)).toArray 3 (0,0))
section
variable {w w':World} {g:Nat} {xs:List Int}
theorem IntRow.cell (h:IntRow w g xs){k:Nat}(hk:k<xs.length):w.cell? ⟨g,k,none⟩=some (.int .i64 xs[k]):=by
 rw[cell_of_row w g k _ _ _ h]
 simp[hk]
theorem IntRow.frozen (h:IntRow w g xs)(k:Nat):w.frozen? ⟨g,k,none⟩=false:=frozen_of_row w g k _ _ h
theorem IntRow.set (h:IntRow w g xs)(k:Nat)(v:Int):IntRow (w.setCell ⟨g,k,none⟩ (.int .i64 v)) g (xs.set k v):=by
 have:=heap_setCell_same w g k _ _ (.int .i64 v) h
 unfold IntRow
 rw[this]
 simp[List.map_set]
theorem IntRow.same (h:IntRow w g xs)(he:w'.heap[g]?=w.heap[g]?):IntRow w' g xs:=by
 unfold IntRow
 rw[he]
 exact h
theorem IntRow.lt (h:IntRow w g xs):g<w.heap.size:=(Array.getElem?_eq_some_iff.1 h).1
theorem IntRow.later (h:IntRow w g xs)(hb:Below w.heap.size w w'):IntRow w' g xs:=h.same (hb.block g h.lt)
theorem IntRow.of_owns {base n:Nat}(h:w.ownsRow base 3 1 (.slice (some ⟨g,0,none⟩) n n) n (xs.map (Value.int .i64))):IntRow w g xs:=by
 rcases h.2 with⟨h',_⟩|⟨g',cap',cur,h',_,hg,_,_,hcs,ht⟩
 ·simp at h'
 ·simp only[Value.slice.injEq,Option.some.injEq,Addr.mk.injEq,and_true,true_and] at h'
  obtain⟨rfl,rfl⟩:=h'
  unfold IntRow
  rw[hg,←ht,List.take_of_length_le (by simp;omega)]
end
theorem infoI:(Tryz.prog.info? 3).map (fun i=>(i.zero,i.size,i.bytes))=some (some (.int .i64 0),1,8):=by kernel_rfl
theorem ints_oneCell1 (x:Int):∀u∈[Value.int .i64 x],u.oneCell'=true:=by
 intro u hu
 simp at hu
 subst hu
 rfl
theorem ints_of_owns {w:World}{base n:Nat}{v:Value}{xs:List Int}(h:w.ownsRow base 3 1 v n (xs.map (Value.int .i64))):Ints w v xs:=by
 have hl:xs.length=n:=by simpa using h.1
 rcases h.2 with⟨rfl,rfl⟩|⟨g,cap,cur,rfl,_⟩
 ·exact Or.inl ⟨List.length_eq_zero_iff.1 hl,_,_,rfl⟩
 ·refine Or.inr ⟨g,0,cap,by rw[hl],fun k hk=>?_⟩
  rw[Nat.zero_add,h.cellAt k (by omega)]
  simp[hk]
theorem made_ints2 (n:Nat):(madeCells #[Value.int .i64 0] n).toList=(List.replicate n (0:Int)).map (Value.int .i64):=by
 rw[toList_madeCells_one]
 simp
end Go.Proofs.YtjeicikflkjacaaGreatDoor
namespace Go.Proofs.YtjeicikflkjacaaGreatDoor
open Go.RowKit Go.Maps Go.ChangeMaps
def ptrElem (v:Value):Option (DataW Unit × List MemPlace) :=
 match v with
 | .pointer (some ⟨b,0,none⟩)=>some (.lit (.int .i64 (b:Nat)),[])
 | .pointer none=>some (.nil,[])
 | _=>none
theorem ptrElem_inv {v:Value}{r:Nat}{ps:List MemPlace}(h:ptrElem v=some (.lit (.int .i64 (r:Nat)),ps)):v=.pointer (some ⟨r,0,none⟩):=by
 unfold ptrElem at h
 split at h
 ·simp only[Option.some.injEq,Prod.mk.injEq,DataW.lit.injEq,Lit.int.injEq,true_and] at h
  have:_=r:=Int.ofNat.inj h.1
  subst this
  rfl
 ·simp at h
 ·cases h
theorem ptrElem_mk (b:Nat):ptrElem (.pointer (some ⟨b,0,none⟩))=some (.lit (.int .i64 (b:Nat)),[]):=rfl
theorem wpList_lookup_ptr {P:Program}(w:World){ops:Array Oper}{rest:List Oper}{o:Oper}{a:Act}{Q:Exit→Act→World→Prop}
  (hg:o.guard=none) (m x:Operand) (t:TypeId) (hop:o.op=Op.lookup t m x false)
  (k e:TypeId) (K:Keyed P k) (ht:P.underlying t=some (.map k e)) (hz:(zeroValue e).run P w=.ok (.pointer none) w) (b n:Nat) (D:DataW Unit)
  (hm:a.eval m=.map (some b)) (hown:w.ownsMap P k ptrElem b n D) (key:Value) (kl:Lit) (hx:a.eval x=key) (hkey:keyOf P k key=some kl) (r:Nat) (hr:D.atKey kl .nil=.lit (.int .i64 (r:Nat)))
  (hK:wpList P ops Q rest (a.put o.dst (.pointer (some ⟨r,0,none⟩))) w) :
  wpList P ops Q (o :: rest) a w:=by
 refine wpList_plain hg fun K' hK'=>?_
 obtain⟨v,ps,hrun,hv⟩:=hown.lookup K ht hz (zd:=.nil) (zp:=[]) rfl hkey
 rw[hr] at hv
 obtain rfl:=ptrElem_inv hv
 unfold Oper.wp
 simp[execOp,hop,hm,hx,hrun,Result.andThen]
 exact hK' _ _ hK
theorem ownsMap_same {P:Program}{k:TypeId}{R:Value→Option (DataW Unit × List MemPlace)}{w w':World}{b n:Nat}{D:DataW Unit}(h:w.ownsMap P k R b n D)(he:w'.heap[b]?=w.heap[b]?):w'.ownsMap P k R b n D:=by
 obtain⟨es,clock,hb,r⟩:=h
 exact⟨es,clock,he.trans hb,r⟩
end Go.Proofs.YtjeicikflkjacaaGreatDoor
namespace Go.Proofs.YtjeicikflkjacaaGreatDoor
namespace Lh
def Prm (n:Nat):Prop:=2≤n∧∀k,2≤k→k<n→n % k≠0
def rowAt (A B n j:Nat):Nat:=(A % n+j*(B % (n - 1)+1)) % n
theorem prm_coprime {n s:Nat}(hp:Prm n)(h0:0<s)(hs:s<n):Nat.Coprime n s:=by
 have h1:=Nat.gcd_dvd_left n s
 have h2:=Nat.gcd_dvd_right n s
 have hle:=Nat.le_of_dvd h0 h2
 have hpos:0<Nat.gcd n s:=Nat.gcd_pos_of_pos_right _ h0
 rcases Nat.lt_or_ge (Nat.gcd n s) 2 with h|h
 ·show Nat.gcd n s=1
  omega
 ·exact absurd (Nat.mod_eq_zero_of_dvd h1) (hp.2 _ h (by omega))
theorem skip_lt {n B:Nat}(h:2≤n):B % (n - 1)+1<n:=by
 have:=Nat.mod_lt B (show n - 1 > 0 by omega)
 omega
theorem rowAt_lt {A B n j:Nat}(h:2≤n):rowAt A B n j<n:=Nat.mod_lt _ (by omega)
theorem rowAt_inj_le {A B n i j:Nat}(hp:Prm n)(hij:i≤j)(hj:j<n)(h:rowAt A B n j=rowAt A B n i):i=j:=by
 unfold rowAt at h
 have hs:=skip_lt (B:=B) hp.1
 have h0:0<B % (n - 1)+1:=Nat.succ_pos _
 generalize B % (n - 1)+1=s at h hs h0
 have h1:=Nat.sub_mod_eq_zero_of_mod_eq h
 have h2:A % n+j*s - (A % n+i*s)=s*(j - i):=by
  rw[Nat.add_sub_add_left,←Nat.sub_mul,Nat.mul_comm]
 rw[h2] at h1
 have hd:=Nat.Coprime.dvd_of_dvd_mul_left (prm_coprime hp h0 hs) (Nat.dvd_of_mod_eq_zero h1)
 rcases Nat.eq_zero_or_pos (j - i) with hz|hz
 ·omega
 ·have:=Nat.le_of_dvd hz hd
  omega
theorem rowAt_inj {A B n i j:Nat}(hp:Prm n)(hi:i<n)(hj:j<n)(h:rowAt A B n i=rowAt A B n j):i=j:=by
 rcases Nat.le_total i j with hle|hle
 ·exact rowAt_inj_le hp hle hj h.symm
 ·exact (rowAt_inj_le hp hle hi h).symm
theorem inj_surj (n:Nat)(f:Nat→Nat)(hlt:∀i,i<n→f i<n)(hinj:∀i j,i<n→j<n→f i=f j→i=j)(x:Nat)(hx:x<n):∃i,i<n∧f i=x:=by
 refine Decidable.byContradiction fun hno=>?_
 have hnd:((List.range n).map f).Nodup:=by
  refine List.pairwise_map.2 ?_
  refine List.Pairwise.imp_of_mem ?_ (List.nodup_range (n:=n))
  intro a b ha hb hab e
  exact hab (hinj a b (List.mem_range.1 ha) (List.mem_range.1 hb) e)
 have hsub:(List.range n).map f ⊆ (List.range n).erase x:=by
  intro y hy
  obtain⟨i,hi,rfl⟩:=List.mem_map.1 hy
  have hi':=List.mem_range.1 hi
  refine (List.mem_erase_of_ne ?_).2 (List.mem_range.2 (hlt i hi'))
  intro e
  exact hno ⟨i,hi',e⟩
 have:=hnd.length_le_of_subset hsub
 rw[List.length_erase_of_mem (List.mem_range.2 hx)] at this
 simp at this
 omega
def pick (out:List Int)(r:Nat→Nat)(n:Nat):Nat:=((List.range n).find? fun j=>decide (out.getD (r j) 0<0)).getD 0
theorem pick_spec {out:List Int}{r:Nat→Nat}{n:Nat}(h:∃j,j<n∧out.getD (r j) 0<0):pick out r n<n∧out.getD (r (pick out r n)) 0<0∧∀i,i<pick out r n→0≤out.getD (r i) 0:=by
 unfold pick
 cases hf:(List.range n).find? fun j=>decide (out.getD (r j) 0<0) with
 | none =>
  obtain⟨j,hj,hlt⟩:=h
  have:=List.find?_eq_none.1 hf j (List.mem_range.2 hj)
  exact absurd (decide_eq_true hlt) this
 | some j =>
  obtain⟨h1,h2,h3⟩:=List.find?_range_eq_some.1 hf
  refine⟨List.mem_range.1 h2,of_decide_eq_true h1,fun i hi=>?_⟩
  have:=h3 i hi
  simp at this
  simpa using this
theorem pick_unique {out:List Int}{r:Nat→Nat}{n j:Nat}(hj:j<n)(hf:out.getD (r j) 0<0)(hb:∀i,i<j→0≤out.getD (r i) 0):pick out r n=j:=by
 obtain⟨h1,h2,h3⟩:=pick_spec ⟨j,hj,hf⟩
 rcases Nat.lt_trichotomy (pick out r n) j with h|h|h
 ·have:=hb _ h;omega
 ·exact h
 ·have:=h3 _ h;omega
def step1 (n m:Nat)(rows:Nat→Nat→Nat)(vals:Nat→Int)(t:Nat)(out:List Int):List Int:=out.set (rows (t % m) (pick out (rows (t % m)) n)) (vals (t % m))
def fill (n m:Nat)(rows:Nat→Nat→Nat)(vals:Nat→Int):Nat→List Int
 | 0=>List.replicate n (-1)
 | t+1=>step1 n m rows vals t (fill n m rows vals t)
structure RowsOk (n m:Nat)(rows:Nat→Nat→Nat)(vals:Nat→Int):Prop where
 pos:0<m
 lt:∀k,k<m→∀j,j<n→rows k j<n
 inj:∀k,k<m→∀i j,i<n→j<n→rows k i=rows k j→i=j
 val:∀k,k<m→0≤vals k
theorem fill_length (n m:Nat)(rows:Nat→Nat→Nat)(vals:Nat→Int):∀t,(fill n m rows vals t).length=n
 | 0=>by simp[fill]
 | t+1=>by simp[fill,step1,fill_length n m rows vals t]
theorem getD_lt {out:List Int}{x:Nat}(h:x<out.length):out.getD x 0=out[x]:=by
 rw[List.getD_eq_getElem?_getD,List.getElem?_eq_getElem h];rfl
theorem fill_free {n m:Nat}{rows:Nat→Nat→Nat}{vals:Nat→Int}(hr:RowsOk n m rows vals):∀t,t≤n→(fill n m rows vals t).countP (fun v=>decide (v<0))=n - t
 | 0,_=>by simp[fill,List.countP_replicate]
 | t+1,ht=>by
  have ih:=fill_free hr t (by omega)
  have hl:=fill_length n m rows vals t
  have hk:t % m<m:=Nat.mod_lt _ hr.pos
  have hex:∃j,j<n∧(fill n m rows vals t).getD (rows (t % m) j) 0<0:=by
   have hpos:0<(fill n m rows vals t).countP (fun v=>decide (v<0)):=by omega
   obtain⟨v,hv,hv0⟩:=List.countP_pos_iff.1 hpos
   obtain⟨x,hx,rfl⟩:=List.getElem_of_mem hv
   obtain⟨j,hj,e⟩:=inj_surj n (rows (t % m)) (hr.lt _ hk) (hr.inj _ hk) x (by omega)
   refine⟨j,hj,?_⟩
   rw[e,getD_lt hx]
   exact of_decide_eq_true hv0
  obtain⟨h1,h2,_⟩:=pick_spec hex
  have hlt:rows (t % m) (pick (fill n m rows vals t) (rows (t % m)) n)<(fill n m rows vals t).length:=by rw[hl];exact hr.lt _ hk _ h1
  rw[getD_lt hlt] at h2
  show (step1 n m rows vals t (fill n m rows vals t)).countP _=_
  unfold step1
  rw[List.countP_set hlt,ih]
  have hv:=hr.val _ hk
  simp only[decide_eq_true h2,if_true]
  rw[if_neg (by simp;omega)]
  omega
theorem fill_pick {n m:Nat}{rows:Nat→Nat→Nat}{vals:Nat→Int}(hr:RowsOk n m rows vals){t:Nat}(ht:t<n){k:Nat}(hk:k<m):∃j,j<n∧(fill n m rows vals t).getD (rows k j) 0<0:=by
 have h:=fill_free hr t (by omega)
 have hl:=fill_length n m rows vals t
 have hpos:0<(fill n m rows vals t).countP (fun v=>decide (v<0)):=by omega
 obtain⟨v,hv,hv0⟩:=List.countP_pos_iff.1 hpos
 obtain⟨x,hx,rfl⟩:=List.getElem_of_mem hv
 obtain⟨j,hj,e⟩:=inj_surj n (rows k) (hr.lt _ hk) (hr.inj _ hk) x (by omega)
 refine⟨j,hj,?_⟩
 rw[e,getD_lt hx]
 exact of_decide_eq_true hv0
def turns (n m k:Nat):Nat:=(List.range n).countP fun t=>decide (t % m=k)
theorem fill_vals {n m:Nat}{rows:Nat→Nat→Nat}{vals:Nat→Int}(hm:0<m):∀t v,v∈fill n m rows vals t→v = -1∨∃k,k<m∧v=vals k
 | 0,v,h=>Or.inl (List.eq_of_mem_replicate h)
 | t+1,v,h=>by
  rcases List.mem_or_eq_of_mem_set h with h|h
  ·exact fill_vals hm t v h
  ·exact Or.inr ⟨t % m,Nat.mod_lt _ hm,h⟩
theorem pick_congr {o1 o2:List Int}{r:Nat→Nat}{n:Nat}(h:∀j,j<n→(o1.getD (r j) 0<0↔o2.getD (r j) 0<0)):pick o1 r n=pick o2 r n:=by
 unfold pick
 have:(List.range n).find? (fun j=>decide (o1.getD (r j) 0<0))=(List.range n).find? (fun j=>decide (o2.getD (r j) 0<0)):=by
  have:∀l:List Nat,(∀j∈l,j<n)→l.find? (fun j=>decide (o1.getD (r j) 0<0))=l.find? (fun j=>decide (o2.getD (r j) 0<0)):=by
   intro l
   induction l with
   | nil=>intro _;rfl
   | cons a t ih =>
    intro hl
    have e:decide (o1.getD (r a) 0<0)=decide (o2.getD (r a) 0<0):=decide_eq_decide.2 (h a (hl a (List.mem_cons_self ..)))
    rw[List.find?_cons,List.find?_cons,e,ih (fun j hj=>hl j (List.mem_cons_of_mem _ hj))]
  exact this _ (fun j hj=>List.mem_range.1 hj)
 rw[this]
def over (vals:Nat→Int)(v:Int):Int:=if v<0 then -1 else vals v.toNat
theorem fill_over {n m:Nat}{rows:Nat→Nat→Nat}{vals:Nat→Int}(hr:RowsOk n m rows vals):∀t,t≤n→fill n m rows vals t=(fill n m rows (fun k=>(k:Int)) t).map (over vals)
 | 0,_=>by simp[fill,over]
 | t+1,ht=>by
  have ih:=fill_over hr t (by omega)
  have hkt:t % m<m:=Nat.mod_lt _ hr.pos
  have hl0:=fill_length n m rows (fun k=>(k:Int)) t
  have key:∀x,x<n→((fill n m rows vals t).getD x 0<0↔(fill n m rows (fun k=>(k:Int)) t).getD x 0<0):=by
   intro x hx
   have hx0:x<(fill n m rows (fun k=>(k:Int)) t).length:=by rw[hl0];exact hx
   rw[ih,getD_lt (by simpa using hx0),getD_lt hx0,List.getElem_map]
   rcases fill_vals hr.pos t _ (List.getElem_mem hx0) with e|⟨k,hk,e⟩
   ·rw[e];simp[over]
   ·have:=hr.val k hk
    have e':over vals (fill n m rows (fun k=>(k:Int)) t)[x]=vals k:=by
     rw[e];simp only[over];rw[if_neg (by omega)];simp
    rw[e',e]
    omega
  have hp:=pick_congr (o1:=fill n m rows vals t) (o2:=fill n m rows (fun k=>(k:Int)) t) (r:=rows (t % m)) (n:=n) (fun j hj=>key _ (hr.lt _ hkt j hj))
  show step1 n m rows vals t (fill n m rows vals t)=(step1 n m rows (fun k=>(k:Int)) t (fill n m rows (fun k=>(k:Int)) t)).map (over vals)
  unfold step1
  rw[hp,List.map_set,ih]
  congr 1
theorem fill_full {n m:Nat}{rows:Nat→Nat→Nat}{vals:Nat→Int}(hr:RowsOk n m rows vals){x:Nat}(hx:x<n):∃k,k<m∧(fill n m rows (fun k=>(k:Int)) n).getD x 0=k∧(fill n m rows vals n).getD x 0=vals k:=by
 have hr0:RowsOk n m rows (fun k=>(k:Int)):=⟨hr.pos,hr.lt,hr.inj,fun k _=>by omega⟩
 have hl0:=fill_length n m rows (fun k=>(k:Int)) n
 have hx0:x<(fill n m rows (fun k=>(k:Int)) n).length:=by rw[hl0];exact hx
 have hfree:=fill_free hr0 n (Nat.le_refl _)
 rw[Nat.sub_self] at hfree
 have hge:=List.countP_eq_zero.1 hfree _ (List.getElem_mem hx0)
 rcases fill_vals hr.pos n _ (List.getElem_mem hx0) with e|⟨k,hk,e⟩
 ·rw[e] at hge;simp at hge
 ·refine⟨k,hk,by rw[getD_lt hx0,e],?_⟩
  rw[fill_over hr n (Nat.le_refl _),getD_lt (by simpa using hx0),List.getElem_map,e]
  simp only[over]
  rw[if_neg (by omega)]
  simp
end Lh
end Go.Proofs.YtjeicikflkjacaaGreatDoor
namespace Go.Proofs.YtjeicikflkjacaaGreatDoor
open Go.RowKit
namespace Lh
theorem sortT_perm (xs:List ByteArray):(sortT xs).Perm xs:=by
 unfold sortT
 have h:=(List.mergeSort_perm (xs.map fun s=>s.data.toList) (fun x y=>decide (x≤y))).map (fun l:List UInt8=>(⟨l.toArray⟩:ByteArray))
 rw[List.map_map] at h
 have e:((fun l:List UInt8=>(⟨l.toArray⟩:ByteArray)) ∘ fun s:ByteArray=>s.data.toList)=id:=rfl
 rw[e,List.map_id] at h
 exact h
def ix (xs:List ByteArray)(s:ByteArray):Nat:=xs.findIdx fun x=>decide (x=s)
theorem ix_lt {xs:List ByteArray}{s:ByteArray}(h:s∈xs):ix xs s<xs.length:=List.findIdx_lt_length.2 ⟨s,h,by simp⟩
theorem ix_at {xs:List ByteArray}{s:ByteArray}(h:s∈xs):xs[ix xs s]'(ix_lt h)=s:=by
 exact of_decide_eq_true (List.findIdx_getElem (p:=fun x=>decide (x=s)) (xs:=xs) (w:=ix_lt h))
theorem nodup_inj {xs:List ByteArray}(hn:xs.Nodup){i j:Nat}(hi:i<xs.length)(hj:j<xs.length)(h:xs[i]=xs[j]):i=j:=by
 have hp:=List.pairwise_iff_getElem.1 hn
 rcases Nat.lt_trichotomy i j with hlt|e|hgt
 ·exact absurd h (hp i j hi hj hlt)
 ·exact e
 ·exact absurd h.symm (hp j i hj hi hgt)
def nameAt (ys:List ByteArray)(k:Nat):ByteArray:=ys.getD k ByteArray.empty
theorem nameAt_lt {ys:List ByteArray}{k:Nat}(h:k<ys.length):nameAt ys k=ys[k]:=by
 unfold nameAt;rw[List.getD_eq_getElem?_getD,List.getElem?_eq_getElem h];rfl
theorem nameAt_mem {xs:List ByteArray}{k:Nat}(h:k<xs.length):nameAt (sortT xs) k∈xs:=by
 have h':k<(sortT xs).length:=by rw[sortT_length];exact h
 rw[nameAt_lt h']
 exact (sortT_perm xs).mem_iff.1 (List.getElem_mem h')
def rowN (s:ByteArray)(n j:Nat):Nat:=rowAt (num s 1) (num s 2) n j
def rowL (s:ByteArray)(n:Nat):List Int:=(List.range n).map fun j=>((rowN s n j:Nat):Int)
theorem rowL_length (s:ByteArray)(n:Nat):(rowL s n).length=n:=by simp[rowL]
theorem rowL_get (s:ByteArray)(n:Nat){j:Nat}(h:j<(rowL s n).length):(rowL s n)[j]=((rowN s n j:Nat):Int):=by simp[rowL]
def rowsN (ys:List ByteArray)(n k j:Nat):Nat:=rowN (nameAt ys k) n j
def valsN (xs ys:List ByteArray)(k:Nat):Int:=(ix xs (nameAt ys k):Nat)
def tab (xs:List ByteArray)(n t:Nat):List Int:=fill n xs.length (rowsN (sortT xs) n) (valsN xs (sortT xs)) t
theorem tab_length (xs:List ByteArray)(n t:Nat):(tab xs n t).length=n:=fill_length _ _ _ _ _
theorem tab_ok {xs:List ByteArray}{n:Nat}(hp:Prm n)(h0:0<xs.length):RowsOk n xs.length (rowsN (sortT xs) n) (valsN xs (sortT xs)) :=
 ⟨h0,fun _ _ _ _=>rowAt_lt hp.1,fun _ _ _ _ hi hj h=>rowAt_inj hp hi hj h,fun _ _=>by unfold valsN;omega⟩
theorem tab_step {xs:List ByteArray}{n t p:Nat}(hp:p<n)(hf:(tab xs n t).getD (rowsN (sortT xs) n (t % xs.length) p) 0<0)(hb:∀i,i<p→0≤(tab xs n t).getD (rowsN (sortT xs) n (t % xs.length) i) 0) :
  tab xs n (t+1)=(tab xs n t).set (rowsN (sortT xs) n (t % xs.length) p) (valsN xs (sortT xs) (t % xs.length)):=by
 show step1 _ _ _ _ t (tab xs n t)=_
 unfold step1
 rw[pick_unique hp hf hb]
theorem tab_keeps {xs:List ByteArray}{n:Nat}(hp:Prm n)(h0:0<xs.length){t:Nat}{x:Nat}(hx:0≤(tab xs n t).getD x 0):0≤(tab xs n (t+1)).getD x 0:=by
 have hr:=tab_ok (xs:=xs) hp h0
 have hk:t % xs.length<xs.length:=Nat.mod_lt _ h0
 show 0≤(step1 _ _ _ _ t (tab xs n t)).getD x 0
 unfold step1
 rw[List.getD_eq_getElem?_getD] at hx ⊢
 rw[List.getElem?_set]
 split
 ·split
  ·simp[hr.val _ hk]
  ·simp
 ·exact hx
theorem tab_free {xs:List ByteArray}{n:Nat}(hp:Prm n)(h0:0<xs.length){t:Nat}(ht:t<n){k:Nat}(hk:k<xs.length):∃j,j<n∧(tab xs n t).getD (rowsN (sortT xs) n k j) 0<0:=fill_pick (tab_ok hp h0) ht hk
theorem tab_full {xs:List ByteArray}{n:Nat}(hp:Prm n)(h0:0<xs.length){x:Nat}(hx:x<n):∃i,∃_:i<xs.length,(tab xs n n).getD x 0=(i:Nat):=by
 obtain⟨k,hk,_,e⟩:=fill_full (tab_ok hp h0) hx
 exact⟨_,ix_lt (nameAt_mem hk),e⟩
end Lh
end Go.Proofs.YtjeicikflkjacaaGreatDoor
namespace Go.Proofs.YtjeicikflkjacaaGreatDoor
namespace Lh
theorem prm_of_roots {n:Nat}(h2:2≤n)(h:∀d,2≤d→d*d≤n→n % d≠0):Prm n:=by
 refine⟨h2,fun k hk hkn hz=>?_⟩
 obtain⟨q,hq⟩:=Nat.dvd_of_mod_eq_zero hz
 have hq2:2≤q:=by
  rcases Nat.lt_or_ge q 2 with hlt|hge
  ·have:q=0∨q=1:=by omega
   rcases this with rfl|rfl
   ·omega
   ·omega
  ·exact hge
 rcases Nat.le_total k q with hle|hle
 ·exact h k hk (by rw[hq];exact Nat.mul_le_mul_left _ hle) hz
 ·exact h q hq2 (by rw[hq];exact Nat.mul_le_mul_right _ hle) (by rw[hq,Nat.mul_mod_left])
theorem root_lt {n d:Nat}(h2:2≤d)(hd:d*d≤n):d<n:=by
 have:d*2≤d*d:=Nat.mul_le_mul_left _ h2
 omega
theorem root_small {n d:Nat}(hn:n≤503)(hd:d*d≤n):d≤22:=by
 rcases Nat.lt_or_ge 22 d with h|h
 ·have:23*23≤d*d:=Nat.mul_le_mul (by omega) (by omega)
  omega
 ·exact h
theorem sq_le {d:Nat}(h:d≤23):d*d≤529:=Nat.mul_le_mul h h
def SizeIs (n:Int)(e:Nat):Prop:=((n<2∨503<n)∧e=2)∨∃m:Nat,n=m∧2≤m∧m≤503∧((¬Prm m∧e=3)∨(Prm m∧e=0))
open Classical in
theorem sizeIs_ex (n:Int):∃e,SizeIs n e:=by
 by_cases h:n<2∨503<n
 ·exact⟨2,Or.inl ⟨h,rfl⟩⟩
 ·obtain⟨m,hm⟩:=Int.eq_ofNat_of_zero_le (show 0≤n by omega)
  by_cases hp:Prm m
  ·exact⟨0,Or.inr ⟨m,hm,by omega,by omega,Or.inr ⟨hp,rfl⟩⟩⟩
  ·exact⟨3,Or.inr ⟨m,hm,by omega,by omega,Or.inl ⟨hp,rfl⟩⟩⟩
end Lh
end Go.Proofs.YtjeicikflkjacaaGreatDoor
namespace Go.Proofs.YtjeicikflkjacaaGreatDoor
open Go.RowKit
theorem sizeError_out (n:Int)(w:World)(h:n<2∨503<n)(hn:-9223372036854775808≤n∧n≤9223372036854775807) :
  Calls Tryz.prog 24 #[.int .i64 n] w fun r w'=>r=.returned (.int .i64 2)∧w'=w:=by
 by_cases h2:n<2
 ·have d1:decide (n<2)=true:=by simp;omega
  go_enter Tryz.func24,Tryz.ntmps24
  go_wp2
  go_ret
  exact⟨rfl,rfl⟩
 ·have d1:decide (n<2)=false:=by simp;omega
  have d2:decide (503<n)=true:=by simp;omega
  go_enter Tryz.func24,Tryz.ntmps24
  go_wp2
  go_ret
  exact⟨rfl,rfl⟩
theorem sizeError_in (m e:Nat)(w:World)(h2:2≤m)(h5:m≤503)(h:(¬Lh.Prm m∧e=3)∨(Lh.Prm m∧e=0)) :
  Calls Tryz.prog 24 #[.int .i64 m] w fun r w'=>r=.returned (.int .i64 e)∧w'=w:=by
 have d1:decide ((m:Int)<2)=false:=by simp;omega
 have d2:decide (503<(m:Int))=false:=by simp;omega
 have HH:Hid ((¬Lh.Prm m∧e=3)∨(Lh.Prm m∧e=0)):=h
 clear h
 go_enter Tryz.func24,Tryz.ntmps24
 go_wp2
 go_loop [3] (fun t=>∃k:Nat,2≤k∧k≤m∧t=.int .i64 k∧∀j,2≤j→j<k→m % j≠0) (fun t=>m - (intOf t).toNat)
 case atStart=>exact⟨2,Nat.le_refl _,h2,rfl,fun j h h'=>absurd h (by omega)⟩
 case round =>
  obtain⟨k,hk2,hkm,rfl,hpre⟩:=hrel
  have HP:Hid (∀j,2≤j→j<k→m % j≠0):=hpre
  clear hpre
  by_cases hlt:k<m
  ·have hd:decide ((k:Int)<(m:Int))=true:=by simp;omega
   have hk0:((k:Int)==0)=false:=by simp;omega
   by_cases hz:m % k=0
   ·have hzz:((m:Int) % (k:Int)==0)=true:=by rw[←Int.natCast_emod,hz];rfl
    have HZ:Hid (m % k=0):=hz
    clear hz
    go_wp2
    go_ret
    refine⟨?_,rfl⟩
    rcases HH.out with⟨_,e3⟩|⟨hp,_⟩
    ·rw[e3];rfl
    ·exact absurd HZ.out (hp.2 k hk2 hlt)
   ·have hzz:((m:Int) % (k:Int)==0)=false:=by rw[←Int.natCast_emod,beq_eq_false_iff_ne];omega
    have HZ:Hid (m % k≠0):=hz
    clear hz
    go_wp2
    go_round
    case rel =>
     refine⟨k+1,by omega,by omega,by go_num,fun j h hj=>?_⟩
     by_cases e:j=k
     ·subst e;exact HZ.out
     ·exact HP.out j h (by omega)
    case measure=>simp[intOf];omega
  ·have hd:decide ((k:Int)<(m:Int))=false:=by simp;omega
   go_wp2
   go_ret
   refine⟨?_,rfl⟩
   have hp:Lh.Prm m:=⟨h2,fun j h hj=>HP.out j h (by omega)⟩
   rcases HH.out with⟨hn,_⟩|⟨_,e0⟩
   ·exact absurd hp hn
   ·rw[e0];rfl
theorem sizeError_any (n:Int)(e:Nat)(w:World)(hn:-9223372036854775808≤n∧n≤9223372036854775807)(h:Lh.SizeIs n e) :
  Calls Tryz.prog 24 #[.int .i64 n] w fun r w'=>r=.returned (.int .i64 e)∧w'=w:=by
 rcases h with⟨h,rfl⟩|⟨m,rfl,h2,h5,h⟩
 ·exact sizeError_out n w h hn
 ·exact sizeError_in m e w h2 h5 h
theorem sq_cast (k:Nat):(k:Int)*(k:Int)=((k*k:Nat):Int):=by simp
theorem checkSize_in (a:Nat→Addr)(m e:Nat)(w:World)(he:Errs a w)(h2:2≤m)(h5:m≤503)(h:(¬Lh.Prm m∧e=3)∨(Lh.Prm m∧e=0)) :
  Calls Tryz.prog 35 #[.int .i64 m] w fun r w'=>∃ev,r=.returned ev∧ErrIs a w e (-1) ev∧w'=w:=by
 have s2:=he.s2
 have d1:decide ((m:Int)<2)=false:=by simp;omega
 have d2:decide (503<(m:Int))=false:=by simp;omega
 have HH:Hid ((¬Lh.Prm m∧e=3)∨(Lh.Prm m∧e=0)):=h
 clear h
 go_enter Tryz.func35,Tryz.ntmps35
 go_wp2
 go_loop [3] (fun t=>∃k:Nat,2≤k∧k≤23∧t=.int .i64 k∧∀j,2≤j→j<k→m % j≠0) (fun t=>30 - (intOf t).toNat)
 case atStart=>exact⟨2,Nat.le_refl _,by omega,rfl,fun j h h'=>absurd h (by omega)⟩
 case round =>
  obtain⟨k,hk2,hk23,rfl,hpre⟩:=hrel
  have HP:Hid (∀j,2≤j→j<k→m % j≠0):=hpre
  clear hpre
  have hsq:=Lh.sq_le hk23
  have hcast:=sq_cast k
  by_cases hlt:k*k≤m
  ·have hk22:=Lh.root_small h5 hlt
   have hkm:=Lh.root_lt hk2 hlt
   generalize hqq:k*k=q at *
   have HQ:Hid (k*k=q):=hqq
   clear hqq
   have hd:decide ((q:Int)≤(m:Int))=true:=by simp;omega
   have hk0:((k:Int)==0)=false:=by simp;omega
   by_cases hz:m % k=0
   ·have hzz:((m:Int) % (k:Int)==0)=true:=by rw[←Int.natCast_emod,hz];rfl
    have HZ:Hid (m % k=0):=hz
    clear hz
    go_wp2
    go_ret
    refine⟨_,rfl,?_,rfl⟩
    rcases HH.out with⟨_,e3⟩|⟨hp,_⟩
    ·exact Or.inr ⟨2,by decide,e3,Or.inl ⟨rfl,rfl⟩⟩
    ·exact absurd HZ.out (hp.2 k hk2 hkm)
   ·have hzz:((m:Int) % (k:Int)==0)=false:=by rw[←Int.natCast_emod,beq_eq_false_iff_ne];omega
    have HZ:Hid (m % k≠0):=hz
    clear hz
    go_wp2
    go_round
    case rel =>
     refine⟨k+1,by omega,by omega,by go_num,fun j h hj=>?_⟩
     by_cases e:j=k
     ·subst e;exact HZ.out
     ·exact HP.out j h (by omega)
    case measure=>simp[intOf];omega
  ·generalize hqq:k*k=q at *
   have HQ:Hid (k*k=q):=hqq
   clear hqq
   have hd:decide ((q:Int)≤(m:Int))=false:=by simp;omega
   have HL:Hid (¬q≤m):=hlt
   go_wp2
   go_ret
   refine⟨_,rfl,?_,rfl⟩
   have hp:Lh.Prm m:=Lh.prm_of_roots h2 (fun j h hj=>HP.out j h (by
    rcases Nat.lt_or_ge j k with h'|h'
    ·exact h'
    ·have:=Nat.mul_le_mul h' h'
     have:=HQ.out
     have:=HL.out
     omega))
   rcases HH.out with⟨hn,_⟩|⟨_,e0⟩
   ·exact absurd hp hn
   ·exact Or.inl ⟨e0,rfl,rfl⟩
theorem num_lt (s:ByteArray)(k:Nat):Lh.num s k<18446744073709551616:=Lh.turn_lt _
theorem rem_small (a n:Nat)(hn:0<n):a % n<n:=Nat.mod_lt _ hn
theorem rowL_snoc (s:ByteArray)(n j:Nat)(h:j<n):(Lh.rowL s n).take j++[((Lh.rowN s n j:Nat):Int)]=(Lh.rowL s n).take (j+1):=by
 rw[List.take_succ_eq_append_getElem (by rw[Lh.rowL_length];exact h),Lh.rowL_get]
theorem row_parts (s:ByteArray)(n:Nat)(h2:2≤n)(h5:n≤503):∃o k:Nat,o<n∧k+1<n∧(Lh.num s 1:Int) % (n:Int)=(o:Int)∧(Lh.num s 2:Int) % ((n:Int) - 1)=(k:Int) ∧
  ∀j:Nat,j<n→0≤(j:Int)*((k:Int)+1)∧(j:Int)*((k:Int)+1)≤300000∧((o:Int)+(j:Int)*((k:Int)+1)) % (n:Int)=((Lh.rowN s n j:Nat):Int):=by
 refine⟨Lh.num s 1 % n,Lh.num s 2 % (n - 1),rem_small _ _ (by omega),?_,by simp,?_,fun j hj=>?_⟩
 ·have:=rem_small (Lh.num s 2) (n - 1) (by omega)
  omega
 ·rw[Int.natCast_emod,Int.natCast_sub (by omega)];rfl
 ·have hk:=rem_small (Lh.num s 2) (n - 1) (by omega)
  have hb:j*(Lh.num s 2 % (n - 1)+1)≤503*503:=Nat.mul_le_mul (by omega) (by omega)
  have e:(j:Int)*(((Lh.num s 2 % (n - 1):Nat):Int)+1)=((j*(Lh.num s 2 % (n - 1)+1):Nat):Int):=by rw[Int.natCast_mul,Int.natCast_add];rfl
  refine⟨by omega,by omega,?_⟩
  rw[e,←Int.natCast_add,←Int.natCast_emod]
  rfl
theorem take_set_snoc {α:Type}{xs:List α}{j:Nat}(h:j<xs.length)(v:α):(xs.set j v).take (j+1)=xs.take j++[v]:=by
 rw[List.take_succ_eq_append_getElem (by simpa using h)]
 have e:(xs.take j).set j v=xs.take j:=List.set_eq_of_length_le (by simp;omega)
 simp[List.take_set,e]
theorem slotsOf_any (s:ByteArray)(n:Nat)(w:World)(hs:s.size≤300)(h2:2≤n)(h5:n≤503) :
  Calls Tryz.prog 50 #[.string s,.int .i64 n] w fun e w'=>∃g,e=.returned (.slice (some ⟨g,0,none⟩) n n)∧w.heap.size≤g∧IntRow w' g (Lh.rowL s n)∧Below w.heap.size w w':=by
 obtain⟨i,hi,hz0,hz1,hz2⟩:=info_parts infoI
 have hA:=num_lt s 1
 have hB:=num_lt s 2
 obtain⟨o,k,ho,hk,hc1,hc2,hrow⟩:=row_parts s n h2 h5
 have HROW:Hid (∀j:Nat,j<n→0≤(j:Int)*((k:Int)+1)∧(j:Int)*((k:Int)+1)≤300000∧((o:Int)+(j:Int)*((k:Int)+1)) % (n:Int)=((Lh.rowN s n j:Nat):Int)):=hrow
 clear hrow
 have hn0:((n:Int)==0)=false:=by simp;omega
 have hn1:((n:Int) - 1==0)=false:=by rw[beq_eq_false_iff_ne];omega
 have hbyt:i.bytes*n≤281474976710656:=by rw[hz2];omega
 have hmax:n≤maxLen:=by unfold maxLen;omega
 go_enter Tryz.func50,Tryz.ntmps50
 go_wp2_with fail
 refine (of_any s 1 _ hs).mono ?_
 rintro e w1 ⟨rfl,hb1⟩
 go_wp2_with fail
 refine (of_any s 2 _ hs).mono ?_
 rintro e w2 ⟨rfl,hb2⟩
 have hbA:=below_then hb1 hb2
 clear hb1 hb2
 go_wp2_with (at_make;refine wpList_make_full w2 rfl _ _ 27 rfl w2.heap.size 3 i _ 1 Tryz.underlying27 hi hz0 hz1 _ _ _ _ n rfl rfl rfl rfl hbyt hmax (Nat.le_refl _) ?_)
 intro w3 hown hgrow
 have hb3:Below w.heap.size w w3:=hbA.trans ((below_grown hgrow (fun k h=>by cases h)).mono hbA.size)
 rw[made_ints2] at hown
 have hrow0:=IntRow.of_owns hown
 have hgb:=hbA.size
 clear hown hgrow hbA
 generalize w2.heap.size=g at *
 go_wp2_with fail
 try rw[hc2]
 clear hc1 hc2
 go_loopw [27] (fun t W=>Below w.heap.size w W∧∃j:Nat,j≤n∧t=.int .i64 j∧∃xs:List Int,xs.length=n∧xs.take j=(Lh.rowL s n).take j∧IntRow W g xs) (fun t _=>n - (intOf t).toNat)
 case atStart=>exact⟨hb3,0,Nat.zero_le _,rfl,_,by simp,by simp,hrow0⟩
 case round =>
  obtain⟨hb,j,hj,rfl,xs,hlen,htake,hrow⟩:=hrel
  have HT:Hid (xs.take j=(Lh.rowL s n).take j):=htake
  have HLEN:Hid (xs.length=n):=hlen
  have HR:Hid (IntRow wr g xs):=hrow
  have HR0:Hid (IntRow w3 g (List.replicate n 0)):=hrow0
  clear htake
  by_cases hlt:j<n
  ·obtain⟨hj0,hj1,hj2⟩:=HROW.out j hlt
   rw[show (k:Int)+1=1+(k:Int) from Int.add_comm _ _] at hj0 hj1 hj2
   obtain⟨x0,c0⟩:∃x,wr.cell? ⟨g,j,none⟩=some (.int .i64 x):=⟨_,hrow.cell (k:=j) (by omega)⟩
   have f0:=hrow.frozen j
   have hd:decide ((j:Int)<(n:Int))=true:=by simp;omega
   clear hrow hlen hrow0
   go_wp2_with fail
   go_roundw
   case rel =>
    refine⟨hb.setCell hgb _,j+1,by omega,by go_num,xs.set j (Lh.rowN s n j:Nat),by simp[HLEN.out],?_,HR.out.set _ _⟩
    rw[take_set_snoc (by rw[HLEN.out];exact hlt),HT.out,rowL_snoc s n j hlt]
   case measure=>simp[intOf];omega
  ·have hd:decide ((j:Int)<(n:Int))=false:=by simp;omega
   have hfin:IntRow wr g (Lh.rowL s n):=by
    have h1:=HT.out
    rw[List.take_of_length_le (by rw[HLEN.out];omega),List.take_of_length_le (by rw[Lh.rowL_length];omega)] at h1
    rw[←h1]
    exact hrow
   have HF:Hid (IntRow wr g (Lh.rowL s n)):=hfin
   clear hfin hrow hrow0 hlen
   go_wp2
   go_ret
   exact⟨g,rfl,hgb,HF.out,hb⟩
structure Two (x y:Nat)(w w':World):Prop where
 os:w'.os=w.os
 tape:w'.tape=w.tape
 output:w'.output=w.output
 size:w'.heap.size=w.heap.size
 block:∀k,k≠x→k≠y→w'.heap[k]?=w.heap[k]?
theorem Two.refl (x y:Nat)(w:World):Two x y w w:=⟨rfl,rfl,rfl,rfl,fun _ _ _=>rfl⟩
theorem Two.drewN {x y:Nat}{w w':World}(h:Two x y w w')(n:Nat):Two x y w (w'.drewN n):=⟨h.os,h.tape,h.output,h.size,h.block⟩
theorem Two.drew {x y:Nat}{w w':World}(h:Two x y w w'):Two x y w w'.drew:=⟨h.os,h.tape,h.output,h.size,h.block⟩
theorem Two.setX {x y:Nat}{w w':World}(h:Two x y w w')(k:Nat)(v:Value):Two x y w (w'.setCell ⟨x,k,none⟩ v) :=
 ⟨h.os,h.tape,h.output,by simpa [World.setCell] using h.size,fun i h1 h2=>(heap_setCell_other w' ⟨x,k,none⟩ i v h1).trans (h.block i h1 h2)⟩
theorem Two.setY {x y:Nat}{w w':World}(h:Two x y w w')(k:Nat)(v:Value):Two x y w (w'.setCell ⟨y,k,none⟩ v) :=
 ⟨h.os,h.tape,h.output,by simpa [World.setCell] using h.size,fun i h1 h2=>(heap_setCell_other w' ⟨y,k,none⟩ i v h2).trans (h.block i h1 h2)⟩
def RowBlk (w:World)(rb:Nat)(h:Int)(sb n:Nat)(p:Nat):Prop:=w.heap[rb]?=some (.cells #[.int .i64 h,.slice (some ⟨sb,0,none⟩) n n,.int .i64 (p:Nat)] 102 (0,0))
section
variable {w w':World} {rb:Nat} {h:Int} {sb n p:Nat}
theorem RowBlk.c0 (hr:RowBlk w rb h sb n p):w.cell? ⟨rb,0,none⟩=some (.int .i64 h):=by rw[cell_of_row w rb 0 _ _ _ hr];rfl
theorem RowBlk.c1 (hr:RowBlk w rb h sb n p):w.cell? ⟨rb,1,none⟩=some (.slice (some ⟨sb,0,none⟩) n n):=by rw[cell_of_row w rb 1 _ _ _ hr];rfl
theorem RowBlk.c2 (hr:RowBlk w rb h sb n p):w.cell? ⟨rb,2,none⟩=some (.int .i64 (p:Nat)):=by rw[cell_of_row w rb 2 _ _ _ hr];rfl
theorem RowBlk.frozen (hr:RowBlk w rb h sb n p)(k:Nat):w.frozen? ⟨rb,k,none⟩=false:=frozen_of_row w rb k _ _ hr
theorem RowBlk.same (hr:RowBlk w rb h sb n p)(he:w'.heap[rb]?=w.heap[rb]?):RowBlk w' rb h sb n p:=by
 unfold RowBlk
 rw[he]
 exact hr
theorem RowBlk.step (hr:RowBlk w rb h sb n p)(q:Nat):RowBlk (w.setCell ⟨rb,2,none⟩ (.int .i64 (q:Nat))) rb h sb n q:=by
 have:=heap_setCell_same w rb 2 _ _ (.int .i64 (q:Nat)) hr
 unfold RowBlk
 rw[this]
 rfl
end
def nextOf (W:World)(rb:Nat):Nat:=(((W.cell? ⟨rb,2,none⟩).map intOf).getD 0).toNat
theorem RowBlk.nextOf {w:World}{rb:Nat}{h:Int}{sb n p:Nat}(hr:RowBlk w rb h sb n p):nextOf w rb=p:=by
 unfold Go.Proofs.YtjeicikflkjacaaGreatDoor.nextOf
 rw[hr.c2]
 simp[intOf]
theorem getD_at {out:List Int}{x:Nat}(h:x<out.length):out.getD x 0=out[x]:=Lh.getD_lt h
theorem take_core (rb sb sl n p0 p:Nat)(h:Int)(r:Nat→Nat)(out:List Int)(w:World)(hr:RowBlk w rb h sb n p0)(hs:IntRow w sb ((List.range n).map fun j=>((r j:Nat):Int)))(ho:IntRow w sl out)(hlen:out.length=n)
  (h1:rb≠sl) (h2:rb≠sb) (h3:sb≠sl) (hrn:∀j,j<n→r j<n) (hn:n≤503) (hp:p<n) (hpp:p0≤p) (hb:∀i,p0≤i→i<p→out.getD (r i) 0≠-1) (hf:out.getD (r p) 0 = -1) :
  Calls Tryz.prog 37 #[.pointer (some ⟨rb,0,none⟩),.slice (some ⟨sl,0,none⟩) n n] w fun e w'=>e=.returned (.tuple #[])∧RowBlk w' rb h sb n p∧IntRow w' sl (out.set (r p) h)∧Two rb sl w w':=by
 have HS:Hid (∀W,Two rb sl w W→∀j,j<n→W.cell? ⟨sb,j,none⟩=some (.int .i64 (r j:Nat))):=fun W hW j hj=>by
  have hs':=hs.same (hW.block sb (fun e=>h2 e.symm) h3)
  have:=hs'.cell (k:=j) (by simpa using hj)
  simpa using this
 have HB:Hid (∀i,p0≤i→i<p→out.getD (r i) 0≠-1):=hb
 have HF:Hid (out.getD (r p) 0 = -1):=hf
 have HLEN:Hid (out.length=n):=hlen
 have HLT:Hid (∀j,j<n→r j<n):=hrn
 have H1:Hid (rb≠sl):=h1
 clear hs hb hf hlen hrn h1 h2 h3
 go_enter Tryz.func37,Tryz.ntmps37
 go_wp2_with fail
 go_loopw [] (fun W=>Two rb sl w W∧IntRow W sl out∧∃q:Nat,p0≤q∧q≤p∧RowBlk W rb h sb n q) (fun W=>n - nextOf W rb)
 case atStart=>exact⟨Two.refl _ _ _,ho,p0,Nat.le_refl _,hpp,hr⟩
 case round =>
  obtain⟨h2w,ho',q,hq0,hqp,hrq⟩:=hrel
  have HO:Hid (IntRow wr sl out):=ho'
  have HRQ:Hid (RowBlk wr rb h sb n q):=hrq
  have H2W:Hid (Two rb sl w wr):=h2w
  have c1:=hrq.c1
  have c2:=hrq.c2
  have f2:=hrq.frozen 2
  have c0:=hrq.c0
  have cs:=HS.out _ h2w q (by omega)
  have hxn:=HLT.out q (by omega)
  have co:wr.cell? ⟨sl,r q,none⟩=some (.int .i64 (out.getD (r q) 0)):=by
   rw[ho'.cell (by rw[HLEN.out];exact hxn),getD_at (by rw[HLEN.out];exact hxn)]
  have fo:=ho'.frozen (r q)
  clear ho' hrq hr ho h2w
  have hqi:(q:Int)<(n:Int):=by omega
  have hxi:(r q:Int)<(n:Int):=by omega
  by_cases hqq:q<p
  ·have hne:=HB.out q hq0 hqq
   have hbb:(out.getD (r q) 0 != -1)=true:=by simpa using hne
   clear hne
   generalize out.getD (r q) 0=val at *
   generalize r q=x at *
   go_wp2_with fail
   go_quiet (fail)
   go_wp2_with fail
   have hcast:(q:Int)+1=((q+1:Nat):Int):=rfl
   have hd1:RowBlk (wr.drewN nq) rb h sb n q:=HRQ.out
   have hd2:IntRow (wr.drewN nq) sl out:=HO.out
   rw[hcast]
   have hstep:=hd1.step (q+1)
   refine⟨⟨(H2W.out.drewN nq).setX 2 _,hd2.same (heap_setCell_other _ _ _ _ (fun e=>H1.out e.symm)),q+1,by omega,by omega,hstep⟩,?_⟩
   rw[hstep.nextOf,HRQ.out.nextOf]
   omega
  ·have hqe:q=p:=by omega
   subst hqe
   have hbb:(out.getD (r q) 0 != -1)=false:=by rw[HF.out];rfl
   generalize out.getD (r q) 0=val at *
   have HX:Hid (r q<n):=hxn
   generalize hrx:r q=x at *
   have HRX:Hid (r q=x):=hrx
   clear hrx
   go_wp2_with fail
   go_quiet (fail)
   go_wp2_with fail
   have e0:(wr.drewN nq).cell? ⟨rb,0,none⟩=some (.int .i64 h):=c0
   have e1:(wr.drewN nq).cell? ⟨rb,1,none⟩=some (.slice (some ⟨sb,0,none⟩) n n):=c1
   have e2:(wr.drewN nq).cell? ⟨rb,2,none⟩=some (.int .i64 (q:Nat)):=c2
   have es:(wr.drewN nq).cell? ⟨sb,q,none⟩=some (.int .i64 (x:Nat)):=cs
   have eo:(wr.drewN nq).cell? ⟨sl,x,none⟩=some (.int .i64 val):=co
   have ef:(wr.drewN nq).frozen? ⟨sl,x,none⟩=false:=fo
   have ER:Hid (RowBlk (wr.drewN nq) rb h sb n q):=HRQ.out
   have EO:Hid (IntRow (wr.drewN nq) sl out):=HO.out
   have E2:Hid (Two rb sl w (wr.drewN nq)):=H2W.out.drewN nq
   clear c0 c1 c2 cs co fo f2 HRQ HO H2W
   generalize wr.drewN nq=W1 at *
   go_region
   all_goals
    go_wp2
    refine bodyPost_end (v:=.tuple #[]) (by simp[results,Tryz.results37,go_sem]) rfl ⟨rfl,?_,?_,?_⟩
    ·exact ER.out.same (heap_setCell_other W1 ⟨sl,x,none⟩ rb (.int .i64 h) H1.out)
    ·rw[HRX.out]
     exact EO.out.set x h
    ·exact (E2.out.setY x (.int .i64 h)).drew
theorem take_any (rb sb sl n p0 p:Nat)(h:Int)(s:ByteArray)(out:List Int)(w:World)(hr:RowBlk w rb h sb n p0)(hs:IntRow w sb (Lh.rowL s n))(ho:IntRow w sl out)(hlen:out.length=n)
  (h1:rb≠sl) (h2:rb≠sb) (h3:sb≠sl) (hn2:2≤n) (hn:n≤503) (hp:p<n) (hpp:p0≤p) (hb:∀i,p0≤i→i<p→out.getD (Lh.rowN s n i) 0≠-1) (hf:out.getD (Lh.rowN s n p) 0 = -1) :
  Calls Tryz.prog 37 #[.pointer (some ⟨rb,0,none⟩),.slice (some ⟨sl,0,none⟩) n n] w fun e w'=>e=.returned (.tuple #[])∧RowBlk w' rb h sb n p∧IntRow w' sl (out.set (Lh.rowN s n p) h)∧Two rb sl w w' :=
 take_core rb sb sl n p0 p h (Lh.rowN s n) out w hr hs ho hlen h1 h2 h3 (fun _ _=>Lh.rowAt_lt hn2) hn hp hpp hb hf
end Go.Proofs.YtjeicikflkjacaaGreatDoor
namespace Go.Proofs.YtjeicikflkjacaaGreatDoor
open Go.RowKit Go.Maps Go.ChangeMaps
theorem zeroRow (w:World):(zeroValue 75).run Tryz.prog w=.ok (.pointer none) w:=Tryz.zeroValue75 w
structure Laid (xs:List ByteArray)(n B mb k:Nat)(rb sb:Nat→Nat)(D:DataW Unit)(W:World):Prop where
 map:W.ownsMap Tryz.prog 9 ptrElem mb k D
 isMap:IsMap D
 atKey:∀i (h:i<xs.length),i<k→D.atKey (.string (xs[i]).data.toList) .nil=.lit (.int .i64 (rb i:Nat))
 row:∀i,i<k→RowBlk W (rb i) (i:Nat) (sb i) n 0
 slots:∀i (h:i<xs.length),i<k→IntRow W (sb i) (Lh.rowL xs[i] n)
 base:B≤mb
 rbLo:∀i,i<k→mb<rb i
 sbLo:∀i,i<k→mb<sb i
 rbLt:∀i,i<k→rb i<W.heap.size
 inj:∀i j,i<k→j<k→rb i=rb j→i=j
 apart:∀i j,i<k→j<k→rb i≠sb j
theorem makeMap_hint (w:World)(n:Nat):(Instr.makeMap 73 (some (.int .i64 (n:Nat)))).run Tryz.prog w=.ok (.map (some w.heap.size)) (w.alloc (.map #[] 0)):=by
 simp[Instr.makeMap,asInt,asIntOf]
theorem key_ne {xs:List ByteArray}(hnd:xs.Nodup){i k:Nat}(hi:i<xs.length)(hk:k<xs.length)(h:i≠k):Lit.string (xs[i]).data.toList≠Lit.string (xs[k]).data.toList:=by
 intro e
 simp only[Lit.string.injEq] at e
 refine h (Lh.nodup_inj hnd hi hk ?_)
 generalize xs[i]=x at *
 generalize xs[k]=y at *
 cases x
 cases y
 simpa using e
theorem Laid.next {xs:List ByteArray}{n B mb k:Nat}{rb sb:Nat→Nat}{D:DataW Unit}{W w1 w3:World}(hL:Laid xs n B mb k rb sb D W)(hnd:xs.Nodup)(hk:k<xs.length){g:Nat}(hb1:Below W.heap.size W w1)(hg:W.heap.size≤g)(hrow:IntRow w1 g (Lh.rowL xs[k] n))
  (hown3:w3.ownsMap Tryz.prog 9 ptrElem mb (k+1) (D.put (.string (xs[k]).data.toList) (.lit (.int .i64 (w1.heap.size:Nat)))))
  (hgr:(w1.alloc (.cells #[.int .i64 (k:Nat),.slice (some ⟨g,0,none⟩) n n,.int .i64 0] 102)).grownBy w3 (some mb)):∃rb' sb' D',Laid xs n B mb (k+1) rb' sb' D' w3:=by
 have hmb:=hL.map.lt
 have hs1:=hb1.size
 have hglt:=hrow.lt
 have hsa:(w1.alloc (.cells #[.int .i64 (k:Nat),.slice (some ⟨g,0,none⟩) n n,.int .i64 0] 102)).heap.size=w1.heap.size+1:=by simp
 have hs3:=hgr.size
 rw[hsa] at hs3
 have same:∀q,q<w1.heap.size→q≠mb→w3.heap[q]?=w1.heap[q]?:=fun q hq hne=>by
  rw[hgr.block q (by omega) (fun e=>hne (Option.some.inj e)),Below.heap_alloc _ _ _ hq]
 have old:∀q,q<W.heap.size→q≠mb→w3.heap[q]?=W.heap[q]?:=fun q hq hne=>(same q (by omega) hne).trans (hb1.block q hq)
 refine⟨fun i=>if i=k then w1.heap.size else rb i,fun i=>if i=k then g else sb i,_,hown3,hL.isMap.put _ _,fun i hi hik=>?_,fun i hik=>?_,fun i hi hik=>?_,hL.base,fun i hik=>?_,fun i hik=>?_,fun i hik=>?_,fun i j hi hj e=>?_,fun i j hi hj e=>?_⟩
 ·by_cases e:i=k
  ·subst e
   simp only[if_true]
   exact atKey_put_same (k:=.string _) hL.isMap (by simp[WideAt.IsKeyLit]) _ _
  ·simp only[if_neg e]
   rw[atKey_put_other (key_ne hnd hi hk e)]
   exact hL.atKey i hi (by omega)
 ·by_cases e:i=k
  ·subst e
   simp only[if_true]
   unfold RowBlk
   rw[hgr.block _ (by omega) (fun e=>by have:=Option.some.inj e;omega)]
   exact heap_alloc_new w1 _
  ·simp only[if_neg e]
   have h1:=hL.rbLt i (by omega)
   have h2:=hL.rbLo i (by omega)
   exact (hL.row i (by omega)).same (old _ h1 (by omega))
 ·by_cases e:i=k
  ·subst e
   simp only[if_true]
   exact hrow.same (same g hglt (by omega))
  ·simp only[if_neg e]
   have h2:=hL.sbLo i (by omega)
   have h3:=hL.slots i hi (by omega)
   exact h3.same (old _ h3.lt (by omega))
 ·by_cases e:i=k
  ·simp only[if_pos e];omega
  ·simp only[if_neg e];exact hL.rbLo i (by omega)
 ·by_cases e:i=k
  ·simp only[if_pos e];omega
  ·simp only[if_neg e];exact hL.sbLo i (by omega)
 ·by_cases e:i=k
  ·simp only[if_pos e];omega
  ·simp only[if_neg e]
   have:=hL.rbLt i (by omega)
   omega
 ·by_cases e1:i=k<;>by_cases e2:j=k
  ·omega
  ·simp only[if_pos e1,if_neg e2] at e
   have:=hL.rbLt j (by omega)
   omega
  ·simp only[if_neg e1,if_pos e2] at e
   have:=hL.rbLt i (by omega)
   omega
  ·simp only[if_neg e1,if_neg e2] at e
   exact hL.inj i j (by omega) (by omega) e
 ·by_cases e1:i=k<;>by_cases e2:j=k
  ·simp only[if_pos e1,if_pos e2] at e;omega
  ·simp only[if_pos e1,if_neg e2] at e
   have hj':j<xs.length:=by omega
   have:=(hL.slots j hj' (by omega)).lt
   omega
  ·simp only[if_neg e1,if_pos e2] at e
   have:=hL.rbLt i (by omega)
   omega
  ·simp only[if_neg e1,if_neg e2] at e
   exact hL.apart i j (by omega) (by omega) e
theorem keyStr (s:ByteArray)(hs:s.size≤300):keyOf Tryz.prog 9 (.string s)=some (.string s.data.toList):=Go.WideMaps.keyOf_string_mk Tryz.underlying9 (Nat.le_trans hs (by unfold maxLen;omega))
theorem rowsOf_core (b o c:Nat)(xs:List ByteArray)(n:Nat)(w:World)(hx:∀k (h:k<xs.length),w.cell? ⟨b,o+k,none⟩=some (.string xs[k]))(hl:xs.length≤12)(hnd:xs.Nodup)(hsz:∀k (h:k<xs.length),(xs[k]).size≤300)(h2:2≤n)(h5:n≤503) :
  Calls Tryz.prog 36 #[.slice (some ⟨b,o,none⟩) xs.length c,.int .i64 n] w fun e w'=>∃mb rb sb D,e=.returned (.map (some mb))∧Laid xs n w.heap.size mb xs.length rb sb D w'∧Below w.heap.size w w':=by
 have HX:Hid (∀k (h:k<xs.length),w.cell? ⟨b,o+k,none⟩=some (.string xs[k])):=hx
 have HND:Hid (xs.Nodup):=hnd
 have HSZ:Hid (∀k (h:k<xs.length),(xs[k]).size≤300):=hsz
 clear hx hnd hsz
 have hmm:=makeMap_hint w xs.length
 go_enter Tryz.func36,Tryz.ntmps36
 go_wp2_with fail
 go_loopw [13] (fun t W=>Below w.heap.size w W∧∃k:Nat,k≤xs.length∧t=.int .i64 k∧∃rb sb D,Laid xs n w.heap.size w.heap.size k rb sb D W) (fun t _=>xs.length - (intOf t).toNat)
 case atStart =>
  refine⟨(Below.refl _ _).alloc (Nat.le_refl _) _,0,Nat.zero_le _,rfl,fun _=>0,fun _=>0,_,World.ownsMap_made w _ _ _,isMap_empty,?_,?_,?_,Nat.le_refl _,?_,?_,?_,?_,?_⟩
  all_goals intros;omega
 case round =>
  obtain⟨hb,k,hk,rfl,rb,sb,D,hL⟩:=hrel
  clear hmm
  by_cases hlt:k<xs.length
  ·have cx:=below_cell hb (HX.out k hlt)
   have hsz:=HSZ.out k hlt
   have hkey:=keyStr xs[k] hsz
   have hslot:=slotsOf_any xs[k] n wr hsz h2 h5
   have HL:Hid (Laid xs n w.heap.size w.heap.size k rb sb D wr):=hL
   clear hL
   have hkl:k<maxLen:=by unfold maxLen;omega
   go_wp2_with fail
   refine hslot.mono ?_
   rintro e w1 ⟨g,rfl,hg,hrow,hb1⟩
   have hown:(w1.alloc (.cells #[.int .i64 (k:Nat),.slice (some ⟨g,0,none⟩) n n,.int .i64 0] 102)).ownsMap Tryz.prog 9 ptrElem w.heap.size k D :=
    (ownsMap_same HL.out.map (hb1.block _ HL.out.map.lt)).alloc _
   have HR:Hid (IntRow w1 g (Lh.rowL xs[k] n)):=hrow
   clear hrow hslot
   go_wp2_with (at_mapUpdate;refine wpList_mapUpdate_own _ rfl _ _ _ 73 rfl 9 75 (string_keyed Tryz.underlying9) Tryz.underlying73 ptrElem w.heap.size k D rfl hown hkl _ _ (.string (xs[k]).data.toList) rfl rfl hkey (.lit (.int .i64 (w1.heap.size:Nat))) [] (ptrElem_mk _) ?_;intro w3 hown3 hgr3)
   go_roundw
   case rel =>
    have hb2:Below w.heap.size w w1:=below_then hb hb1
    exact⟨(hb2.alloc hb2.size _).grown hgr3 (by have:=hb2.size;simp;omega) (fun k h=>by cases h;exact Nat.le_refl _),k+1,by omega,by go_num,HL.out.next HND.out hlt hb1 hg HR.out hown3 hgr3⟩
   case measure=>simp[intOf];omega
  ·have hke:k=xs.length:=by omega
   have hd:decide ((k:Int)<(xs.length:Int))=false:=by simp;omega
   have HL:Hid (∃rb sb D,Laid xs n w.heap.size w.heap.size xs.length rb sb D wr):=⟨rb,sb,D,hke ▸ hL⟩
   clear hL hke
   go_wp2
   go_ret
   obtain⟨rb,sb,D,hL⟩:=HL.out
   exact⟨_,rb,sb,D,rfl,hL,hb⟩
end Go.Proofs.YtjeicikflkjacaaGreatDoor
