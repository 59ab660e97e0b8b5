/- From the row's list of package variables, and the world's shape, to what the landed carry asks. -/
import Derived.Test.YtfhmfjcpggddkaaGreatDoorRows
import Derived.Test.YtfhmfjcpggddkaaGreatDoorM0
import Derived.Test.YtfhmfjcpggddkaaGreatDoorM8
import Derived.Test.YtfhmfjcpggddkaaGreatDoorM3
import Derived.Test.YtfhmfjcpggddkaaGreatDoorM5
import Derived.Test.YtfhmfjcpggddkaaGreatDoorM7
import Derived.Test.YtfhmfjcpggddkaaGreatDoorM4
import Derived.BigQuiet
import Derived.Deep.QuietTactic
import Derived.Laws.AppendOwnNone
import Derived.Test.YtfhmfjcpggddkaaGreatDoorM6
import Derived.Lib.LaidTab
import Derived.Lib.TrailingZeros
import Derived.Shelf.Vars
import Derived.Stop.LaidErr
import Derived.Test.YtfhmfjcpggddkaaGreatDoorM2
import Derived.MapKept
import Derived.Maps.OwnSet
import Derived.Maps.Ext
import Derived.Test.YtfhmfjcpggddkaaGreatDoorProg
import Derived.RangeFuncNested
import Derived.RangeFuncLeaves
import Derived.Shelf.Abstract
import Derived.Shelf.AbstractIn
import Derived.Sort.MapsRangeIn
import Derived.WalkKit
import Derived.OwnWalkIn
import Derived.TacticsInMore
import Derived.RegionIn
import Derived.LoopNIn
import Derived.LoopIn
set_option maxHeartbeats 20000000
set_option maxRecDepth 100000
namespace Go.Proofs.YtfhmfjcpggddkaaGreatDoor
open Go.RowKit
def conv2:List (String × List UInt8):=[
 ("strconv.ErrRange", [118, 97, 108, 117, 101, 32, 111, 117, 116, 32, 111, 102, 32, 114, 97, 110, 103, 101]),
 ("strconv.ErrSyntax", [105, 110, 118, 97, 108, 105, 100, 32, 115, 121, 110, 116, 97, 120])]
theorem gConv:∀x∈conv2,∃g,Tryz.prog.globalNamed x.1=some g∧(Tryz.prog.globals[g]?).map (·.type)=some 25:=by
 intro x hx
 simp only[conv2,List.mem_cons,List.not_mem_nil,or_false] at hx
 rcases hx with rfl|rfl
 ·exact⟨17,by kernel_rfl,by kernel_rfl⟩
 ·exact⟨16,by kernel_rfl,by kernel_rfl⟩
theorem mln_of {W:World}(h:W.ShapedOpen Tryz.prog):∃m,W.cell? ⟨10,0,none⟩=some (.int .i64 m) :=
 cell_of_shapedOpen_int (t:=3) (zero:=#[.int .i64 0]) h (of_decide_eq_true (by kernel_rfl)) (by kernel_rfl) rfl (by kernel_rfl) (by kernel_rfl) Tryz.underlying3
def brjI:List Int:=Lib.deBruijn64tab.map fun (n:Nat)=>((n:Nat):Int)
def tabs2 : List (String × DataW Unit) := [("math/bits.deBruijn64tab", Lib.tabData .u8 brjI), ("internal/strconv.uint64pow10", Lib.tabData .u64 Lib.pow10Tab)]
theorem tabs_of {W : World} {r : List (String × DataW Unit)} (h : laidMet Tryz.prog (tabs2 ++ r) W) : W.cell? ⟨15, 15, none⟩ = some (.int .u8 4) ∧ Lib.TabIs Tryz.prog W "internal/strconv.uint64pow10" .u64 Lib.pow10Tab := by
 have h1 : laidMet Tryz.prog (("math/bits.deBruijn64tab", Lib.tabData .u8 brjI) :: ("internal/strconv.uint64pow10", Lib.tabData .u64 Lib.pow10Tab) :: r) W := h
 have hg : Tryz.prog.globalNamed "math/bits.deBruijn64tab" = some 15 := by kernel_rfl
 have t1:=Lib.tabIs_of_head hg (t:=360) (by kernel_rfl) Tryz.underlying360 Tryz.underlying5 (by kernel_rfl) (by kernel_rfl) h1
 have t2 := Lib.tabIs_of_head (show Tryz.prog.globalNamed "internal/strconv.uint64pow10" = some 11 by kernel_rfl) (t := 318) (by kernel_rfl) Tryz.underlying318 Tryz.underlying63 (by kernel_rfl) (by kernel_rfl) (laidMet.tail h1)
 exact⟨t1.cell hg 15 (by decide),t2⟩
theorem conv_of {W:World}(h:laidMet Tryz.prog (sentList conv2) W):(∃te pe,W.cell? ⟨16,0,none⟩=some (.iface te pe))∧∃te pe,W.cell? ⟨17,0,none⟩=some (.iface te pe):=by
 obtain⟨ads,_,hc⟩:=sentCells h gConv
 exact⟨⟨_,_,hc 1 (by decide) 16 (by kernel_rfl)⟩,⟨_,_,hc 0 (by decide) 17 (by kernel_rfl)⟩⟩
def MapIs (W:World)(m:Nat)(es:List (ByteArray × Value)):Prop :=
 ∃arr clock,W.heap[m]?=some (.map arr clock)∧arr.toList.map (fun e=>(e.key,e.val))=es.map fun x=>(Value.string x.1,x.2)
theorem MapIs.same {W W':World}{m:Nat}{es:List (ByteArray × Value)}(h:MapIs W m es)(he:W'.heap[m]?=W.heap[m]?):MapIs W' m es:=by
 obtain⟨arr,c,h1,h2⟩:=h
 exact⟨arr,c,he.trans h1,h2⟩
theorem MapIs.lt {W:World}{m:Nat}{es:List (ByteArray × Value)}(h:MapIs W m es):m<W.heap.size:=by
 obtain⟨arr,c,h1,_⟩:=h
 rcases Nat.lt_or_ge m W.heap.size with h|h
 ·exact h
 ·rw[Array.getElem?_eq_none h] at h1
  cases h1
theorem mapKeys {l:List MapEntry}{es:List (ByteArray × Value)}(h:l.map (fun e=>(e.key,e.val))=es.map fun x=>(Value.string x.1,x.2)):∀x∈l,MapKept.IsKey .string x.key:=by
 intro x hx
 have:(x.key,x.val)∈es.map fun x=>(Value.string x.1,x.2):=by
  rw[←h]
  exact List.mem_map.2 ⟨x,hx,rfl⟩
 obtain⟨y,_,hy⟩:=List.mem_map.1 this
 injection hy with h1 _
 rw[←h1]
 simp[MapKept.IsKey]
theorem isKeyS (s:ByteArray):MapKept.IsKey .string (.string s):=by simp[MapKept.IsKey]
theorem MapIs.find {W:World}{m:Nat}{es:List (ByteArray × Value)}(h:MapIs W m es)(s:ByteArray) :
  ∃arr clock,W.heap[m]?=some (.map arr clock)∧((∃i v,Instr.findNow .string (.string s) arr.toList 0=some (some (i,v))∧(s,v)∈es)∨(Instr.findNow .string (.string s) arr.toList 0=some none∧∀v,(s,v)∉es)):=by
 obtain⟨arr,c,h1,h2⟩:=h
 refine⟨arr,c,h1,?_⟩
 rcases MapKept.findNow_spec (isKeyS s) arr.toList 0 (mapKeys h2) with⟨q1,q2⟩|⟨j,e,q1,q2,q3⟩
 ·refine Or.inr ⟨q1,fun v hv=>?_⟩
  have:(Value.string s,v)∈arr.toList.map (fun e=>(e.key,e.val)):=by
   rw[h2]
   exact List.mem_map.2 ⟨_,hv,rfl⟩
  obtain⟨x,hx,hy⟩:=List.mem_map.1 this
  injection hy with h3 _
  exact q2 x hx h3
 ·refine Or.inl ⟨0+j,e.val,q1,?_⟩
  have hm:e∈arr.toList:=List.mem_of_getElem? q2
  have:(e.key,e.val)∈es.map fun x=>(Value.string x.1,x.2):=by
   rw[←h2]
   exact List.mem_map.2 ⟨e,hm,rfl⟩
  obtain⟨y,hy,hz⟩:=List.mem_map.1 this
  injection hz with h3 h4
  rw[q3] at h3
  injection h3 with h3
  rw[←h4,←h3]
  exact hy
theorem MapIs.look {P:Program}{W:World}{m:Nat}{es:List (ByteArray × Value)}(h:MapIs W m es)(s:ByteArray){t kt et:TypeId}(ht:P.underlying t=some (.map kt et))(hk:P.underlying kt=some .string){z:Value}(hz:(zeroValue et).run P W=.ok z W) :
  (∃v,(s,v)∈es∧(Instr.lookup t (.map (some m)) (.string s) true).run P W=.ok (.tuple #[v,.bool true]) W)∨((∀v,(s,v)∉es)∧(Instr.lookup t (.map (some m)) (.string s) true).run P W=.ok (.tuple #[z,.bool false]) W):=by
 obtain⟨arr,c,h1,h2⟩:=h.find s
 have hc:∀b,(Instr.checkKey b 10000 kt (.string s)).run P W=.ok () W:=fun b=>MapKept.run_checkKey (k:=.string s) hk (isKeyS s) b 9999
 rcases h2 with⟨i,v,q1,q2⟩|⟨q1,q2⟩
 ·exact Or.inl ⟨v,q2,by simp[Instr.lookup,run_underlying ht,MapKept.run_getObj_map h1,hc,MapKept.run_findKey hk q1,Result.andThen]⟩
 ·exact Or.inr ⟨q2,by simp[Instr.lookup,run_underlying ht,MapKept.run_getObj_map h1,hc,MapKept.run_findKey hk q1,hz,Result.andThen]⟩
theorem MapIs.ins {P:Program}{w:World}{b:Nat}{es:List (ByteArray × Value)}(hM:MapIs w b es){t kt et:TypeId}(ht:P.underlying t=some (.map kt et))(hk:P.underlying kt=some .string)(s:ByteArray)(val:Value)(ks:List (List UInt8))(hks:es.map (fun x=>x.1.data.toList)=ks)(hnew:s.data.toList∉ks) :
  ∃w',(Instr.mapUpdate t (.map (some b)) (.string s) val).run P w=.ok () w'∧MapIs w' b (es++[(s,val)])∧Below b w w'∧w'.heap.size=w.heap.size:=by
 have hlt:=hM.lt
 obtain⟨arr,c,h1,h2⟩:=hM
 have hf:Instr.findNow .string (.string s) arr.toList 0=some none:=by
  rcases MapKept.findNow_spec (isKeyS s) arr.toList 0 (mapKeys h2) with⟨q1,_⟩|⟨j,e,q1,q2,q3⟩
  ·exact q1
  ·refine absurd ?_ hnew
   have hme:e∈arr.toList:=List.mem_of_getElem? q2
   have:(e.key,e.val)∈es.map fun x=>(Value.string x.1,x.2):=by
    rw[←h2]
    exact List.mem_map.2 ⟨e,hme,rfl⟩
   obtain⟨y,hy,hz⟩:=List.mem_map.1 this
   injection hz with h3 h4
   rw[q3] at h3
   injection h3 with h3
   rw[←hks,←h3]
   exact List.mem_map.2 ⟨y,hy,rfl⟩
 have hc:(Instr.checkKey false 10000 kt (.string s)).run P w=.ok () w:=MapKept.run_checkKey (k:=.string s) hk (isKeyS s) false 9999
 have hrun:(Instr.mapUpdate t (.map (some b)) (.string s) val).run P w=.ok () { w with heap:=w.heap.setIfInBounds b (.map (arr.push { key:=.string s,val:=val,born:=c }) (c+1)) }:=by
  simp[Instr.mapUpdate,run_underlying ht,MapKept.run_getObj_map h1,hc,MapKept.run_findKey hk hf,MapKept.run_setObj_map _ h1,Result.andThen]
 refine⟨_,hrun,⟨_,_,Array.getElem?_setIfInBounds_self_of_lt hlt,?_⟩,⟨rfl,rfl,rfl,by simp,fun k hk=>?_⟩,by simp⟩
 ·simp[h2]
 ·exact Array.getElem?_setIfInBounds_ne (by omega)
theorem mapIs_made (w:World):MapIs (w.alloc (.map #[] 0)) w.heap.size []:=⟨#[],0,(show (w.heap.push (.map #[] 0))[w.heap.size]?=_ from Array.getElem?_push_size),rfl⟩
end Go.Proofs.YtfhmfjcpggddkaaGreatDoor
namespace Go.Proofs.YtfhmfjcpggddkaaGreatDoor
namespace Lh
abbrev Hh:=ByteArray × Bool × Nat
def hix (l:List Hh)(s:ByteArray):Nat:=l.findIdx fun x=>decide (x.1=s)
def hedge (f r:Nat)(up:Bool):Nat:=if up then f else r
def hlook (f r:Nat)(x:Hh)(well:Bool):Hh × Bool :=
 if well=x.2.1 then ((x.1,x.2.1,0),false)
 else if hedge f r x.2.1≤x.2.2+1 then ((x.1,!x.2.1,0),true) else ((x.1,x.2.1,x.2.2+1),false)
def hups (l:List Hh):List ByteArray:=(l.filter fun x=>x.2.1).map fun x=>x.1
def hup (l:List Hh)(s:ByteArray):Bool:=l.any fun x=>decide (x.1=s) && x.2.1
structure HOk (f r:Nat)(l:List Hh):Prop where
 f1:1≤f
 f10:f≤10
 r1:1≤r
 r10:r≤10
 len:l.length≤12
 nodup:(l.map fun x=>x.1).Nodup
 size:∀x∈l,x.1.size≤300
 cnt:∀x∈l,x.2.2<hedge f r x.2.1
theorem hlook_name (f r:Nat)(x:Hh)(well:Bool):(hlook f r x well).1.1=x.1:=by
 unfold hlook
 split
 ·rfl
 ·split<;>rfl
theorem hedge_pos {f r:Nat}(hf:1≤f)(hr:1≤r)(up:Bool):0<hedge f r up:=by
 unfold hedge
 split<;>omega
theorem hedge_le {f r:Nat}(hf:f≤10)(hr:r≤10)(up:Bool):hedge f r up≤10:=by
 unfold hedge
 split<;>omega
theorem hlook_cnt {f r:Nat}(hf:1≤f)(hr:1≤r)(x:Hh)(well:Bool):(hlook f r x well).1.2.2<hedge f r (hlook f r x well).1.2.1:=by
 unfold hlook
 split
 ·exact hedge_pos hf hr _
 ·split
  ·exact hedge_pos hf hr _
  ·rename_i h
   show x.2.2+1<hedge f r x.2.1
   omega
theorem HOk.look {f r:Nat}{l:List Hh}(h:HOk f r l){i:Nat}(hi:i<l.length)(well:Bool):HOk f r (l.set i (hlook f r l[i] well).1):=by
 refine⟨h.f1,h.f10,h.r1,h.r10,by simpa using h.len,?_,fun x hx=>?_,fun x hx=>?_⟩
 ·have e:(l.set i (hlook f r l[i] well).1).map (fun x=>x.1)=l.map fun x=>x.1:=by
   rw[List.map_set,hlook_name]
   apply List.ext_getElem
   ·simp
   ·intro j h1 h2
    rw[List.getElem_set]
    split
    ·rename_i e
     subst e
     simp
    ·rfl
  rw[e]
  exact h.nodup
 ·rcases List.mem_or_eq_of_mem_set hx with hx|rfl
  ·exact h.size x hx
  ·rw[hlook_name]
   exact h.size _ (List.getElem_mem hi)
 ·rcases List.mem_or_eq_of_mem_set hx with hx|rfl
  ·exact h.cnt x hx
  ·exact hlook_cnt h.f1 h.r1 _ _
theorem hix_lt {l:List Hh}{s:ByteArray}:hix l s<l.length↔∃x∈l,x.1=s:=by
 unfold hix
 rw[List.findIdx_lt_length]
 simp
theorem hix_get {l:List Hh}{s:ByteArray}(h:hix l s<l.length):(l[hix l s]).1=s:=by
 have:=List.findIdx_getElem (xs:=l) (p:=fun x:Hh=>decide (x.1=s)) (w:=h)
 exact of_decide_eq_true this
theorem hix_first {l:List Hh}{s:ByteArray}{j:Nat}(hj:j<l.length)(h:j<hix l s):(l[j]).1≠s:=by
 have:=List.not_of_lt_findIdx h
 simpa using this
def hnew (xs:List ByteArray):List Hh:=xs.map fun s=>(s,true,0)
theorem hnew_ok {f r:Nat}{xs:List ByteArray}(hf1:1≤f)(hf:f≤10)(hr1:1≤r)(hr:r≤10)(hl:xs.length≤12)(hn:xs.Nodup)(hs:∀s∈xs,s.size≤300):HOk f r (hnew xs):=by
 refine⟨hf1,hf,hr1,hr,by simpa [hnew] using hl,?_,fun x hx=>?_,fun x hx=>?_⟩
 ·have e:(hnew xs).map (fun x=>x.1)=xs:=by simp[hnew,Function.comp_def]
  rw[e]
  exact hn
 ·obtain⟨s,h,rfl⟩:=List.mem_map.1 hx
  exact hs s h
 ·obtain⟨s,h,rfl⟩:=List.mem_map.1 hx
  exact hedge_pos hf1 hr1 _
end Lh
namespace Lh
def Prm (n:Nat):Prop:=2≤n∧∀k,2≤k→k<n→n % k≠0
def rowAt (A B n j:Nat):Nat:=(A % n+j*(B % (n - 1)+1)) % n
theorem prm_coprime {n s:Nat}(hp:Prm n)(h0:0<s)(hs:s<n):Nat.Coprime n s:=by
 have h1:=Nat.gcd_dvd_left n s
 have h2:=Nat.gcd_dvd_right n s
 have hle:=Nat.le_of_dvd h0 h2
 have hpos:0<Nat.gcd n s:=Nat.gcd_pos_of_pos_right _ h0
 rcases Nat.lt_or_ge (Nat.gcd n s) 2 with h|h
 ·show Nat.gcd n s=1
  omega
 ·exact absurd (Nat.mod_eq_zero_of_dvd h1) (hp.2 _ h (by omega))
theorem skip_lt {n B:Nat}(h:2≤n):B % (n - 1)+1<n:=by
 have:=Nat.mod_lt B (show n - 1 > 0 by omega)
 omega
theorem rowAt_lt {A B n j:Nat}(h:2≤n):rowAt A B n j<n:=Nat.mod_lt _ (by omega)
theorem rowAt_inj_le {A B n i j:Nat}(hp:Prm n)(hij:i≤j)(hj:j<n)(h:rowAt A B n j=rowAt A B n i):i=j:=by
 unfold rowAt at h
 have hs:=skip_lt (B:=B) hp.1
 have h0:0<B % (n - 1)+1:=Nat.succ_pos _
 generalize B % (n - 1)+1=s at h hs h0
 have h1:=Nat.sub_mod_eq_zero_of_mod_eq h
 have h2:A % n+j*s - (A % n+i*s)=s*(j - i):=by
  rw[Nat.add_sub_add_left,←Nat.sub_mul,Nat.mul_comm]
 rw[h2] at h1
 have hd:=Nat.Coprime.dvd_of_dvd_mul_left (prm_coprime hp h0 hs) (Nat.dvd_of_mod_eq_zero h1)
 rcases Nat.eq_zero_or_pos (j - i) with hz|hz
 ·omega
 ·have:=Nat.le_of_dvd hz hd
  omega
theorem rowAt_inj {A B n i j:Nat}(hp:Prm n)(hi:i<n)(hj:j<n)(h:rowAt A B n i=rowAt A B n j):i=j:=by
 rcases Nat.le_total i j with hle|hle
 ·exact rowAt_inj_le hp hle hj h.symm
 ·exact (rowAt_inj_le hp hle hi h).symm
theorem inj_surj (n:Nat)(f:Nat→Nat)(hlt:∀i,i<n→f i<n)(hinj:∀i j,i<n→j<n→f i=f j→i=j)(x:Nat)(hx:x<n):∃i,i<n∧f i=x:=by
 refine Decidable.byContradiction fun hno=>?_
 have hnd:((List.range n).map f).Nodup:=by
  refine List.pairwise_map.2 ?_
  refine List.Pairwise.imp_of_mem ?_ (List.nodup_range (n:=n))
  intro a b ha hb hab e
  exact hab (hinj a b (List.mem_range.1 ha) (List.mem_range.1 hb) e)
 have hsub:(List.range n).map f ⊆ (List.range n).erase x:=by
  intro y hy
  obtain⟨i,hi,rfl⟩:=List.mem_map.1 hy
  have hi':=List.mem_range.1 hi
  refine (List.mem_erase_of_ne ?_).2 (List.mem_range.2 (hlt i hi'))
  intro e
  exact hno ⟨i,hi',e⟩
 have:=hnd.length_le_of_subset hsub
 rw[List.length_erase_of_mem (List.mem_range.2 hx)] at this
 simp at this
 omega
def pick (out:List Int)(r:Nat→Nat)(n:Nat):Nat:=((List.range n).find? fun j=>decide (out.getD (r j) 0<0)).getD 0
theorem pick_spec {out:List Int}{r:Nat→Nat}{n:Nat}(h:∃j,j<n∧out.getD (r j) 0<0):pick out r n<n∧out.getD (r (pick out r n)) 0<0∧∀i,i<pick out r n→0≤out.getD (r i) 0:=by
 unfold pick
 cases hf:(List.range n).find? fun j=>decide (out.getD (r j) 0<0) with
 | none =>
  obtain⟨j,hj,hlt⟩:=h
  have:=List.find?_eq_none.1 hf j (List.mem_range.2 hj)
  exact absurd (decide_eq_true hlt) this
 | some j =>
  obtain⟨h1,h2,h3⟩:=List.find?_range_eq_some.1 hf
  refine⟨List.mem_range.1 h2,of_decide_eq_true h1,fun i hi=>?_⟩
  have:=h3 i hi
  simp at this
  simpa using this
theorem pick_unique {out:List Int}{r:Nat→Nat}{n j:Nat}(hj:j<n)(hf:out.getD (r j) 0<0)(hb:∀i,i<j→0≤out.getD (r i) 0):pick out r n=j:=by
 obtain⟨h1,h2,h3⟩:=pick_spec ⟨j,hj,hf⟩
 rcases Nat.lt_trichotomy (pick out r n) j with h|h|h
 ·have:=hb _ h;omega
 ·exact h
 ·have:=h3 _ h;omega
def step1 (n m:Nat)(rows:Nat→Nat→Nat)(vals:Nat→Int)(t:Nat)(out:List Int):List Int:=out.set (rows (t % m) (pick out (rows (t % m)) n)) (vals (t % m))
def fill (n m:Nat)(rows:Nat→Nat→Nat)(vals:Nat→Int):Nat→List Int
 | 0=>List.replicate n (-1)
 | t+1=>step1 n m rows vals t (fill n m rows vals t)
structure RowsOk (n m:Nat)(rows:Nat→Nat→Nat)(vals:Nat→Int):Prop where
 pos:0<m
 lt:∀k,k<m→∀j,j<n→rows k j<n
 inj:∀k,k<m→∀i j,i<n→j<n→rows k i=rows k j→i=j
 val:∀k,k<m→0≤vals k
theorem fill_length (n m:Nat)(rows:Nat→Nat→Nat)(vals:Nat→Int):∀t,(fill n m rows vals t).length=n
 | 0=>by simp[fill]
 | t+1=>by simp[fill,step1,fill_length n m rows vals t]
theorem getD_lt {out:List Int}{x:Nat}(h:x<out.length):out.getD x 0=out[x]:=by
 rw[List.getD_eq_getElem?_getD,List.getElem?_eq_getElem h];rfl
theorem fill_free {n m:Nat}{rows:Nat→Nat→Nat}{vals:Nat→Int}(hr:RowsOk n m rows vals):∀t,t≤n→(fill n m rows vals t).countP (fun v=>decide (v<0))=n - t
 | 0,_=>by simp[fill,List.countP_replicate]
 | t+1,ht=>by
  have ih:=fill_free hr t (by omega)
  have hl:=fill_length n m rows vals t
  have hk:t % m<m:=Nat.mod_lt _ hr.pos
  have hex:∃j,j<n∧(fill n m rows vals t).getD (rows (t % m) j) 0<0:=by
   have hpos:0<(fill n m rows vals t).countP (fun v=>decide (v<0)):=by omega
   obtain⟨v,hv,hv0⟩:=List.countP_pos_iff.1 hpos
   obtain⟨x,hx,rfl⟩:=List.getElem_of_mem hv
   obtain⟨j,hj,e⟩:=inj_surj n (rows (t % m)) (hr.lt _ hk) (hr.inj _ hk) x (by omega)
   refine⟨j,hj,?_⟩
   rw[e,getD_lt hx]
   exact of_decide_eq_true hv0
  obtain⟨h1,h2,_⟩:=pick_spec hex
  have hlt:rows (t % m) (pick (fill n m rows vals t) (rows (t % m)) n)<(fill n m rows vals t).length:=by rw[hl];exact hr.lt _ hk _ h1
  rw[getD_lt hlt] at h2
  show (step1 n m rows vals t (fill n m rows vals t)).countP _=_
  unfold step1
  rw[List.countP_set hlt,ih]
  have hv:=hr.val _ hk
  simp only[decide_eq_true h2,if_true]
  rw[if_neg (by simp;omega)]
  omega
theorem fill_pick {n m:Nat}{rows:Nat→Nat→Nat}{vals:Nat→Int}(hr:RowsOk n m rows vals){t:Nat}(ht:t<n){k:Nat}(hk:k<m):∃j,j<n∧(fill n m rows vals t).getD (rows k j) 0<0:=by
 have h:=fill_free hr t (by omega)
 have hl:=fill_length n m rows vals t
 have hpos:0<(fill n m rows vals t).countP (fun v=>decide (v<0)):=by omega
 obtain⟨v,hv,hv0⟩:=List.countP_pos_iff.1 hpos
 obtain⟨x,hx,rfl⟩:=List.getElem_of_mem hv
 obtain⟨j,hj,e⟩:=inj_surj n (rows k) (hr.lt _ hk) (hr.inj _ hk) x (by omega)
 refine⟨j,hj,?_⟩
 rw[e,getD_lt hx]
 exact of_decide_eq_true hv0
def turns (n m k:Nat):Nat:=(List.range n).countP fun t=>decide (t % m=k)
theorem fill_vals {n m:Nat}{rows:Nat→Nat→Nat}{vals:Nat→Int}(hm:0<m):∀t v,v∈fill n m rows vals t→v = -1∨∃k,k<m∧v=vals k
 | 0,v,h=>Or.inl (List.eq_of_mem_replicate h)
 | t+1,v,h=>by
  rcases List.mem_or_eq_of_mem_set h with h|h
  ·exact fill_vals hm t v h
  ·exact Or.inr ⟨t % m,Nat.mod_lt _ hm,h⟩
theorem pick_congr {o1 o2:List Int}{r:Nat→Nat}{n:Nat}(h:∀j,j<n→(o1.getD (r j) 0<0↔o2.getD (r j) 0<0)):pick o1 r n=pick o2 r n:=by
 unfold pick
 have:(List.range n).find? (fun j=>decide (o1.getD (r j) 0<0))=(List.range n).find? (fun j=>decide (o2.getD (r j) 0<0)):=by
  have:∀l:List Nat,(∀j∈l,j<n)→l.find? (fun j=>decide (o1.getD (r j) 0<0))=l.find? (fun j=>decide (o2.getD (r j) 0<0)):=by
   intro l
   induction l with
   | nil=>intro _;rfl
   | cons a t ih =>
    intro hl
    have e:decide (o1.getD (r a) 0<0)=decide (o2.getD (r a) 0<0):=decide_eq_decide.2 (h a (hl a (List.mem_cons_self ..)))
    rw[List.find?_cons,List.find?_cons,e,ih (fun j hj=>hl j (List.mem_cons_of_mem _ hj))]
  exact this _ (fun j hj=>List.mem_range.1 hj)
 rw[this]
def over (vals:Nat→Int)(v:Int):Int:=if v<0 then -1 else vals v.toNat
theorem fill_over {n m:Nat}{rows:Nat→Nat→Nat}{vals:Nat→Int}(hr:RowsOk n m rows vals):∀t,t≤n→fill n m rows vals t=(fill n m rows (fun k=>(k:Int)) t).map (over vals)
 | 0,_=>by simp[fill,over]
 | t+1,ht=>by
  have ih:=fill_over hr t (by omega)
  have hkt:t % m<m:=Nat.mod_lt _ hr.pos
  have hl0:=fill_length n m rows (fun k=>(k:Int)) t
  have key:∀x,x<n→((fill n m rows vals t).getD x 0<0↔(fill n m rows (fun k=>(k:Int)) t).getD x 0<0):=by
   intro x hx
   have hx0:x<(fill n m rows (fun k=>(k:Int)) t).length:=by rw[hl0];exact hx
   rw[ih,getD_lt (by simpa using hx0),getD_lt hx0,List.getElem_map]
   rcases fill_vals hr.pos t _ (List.getElem_mem hx0) with e|⟨k,hk,e⟩
   ·rw[e];simp[over]
   ·have:=hr.val k hk
    have e':over vals (fill n m rows (fun k=>(k:Int)) t)[x]=vals k:=by
     rw[e];simp only[over];rw[if_neg (by omega)];simp
    rw[e',e]
    omega
  have hp:=pick_congr (o1:=fill n m rows vals t) (o2:=fill n m rows (fun k=>(k:Int)) t) (r:=rows (t % m)) (n:=n) (fun j hj=>key _ (hr.lt _ hkt j hj))
  show step1 n m rows vals t (fill n m rows vals t)=(step1 n m rows (fun k=>(k:Int)) t (fill n m rows (fun k=>(k:Int)) t)).map (over vals)
  unfold step1
  rw[hp,List.map_set,ih]
  congr 1
theorem fill_full {n m:Nat}{rows:Nat→Nat→Nat}{vals:Nat→Int}(hr:RowsOk n m rows vals){x:Nat}(hx:x<n):∃k,k<m∧(fill n m rows (fun k=>(k:Int)) n).getD x 0=k∧(fill n m rows vals n).getD x 0=vals k:=by
 have hr0:RowsOk n m rows (fun k=>(k:Int)):=⟨hr.pos,hr.lt,hr.inj,fun k _=>by omega⟩
 have hl0:=fill_length n m rows (fun k=>(k:Int)) n
 have hx0:x<(fill n m rows (fun k=>(k:Int)) n).length:=by rw[hl0];exact hx
 have hfree:=fill_free hr0 n (Nat.le_refl _)
 rw[Nat.sub_self] at hfree
 have hge:=List.countP_eq_zero.1 hfree _ (List.getElem_mem hx0)
 rcases fill_vals hr.pos n _ (List.getElem_mem hx0) with e|⟨k,hk,e⟩
 ·rw[e] at hge;simp at hge
 ·refine⟨k,hk,by rw[getD_lt hx0,e],?_⟩
  rw[fill_over hr n (Nat.le_refl _),getD_lt (by simpa using hx0),List.getElem_map,e]
  simp only[over]
  rw[if_neg (by omega)]
  simp
end Lh
end Go.Proofs.YtfhmfjcpggddkaaGreatDoor
namespace Go.Proofs.YtfhmfjcpggddkaaGreatDoor
open Go.RowKit Go.Maps Go.ChangeMaps
def valF (x:Lh.Fl):Value:=.agg #[.int .u64 (x.1:Nat),.string x.2.1,.int .i64 x.2.2]
def datF (x:Lh.Fl):DataW Unit:=.agg [.lit (.int .u64 (x.1:Nat)),.lit (.string x.2.1.data.toList),.lit (.int .i64 x.2.2)]
def keyF (k:Nat):Lit:=.int .u64 (k:Nat)
def entF (x:Lh.Fl):Lit × DataW Unit:=(keyF x.1,datF x)
def FD (L:List Lh.Fl):DataW Unit:=.map (L.map entF)
def flElem (v:Value):Option (DataW Unit × List MemPlace) :=
 match v with
 | .agg a =>
  match a.toList with
  | [.int .u64 k,.string s,.int .i64 u]=>some (.agg [.lit (.int .u64 k),.lit (.string s.data.toList),.lit (.int .i64 u)],[])
  | _=>none
 | _=>none
theorem flElem_mk (x:Lh.Fl):flElem (valF x)=some (datF x,[]):=rfl
theorem flElem_any {v:Value}{z:DataW Unit × List MemPlace}(h:flElem v=some z):∃k s u,v=.agg #[.int .u64 k,.string s,.int .i64 u]∧z=(.agg [.lit (.int .u64 k),.lit (.string s.data.toList),.lit (.int .i64 u)],[]):=by
 unfold flElem at h
 split at h
 ·split at h
  ·rename_i a _ k s u e
   refine⟨k,s,u,?_,by injection h with h;exact h.symm⟩
   congr 1
   exact Array.toList_inj.1 e
  ·cases h
 ·cases h
theorem flElem_inv {v:Value}{x:Lh.Fl}{ps:List MemPlace}(h:flElem v=some (datF x,ps)):v=valF x:=by
 obtain⟨k,s,u,rfl,hz⟩:=flElem_any h
 simp only[datF,Prod.mk.injEq,DataW.agg.injEq,List.cons.injEq,DataW.lit.injEq,Lit.int.injEq,Lit.string.injEq,true_and,and_true] at hz
 obtain⟨⟨h1,h2,h3⟩,_⟩:=hz
 have h2':s=x.2.1:=by
  obtain⟨sd⟩:=s
  obtain⟨a,⟨td⟩,c⟩:=x
  simp only[ByteArray.mk.injEq]
  exact (Array.toList_inj.1 h2).symm
 rw[←h1,h2',←h3]
 rfl
theorem same_keyF (a b:Nat):(keyF a).sameKey (keyF b)=decide (a=b):=by
 simp only[keyF,Lit.sameKey,true_and]
 by_cases h:a=b
 ·simp[h]
 ·have:¬((a:Nat):Int)=(b:Nat):=by omega
  simp[h,this]
theorem before_keyF (a b:Nat):(keyF a).before (keyF b)=decide (a<b):=by
 simp only[keyF,Lit.before]
 by_cases h:a<b
 ·simp[h]
 ·simp[h]
theorem FD_size (L:List Lh.Fl):Maps.size (FD L)=L.length:=by simp[FD,Maps.size]
theorem find_entF (k:Nat):∀L:List Lh.Fl,(L.map entF).find? (fun p=>p.1.sameKey (keyF k))=(L.find? fun x=>decide (x.1=k)).map entF
 | []=>rfl
 | x :: L=>by
  rw[List.map_cons,List.find?_cons,List.find?_cons,show (entF x).1=keyF x.1 from rfl,same_keyF]
  by_cases h:x.1=k
  ·simp[h]
  ·simp only[h,decide_false]
   exact find_entF k L
theorem find_fix {L:List Lh.Fl}{k:Nat}(h:Lh.fix L k<L.length):(L.find? fun x=>decide (x.1=k))=some (L[Lh.fix L k]):=by
 unfold Lh.fix at h ⊢
 rw[←List.getElem?_eq_getElem h]
 exact (List.find?_eq_getElem?_findIdx).trans rfl
theorem find_nofix {L:List Lh.Fl}{k:Nat}(h:¬Lh.fix L k<L.length):(L.find? fun x=>decide (x.1=k))=none:=by
 rw[List.find?_eq_none]
 intro x hx he
 exact h (Lh.fix_lt.2 ⟨x,hx,by simpa using he⟩)
theorem FD_hit {L:List Lh.Fl}{k:Nat}(h:Lh.fix L k<L.length)(z:DataW Unit):(FD L).atKey (keyF k) z=datF (L[Lh.fix L k]):=by
 simp only[FD,DataW.atKey]
 rw[find_entF,find_fix h]
 rfl
theorem FD_miss {L:List Lh.Fl}{k:Nat}(h:¬Lh.fix L k<L.length)(z:DataW Unit):(FD L).atKey (keyF k) z=z:=by
 simp only[FD,DataW.atKey]
 rw[find_entF,find_nofix h]
 rfl
theorem FD_has (L:List Lh.Fl)(k:Nat):has (FD L) (keyF k)=decide (Lh.fix L k<L.length):=by
 simp only[FD,has]
 by_cases h:Lh.fix L k<L.length
 ·rw[decide_eq_true h,List.any_eq_true]
  obtain⟨x,hx,e⟩:=Lh.fix_lt.1 h
  exact⟨entF x,List.mem_map.2 ⟨x,hx,rfl⟩,by rw[show (entF x).1=keyF x.1 from rfl,same_keyF,e];simp⟩
 ·rw[decide_eq_false h,List.any_eq_false]
  intro p hp he
  obtain⟨x,hx,rfl⟩:=List.mem_map.1 hp
  rw[show (entF x).1=keyF x.1 from rfl,same_keyF] at he
  exact h (Lh.fix_lt.2 ⟨x,hx,by simpa using he⟩)
theorem filter_entF (p:Lh.Fl→Bool)(q:Lit × DataW Unit→Bool)(h:∀x,q (entF x)=p x)(L:List Lh.Fl):(L.map entF).filter q=(L.filter p).map entF:=by
 rw[List.filter_map]
 congr 1
 exact List.filter_congr fun x _=>h x
theorem FD_del (L:List Lh.Fl)(k:Nat):(FD L).del (keyF k)=FD (L.filter fun x=>!decide (x.1=k)):=by
 simp only[FD,DataW.del]
 rw[filter_entF (fun x=>!decide (x.1=k)) _ (fun x=>by rw[show (entF x).1=keyF x.1 from rfl,same_keyF])]
theorem insert_entF (x:Lh.Fl):∀L:List Lh.Fl,(∀y∈L,y.1≠x.1)→DataW.insert (entF x) (L.map entF)=(Lh.flay x L).map entF
 | [],_=>rfl
 | y :: L,h=>by
  have hy:=h y (by simp)
  rw[List.map_cons,DataW.insert,show (entF x).1=keyF x.1 from rfl,show (entF y).1=keyF y.1 from rfl,before_keyF]
  by_cases hlt:x.1<y.1
  ·have h2:decide (y.1<x.1)=false:=by simp;omega
   rw[if_pos (by simpa using hlt)]
   simp[Lh.flay,h2]
  ·have h2:decide (y.1<x.1)=true:=by simp;omega
   rw[if_neg (by simpa using hlt),insert_entF x L fun z hz=>h z (by simp[hz])]
   simp[Lh.flay,h2]
theorem FD_put (L:List Lh.Fl)(x:Lh.Fl):(FD L).put (keyF x.1) (datF x)=FD (Lh.flay x (L.filter fun y=>!decide (y.1=x.1))):=by
 simp only[FD,DataW.put]
 rw[filter_entF (fun y=>!decide (y.1=x.1)) _ (fun y=>by rw[show (entF y).1=keyF y.1 from rfl,same_keyF]),show (keyF x.1,datF x)=entF x from rfl,insert_entF]
 intro y hy
 have:=(List.mem_filter.1 hy).2
 simpa using this
theorem filter_erase:∀ {L:List Lh.Fl} {i:Nat} (_:L.Pairwise fun x y=>x.1<y.1) (hi:i<L.length),(L.filter fun y=>!decide (y.1=(L[i]).1))=L.eraseIdx i
 | y :: L,0,hp,hi=>by
  rw[List.pairwise_cons] at hp
  simp only[List.getElem_cons_zero,List.eraseIdx_zero,List.tail_cons]
  rw[List.filter_cons_of_neg (by simp),List.filter_eq_self]
  intro z hz
  have:=hp.1 z hz
  simp
  omega
 | y :: L,i+1,hp,hi=>by
  rw[List.pairwise_cons] at hp
  simp only[List.getElem_cons_succ,List.eraseIdx_cons_succ]
  have hi':i<L.length:=by simpa using hi
  have:=hp.1 (L[i]) (List.getElem_mem hi')
  rw[List.filter_cons_of_pos (by simp;omega),filter_erase hp.2 hi']
theorem filter_none {L:List Lh.Fl}{k:Nat}(h:¬Lh.fix L k<L.length):(L.filter fun y=>!decide (y.1=k))=L:=by
 rw[List.filter_eq_self]
 intro y hy
 have:y.1≠k:=fun e=>h (Lh.fix_lt.2 ⟨y,hy,e⟩)
 simp[this]
theorem filter_fix {L:List Lh.Fl}{k:Nat}(hp:L.Pairwise fun x y=>x.1<y.1)(h:Lh.fix L k<L.length):(L.filter fun y=>!decide (y.1=k))=L.eraseIdx (Lh.fix L k):=by
 rw[←filter_erase hp h,Lh.fix_get h]
theorem put_plain {L:List Lh.Fl}{k:Nat}(hp:L.Pairwise fun x y=>x.1<y.1)(h:Lh.fix L k<L.length∨L.length<200):(L.filter fun y=>!decide (y.1=k))=Lh.frest L k:=by
 unfold Lh.frest
 by_cases hf:Lh.fix L k<L.length
 ·rw[if_pos hf,filter_fix hp hf]
 ·rw[if_neg hf,if_neg (by omega),filter_none hf]
theorem put_full {L:List Lh.Fl}{k:Nat}(hf:¬Lh.fix L k<L.length)(h:200≤L.length):((L.eraseIdx (Lh.fleast L)).filter fun y=>!decide (y.1=k))=Lh.frest L k:=by
 unfold Lh.frest
 rw[if_neg hf,if_pos h,List.filter_eq_self]
 intro y hy
 have:y.1≠k:=fun e=>hf (Lh.fix_lt.2 ⟨y,(List.eraseIdx_sublist _ _).mem hy,e⟩)
 simp[this]
def leastTo (L:List Lh.Fl)(i:Nat):Nat:=(List.range i).foldl (fun b i=>if ((L.map fun x=>x.2.2).getD i 0)<((L.map fun x=>x.2.2).getD b 0) then i else b) 0
theorem leastTo_all (L:List Lh.Fl):leastTo L L.length=Lh.fleast L:=rfl
theorem leastTo_one (L:List Lh.Fl):leastTo L 1=0:=by simp[leastTo,List.range_succ]
theorem leastTo_succ (L:List Lh.Fl)(i:Nat):leastTo L (i+1)=if ((L.map fun x=>x.2.2).getD i 0)<((L.map fun x=>x.2.2).getD (leastTo L i) 0) then i else leastTo L i:=by
 simp[leastTo,List.range_succ,List.foldl_append]
theorem leastTo_lt (L:List Lh.Fl){i:Nat}(h:0<i):leastTo L i<i:=by
 unfold leastTo
 refine Lh.foldl_lt _ (fun b i=>?_) _ _ h fun j hj=>List.mem_range.1 hj
 split
 ·exact Or.inr rfl
 ·exact Or.inl rfl
theorem until_getD {L:List Lh.Fl}{i:Nat}(h:i<L.length):(L.map fun x=>x.2.2).getD i 0=(L[i]).2.2:=by
 rw[List.getD_eq_getElem?_getD,List.getElem?_map,List.getElem?_eq_getElem h]
 rfl
end Go.Proofs.YtfhmfjcpggddkaaGreatDoor
namespace Go.Proofs.YtfhmfjcpggddkaaGreatDoor
open Go.RowKit Go.Maps Go.ChangeMaps Go.Shelf
attribute [local go_sem] Oper.semAt_some
def Coll (L:List Lh.Fl)(left:Lit→Bool)(ps:List Lh.Fl):Prop:=ps.Nodup∧∀x,x∈ps↔(x∈L∧left (keyF x.1)=false)
theorem rise_inj {L:List Lh.Fl}(hp:L.Pairwise fun x y=>x.1<y.1){x y:Lh.Fl}(hx:x∈L)(hy:y∈L)(e:x.1=y.1):x=y:=by
 obtain⟨i,hi,rfl⟩:=List.getElem_of_mem hx
 obtain⟨j,hj,rfl⟩:=List.getElem_of_mem hy
 rcases Nat.lt_trichotomy i j with h|h|h
 ·have:=List.pairwise_iff_getElem.1 hp i j hi hj h
  omega
 ·subst h;rfl
 ·have:=List.pairwise_iff_getElem.1 hp j i hj hi h
  omega
theorem rise_nodup {L:List Lh.Fl}(hp:L.Pairwise fun x y=>x.1<y.1):L.Nodup:=hp.imp fun h e=>by subst e;omega
theorem Coll.start (L:List Lh.Fl):Coll L (has (FD L)) []:=by
 refine⟨List.nodup_nil,fun x=>?_⟩
 rw[FD_has]
 constructor
 ·intro h;cases h
 ·rintro ⟨h1,h2⟩
  have:=Lh.fix_lt.2 ⟨x,h1,rfl⟩
  simp[this] at h2
theorem Coll.step {L:List Lh.Fl}{left:Lit→Bool}{ps:List Lh.Fl}(hp:L.Pairwise fun x y=>x.1<y.1)(h:Coll L left ps){x:Lh.Fl}(hx:x∈L)(hl:left (keyF x.1)=true):Coll L (fun z=>left z && !z.sameKey (keyF x.1)) (ps++[x]):=by
 refine⟨?_,fun y=>?_⟩
 ·rw[List.nodup_append]
  refine⟨h.1,by simp,fun a ha b hb e=>?_⟩
  simp at hb
  subst hb
  subst e
  have:=((h.2 a).1 ha).2
  rw[this] at hl
  cases hl
 ·rw[List.mem_append,h.2 y,List.mem_singleton]
  simp only[same_keyF]
  constructor
  ·rintro (⟨h1,h2⟩|rfl)
   ·exact⟨h1,by rw[h2];rfl⟩
   ·exact⟨hx,by simp⟩
  ·rintro ⟨h1,h2⟩
   by_cases e:y.1=x.1
   ·exact Or.inr (rise_inj hp h1 hx e)
   ·simp[e] at h2
    exact Or.inl ⟨h1,h2⟩
theorem Coll.perm {L:List Lh.Fl}{left:Lit→Bool}{ps:List Lh.Fl}(hp:L.Pairwise fun x y=>x.1<y.1)(h:Coll L left ps)(hl:∀kl,left kl=false):ps.Perm L:=by
 rw[List.perm_ext_iff_of_nodup h.1 (rise_nodup hp)]
 intro x
 rw[h.2 x,hl]
 simp
theorem FD_at_all {L:List Lh.Fl}{kl:Lit}{yd:DataW Unit}(h:∀zd,(FD L).atKey kl zd=yd):∃x∈L,kl=keyF x.1∧yd=datF x:=by
 unfold FD DataW.atKey at h
 cases e:(L.map entF).find? (fun p=>p.1.sameKey kl) with
 | none =>
  simp only[e] at h
  have h1:=h .nil
  have h2:=h (.map [])
  rw[←h1] at h2
  cases h2
 | some p =>
  simp only[e] at h
  obtain⟨x,hx,rfl⟩:=List.mem_map.1 (List.mem_of_find?_eq_some e)
  have hk:(keyF x.1).sameKey kl=true:=List.find?_some (p:=fun p:Lit × DataW Unit=>p.1.sameKey kl) e
  exact⟨x,hx,(WideAt.sameKey_eq hk).symm,(h .nil).symm⟩
theorem u64Keyed:Keyed Tryz.prog 63:=int_keyed Tryz.underlying63
theorem valuesF_in (F:Fence)(n:Nat)(hf:F.fn 247)(hro:F.round=none)(_hn:1≤n)(l Bm b nn:Nat)(L:List Lh.Fl)(hp:L.Pairwise fun x y=>x.1<y.1)(J Jx:List Lh.Fl→World→Prop)
  (hY:∀pre x W,J pre W→pre.length<L.length→YieldAt F (n - 1) Tryz.prog l #[valF x] W fun e W' =>
   (e=.returned (.bool true)∧J (pre++[x]) W'∧KeepsWalks W W')∨(e=.returned (.bool false)∧Jx (pre++[x]) W'))
  (W:World) (hJ:AbidesFrom W.heap.size J) (hm:W.cell? ⟨Bm,0,none⟩=some (.map (some b))) (hown:W.ownsMap Tryz.prog 63 flElem b nn (FD L)) (h0:J [] W) :
  CallsIn F n Tryz.prog 247 #[.func (.yield l) #[] #[],.pointer (some ⟨Bm,0,none⟩)] W fun e W'=>(∃v,e=.returned v) ∧
   ((∃xs,xs.Perm L∧J xs W')∨(∃pre,True∧Jx pre W')):=by
 refine callsIn_of_wp Tryz.func247 rfl hf ?_ hro
 simp only[Tryz.ntmps247,List.size_toArray,List.length_cons,List.length_nil,Nat.reduceAdd,Nat.reduceSub,Array.replicate_succ,Array.replicate_zero,List.push_toArray,List.append_toArray,List.nil_append,List.cons_append]
 gi_wp2_with (first
  | (gi_at_range;refine wpListIn_range_own _ rfl _ 251 rfl 63 80 u64Keyed Tryz.underlying251 flElem b nn _ rfl hown ?_;intro w0 hrg0 hg0 hs0)
  | gi_in)
 go_frame
 gi_loopw [4] (fun _ wr=>∃(left:Lit→Bool) (cnt:Nat) (ps:List Lh.Fl),wr.ranges Tryz.prog 63 flElem b W.heap.size nn (FD L) left cnt∧ps.length+cnt≤L.length∧Coll L left ps∧J ps wr)
  (fun _ wr=>wr.rangeLeft b W.heap.size)
 case atStart =>
  exact⟨_,_,[],hrg0,by rw[FD_size];simp,Coll.start L,hJ [] W w0 none h0 hg0 (fun r e=>by cases e)⟩
 case round =>
  obtain⟨left,cnt,ps,hrg,hcs,hC,hJs⟩:=hrel
  gi_wp2_with (first
   | (gi_at_next;refine wpListIn_next_ranges _ rfl _ rfl 63 u64Keyed flElem id id (fun key _ _=>⟨key,rfl⟩) (fun v _ _=>⟨v,rfl⟩) b W.heap.size nn _ _ _ rfl hrg ?_ ?_)
   | gi_in)
  ·intro hc0 hl0
   gi_wp2
   go_end0
   exact⟨⟨_,rfl⟩,.inl ⟨ps,hC.perm hp hl0,hJs⟩⟩
  ·intro key c kl yd yp w2 cnt2 hkey hlk hv hat hrg2 hlt hg2 hs2 hen
   obtain⟨x,hx,rfl,rfl⟩:=FD_at_all hat
   obtain rfl:c=valF x:=flElem_inv hv
   have hJ2:J ps w2:=hJ ps wr w2 (some W.heap.size) hJs hg2 (fun r e=>by cases e;exact⟨Nat.le_refl _,hrg.iter_walk⟩)
   have hC2:=hC.step hp hx hlk
   have hlen:ps.length<L.length:=by omega
   clear hs2 hv hat hkey hC hlk
   have hga:=World.grownBy_alloc w2 (.cells #[.int .u64 (x.1:Nat),.string x.2.1,.int .i64 x.2.2] 80) none
   obtain⟨fn,tmps,assign,body,hy,hR⟩:=hY ps x _ (hJ ps w2 _ none hJ2 hga (fun r e=>by cases e)) hlen
   have hrg3:=hrg2.kept hga (by simp) (by simp)
   clear hJ2 hY
   unfold valF at hen hy
   gi_wp2
   refine hR.mono ?_
   rintro e W3 (⟨rfl,hJ3,hk3⟩|⟨rfl,hJx3⟩)
   ·gi_wp2
    have hrg4:=hrg3.of_walks hk3
    go_roundw
    case rel=>exact⟨_,cnt2,ps++[x],hrg4,by simp;omega,hC2,hJ3⟩
    case measure=>rw[hrg4.left_eq,hrg.left_eq];exact hlt
   ·gi_wp2
    refine bodyPost_ret (results_none rfl _ _ _) rfl ?_
    exact⟨⟨_,rfl⟩,.inr ⟨ps++[x],trivial,hJx3⟩⟩
theorem valuesF_stops (F:Fence)(n:Nat)(hf:F.fn 247)(hro:F.round=none)(hn:1≤n)(Bm b nn:Nat)(L:List Lh.Fl)(hp:L.Pairwise fun x y=>x.1<y.1)(w:World)(hB:Bm<w.heap.size)
  (hm:w.cell? ⟨Bm,0,none⟩=some (.map (some b))) (hown:w.ownsMap Tryz.prog 63 flElem b nn (FD L)) :
  SeqStopsK F n Tryz.prog 247 #[.pointer (some ⟨Bm,0,none⟩)] (fun x:Lh.Fl=>#[valF x]) KeepsWalks (fun xs=>xs.Perm L) (fun _=>True) L.length w:=fun l J Jx W hW hJ _ hY h0 =>
 valuesF_in F n hf hro hn l Bm b nn L hp J Jx hY W hJ ((hW.cell (p:=⟨Bm,0,none⟩) hB).trans hm) (by
  obtain⟨es,clock,hb,Ft,hs,hD⟩:=hown
  exact⟨es,clock,(hW.block b (Array.getElem?_eq_some_iff.1 hb).1).trans hb,Ft,hs,hD⟩) h0
theorem valuesF_call (F:Fence)(n:Nat)(hf:F.fn 201)(hro:F.round=none)(mb:Option Nat)(w:World) :
  CallsIn F n Tryz.prog 201 #[.map mb] w fun e w'=>e=.returned (.func (.func 247) #[] #[.pointer (some ⟨w.heap.size,0,none⟩)])∧w'=w.alloc (.cells #[.map mb] 251):=by
 refine callsIn_of_wp Tryz.func201 rfl hf ?_ hro
 simp only[Tryz.ntmps201,List.size_toArray,List.length_cons,List.length_nil,Nat.reduceAdd,Nat.reduceSub,Array.replicate_succ,Array.replicate_zero,List.push_toArray,List.append_toArray,List.nil_append,List.cons_append]
 gi_wp2
 go_ret
 exact⟨rfl,rfl⟩
end Go.Proofs.YtfhmfjcpggddkaaGreatDoor
