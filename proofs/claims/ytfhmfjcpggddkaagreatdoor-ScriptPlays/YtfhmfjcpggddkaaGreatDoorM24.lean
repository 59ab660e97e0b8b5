/- slices.Collect of the flows that an iterator gives. -/
import Derived.Test.YtfhmfjcpggddkaaGreatDoorM9
import Derived.Test.YtfhmfjcpggddkaaGreatDoorM5
import Derived.Maps.AppendAt
import Derived.Test.YtfhmfjcpggddkaaGreatDoorM22
import Derived.Test.YtfhmfjcpggddkaaGreatDoorFlSrt
import Derived.Test.YtfhmfjcpggddkaaGreatDoorM17
set_option maxHeartbeats 20000000
set_option maxRecDepth 100000
namespace Go.Proofs.YtfhmfjcpggddkaaGreatDoor
open Go.RowKit Go.Maps Go.ChangeMaps Go.Shelf
attribute [local go_sem] Oper.semAt_some
theorem infoFw:(Tryz.prog.info? 80).map (fun i=>(i.zero,i.size,i.bytes))=some (some (.agg #[.int .u64 0,.string ⟨#[]⟩,.int .i64 0]),3,32):=by kernel_rfl
def Cell3 (W:World)(B:Nat)(x:Lh.Fl):Prop:=W.heap[B]?=some (.cells #[.int .u64 (x.1:Nat),.string x.2.1,.int .i64 x.2.2] 80 (0,0))
theorem Cell3.own (B:Nat)(x:Lh.Fl):Own (fun (_:Unit) W=>Cell3 W B x):=fun _ X Y row hs hg hrow =>
 (hg.block B (Array.getElem?_eq_some_iff.1 hs).1 (fun e'=>by
  obtain⟨o,ho,hc⟩:=hrow B e'.symm
  rw[show X.heap[B]?=_ from hs] at ho;cases ho;cases hc)).trans hs
theorem cells3_new {w:World}{t:TypeId}(x:Lh.Fl):∀j u,(encF x)[j]?=some u→(w.alloc (.cells #[.int .u64 (x.1:Nat),.string x.2.1,.int .i64 x.2.2] t)).cell? ((⟨w.heap.size,0,none⟩:Addr).add j)=some u:=by
 intro j u hu
 match j with
 | 0=>simp[encF] at hu;subst hu;simp[Addr.add]
 | 1=>simp[encF] at hu;subst hu;simp[Addr.add]
 | 2=>simp[encF] at hu;subst hu;simp[Addr.add]
 | j+3=>simp[encF] at hu
theorem encF_ones (x:Lh.Fl):∀u∈encF x,u.oneCell'=true:=by
 intro u hu
 simp[encF] at hu
 rcases hu with rfl|rfl|rfl<;>rfl
theorem flatF_snocs (L:List Lh.Fl)(x:Lh.Fl):flatF (L++[x])=flatF L++encF x:=by rw[flatF_append];simp[flatF]
theorem appendSeqF_in (F:Fence)(n:Nat)(h11:F.fn 246)(hro:F.round=none)(hn:2≤n)(g:Nat)(lb:Array Value)(hFg:F.fn g)(eg:∀args w,(callFunc g args).run Tryz.prog w=.ok (.enter g args) w)
  (S:List Lh.Fl→Prop) (N:Nat) (hN:N≤1000) (w:World) (hseq:SeqStopsK F (n - 1) Tryz.prog g lb (fun x:Lh.Fl=>#[valF x]) KeepsWalks S (fun _=>True) N w) :
  CallsIn F n Tryz.prog 246 #[.slice none 0 0,.func (.func g) #[] lb] w fun e w'=>∃(v:Value) (ss:List Lh.Fl),e=.returned v∧S ss∧w'.ownsRow w.heap.size 80 3 v ss.length (flatF ss)∧Below w.heap.size w w':=by
 have h1:1≤n:=by omega
 obtain⟨i0,hi,hz0,hz1,hz2⟩:=info_parts infoFw
 refine callsIn_of_wp_marks Tryz.func246 rfl h11 ?_ hro
 simp only[Tryz.ntmps246,List.size_toArray,List.length_cons,List.length_nil,Nat.reduceAdd,Nat.reduceSub,Array.replicate_succ,Array.replicate_zero,List.push_toArray,List.append_toArray,List.nil_append,List.cons_append]
 gi_wp2
 have bS:=Boxed.new w 76 (.slice none 0 0)
 have hb0:Below w.heap.size w (w.alloc (.cells #[.slice none 0 0] 76)):=(Below.refl _ w).alloc (Nat.le_refl _) _
 obtain⟨W0,hW0⟩:∃W0,w.alloc (.cells #[.slice none 0 0] 76)=W0:=⟨_,rfl⟩
 have hsz:W0.heap.size=w.heap.size+1:=by rw[←hW0];simp
 rw[hW0] at bS hb0 ⊢
 refine wpIn_rangeFunc_ownH hro h1 (gf:=g) (lb:=lb) rfl hFg eg hseq walksK_t walksK_b hb0 (fun _=>rfl)
  (fun pre W=>(∃v,Boxed W w.heap.size 76 v∧W.ownsRow w.heap.size 80 3 v pre.length (flatF pre)∧True)∧Below w.heap.size w W)
  (fun _ _ _=>False)
  (OwnFrom.and (Own.from (holdsRow_own w.heap.size w.heap.size 76 80 3 (fun pre:List Lh.Fl=>pre.length) (fun pre=>flatF pre) (fun _ _=>True)) _) (ownFrom_below (Nat.le_refl _) (by omega)))
  (fun _ _ _ _ _ hs _ _=>hs)
  ⟨⟨_,bS,World.ownsRow_nil ..,trivial⟩,hb0⟩
  (fun x a' W=>∃Bx,w.heap.size<Bx∧Cell3 W Bx x∧a'={ tmps:=#[.slice none 0 0,.func (.func g) #[] lb,.pointer (some ⟨w.heap.size,0,none⟩),undef,.slice none 0 0,.pointer (some ⟨Bx,0,none⟩),.func (.func g) #[] lb,.agg #[.int .u64 (x.1:Nat),.string x.2.1,.int .i64 x.2.2],undef,undef,undef,undef,undef],defers:=[] })
  ?hAx ?assign ?body ?done ?stop
 case hAx =>
  intro x a' s X Y row hs hg hr
  obtain⟨Bx,h1,h2,h3⟩:=hs
  exact⟨Bx,h1,(Cell3.own Bx x) () X Y row h2 hg (fun r e=>(hr r e).2),h3⟩
 case assign =>
  rintro l pre x W K ⟨⟨v,hv,hrow,_⟩,hB⟩ hK
  have hBl:=hv.lt
  unfold valF
  gi_wp2
  refine hK _ _ ((KeepsOthers.alloc _ _).from _) (KeepsWalks.alloc _ _) ⟨⟨v,hv.alloc _,hrow.alloc _,trivial⟩,hB.alloc hB.size _⟩ ⟨W.heap.size,hBl,World.alloc_heap_new _ _,rfl⟩
 case body =>
  rintro l pre x a' W hl ⟨r,hr⟩ ⟨⟨v,hv,hrow,_⟩,hB⟩ ⟨Bx,hBx,bX,rfl⟩ hlt
  have hc:=hv.cell
  have hf:=hv.frozen
  have x0:W.cell? ⟨Bx,0,none⟩=some (.int .u64 (x.1:Nat)):=by simp[World.cell?,show W.heap[Bx]?=_ from bX]
  have x1:W.cell? ⟨Bx,1,none⟩=some (.string x.2.1):=by simp[World.cell?,show W.heap[Bx]?=_ from bX]
  have x2:W.cell? ⟨Bx,2,none⟩=some (.int .i64 x.2.2):=by simp[World.cell?,show W.heap[Bx]?=_ from bX]
  clear bX hseq
  gi_wp2_with (gi_at_builtin;refine wpListIn_append_own _ rfl _ _ 76 rfl w.heap.size 80 i0 (.agg #[.int .u64 0,.string ⟨#[]⟩,.int .i64 0]) 3 32 Tryz.underlying76 hi hz0 hz1 hz2 rfl (by decide) _ _ _ rfl (hrow.alloc _) ⟨W.heap.size,0,none⟩ 1 1 (encF x) rfl rfl (cells3_new x) (encF_ones x) (by unfold maxLen;omega) (by omega) (by have:=hB.size;simp;omega) ?_;intro v' w1 hown' hgrow _;obtain⟨g',cap',rfl⟩:=ownsRow_succ hown';obtain⟨hv1,hv2,hr2,hk2,hb2⟩:=hv.appended (by decide) hrow hB.size (Nat.le_refl _) hown' hgrow;have hc1:=hv1.cell;have hf1:=hv1.frozen)
  refine⟨hk2.from _,⟨hk2.size,fun k o h hw=>hk2.same k o h (Obj.not_cells_of_walk hw)⟩,⟨_,hv2,?_,trivial⟩,hB.trans hb2⟩
  rw[flatF_snocs,List.length_append]
  exact hr2
 case done =>
  rintro D ss W hD hS ⟨⟨v,hv,hrow,_⟩,hB⟩ hK
  have hc:=hv.cell
  gi_wp2
  refine⟨by simp,.inl ⟨_,_,rfl,run_takeDeferred hK,?_⟩⟩
  exact⟨_,results_tmp rfl _ _ _,v,ss,rfl,hS,ownsRow_putObj hrow _ hK rfl,hB.trans (belowK_b (w:=w) (Nat.le_refl _) W D _ _ (by omega) hK rfl rfl)⟩
 case stop =>
  rintro D c pre W _ _ h _
  exact h.elim
theorem collectF_in (F:Fence)(n:Nat)(h8:F.fn 200)(h11:F.fn 246)(hro:F.round=none)(hn:3≤n)(g:Nat)(lb:Array Value)(hFg:F.fn g)(eg:∀args w,(callFunc g args).run Tryz.prog w=.ok (.enter g args) w)
  (S:List Lh.Fl→Prop) (N:Nat) (hN:N≤1000) (w:World) (hseq:SeqStopsK F (n - 1 - 1) Tryz.prog g lb (fun x:Lh.Fl=>#[valF x]) KeepsWalks S (fun _=>True) N w) :
  CallsIn F n Tryz.prog 200 #[.func (.func g) #[] lb] w fun e w'=>∃(v:Value) (ss:List Lh.Fl),e=.returned v∧S ss∧w'.ownsRow w.heap.size 80 3 v ss.length (flatF ss)∧Below w.heap.size w w':=by
 have h1:1≤n:=by omega
 have hA:=appendSeqF_in F (n - 1) h11 hro (by omega) g lb hFg eg S N hN w hseq
 refine callsIn_of_wp Tryz.func200 rfl h8 ?_ hro
 simp only[Tryz.ntmps200,List.size_toArray,List.length_cons,List.length_nil,Nat.reduceAdd,Nat.reduceSub,Array.replicate_succ,Array.replicate_zero,List.push_toArray,List.append_toArray,List.nil_append,List.cons_append]
 gi_wp2_with (gi_at_call 246;refine hA.mono ?_;rintro e w' ⟨v,ss,rfl,hS,hrow,hb⟩)
 go_ret
 exact⟨v,ss,rfl,hS,hrow,hb⟩
end Go.Proofs.YtfhmfjcpggddkaaGreatDoor
namespace Go.Proofs.YtfhmfjcpggddkaaGreatDoor
open Go.RowKit Go.Sort Go.Shelf Go.Lib
def cmpI (x y:Int):Int:=if x<y then -1 else if y<x then 1 else 0
theorem nanI (x:Int)(W:World):Calls Tryz.prog 279 #[.int .i64 x] W fun e w'=>e=.returned (.bool false)∧w'=W:=by
 go_enter Tryz.func279,Tryz.ntmps279
 go_wp2
 go_ret
 exact⟨by simp,rfl⟩
theorem compareI (x y:Int)(W:World):Calls Tryz.prog 245 #[.int .i64 x,.int .i64 y] W fun e w'=>e=.returned (.int .i64 (cmpI x y))∧w'=W:=by
 unfold cmpI
 by_cases h1:x<y
 ·have e1:decide (x<y)=true:=by simpa using h1
  rw[if_pos h1]
  go_enter Tryz.func245,Tryz.ntmps245
  go_wp2_with (first|(refine (nanI _ _).mono ?_;rintro e w' ⟨rfl,rfl⟩)|fail)
  go_ret
  exact⟨rfl,rfl⟩
 ·have e1:decide (x<y)=false:=by simpa using h1
  rw[if_neg h1]
  by_cases h2:y<x
  ·have e2:decide (y<x)=true:=by simpa using h2
   rw[if_pos h2]
   go_enter Tryz.func245,Tryz.ntmps245
   go_wp2_with (first|(refine (nanI _ _).mono ?_;rintro e w' ⟨rfl,rfl⟩)|fail)
   go_ret
   exact⟨rfl,rfl⟩
  ·have e2:decide (y<x)=false:=by simpa using h2
   rw[if_neg h2]
   go_enter Tryz.func245,Tryz.ntmps245
   go_wp2_with (first|(refine (nanI _ _).mono ?_;rintro e w' ⟨rfl,rfl⟩)|fail)
   go_ret
   exact⟨rfl,rfl⟩
def cfK (x y:Lh.Fl):Int:=cmpU x.1 y.1
def cfUn (x y:Lh.Fl):Int:=cmpI x.2.2 y.2.2
theorem grow_two (x y:Lh.Fl)(W:World):((W.alloc (.cells #[.int .u64 (x.1:Nat),.string x.2.1,.int .i64 x.2.2] 80)).alloc (.cells #[.int .u64 (y.1:Nat),.string y.2.1,.int .i64 y.2.2] 80))=grow (W.drewN 0) #[.cells #[.int .u64 (x.1:Nat),.string x.2.1,.int .i64 x.2.2] 80,.cells #[.int .u64 (y.1:Nat),.string y.2.1,.int .i64 y.2.2] 80]:=by rw[alloc_eq_grow,alloc_eq_grow,grow_grow];rfl
theorem closureK (x y:Lh.Fl)(W:World):Calls Tryz.prog 203 #[.agg #[.int .u64 (x.1:Nat),.string x.2.1,.int .i64 x.2.2],.agg #[.int .u64 (y.1:Nat),.string y.2.1,.int .i64 y.2.2]] W fun e w'=>e=.returned (.int .i64 (cfK x y))∧∃q os',w'=grow (W.drewN q) os':=by
 have hU:=fun W'=>compareU x.1 y.1 W'
 have HS:Hid _:=grow_two x y W
 unfold cfK
 generalize cmpU x.1 y.1=u at *
 go_enter Tryz.func203,Tryz.ntmps203
 go_wp2_with fail
 refine (hU _).mono ?_
 rintro e w' ⟨rfl,rfl⟩
 go_wp2
 go_ret
 exact⟨rfl,0,_,HS.out⟩
theorem closureU (x y:Lh.Fl)(W:World):Calls Tryz.prog 244 #[.agg #[.int .u64 (x.1:Nat),.string x.2.1,.int .i64 x.2.2],.agg #[.int .u64 (y.1:Nat),.string y.2.1,.int .i64 y.2.2]] W fun e w'=>e=.returned (.int .i64 (cfUn x y))∧Below W.heap.size W w':=by
 have hU:=fun W'=>compareI x.2.2 y.2.2 W'
 have hb:Below W.heap.size W ((W.alloc (.cells #[.int .u64 (x.1:Nat),.string x.2.1,.int .i64 x.2.2] 80)).alloc (.cells #[.int .u64 (y.1:Nat),.string y.2.1,.int .i64 y.2.2] 80)):=((Below.refl _ _).alloc (Nat.le_refl _) _).alloc (by simp) _
 unfold cfUn
 generalize cmpI x.2.2 y.2.2=u at *
 go_enter Tryz.func244,Tryz.ntmps244
 go_wp2_with fail
 refine (hU _).mono ?_
 rintro e w' ⟨rfl,rfl⟩
 go_wp2
 go_ret
 exact⟨rfl,hb⟩
def FlsAt (W:World)(g:Nat)(L:List Lh.Fl):Prop:=∀i (h:i<L.length),W.cell? ⟨g,i*3,none⟩=some (.int .u64 (L[i].1:Nat))∧W.cell? ⟨g,i*3+1,none⟩=some (.string L[i].2.1)∧W.cell? ⟨g,i*3+2,none⟩=some (.int .i64 L[i].2.2)
theorem fls_of_owns {w:World}{base:Nat}{v:Value}{e:TypeId}{L:List Lh.Fl}(h:w.ownsRow base e 3 v L.length (flatF L))(h0:0<L.length):∃g cap,v=.slice (some ⟨g,0,none⟩) L.length cap∧base≤g∧g<w.heap.size∧L.length≤cap∧FlsAt w g L∧∀k,w.frozen? ⟨g,k,none⟩=false:=by
 obtain⟨hl,⟨rfl,h'⟩|⟨g,cap,cur,rfl,hbase,hb,hn,hm,hsz,ht⟩⟩:=h
 ·omega
 ·have hlt:g<w.heap.size:=(Array.getElem?_eq_some_iff.1 hb).1
  refine⟨g,cap,rfl,hbase,hlt,hn,fun i hi=>?_,fun k=>by simp[World.frozen?,hb]⟩
  obtain⟨h1,h2,h3⟩:=flatF_get L i hi
  rw[←ht] at h1 h2 h3
  rw[List.getElem?_take_of_lt (by omega)] at h1 h2 h3
  simp only[World.cell?,hb]
  exact⟨by simpa using h1,by simpa using h2,by simpa using h3⟩
theorem holds_of_fls {w:World}{g:Nat}{L:List Lh.Fl}(h:FlsAt w g L)(hf:∀k,w.frozen? ⟨g,k,none⟩=false):HoldsK encF 3 w g 0 L.toArray:=by
 intro t ht
 have ht':t<L.length*3:=by simpa using ht
 have hi:t / 3<L.length:=by omega
 refine⟨?_,hf _⟩
 rw[get_flatK _ _ _ _ (by simpa using ht')]
 have e:(L.toArray[t / 3]!)=L[t / 3]:=by simp[hi]
 rw[e]
 obtain⟨h1,h2,h3⟩:=h (t / 3) hi
 have hm:t % 3=0∨t % 3=1∨t % 3=2:=by omega
 rcases hm with hm|hm|hm
 ·rw[hm,show 0+t=t / 3*3 by omega,h1]
  rfl
 ·rw[hm,show 0+t=t / 3*3+1 by omega,h2]
  rfl
 ·rw[hm,show 0+t=t / 3*3+2 by omega,h3]
  rfl
theorem fls_of_holds {w:World}{g:Nat}{L:List Lh.Fl}(h:HoldsK encF 3 w g 0 L.toArray):FlsAt w g L:=by
 intro i hi
 have h1:=(h.cell (i:=i) (c:=0) (by simpa using hi) (by omega)).1
 have h2:=(h.cell (i:=i) (c:=1) (by simpa using hi) (by omega)).1
 have h3:=(h.cell (i:=i) (c:=2) (by simpa using hi) (by omega)).1
 have e:(L.toArray[i]!)=L[i]:=by simp[hi]
 rw[e] at h1 h2 h3
 simp only[Nat.zero_add,Nat.add_zero] at h1 h2 h3
 exact⟨h1,h2,h3⟩
theorem grownBy_sortedFl {w:World}{g n:Nat}{os:Array Obj}(d:Array Lh.Fl):w.grownBy (sortWorldK encF 3 w g 0 n d os) (some g):=by
 unfold sortWorldK putRowK
 refine⟨rfl,rfl,rfl,by simp,fun k hk hne=>?_⟩
 rw[heap_grow_old _ _ (by simpa using hk)]
 have:g≠k:=fun e=>hne (by rw[e])
 simp[putRow,mapBlock,Sort.ahead,Array.getElem?_modify,this]
theorem sortedFl_holds {w:World}{g n:Nat}{os:Array Obj}{d0 d:Array Lh.Fl}(hg:g<w.heap.size)(h:HoldsK encF 3 w g 0 d0)(hs:d.size=d0.size):HoldsK encF 3 (sortWorldK encF 3 w g 0 n d os) g 0 d:=by
 unfold sortWorldK
 exact holdsK_grow _ _ _ _ _ _ _ (by simp[putRowK,putRow,mapBlock,Sort.ahead];exact hg) (holdsK_putRowK _ _ _ _ _ d0 d h hs)
theorem ltK_iff (x y:Lh.Fl):ltOf cfK x y=decide (x.1<y.1):=by
 unfold ltOf cfK cmpU
 by_cases h1:x.1<y.1
 ·simp[h1]
 ·by_cases h2:y.1<x.1<;>simp[h1,h2]
theorem swoK:SWO (ltOf cfK) where
 irrefl x:=by rw[ltK_iff];simp
 trans x y z h1 h2:=by
  rw[ltK_iff] at *
  simp at *
  omega
 ntrans x y z h1 h2:=by
  rw[ltK_iff] at *
  simp at *
  omega
theorem cmpLaysK (blk off size:Nat)(w:World):CmpLays Tryz.prog 203 #[] encF 3 cfK blk off size w:=fun _ _ _ _ x y=>closureK x y _
theorem sorted_is {L:List Lh.Fl}(hp:L.Pairwise fun x y=>x.1<y.1){M:List Lh.Fl}(hM:M.Perm L){d':Array Lh.Fl}(h1:PermIn 0 M.toArray.size M.toArray d')(h2:SortedIn (ltOf cfK) 0 M.toArray.size d'):d'.toList=L:=by
 have hd:d'.toList.Perm L:=by
  obtain⟨hs,_,hpm⟩:=h1
  refine List.Perm.trans ?_ hM
  have e1:d'.extract 0 M.toArray.size=d':=by rw[←hs];simp
  have e2:M.toArray.extract 0 M.toArray.size=M.toArray:=by simp
  rw[e1,e2] at hpm
  simpa using hpm
 have hs:d'.size=M.length:=by have:=hd.length_eq;have:=hM.length_eq;simp at *;omega
 have hle:d'.toList.Pairwise fun x y=>x.1≤y.1:=by
  rw[List.pairwise_iff_getElem]
  intro i j hi hj hij
  have:=h2 i j (Nat.zero_le _) hij (by simp at hi hj ⊢;omega)
  rw[ltK_iff] at this
  simp at hi hj
  simp[hi,hj] at this
  simpa using this
 refine List.Perm.eq_of_pairwise (le:=fun x y=>decide (x.1≤y.1)) ?_ ?_ ?_ hd
 ·intro a b ha hb h3 h4
  exact rise_inj hp (hd.mem_iff.1 ha) hb (by simp at h3 h4;omega)
 ·exact hle.imp fun h=>by simpa using h
 ·exact hp.imp fun h=>by simp;omega
theorem entersLK:∀args w,(callFunc 203 args).run Tryz.prog w=.ok (.enter 203 args) w:=enters_of Tryz.func203 (by kernel_rfl) rfl
theorem frozen_of_holds {w:World}{g:Nat}{L:List Lh.Fl}(h:HoldsK encF 3 w g 0 L.toArray)(k:Nat)(hk:k<L.length*3):w.frozen? ⟨g,k,none⟩=false:=by
 have h1:=(h k (by simpa using hk)).2
 rw[Nat.zero_add] at h1
 exact h1
theorem sortFls (g cap:Nat)(M L:List Lh.Fl)(w:World)(hp:L.Pairwise fun x y=>x.1<y.1)(hM:M.Perm L)(hH:FlsAt w g M)(hf:∀k,w.frozen? ⟨g,k,none⟩=false)(hg:g<w.heap.size)(hsz:M.length<1000000) :
  Calls Tryz.prog 202 #[.slice (some ⟨g,0,none⟩) M.length cap,.func (.func 203) #[] #[]] w fun e w'=>e=.returned (.tuple #[])∧FlsAt w' g L∧w.grownBy w' (some g)∧∀k,k<L.length*3→w'.frozen? ⟨g,k,none⟩=false:=by
 have h:=AnyQ.slices_SortFunc sortFl 3 Tryz.isAgg80 Tryz.sizeOf80 encF (fun _=>rfl) encF_ones cfK swoK 203 #[] g 0 cap M.toArray w entersLK (cmpLaysK g 0 _ w) (holds_of_fls hH hf) hg (by simp;omega)
 rw[List.size_toArray] at h
 refine Calls.mono h ?_
 rintro e w' ⟨rfl,d',n,os,hp1,hs1,rfl⟩
 have e:=sorted_is hp hM (d':=d') (by simpa using hp1) (by simpa using hs1)
 have hl:d'.size=M.toArray.size:=hp1.1
 have hh:=sortedFl_holds (n:=n) (os:=os) hg (holds_of_fls hH hf) hl
 refine⟨rfl,?_,grownBy_sortedFl d',?_⟩
 ·rw[←e]
  exact fls_of_holds hh
 ·rw[←e]
  exact frozen_of_holds hh
end Go.Proofs.YtfhmfjcpggddkaaGreatDoor
namespace Go.Proofs.YtfhmfjcpggddkaaGreatDoor
open Go.RowKit Go.Maps Go.ChangeMaps Go.Shelf
section
variable {W W':World} {p mb t:Nat} {la:Int} {L:List Lh.Fl}
theorem ownsRow_base_f {w:World}{base base':Nat}{e:TypeId}{size n:Nat}{v:Value}{xs:List Value}(h:w.ownsRow base e size v n xs)(hb:base'≤base):w.ownsRow base' e size v n xs:=by
 refine⟨h.1,?_⟩
 rcases h.2 with hn|⟨g,cap,cur,hv,hbg,rest⟩
 ·exact .inl hn
 ·exact .inr ⟨g,cap,cur,hv,Nat.le_trans hb hbg,rest⟩
theorem collectF (mb nn:Nat)(w:World)(hown:w.ownsMap Tryz.prog 63 flElem mb nn (FD L))(hp:L.Pairwise fun x y=>x.1<y.1)(hl:L.length≤1000) :
  Calls Tryz.prog 200 #[.func (.func 247) #[] #[.pointer (some ⟨w.heap.size,0,none⟩)]] (w.alloc (.cells #[.map (some mb)] 251)) fun e w'=>∃(v:Value) (M:List Lh.Fl),e=.returned v∧M.Perm L∧w'.ownsRow w.heap.size 80 3 v M.length (flatF M)∧Below w.heap.size w w':=by
 refine (callsIn_wide (n:=6)).1 ?_
 have hb0:Below w.heap.size w (w.alloc (.cells #[.map (some mb)] 251)):=(Below.refl _ _).alloc (Nat.le_refl _) _
 refine (collectF_in Fence.wide 6 trivial trivial rfl (by omega) _ _ trivial (enters_of Tryz.func247 (by kernel_rfl) rfl) (fun xs=>xs.Perm L) L.length hl _
  (valuesF_stops Fence.wide _ trivial rfl (by omega) w.heap.size mb nn L hp _ (by simp) (by simp) (hown.alloc _))).mono ?_
 rintro e w' ⟨v,M,rfl,hM,hrow,hb⟩
 exact⟨v,M,rfl,hM,ownsRow_base_f hrow (by simp),below_then hb0 hb⟩
theorem valuesF (mb:Option Nat)(w:World) :
  Calls Tryz.prog 201 #[.map mb] w fun e w'=>e=.returned (.func (.func 247) #[] #[.pointer (some ⟨w.heap.size,0,none⟩)])∧w'=w.alloc (.cells #[.map mb] 251) :=
 (callsIn_wide (n:=3)).1 (valuesF_call Fence.wide 3 trivial rfl mb w)
theorem listF_any (h:FR W p mb t la L)(hp:L.Pairwise fun x y=>x.1<y.1)(hl:L.length≤1000) :
  Calls Tryz.prog 161 #[.pointer (some ⟨p,0,none⟩)] W fun e W'=>∃v,e=.returned v∧((L=[]∧(v=.slice none 0 0∨∃ad c,v=.slice (some ad) 0 c))∨∃g c,v=.slice (some ⟨g,0,none⟩) L.length c∧L.length≤c∧FlsAt W' g L∧W.heap.size≤g∧∀k,k<L.length*3→W'.frozen? ⟨g,k,none⟩=false)∧Below W.heap.size W W':=by
 have c2:=h.c2
 have hcol:=collectF mb L.length W h.own hp hl
 clear h
 go_enter Tryz.func161,Tryz.ntmps161
 go_wp2_with fail
 refine (valuesF _ _).mono ?_
 rintro e w1 ⟨rfl,rfl⟩
 go_wp2_with fail
 refine hcol.mono ?_
 rintro e w2 ⟨v,M,rfl,hM,hrow,hb⟩
 clear hcol
 by_cases h0:0<M.length
 ·obtain⟨g,cap,rfl,hg0,hg1,hcap,hfl,hfz⟩:=fls_of_owns hrow h0
  have hsort:=sortFls g cap M L w2 hp hM hfl hfz hg1 (by have:=hM.length_eq;omega)
  have HML:Hid (M.length=L.length):=hM.length_eq
  clear hrow hfl hfz hM c2
  go_wp2_with fail
  refine hsort.mono ?_
  rintro e w3 ⟨rfl,hL,hgr,hfr⟩
  have HL:Hid (FlsAt w3 g L):=hL
  have HFR:Hid (∀k,k<L.length*3→w3.frozen? ⟨g,k,none⟩=false):=hfr
  have HG0:Hid (W.heap.size≤g):=hg0
  have hbW:Below W.heap.size W w3:=hb.grown hgr hb.size (fun k hk=>by cases hk;exact hg0)
  clear hsort hL hfr
  go_wp2
  go_ret
  exact⟨_,rfl,Or.inr ⟨g,cap,by rw[←HML.out];rfl,by rw[←HML.out];exact hcap,HL.out,HG0.out,HFR.out⟩,hbW⟩
 ·obtain rfl:M=[]:=List.length_eq_zero_iff.1 (by omega)
  obtain⟨p0,c0,rfl,hpc⟩:∃p0 c0,v=.slice p0 0 c0∧(v=.slice none 0 0∨∃ad c,v=.slice (some ad) 0 c):=by
   rcases hrow.2 with⟨h,_⟩|⟨g,cap,cur,rfl,_⟩
   ·exact⟨_,_,h,Or.inl h⟩
   ·exact⟨_,_,rfl,Or.inr ⟨_,_,rfl⟩⟩
  have HPC:Hid _:=hpc
  have hL:L=[]:=hM.symm.eq_nil
  clear hrow hM hpc
  have HLN:Hid (L=[]):=hL
  clear hL
  go_wp2_with fail
  refine (AnyF.slices_SortFunc_none sortFl p0 c0 _ _).mono ?_
  rintro e w3 ⟨rfl,rfl⟩
  go_wp2
  go_ret
  exact⟨_,rfl,Or.inl ⟨HLN.out,HPC.out⟩,hb⟩
theorem listF_flows (h:FR W p mb t la L)(hp:L.Pairwise fun x y=>x.1<y.1)(hl:L.length≤1000) :
  Calls Tryz.prog 161 #[.pointer (some ⟨p,0,none⟩)] W fun e W'=>∃v,e=.returned v∧Flows1 W' v L∧Below W.heap.size W W':=by
 refine (listF_any h hp hl).mono ?_
 rintro e w' ⟨v,rfl,hv|⟨g,c,rfl,hc,hf,_,_⟩,hb⟩
 ·exact⟨v,rfl,Or.inl hv,hb⟩
 ·exact⟨_,rfl,Or.inr ⟨g,0,c,rfl,hc,fun i hi=>by simpa using hf i hi⟩,hb⟩
theorem heap_set1 {W:World}{B k:Nat}{cur:Array Value}{t:TypeId}(h:W.heap[B]?=some (.cells cur t (0,0)))(v:Value):(W.setCell ⟨B,k,none⟩ v).heap[B]?=some (.cells (cur.setIfInBounds k v) t (0,0)):=by
 obtain⟨hlt,hk⟩:=Array.getElem?_eq_some_iff.1 h
 show (W.heap.modify B _)[B]?=_
 rw[Array.getElem?_eq_getElem (by rw[Array.size_modify];exact hlt),Array.getElem_modify_self,hk]
 rfl
theorem set3 (a b c x y z:Value):((#[a,b,c].setIfInBounds 0 x).setIfInBounds 1 y).setIfInBounds 2 z=#[x,y,z]:=rfl
theorem Cell3.set {W:World}{B:Nat}{y:Lh.Fl}(h:Cell3 W B y)(x:Lh.Fl):Cell3 (((W.setCell ⟨B,0,none⟩ (.int .u64 (x.1:Nat))).setCell ⟨B,1,none⟩ (.string x.2.1)).setCell ⟨B,2,none⟩ (.int .i64 x.2.2)) B x:=by
 have:=heap_set1 (k:=2) (heap_set1 (k:=1) (heap_set1 (k:=0) h (.int .u64 (x.1:Nat))) (.string x.2.1)) (.int .i64 x.2.2)
 rw[set3] at this
 exact this
theorem minF (g cap:Nat)(L:List Lh.Fl)(w:World)(h0:0<L.length)(hl:L.length≤1000)(hH:FlsAt w g L) :
  Calls Tryz.prog 243 #[.slice (some ⟨g,0,none⟩) L.length cap,.func (.func 244) #[] #[]] w fun e w'=>∃h:Lh.fleast L<L.length,e=.returned (.agg #[.int .u64 ((L[Lh.fleast L]).1:Nat),.string (L[Lh.fleast L]).2.1,.int .i64 (L[Lh.fleast L]).2.2])∧Below w.heap.size w w':=by
 have HH:Hid (FlsAt w g L):=hH
 have hb0:Below w.heap.size w (w.alloc (.cells #[.int .u64 0,.string ⟨#[]⟩,.int .i64 0] 80)):=(Below.refl _ _).alloc (Nat.le_refl _) _
 obtain⟨x0,x1,x2⟩:=hH 0 h0
 simp only[Nat.zero_mul,Nat.zero_add] at x0 x1 x2
 replace x0:=below_cell hb0 x0
 replace x1:=below_cell hb0 x1
 replace x2:=below_cell hb0 x2
 have d1:decide ((L.length:Int)<1)=false:=by simp;omega
 clear hH
 obtain⟨z,hz⟩:∃z,L[0]=z:=⟨_,rfl⟩
 rw[hz] at x0 x1 x2
 have HZ:Hid (L[leastTo L 1]?=some z):=by
  have:L[leastTo L 1]?=some z:=by rw[leastTo_one,List.getElem?_eq_getElem h0,hz]
  exact this
 clear hz
 go_enter Tryz.func243,Tryz.ntmps243
 go_wp2
 have hbW:Below w.heap.size w ((w.alloc (.cells #[.int .u64 0,.string ⟨#[]⟩,.int .i64 0] 80)).alloc (.cells #[.int .u64 (z.1:Nat),.string z.2.1,.int .i64 z.2.2] 80)):=hb0.alloc (by simp) _
 have C3:Cell3 ((w.alloc (.cells #[.int .u64 0,.string ⟨#[]⟩,.int .i64 0] 80)).alloc (.cells #[.int .u64 (z.1:Nat),.string z.2.1,.int .i64 z.2.2] 80)) (w.heap.size+1) z:=by
  have:=World.alloc_heap_new (w.alloc (.cells #[.int .u64 0,.string ⟨#[]⟩,.int .i64 0] 80)) (.cells #[.int .u64 (z.1:Nat),.string z.2.1,.int .i64 z.2.2] 80)
  rwa [World.size_alloc] at this
 have R3:Cell3 ((w.alloc (.cells #[.int .u64 0,.string ⟨#[]⟩,.int .i64 0] 80)).alloc (.cells #[.int .u64 (z.1:Nat),.string z.2.1,.int .i64 z.2.2] 80)) w.heap.size (0,⟨#[]⟩,0):=(Below.heap_alloc _ _ _ (by simp)).trans (World.alloc_heap_new w _)
 clear x0 x1 x2 hb0
 generalize ((w.alloc (.cells #[.int .u64 0,.string ⟨#[]⟩,.int .i64 0] 80)).alloc (.cells #[.int .u64 (z.1:Nat),.string z.2.1,.int .i64 z.2.2] 80))=W0 at *
 go_loopw [6] (fun u wr=>Below w.heap.size w wr∧∃i y,1≤i∧i≤L.length∧u=.int .i64 ((i:Nat):Int)∧L[leastTo L i]?=some y∧Cell3 wr (w.heap.size+1) y∧Cell3 wr w.heap.size (0,⟨#[]⟩,0)) (fun u _=>L.length - (intOf u).toNat)
 case atStart=>exact⟨hbW,1,z,Nat.le_refl _,h0,rfl,HZ.out,C3,R3⟩
 case round =>
  obtain⟨hb,i,y,hi1,hi2,rfl,hy,c3,r3⟩:=hrel
  have HY:Hid (L[leastTo L i]?=some y):=hy
  have C:Hid (Cell3 wr (w.heap.size+1) y):=c3
  have R:Hid (Cell3 wr w.heap.size (0,⟨#[]⟩,0)):=r3
  have y0:wr.cell? ⟨w.heap.size+1,0,none⟩=some (.int .u64 (y.1:Nat)):=by simp[World.cell?,show wr.heap[w.heap.size+1]?=_ from c3]
  have y1:wr.cell? ⟨w.heap.size+1,1,none⟩=some (.string y.2.1):=by simp[World.cell?,show wr.heap[w.heap.size+1]?=_ from c3]
  have y2:wr.cell? ⟨w.heap.size+1,2,none⟩=some (.int .i64 y.2.2):=by simp[World.cell?,show wr.heap[w.heap.size+1]?=_ from c3]
  have yf:∀k,wr.frozen? ⟨w.heap.size+1,k,none⟩=false:=fun k=>by simp[World.frozen?,show wr.heap[w.heap.size+1]?=_ from c3]
  have r0:wr.cell? ⟨w.heap.size,0,none⟩=some (.int .u64 0):=by simp[World.cell?,show wr.heap[w.heap.size]?=_ from r3]
  have r1:wr.cell? ⟨w.heap.size,1,none⟩=some (.string ⟨#[]⟩):=by simp[World.cell?,show wr.heap[w.heap.size]?=_ from r3]
  have r2:wr.cell? ⟨w.heap.size,2,none⟩=some (.int .i64 0):=by simp[World.cell?,show wr.heap[w.heap.size]?=_ from r3]
  have rf:∀k,wr.frozen? ⟨w.heap.size,k,none⟩=false:=fun k=>by simp[World.frozen?,show wr.heap[w.heap.size]?=_ from r3]
  clear hy c3 r3 hbW C3 R3
  by_cases hlt:i<L.length
  ·have hki:(i:Int)<(L.length:Int):=by omega
   obtain⟨x0,x1,x2⟩:=HH.out i hlt
   replace x0:=below_cell hb x0
   replace x1:=below_cell hb x1
   replace x2:=below_cell hb x2
   obtain⟨x,hx⟩:∃x,L[i]=x:=⟨_,rfl⟩
   rw[hx] at x0 x1 x2
   have HX:Hid (L[i]?=some x):=by
    have:L[i]?=some x:=by rw[List.getElem?_eq_getElem hlt,hx]
    exact this
   clear hx
   clear r0 r1 r2 rf
   have HKC:Hid (∀W',Below wr.heap.size wr W'→Below wr.heap.size wr W'∧W'.cell? ⟨g,i*3,none⟩=some (.int .u64 (x.1:Nat))∧W'.cell? ⟨g,i*3+1,none⟩=some (.string x.2.1)∧W'.cell? ⟨g,i*3+2,none⟩=some (.int .i64 x.2.2)∧W'.cell? ⟨w.heap.size+1,0,none⟩=some (.int .u64 (y.1:Nat))∧W'.cell? ⟨w.heap.size+1,1,none⟩=some (.string y.2.1)∧W'.cell? ⟨w.heap.size+1,2,none⟩=some (.int .i64 y.2.2)):=fun W' h=>⟨h,below_cell h x0,below_cell h x1,below_cell h x2,below_cell h y0,below_cell h y1,below_cell h y2⟩
   have HCL:Hid (∀W',Below wr.heap.size wr W'→Calls Tryz.prog 244 #[.agg #[.int .u64 (x.1:Nat),.string x.2.1,.int .i64 x.2.2],.agg #[.int .u64 (y.1:Nat),.string y.2.1,.int .i64 y.2.2]] W' fun e w'=>e=.returned (.int .i64 (cfUn x y))∧Below wr.heap.size wr w'):=fun W' h=>(closureU x y W').mono fun _ _ ⟨q1,q2⟩=>⟨q1,below_then h q2⟩
   have HYF:Hid (∀k,wr.frozen? ⟨w.heap.size+1,k,none⟩=false):=yf
   clear yf
   go_wp2_with fail
   go_region_held3 (fun w'=>Below wr.heap.size wr w'∧w'.cell? ⟨g,i*3,none⟩=some (.int .u64 (x.1:Nat))∧w'.cell? ⟨g,i*3+1,none⟩=some (.string x.2.1)∧w'.cell? ⟨g,i*3+2,none⟩=some (.int .i64 x.2.2)∧w'.cell? ⟨w.heap.size+1,0,none⟩=some (.int .u64 (y.1:Nat))∧w'.cell? ⟨w.heap.size+1,1,none⟩=some (.string y.2.1)∧w'.cell? ⟨w.heap.size+1,2,none⟩=some (.int .i64 y.2.2))
    (first|exact HKC.out _ (by assumption)|exact HKC.out _ (below_drewN (Below.refl _ _) 1)|exact HKC.out _ (Below.refl _ _))
    (first|(go_at_call 244;refine (HCL.out _ (by first|assumption|exact Below.refl _ _|exact below_drewN (Below.refl _ _) 1)).mono ?_;rintro e wz ⟨rfl,hbz⟩))
   have hbW:Below w.heap.size w wz:=hb.trans (hbz.mono hb.size)
   have C':Cell3 wz (w.heap.size+1) y:=(hbz.block _ (Array.getElem?_eq_some_iff.1 C.out).1).trans C.out
   have R':Hid (Cell3 wz w.heap.size (0,⟨#[]⟩,0)):=(hbz.block _ (Array.getElem?_eq_some_iff.1 R.out).1).trans R.out
   have yf:∀k,wz.frozen? ⟨w.heap.size+1,k,none⟩=false:=fun k=>by simp[World.frozen?,show wz.heap[w.heap.size+1]?=_ from C']
   replace x0:=below_cell hbz x0
   replace x1:=below_cell hbz x1
   replace x2:=below_cell hbz x2
   replace y0:=below_cell hbz y0
   replace y1:=below_cell hbz y1
   replace y2:=below_cell hbz y2
   have HC':Hid (Cell3 wz (w.heap.size+1) y):=C'
   have HBW:Hid (Below w.heap.size w wz):=hbW
   clear C' hbW hb hbz HKC HCL HYF C R
   by_cases hu:x.2.2<y.2.2
   ·have d:decide (cfUn x y<0)=true:=by simp[cfUn,cmpI,hu]
    have HN:Hid (L[leastTo L (i+1)]?=some x):=by
     have:L[leastTo L (i+1)]?=some x:=by
      have hll:leastTo L i<L.length:=Nat.lt_of_lt_of_le (leastTo_lt L hi1) hi2
      have hyy:L[leastTo L i]=y:=by have:=HY.out;rw[List.getElem?_eq_getElem hll] at this;injection this
      have hxx:L[i]=x:=by have:=HX.out;rw[List.getElem?_eq_getElem hlt] at this;injection this
      rw[leastTo_succ,until_getD hlt,until_getD hll,hxx,hyy,if_pos hu]
      exact HX.out
     exact this
    rw[d]
    clear hu d
    go_wp2
    refine⟨⟨((HBW.out.setCell (p:=⟨w.heap.size+1,0,none⟩) (Nat.le_succ _) _).setCell (p:=⟨w.heap.size+1,1,none⟩) (Nat.le_succ _) _).setCell (p:=⟨w.heap.size+1,2,none⟩) (Nat.le_succ _) _,i+1,x,by omega,by omega,by go_num,HN.out,Cell3.set HC'.out x,?_⟩,by simp[intOf];omega⟩
    exact (Below.heap_setCell _ _ _ _ (by simp)).trans ((Below.heap_setCell _ _ _ _ (by simp)).trans ((Below.heap_setCell _ _ _ _ (by simp)).trans R'.out))
   ·have d:decide (cfUn x y<0)=false:=by
     have:cfUn x y=0∨cfUn x y=1:=by unfold cfUn cmpI;rw[if_neg hu];split<;>simp
     rcases this with e|e<;>rw[e]<;>rfl
    have HN:Hid (L[leastTo L (i+1)]?=some y):=by
     have:L[leastTo L (i+1)]?=some y:=by
      have hll:leastTo L i<L.length:=Nat.lt_of_lt_of_le (leastTo_lt L hi1) hi2
      have hyy:L[leastTo L i]=y:=by have:=HY.out;rw[List.getElem?_eq_getElem hll] at this;injection this
      have hxx:L[i]=x:=by have:=HX.out;rw[List.getElem?_eq_getElem hlt] at this;injection this
      rw[leastTo_succ,until_getD hlt,until_getD hll,hxx,hyy,if_neg hu]
      exact HY.out
     exact this
    rw[d]
    clear hu d
    go_wp2
    exact⟨⟨HBW.out,i+1,y,by omega,by omega,by go_num,HN.out,HC'.out,R'.out⟩,by simp[intOf];omega⟩
  ·obtain rfl:i=L.length:=by omega
   have hki:¬((L.length:Int)<(L.length:Int)):=by omega
   have HLT:Hid (Lh.fleast L<L.length):=Lh.fleast_lt h0
   have HE:Hid (∀h:Lh.fleast L<L.length,L[Lh.fleast L]=y):=fun h=>by
    have:=HY.out
    rw[leastTo_all,List.getElem?_eq_getElem h] at this
    injection this
   go_wp2
   exact bodyPost_ret (v:=.agg #[.int .u64 (y.1:Nat),.string y.2.1,.int .i64 y.2.2]) (by simp[results,Tryz.results243,go_sem,r0,r1,r2]) rfl ⟨⟨HLT.out,by rw[HE.out HLT.out]⟩,((hb.setCell (p:=⟨w.heap.size,0,none⟩) (Nat.le_refl _) _).setCell (p:=⟨w.heap.size,1,none⟩) (Nat.le_refl _) _).setCell (p:=⟨w.heap.size,2,none⟩) (Nat.le_refl _) _⟩
end
end Go.Proofs.YtfhmfjcpggddkaaGreatDoor
