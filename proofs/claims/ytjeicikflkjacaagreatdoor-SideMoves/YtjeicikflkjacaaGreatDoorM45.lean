/- side.Moves and side.Buckets: check; up to the call of answers. -/
import Derived.Test.YtjeicikflkjacaaGreatDoorCoA
set_option linter.unusedSimpArgs false
set_option linter.unusedVariables false
namespace Go.Proofs.YtjeicikflkjacaaGreatDoor.Sh
open Go Go.Conc Go.Conc.Lib Go.RowKit Go.ConcN
open Ms Po
open Par (Fm Gr on stopper LocIn)
def chkN (N most wk:Int):Nat:=if wk<1∨16<wk then 3 else if most<N then 2 else 0
theorem scheck_any (a:Nat→Addr)(N most wk:Int)(w:World)(he:Errs a w):Calls Tryz.prog 18 #[.int .i64 N,.int .i64 most,.int .i64 wk] w fun e w'=>∃ev,e=.returned ev∧ErrIs a w' (chkN N most wk) (-1) ev∧Below w.heap.size w w':=by
 have h1:=he.s1
 have h2:=he.s2
 by_cases hw1:wk<1
 ·go_enter Tryz.func18,Tryz.ntmps18
  go_wp2
  go_ret
  refine⟨_,rfl,?_,Below.refl _ _⟩
  rw[show chkN N most wk=3 by simp[chkN,hw1]]
  exact .inr ⟨2,by omega,rfl,.inl ⟨rfl,rfl⟩⟩
 ·by_cases hw2:16<wk
  ·go_enter Tryz.func18,Tryz.ntmps18
   go_wp2
   go_ret
   refine⟨_,rfl,?_,Below.refl _ _⟩
   rw[show chkN N most wk=3 by simp[chkN,hw2]]
   exact .inr ⟨2,by omega,rfl,.inl ⟨rfl,rfl⟩⟩
  ·by_cases hm:most<N
   ·go_enter Tryz.func18,Tryz.ntmps18
    go_wp2
    go_ret
    refine⟨_,rfl,?_,Below.refl _ _⟩
    rw[show chkN N most wk=2 by simp[chkN,hw1,hw2,hm]]
    exact .inr ⟨1,by omega,rfl,.inl ⟨rfl,rfl⟩⟩
   ·go_enter Tryz.func18,Tryz.ntmps18
    go_wp2
    go_ret
    refine⟨_,rfl,?_,Below.refl _ _⟩
    rw[show chkN N most wk=0 by unfold chkN;rw[if_neg (by omega),if_neg (by omega)]]
    exact .inl ⟨rfl,rfl,rfl⟩
noncomputable def cut8 (e:Code):Code:=match Tryz.f8.body.getD .skip with|.seq a (.seq b _)=>.seq a (.seq b e)|_=>.skip
noncomputable def rest8:Code:=match Tryz.f8.body.getD .skip with|.seq _ (.seq _ c)=>c|_=>.skip
noncomputable def ops8:Array Oper:=match rest8 with|.seq (.region _ o _) _=>o|_=>#[]
set_option maxRecDepth 100000 in
set_option maxHeartbeats 4000000 in
theorem begin8 (a:Nat→Addr)(pa pl:Option Addr)(la ca N cl:Nat)(n:Int)(wk:Int)(w:World)(he:Errs a w)(hc:chkN (N:Nat) 100 wk=0) :
  (cut8 .skip).wp Tryz.prog (fun e b w'=>e=.normal∧b.defers=[]∧b.tmps=#[.slice pa la ca,.slice pl N cl,.int .i64 n,.int .i64 wk,.pointer (some ⟨w.heap.size,0,none⟩),.pointer (some ⟨w.heap.size+1,0,none⟩),.pointer (some ⟨w.heap.size+2,0,none⟩),undef,.slice none 0 0,.nilIface,.nilIface,.slice pl N cl,.int .i64 (N:Nat),.int .i64 wk,.nilIface,.nilIface,.bool false,undef,undef,undef,undef,undef,undef,undef,undef] ∧
   Below w.heap.size w w'∧w'.cell? ⟨w.heap.size,0,none⟩=some (.slice pa la ca)∧w'.cell? ⟨w.heap.size+1,0,none⟩=some (.slice pl N cl)∧w'.cell? ⟨w.heap.size+2,0,none⟩=some (.int .i64 n)) ⟨#[.slice pa la ca,.slice pl N cl,.int .i64 n,.int .i64 wk,undef,undef,undef,undef,undef,undef,undef,undef,undef,undef,undef,undef,undef,undef,undef,undef,undef,undef,undef,undef,undef],[]⟩ w:=by
 have HC:Hid (∀W,Errs a W→Calls Tryz.prog 18 #[.int .i64 (N:Nat),.int .i64 100,.int .i64 wk] W fun e w'=>e=.returned .nilIface∧Below W.heap.size W w'):=fun W hW=>(scheck_any a (N:Nat) 100 wk W hW).mono fun e w' ⟨ev,h1,h2,h3⟩=>by
  rw[hc] at h2
  exact⟨by rw[h1,errIs_zero h2],h3⟩
 have HE:Hid (Errs a w):=he
 clear he
 simp only[cut8,Tryz.f8,Option.getD_some]
 have hb3:Below w.heap.size w (((w.alloc (.cells #[.slice pa la ca] 22)).alloc (.cells #[.slice pl N cl] 23)).alloc (.cells #[.int .i64 n] 3)):=(((Below.refl _ _).alloc (Nat.le_refl _) _).alloc (by simp) _).alloc (by simp;omega) _
 have k0:(((w.alloc (.cells #[.slice pa la ca] 22)).alloc (.cells #[.slice pl N cl] 23)).alloc (.cells #[.int .i64 n] 3)).cell? ⟨w.heap.size,0,none⟩=some (.slice pa la ca):=by
  rw[World.cell?_alloc_lt _ _ _ (by simp;omega),World.cell?_alloc_lt _ _ _ (by simp)];simp
 have k1:(((w.alloc (.cells #[.slice pa la ca] 22)).alloc (.cells #[.slice pl N cl] 23)).alloc (.cells #[.int .i64 n] 3)).cell? ⟨w.heap.size+1,0,none⟩=some (.slice pl N cl):=by
  rw[World.cell?_alloc_lt _ _ _ (by simp)]
  simp
 have k2:(((w.alloc (.cells #[.slice pa la ca] 22)).alloc (.cells #[.slice pl N cl] 23)).alloc (.cells #[.int .i64 n] 3)).cell? ⟨w.heap.size+2,0,none⟩=some (.int .i64 n):=by
  have:=cell_one_new ((w.alloc (.cells #[.slice pa la ca] 22)).alloc (.cells #[.slice pl N cl] 23)) (.int .i64 n) 3 0 (.int .i64 n) rfl
  have e:((w.alloc (.cells #[.slice pa la ca] 22)).alloc (.cells #[.slice pl N cl] 23)).heap.size=w.heap.size+2:=by simp
  rw[e] at this
  exact this
 go_wp2_with fail
 generalize ((w.alloc (.cells #[.slice pa la ca] 22)).alloc (.cells #[.slice pl N cl] 23)).alloc (.cells #[.int .i64 n] 3)=W3 at *
 refine (HC.out W3 (HE.out.later hb3)).mono ?_
 rintro e w1 ⟨rfl,hb1⟩
 have c0:=below_cell hb1 k0
 have c1:=below_cell hb1 k1
 have c2:=below_cell hb1 k2
 have hb:=below_then hb3 hb1
 clear hb1 hb3 k0 k1 k2 HC HE
 go_wp2
def Told (a:Nat→Addr)(c:Nat)(u:Value)(v:World):Prop:=∃ev,u=.tuple #[.slice none 0 0,ev]∧ErrIs a v c (-1) ev
set_option maxRecDepth 100000 in
set_option maxHeartbeats 4000000 in
theorem bad8 (a:Nat→Addr)(pa pl:Option Addr)(la ca N cl:Nat)(n:Int)(wk:Int)(w:World)(he:Errs a w)(hc:chkN (N:Nat) 100 wk≠0) :
  (cut8 (.loop .skip)).wp Tryz.prog (bodyPost Tryz.prog Tryz.f8 (fun e w'=>∃u,e=.returned u∧Told a (chkN (N:Nat) 100 wk) u w'∧Below w.heap.size w w')) ⟨#[.slice pa la ca,.slice pl N cl,.int .i64 n,.int .i64 wk,undef,undef,undef,undef,undef,undef,undef,undef,undef,undef,undef,undef,undef,undef,undef,undef,undef,undef,undef,undef,undef],[]⟩ w:=by
 generalize hcc:chkN (N:Nat) 100 wk=cc at hc
 have HC:Hid (∀W,Errs a W→Calls Tryz.prog 18 #[.int .i64 (N:Nat),.int .i64 100,.int .i64 wk] W fun e w'=>∃ev,e=.returned ev∧ErrIs a w' cc (-1) ev∧Below W.heap.size W w'):=fun W hW=>by
  have:=scheck_any a (N:Nat) 100 wk W hW
  rw[hcc] at this
  exact this
 have HE:Hid (Errs a w):=he
 clear he hcc
 simp only[cut8,Tryz.f8,Option.getD_some]
 have hb3:Below w.heap.size w (((w.alloc (.cells #[.slice pa la ca] 22)).alloc (.cells #[.slice pl N cl] 23)).alloc (.cells #[.int .i64 n] 3)):=(((Below.refl _ _).alloc (Nat.le_refl _) _).alloc (by simp) _).alloc (by simp;omega) _
 go_wp2_with fail
 generalize ((w.alloc (.cells #[.slice pa la ca] 22)).alloc (.cells #[.slice pl N cl] 23)).alloc (.cells #[.int .i64 n] 3)=W3 at *
 refine (HC.out W3 (HE.out.later hb3)).mono ?_
 rintro e w1 ⟨ev,rfl,hev,hb1⟩
 have hb:=below_then hb3 hb1
 have HEV:Hid (ErrIs a w1 cc (-1) ev):=hev
 obtain⟨t1,x1,rfl⟩:=errIs_pos hev hc
 clear hb1 hb3 hev HC HE
 go_wp2
 go_ret2
 exact⟨_,rfl,⟨_,rfl,HEV.out⟩,hb⟩
theorem leaves_fn {P:Program}{f:FuncId}{fn:Func}(hf:P.funcs[f]?=some fn){R:Value→World→Prop}{t:Array Value}{k:List Item}{v:World}
  (h:∃e a' w',bodyPost P fn (fun e w=>∃u,e=.returned u∧R u w) e a' w'∧Arrives P (lone (Fm f t k .run) [stopper] v) (Fm f t [] .run) [] [stopper] e a' w'):∃fr v' u,fr.fn=f∧Steps P (lone (Fm f t k .run) [stopper] v) (lone fr [stopper] v')∧fr.leaving P v' (.returned u)∧R u v':=by
 obtain⟨e,a',w',hq,harr⟩:=h
 cases e with
 | normal =>
  obtain⟨hd,u,hr,u',e',hR⟩:=hq
  cases e'
  exact⟨_,w',u,rfl,Steps.trans harr (.one step_end),⟨rfl,hd,rfl,fn,hf,hr⟩,hR⟩
 | ret =>
  obtain⟨hd,u,hr,u',e',hR⟩:=hq
  cases e'
  obtain⟨todo,hs⟩:=harr
  exact⟨_,w',u,rfl,hs,⟨rfl,hd,rfl,fn,hf,hr⟩,hR⟩
 | panic chain =>
  obtain⟨_,u,e',_⟩:=hq
  cases e'
 | outgrown =>
  obtain⟨u,e',_⟩:=hq
  cases e'
 | exit id=>exact hq.elim
 | goto l=>exact hq.elim
theorem code_leaves {P:Program}{f:FuncId}{fn:Func}(hf:P.funcs[f]?=some fn){R:Value→World→Prop}{t:Array Value}{c:Code}{v:World}(h:c.wp P (bodyPost P fn (fun e w=>∃u,e=.returned u∧R u w)) ⟨t,[]⟩ v) :
  ∃fr v' u,fr.fn=f∧Steps P (lone (Fm f t [.code c] .run) [stopper] v) (lone fr [stopper] v')∧fr.leaving P v' (.returned u)∧R u v':=leaves_fn hf (h (Fm f t [] .run) [] [stopper])
theorem region_leaves {P:Program}{f:FuncId}{fn:Func}(hf:P.funcs[f]?=some fn){R:Value→World→Prop}{t:Array Value}{ops:Array Oper}{is:List Nat}{l:List Code}{v:World}
  (h:wpOps P ops (Exit.then (wpC P (bodyPost P fn (fun e w=>∃u,e=.returned u∧R u w)) l) (bodyPost P fn (fun e w=>∃u,e=.returned u∧R u w))) is ⟨t,[]⟩ v) :
  ∃fr v' u,fr.fn=f∧Steps P (lone (Fm f t (.inRegion ops is :: l.map Item.code) .run) [stopper] v) (lone fr [stopper] v')∧fr.leaving P v' (.returned u)∧R u v':=by
 refine leaves_fn hf ?_
 have:=wpO_arr h (Fm f t [] .run) [] [stopper]
 rw[List.append_nil] at this
 exact this
noncomputable abbrev S8 (cs:List Frame) (t:Array Value) (k:List Item):Goroutine:=G ((base 8).at ⟨t,[]⟩ k) cs
noncomputable def fr8 (sa sl:Value)(n:Int)(wk N ba bl bs:Nat):Frame:=Fm 8 #[sa,sl,.int .i64 n,.int .i64 (wk:Nat),.pointer (some ⟨ba,0,none⟩),.pointer (some ⟨bl,0,none⟩),.pointer (some ⟨bs,0,none⟩),undef,.slice none 0 0,.nilIface,.nilIface,sl,.int .i64 (N:Nat),.int .i64 (wk:Nat),.nilIface,.nilIface,.bool false,undef,sl,.int .i64 (N:Nat),.int .i64 (wk:Nat),.func (.func 20) #[] #[.pointer (some ⟨ba,0,none⟩),.pointer (some ⟨bl,0,none⟩),.pointer (some ⟨bs,0,none⟩)],undef,undef,undef] [.inRegion ops8 [4,5,6,7,8],.code .ret] .run
theorem fr8_finish (sa sl:Value)(n:Int)(wk N ba bl bs:Nat)(v:Value):(fr8 sa sl n wk N ba bl bs).finish v=Fm 8 #[sa,sl,.int .i64 n,.int .i64 (wk:Nat),.pointer (some ⟨ba,0,none⟩),.pointer (some ⟨bl,0,none⟩),.pointer (some ⟨bs,0,none⟩),undef,.slice none 0 0,.nilIface,.nilIface,sl,.int .i64 (N:Nat),.int .i64 (wk:Nat),.nilIface,.nilIface,.bool false,undef,sl,.int .i64 (N:Nat),.int .i64 (wk:Nat),.func (.func 20) #[] #[.pointer (some ⟨ba,0,none⟩),.pointer (some ⟨bl,0,none⟩),.pointer (some ⟨bs,0,none⟩)],v,undef,undef] (.inRegion ops8 [5,6,7,8] :: [Code.ret].map Item.code) .run:=by
 have:=Frame.finish_at (b:=base 8) (a:=⟨#[sa,sl,.int .i64 n,.int .i64 (wk:Nat),.pointer (some ⟨ba,0,none⟩),.pointer (some ⟨bl,0,none⟩),.pointer (some ⟨bs,0,none⟩),undef,.slice none 0 0,.nilIface,.nilIface,sl,.int .i64 (N:Nat),.int .i64 (wk:Nat),.nilIface,.nilIface,.bool false,undef,sl,.int .i64 (N:Nat),.int .i64 (wk:Nat),.func (.func 20) #[] #[.pointer (some ⟨ba,0,none⟩),.pointer (some ⟨bl,0,none⟩),.pointer (some ⟨bs,0,none⟩)],undef,undef,undef],[]⟩) (ops:=ops8) (i:=4) (rest:=[5,6,7,8]) (k:=[.code .ret]) (v:=v)
 refine this.trans ?_
 rfl
set_option maxRecDepth 100000 in
set_option maxHeartbeats 8000000 in
theorem to_answers8 {v:World}(pa pl:Option Addr)(la ca N cl:Nat)(n:Int)(wk ba bl bs:Nat)(hl:v.cell? ⟨bl,0,none⟩=some (.slice pl N cl))(cs:List Frame):To PP true (SeenIn v) (EvSeen v) (fun g=>g=Gr (Frame.enter PP 19 #[.int .i64 (N:Nat),.int .i64 (wk:Nat),.func (.func 20) #[] #[.pointer (some ⟨ba,0,none⟩),.pointer (some ⟨bl,0,none⟩),.pointer (some ⟨bs,0,none⟩)]] .normal) (fr8 (.slice pa la ca) (.slice pl N cl) n wk N ba bl bs :: cs))
  (S8 cs #[.slice pa la ca,.slice pl N cl,.int .i64 n,.int .i64 (wk:Nat),.pointer (some ⟨ba,0,none⟩),.pointer (some ⟨bl,0,none⟩),.pointer (some ⟨bs,0,none⟩),undef,.slice none 0 0,.nilIface,.nilIface,.slice pl N cl,.int .i64 (N:Nat),.int .i64 (wk:Nat),.nilIface,.nilIface,.bool false,undef,undef,undef,undef,undef,undef,undef,undef] [.code rest8]):=by
 simp only[fr8,ops8,rest8,S8,Tryz.f8,Option.getD_some]
 refine To.ctl rfl (fun _ _=>stepG_seq) ?_
 refine To.ctl rfl (fun _ _=>stepG_region) ?_;simp only[List.size_toArray,List.length_cons,List.length_nil,Nat.reduceAdd,Nat.zero_add,List.range,List.range.loop]
 refine To.load (ad:=⟨bl,0,none⟩) (.slice pl N cl) rfl rfl (by k_ne) (fun w hB=>by have h1:=hB.cell hl;go_simp) (fun w hB=>by have h1:=hB.cell hl;simp[go_sem,h1]) (by kernel_rfl) (by obtain⟨x,e,f,q1,_⟩:=cell_row hl;exact⟨_,x,e,f,rfl,q1⟩) ?_
 walk_nrm
 repeat (first
  | (refine To.value _ rfl rfl (by k_ne) (fun _ _=>by go_simp<;>rfl) (fun _ _=>by first|(simp[go_sem];done)) ?_;walk_nrm))
 refine To.call rfl rfl (by k_ne) rfl Tryz.func19 (by kernel_rfl) (show Tryz.f19.body=some (Tryz.f19.body.getD .skip) from by kernel_rfl) ?_
 refine To.nil ?_
 rw[enter19]
 have h2:Tryz.f19.ntmps=38:=by kernel_rfl
 generalize Tryz.f19.body.getD .skip=bd
 rw[h2]
 simp only[List.map_toArray,List.map_cons,List.map_nil,List.size_toArray,List.length_cons,List.length_nil,Nat.reduceAdd,Nat.reduceSub]
 rw[rep35]
 rfl
end Go.Proofs.YtjeicikflkjacaaGreatDoor.Sh

/- side.Moves, called beside leavers. -/
set_option linter.unusedSimpArgs false
set_option linter.unusedVariables false
namespace Go.Proofs.YtjeicikflkjacaaGreatDoor.Sh
open Go Go.Conc Go.Conc.Lib Go.RowKit Go.ConcN
open Ms Po
open Par (Fm Gr on stopper LocIn)
theorem errs_on {a:Nat→Addr}{v:World}(h:Errs a v)(τ:Nat→Question→Nat)(d:Nat):Errs a (on v τ d):=⟨h.handle,h.s0,h.s1,h.s2,h.s3,h.s4,h.s5,h.s6,h.s7,h.s8,h.row,h.ne⟩
theorem errs_bel {a:Nat→Addr}{v v':World}(h:Errs a v)(hb:Bel v.heap.size v v'):Errs a v':=errs_seen h fun b x e f q=>by
 rw[hb.block b (Array.getElem?_eq_some_iff.1 q).1]
 exact q
theorem Bel.seen {v v':World}(hb:Bel v.heap.size v v'):SeenIn v v':=fun b x e f q=>by
 rw[hb.block b (Array.getElem?_eq_some_iff.1 q).1]
 exact q
theorem row0_seen {v w:World}{u:Value}{xs:List ByteArray}(h:Row0 v u xs)(hs:SeenIn v w):Row0 w u xs:=by
 rcases h with h|⟨g,cap,cur,e,f,h1,h2,h3,h4⟩
 ·exact .inl h
 ·exact .inr ⟨g,cap,cur,e,f,h1,h2,hs _ _ _ _ h3,h4⟩
theorem rows0_seen {v w:World}{u:Value}{N:Nat}{vb:Nat→Value}(h:Rows0 v u N vb)(hs:SeenIn v w):Rows0 w u N vb:=by
 rcases h with h|⟨g,cap,cur,e,f,h1,h3,h4⟩
 ·exact .inl h
 ·exact .inr ⟨g,cap,cur,e,f,h1,hs _ _ _ _ h3,h4⟩
theorem row0_form {v:World}{u:Value}{xs:List ByteArray}(h:Row0 v u xs):∃p l c,u=.slice p l c:=by
 rcases h with⟨h,_⟩|⟨g,cap,cur,e,f,h1,_⟩
 ·exact⟨_,_,_,h⟩
 ·exact⟨_,_,_,h1⟩
theorem rows0_form {v:World}{u:Value}{N:Nat}{vb:Nat→Value}(h:Rows0 v u N vb):∃p c,u=.slice p N c:=by
 rcases h with⟨h,rfl⟩|⟨g,cap,cur,e,f,h1,_⟩
 ·exact⟨_,_,h⟩
 ·exact⟨_,_,h1⟩
theorem Rch.tail0 {v:World}{R:Value→World→Prop}{f:FuncId}(hf:∃fn,PP.funcs[f]?=some fn){t:Array Value}(ht:SlT lx f t){k:List Item}(hk:todoT lx PP f k){c:Frame}{cs:List Frame}
  (hC:∀τ d,∃fr v' u,Steps PP (lone (Fm f t k .run) [stopper] (on v τ d)) (lone fr [stopper] v')∧fr.leaving PP v' (.returned u)∧R u v'):Rch (Gr (Fm f t k .run) (c :: cs)) v (fun g' v'=>∃u,g'=Gr (c.finish u) cs∧R u v'):=by
 have:=Rch.tail (v:=v) (R:=R) hf ht hk (G:=[]) (K:=[]) .plain (c:=c) (cs:=cs) (by rw[List.append_nil];exact hC)
 rw[List.append_nil] at this
 exact this
def SdR (a:Nat→Addr)(c N:Nat)(Gd:Nat→Int→Nat→Int→Prop)(B:Nat)(u:Value)(v:World):Prop:=(c≠0∧Told a c u v)∨(c=0∧∃(ks:Nat→Int) (cs:Nat→Nat) (pl:Nat→Int),(∀i,i<N→Gd i (ks i) (cs i) (pl i))∧AnsP a N ks cs B u v)
theorem rep21 (x y z t:Value):(#[x,y,z,t]++Array.replicate 21 undef:Array Value)=#[x,y,z,t,undef,undef,undef,undef,undef,undef,undef,undef,undef,undef,undef,undef,undef,undef,undef,undef,undef,undef,undef,undef,undef]:=by
 rw[←Array.toList_inj]
 simp[List.replicate]
theorem enter8 (x y z t:Value):Frame.enter PP 8 #[x,y,z,t] .normal=Fm 8 #[x,y,z,t,undef,undef,undef,undef,undef,undef,undef,undef,undef,undef,undef,undef,undef,undef,undef,undef,undef,undef,undef,undef,undef] [.code (Tryz.f8.body.getD .skip)] .run:=by
 have h1:PP.funcs[8]?=some Tryz.f8:=Tryz.func8
 have h2:Tryz.f8.ntmps=25:=by kernel_rfl
 have h3:Tryz.f8.body=some (Tryz.f8.body.getD .skip):=by kernel_rfl
 rw[←rep21]
 generalize hb:Tryz.f8.body.getD .skip=bd at h3
 unfold Frame.enter
 rw[h1]
 simp only[Option.map_some,Option.getD_some,Option.bind_some,h2,h3]
 rfl
theorem cut8_c:CutC lx PP 8 rest8 (cut8 .skip) (Tryz.f8.body.getD .skip):=by
 simp only[cut8,rest8,Tryz.f8,Option.getD_some]
 exact .seq (by decide +kernel) (.seq (by decide +kernel) .here)
theorem cut8_s:CutS lx PP 8 (cut8 (.loop .skip)) (Tryz.f8.body.getD .skip):=by
 simp only[cut8,Tryz.f8,Option.getD_some]
 exact .seq (by decide +kernel) (.seq (by decide +kernel) (.here _))
set_option maxRecDepth 100000 in
set_option maxHeartbeats 4000000 in
theorem end8 (t:Array Value)(x ev:Value)(w:World)(s:Nat→Value)(ht:t=#[s 0,s 1,s 2,s 3,s 4,s 5,s 6,s 7,s 8,s 9,s 10,s 11,s 12,s 13,s 14,s 15,s 16,s 17,s 18,s 19,s 20,s 21,.tuple #[x,ev],undef,undef]) :
  wpOps Tryz.prog ops8 (Exit.then (Po.wpC Tryz.prog (bodyPost Tryz.prog Tryz.f8 (fun e w'=>∃u,e=.returned u∧u=.tuple #[x,ev]∧w'=w)) [.ret]) (bodyPost Tryz.prog Tryz.f8 (fun e w'=>∃u,e=.returned u∧u=.tuple #[x,ev]∧w'=w))) [5,6,7,8] ⟨t,[]⟩ w:=by
 subst ht
 have hw:∀(l:List Oper) (Q:Exit→Act→World→Prop) (A:Act),(∀j,l[j]?=ops8[5+j]?)→l.length=4→wpList Tryz.prog ops8 Q l A w→wpOps Tryz.prog ops8 Q [5,6,7,8] A w:=fun l Q A h1 h2 h=>by
  have:=wpOps_eq_wpList (P:=Tryz.prog) (Q:=Q) (ops:=ops8) l 5 h1
  rw[h2] at this
  have e:List.range' 5 4=[5,6,7,8]:=rfl
  rw[e] at this
  rw[this]
  exact h
 refine hw (ops8.toList.drop 5) _ _ (fun j=>by simp) (by simp[ops8,rest8,Tryz.f8]) ?_
 simp only[ops8,rest8,Tryz.f8,Option.getD_some,List.drop,Po.wpC]
 clear hw
 generalize s 0=s0,s 1=s1,s 2=s2,s 3=s3,s 4=s4,s 5=s5,s 6=s6,s 7=s7,s 8=s8,s 9=s9,s 10=s10,s 11=s11,s 12=s12,s 13=s13,s 14=s14,s 15=s15,s 16=s16,s 17=s17,s 18=s18,s 19=s19,s 20=s20,s 21=s21
 go_wp2
 go_ret2
 exact⟨_,rfl,rfl,rfl⟩
theorem rest8_t:todoT lx PP 8 (.inRegion ops8 [5,6,7,8] :: [Code.ret].map Item.code):=by
 intro x hx
 simp only[List.map_cons,List.map_nil,List.mem_cons,List.not_mem_nil,or_false] at hx
 rcases hx with rfl|rfl<;>decide +kernel
def MovG (xs:List ByteArray)(ys:Nat→List ByteArray)(n:Int)(i:Nat)(k:Int)(c:Nat)(pl:Int):Prop:=MovFault xs (ys i) n c pl∧(c=0→∃m:Nat,n=m∧k=(mv xs (ys i) m m:Nat))
theorem movQ_err {a:Nat→Addr}{xs ys:List ByteArray}{n k:Int}{e:Value}{W:World}(h:MovQ a xs ys n (.int .i64 k) e W):∃c pl,(MovFault xs ys n c pl∧(c=0→∃m:Nat,n=m∧k=(mv xs ys m m:Nat)))∧ErrIs a W c pl e:=by
 obtain⟨c,pl,hf,⟨rfl,⟨m,rfl,hx⟩,rfl⟩|⟨hc,hx,he⟩⟩:=h
 ·refine⟨0,pl,⟨hf,fun _=>⟨m,rfl,?_⟩⟩,?_⟩
  ·injection hx
  ·rcases hf with⟨_,h⟩|⟨_,h⟩
   ·exact absurd rfl h
   ·exact .inl ⟨rfl,(tabFault_zero h).1,rfl⟩
 ·exact⟨c,pl,⟨hf,fun h=>absurd h hc⟩,he⟩
set_option maxHeartbeats 4000000 in
theorem moves_rch (a:Nat→Addr){v:World}(va vl:Value)(N:Nat)(vb:Nat→Value)(xs:List ByteArray)(ys:Nat→List ByteArray)(n wk:Int)(he:Errs a v)(hA:Row0 v va xs)(hL:Rows0 v vl N vb)(hB:∀i,i<N→Row0 v (vb i) (ys i))(z:MovSz N xs ys n)(hN:N<1000000)(hG:PP.globals.size≤v.heap.size)(c:Frame)(cs:List Frame) :
  Rch (Gr (Frame.enter PP 8 #[va,vl,.int .i64 n,.int .i64 wk] .normal) (c :: cs)) v (fun g' v'=>∃u,g'=Gr (c.finish u) cs∧Bel v.heap.size v v'∧SdR a (chkN (N:Nat) 100 wk) N (MovG xs ys n) v.heap.size u v'):=by
 obtain⟨pa,la,ca,rfl⟩:=row0_form hA
 obtain⟨pl,cl,rfl⟩:=rows0_form hL
 rw[enter8]
 by_cases hc:chkN (N:Nat) 100 wk=0
 ·obtain⟨k,rfl,hk1,hk2⟩:∃k:Nat,wk=k∧1≤k∧k≤16:=by
   unfold chkN at hc
   split at hc
   ·cases hc
   ·exact⟨wk.toNat,by omega,by omega,by omega⟩
  refine (Rch.piece (f:=8) ⟨_,Tryz.func8⟩ (fun s hs=>by cases hs) (k:=[]) (G:=[.code (cut8 .skip)]) (K:=[.code (Tryz.f8.body.getD .skip)]) (T:=[.code rest8]) todoT.nil (.cut rfl cut8_c)
   (R:=fun f1 t1 v1=>f1=8∧t1=#[.slice pa la ca,.slice pl N cl,.int .i64 n,.int .i64 (k:Nat),.pointer (some ⟨v.heap.size,0,none⟩),.pointer (some ⟨v.heap.size+1,0,none⟩),.pointer (some ⟨v.heap.size+2,0,none⟩),undef,.slice none 0 0,.nilIface,.nilIface,.slice pl N cl,.int .i64 (N:Nat),.int .i64 (k:Nat),.nilIface,.nilIface,.bool false,undef,undef,undef,undef,undef,undef,undef,undef]∧Bel v.heap.size v v1∧v1.cell? ⟨v.heap.size,0,none⟩=some (.slice pa la ca)∧v1.cell? ⟨v.heap.size+1,0,none⟩=some (.slice pl N cl)∧v1.cell? ⟨v.heap.size+2,0,none⟩=some (.int .i64 n))
   (fun τ d=>by
    obtain⟨t1,v',hs,ht,hb,h⟩:=steps_of_wp (f:=8) (R:=fun t1 v1=>t1=_∧Below v.heap.size (on v τ d) v1∧v1.cell? ⟨v.heap.size,0,none⟩=some (.slice pa la ca)∧v1.cell? ⟨v.heap.size+1,0,none⟩=some (.slice pl N cl)∧v1.cell? ⟨v.heap.size+2,0,none⟩=some (.int .i64 n)) (begin8 a pa pl la ca N cl n (k:Nat) (on v τ d) (errs_on he τ d) hc)
    exact⟨_,t1,v',hs,rfl,ht,.ofOn hb,h⟩)).bind ?_
  rintro g1 v1 ⟨f1,t1,rfl,rfl,rfl,hb1,c0,c1,c2⟩
  refine (Rch.to (to_answers8 pa pl la ca N cl n k v.heap.size (v.heap.size+1) (v.heap.size+2) c1 (c :: cs))).bind ?_
  rintro g2 v2 ⟨rfl,rfl⟩
  have hIn:MovIn a v2 v.heap.size (v.heap.size+1) (v.heap.size+2) (.slice pa la ca) (.slice pl N cl) N vb xs ys n:=⟨errs_bel he hb1,c0,c1,c2,row0_seen hA hb1.seen,rows0_seen hL hb1.seen,fun i hi=>row0_seen (hB i hi) hb1.seen⟩
  have hE2:Errs a v2:=errs_bel he hb1
  refine (Rch.answers N k hN hk1 (by omega) 20 #[.pointer (some ⟨v.heap.size,0,none⟩),.pointer (some ⟨v.heap.size+1,0,none⟩),.pointer (some ⟨v.heap.size+2,0,none⟩)] (inT (movT a v.heap.size (v.heap.size+1) (v.heap.size+2) (.slice pa la ca) (.slice pl N cl) N vb)) (fun b=>some (tk (movT a v.heap.size (v.heap.size+1) (v.heap.size+2) (.slice pa la ca) (.slice pl N cl) N vb) b)) (movR a xs ys n)
   (fun b hb=>by
    obtain⟨m,hm⟩:=hb
    obtain⟨x,e,f,h1,_⟩:=hIn.knows (Ok:=⟨fun _=>False,0,fun _=>False,fun _=>False⟩) b m hm
    exact⟨x,e,f,h1⟩)
   (fun J h1 h2 h3 h4 h5 h6 hs hbase Ge=>by
    subst h3
    exact tasks_moves Ge h1 h2 h4 h5 h6 (by have:=hb1.size;omega) ⟨errs_seen hE2 hs,hs.cell c0,hs.cell c1,hs.cell c2,row0_seen hIn.sa hs,rows0_seen hIn.sl hs,fun i hi=>row0_seen (hIn.sb i hi) hs⟩ z)
   a hE2 (MovG xs ys n)
   (fun J own w' W hS hR hW i k e D=>movQ_err (moved hR (fun j h1 h5=>by
    rw[hS]
    refine⟨0,mov_er ?_⟩
    have:j=1∨j=2∨j=3∨j=4∨j=5:=by omega
    rcases this with rfl|rfl|rfl|rfl|rfl<;>simp[errT]) D hW))).bind ?_
  rintro g3 v3 ⟨u,ks,cs_,pls,rfl,hg,hb3,hAns⟩
  rw[fr8_finish]
  have hb:Bel v.heap.size v v3:=hb1.trans hb3 hb1.size
  obtain⟨x,ev,rfl⟩:∃x ev,u=.tuple #[x,ev]:=by
   rcases hAns with⟨_,x,h,_⟩|⟨_,_,_,_,ev,h,_⟩
   ·exact⟨_,_,h⟩
   ·exact⟨_,_,h⟩
  refine (Rch.tail0 (R:=fun u v'=>u=.tuple #[x,ev]∧v'.heap=v3.heap∧v'.os=v3.os∧v'.output=v3.output) ⟨_,Tryz.func8⟩ (fun s hs=>by cases hs) rest8_t (fun τ d=>by
   obtain⟨fr,v',u',_,h1,h2,h3,h4⟩:=region_leaves (R:=fun u w'=>u=.tuple #[x,ev]∧w'=on v3 τ d) Tryz.func8 (end8 _ x ev (on v3 τ d) (fun i=>(#[.slice pa la ca,.slice pl N cl,.int .i64 n,.int .i64 (k:Nat),.pointer (some ⟨v.heap.size,0,none⟩),.pointer (some ⟨v.heap.size+1,0,none⟩),.pointer (some ⟨v.heap.size+2,0,none⟩),undef,.slice none 0 0,.nilIface,.nilIface,.slice pl N cl,.int .i64 (N:Nat),.int .i64 (k:Nat),.nilIface,.nilIface,.bool false,undef,.slice pl N cl,.int .i64 (N:Nat),.int .i64 (k:Nat),.func (.func 20) #[] #[.pointer (some ⟨v.heap.size,0,none⟩),.pointer (some ⟨v.heap.size+1,0,none⟩),.pointer (some ⟨v.heap.size+2,0,none⟩)]]:Array Value).getD i undef) rfl)
   exact⟨fr,v',u',h1,h2,h3,by rw[h4],by rw[h4],by rw[h4]⟩)).mono ?_
  rintro g4 v4 ⟨u,rfl,rfl,q1,q2,q3⟩
  have hb4:Bel v3.heap.size v3 v4:=⟨q2,q3,by rw[q1];exact Nat.le_refl _,fun _ _=>by rw[q1]⟩
  refine⟨_,rfl,hb.trans hb4 hb.size,.inr ⟨hc,ks,cs_,pls,hg,?_⟩⟩
  rcases hAns with⟨h1,x',h2,h3⟩|⟨j,h1,h2,h3,ev',h4,h5⟩
  ·refine .inl ⟨h1,x',h2,?_⟩
   have h3':=owns_less h3 hb1.size
   obtain⟨hl,h|⟨g,cap,cur,r1,r2,r3,r4⟩⟩:=h3'
   ·exact⟨hl,.inl h⟩
   ·exact⟨hl,.inr ⟨g,cap,cur,r1,r2,by rw[q1];exact r3,r4⟩⟩
  ·refine .inr ⟨j,h1,h2,h3,ev',h4,?_⟩
   rcases h5 with h|⟨i,hi,hc,h|⟨b,r1,r2,r3⟩⟩
   ·exact .inl h
   ·exact .inr ⟨i,hi,hc,.inl h⟩
   ·exact .inr ⟨i,hi,hc,.inr ⟨b,r1,hb4.seen.cell r2,hb4.seen.cell r3⟩⟩
 ·refine (Rch.tail (R:=fun u v'=>Told a (chkN (N:Nat) 100 wk) u v'∧Bel v.heap.size v v') (f:=8) ⟨_,Tryz.func8⟩ (fun s hs=>by cases hs) (k:=[]) (G:=[.code (cut8 (.loop .skip))]) (K:=[.code (Tryz.f8.body.getD .skip)]) todoT.nil (.stop rfl cut8_s) (fun τ d=>by
   obtain⟨fr,v',u,_,h1,h2,h3,h4⟩:=code_leaves (R:=fun u w'=>Told a (chkN (N:Nat) 100 wk) u w'∧Below v.heap.size (on v τ d) w') Tryz.func8 (bad8 a pa pl la ca N cl n wk (on v τ d) (errs_on he τ d) hc)
   exact⟨fr,v',u,h1,h2,h3,.ofOn h4⟩)).mono ?_
  rintro g4 v4 ⟨u,rfl,h1,h2⟩
  exact⟨u,rfl,h2,.inl ⟨hc,h1⟩⟩
end Go.Proofs.YtjeicikflkjacaaGreatDoor.Sh
