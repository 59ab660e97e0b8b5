/- side.Buckets, called beside leavers. -/
import Derived.Test.YtjeicikflkjacaaGreatDoorM47
import Derived.Test.YtjeicikflkjacaaGreatDoorM5
import Derived.Test.YtjeicikflkjacaaGreatDoorM4
set_option linter.unusedSimpArgs false
set_option linter.unusedVariables false
namespace Go.Proofs.YtjeicikflkjacaaGreatDoor.Sh
open Go Go.Conc Go.Conc.Lib Go.RowKit Go.ConcN
open Ms Po
open Par (Fm Gr on stopper LocIn)
noncomputable def cut14 (e:Code):Code:=match Tryz.f14.body.getD .skip with|.seq a (.seq b _)=>.seq a (.seq b e)|_=>.skip
noncomputable def rest14:Code:=match Tryz.f14.body.getD .skip with|.seq _ (.seq _ c)=>c|_=>.skip
noncomputable def ops14:Array Oper:=match rest14 with|.seq (.region _ o _) _=>o|_=>#[]
set_option maxRecDepth 100000 in
set_option maxHeartbeats 4000000 in
theorem begin14 (a:Nat→Addr)(pk:Option Addr)(N ck:Nat)(n:Int)(wk:Int)(w:World)(he:Errs a w)(hc:chkN (N:Nat) 500 wk=0) :
  (cut14 .skip).wp Tryz.prog (fun e b w'=>e=.normal∧b.defers=[]∧b.tmps=#[.slice pk N ck,.int .i64 n,.int .i64 wk,.pointer (some ⟨w.heap.size,0,none⟩),.pointer (some ⟨w.heap.size+1,0,none⟩),undef,.slice none 0 0,.nilIface,.nilIface,.slice pk N ck,.int .i64 (N:Nat),.int .i64 wk,.nilIface,.nilIface,.bool false,undef,undef,undef,undef,undef,undef,undef,undef] ∧
   Below w.heap.size w w'∧w'.cell? ⟨w.heap.size,0,none⟩=some (.slice pk N ck)∧w'.cell? ⟨w.heap.size+1,0,none⟩=some (.int .i64 n)) ⟨#[.slice pk N ck,.int .i64 n,.int .i64 wk,undef,undef,undef,undef,undef,undef,undef,undef,undef,undef,undef,undef,undef,undef,undef,undef,undef,undef,undef,undef],[]⟩ w:=by
 have HC:Hid (∀W,Errs a W→Calls Tryz.prog 18 #[.int .i64 (N:Nat),.int .i64 500,.int .i64 wk] W fun e w'=>e=.returned .nilIface∧Below W.heap.size W w'):=fun W hW=>(scheck_any a (N:Nat) 500 wk W hW).mono fun e w' ⟨ev,h1,h2,h3⟩=>by
  rw[hc] at h2
  exact⟨by rw[h1,errIs_zero h2],h3⟩
 have HE:Hid (Errs a w):=he
 clear he
 simp only[cut14,Tryz.f14,Option.getD_some]
 have hb3:Below w.heap.size w ((w.alloc (.cells #[.slice pk N ck] 41)).alloc (.cells #[.int .i64 n] 3)):=((Below.refl _ _).alloc (Nat.le_refl _) _).alloc (by simp) _
 have k0:((w.alloc (.cells #[.slice pk N ck] 41)).alloc (.cells #[.int .i64 n] 3)).cell? ⟨w.heap.size,0,none⟩=some (.slice pk N ck):=by
  rw[World.cell?_alloc_lt _ _ _ (by simp)];simp
 have k1:((w.alloc (.cells #[.slice pk N ck] 41)).alloc (.cells #[.int .i64 n] 3)).cell? ⟨w.heap.size+1,0,none⟩=some (.int .i64 n):=by
  simp
 go_wp2_with fail
 generalize ((w.alloc (.cells #[.slice pk N ck] 41)).alloc (.cells #[.int .i64 n] 3))=W3 at *
 refine (HC.out W3 (HE.out.later hb3)).mono ?_
 rintro e w1 ⟨rfl,hb1⟩
 have c0:=below_cell hb1 k0
 have c1:=below_cell hb1 k1
 have hb:=below_then hb3 hb1
 clear hb1 hb3 k0 k1 HC HE
 go_wp2
set_option maxRecDepth 100000 in
set_option maxHeartbeats 4000000 in
theorem bad14 (a:Nat→Addr)(pk:Option Addr)(N ck:Nat)(n:Int)(wk:Int)(w:World)(he:Errs a w)(hc:chkN (N:Nat) 500 wk≠0) :
  (cut14 (.loop .skip)).wp Tryz.prog (bodyPost Tryz.prog Tryz.f14 (fun e w'=>∃u,e=.returned u∧Told a (chkN (N:Nat) 500 wk) u w'∧Below w.heap.size w w')) ⟨#[.slice pk N ck,.int .i64 n,.int .i64 wk,undef,undef,undef,undef,undef,undef,undef,undef,undef,undef,undef,undef,undef,undef,undef,undef,undef,undef,undef,undef],[]⟩ w:=by
 generalize hcc:chkN (N:Nat) 500 wk=cc at hc
 have HC:Hid (∀W,Errs a W→Calls Tryz.prog 18 #[.int .i64 (N:Nat),.int .i64 500,.int .i64 wk] W fun e w'=>∃ev,e=.returned ev∧ErrIs a w' cc (-1) ev∧Below W.heap.size W w'):=fun W hW=>by
  have:=scheck_any a (N:Nat) 500 wk W hW
  rw[hcc] at this
  exact this
 have HE:Hid (Errs a w):=he
 clear he hcc
 simp only[cut14,Tryz.f14,Option.getD_some]
 have hb3:Below w.heap.size w ((w.alloc (.cells #[.slice pk N ck] 41)).alloc (.cells #[.int .i64 n] 3)):=((Below.refl _ _).alloc (Nat.le_refl _) _).alloc (by simp) _
 go_wp2_with fail
 generalize ((w.alloc (.cells #[.slice pk N ck] 41)).alloc (.cells #[.int .i64 n] 3))=W3 at *
 refine (HC.out W3 (HE.out.later hb3)).mono ?_
 rintro e w1 ⟨ev,rfl,hev,hb1⟩
 have hb:=below_then hb3 hb1
 have HEV:Hid (ErrIs a w1 cc (-1) ev):=hev
 obtain⟨t1,x1,rfl⟩:=errIs_pos hev hc
 clear hb1 hb3 hev HC HE
 go_wp2
 go_ret2
 exact⟨_,rfl,⟨_,rfl,HEV.out⟩,hb⟩
noncomputable abbrev S14 (cs:List Frame) (t:Array Value) (k:List Item):Goroutine:=G ((base 14).at ⟨t,[]⟩ k) cs
noncomputable def fr14 (sk:Value)(n:Int)(wk N bk bn:Nat):Frame:=Fm 14 #[sk,.int .i64 n,.int .i64 (wk:Nat),.pointer (some ⟨bk,0,none⟩),.pointer (some ⟨bn,0,none⟩),undef,.slice none 0 0,.nilIface,.nilIface,sk,.int .i64 (N:Nat),.int .i64 (wk:Nat),.nilIface,.nilIface,.bool false,undef,sk,.int .i64 (N:Nat),.int .i64 (wk:Nat),.func (.func 27) #[] #[.pointer (some ⟨bk,0,none⟩),.pointer (some ⟨bn,0,none⟩)],undef,undef,undef] [.inRegion ops14 [4,5,6,7,8],.code .ret] .run
theorem fr14_finish (sk:Value)(n:Int)(wk N bk bn:Nat)(v:Value):(fr14 sk n wk N bk bn).finish v=Fm 14 #[sk,.int .i64 n,.int .i64 (wk:Nat),.pointer (some ⟨bk,0,none⟩),.pointer (some ⟨bn,0,none⟩),undef,.slice none 0 0,.nilIface,.nilIface,sk,.int .i64 (N:Nat),.int .i64 (wk:Nat),.nilIface,.nilIface,.bool false,undef,sk,.int .i64 (N:Nat),.int .i64 (wk:Nat),.func (.func 27) #[] #[.pointer (some ⟨bk,0,none⟩),.pointer (some ⟨bn,0,none⟩)],v,undef,undef] (.inRegion ops14 [5,6,7,8] :: [Code.ret].map Item.code) .run:=by
 have:=Frame.finish_at (b:=base 14) (a:=⟨#[sk,.int .i64 n,.int .i64 (wk:Nat),.pointer (some ⟨bk,0,none⟩),.pointer (some ⟨bn,0,none⟩),undef,.slice none 0 0,.nilIface,.nilIface,sk,.int .i64 (N:Nat),.int .i64 (wk:Nat),.nilIface,.nilIface,.bool false,undef,sk,.int .i64 (N:Nat),.int .i64 (wk:Nat),.func (.func 27) #[] #[.pointer (some ⟨bk,0,none⟩),.pointer (some ⟨bn,0,none⟩)],undef,undef,undef],[]⟩) (ops:=ops14) (i:=4) (rest:=[5,6,7,8]) (k:=[.code .ret]) (v:=v)
 refine this.trans ?_
 rfl
set_option maxRecDepth 100000 in
set_option maxHeartbeats 8000000 in
theorem to_answers14 {v:World}(pk:Option Addr)(N ck:Nat)(n:Int)(k bk bn:Nat)(hl:v.cell? ⟨bk,0,none⟩=some (.slice pk N ck))(cs:List Frame):To PP true (SeenIn v) (EvSeen v) (fun g=>g=Gr (Frame.enter PP 19 #[.int .i64 (N:Nat),.int .i64 (k:Nat),.func (.func 27) #[] #[.pointer (some ⟨bk,0,none⟩),.pointer (some ⟨bn,0,none⟩)]] .normal) (fr14 (.slice pk N ck) n k N bk bn :: cs))
  (S14 cs #[.slice pk N ck,.int .i64 n,.int .i64 (k:Nat),.pointer (some ⟨bk,0,none⟩),.pointer (some ⟨bn,0,none⟩),undef,.slice none 0 0,.nilIface,.nilIface,.slice pk N ck,.int .i64 (N:Nat),.int .i64 (k:Nat),.nilIface,.nilIface,.bool false,undef,undef,undef,undef,undef,undef,undef,undef] [.code rest14]):=by
 simp only[fr14,ops14,rest14,S14,Tryz.f14,Option.getD_some]
 refine To.ctl rfl (fun _ _=>stepG_seq) ?_
 refine To.ctl rfl (fun _ _=>stepG_region) ?_;simp only[List.size_toArray,List.length_cons,List.length_nil,Nat.reduceAdd,Nat.zero_add,List.range,List.range.loop]
 refine To.load (ad:=⟨bk,0,none⟩) (.slice pk N ck) rfl rfl (by k_ne) (fun w hB=>by have h1:=hB.cell hl;go_simp) (fun w hB=>by have h1:=hB.cell hl;simp[go_sem,h1]) (by kernel_rfl) (by obtain⟨x,e,f,q1,_⟩:=cell_row hl;exact⟨_,x,e,f,rfl,q1⟩) ?_
 walk_nrm
 repeat (first
  | (refine To.value _ rfl rfl (by k_ne) (fun _ _=>by go_simp<;>rfl) (fun _ _=>by first|(simp[go_sem];done)) ?_;walk_nrm))
 refine To.call rfl rfl (by k_ne) rfl Tryz.func19 (by kernel_rfl) (show Tryz.f19.body=some (Tryz.f19.body.getD .skip) from by kernel_rfl) ?_
 refine To.nil ?_
 rw[enter19]
 have h2:Tryz.f19.ntmps=38:=by kernel_rfl
 generalize Tryz.f19.body.getD .skip=bd
 rw[h2]
 simp only[List.map_toArray,List.map_cons,List.map_nil,List.size_toArray,List.length_cons,List.length_nil,Nat.reduceAdd,Nat.reduceSub]
 rw[rep35]
 rfl
theorem rep20 (x y z:Value):(#[x,y,z]++Array.replicate 20 undef:Array Value)=#[x,y,z,undef,undef,undef,undef,undef,undef,undef,undef,undef,undef,undef,undef,undef,undef,undef,undef,undef,undef,undef,undef]:=by
 rw[←Array.toList_inj]
 simp[List.replicate]
theorem enter14 (x y z:Value):Frame.enter PP 14 #[x,y,z] .normal=Fm 14 #[x,y,z,undef,undef,undef,undef,undef,undef,undef,undef,undef,undef,undef,undef,undef,undef,undef,undef,undef,undef,undef,undef] [.code (Tryz.f14.body.getD .skip)] .run:=by
 have h1:PP.funcs[14]?=some Tryz.f14:=Tryz.func14
 have h2:Tryz.f14.ntmps=23:=by kernel_rfl
 have h3:Tryz.f14.body=some (Tryz.f14.body.getD .skip):=by kernel_rfl
 rw[←rep20]
 generalize hb:Tryz.f14.body.getD .skip=bd at h3
 unfold Frame.enter
 rw[h1]
 simp only[Option.map_some,Option.getD_some,Option.bind_some,h2,h3]
 rfl
theorem cut14_c:CutC lx PP 14 rest14 (cut14 .skip) (Tryz.f14.body.getD .skip):=by
 simp only[cut14,rest14,Tryz.f14,Option.getD_some]
 exact .seq (by decide +kernel) (.seq (by decide +kernel) .here)
theorem cut14_s:CutS lx PP 14 (cut14 (.loop .skip)) (Tryz.f14.body.getD .skip):=by
 simp only[cut14,Tryz.f14,Option.getD_some]
 exact .seq (by decide +kernel) (.seq (by decide +kernel) (.here _))
set_option maxRecDepth 100000 in
set_option maxHeartbeats 4000000 in
theorem end14 (t:Array Value)(x ev:Value)(w:World)(s:Nat→Value)(ht:t=#[s 0,s 1,s 2,s 3,s 4,s 5,s 6,s 7,s 8,s 9,s 10,s 11,s 12,s 13,s 14,s 15,s 16,s 17,s 18,s 19,.tuple #[x,ev],undef,undef]) :
  wpOps Tryz.prog ops14 (Exit.then (Po.wpC Tryz.prog (bodyPost Tryz.prog Tryz.f14 (fun e w'=>∃u,e=.returned u∧u=.tuple #[x,ev]∧w'=w)) [.ret]) (bodyPost Tryz.prog Tryz.f14 (fun e w'=>∃u,e=.returned u∧u=.tuple #[x,ev]∧w'=w))) [5,6,7,8] ⟨t,[]⟩ w:=by
 subst ht
 have hw:∀(l:List Oper) (Q:Exit→Act→World→Prop) (A:Act),(∀j,l[j]?=ops14[5+j]?)→l.length=4→wpList Tryz.prog ops14 Q l A w→wpOps Tryz.prog ops14 Q [5,6,7,8] A w:=fun l Q A h1 h2 h=>by
  have:=wpOps_eq_wpList (P:=Tryz.prog) (Q:=Q) (ops:=ops14) l 5 h1
  rw[h2] at this
  have e:List.range' 5 4=[5,6,7,8]:=rfl
  rw[e] at this
  rw[this]
  exact h
 refine hw (ops14.toList.drop 5) _ _ (fun j=>by simp) (by simp[ops14,rest14,Tryz.f14]) ?_
 simp only[ops14,rest14,Tryz.f14,Option.getD_some,List.drop,Po.wpC]
 clear hw
 generalize s 0=s0,s 1=s1,s 2=s2,s 3=s3,s 4=s4,s 5=s5,s 6=s6,s 7=s7,s 8=s8,s 9=s9,s 10=s10,s 11=s11,s 12=s12,s 13=s13,s 14=s14,s 15=s15,s 16=s16,s 17=s17,s 18=s18,s 19=s19
 go_wp2
 go_ret2
 exact⟨_,rfl,rfl,rfl⟩
theorem rest14_t:todoT lx PP 14 (.inRegion ops14 [5,6,7,8] :: [Code.ret].map Item.code):=by
 intro x hx
 simp only[List.map_cons,List.map_nil,List.mem_cons,List.not_mem_nil,or_false] at hx
 rcases hx with rfl|rfl<;>decide +kernel
theorem keys0_seen {v w:World}{u:Value}{ks:List Nat}(h:Keys0 v u ks)(hs:SeenIn v w):Keys0 w u ks:=by
 rcases h with h|⟨g,cap,cur,e,f,h1,h3,h4⟩
 ·exact .inl h
 ·exact .inr ⟨g,cap,cur,e,f,h1,hs _ _ _ _ h3,h4⟩
theorem keys0_form {v:World}{u:Value}{ks:List Nat}(h:Keys0 v u ks):∃p c,u=.slice p ks.length c:=by
 rcases h with⟨h,rfl⟩|⟨g,cap,cur,e,f,h1,_⟩
 ·exact⟨_,_,h⟩
 ·exact⟨_,_,h1⟩
def BucG (ks:List Nat)(n:Int)(i:Nat)(k:Int)(c:Nat)(pl:Int):Prop:=(c=0∧∃m:Nat,n=m∧1≤m∧m≤1048576∧k=(Lh.jb (ks.getD i 0) m:Nat))∨(c=2∧(n<1∨1048576<n))
theorem bucQ_err {a:Nat→Addr}{x:Nat}{n k:Int}{e:Value}{W:World}(h:BucQ a x n (.int .i64 k) e W):∃c pl,((c=0∧∃m:Nat,n=m∧1≤m∧m≤1048576∧k=(Lh.jb x m:Nat))∨(c=2∧(n<1∨1048576<n)))∧ErrIs a W c pl e:=by
 rcases h with⟨m,rfl,h1,h2,hx,rfl⟩|⟨h1,hx,rfl⟩
 ·refine⟨0,-1,.inl ⟨rfl,m,rfl,h1,h2,?_⟩,.inl ⟨rfl,rfl,rfl⟩⟩
  injection hx
 ·exact⟨2,-1,.inr ⟨rfl,h1⟩,.inr ⟨1,by omega,rfl,.inl ⟨rfl,rfl⟩⟩⟩
set_option maxHeartbeats 4000000 in
theorem buckets_rch (a:Nat→Addr){v:World}(vk:Value)(xs:List Nat)(n wk:Int)(he:Errs a v)(hK:Keys0 v vk xs)(hN:xs.length<1000000)(hG:PP.globals.size≤v.heap.size)(c:Frame)(cs:List Frame) :
  Rch (Gr (Frame.enter PP 14 #[vk,.int .i64 n,.int .i64 wk] .normal) (c :: cs)) v (fun g' v'=>∃u,g'=Gr (c.finish u) cs∧Bel v.heap.size v v'∧SdR a (chkN (xs.length:Nat) 500 wk) xs.length (BucG xs n) v.heap.size u v'):=by
 obtain⟨pk,ck,rfl⟩:=keys0_form hK
 generalize hNN:xs.length=N at *
 rw[enter14]
 by_cases hc:chkN (N:Nat) 500 wk=0
 ·obtain⟨k,rfl,hk1,hk2⟩:∃k:Nat,wk=k∧1≤k∧k≤16:=by
   unfold chkN at hc
   split at hc
   ·cases hc
   ·exact⟨wk.toNat,by omega,by omega,by omega⟩
  refine (Rch.piece (f:=14) ⟨_,Tryz.func14⟩ (fun s hs=>by cases hs) (k:=[]) (G:=[.code (cut14 .skip)]) (K:=[.code (Tryz.f14.body.getD .skip)]) (T:=[.code rest14]) todoT.nil (.cut rfl cut14_c)
   (R:=fun f1 t1 v1=>f1=14∧t1=#[.slice pk N ck,.int .i64 n,.int .i64 (k:Nat),.pointer (some ⟨v.heap.size,0,none⟩),.pointer (some ⟨v.heap.size+1,0,none⟩),undef,.slice none 0 0,.nilIface,.nilIface,.slice pk N ck,.int .i64 (N:Nat),.int .i64 (k:Nat),.nilIface,.nilIface,.bool false,undef,undef,undef,undef,undef,undef,undef,undef]∧Bel v.heap.size v v1∧v1.cell? ⟨v.heap.size,0,none⟩=some (.slice pk N ck)∧v1.cell? ⟨v.heap.size+1,0,none⟩=some (.int .i64 n))
   (fun τ d=>by
    obtain⟨t1,v',hs,ht,hb,h⟩:=steps_of_wp (f:=14) (R:=fun t1 v1=>t1=_∧Below v.heap.size (on v τ d) v1∧v1.cell? ⟨v.heap.size,0,none⟩=some (.slice pk N ck)∧v1.cell? ⟨v.heap.size+1,0,none⟩=some (.int .i64 n)) (begin14 a pk N ck n (k:Nat) (on v τ d) (errs_on he τ d) hc)
    exact⟨_,t1,v',hs,rfl,ht,.ofOn hb,h⟩)).bind ?_
  rintro g1 v1 ⟨f1,t1,rfl,rfl,rfl,hb1,c0,c1⟩
  refine (Rch.to (to_answers14 pk N ck n k v.heap.size (v.heap.size+1) c0 (c :: cs))).bind ?_
  rintro g2 v2 ⟨rfl,rfl⟩
  have hIn:BucIn a v2 v.heap.size (v.heap.size+1) (.slice pk N ck) xs n:=⟨errs_bel he hb1,c0,c1,keys0_seen hK hb1.seen⟩
  have hE2:Errs a v2:=errs_bel he hb1
  refine (Rch.answers N k hN hk1 (by omega) 27 #[.pointer (some ⟨v.heap.size,0,none⟩),.pointer (some ⟨v.heap.size+1,0,none⟩)] (inT (bucT a v.heap.size (v.heap.size+1) (.slice pk N ck))) (fun b=>some (tk (bucT a v.heap.size (v.heap.size+1) (.slice pk N ck)) b)) (bucR a xs n)
   (fun b hb=>by
    obtain⟨m,hm⟩:=hb
    obtain⟨x,e,f,h1,_⟩:=hIn.knows (Ok:=⟨fun _=>False,0,fun _=>False,fun _=>False⟩) b m hm
    exact⟨x,e,f,h1⟩)
   (fun J h1 h2 h3 h4 h5 h6 hs hbase Ge=>tasks_buckets Ge h1 h2 (by rw[h3,hNN]) h4 h5 h6 (by have:=hb1.size;omega) ⟨errs_seen hE2 hs,hs.cell c0,hs.cell c1,keys0_seen hIn.sk hs⟩)
   a hE2 (BucG xs n)
   (fun J own w' W hS hR hW i k e D=>bucQ_err (bucketed hR (by
    rw[hS]
    exact⟨0,buc_er (by simp[errT])⟩) D W))).bind ?_
  rintro g3 v3 ⟨u,ks,cs_,pls,rfl,hg,hb3,hAns⟩
  rw[fr14_finish]
  have hb:Bel v.heap.size v v3:=hb1.trans hb3 hb1.size
  obtain⟨x,ev,rfl⟩:∃x ev,u=.tuple #[x,ev]:=by
   rcases hAns with⟨_,x,h,_⟩|⟨_,_,_,_,ev,h,_⟩
   ·exact⟨_,_,h⟩
   ·exact⟨_,_,h⟩
  refine (Rch.tail0 (R:=fun u v'=>u=.tuple #[x,ev]∧v'.heap=v3.heap∧v'.os=v3.os∧v'.output=v3.output) ⟨_,Tryz.func14⟩ (fun s hs=>by cases hs) rest14_t (fun τ d=>by
   obtain⟨fr,v',u',_,h1,h2,h3,h4⟩:=region_leaves (R:=fun u w'=>u=.tuple #[x,ev]∧w'=on v3 τ d) Tryz.func14 (end14 _ x ev (on v3 τ d) (fun i=>(#[.slice pk N ck,.int .i64 n,.int .i64 (k:Nat),.pointer (some ⟨v.heap.size,0,none⟩),.pointer (some ⟨v.heap.size+1,0,none⟩),undef,.slice none 0 0,.nilIface,.nilIface,.slice pk N ck,.int .i64 (N:Nat),.int .i64 (k:Nat),.nilIface,.nilIface,.bool false,undef,.slice pk N ck,.int .i64 (N:Nat),.int .i64 (k:Nat),.func (.func 27) #[] #[.pointer (some ⟨v.heap.size,0,none⟩),.pointer (some ⟨v.heap.size+1,0,none⟩)]]:Array Value).getD i undef) rfl)
   exact⟨fr,v',u',h1,h2,h3,by rw[h4],by rw[h4],by rw[h4]⟩)).mono ?_
  rintro g4 v4 ⟨u,rfl,rfl,q1,q2,q3⟩
  have hb4:Bel v3.heap.size v3 v4:=⟨q2,q3,by rw[q1];exact Nat.le_refl _,fun _ _=>by rw[q1]⟩
  refine⟨_,rfl,hb.trans hb4 hb.size,.inr ⟨hc,ks,cs_,pls,hg,?_⟩⟩
  rcases hAns with⟨h1,x',h2,h3⟩|⟨j,h1,h2,h3,ev',h4,h5⟩
  ·refine .inl ⟨h1,x',h2,?_⟩
   have h3':=owns_less h3 hb1.size
   obtain⟨hl,h|⟨g,cap,cur,r1,r2,r3,r4⟩⟩:=h3'
   ·exact⟨hl,.inl h⟩
   ·exact⟨hl,.inr ⟨g,cap,cur,r1,r2,by rw[q1];exact r3,r4⟩⟩
  ·refine .inr ⟨j,h1,h2,h3,ev',h4,?_⟩
   rcases h5 with h|⟨i,hi,hc,h|⟨b,r1,r2,r3⟩⟩
   ·exact .inl h
   ·exact .inr ⟨i,hi,hc,.inl h⟩
   ·exact .inr ⟨i,hi,hc,.inr ⟨b,r1,hb4.seen.cell r2,hb4.seen.cell r3⟩⟩
 ·refine (Rch.tail (R:=fun u v'=>Told a (chkN (N:Nat) 500 wk) u v'∧Bel v.heap.size v v') (f:=14) ⟨_,Tryz.func14⟩ (fun s hs=>by cases hs) (k:=[]) (G:=[.code (cut14 (.loop .skip))]) (K:=[.code (Tryz.f14.body.getD .skip)]) todoT.nil (.stop rfl cut14_s) (fun τ d=>by
   obtain⟨fr,v',u,_,h1,h2,h3,h4⟩:=code_leaves (R:=fun u w'=>Told a (chkN (N:Nat) 500 wk) u w'∧Below v.heap.size (on v τ d) w') Tryz.func14 (bad14 a pk N ck n wk (on v τ d) (errs_on he τ d) hc)
   exact⟨fr,v',u,h1,h2,h3,.ofOn h4⟩)).mono ?_
  rintro g4 v4 ⟨u,rfl,h1,h2⟩
  exact⟨u,rfl,h2,.inl ⟨hc,h1⟩⟩
end Go.Proofs.YtjeicikflkjacaaGreatDoor.Sh

/- Hosts and a size have one fault alone; a list of one host. -/
namespace Go.Proofs.YtjeicikflkjacaaGreatDoor.Sh
open Go.RowKit Lh
theorem isFault_one {xs:List ByteArray}{c c':Nat}{pl pl':Int}(h:IsFault xs c pl)(h':IsFault xs c' pl'):c=c'∧pl=pl':=by
 rcases h with⟨h1,rfl,rfl⟩|⟨h1,i,hi,hg,rfl,hb⟩|⟨h1,hg,rfl,rfl⟩<;>rcases h' with⟨k1,rfl,rfl⟩|⟨k1,j,hj,kg,rfl,kb⟩|⟨k1,kg,rfl,rfl⟩
 ·exact⟨rfl,rfl⟩
 ·exact absurd h1 k1
 ·exact absurd h1 k1
 ·exact absurd k1 h1
 ·have nb:∀ {i:Nat} (hi:i<xs.length) {c:Nat},((Lh.isNm xs[i]=false∧c=4)∨(Lh.isNm xs[i]=true∧Lh.mem xs[i] (xs.take i)=true∧c=6))→¬Good xs i hi:=fun hi c hb hgood=>by
   obtain⟨g1,g2⟩:=hgood
   rcases hb with⟨q,_⟩|⟨_,q,_⟩
   ·rw[g1] at q;cases q
   ·rw[g2] at q;cases q
  rcases Nat.lt_trichotomy i j with h|rfl|h
  ·exact absurd (kg i h hi) (nb hi hb)
  ·refine⟨?_,rfl⟩
   rcases hb with⟨a1,rfl⟩|⟨a1,a2,rfl⟩<;>rcases kb with⟨b1,rfl⟩|⟨b1,b2,rfl⟩
   ·rfl
   ·rw[a1] at b1;cases b1
   ·rw[a1] at b1;cases b1
   ·rfl
  ·exact absurd (hg j h hj) (nb hj kb)
 ·exfalso
  obtain⟨g1,g2⟩:=kg i hi
  rcases hb with⟨q,_⟩|⟨_,q,_⟩
  ·rw[g1] at q;cases q
  ·rw[g2] at q;cases q
 ·exact absurd k1 h1
 ·exfalso
  obtain⟨g1,g2⟩:=hg j hj
  rcases kb with⟨q,_⟩|⟨_,q,_⟩
  ·rw[g1] at q;cases q
  ·rw[g2] at q;cases q
 ·exact⟨rfl,rfl⟩
theorem sizeIs_one {n:Int}{e e':Nat}(h:SizeIs n e)(h':SizeIs n e'):e=e':=by
 rcases h with⟨h1,rfl⟩|⟨m,rfl,h2,h5,⟨hp,rfl⟩|⟨hp,rfl⟩⟩<;>rcases h' with⟨k1,rfl⟩|⟨m',hm,k2,k5,⟨kp,rfl⟩|⟨kp,rfl⟩⟩
 all_goals first|rfl|omega|skip
 all_goals
  obtain rfl:m=m':=by omega
  first|exact absurd kp hp|exact absurd hp kp
theorem tabFault_one {xs:List ByteArray}{n:Int}{c c':Nat}{pl pl':Int}(h:TabFault xs n c pl)(h':TabFault xs n c' pl'):c=c':=by
 rcases h with⟨rfl,rfl,_⟩|⟨h0,hf,hc⟩|⟨h0,hf,hs,_⟩<;>rcases h' with⟨k,rfl,_⟩|⟨k0,kf,kc⟩|⟨k0,kf,ks,_⟩
 ·rfl
 ·simp at k0
 ·simp at k0
 ·subst k;simp at h0
 ·exact (isFault_one hf kf).1
 ·exact absurd (isFault_one hf kf).1 hc
 ·subst k;simp at h0
 ·exact absurd (isFault_one kf hf).1 kc
 ·exact sizeIs_one hs ks
theorem prmThree:Lh.Prm 3:=by
 refine⟨by omega,fun k h1 h2=>?_⟩
 have:k=2:=by omega
 subst this
 decide
theorem one_fault {s:ByteArray}(h:Lh.isNm s=true):TabFault [s] 3 0 (-1):=by
 refine .inr (.inr ⟨by simp,.inr (.inr ⟨by simp,fun j hj=>?_,rfl,rfl⟩),.inr ⟨3,rfl,by omega,by omega,.inr ⟨prmThree,rfl⟩⟩,rfl⟩)
 have:j=0:=by simpa using hj
 subst this
 exact⟨h,rfl⟩
theorem owner_one (s:ByteArray){i:Nat}(hi:i<3):owner [s] 3 i=s:=by
 obtain⟨k,hk,e⟩:=Lh.tab_full (xs:=[s]) prmThree (by simp) hi
 have:k=0:=by simpa using hk
 subst this
 unfold owner
 rw[e]
 rfl
theorem mv_one_same (s:ByteArray):mv [s] [s] 3 3=0:=by
 rw[mv_same rfl,mv_same rfl,mv_same rfl,mv_zero]
theorem mv_one_other {s t:ByteArray}(h:s≠t):mv [s] [t] 3 3=3:=by
 have ho:∀i,i<3→owner [s] 3 i≠owner [t] 3 i:=fun i hi=>by rw[owner_one s hi,owner_one t hi];exact h
 rw[mv_other (ho 2 (by omega)),mv_other (ho 1 (by omega)),mv_other (ho 0 (by omega)),mv_zero]
end Go.Proofs.YtjeicikflkjacaaGreatDoor.Sh

/- abreast, called beside leavers. -/
set_option linter.unusedSimpArgs false
set_option linter.unusedVariables false
namespace Go.Proofs.YtjeicikflkjacaaGreatDoor.Sh
open Go Go.Conc Go.Conc.Lib Go.RowKit Go.ConcN
open Ms Po
open Par (Fm Gr on stopper LocIn)
noncomputable def ops5:Array Oper:=match Tryz.f5.body.getD .skip with|.seq _ (.seq (.region _ o _) _)=>o|_=>#[]
noncomputable def rest5:Code:=match Tryz.f5.body.getD .skip with|.seq _ (.seq _ c)=>c|_=>.skip
noncomputable abbrev S5 (cs:List Frame) (t:Array Value) (k:List Item):Goroutine:=G ((base 5).at ⟨t,[]⟩ k) cs
theorem rep18:(#[]++Array.replicate 18 undef:Array Value)=#[undef,undef,undef,undef,undef,undef,undef,undef,undef,undef,undef,undef,undef,undef,undef,undef,undef,undef]:=by
 rw[←Array.toList_inj]
 simp[List.replicate]
theorem enter5:Frame.enter PP 5 #[] .normal=Fm 5 #[undef,undef,undef,undef,undef,undef,undef,undef,undef,undef,undef,undef,undef,undef,undef,undef,undef,undef] [.code (Tryz.f5.body.getD .skip)] .run:=by
 have h1:PP.funcs[5]?=some Tryz.f5:=Tryz.func5
 have h2:Tryz.f5.ntmps=18:=by kernel_rfl
 have h3:Tryz.f5.body=some (Tryz.f5.body.getD .skip):=by kernel_rfl
 rw[←rep18]
 generalize hb:Tryz.f5.body.getD .skip=bd at h3
 unfold Frame.enter
 rw[h1]
 simp only[Option.map_some,Option.getD_some,Option.bind_some,h2,h3]
 rfl
section
variable {B:World→Prop} {Ev:Event→Prop} {cs:List Frame}
set_option maxRecDepth 100000 in
theorem to_build5:To PP true B Ev (fun g=>g=S5 cs #[.bool false,undef,undef,undef,undef,undef,undef,undef,undef,undef,undef,undef,undef,undef,undef,undef,undef,undef] [.inRegion ops5 [0,1,2,3,4,5,6,7,8,9],.code rest5]) (Gr (Frame.enter PP 5 #[] .normal) cs):=by
 rw[enter5]
 show To PP true B Ev _ (S5 cs #[undef,undef,undef,undef,undef,undef,undef,undef,undef,undef,undef,undef,undef,undef,undef,undef,undef,undef] [.code (Tryz.f5.body.getD .skip)])
 simp only[S5,ops5,rest5,Tryz.f5,Option.getD_some]
 refine To.ctl rfl (fun _ _=>stepG_seq) ?_
 refine To.ctl rfl (fun _ _=>stepG_region) ?_;simp only[List.size_toArray,List.length_cons,List.length_nil,Nat.reduceAdd,Nat.zero_add,List.range,List.range.loop]
 refine To.value _ rfl rfl (by k_ne) (fun _ _=>by go_simp<;>rfl) (fun _ _=>by first|(simp[go_sem];done)) ?_;walk_nrm
 refine To.ctl rfl (fun _ _=>stepG_region_end) ?_
 refine To.ctl rfl (fun _ _=>stepG_seq) ?_
 refine To.ctl rfl (fun _ _=>stepG_region) ?_;simp only[List.size_toArray,List.length_cons,List.length_nil,Nat.reduceAdd,Nat.zero_add,List.range,List.range.loop]
 exact To.nil rfl
set_option maxRecDepth 100000 in
theorem build5_0  (w:World):stepG PP true (S5 cs #[.bool false,undef,undef,undef,undef,undef,undef,undef,undef,undef,undef,undef,undef,undef,undef,undef,undef,undef] [.inRegion ops5 [0,1,2,3,4,5,6,7,8,9],.code rest5]) w=.go (S5 cs #[.bool false,undef,undef,undef,.slice (some ⟨w.heap.size,0,none⟩) 1 1,undef,undef,undef,undef,undef,undef,undef,undef,undef,undef,undef,undef,undef] [.inRegion ops5 [1,2,3,4,5,6,7,8,9],.code rest5]) (w.alloc (.cells #[.string ⟨#[97]⟩] 9)) #[]:=by
 have hr:∃o,ops5[0]?=some o∧Region.wanted o (yielded ops5 #[.bool false,undef,undef,undef,undef,undef,undef,undef,undef,undef,undef,undef,undef,undef,undef,undef,undef,undef])=true∧o.dst=some 4∧(execOp (Act.eval ⟨#[.bool false,undef,undef,undef,undef,undef,undef,undef,undef,undef,undef,undef,undef,undef,undef,undef,undef,undef],[]⟩) o).run PP w=.ok (.value (.slice (some ⟨w.heap.size,0,none⟩) 1 1)) (w.alloc (.cells #[.string ⟨#[97]⟩] 9))∧(execOp (Act.eval ⟨#[.bool false,undef,undef,undef,undef,undef,undef,undef,undef,undef,undef,undef,undef,undef,undef,undef,undef,undef],[]⟩) o).events PP w #[]=#[]:=by
  simp only[ops5,Tryz.f5,Option.getD_some]
  refine⟨_,rfl,rfl,rfl,?_,?_⟩
  ·go_simp
   try rfl
  ·simp[go_sem,Instr.buildSlice,newVar,newRow]
 obtain⟨o,h1,h2,h3,h4,h5⟩:=hr
 have:=stepG_value (P:=PP) (main:=true) (b:=base 5) (a:=⟨#[.bool false,undef,undef,undef,undef,undef,undef,undef,undef,undef,undef,undef,undef,undef,undef,undef,undef,undef],[]⟩) (k:=[.code rest5]) (cs:=cs) (w:=w) (w':=w.alloc (.cells #[.string ⟨#[97]⟩] 9)) (ops:=ops5) (i:=0) (rest:=[1,2,3,4,5,6,7,8,9]) h1 h2 (by k_ne) h4
 rw[S5,this]
 have hs:=congrArg (seen PP (base 5).fn) h5
 rw[seen_none] at hs
 rw[h3]
 exact congrArg (fun x=>GStep.go _ _ x) hs
set_option maxRecDepth 100000 in
theorem build5_1 (x:Nat)(w:World):stepG PP true (S5 cs #[.bool false,undef,undef,undef,.slice (some ⟨x,0,none⟩) 1 1,undef,undef,undef,undef,undef,undef,undef,undef,undef,undef,undef,undef,undef] [.inRegion ops5 [1,2,3,4,5,6,7,8,9],.code rest5]) w=.go (S5 cs #[.bool false,undef,undef,undef,.slice (some ⟨x,0,none⟩) 1 1,.slice (some ⟨w.heap.size,0,none⟩) 1 1,undef,undef,undef,undef,undef,undef,undef,undef,undef,undef,undef,undef] [.inRegion ops5 [2,3,4,5,6,7,8,9],.code rest5]) (w.alloc (.cells #[.string ⟨#[97]⟩] 9)) #[]:=by
 have hr:∃o,ops5[1]?=some o∧Region.wanted o (yielded ops5 #[.bool false,undef,undef,undef,.slice (some ⟨x,0,none⟩) 1 1,undef,undef,undef,undef,undef,undef,undef,undef,undef,undef,undef,undef,undef])=true∧o.dst=some 5∧(execOp (Act.eval ⟨#[.bool false,undef,undef,undef,.slice (some ⟨x,0,none⟩) 1 1,undef,undef,undef,undef,undef,undef,undef,undef,undef,undef,undef,undef,undef],[]⟩) o).run PP w=.ok (.value (.slice (some ⟨w.heap.size,0,none⟩) 1 1)) (w.alloc (.cells #[.string ⟨#[97]⟩] 9))∧(execOp (Act.eval ⟨#[.bool false,undef,undef,undef,.slice (some ⟨x,0,none⟩) 1 1,undef,undef,undef,undef,undef,undef,undef,undef,undef,undef,undef,undef,undef],[]⟩) o).events PP w #[]=#[]:=by
  simp only[ops5,Tryz.f5,Option.getD_some]
  refine⟨_,rfl,rfl,rfl,?_,?_⟩
  ·go_simp
   try rfl
  ·simp[go_sem,Instr.buildSlice,newVar,newRow]
 obtain⟨o,h1,h2,h3,h4,h5⟩:=hr
 have:=stepG_value (P:=PP) (main:=true) (b:=base 5) (a:=⟨#[.bool false,undef,undef,undef,.slice (some ⟨x,0,none⟩) 1 1,undef,undef,undef,undef,undef,undef,undef,undef,undef,undef,undef,undef,undef],[]⟩) (k:=[.code rest5]) (cs:=cs) (w:=w) (w':=w.alloc (.cells #[.string ⟨#[97]⟩] 9)) (ops:=ops5) (i:=1) (rest:=[2,3,4,5,6,7,8,9]) h1 h2 (by k_ne) h4
 rw[S5,this]
 have hs:=congrArg (seen PP (base 5).fn) h5
 rw[seen_none] at hs
 rw[h3]
 exact congrArg (fun x=>GStep.go _ _ x) hs
set_option maxRecDepth 100000 in
theorem build5_2 (x y:Nat)(w:World):stepG PP true (S5 cs #[.bool false,undef,undef,undef,.slice (some ⟨x,0,none⟩) 1 1,.slice (some ⟨y,0,none⟩) 1 1,undef,undef,undef,undef,undef,undef,undef,undef,undef,undef,undef,undef] [.inRegion ops5 [2,3,4,5,6,7,8,9],.code rest5]) w=.go (S5 cs #[.bool false,undef,undef,undef,.slice (some ⟨x,0,none⟩) 1 1,.slice (some ⟨y,0,none⟩) 1 1,.slice (some ⟨w.heap.size,0,none⟩) 1 1,undef,undef,undef,undef,undef,undef,undef,undef,undef,undef,undef] [.inRegion ops5 [3,4,5,6,7,8,9],.code rest5]) (w.alloc (.cells #[.string ⟨#[98]⟩] 9)) #[]:=by
 have hr:∃o,ops5[2]?=some o∧Region.wanted o (yielded ops5 #[.bool false,undef,undef,undef,.slice (some ⟨x,0,none⟩) 1 1,.slice (some ⟨y,0,none⟩) 1 1,undef,undef,undef,undef,undef,undef,undef,undef,undef,undef,undef,undef])=true∧o.dst=some 6∧(execOp (Act.eval ⟨#[.bool false,undef,undef,undef,.slice (some ⟨x,0,none⟩) 1 1,.slice (some ⟨y,0,none⟩) 1 1,undef,undef,undef,undef,undef,undef,undef,undef,undef,undef,undef,undef],[]⟩) o).run PP w=.ok (.value (.slice (some ⟨w.heap.size,0,none⟩) 1 1)) (w.alloc (.cells #[.string ⟨#[98]⟩] 9))∧(execOp (Act.eval ⟨#[.bool false,undef,undef,undef,.slice (some ⟨x,0,none⟩) 1 1,.slice (some ⟨y,0,none⟩) 1 1,undef,undef,undef,undef,undef,undef,undef,undef,undef,undef,undef,undef],[]⟩) o).events PP w #[]=#[]:=by
  simp only[ops5,Tryz.f5,Option.getD_some]
  refine⟨_,rfl,rfl,rfl,?_,?_⟩
  ·go_simp
   try rfl
  ·simp[go_sem,Instr.buildSlice,newVar,newRow]
 obtain⟨o,h1,h2,h3,h4,h5⟩:=hr
 have:=stepG_value (P:=PP) (main:=true) (b:=base 5) (a:=⟨#[.bool false,undef,undef,undef,.slice (some ⟨x,0,none⟩) 1 1,.slice (some ⟨y,0,none⟩) 1 1,undef,undef,undef,undef,undef,undef,undef,undef,undef,undef,undef,undef],[]⟩) (k:=[.code rest5]) (cs:=cs) (w:=w) (w':=w.alloc (.cells #[.string ⟨#[98]⟩] 9)) (ops:=ops5) (i:=2) (rest:=[3,4,5,6,7,8,9]) h1 h2 (by k_ne) h4
 rw[S5,this]
 have hs:=congrArg (seen PP (base 5).fn) h5
 rw[seen_none] at hs
 rw[h3]
 exact congrArg (fun x=>GStep.go _ _ x) hs
set_option maxRecDepth 100000 in
theorem build5_3 (x y z:Nat)(w:World):stepG PP true (S5 cs #[.bool false,undef,undef,undef,.slice (some ⟨x,0,none⟩) 1 1,.slice (some ⟨y,0,none⟩) 1 1,.slice (some ⟨z,0,none⟩) 1 1,undef,undef,undef,undef,undef,undef,undef,undef,undef,undef,undef] [.inRegion ops5 [3,4,5,6,7,8,9],.code rest5]) w=.go (S5 cs #[.bool false,undef,undef,undef,.slice (some ⟨x,0,none⟩) 1 1,.slice (some ⟨y,0,none⟩) 1 1,.slice (some ⟨z,0,none⟩) 1 1,.slice (some ⟨w.heap.size,0,none⟩) 2 2,undef,undef,undef,undef,undef,undef,undef,undef,undef,undef] [.inRegion ops5 [4,5,6,7,8,9],.code rest5]) (w.alloc (.cells #[.slice (some ⟨y,0,none⟩) 1 1,.slice (some ⟨z,0,none⟩) 1 1] 22)) #[]:=by
 have hr:∃o,ops5[3]?=some o∧Region.wanted o (yielded ops5 #[.bool false,undef,undef,undef,.slice (some ⟨x,0,none⟩) 1 1,.slice (some ⟨y,0,none⟩) 1 1,.slice (some ⟨z,0,none⟩) 1 1,undef,undef,undef,undef,undef,undef,undef,undef,undef,undef,undef])=true∧o.dst=some 7∧(execOp (Act.eval ⟨#[.bool false,undef,undef,undef,.slice (some ⟨x,0,none⟩) 1 1,.slice (some ⟨y,0,none⟩) 1 1,.slice (some ⟨z,0,none⟩) 1 1,undef,undef,undef,undef,undef,undef,undef,undef,undef,undef,undef],[]⟩) o).run PP w=.ok (.value (.slice (some ⟨w.heap.size,0,none⟩) 2 2)) (w.alloc (.cells #[.slice (some ⟨y,0,none⟩) 1 1,.slice (some ⟨z,0,none⟩) 1 1] 22))∧(execOp (Act.eval ⟨#[.bool false,undef,undef,undef,.slice (some ⟨x,0,none⟩) 1 1,.slice (some ⟨y,0,none⟩) 1 1,.slice (some ⟨z,0,none⟩) 1 1,undef,undef,undef,undef,undef,undef,undef,undef,undef,undef,undef],[]⟩) o).events PP w #[]=#[]:=by
  simp only[ops5,Tryz.f5,Option.getD_some]
  refine⟨_,rfl,rfl,rfl,?_,?_⟩
  ·go_simp
   try rfl
  ·simp[go_sem,Instr.buildSlice,newVar,newRow]
 obtain⟨o,h1,h2,h3,h4,h5⟩:=hr
 have:=stepG_value (P:=PP) (main:=true) (b:=base 5) (a:=⟨#[.bool false,undef,undef,undef,.slice (some ⟨x,0,none⟩) 1 1,.slice (some ⟨y,0,none⟩) 1 1,.slice (some ⟨z,0,none⟩) 1 1,undef,undef,undef,undef,undef,undef,undef,undef,undef,undef,undef],[]⟩) (k:=[.code rest5]) (cs:=cs) (w:=w) (w':=w.alloc (.cells #[.slice (some ⟨y,0,none⟩) 1 1,.slice (some ⟨z,0,none⟩) 1 1] 22)) (ops:=ops5) (i:=3) (rest:=[4,5,6,7,8,9]) h1 h2 (by k_ne) h4
 rw[S5,this]
 have hs:=congrArg (seen PP (base 5).fn) h5
 rw[seen_none] at hs
 rw[h3]
 exact congrArg (fun x=>GStep.go _ _ x) hs
noncomputable def fr5 (x y z t:Nat):Frame:=Fm 5 #[.bool false,undef,undef,undef,.slice (some ⟨x,0,none⟩) 1 1,.slice (some ⟨y,0,none⟩) 1 1,.slice (some ⟨z,0,none⟩) 1 1,.slice (some ⟨t,0,none⟩) 2 2,undef,undef,undef,undef,undef,undef,undef,undef,undef,undef] [.inRegion ops5 [4,5,6,7,8,9],.code rest5] .run
theorem fr5_finish (x y z t:Nat)(u:Value):(fr5 x y z t).finish u=Fm 5 #[.bool false,undef,undef,undef,.slice (some ⟨x,0,none⟩) 1 1,.slice (some ⟨y,0,none⟩) 1 1,.slice (some ⟨z,0,none⟩) 1 1,.slice (some ⟨t,0,none⟩) 2 2,u,undef,undef,undef,undef,undef,undef,undef,undef,undef] (.inRegion ops5 [5,6,7,8,9] :: [rest5].map Item.code) .run:=by
 have:=Frame.finish_at (b:=base 5) (a:=⟨#[.bool false,undef,undef,undef,.slice (some ⟨x,0,none⟩) 1 1,.slice (some ⟨y,0,none⟩) 1 1,.slice (some ⟨z,0,none⟩) 1 1,.slice (some ⟨t,0,none⟩) 2 2,undef,undef,undef,undef,undef,undef,undef,undef,undef,undef],[]⟩) (ops:=ops5) (i:=4) (rest:=[5,6,7,8,9]) (k:=[.code rest5]) (v:=u)
 refine this.trans ?_
 rfl
set_option maxRecDepth 100000 in
theorem to_moves5 (x y z t:Nat):To PP true B Ev (fun g=>g=Gr (Frame.enter PP 8 #[.slice (some ⟨x,0,none⟩) 1 1,.slice (some ⟨t,0,none⟩) 2 2,.int .i64 3,.int .i64 2] .normal) (fr5 x y z t :: cs)) (S5 cs #[.bool false,undef,undef,undef,.slice (some ⟨x,0,none⟩) 1 1,.slice (some ⟨y,0,none⟩) 1 1,.slice (some ⟨z,0,none⟩) 1 1,.slice (some ⟨t,0,none⟩) 2 2,undef,undef,undef,undef,undef,undef,undef,undef,undef,undef] [.inRegion ops5 [4,5,6,7,8,9],.code rest5]):=by
 simp only[fr5,S5,ops5,rest5,Tryz.f5,Option.getD_some]
 refine To.call rfl rfl (by k_ne) rfl Tryz.func8 (by kernel_rfl) (show Tryz.f8.body=some (Tryz.f8.body.getD .skip) from by kernel_rfl) ?_
 refine To.nil ?_
 rw[enter8]
 have h2:Tryz.f8.ntmps=25:=by kernel_rfl
 generalize Tryz.f8.body.getD .skip=bd
 rw[h2]
 simp only[List.map_toArray,List.map_cons,List.map_nil,List.size_toArray,List.length_cons,List.length_nil,Nat.reduceAdd,Nat.reduceSub]
 rw[rep21]
 rfl
end
theorem rest5_t:todoT lx PP 5 (.inRegion ops5 [5,6,7,8,9] :: [rest5].map Item.code):=by
 intro x hx
 simp only[List.map_cons,List.map_nil,List.mem_cons,List.not_mem_nil,or_false] at hx
 rcases hx with rfl|rfl<;>decide +kernel
set_option maxRecDepth 100000 in
set_option maxHeartbeats 4000000 in
theorem end5 (x y z t:Nat)(p:Option Addr)(c:Nat)(w:World)(hI:Ints w (.slice p 2 c) [0,3]) :
  wpOps Tryz.prog ops5 (Exit.then (Po.wpC Tryz.prog (bodyPost Tryz.prog Tryz.f5 (fun e w'=>∃u,e=.returned u∧u=.bool true∧Below w.heap.size w w')) [rest5]) (bodyPost Tryz.prog Tryz.f5 (fun e w'=>∃u,e=.returned u∧u=.bool true∧Below w.heap.size w w'))) [5,6,7,8,9] ⟨#[.bool false,undef,undef,undef,.slice (some ⟨x,0,none⟩) 1 1,.slice (some ⟨y,0,none⟩) 1 1,.slice (some ⟨z,0,none⟩) 1 1,.slice (some ⟨t,0,none⟩) 2 2,.tuple #[.slice p 2 c,.nilIface],undef,undef,undef,undef,undef,undef,undef,undef,undef],[]⟩ w:=by
 have HI:Hid (Ints w (.slice p 2 c) [0,3]):=hI
 clear hI
 have hw:∀(l:List Oper) (Q:Exit→Act→World→Prop) (A:Act),(∀j,l[j]?=ops5[5+j]?)→l.length=5→wpList Tryz.prog ops5 Q l A w→wpOps Tryz.prog ops5 Q [5,6,7,8,9] A w:=fun l Q A h1 h2 h=>by
  have:=wpOps_eq_wpList (P:=Tryz.prog) (Q:=Q) (ops:=ops5) l 5 h1
  rw[h2] at this
  have e:List.range' 5 5=[5,6,7,8,9]:=rfl
  rw[e] at this
  rw[this]
  exact h
 refine hw (ops5.toList.drop 5) _ _ (fun j=>by simp) (by simp[ops5,Tryz.f5]) ?_
 simp only[ops5,rest5,Tryz.f5,Option.getD_some,List.drop,Po.wpC]
 clear hw
 have HS:Hid (Calls Tryz.prog 13 #[.slice p 2 c,.slice (some ⟨w.heap.size,0,none⟩) 2 2] (w.alloc (.cells #[.int .i64 0,.int .i64 3] 3)) fun e w'=>e=.returned (.bool true)∧Below w.heap.size w w'):=by
  have hb:Below w.heap.size w (w.alloc (.cells #[.int .i64 0,.int .i64 3] 3)):=(Below.refl _ _).alloc (Nat.le_refl _) _
  refine (sameInts_any _ _ [0,3] [0,3] _ (HI.out.later hb) (.inr ⟨w.heap.size,0,2,rfl,fun k hk=>?_⟩) (by simp) (by simp)).mono fun e w' ⟨h1,h2⟩=>⟨by rw[h1];simp,below_then hb h2⟩
  have:k=0∨k=1:=by simp at hk;omega
  rcases this with rfl|rfl<;>simp
 go_wp2_with fail
 refine HS.out.mono ?_
 rintro e w1 ⟨rfl,hb1⟩
 clear HS HI
 go_wp2
 go_ret
 exact⟨_,rfl,rfl,hb1⟩
end Go.Proofs.YtjeicikflkjacaaGreatDoor.Sh
