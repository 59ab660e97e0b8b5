/- share, called beside leavers: it comes back with the list, all that it started only leave. -/
import Derived.Test.YtjeicikflkjacaaGreatDoorM42
import Derived.Test.YtjeicikflkjacaaGreatDoorM39
set_option linter.unusedSimpArgs false
set_option linter.unusedVariables false
namespace Go.Proofs.YtjeicikflkjacaaGreatDoor.Sh
open Go Go.Conc Go.Conc.Lib Go.ConcN
open Ms Po
open Par (Fm Gr on stopper LocIn to_beside step_beside)
open Go.ConcR (wgBlock WgAt stA smA)
theorem steps_of_wp {P:Program}{c:Code}{R:Array Value→World→Prop}{f:FuncId}{t:Array Value}{v:World}(h:c.wp P (fun e a w'=>e=.normal∧a.defers=[]∧R a.tmps w') ⟨t,[]⟩ v):∃t1 v',Steps P (lone (Fm f t [.code c] .run) [stopper] v) (lone (Fm f t1 [] .run) [stopper] v')∧R t1 v':=by
 obtain⟨e,⟨t1,ds⟩,w',⟨rfl,hd,hr⟩,ha⟩:=h (Fm f t [] .run) [] [stopper]
 simp only at hd hr
 subst hd
 exact⟨t1,w',ha,hr⟩
theorem quiet_above {Shun:Loc→Prop}{B:Nat}{t:Trace}(h:Past Shun B t){wg:Nat}(hb:B≤wg):Quiet (ShN wg) t∧NoRelease (stA wg) t:=by
 refine⟨fun i op x hi hx hs=>?_,fun i hi=>?_⟩
 ·exfalso
  obtain⟨a,e,ha⟩:=hs
  have hlow:=h.seen op (Array.mem_of_getElem? hi)
  have:∀act:MemAct,act.low B→act.touch?=some x→x.loc.low B:=fun act h1 h2=>by
   cases act with
   | access ev=>simp only[MemAct.touch?,Option.some.injEq] at h2;subst h2;exact h1
   | mark m =>
    cases m<;>simp only[MemAct.touch?,Option.some.injEq,reduceCtorEq] at h2
    all_goals subst h2;exact h1
   | _=>cases h2
  have h3:=this _ hlow hx
  rw[e] at h3
  have h4:a.block<B:=h3
  omega
 ·unfold Trace.act? at hi
  obtain⟨op,ho,ha⟩:=Option.map_eq_some_iff.1 hi
  have hlow:=h.seen op (Array.mem_of_getElem? ho)
  rw[ha] at hlow
  have h4:(stA wg).block<B:=hlow
  have:(stA wg).block=wg:=rfl
  omega
theorem rep25 (x y z:Value):(#[x,y,z]++Array.replicate 25 undef:Array Value)=#[x,y,z,undef,undef,undef,undef,undef,undef,undef,undef,undef,undef,undef,undef,undef,undef,undef,undef,undef,undef,undef,undef,undef,undef,undef,undef,undef]:=by
 rw[←Array.toList_inj]
 simp[List.replicate]
theorem enter31 (x y z:Value):Frame.enter PP 31 #[x,y,z] .normal=Fm 31 #[x,y,z,undef,undef,undef,undef,undef,undef,undef,undef,undef,undef,undef,undef,undef,undef,undef,undef,undef,undef,undef,undef,undef,undef,undef,undef,undef] [.code (Tryz.f31.body.getD .skip)] .run:=by
 have h1:PP.funcs[31]?=some Tryz.f31:=Tryz.func31
 have h2:Tryz.f31.ntmps=28:=by kernel_rfl
 have h3:Tryz.f31.body=some (Tryz.f31.body.getD .skip):=by kernel_rfl
 rw[←rep25]
 generalize hb:Tryz.f31.body.getD .skip=bd at h3
 unfold Frame.enter
 rw[h1]
 simp only[Option.map_some,Option.getD_some,Option.bind_some,h2,h3]
 rfl
def Beg (N wk:Nat)(fw:FuncId)(cap:Array Value)(v:World)(t:Array Value)(v':World):Prop:=∃bK bN bR cN cR:Nat,t=#[.int .i64 (N:Nat),.int .i64 (wk:Nat),.func (.func fw) #[] cap,undef,undef,.pointer (some ⟨bK,0,none⟩),.slice none 0 0,.pointer (some ⟨bN,0,none⟩),.pointer (some ⟨bR,0,none⟩),undef,undef,.chan (some cN),.chan (some cR),undef,undef,undef,undef,undef,undef,undef,undef,undef,undef,undef,undef,undef,undef,undef]∧Lay v v' fw cap bK bN bR cN cR
theorem lay_on {v v':World}{fw:FuncId}{cap:Array Value}{bK bN bR cN cR:Nat}(l:Lay v v' fw cap bK bN bR cN cR)(τ τ':Nat→Question→Nat)(d d':Nat):Lay (on v τ d) (on v' τ' d') fw cap bK bN bR cN cR:=⟨l.size,l.old,l.lo,l.hi,l.ne,l.k,l.n,l.r,l.cn,l.cr,l.os⟩
theorem lay_off {v v':World}{fw:FuncId}{cap:Array Value}{bK bN bR cN cR:Nat}{τ:Nat→Question→Nat}{d:Nat}(l:Lay (on v τ d) v' fw cap bK bN bR cN cR):Lay v v' fw cap bK bN bR cN cR:=⟨l.size,l.old,l.lo,l.hi,l.ne,l.k,l.n,l.r,l.cn,l.cr,l.os⟩
theorem beg_steps (N wk:Nat)(fw:FuncId)(cap:Array Value)(v:World):∃t1 v',Steps PP (lone (Fm 31 #[.int .i64 (N:Nat),.int .i64 (wk:Nat),.func (.func fw) #[] cap,undef,undef,undef,undef,undef,undef,undef,undef,undef,undef,undef,undef,undef,undef,undef,undef,undef,undef,undef,undef,undef,undef,undef,undef,undef] [.code cut31] .run) [stopper] v) (lone (Fm 31 t1 [] .run) [stopper] v')∧Beg N wk fw cap v t1 v':=steps_of_wp (R:=Beg N wk fw cap v) (begin31 (N:Nat) (wk:Nat) fw cap v)
theorem cut31_c:CutC lx PP 31 rest31 cut31 (Tryz.f31.body.getD .skip):=by
 simp only[cut31,rest31,Tryz.f31,Option.getD_some]
 exact .seq (by decide +kernel) (.seq (by decide +kernel) .here)
section
variable {Zg:Nat→Prop} {gs:Array Goroutine} {w:World} {sl:Option (Nat × Nat)} {t:Trace} {q:Nat→Nat} {c:Frame} {cs:List Frame}
structure Came (Zg:Nat→Prop)(w:World)(N:Nat)(S:Nat→Prop)(R:Nat→Value→World→Prop)(c:Frame)(cs:List Frame)(gs':Array Goroutine)(w':World)(t':Trace)(q':Nat→Nat)(wg bL:Nat)(J:Job)(own:Nat→Nat):Prop where
 mid:Mid (fun b=>Zg b∨b=wg) gs' w' t' q'
 at0:gs'[0]?=some (Gr (c.finish (.slice (some ⟨bL,0,none⟩) N N)) cs)
 lst:Lst J own w' (fun _=>true) bL none
 old:∀b,b<w.heap.size→w'.heap[b]?=w.heap[b]?
 size:w.heap.size≤w'.heap.size
 os:w'.os=w.os∧w'.output=w.output
 gw:J.k.wg=wg
 wg:w.heap.size≤wg∧wg<w'.heap.size
 JN:J.N=N
 JS:J.S=S
 JR:J.R=R
 Jw:∀b,b<w.heap.size→J.w0.heap[b]?=w.heap[b]?
 Jb:w.heap.size≤J.base
 tasks:Tasks J
 geo:Geo J
set_option maxHeartbeats 2000000 in
theorem share_call (M:Mid Zg gs w t q)(N wk:Nat)(hN:N<1000000)(hk1:1≤wk)(hk2:wk<1000000)(fw:FuncId)(cap:Array Value)
  (h0:gs[0]?=some (Gr (Frame.enter PP 31 #[.int .i64 (N:Nat),.int .i64 (wk:Nat),.func (.func fw) #[] cap] .normal) (c :: cs)))
  (S:Nat→Prop) (Tk:Nat→Option Nat) (R:Nat→Value→World→Prop) (hS:∀b,S b→b<w.heap.size∧¬Zg b)
  (tk:∀J:Job,J.k.fw=fw→J.k.cap=cap→J.N=N→J.S=S→J.Tk=Tk→J.R=R→J.Z=Zg→(∀b,b<w.heap.size→J.w0.heap[b]?=w.heap[b]?)→w.heap.size≤J.base→Geo J→Tasks J) :
  ∃n gs' w' sl' t' q' wg bL J own,runNT PP n (crowd gs w sl) t=(.next (crowd gs' w' sl'),t')∧Came Zg w N S R c cs gs' w' t' q' wg bL J own:=by
 have hlt0:0<gs.size:=(Array.getElem?_eq_some_iff.1 h0).1
 have hw:=veil_wr M.grp
 rw[enter31] at h0
 obtain⟨n1,gs1,w1,sl1,t1,q1,f1,T1,v1,e1,s1,a1,⟨rfl,bK,bN,bR,cN,cR,rfl,hl⟩,hw1,L1,P1,z1,k1⟩:=piece_beside (P:=PP) (L:=lx) (Z:=zsOf Zg w) (Shun:=ZL Zg) (lx_ok _) lx_texts (fun b l=>zl_g b l) (R:=fun f t v'=>f=31∧Beg N wk fw cap (veil Zg w) t v')
  (fun f t v τ d ⟨a,bK,bN,bR,cN,cR,b,l⟩=>⟨a,bK,bN,bR,cN,cR,b,lay_on l (veil Zg w).tape τ (veil Zg w).drawn d⟩) hw (f:=31) ⟨_,Tryz.func31⟩ (t:=#[.int .i64 (N:Nat),.int .i64 (wk:Nat),.func (.func fw) #[] cap,undef,undef,undef,undef,undef,undef,undef,undef,undef,undef,undef,undef,undef,undef,undef,undef,undef,undef,undef,undef,undef,undef,undef,undef,undef]) (fun s hs=>by cases hs) (k:=[]) (G:=[.code cut31]) (K:=[.code (Tryz.f31.body.getD .skip)]) (T:=[.code rest31]) todoT.nil (.cut rfl cut31_c)
  (fun τ d=>by
   obtain⟨t1,v',hs,bK,bN,bR,cN,cR,ht,l⟩:=beg_steps N wk fw cap (on (veil Zg w) τ d)
   exact⟨_,t1,v',hs,rfl,bK,bN,bR,cN,cR,ht,lay_off l⟩)
  (sl:=sl) h0 M.leave M.past
 have LY:=lay_there hw hw1 k1 hl
 have a1':gs1[0]?=some (S31 (c :: cs) #[.int .i64 (N:Nat),.int .i64 (wk:Nat),.func (.func fw) #[] cap,undef,undef,.pointer (some ⟨bK,0,none⟩),.slice none 0 0,.pointer (some ⟨bN,0,none⟩),.pointer (some ⟨bR,0,none⟩),undef,undef,.chan (some cN),.chan (some cR),undef,undef,undef,undef,undef,undef,undef,undef,undef,undef,undef,undef,undef,undef,undef] [.code rest31]):=a1
 obtain⟨n2,gs2,g2,d2,sl2,t2,q2,e2,s2,a2,rfl,L2,P2⟩:=to_beside (P:=PP) (Shun:=ZL Zg) (B:=w1.heap.size) (Bw:=fun _=>True) (Ev:=fun _=>False) (fun _ h=>h.elim) (w0:=w1) (fun _=>trivial) to_al (sl:=sl1) (d:=w1.drawn) a1' L1 P1
 obtain⟨n3,gs3,d3,sl3,t3,q3,e3,s3,a3,L3,P3⟩:=step_beside (P:=PP) (Shun:=ZL Zg) (B:=w1.heap.size) (w:=w1) (w1:=w1.alloc (wgBlock 93 0 0)) (g1:=S31 (c :: cs) #[.int .i64 (N:Nat),.int .i64 (wk:Nat),.func (.func fw) #[] cap,undef,undef,.pointer (some ⟨bK,0,none⟩),.slice none 0 0,.pointer (some ⟨bN,0,none⟩),.pointer (some ⟨bR,0,none⟩),.pointer (some ⟨w1.heap.size,0,none⟩),undef,.chan (some cN),.chan (some cR),undef,undef,undef,undef,undef,undef,undef,undef,undef,undef,undef,undef,undef,undef,undef] [.inRegion opsAl [],.code rest3]) (g:=S31 (c :: cs) #[.int .i64 (N:Nat),.int .i64 (wk:Nat),.func (.func fw) #[] cap,undef,undef,.pointer (some ⟨bK,0,none⟩),.slice none 0 0,.pointer (some ⟨bN,0,none⟩),.pointer (some ⟨bR,0,none⟩),undef,undef,.chan (some cN),.chan (some cR),undef,undef,undef,undef,undef,undef,undef,undef,undef,undef,undef,undef,undef,undef,undef] [.inRegion opsAl [0],.code rest3]) rfl (fun d=>⟨d,#[],al31 (w1.at d),fun e he=>by simp at he⟩) (sl:=sl2) (d:=d2) a2 L2 P2
 have hnz:∀b,w.heap.size≤b→¬Zg b:=fun b hb hz=>by
  have:=M.lt hz
  omega
 obtain⟨l1,l2,l3,l4,l5⟩:=LY.lo
 obtain⟨u1,u2,u3,u4,u5⟩:=LY.hi
 obtain⟨ne1,ne2,ne3,ne4,ne5,ne6,ne7,ne8,ne9,ne10⟩:=LY.ne
 have zz:=LY.size
 let W2:World:=(w1.alloc (wgBlock 93 0 0)).at d3
 have hW2:W2.heap=w1.heap.push (wgBlock 93 0 0):=rfl
 have hsz2:W2.heap.size=w1.heap.size+1:=by rw[hW2];simp
 have get:∀b,b<w1.heap.size→W2.heap[b]?=w1.heap[b]?:=fun b hb=>by rw[hW2,Array.getElem?_push,if_neg (by omega)]
 have getg:W2.heap[w1.heap.size]?=some (wgBlock 93 0 0):=by rw[hW2];simp
 have old:∀b,b<w.heap.size→W2.heap[b]?=w.heap[b]?:=fun b hb=>by rw[get b (by omega)];exact LY.old b hb
 let J:Job:={ k:=⟨w1.heap.size,bN,bK,bR,cN,cR,fw,cap⟩,N:=N,m:=min wk N,c:=c,cs:=cs,s0:=gs3.size,w0:=W2,S:=S,Tk:=Tk,Z:=Zg,R:=R }
 have hbase:J.base=w1.heap.size+1:=hsz2
 have hlt3:0<gs3.size:=(Array.getElem?_eq_some_iff.1 a3).1
 have geo:Geo J:=by
  refine⟨hlt3,by rw[hbase];exact Nat.lt_succ_self _,⟨by rw[hbase];show bN<_;omega,hnz _ l2⟩,⟨by rw[hbase];show bK<_;omega,hnz _ l1⟩,⟨by rw[hbase];show bR<_;omega,hnz _ l3⟩,⟨by rw[hbase];show cN<_;omega,hnz _ l4⟩,by rw[hbase];show cR<_;omega,⟨?_,?_,?_,?_,?_,ne1⟩,⟨ne2,ne3,ne4,ne5,ne6,ne7⟩,fun b hb=>?_,?_,?_,?_⟩
  ·show w1.heap.size≠bN;omega
  ·show w1.heap.size≠bK;omega
  ·show w1.heap.size≠bR;omega
  ·show w1.heap.size≠cN;omega
  ·show w1.heap.size≠cR;omega
  ·obtain⟨h1,h2⟩:=hS b hb
   refine⟨by rw[hbase];omega,?_,?_,?_,h2⟩
   ·show b≠w1.heap.size;omega
   ·show b≠cN;omega
   ·show b≠cR;omega
  ·show W2.cell? ⟨bN,0,none⟩=_
   unfold World.cell?
   dsimp only
   rw[get bN u2,LY.n]
   rfl
  ·show W2.cell? ⟨bK,0,none⟩=_
   unfold World.cell?
   dsimp only
   rw[get bK u1,LY.k]
   rfl
  ·show W2.cell? ⟨bR,0,none⟩=_
   unfold World.cell?
   dsimp only
   rw[get bR u3,LY.r]
   rfl
 have tasks:Tasks J:=tk J rfl rfl rfl rfl rfl rfl rfl old (by rw[hbase];omega) geo
 obtain⟨hq,hnr⟩:=quiet_above P3 (wg:=w1.heap.size) (Nat.le_refl _)
 have hmin:min wk N≤N:=Nat.min_le_right _ _
 obtain⟨n4,m4,t4,bL,gs4,w4,own,e4,bk⟩:=share_back (J:=J) (Shun:=ZL Zg) (gs:=gs3) (w:=W2) (t:=t3) (q:=q3) geo hN (by show min wk N<_;omega) (by show 0<N→0<min wk N;omega) tasks rfl ⟨rfl,rfl⟩ rfl L3 (P3.mono (by rw[hsz2];omega)) (fun l h=>h) hq ⟨0,0,false,by show W2.heap[cN]?=_;rw[get cN u4,LY.cn]⟩ ⟨0,0,false,by show W2.heap[cR]?=_;rw[get cR u5,LY.cr]⟩ getg hnr a3 (to_head hN hk2) sl3
 obtain⟨sl4,rfl⟩:=bk.mach
 obtain⟨q4,L4⟩:=bk.leave
 have wf:=bk.wf
 have oldw:∀b,b<w.heap.size→w4.heap[b]?=w.heap[b]?:=fun b hb=>by
  rw[wf.old b (by rw[hbase];omega) (by show b≠w1.heap.size;omega) (by show b≠cN;omega) (by show b≠cR;omega)]
  exact old b hb
 have hsz4:w1.heap.size+1≤w4.heap.size:=by
  have:=wf.size
  rw[hbase] at this
  exact this
 refine⟨n1+(n2+(n3+n4)),gs4,w4,sl4,t4,q4,w1.heap.size,bL,J,own,?_,⟨⟨L4,bk.past,fun b hb=>?_⟩,bk.a,bk.lst,oldw,by omega,⟨wf.os.1.trans LY.os.1,wf.os.2.trans LY.os.2⟩,rfl,⟨by omega,by omega⟩,rfl,rfl,rfl,old,by rw[hbase];omega,tasks,geo⟩⟩
 ·have e1':runNT PP n1 (crowd gs w sl) t=(.next (crowd gs1 w1 sl1),t1):=e1
  have e2':runNT PP n2 (crowd gs1 w1 sl1) t1=(.next (crowd gs2 (w1.at d2) sl2),t2):=e2
  rw[runNT_add,e1']
  dsimp only
  rw[runNT_add,e2']
  dsimp only
  rw[runNT_add,e3]
  exact e4
 ·rcases hb with hb|rfl
  ·rw[oldw b (M.lt hb)]
   exact M.grp b hb
  ·exact⟨_,_,bk.wg⟩
end
end Go.Proofs.YtjeicikflkjacaaGreatDoor.Sh

/- answers, up to its call of share. -/
set_option linter.unusedSimpArgs false
set_option linter.unusedVariables false
namespace Go.Proofs.YtjeicikflkjacaaGreatDoor.Sh
open Go Go.Conc Go.Conc.Lib Go.RowKit Go.ConcN Go.ConcR.Gen Go.ConcN.Gen
open Ms Po
open Par (Fm Gr on stopper LocIn to_beside step_beside)
noncomputable abbrev S19 (cs:List Frame) (t:Array Value) (k:List Item):Goroutine:=G ((base 19).at ⟨t,[]⟩ k) cs
theorem rep35 (x y z:Value):(#[x,y,z]++Array.replicate 35 undef:Array Value)=#[x,y,z,undef,undef,undef,undef,undef,undef,undef,undef,undef,undef,undef,undef,undef,undef,undef,undef,undef,undef,undef,undef,undef,undef,undef,undef,undef,undef,undef,undef,undef,undef,undef,undef,undef,undef,undef]:=by
 rw[←Array.toList_inj]
 simp[List.replicate]
theorem enter19 (x y z:Value):Frame.enter PP 19 #[x,y,z] .normal=Fm 19 #[x,y,z,undef,undef,undef,undef,undef,undef,undef,undef,undef,undef,undef,undef,undef,undef,undef,undef,undef,undef,undef,undef,undef,undef,undef,undef,undef,undef,undef,undef,undef,undef,undef,undef,undef,undef,undef] [.code (Tryz.f19.body.getD .skip)] .run:=by
 have h1:PP.funcs[19]?=some Tryz.f19:=Tryz.func19
 have h2:Tryz.f19.ntmps=38:=by kernel_rfl
 have h3:Tryz.f19.body=some (Tryz.f19.body.getD .skip):=by kernel_rfl
 rw[←rep35]
 generalize hb:Tryz.f19.body.getD .skip=bd at h3
 unfold Frame.enter
 rw[h1]
 simp only[Option.map_some,Option.getD_some,Option.bind_some,h2,h3]
 rfl
noncomputable def fr19 (N wk:Nat)(fv:Value):Frame:=Fm 19 #[.int .i64 (N:Nat),.int .i64 (wk:Nat),fv,undef,undef,undef,.slice none 0 0,.nilIface,.slice none 0 0,undef,undef,.int .i64 (N:Nat),.int .i64 (wk:Nat),fv,undef,undef,undef,undef,undef,undef,undef,undef,undef,undef,undef,undef,undef,undef,undef,undef,undef,undef,undef,undef,undef,undef,undef,undef] [.inRegion ops19 [3,4,5],.code blk19,.code end19] .run
theorem fr19_finish (N wk:Nat)(fv v:Value):(fr19 N wk fv).finish v=Fm 19 #[.int .i64 (N:Nat),.int .i64 (wk:Nat),fv,undef,undef,undef,.slice none 0 0,.nilIface,.slice none 0 0,undef,undef,.int .i64 (N:Nat),.int .i64 (wk:Nat),fv,v,undef,undef,undef,undef,undef,undef,undef,undef,undef,undef,undef,undef,undef,undef,undef,undef,undef,undef,undef,undef,undef,undef,undef] (.inRegion ops19 [4,5] :: [blk19,end19].map Item.code) .run:=by
 have:=Frame.finish_at (b:=base 19) (a:=⟨#[.int .i64 (N:Nat),.int .i64 (wk:Nat),fv,undef,undef,undef,.slice none 0 0,.nilIface,.slice none 0 0,undef,undef,.int .i64 (N:Nat),.int .i64 (wk:Nat),fv,undef,undef,undef,undef,undef,undef,undef,undef,undef,undef,undef,undef,undef,undef,undef,undef,undef,undef,undef,undef,undef,undef,undef,undef],[]⟩) (ops:=ops19) (i:=3) (rest:=[4,5]) (k:=[.code blk19,.code end19]) (v:=v)
 refine this.trans ?_
 rfl
set_option maxRecDepth 100000 in
set_option maxHeartbeats 8000000 in
theorem to_share {B:World→Prop}{Ev:Event→Prop}(N wk:Nat)(fv:Value)(hfv:∃f x y,fv=.func f x y)(cs:List Frame):To PP true B Ev (fun g=>g=Gr (Frame.enter PP 31 #[.int .i64 (N:Nat),.int .i64 (wk:Nat),fv] .normal) (fr19 N wk fv :: cs)) (Gr (Frame.enter PP 19 #[.int .i64 (N:Nat),.int .i64 (wk:Nat),fv] .normal) cs):=by
 rw[enter19]
 show To PP true B Ev _ (S19 cs #[.int .i64 (N:Nat),.int .i64 (wk:Nat),fv,undef,undef,undef,undef,undef,undef,undef,undef,undef,undef,undef,undef,undef,undef,undef,undef,undef,undef,undef,undef,undef,undef,undef,undef,undef,undef,undef,undef,undef,undef,undef,undef,undef,undef,undef] [.code (Tryz.f19.body.getD .skip)])
 obtain⟨f,x,y,rfl⟩:=hfv
 simp only[fr19,ops19,blk19,end19,S19,Tryz.f19,Option.getD_some]
 repeat (first
  | refine To.ctl rfl (fun _ _=>stepG_seq) ?_
  | refine To.ctl rfl (fun _ _=>stepG_region_end) ?_
  | (refine To.ctl rfl (fun _ _=>stepG_region) ?_;simp only[List.size_toArray,List.length_cons,List.length_nil,Nat.reduceAdd,Nat.zero_add,List.range,List.range.loop])
  | (refine To.value _ rfl rfl (by k_ne) (fun _ _=>by go_simp<;>rfl) (fun _ _=>by first|(simp[go_sem];done)) ?_;walk_nrm))
 refine To.call rfl rfl (by k_ne) rfl Tryz.func31 (by kernel_rfl) (show Tryz.f31.body=some (Tryz.f31.body.getD .skip) from by kernel_rfl) ?_
 refine To.nil ?_
 rw[enter31]
 have h2:Tryz.f31.ntmps=28:=by kernel_rfl
 generalize Tryz.f31.body.getD .skip=bd
 rw[h2]
 simp only[List.map_toArray,List.map_cons,List.map_nil,List.size_toArray,List.length_cons,List.length_nil,Nat.reduceAdd,Nat.reduceSub]
 rw[rep25]
 rfl
end Go.Proofs.YtjeicikflkjacaaGreatDoor.Sh

/- answers, called beside leavers. -/
set_option linter.unusedSimpArgs false
set_option linter.unusedVariables false
namespace Go.Proofs.YtjeicikflkjacaaGreatDoor.Sh
open Go Go.Conc Go.Conc.Lib Go.RowKit Go.ConcN
open Ms Po
open Par (Fm Gr on stopper LocIn to_beside step_beside)
section
variable {Zg:Nat→Prop} {gs:Array Goroutine} {w:World} {sl:Option (Nat × Nat)} {t:Trace} {q:Nat→Nat} {c:Frame} {cs:List Frame}
theorem veil_row {b:Nat}{x:Array Value}{e:TypeId}{f:Nat × Nat}(h:w.heap[b]?=some (.cells x e f))(hz:¬Zg b):(veil Zg w).heap[b]?=some (.cells x e f):=by
 rw[veil_get,h]
 have:¬(zsOf Zg w).z b:=by
  rintro (h1|⟨c,e',h1⟩)
  ·exact hz h1
  ·rw[h] at h1
   cases h1
 simp[this]
theorem rest19_t:todoT lx PP 19 (.inRegion ops19 [4,5] :: [blk19,end19].map Item.code):=by
 intro x hx
 simp only[List.map_cons,List.map_nil,List.mem_cons,List.not_mem_nil,or_false] at hx
 rcases hx with rfl|rfl|rfl<;>decide +kernel
def AnsB (a:Nat→Addr)(N:Nat)(ks:Nat→Int)(cs:Nat→Nat)(v:World)(u:Value)(v':World):Prop:=∃τ d τ' d',AnsR a N ks cs (on v τ d) u (on v' τ' d')
set_option maxHeartbeats 2000000 in
theorem answers_call (M:Mid Zg gs w t q)(N wk:Nat)(hN:N<1000000)(hk1:1≤wk)(hk2:wk<1000000)(fw:FuncId)(cap:Array Value)
  (h0:gs[0]?=some (Gr (Frame.enter PP 19 #[.int .i64 (N:Nat),.int .i64 (wk:Nat),.func (.func fw) #[] cap] .normal) (c :: cs)))
  (S:Nat→Prop) (Tk:Nat→Option Nat) (R:Nat→Value→World→Prop) (hS:∀b,S b→b<w.heap.size∧¬Zg b)
  (tk:∀J:Job,J.k.fw=fw→J.k.cap=cap→J.N=N→J.S=S→J.Tk=Tk→J.R=R→J.Z=Zg→(∀b,b<w.heap.size→J.w0.heap[b]?=w.heap[b]?)→w.heap.size≤J.base→Geo J→Tasks J)
  (a:Nat→Addr) (he:∀W:World,(∀b x e f,b<w.heap.size→¬Zg b→w.heap[b]?=some (.cells x e f)→W.heap[b]?=some (.cells x e f))→Errs a W)
  (Gd:Nat→Int→Nat→Int→Prop)
  (hD:∀(J:Job) (own:Nat→Nat) (w' W:World),J.S=S→J.R=R→(∀b x e f,J.S b∨J.base≤b→w'.heap[b]?=some (.cells x e f)→W.heap[b]?=some (.cells x e f))→∀i k e,Dn J own w' i k e→∃c pl,Gd i k c pl∧ErrIs a W c pl e) :
  ∃(n:Nat) (gs':Array Goroutine) (w':World) (sl':Option (Nat × Nat)) (t':Trace) (q':Nat→Nat) (wg:Nat) (u:Value) (w2 v':World) (ks:Nat→Int) (cs_:Nat→Nat) (pl:Nat→Int),runNT PP n (crowd gs w sl) t=(.next (crowd gs' w' sl'),t')∧Mid (fun b=>Zg b∨b=wg) gs' w' t' q'∧gs'[0]?=some (Gr (c.finish u) cs)∧(∀i,i<N→Gd i (ks i) (cs_ i) (pl i))∧AnsB a N ks cs_ (veil (fun b=>Zg b∨b=wg) w2) u v'∧Wr (zsOf (fun b=>Zg b∨b=wg) w2) v' w'∧w.heap.size≤wg∧w.heap.size≤w2.heap.size∧(∀b,b<w.heap.size→w2.heap[b]?=w.heap[b]?)∧(∀b,(zsOf (fun b=>Zg b∨b=wg) w2).z b→w'.heap[b]?=w2.heap[b]?)∧w2.heap.size≤w'.heap.size∧w'.os=w.os∧w'.output=w.output:=by
 obtain⟨n1,gs1,g1,d1,sl1,t1,q1,e1,s1,a1,rfl,L1,P1⟩:=to_beside (P:=PP) (Shun:=ZL Zg) (B:=w.heap.size) (Bw:=fun _=>True) (Ev:=fun _=>False) (fun _ h=>h.elim) (w0:=w) (fun _=>trivial) (to_share N wk (.func (.func fw) #[] cap) ⟨_,_,_,rfl⟩ (c :: cs)) (sl:=sl) (d:=w.drawn) h0 M.leave M.past
 have M1:Mid Zg gs1 (w.at d1) t1 q1:=⟨L1,P1,M.grp⟩
 obtain⟨n2,gs2,w2,sl2,t2,q2,wg,bL,J,own,e2,C⟩:=share_call (sl:=sl1) M1 N wk hN hk1 hk2 fw cap a1 S Tk R hS (fun J h1 h2 h3 h4 h5 h6 h7 h8 h9 h10=>tk J h1 h2 h3 h4 h5 h6 h7 h8 h9 h10)
 obtain⟨hbL,hoL,L,hL,hLs,hLx⟩:=C.lst
 have hgw:J.k.wg<J.base:=C.geo.wg
 have old:∀b,b<w.heap.size→w2.heap[b]?=w.heap[b]?:=fun b hb=>C.old b hb
 have hwgl:w.heap.size≤wg:=C.wg.1
 have hnz:∀b,J.S b∨J.base≤b→¬(Zg b∨b=wg):=fun b hb hz=>by
  have hgw2:=C.gw
  have hjb:w.heap.size≤J.base:=C.Jb
  rcases hb with hb|hb
  ·rw[C.JS] at hb
   obtain⟨s1,s2⟩:=hS b hb
   rcases hz with hz|hz
   ·exact s2 hz
   ·omega
  ·rcases hz with hz|hz
   ·have:=M.lt hz
    omega
   ·omega
 have hW:∀b x e f,J.S b∨J.base≤b→w2.heap[b]?=some (.cells x e f)→(veil (fun b=>Zg b∨b=wg) w2).heap[b]?=some (.cells x e f):=fun b x e f hb h=>veil_row h (hnz b hb)
 have hE:Errs a (veil (fun b=>Zg b∨b=wg) w2):=he _ fun b x e f hb hz h=>veil_row (by rw[old b hb];exact h) (by rintro (h1|rfl);exact hz h1;omega)
 have pick:∀i,∃p:Int × Value × Nat × Int,i<N→Gd i p.1 p.2.2.1 p.2.2.2∧ErrIs a (veil (fun b=>Zg b∨b=wg) w2) p.2.2.1 p.2.2.2 p.2.1∧L[i*3]?=some (.int .i64 (i:Nat))∧L[i*3+1]?=some (.int .i64 p.1)∧L[i*3+2]?=some p.2.1:=fun i=>by
  by_cases hi:i<N
  ·obtain⟨k,e,p1,p2,p3,D⟩:=hLx i (by rw[C.JN];exact hi) rfl (by simp)
   obtain⟨c,pl,g1,g2⟩:=hD J own w2 _ C.JS C.JR hW i k e D
   exact⟨(k,e,c,pl),fun _=>⟨g1,g2,p1,p2,p3⟩⟩
  ·exact⟨(0,.nilIface,0,0),fun h=>absurd h hi⟩
 obtain⟨F,hp⟩:=Classical.axiomOfChoice pick
 have hLv:=hW bL L _ _ (.inr hbL) hL
 have cell:∀i u,L[i]?=some u→(veil (fun b=>Zg b∨b=wg) w2).cell? ⟨bL,i,none⟩=some u:=fun i u h=>by
  simp only[World.cell?,hLv]
  exact h
 have a2:=C.at0
 rw[fr19_finish] at a2
 obtain⟨n3,gs3,w3,sl3,t3,q3,u,v3,e3,s3,a3,hR,hw3,L3,P3,z3,k3⟩:=tail_beside (P:=PP) (L:=lx) (Z:=zsOf (fun b=>Zg b∨b=wg) w2) (Shun:=ZL (fun b=>Zg b∨b=wg)) (lx_ok _) lx_texts (fun b l=>zl_g b l) (R:=fun u v'=>AnsB a N (fun i=>(F i).1) (fun i=>(F i).2.2.1) (veil (fun b=>Zg b∨b=wg) w2) u v') (fun u v τ d ⟨τ1,d1,τ2,d2,h⟩=>⟨τ1,d1,τ2,d2,h⟩) (veil_wr C.mid.grp) (f:=19) ⟨_,Tryz.func19⟩ (fun s hs=>by cases hs) rest19_t
  (fun τ d=>by
   obtain⟨fr,v',u,r1,r2,r3⟩:=rest_leaves Tryz.func19 (answers_rest a N bL (wk:Nat) (.func (.func fw) #[] cap) (fun i=>(F i).1) (fun i=>(F i).2.1) (fun i=>(F i).2.2.1) (fun i=>(F i).2.2.2) (on (veil (fun b=>Zg b∨b=wg) w2) τ d) ⟨hE.handle,hE.s0,hE.s1,hE.s2,hE.s3,hE.s4,hE.s5,hE.s6,hE.s7,hE.s8,hE.row,hE.ne⟩ hN (fun i hi=>⟨cell _ _ (hp i hi).2.2.1,cell _ _ (hp i hi).2.2.2.1,cell _ _ (hp i hi).2.2.2.2⟩) (fun i hi=>(hp i hi).2.1))
   exact⟨fr,v',u,r1,r2,τ,d,v'.tape,v'.drawn,r3⟩) (sl:=sl2) a2 C.mid.leave C.mid.past
 refine⟨n1+(n2+n3),gs3,w3,sl3,t3,q3,wg,u,w2,v3,fun i=>(F i).1,fun i=>(F i).2.2.1,fun i=>(F i).2.2.2,?_,⟨L3,P3,fun b hb=>?_⟩,a3,fun i hi=>(hp i hi).1,hR,hw3,hwgl,C.size,old,k3,z3,?_,?_⟩
 ·have e1':runNT PP n1 (crowd gs w sl) t=(.next (crowd gs1 (w.at d1) sl1),t1):=e1
  rw[runNT_add,e1']
  dsimp only
  rw[runNT_add,e2]
  exact e3
 ·rw[k3 b (.inl hb)]
  exact C.mid.grp b hb
 ·obtain⟨_,_,_,_,hb,_⟩:=hR
  exact hw3.os.symm.trans (hb.os.trans C.os.1)
 ·obtain⟨_,_,_,_,hb,_⟩:=hR
  exact hw3.out.symm.trans (hb.output.trans C.os.2)
end
end Go.Proofs.YtjeicikflkjacaaGreatDoor.Sh
