/- A caller and its workers: what their steps list. -/
import Derived.Test.YtjeicikflkjacaaGreatDoorM23
namespace Go.Proofs.YtjeicikflkjacaaGreatDoor.Ms
open Go Go.Conc Go.Conc.Lib Go.ConcN
open Go.ConcR (KK wgBlock WgAt stA smA rd wr mk Payload Aside2 DC0 g_of_ofEvents ofEvent_cell ofEvent_mk)
open Par (LocIn)
section
variable {J:Job} {own:Nat→Nat} {hold:Nat→Option Nat} {B x:Nat}
theorem evOk_box (G:Geo J)(hB:J.base≤B){e:Event}(h:EvB J.k e):EvOk J own hold B x e:=by
 obtain⟨b,hb,rfl⟩:=h
 have h1:b<J.base∧b≠J.k.wg∧¬J.Z b:=by
  have:=G.ne;have:=G.bN;have:=G.bK;have:=G.bR
  rcases hb with rfl|rfl|rfl
  ·exact⟨G.bN.1,by omega,G.bN.2⟩
  ·exact⟨G.bK.1,by omega,G.bK.2⟩
  ·exact⟨G.bR.1,by omega,G.bR.2⟩
 refine⟨fun y hy=>.inr (.inl ?_),?_⟩
 ·simp only[ofEvent_cell,MemAct.touch?,Option.some.injEq] at hy
  subst hy
  exact⟨⟨b,h1.1,h1.2.1,h1.2.2,rfl⟩,rfl⟩
 ·rw[ofEvent_cell]
  show b<B
  omega
theorem evOk_wg (G:Geo J)(hB:J.base≤B)(a:Addr)(ha:a.block=J.k.wg)(wr_:Bool):EvOk J own hold B x ⟨.cell a,wr_,true⟩:=by
 have:=G.wg
 refine⟨fun y hy=>.inr (.inr ?_),?_⟩
 ·simp only[ofEvent_cell,MemAct.touch?,Option.some.injEq] at hy
  subst hy
  exact⟨⟨a,rfl,ha⟩,by simp,by simp⟩
 ·rw[ofEvent_cell]
  show a.block<B
  omega
theorem evOk_mark (m:Mark)(h:m=.disable∨m=.enable):EvOk J own hold B x (mk m):=by
 rcases h with rfl|rfl<;>exact⟨fun y hy=>by simp[ofEvent_mk,MemAct.touch?] at hy,by rw[ofEvent_mk];trivial⟩
theorem evOk_at (G:Geo J)(hB:J.base≤B)(m:Addr→Mark)(h:m=.acquire∨m=.releaseMerge):EvOk J own hold B x (mk (m (stA J.k.wg))):=by
 have:=G.wg
 rcases h with rfl|rfl<;>exact⟨fun y hy=>by simp[ofEvent_mk,MemAct.touch?] at hy,by rw[ofEvent_mk];show J.k.wg<B;omega⟩
theorem evOk_said (G:Geo J)(hB:J.base≤B)(m:Addr→Mark)(h:m=.read∨m=.write):EvOk J own hold B 0 ⟨.mark (m ⟨J.k.wg,1,none⟩),false,true⟩:=by
 have:=G.wg
 rcases h with rfl|rfl
 all_goals
  refine⟨fun y hy=>.inr (.inr ?_),?_⟩
  ·simp only[MemAct.ofEvent,MemAct.touch?,Option.some.injEq] at hy
   subst hy
   exact⟨⟨_,rfl,rfl⟩,by simp,fun _=>rfl⟩
  ·show J.k.wg<B
   omega
theorem evOk_cal (G:Geo J)(hB:J.base≤B){e:Event}(h:EvC J.k e):EvOk J own hold B 0 e:=by
 rcases h with h|rfl|rfl
 ·exact evOk_box G hB h
 ·exact evOk_said G hB .read (.inl rfl)
 ·exact evOk_said G hB .write (.inr rfl)
theorem evC_still {k:Kt}{e:Event}(h:EvC k e):e.loc≠.mark .disable∧e.loc≠.mark .enable∧e.loc≠.mark (.release (stA k.wg)):=by
 rcases h with⟨b,_,rfl⟩|rfl|rfl<;>simp
theorem evB_still {k:Kt}{e:Event}(h:EvB k e):e.loc≠.mark .disable∧e.loc≠.mark .enable∧e.loc≠.mark (.release (stA k.wg)):=evC_still (.inl h)
theorem evOk_mine {b q:Nat}(hb:J.base≤b)(ho:own b=0)(hB:b<B)(wr_:Bool):EvOk J own hold B 0 ⟨.cell ⟨b,q,none⟩,wr_,false⟩:=by
 refine⟨fun y hy=>.inl ?_,?_⟩
 ·simp only[ofEvent_cell,MemAct.touch?,Option.some.injEq] at hy
  subst hy
  exact⟨b,hb,rfl,.inl ⟨rfl,ho⟩⟩
 ·rw[ofEvent_cell]
  exact hB
end
end Go.Proofs.YtjeicikflkjacaaGreatDoor.Ms

/- A caller and its workers: while it starts them. -/
set_option linter.unusedVariables false
namespace Go.Proofs.YtjeicikflkjacaaGreatDoor.Ms
open Go Go.Conc Go.Conc.Lib Go.ConcN
open Go.ConcR (KK wgBlock WgAt stA smA rd wr mk Payload Aside2 DC0 g_of_ofEvents ofEvent_cell ofEvent_mk)
open Par (LocIn)
open Mk (Still CaseOk ChanOpen go_still comm_any)
theorem reach_of_inv {P:Program}{α:Type}{r:α→α→Prop}(wf:WellFounded r)(Inv:α→Machine→Trace→Prop)(Goal:Machine→Trace→Prop)
  (h:∀μ m t,Inv μ m t→Goal m t∨∃m' ops μ',stepT P m=(.next m',ops)∧r μ' μ∧Inv μ' m' (t++ops)):∀μ m t,Inv μ m t→∃n m' t',runNT P n m t=(.next m',t')∧Goal m' t':=by
 intro μ
 induction μ using wf.induction with
 | _ μ ih =>
  intro m t hI
  rcases h μ m t hI with hg|⟨m',ops,μ',hs,hr,hI'⟩
  ·exact⟨0,m,t,rfl,hg⟩
  ·obtain⟨n,m2,t2,h1,h2⟩:=ih μ' hr m' (t++ops) hI'
   exact⟨n+1,m2,t2,by rw[runNT_succ_next hs];exact h1,h2⟩
section
variable (J:Job)
inductive W0:Nat→Goroutine→Prop
 | go {n:Nat} {g g2:Goroutine} (h:Sl PP false (Bx J.k) (EvB J.k) n g g2) (r:RecvG J.k g2):W0 (n+1) g
 | park {g:Goroutine} (r:RecvG J.k g):W0 0 (parked g #[rcase J.k.cN (.int .i64 0)] (.recv true))
inductive C0S:Nat→Nat→Nat→Nat→Nat→Goroutine→Prop
 | kd {j n:Nat} {g g2:Goroutine} (h:Sl PP true (Bc J.k) (EvC J.k) n g g2) (r:AddK PP lk J.k.wg (Bc J.k) (EvC J.k) (GoG J.k (J.N:Nat) (J.m:Nat) (J.c :: J.cs) (j:Nat)) g2):C0S j 3 n 0 0 g
 | ad {j n:Nat} {g g2:Goroutine} (h:Sl PP true (Bc J.k) (EvC J.k) n g g2) (r:AddA PP lk J.k.wg (Bc J.k) (EvC J.k) (GoG J.k (J.N:Nat) (J.m:Nat) (J.c :: J.cs) (j:Nat)) g2):C0S j 2 n 1 0 g
 | en {j n:Nat} {g g2:Goroutine} (h:Sl PP true (Bc J.k) (EvC J.k) n g g2) (r:AddE PP (Bc J.k) (EvC J.k) (GoG J.k (J.N:Nat) (J.m:Nat) (J.c :: J.cs) (j:Nat)) g2):C0S j 1 n 1 1 g
 | go {j n:Nat} {g g2:Goroutine} (h:Sl PP true (Bc J.k) (EvC J.k) n g g2) (r:GoG J.k (J.N:Nat) (J.m:Nat) (J.c :: J.cs) (j:Nat) g2):C0S j 0 n 0 1 g
def MkTo (g:Goroutine):Prop:=∃c0:Frame,To PP true (Bc J.k) (EvC J.k) (MkG J.k J.N (c0 :: J.c :: J.cs)) g∧∀ {bL nx th:Nat} {g:Goroutine},¬th<J.N→CHead J.k J.N (c0 :: J.c :: J.cs) bL nx th g→To PP true (Bc J.k) (EvC J.k) (CloseG J.k J.N (J.m:Nat) bL (J.c :: J.cs)) g
def InvS (μ:Nat × Nat)(m:Machine)(t:Trace):Prop :=
 ∃(gs:Array Goroutine) (w:World) (sl:Option (Nat × Nat)) (j:Nat) (q fW:Nat→Nat) (s n0 d0 p:Nat) (a:Goroutine),m=crowd gs w sl∧Com J j (fun _=>0) (fun _=>none) (fun _=>0) d0 false q gs w t ∧
  gs[0]?=some a∧C0S J j s n0 d0 p a∧j<J.m∧(∀i,i<j→∃g,gs[J.s0+i]?=some g∧W0 J (fW i) g)∧WgAt lk.tWg J.k.wg w (((j+p:Nat):Int)*KK) 0∧NoRelease (stA J.k.wg) t∧w.heap.size=J.base ∧
  μ=(20*(J.m - j)+s,n0+sumTo j fW+sumTo J.s0 q)
def GoalS (m:Machine)(t:Trace):Prop :=
 ∃(gs:Array Goroutine) (w:World) (sl:Option (Nat × Nat)) (q fW:Nat→Nat) (a:Goroutine),m=crowd gs w sl∧Com J J.m (fun _=>0) (fun _=>none) (fun _=>0) 0 false q gs w t ∧
  gs[0]?=some a∧MkTo J a∧(∀i,i<J.m→∃g,gs[J.s0+i]?=some g∧W0 J (fW i) g)∧WgAt lk.tWg J.k.wg w ((J.m:Int)*KK) 0∧NoRelease (stA J.k.wg) t∧w.heap.size=J.base
end
section
variable {J:Job}
theorem head_done {j:Nat}(hj:¬(j:Int)<(J.m:Int)){g:Goroutine}(h:HeadG J.k (J.N:Nat) (J.m:Nat) (J.c :: J.cs) (j:Nat) g):MkTo J g:=by
 obtain⟨n,g2,hs,hco⟩:=head_all hj h
 obtain⟨c0,hto,j0,hx⟩:=co_enter hco
 refine⟨c0,?_,?_⟩
 ·exact To.bind (Q:=fun g=>g=g2) ⟨n,g2,hs,rfl⟩ fun g e=>e ▸ hto
 ·intro bL nx th g hth hg
  obtain⟨x1,x2,x3,x4,x6,x10,x11,x12,x13,x14,x17,x18,x19,x20,x24,x25,x26,x27,rfl⟩:=hx
  exact chead_end hth hg
theorem W0.status {n:Nat}{g:Goroutine}(h:W0 J n g):(g.status=.running∧0<n)∨(g.status=.blocked∧n=0):=by
 cases h with
 | go h r =>
  refine .inl ⟨?_,by omega⟩
  cases h with
  | nil=>obtain⟨_,_,_,_,_,_,_,_,_,_,_,_,_,_,_,_,_,rfl⟩:=r;rfl
  | cons hs _ _ _=>exact hs
 | park r=>exact .inr ⟨rfl,rfl⟩
theorem W0.still {n:Nat}{g:Goroutine}{w:World}(h:W0 J n g)(hc:∃s r tm,w.heap[J.k.cN]?=some (.chan 0 #[] false s r tm)):Still w g:=by
 cases h with
 | go h r=>exact .run ((W0.go (J:=J) h r).status.elim (·.1) fun x=>absurd x.2 (by omega))
 | park r =>
  refine .park fun cc hcc=>?_
  rw[Array.mem_singleton] at hcc
  subst hcc
  exact .inr ⟨J.k.cN,rfl,hc⟩
theorem C0S.running {j s n d p:Nat}{g:Goroutine}(h:C0S J j s n d p g):g.status=.running:=by
 cases h with
 | kd h r=>cases h with|nil=>exact r.1|cons hs _ _ _=>exact hs
 | ad h r=>cases h with|nil=>exact r.1|cons hs _ _ _=>exact hs
 | en h r=>cases h with|nil=>exact r.1|cons hs _ _ _=>exact hs
 | go h r=>cases h with|nil=>exact (go_spawn r).1|cons hs _ _ _=>exact hs
theorem old_still {n d:Nat}{g:Goroutine}{w:World}(h:QuitsD PP n d g):Still w g:=by
 rcases h.status with h|h
 ·exact .run h
 ·exact .fin h
theorem bx_of (G:Geo J){shut:Bool}{w:World}(h:WF J shut w):Bx J.k w:=by
 have hne:=G.ne;have hnc:=G.nc
 have cell:∀b,b<J.base→b≠J.k.wg→b≠J.k.cN→b≠J.k.cR→w.cell? ⟨b,0,none⟩=J.w0.cell? ⟨b,0,none⟩:=fun b h1 h2 h3 h4=>by
  have:=h.old b h1 h2 h3 h4
  simp[World.cell?,this]
 exact⟨(cell _ G.bN.1 (by omega) (by omega) (by omega)).trans G.bx.n,(cell _ G.bK.1 (by omega) (by omega) (by omega)).trans G.bx.f,(cell _ G.bR.1 (by omega) (by omega) (by omega)).trans G.bx.r⟩
theorem wf_wg {shut:Bool}{w:World}(G:Geo J)(h:WF J shut w)(a:Addr)(ha:a.block=J.k.wg)(v:Value):WF J shut (w.setCell a v):=by
 have hA:=aside_setCell w a v
 rw[ha] at hA
 have hne:=G.ne
 obtain⟨s,r,tm,h1⟩:=h.cn
 obtain⟨s',r',tm',h2⟩:=h.cr
 exact⟨fun b h1 h2 h3 h4=>(hA.block b h2).trans (h.old b h1 h2 h3 h4),⟨s,r,tm,(hA.block _ (by omega)).trans h1⟩,⟨s',r',tm',(hA.block _ (by omega)).trans h2⟩,by rw[hA.size];exact h.size,hA.os.trans h.os.1,hA.output.trans h.os.2⟩
theorem norel_app {wg x:Nat}{t:Trace}{fn:FuncId}{pos:String}{es:Array Event}(h:NoRelease (stA wg) t)(he:∀e∈es,e.loc≠.mark (.release (stA wg))):NoRelease (stA wg) (t++MemOp.ofEvents x fn pos es):=h.app (norel_of he)
end
end Go.Proofs.YtjeicikflkjacaaGreatDoor.Ms

/- A caller and its workers: while it starts them, step by step. -/
set_option linter.unusedVariables false
namespace Go.Proofs.YtjeicikflkjacaaGreatDoor.Ms
open Go Go.Conc Go.Conc.Lib Go.ConcN
open Go.ConcR (KK wgBlock WgAt stA smA rd wr mk Payload Aside2 DC0 g_of_ofEvents ofEvent_cell ofEvent_mk)
open Par (LocIn)
open Mk (Still CaseOk ChanOpen go_still comm_any offers_at)
section
variable {J:Job}
theorem set_get {gs:Array Goroutine}{x:Nat}{g:Goroutine}(y:Nat)(h:y≠x):(gs.setIfInBounds x g)[y]?=gs[y]?:=Array.getElem?_setIfInBounds_ne (Ne.symm h)
theorem set_same {gs:Array Goroutine}{x:Nat}{g:Goroutine}(h:x<gs.size):(gs.setIfInBounds x g)[x]?=some g:=by simp[h]
theorem Com.same (G:Geo J){j d0:Nat}{own:Nat→Nat}{hold:Nat→Option Nat}{dW q:Nat→Nat}{shut:Bool}{gs:Array Goroutine}{w w':World}{t:Trace}(C:Com J j own hold dW d0 shut q gs w t){x:Nat}(hx:Mem J j x){g':Goroutine}{fn:FuncId}{pos:String}{es:Array Event}
  (hwf:WF J shut w') (hB:w'.heap.size=w.heap.size) (he:∀e∈es,EvOk J own hold w.heap.size x e) {d0':Nat} {dW':Nat→Nat} (hd0:d0'=if x=0 then deafBehind d0 es else d0) (hdW:∀i,i<j→dW' i=if x=J.s0+i then deafBehind (dW i) es else dW i) :
  Com J j own hold dW' d0' shut q (gs.setIfInBounds x g') w' (t++MemOp.ofEvents x fn pos es):=by
 have hs:=G.s0
 refine C.step G hx (by simp) (fun i g h0 hi hg=>?_) hwf (by omega) (fun g l _ h=>.inl h) C.inj (by rw[hB];exact he) hd0 hdW
 rwa [set_get i (by rcases hx with h|h<;>omega)] at hg
theorem idle_deaf {es:Array Event}(h:∀e∈es,e.loc≠.mark .disable∧e.loc≠.mark .enable)(d:Nat):deafBehind d es=d:=deafBehind_still h d
theorem stillS {j d0:Nat}{q fW:Nat→Nat}{own:Nat→Nat}{hold:Nat→Option Nat}{dW:Nat→Nat}{gs:Array Goroutine}{w w':World}{t:Trace}{a:Goroutine}(C:Com J j own hold dW d0 false q gs w t)(hw:WF J false w')(h0:gs[0]?=some a)(ha:a.status=.running)
  (hW:∀i,i<j→∃g,gs[J.s0+i]?=some g∧W0 J (fW i) g) (x:Nat):∀y gy,y≠x→gs[y]?=some gy→Still w' gy:=by
 intro y gy _ hy
 have hlt:=(Array.getElem?_eq_some_iff.1 hy).1
 rw[C.size] at hlt
 rcases Nat.eq_zero_or_pos y with rfl|hp
 ·rw[h0] at hy;cases hy
  exact .run ha
 ·rcases Nat.lt_or_ge y J.s0 with h|h
  ·exact old_still (C.old y gy hp h hy)
  ·obtain⟨g,hg,hw0⟩:=hW (y - J.s0) (by omega)
   rw[show J.s0+(y - J.s0)=y by omega,hy] at hg
   cases hg
   exact hw0.still hw.cn
theorem awake_still {w:World}{g:Goroutine}(h:Still w g):awake g:=by
 cases h with
 | run h=>exact awake_of (.inl h)
 | fin h=>exact awake_of (.inr (.inr h))
 | park h=>exact awake_of (.inr (.inl rfl))
theorem mute_norel {e:Event}{a:Addr}(h:Event.mute e=true)(hl:e.loc=.mark (.release a)):False:=by
 obtain⟨l,wr_,sy⟩:=e
 cases hl
 simp[Event.mute] at h
theorem Com.spawn (G:Geo J){j:Nat}{q:Nat→Nat}{gs:Array Goroutine}{w:World}{t:Trace}(C:Com J j (fun _=>0) (fun _=>none) (fun _=>0) 0 false q gs w t){a' child:Goroutine}{x y:MemOp}(hx:x.g=0∧x.act=.go gs.size)(hy:y.g=gs.size∧y.act=.start) :
  Com J (j+1) (fun _=>0) (fun _=>none) (fun _=>0) 0 false q ((gs.setIfInBounds 0 a').push child) w (t++#[x,y]):=by
 have hs:=G.s0
 have hz:=C.size
 have hst:∀op∈#[x,y],op.act≠.mark .disable∧op.act≠.mark .enable:=by
  intro op hop
  simp only[List.mem_toArray,List.mem_cons,List.not_mem_nil,or_false] at hop
  rcases hop with rfl|rfl
  ·rw[hx.2];exact⟨by simp,by simp⟩
  ·rw[hy.2];exact⟨by simp,by simp⟩
 have hD:∀z,Deaf (t++#[x,y]) z=Deaf t z:=fun z=>Deaf_still t z _ hst
 refine⟨by simp[hz];omega,fun i g h0 hi hg=>?_,C.wf,C.ti.fork (k:=gs.size) (.inl rfl) (fun g hg=>?_) (fun g hg=>?_) (C.up _ (by omega)) C.d0 hx hy (fun g l hg hl=>?_),by rw[hD];exact C.d0,fun i hi=>?_,fun z hz'=>by rw[hD];exact C.up z (by omega),fun i i' x _ _ h=>by cases h⟩
 ·rw[hD]
  rw[Array.getElem?_push_lt (by simp[hz];omega),←Array.getElem?_eq_getElem,set_get _ (by omega)] at hg
  exact C.old i g h0 hi hg
 ·rcases hg with h|h
  ·exact .inl (.inl h)
  ·by_cases e:g=gs.size
   ·exact .inr e
   ·exact .inl (.inr ⟨h.1,by omega⟩)
 ·rcases hg with h|h
  ·exact .inl h
  ·exact .inr ⟨h.1,by omega⟩
 ·obtain⟨b,hb,hl',h⟩:=hl
  rcases h with⟨h,ho⟩|⟨i,x,_,h,_⟩
  ·exact⟨.inl h,b,hb,hl',.inl ⟨h,ho⟩⟩
  ·cases h
 ·rw[hD]
  rcases Nat.lt_or_ge i j with h|h
  ·exact C.dW i h
  ·exact C.up _ (by omega)
set_option maxHeartbeats 1000000 in
theorem stepS (G:Geo J)(hm:J.m<2147483647):∀μ m t,InvS J μ m t→∃m' ops μ',stepT PP m=(.next m',ops)∧Lt2 μ' μ∧(InvS J μ' m' (t++ops)∨(μ'=(0,0)∧GoalS J m' (t++ops))):=by
 rintro μ m t ⟨gs,w,sl,j,q,fW,s,n0,d0,p,a,rfl,C,h0,hc,hj,hW,hwg,hnr,hsz,rfl⟩
 have hs0:=G.s0
 have ha:=hc.running
 have hst:=stillS C C.wf h0 ha hW gs.size
 have haw:∀g∈gs,awake g:=fun g hg=>by
  obtain⟨y,hy⟩:=Array.mem_iff_getElem?.1 hg
  exact awake_still (hst y g (by have:=(Array.getElem?_eq_some_iff.1 hy).1;omega) hy)
 obtain⟨x,g,d,sl',hx,hgr,hstep⟩:=crowd_pick (P:=PP) (w:=w) (sl:=sl) haw ⟨0,a,h0,ha⟩
 rw[hstep]
 have C1:=C.at d
 generalize hw1:w.at d=w1 at *
 have hwf:=C1.wf
 have hwg1:WgAt lk.tWg J.k.wg w1 (((j+p:Nat):Int)*KK) 0:=by rw[←hw1];exact hwg
 have hsz1:w1.heap.size=J.base:=by rw[←hw1];exact hsz
 have hlt:=(Array.getElem?_eq_some_iff.1 hx).1
 have hstill:=fun w' (hw':WF J false w')=>stillS C hw' h0 ha hW x
 have hbx:=bx_of G hwf
 have hbc:Bc J.k w1:=⟨hbx,⟨_,_,hwg1⟩⟩
 have hBl:J.base≤w1.heap.size:=by omega
 rcases Nat.eq_zero_or_pos x with rfl|hp
 ·
  rw[h0] at hx;cases hx
  have m0:Mem J j 0:=.inl rfl
  have wk':∀a':Goroutine,∀i,i<j→∃g,(gs.setIfInBounds 0 a')[J.s0+i]?=some g∧W0 J (fW i) g:=fun a' i hi=>by
   rw[set_get _ (by omega)];exact hW i hi
  have l0:0<gs.size:=hlt
  have idle:∀ {g1:Goroutine} {es:Array Event} {n':Nat},(∀e∈es,EvC J.k e)→stepG PP true a w1=.go g1 w1 es→C0S J j s n' d0 p g1→n'<n0→∃m' ops μ',runT PP (crowd gs w1 sl') 0=(.next m',ops)∧Lt2 μ' (20*(J.m - j)+s,n0+sumTo j fW+sumTo J.s0 q)∧(InvS J μ' m' (t++ops)∨(μ'=(0,0)∧GoalS J m' (t++ops))):=by
   intro g1 es n' he hgo hc' hn
   refine⟨_,_,(20*(J.m - j)+s,n'+sumTo j fW+sumTo J.s0 q),go_still (i:=0) h0 hgo (hstill w1 hwf),Prod.Lex.right _ (by omega),.inl ⟨_,w1,sl',j,q,fW,s,n',d0,p,g1,rfl,
    C1.same G m0 hwf rfl (fun e h=>evOk_cal G hBl (he e h)) (by rw[if_pos rfl,idle_deaf fun e h=>⟨(evC_still (he e h)).1,(evC_still (he e h)).2.1⟩]) (fun i hi=>by rw[if_neg (by omega)]),set_same l0,hc',hj,wk' g1,hwg1,norel_app hnr fun e h=>(evC_still (he e h)).2.2,hsz1,rfl⟩⟩
  have seen:∀ {g1:Goroutine} {w':World} {es:Array Event} {s' n' d' p':Nat},stepG PP true a w1=.go g1 w' es→(∀e∈es,EvOk J (fun _=>0) (fun _=>none) w1.heap.size 0 e)→(∀e∈es,e.loc≠.mark (.release (stA J.k.wg)))→WF J false w'→w'.heap.size=w1.heap.size→d'=deafBehind d0 es→C0S J j s' n' d' p' g1→WgAt lk.tWg J.k.wg w' (((j+p':Nat):Int)*KK) 0→s'<s →
    ∃m' ops μ',runT PP (crowd gs w1 sl') 0=(.next m',ops)∧Lt2 μ' (20*(J.m - j)+s,n0+sumTo j fW+sumTo J.s0 q)∧(InvS J μ' m' (t++ops)∨(μ'=(0,0)∧GoalS J m' (t++ops))):=by
   intro g1 w' es s' n' d' p' hgo he hr hw' hz hd hc' hg' hs
   refine⟨_,_,(20*(J.m - j)+s',n'+sumTo j fW+sumTo J.s0 q),go_still (i:=0) h0 hgo (hstill w' hw'),Prod.Lex.left _ _ (by omega),.inl ⟨_,w',sl',j,q,fW,s',n',d',p',g1,rfl,
    C1.same G m0 hw' hz he (by rw[if_pos rfl,hd]) (fun i hi=>by rw[if_neg (by omega)]),set_same l0,hc',hj,wk' g1,hg',norel_app hnr hr,by omega,rfl⟩⟩
  cases hc with
  | kd h r =>
   cases h with
   | cons hs he hst t'=>exact idle he (hst w1 hbc) (.kd t' r) (by omega)
   | nil =>
    obtain⟨_,g1,hgo,n',g2,hsl,hq⟩:=r
    exact seen (hgo w1) (by intro e he;rw[Array.mem_singleton] at he;subst he;exact evOk_mark _ (.inl rfl)) (by intro e he;rw[Array.mem_singleton] at he;subst he;simp[mk]) hwf rfl (by rfl) (.ad hsl hq) hwg1 (by omega)
  | ad h r =>
   cases h with
   | cons hs he hst t'=>exact idle he (hst w1 hbc) (.ad t' r) (by omega)
   | nil =>
    obtain⟨_,hall⟩:=r
    obtain⟨g1,hgo,n',g2,hsl,hq⟩:=hall j (by omega)
    have hw2:WgAt lk.tWg J.k.wg w1 ((j:Int)*KK) 0:=by simpa using hwg1
    refine seen (hgo w1 hw2) ?_ ?_ (wf_wg G hwf _ rfl _) (by simp[World.setCell]) (by rfl) (.en hsl hq) ?_ (by omega)
    ·intro e he
     simp at he
     rcases he with rfl|rfl<;>exact evOk_wg G hBl _ rfl _
    ·intro e he
     simp at he
     rcases he with rfl|rfl<;>simp[rd,wr]
    ·have:=hw2.setSt (((j:Int)+1)*KK)
     simpa using this
  | en h r =>
   cases h with
   | cons hs he hst t'=>exact idle he (hst w1 hbc) (.en t' r) (by omega)
   | nil =>
    obtain⟨_,g1,hgo,n',g2,hsl,hq⟩:=r
    exact seen (hgo w1) (by intro e he;rw[Array.mem_singleton] at he;subst he;exact evOk_mark _ (.inr rfl)) (by intro e he;rw[Array.mem_singleton] at he;subst he;simp[mk]) hwf rfl (by rfl) (.go hsl hq) hwg1 (by omega)
  | go h r =>
   cases h with
   | cons hs he hst t'=>exact idle he (hst w1 hbc) (.go t' r) (by omega)
   | nil =>
    obtain⟨_,g1,hgo,hto⟩:=go_spawn r
    have hrun:=runT_crowd_spawn (P:=PP) (sl:=sl') (i:=0) h0 (by simpa using hgo w1)
    have e1:IntKind.i64.wrap ((j:Int)+1)=((j+1:Nat):Int):=by rw[IntKind.wrap_i64];omega
    rw[e1] at hto
    obtain⟨nw,gw,hslw,hrw⟩:=w_start J.k
    have hC:=C1.spawn G (a':=g1) (child:=born PP (call42 J.k)) (x:={ g:=0,fn:=a.frame.fn,pos:=a.frame.place,act:=.go gs.size }) (y:={ g:=gs.size,fn:=(born PP (call42 J.k)).frame.fn,pos:=a.frame.place,act:=.start }) ⟨rfl,rfl⟩ ⟨rfl,rfl⟩
    have hga:((gs.setIfInBounds 0 g1).push (born PP (call42 J.k)))[0]?=some g1:=by
     rw[Array.getElem?_push_lt (by simp;exact l0),←Array.getElem?_eq_getElem]
     exact set_same l0
    have hWs:∀i,i<j+1→∃g,((gs.setIfInBounds 0 g1).push (born PP (call42 J.k)))[J.s0+i]?=some g∧W0 J (upd fW j (nw+1) i) g:=by
     intro i hi
     rcases Nat.lt_or_ge i j with h|h
     ·obtain⟨g,hg,hw0⟩:=hW i h
      refine⟨g,?_,by rw[upd_ne fW _ (by omega)];exact hw0⟩
      rw[Array.getElem?_push_lt (by simp[C.size];omega),←Array.getElem?_eq_getElem,set_get _ (by omega)]
      exact hg
     ·obtain rfl:i=j:=by omega
      refine⟨_,?_,by rw[upd_same];exact .go hslw hrw⟩
      rw[show J.s0+i=(gs.setIfInBounds 0 g1).size by simp[C.size],Array.getElem?_push_size]
    have hnr':NoRelease (stA J.k.wg) (t++#[{ g:=0,fn:=a.frame.fn,pos:=a.frame.place,act:=.go gs.size },{ g:=gs.size,fn:=(born PP (call42 J.k)).frame.fn,pos:=a.frame.place,act:=.start }]):=hnr.app fun op hop=>by
     simp only[List.mem_toArray,List.mem_cons,List.not_mem_nil,or_false] at hop
     rcases hop with rfl|rfl<;>simp
    have hops:((MemOp.ofEvents 0 a.frame.fn a.frame.place #[]).push { g:=0,fn:=a.frame.fn,pos:=a.frame.place,act:=.go gs.size } |>.push { g:=gs.size,fn:=(born PP (call42 J.k)).frame.fn,pos:=a.frame.place,act:=.start })=#[({ g:=0,fn:=a.frame.fn,pos:=a.frame.place,act:=.go gs.size }:MemOp),{ g:=gs.size,fn:=(born PP (call42 J.k)).frame.fn,pos:=a.frame.place,act:=.start }]:=by
     simp[ofEvents_eq]
    rw[hops] at hrun
    have hgw:WgAt lk.tWg J.k.wg w1 (((j+1:Nat):Int)*KK) 0:=hwg1
    rcases Nat.lt_or_ge (j+1) J.m with hlt'|hge
    ·obtain⟨n',g2,hsl,hk⟩:=hto.bind fun g hg=>head_more (by omega) hg
     exact⟨_,_,(20*(J.m - (j+1))+3,n'+sumTo (j+1) (upd fW j (nw+1))+sumTo J.s0 q),hrun,Prod.Lex.left _ _ (by omega),.inl ⟨_,w1,sl',j+1,q,upd fW j (nw+1),3,n',0,0,g1,rfl,hC,hga,.kd hsl hk,hlt',hWs,hgw,hnr',hsz1,rfl⟩⟩
    ·have ej:J.m=j+1:=by omega
     rw[←ej] at hC hWs hgw
     obtain⟨n',g2,hsl,hh⟩:=hto
     have hmk:MkTo J g2:=head_done (j:=j+1) (by omega) hh
     obtain⟨c0,hto',hend⟩:=hmk
     refine⟨_,_,(0,0),hrun,Prod.Lex.left _ _ (by omega),.inr ⟨rfl,_,w1,sl',q,upd fW j (nw+1),g1,rfl,hC,hga,⟨c0,To.bind (Q:=fun g=>g=g2) ⟨n',g2,hsl,rfl⟩ fun g e=>e ▸ hto',hend⟩,hWs,hgw,hnr',hsz1⟩⟩
 ·rcases Nat.lt_or_ge x J.s0 with hxs|hxs
  ·
   have hq:=C.old x g hp hxs hx
   have hi0:(x==0)=false:=by simp;omega
   cases hqi:q x with
   | zero=>rw[hqi] at hq;rw[hq.1] at hgr;cases hgr
   | succ n =>
    rw[hqi] at hq
    rcases hq with⟨hf,_⟩|⟨_,g',es,hm',hstp,hq'⟩
    ·rw[hf] at hgr;cases hgr
    have hrun:=go_still (sl:=sl') (i:=x) hx (by rw[hi0];exact hstp w1) (hstill w1 hwf)
    have hsum:sumTo J.s0 (upd q x n)+(n+1)=sumTo J.s0 q+n:=by
     have:=sumTo_upd q n id hxs
     simpa [hqi] using this
    refine⟨_,_,(20*(J.m - j)+s,n0+sumTo j fW+sumTo J.s0 (upd q x n)),hrun,Prod.Lex.right _ (by omega),.inl ⟨_,w1,sl',j,upd q x n,fW,s,n0,d0,p,a,rfl,
     C1.slip hp hxs hm' hq' (by simp) (set_same hlt) (fun i gi _ _ hi hg=>by rwa [set_get i hi] at hg),by rw[set_get 0 (by omega)];exact h0,hc,hj,fun i hi=>by rw[set_get _ (by omega)];exact hW i hi,hwg1,
     norel_app hnr fun e he hl=>mute_norel (hm' e he) hl,hsz1,rfl⟩⟩
  ·
   have hi0:(x==0)=false:=by simp;omega
   have hxj:x - J.s0<j:=by rw[C.size] at hlt;omega
   obtain⟨i,rfl⟩:∃i,x=J.s0+i:=⟨x - J.s0,by omega⟩
   have hij:i<j:=by omega
   obtain⟨g',hg',hw0⟩:=hW i hij
   rw[hx] at hg';cases hg'
   have mi:Mem J j (J.s0+i):=.inr ⟨by omega,by omega⟩
   have down:∀ {m},m<fW i→sumTo j (upd fW i m)<sumTo j fW:=by
    intro m hm
    have:=sumTo_upd fW m id hij
    have e1:sumTo j (upd fW i m)+fW i=sumTo j fW+m:=this
    omega
   have wk':∀ {a':Goroutine} {m},W0 J m a'→∀i',i'<j→∃g,(gs.setIfInBounds (J.s0+i) a')[J.s0+i']?=some g∧W0 J (upd fW i m i') g:=fun {a' m} ha' i' hi'=>by
    by_cases e:i'=i
    ·subst e
     exact⟨a',set_same hlt,by rw[upd_same];exact ha'⟩
    ·rw[set_get _ (by omega),upd_ne fW m e]
     exact hW i' hi'
   generalize hfi:fW i=fi at *
   cases hw0 with
   | park r=>cases hgr
   | go h r =>
    cases h with
    | cons hs he hst' t' =>
     rename_i n1 _ _
     have hrun:=go_still (sl:=sl') (i:=J.s0+i) hx (by rw[hi0];exact hst' w1 hbx) (hstill w1 hwf)
     refine⟨_,_,(20*(J.m - j)+s,n0+sumTo j (upd fW i (n1+1))+sumTo J.s0 q),hrun,Prod.Lex.right _ (by have:=down (m:=n1+1) (by omega);omega),.inl ⟨_,w1,sl',j,q,upd fW i (n1+1),s,n0,d0,p,a,rfl,
      C1.same G mi hwf rfl (fun e h=>evOk_box G hBl (he e h)) (by rw[if_neg (by omega)]) (fun i' hi'=>by split<;>first|rfl|(rw[idle_deaf fun e h=>⟨(evB_still (he e h)).1,(evB_still (he e h)).2.1⟩])),by rw[set_get 0 (by omega)];exact h0,hc,hj,wk' (.go t' r),hwg1,norel_app hnr fun e h=>(evB_still (he e h)).2.2,hsz1,rfl⟩⟩
    | nil =>
     have hco:=recv_comm J.k r w1
     have hok:∀cc∈#[rcase J.k.cN (.int .i64 0)],CaseOk w1 cc:=by
      intro cc hcc
      rw[Array.mem_singleton] at hcc
      subst hcc
      exact .inr ⟨J.k.cN,rfl,hwf.cn⟩
     rcases comm_any (P:=PP) (sl:=sl') (i:=J.s0+i) hx (by rw[hi0];exact hco) hok with⟨_,hno⟩|⟨k,cc,c,y,kj,d,gj,hk,hch,_,hne,hgj,hkj,_⟩
     ·have hrun:=crowd_waits (P:=PP) (sl:=sl') (i:=J.s0+i) hx (by rw[hi0];exact hco) hno
      refine⟨_,_,(20*(J.m - j)+s,n0+sumTo j (upd fW i 0)+sumTo J.s0 q),hrun,Prod.Lex.right _ (by have:=down (m:=0) (by omega);omega),.inl ⟨_,w1,sl',j,q,upd fW i 0,s,n0,d0,p,a,rfl,
       C1.same G mi hwf rfl (fun e h=>by simp at h) (by rw[if_neg (by omega)]) (fun i' hi'=>by split<;>rfl),by rw[set_get 0 (by omega)];exact h0,hc,hj,wk' (.park r),hwg1,norel_app hnr fun e h=>by simp at h,hsz1,rfl⟩⟩
     ·exfalso
      have hcc:cc=rcase J.k.cN (.int .i64 0):=by
       have:=Array.mem_of_getElem? hk
       rwa [Array.mem_singleton] at this
      subst hcc
      obtain⟨cs,sh,hb,ho,c1,hc1,hs1,_⟩:=offers_at hkj
      have hylt:=(Array.getElem?_eq_some_iff.1 hgj).1
      rw[C.size] at hylt
      rcases Nat.eq_zero_or_pos y with rfl|hy
      ·rw[h0] at hgj;cases hgj;rw[ha] at hb;cases hb
      ·rcases Nat.lt_or_ge y J.s0 with h|h
       ·rcases (C.old y gj hy h hgj).status with h|h<;>rw[h] at hb<;>cases hb
       ·obtain⟨g',hg',hw'⟩:=hW (y - J.s0) (by omega)
        rw[show J.s0+(y - J.s0)=y by omega,hgj] at hg'
        cases hg'
        generalize fW (y - J.s0)=fy at hw'
        cases hw' with
        | go h r=>have:=(W0.go (J:=J) h r).status;rw[hb] at this;simp at this
        | park r =>
         simp only[parked,Option.some.injEq,Prod.mk.injEq] at ho
         obtain⟨rfl,rfl⟩:=ho
         have:=Array.mem_of_getElem? hc1
         rw[Array.mem_singleton] at this
         subst this
         simp[rcase] at hs1
theorem phaseS (G:Geo J)(hm:J.m<2147483647){μ:Nat × Nat}{m:Machine}{t:Trace}(h:InvS J μ m t):∃n m' t',runNT PP n m t=(.next m',t')∧GoalS J m' t':=by
 refine reach_of_inv (r:=Lt2) (Prod.lex Nat.lt_wfRel Nat.lt_wfRel).wf (fun μ m t=>InvS J μ m t∨(μ=(0,0)∧GoalS J m t)) (GoalS J) (fun μ m t h=>?_) μ m t (.inl h)
 rcases h with h|⟨_,h⟩
 ·obtain⟨m',ops,μ',h1,h2,h3⟩:=stepS G hm μ m t h
  exact .inr ⟨m',ops,μ',h1,h2,h3⟩
 ·exact .inl h
end
end Go.Proofs.YtjeicikflkjacaaGreatDoor.Ms
