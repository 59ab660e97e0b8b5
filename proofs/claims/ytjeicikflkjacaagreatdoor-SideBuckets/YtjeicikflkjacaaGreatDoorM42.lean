/- A caller and its workers: all leave: where each stands; one moves. -/
import Derived.Test.YtjeicikflkjacaaGreatDoorM41
set_option linter.unusedVariables false
namespace Go.Proofs.YtjeicikflkjacaaGreatDoor.Ms
open Go Go.Conc Go.Conc.Lib Go.ConcN
open Go.ConcR (KK wgBlock WgAt stA smA rd wr mk Payload Aside2 DC0 g_of_ofEvents ofEvent_cell ofEvent_mk Bk ofEvent_loc_mark)
open Par (Cx LocIn Bij VR WR AR OR idB shutW Work Fr EsR EvR LR)
open Mk (Still CaseOk ChanOpen go_still comm_any offers_at Acs Down meets_send meets_recv)
section
variable (J:Job)
inductive VS (w:World):Nat→Nat→Nat→Goroutine→Prop
 | go {n:Nat} {g g2:Goroutine} (h:Sl PP false (Bx J.k) (EvB J.k) n g g2) (r:RecvG J.k g2):VS w 10 n 0 g
 | woke {g:Goroutine} (r:RecvG J.k g):VS w 9 0 0 { parked g #[rcase J.k.cN (.int .i64 0)] (.recv true) with status:=.running }
 | r0 {n:Nat} {g g2:Goroutine} (h:Sl PP false (Bc J.k) (EvB J.k) n g g2) (r:R1G J.k g2):VS w 7 n 0 g
 | lib {s m d:Nat} {g:Goroutine} (hs:s≤6) (h:WSit PP lk.tWg J.k.wg J.k.bK 1 noO noO 0 1 undef s m d g w):VS w s m d g
inductive JC (bL:Nat) (cw:Frame):CTag→Nat→Nat→Goroutine→Prop
 | kd {n:Nat} {g g2:Goroutine} (h:Sl PP true (Bc J.k) (EvC J.k) n g g2) (r:WtK PP lk J.k.wg (Bc J.k) (EvC J.k) cw (J.c :: J.cs) g2):JC bL cw .kd n 0 g
 | w1 {n:Nat} {g g2:Goroutine} (h:Sl PP true (Bc J.k) (EvC J.k) n g g2) (r:Wt1 PP lk J.k.wg (Bc J.k) (EvC J.k) cw (J.c :: J.cs) (BackG J.N bL J.c J.cs) g2):JC bL cw .w1 n 1 g
 | w2 {vs n:Nat} {g g2:Goroutine} (h:Sl PP true (Bc J.k) (EvC J.k) n g g2) (r:Wt2 PP lk J.k.wg (Bc J.k) (EvC J.k) cw (J.c :: J.cs) (BackG J.N bL J.c J.cs) vs g2):JC bL cw (.w2 vs) n 1 g
 | w3 {n:Nat} {g g2:Goroutine} (h:Sl PP true (Bc J.k) (EvC J.k) n g g2) (r:Wt3 PP lk J.k.wg (Bc J.k) (EvC J.k) (BackG J.N bL J.c J.cs) g2):JC bL cw .w3 (n+1) 1 g
 | blk {g:Goroutine} (r:Wt3 PP lk J.k.wg (Bc J.k) (EvC J.k) (BackG J.N bL J.c J.cs) g):JC bL cw .blk 0 1 { g with status:=.blocked }
 | w4 {n:Nat} {g g2:Goroutine} (h:Sl PP true (Bc J.k) (EvC J.k) n g g2) (r:Wt4 PP lk J.k.wg (Bc J.k) (EvC J.k) (BackG J.N bL J.c J.cs) g2):JC bL cw .w4 n 1 g
 | ke {n:Nat} {g g2:Goroutine} (h:Sl PP true (Bc J.k) (EvC J.k) n g g2) (r:WtE PP J.k.wg (Bc J.k) (EvC J.k) (BackG J.N bL J.c J.cs) g2):JC bL cw .ke n 1 g
 | acq {n:Nat} {g g2:Goroutine} (h:Sl PP true (Bc J.k) (EvC J.k) n g g2) (r:WtQ PP J.k.wg (Bc J.k) (EvC J.k) (BackG J.N bL J.c J.cs) g2):JC bL cw .acq n 0 g
 | ret {n:Nat} {g g2:Goroutine} (h:Sl PP true (Bc J.k) (EvC J.k) n g g2) (r:BackG J.N bL J.c J.cs g2):JC bL cw .ret n 0 g
end
def d7 (x:WD):WD:=⟨min 7 x.stage,x.fuel,x.deaf⟩
def D7 (D:Nat→WD)(i:Nat):WD:=d7 (D i)
theorem D7_upd (D:Nat→WD)(i:Nat)(x:WD):D7 (upd D i x)=upd (D7 D) i (d7 x):=by
 funext y
 unfold D7
 by_cases e:y=i
 ·subst e;rw[upd_same,upd_same]
 ·rw[upd_ne D _ e,upd_ne _ _ e]
structure RelZ (wg:Nat)(t:Trace)(k r:Nat):Prop where
 rel:RelBy (stA wg) t k r
 aft:∀i a,r<i→t.g? i=some k→touchAt t i=some a→∃ad:Addr,a.loc=.cell ad∧ad.block=wg
section
variable {wg k r:Nat} {t u:Trace}
theorem RelZ.app (h:RelZ wg t k r)(h1:RelBy (stA wg) (t++u) k r)(hu:∀op∈u,op.g=k→∀a,op.act.touch?=some a→∃ad:Addr,a.loc=.cell ad∧ad.block=wg):RelZ wg (t++u) k r:=by
 refine⟨h1,fun i a hi hg ha=>?_⟩
 obtain⟨x,hx,hxa⟩:=touch_of ha
 rcases getElem?_append_cases hx with⟨hlt,hx'⟩|⟨_,hxu⟩
 ·exact h.aft i a hi (by rw[←g?_old (u:=u) hlt];exact hg) (by rw[touchAt_of hx'];exact hxa)
 ·refine hu x hxu ?_ a hxa
  simpa [Trace.g?,hx] using hg
theorem RelZ.other (h:RelZ wg t k r)(hu:∀op∈u,op.g≠k):RelZ wg (t++u) k r:=h.app (h.rel.appNot hu) fun op hop e=>absurd e (hu op hop)
theorem RelZ.book (h:RelZ wg t k r){d:Nat}(hdk:Deaf t k=d)(fn:FuncId)(pos:String){es:Array Event}(hes:∀e∈es,Bk wg e)
  (hd:∀j e,es[j]?=some e→(MemAct.ofEvent e).touch?=none∨0<deafBehind d (es.extract 0 j)):RelZ wg (t++MemOp.ofEvents k fn pos es) k r:=by
 refine h.app (h.rel.book hdk fn pos hes hd) fun op hop _ a ha=>?_
 obtain⟨e,he,rfl⟩:=Go.Conc.mem_ofEvents hop
 rcases hes e he with h1|h1|⟨ad,wr,rfl,hb⟩
 ·rw[ofEvent_loc_mark h1] at ha;cases ha
 ·rw[ofEvent_loc_mark h1] at ha;cases ha
 ·simp only[ofEvent_cell,MemAct.touch?,Option.some.injEq] at ha
  subst ha
  exact⟨ad,rfl,hb⟩
theorem RelZ.new (hd:Deaf t k=0)(fn:FuncId)(pos:String):RelZ wg (t++MemOp.ofEvents k fn pos #[Go.ConcR.mk (.releaseMerge (stA wg))]) k t.size:=by
 refine⟨RelBy.new hd fn pos,fun i a hi hg ha=>?_⟩
 obtain⟨x,hx,hxa⟩:=touch_of ha
 rcases getElem?_append_cases hx with⟨hlt,_⟩|⟨_,hxu⟩
 ·omega
 ·obtain⟨e,he,rfl⟩:=Go.Conc.mem_ofEvents hxu
  rw[Array.mem_singleton] at he
  subst he
  simp[ofEvent_mk,MemAct.touch?] at hxa
end
def AcqZ (J:Job)(t:Trace):Prop:=∃q,t.act? q=some (.mark (.acquire (stA J.k.wg)))∧t.g? q=some 0∧t.heard q∧∀i,i<J.m→∃r,RelZ J.k.wg t (J.s0+i) r∧r<q
structure JS (J:Job)(bL:Nat)(cw:Frame)(gs:Array Goroutine)(w:World)(t:Trace)(q own:Nat→Nat)(D:Nat→WD)(tag:CTag)(f0 d0:Nat)(a:Goroutine)(st sm:Int):Prop where
 com:Com J J.m own (fun _=>none) (fun i=>(D i).deaf) d0 true q gs w t
 h0:gs[0]?=some a
 cal:JC J bL cw tag f0 d0 a
 wk:∀i,i<J.m→∃g,gs[J.s0+i]?=some g∧VS J w (D i).stage (D i).fuel (D i).deaf g
 wg:WgAt lk.tWg J.k.wg w st sm
 nr:NoRelease (stA J.k.wg) t
 mode:Go.ConcN.Mode J.m (D7 D) tag st sm
 rel:∀i,i<J.m→(D i).stage≤6→∃r,RelZ J.k.wg t (J.s0+i) r
 acq:tag=.ret→AcqZ J t
 lst:Lst J own w (fun _=>true) bL none
def MuJ (J:Job)(q:Nat→Nat)(D:Nat→WD)(tag:CTag)(f0:Nat):Nat × Nat:=(phi J.m (Vc J.m (D7 D)) tag+sumTo J.m (fun i=>(D i).stage),f0+2*sumTo J.m (fun i=>(D i).fuel)+2*sumTo J.s0 q)
def InvJ (J:Job)(bL:Nat)(cw:Frame)(μ:Nat × Nat)(m:Machine)(t:Trace):Prop :=
 ∃gs w sl q own D tag f0 d0 a st sm,m=crowd gs w sl∧JS J bL cw gs w t q own D tag f0 d0 a st sm∧μ=MuJ J q D tag f0
section
variable {J:Job} {w w':World}
theorem VS.rely {s m d:Nat}{g:Goroutine}(h:VS J w s m d g)(hr:RW lk.tWg J.k.wg J.k.bK 1 0 0 w w'):VS J w' s m d g:=by
 cases h with
 | go h r=>exact .go h r
 | woke r=>exact .woke r
 | r0 h r=>exact .r0 h r
 | lib hs h=>exact .lib hs (h.rely hr)
theorem sl_run {main:Bool}{B:World→Prop}{Ev:Event→Prop}{n:Nat}{g g2:Goroutine}(h:Sl PP main B Ev n g g2)(h2:g2.status=.running):g.status=.running:=by
 cases h with
 | nil=>exact h2
 | cons hs _ _ _=>exact hs
theorem VS.status {s m d:Nat}{g:Goroutine}(h:VS J w s m d g):g.status=.running∨g.status=.finished:=by
 cases h with
 | go h r=>exact .inl (sl_run h (recv_run r))
 | woke r=>exact .inl rfl
 | r0 h r=>exact .inl (sl_run h r.1)
 | lib hs h=>exact h.status
theorem JC.status {bL:Nat}{cw:Frame}{tag:CTag}{f d:Nat}{a:Goroutine}(h:JC J bL cw tag f d a):(a.status=.running∧tag≠.blk)∨(tag=.blk∧f=0∧d=1∧∃g,Wt3 PP lk J.k.wg (Bc J.k) (EvC J.k) (BackG J.N bL J.c J.cs) g∧a={ g with status:=.blocked }):=by
 cases h with
 | kd h r=>exact .inl ⟨sl_run h r.1,by simp⟩
 | w1 h r=>exact .inl ⟨sl_run h r.1,by simp⟩
 | w2 h r=>exact .inl ⟨sl_run h r.1,by simp⟩
 | w3 h r=>exact .inl ⟨sl_run h r.1,by simp⟩
 | blk r=>exact .inr ⟨rfl,rfl,rfl,_,r,rfl⟩
 | w4 h r=>exact .inl ⟨sl_run h r.1,by simp⟩
 | ke h r=>exact .inl ⟨sl_run h r.1,by simp⟩
 | acq h r=>exact .inl ⟨sl_run h r.1,by simp⟩
 | ret h r=>exact .inl ⟨sl_run h (by rw[r];rfl),by simp⟩
theorem again_run (w:World){g:Goroutine}(h:g.status=.running∨g.status=.finished):g.again w=g:=by
 rcases h with h|h<;>simp[Goroutine.again,h]
theorem woken_run {a a' g:Goroutine}(h:g.status=.running∨g.status=.finished):woken PP a a' w g=g:=by
 unfold Go.Conc.woken
 split
 ·exact again_run w h
 ·rfl
theorem JC.woken {bL:Nat}{cw:Frame}{tag:CTag}{f d:Nat}{a:Goroutine}(h:JC J bL cw tag f d a)(g g':Goroutine)(w':World) :
  ∃tag' f',JC J bL cw tag' f' d (woken PP g g' w' a)∧f'≤f+1∧(tag'=tag∨(tag=.blk∧tag'=.w3))∧(mayWake PP g=true→g'.status=.running→tag'≠.blk):=by
 rcases h.status with⟨h1,h2⟩|⟨rfl,rfl,rfl,g0,hr,rfl⟩
 ·rw[woken_run (.inl h1)]
  exact⟨tag,f,h,by omega,.inl rfl,fun _ _=>h2⟩
 ·unfold Go.Conc.woken
  split
  ·rename_i hc
   have:({ g0 with status:=.blocked }:Goroutine).again w'=g0:=by
    have h1:=hr.1
    have h2:=hr.2.1
    obtain⟨fr,cs,s,dy,o⟩:=g0
    simp only at h1 h2
    subst h1 h2
    simp[Goroutine.again]
   rw[this]
   exact⟨.w3,1,.w3 (.nil g0) hr,by omega,.inr ⟨rfl,rfl⟩,fun _ _=>by simp⟩
  ·rename_i hc
   refine⟨.blk,0,.blk hr,by omega,.inl rfl,fun hm hs=>absurd ?_ hc⟩
   simp[hm,hs]
theorem WF.aside (G:Geo J){shut:Bool}(h:WF J shut w)(hA:Go.Conc.Aside J.k.wg w w'):WF J shut w':=by
 have hne:=G.ne
 obtain⟨s,r,tm,h1⟩:=h.cn
 obtain⟨s',r',tm',h2⟩:=h.cr
 exact⟨fun b h1 h2 h3 h4=>(hA.block b h2).trans (h.old b h1 h2 h3 h4),⟨s,r,tm,(hA.block _ (by omega)).trans h1⟩,⟨s',r',tm',(hA.block _ (by omega)).trans h2⟩,by rw[hA.size];exact h.size,hA.os.trans h.os.1,hA.output.trans h.os.2⟩
theorem kp_aside {own:Nat→Nat}(hA:Go.Conc.Aside J.k.wg w w')(lab:Nat):Kp J own lab w w':=⟨fun b _ h _ _ _=>hA.block b h,by rw[hA.size];exact Nat.le_refl _,hA.os,hA.output⟩
theorem rw_aside (G:Geo J){st sm:Int}(hA:Go.Conc.Aside J.k.wg w w')(hl:WgAt lk.tWg J.k.wg w' st sm):RW lk.tWg J.k.wg J.k.bK 1 0 0 w w':=RW.of_wg hA ⟨_,_,hl⟩ (by have:=G.ne;omega)
theorem map_set (gs:Array Goroutine)(f:Goroutine→Goroutine)(x:Nat)(g:Goroutine){y:Nat}(h:y≠x):((gs.map f).setIfInBounds x g)[y]?=(gs[y]?).map f:=by
 rw[set_get y h,Array.getElem?_map]
end
end Go.Proofs.YtjeicikflkjacaaGreatDoor.Ms

/- A caller and its workers: all leave: a step of a worker's. -/
set_option linter.unusedVariables false
namespace Go.Proofs.YtjeicikflkjacaaGreatDoor.Ms
open Go Go.Conc Go.Conc.Lib Go.ConcN
open Go.ConcR (KK wgBlock WgAt stA smA rd wr mk Payload Aside2 DC0 g_of_ofEvents ofEvent_cell ofEvent_mk Bk ofEvent_loc_mark bk_of_mute)
open Par (Cx LocIn Bij VR WR AR OR idB shutW Work Fr EsR EvR LR)
open Mk (Still CaseOk ChanOpen go_still comm_any offers_at Acs Down meets_send meets_recv)
def OutJ (J:Job)(bL:Nat)(cw:Frame)(μ:Nat × Nat)(r:Stepped × Array MemOp)(t:Trace):Prop:=∃m' ops μ',r=(.next m',ops)∧Lt2 μ' μ∧InvJ J bL cw μ' m' (t++ops)
section
variable {J:Job} {bL:Nat} {cw:Frame} {gs:Array Goroutine} {w w':World} {t:Trace} {q own:Nat→Nat} {D:Nat→WD} {tag:CTag} {f0 d0:Nat} {a:Goroutine} {st sm:Int}
theorem evOk_bk (G:Geo J){hold:Nat→Option Nat}{B x:Nat}(hB:J.base≤B){e:Event}(h:Bk J.k.wg e):EvOk J own hold B x e:=by
 obtain⟨l,wr_,sy⟩:=e
 rcases h with h|h|⟨ad,b,h,hb⟩
 ·simp only at h
  subst h
  exact⟨fun y hy=>by simp[MemAct.ofEvent,MemAct.touch?] at hy,trivial⟩
 ·simp only at h
  subst h
  exact⟨fun y hy=>by simp[MemAct.ofEvent,MemAct.touch?] at hy,trivial⟩
 ·cases h
  exact evOk_wg G hB ad hb _
theorem JS.bx (G:Geo J)(K:JS J bL cw gs w t q own D tag f0 d0 a st sm):Bx J.k w∧Bc J.k w:=⟨bx_of G K.com.wf,bx_of G K.com.wf,⟨_,_,K.wg⟩⟩
theorem JS.others (G:Geo J)(K:JS J bL cw gs w t q own D tag f0 d0 a st sm){x y:Nat}{g g' gy:Goroutine}{w1:World}(hne:y≠x)(hy0:y≠0)(hy:gs[y]?=some gy):((gs.map (Go.Conc.woken PP g g' w1)).setIfInBounds x g')[y]?=some gy:=by
 rw[map_set gs _ x g' hne,hy]
 have hlt:=(Array.getElem?_eq_some_iff.1 hy).1
 rw[K.com.size] at hlt
 have hs:gy.status=.running∨gy.status=.finished:=by
  rcases Nat.lt_or_ge y J.s0 with h|h
  ·exact (K.com.old y gy (by omega) h hy).status
  ·obtain⟨g2,hg2,hs⟩:=K.wk (y - J.s0) (by omega)
   rw[show J.s0+(y - J.s0)=y by omega,hy] at hg2
   cases hg2
   exact hs.status
 simp[woken_run hs]
theorem JS.worker (G:Geo J)(K:JS J bL cw gs w t q own D tag f0 d0 a st sm){i:Nat}(hi:i<J.m){g g':Goroutine}{es:Array Event}{s' m' dd':Nat}{st' sm':Int}(hx:gs[J.s0+i]?=some g)(hgo:stepG PP false g w=.go g' w' es)
  (hA:Go.Conc.Aside J.k.wg w w') (hwg':WgAt lk.tWg J.k.wg w' st' sm') (hs':VS J w' s' m' dd' g') (hdd:deafBehind (D i).deaf es=dd') (hev:∀e∈es,EvOk J own (fun _=>none) w'.heap.size (J.s0+i) e) (hnr:∀e∈es,e.loc≠.mark (.release (stA J.k.wg)))
  (hrel:s'≤6→∃r,RelZ J.k.wg (t++MemOp.ofEvents (J.s0+i) g.frame.fn g.frame.place es) (J.s0+i) r)
  (hmode:∀tag',(tag'=tag∨(tag=.blk∧tag'=.w3))→(mayWake PP g=true→g'.status=.running→tag'≠.blk)→Go.ConcN.Mode J.m (D7 (upd D i ⟨s',m',dd'⟩)) tag' st' sm')
  (hacq:tag=.ret→AcqZ J (t++MemOp.ofEvents (J.s0+i) g.frame.fn g.frame.place es)) (hlt:(s'<(D i).stage∧Go.ConcN.cnt (d7 ⟨s',m',dd'⟩)≤Go.ConcN.cnt (d7 (D i)))∨(s'=(D i).stage∧m'+1=(D i).fuel)) (sl:Option (Nat × Nat)) :
  OutJ J bL cw (MuJ J q D tag f0) (runT PP (crowd gs w sl) (J.s0+i)) t:=by
 have hs0:=G.s0
 have hlt':=(Array.getElem?_eq_some_iff.1 hx).1
 have hi0:(J.s0+i==0)=false:=by simp;omega
 obtain⟨tag',f',hcs',hf',htag,hwk⟩:=K.cal.woken g g' w'
 have hrun:=runT_crowd_go (P:=PP) (sl:=sl) (i:=J.s0+i) hx (by rw[hi0];exact hgo)
 have hrw:=rw_aside G hA hwg'
 have hu:∀op∈MemOp.ofEvents (J.s0+i) g.frame.fn g.frame.place es,op.g=J.s0+i:=g_of_ofEvents
 have e1:=sumTo_upd (D7 D) (d7 ⟨s',m',dd'⟩) Go.ConcN.cnt hi
 have e2:=sumTo_upd D (⟨s',m',dd'⟩:WD) WD.stage hi
 have e3:=sumTo_upd D (⟨s',m',dd'⟩:WD) WD.fuel hi
 refine⟨_,_,MuJ J q (upd D i ⟨s',m',dd'⟩) tag' f',hrun,?_,_,w',sl,q,own,upd D i ⟨s',m',dd'⟩,tag',f',d0,Go.Conc.woken PP g g' w' a,st',sm',rfl,⟨?_,?_,hcs',fun i' hi'=>?_,hwg',norel_app K.nr hnr,hmode tag' htag hwk,fun i' hi' h6=>?_,?_,K.lst.else G K.com.wf.size (kp_aside hA 0) (fun _ _=>rfl) (hA.block bL (by have:=K.lst.1;have:=G.wg;omega))⟩,rfl⟩
 ·unfold MuJ
  rw[phi_retag J.m _ htag,D7_upd]
  simp only[Vc] at *
  rcases hlt with⟨h1,h2⟩|⟨h1,h2⟩
  ·refine Prod.Lex.left _ _ ?_
   have:=phi_mono J.m (v':=sumTo J.m fun a=>Go.ConcN.cnt (upd (D7 D) i (d7 ⟨s',m',dd'⟩) a)) (v:=sumTo J.m fun a=>Go.ConcN.cnt (D7 D a)) (by have:Go.ConcN.cnt (D7 D i)=Go.ConcN.cnt (d7 (D i)):=rfl;omega) tag
   omega
  ·have ec:Go.ConcN.cnt (d7 ⟨s',m',dd'⟩)=Go.ConcN.cnt (D7 D i):=by
    show Go.ConcN.cnt (d7 _)=Go.ConcN.cnt (d7 (D i))
    unfold Go.ConcN.cnt d7
    simp only[h1]
   have ev:(sumTo J.m fun a=>Go.ConcN.cnt (upd (D7 D) i (d7 ⟨s',m',dd'⟩) a))=sumTo J.m fun a=>Go.ConcN.cnt (D7 D a):=by omega
   have es':(sumTo J.m fun a=>(upd D i ⟨s',m',dd'⟩ a).stage)=sumTo J.m fun a=>(D a).stage:=by omega
   rw[ev,es']
   refine Prod.Lex.right _ ?_
   omega
 ·refine K.com.step G (.inr ⟨by omega,by omega⟩) (by simp) (fun j gj h0 hj hg=>?_) (K.com.wf.aside G hA) (by rw[hA.size];exact Nat.le_refl _) (fun _ _ _ h=>.inl h) K.com.inj hev (by rw[if_neg (by omega)]) (fun i' hi'=>?_)
  ·have hlj:j<gs.size:=by rw[K.com.size];omega
   have:=K.others G (x:=J.s0+i) (g:=g) (g':=g') (w1:=w') (by omega) (by omega) (Array.getElem?_eq_getElem hlj)
   rw[this] at hg
   rw[Array.getElem?_eq_getElem hlj]
   exact hg
  ·by_cases e:i'=i
   ·subst e
    rw[if_pos rfl,upd_same]
    exact hdd.symm
   ·rw[if_neg (by omega),upd_ne D _ e]
 ·rw[map_set gs _ _ _ (by omega),K.h0];rfl
 ·by_cases e:i'=i
  ·subst e
   exact⟨g',set_same (by simpa using hlt'),by rw[upd_same];exact hs'⟩
  ·obtain⟨g2,hg2,hs2⟩:=K.wk i' hi'
   exact⟨g2,K.others G (by omega) (by omega) hg2,by rw[upd_ne D _ e];exact hs2.rely hrw⟩
 ·by_cases e:i'=i
  ·subst e
   rw[upd_same] at h6
   exact hrel h6
  ·rw[upd_ne D _ e] at h6
   obtain⟨r,hr⟩:=K.rel i' hi' h6
   exact⟨r,hr.other fun op hop=>by rw[hu op hop];omega⟩
 ·intro e
  rcases htag with rfl|⟨_,rfl⟩
  ·exact hacq e
  ·cases e
end
end Go.Proofs.YtjeicikflkjacaaGreatDoor.Ms

/- A caller and its workers: all leave: a step of a worker's, whatever it does. -/
set_option linter.unusedVariables false
namespace Go.Proofs.YtjeicikflkjacaaGreatDoor.Ms
open Go Go.Conc Go.Conc.Lib Go.ConcN
open Go.ConcR (KK wgBlock WgAt stA smA rd wr mk Payload Aside2 DC0 g_of_ofEvents ofEvent_cell ofEvent_mk Bk ofEvent_loc_mark bk_of_mute)
open Par (Cx LocIn Bij VR WR AR OR idB shutW Work Fr EsR EvR LR)
open Mk (Still CaseOk ChanOpen go_still comm_any offers_at Acs Down meets_send meets_recv)
section
variable {J:Job} {bL:Nat} {cw:Frame} {gs:Array Goroutine} {w w':World} {t:Trace} {q own:Nat→Nat} {D:Nat→WD} {tag:CTag} {f0 d0:Nat} {a:Goroutine} {st sm:Int}
set_option maxRecDepth 100000 in
theorem recv_again {k:Kt}{g:Goroutine}(h:RecvG k g)(w:World)(cs:Array CommCase)(sh:CommShape):stepG PP false { parked g cs sh with status:=.running } w=.comm g #[rcase k.cN (.int .i64 0)] true (.recv true) w #[]:=by
 have h2:=recv_comm k h w
 obtain⟨x4,x5,x6,x8,x9,x10,x11,x12,x13,x14,x15,x16,x17,x18,x19,x20,x21,rfl⟩:=h
 exact h2
theorem JS.nobody (K:JS J bL cw gs w t q own D tag f0 d0 a st sm)(x c:Nat)(b:Bool):partners (gs.setIfInBounds x ph) c b=[]:=by
 refine partners_nil fun j g hg=>?_
 by_cases e:j=x
 ·subst e
  have hlt:=(Array.getElem?_eq_some_iff.1 hg).1
  rw[set_same (by simpa using hlt)] at hg
  cases hg
  exact offersAt_ph c b
 ·rw[set_get j e] at hg
  have hlt:=(Array.getElem?_eq_some_iff.1 hg).1
  rw[K.com.size] at hlt
  rcases Nat.eq_zero_or_pos j with rfl|hp
  ·rw[K.h0] at hg;cases hg
   rcases K.cal.status with⟨h,_⟩|⟨_,_,_,g0,hr,rfl⟩
   ·exact offersAt_of_not_blocked (by rw[h];simp) c b
   ·simp[offersAt,hr.2.1]
  ·have hs:g.status=.running∨g.status=.finished:=by
    rcases Nat.lt_or_ge j J.s0 with h|h
    ·exact (K.com.old j g hp h hg).status
    ·obtain⟨g2,hg2,hs⟩:=K.wk (j - J.s0) (by omega)
     rw[show J.s0+(j - J.s0)=j by omega,hg] at hg2
     cases hg2
     exact hs.status
   exact offersAt_of_not_blocked (by rcases hs with h|h<;>rw[h]<;>simp) c b
theorem JS.recv (G:Geo J)(K:JS J bL cw gs w t q own D tag f0 d0 a st sm){i:Nat}(hi:i<J.m){g g2:Goroutine}(hx:gs[J.s0+i]?=some g)(h8:8≤(D i).stage)(hd:(D i).deaf=0)(hr:RecvG J.k g2)(hco:stepG PP false g w=.comm g2 #[rcase J.k.cN (.int .i64 0)] true (.recv true) w #[])(sl:Option (Nat × Nat)) :
  OutJ J bL cw (MuJ J q D tag f0) (runT PP (crowd gs w sl) (J.s0+i)) t:=by
 have hs0:=G.s0
 have hB:=K.com.wf.size
 have hlt':=(Array.getElem?_eq_some_iff.1 hx).1
 have hi0:(J.s0+i==0)=false:=by simp;omega
 obtain⟨s,r,tm,hcn⟩:=K.com.wf.cn
 have hrun:=crowd_recv_closed (P:=PP) (sl:=sl) (i:=J.s0+i) hx (by rw[hi0];exact hco) hcn (K.nobody _ _ _)
 rw[show MemOp.ofEvents (J.s0+i) g.frame.fn g.frame.place #[]=#[] from rfl,Array.empty_append] at hrun
 obtain⟨n,g3,hsl,hr1⟩:To PP false (Bc J.k) (EvB J.k) (R1G J.k) (g2.finishComm PP #[rcase J.k.cN (.int .i64 0)] (.recv true) 0 (.int .i64 0) false):=by
  obtain⟨n1,g4,h1,h2⟩:=w_closed J.k hr
  refine To.bind (Q:=DoneG J.k) ⟨n1,g4,h1.mono (fun w hw=>hw.1) (fun _ h=>h),h2⟩ fun g hg=>?_
  obtain⟨n2,g5,h3,h4⟩:=done_r1 J.k hg
  exact⟨n2,g5,h3.mono (fun w hw=>hw) (fun _ h=>h.elim),h4⟩
 have eD:(fun i'=>(upd D i ⟨7,n,0⟩ i').deaf)=fun i'=>(D i').deaf:=by
  funext y
  by_cases e:y=i
  ·subst e;rw[upd_same,hd]
  ·rw[upd_ne D _ e]
 have hst7:∀y,(D7 (upd D i ⟨7,n,0⟩) y).stage=(D7 D y).stage:=fun y=>by
  unfold D7
  by_cases e:y=i
  ·subst e
   rw[upd_same]
   show min 7 7=min 7 (D y).stage
   omega
  ·rw[upd_ne D _ e]
 have e2:=sumTo_upd D (⟨7,n,0⟩:WD) WD.stage hi
 have hV:Vc J.m (D7 (upd D i ⟨7,n,0⟩))=Vc J.m (D7 D):=sumTo_congr fun y _=>by simp only[Go.ConcN.cnt,hst7 y]
 have hops:∀op∈#[({ g:=J.s0+i,fn:=g2.frame.fn,pos:=g2.frame.place,act:=.recvClosed J.k.cN }:MemOp)],op.act=.recvClosed J.k.cN∧op.g=J.s0+i:=fun op hop=>by
  rw[Array.mem_singleton] at hop
  subst hop
  exact⟨rfl,rfl⟩
 refine⟨_,_,MuJ J q (upd D i ⟨7,n,0⟩) tag f0,hrun,?_,_,w,sl,q,own,upd D i ⟨7,n,0⟩,tag,f0,d0,a,st,sm,rfl,⟨?_,by rw[set_get 0 (by omega)];exact K.h0,K.cal,fun i' hi'=>?_,K.wg,K.nr.app fun op hop=>by rw[(hops op hop).1];simp,K.mode.congr fun y _=>hst7 y,fun i' hi' h6=>?_,fun e=>?_,K.lst⟩,rfl⟩
 ·unfold MuJ
  rw[hV]
  refine Prod.Lex.left _ _ ?_
  simp only at e2
  omega
 ·rw[eD]
  have hO:∀g l,Mem J J.m g→OwnL J own (fun _=>none) g l→OwnL J own (fun _=>none) g l∨∃b,w.heap.size≤b∧LocIn b l:=fun _ _ _ h=>.inl h
  refine K.com.quiet (fun op hop=>by rw[(hops op hop).1];rfl) (fun op hop=>by rw[(hops op hop).1];show J.k.cN<_;have:=G.cN;omega) (fun op hop=>by rw[(hops op hop).1];exact⟨by simp,by simp⟩) (by simp) (fun j gj h0 hj hg=>by rwa [set_get j (by omega)] at hg) K.com.wf rfl hO K.com.inj
 ·by_cases e:i'=i
  ·subst e
   exact⟨_,set_same hlt',by rw[upd_same];exact .r0 hsl hr1⟩
  ·obtain⟨g4,hg4,hs4⟩:=K.wk i' hi'
   exact⟨g4,by rw[set_get _ (by omega)];exact hg4,by rw[upd_ne D _ e];exact hs4⟩
 ·by_cases e:i'=i
  ·subst e
   rw[upd_same] at h6
   simp at h6
  ·rw[upd_ne D _ e] at h6
   obtain⟨r,hr⟩:=K.rel i' hi' h6
   exact⟨r,hr.other fun op hop=>by rw[(hops op hop).2];omega⟩
 ·refine absurd e (K.mode.not_ret hi ?_)
  show min 7 (D i).stage≠1
  omega
theorem D7_low {i:Nat}(h:(D i).stage≤7):D7 D i=D i:=by
 unfold D7 d7
 rw[Nat.min_eq_right h]
theorem d7_low {s m d:Nat}(h:s≤7):d7 ⟨s,m,d⟩=⟨s,m,d⟩:=by
 unfold d7
 simp only[Nat.min_eq_right h]
theorem D7_put {i s m d:Nat}(h:s≤7):D7 (upd D i ⟨s,m,d⟩)=upd (D7 D) i ⟨s,m,d⟩:=by rw[D7_upd,d7_low h]
set_option maxHeartbeats 3200000 in
theorem stepJW (G:Geo J)(hm:J.m<2147483647)(K:JS J bL cw gs w t q own D tag f0 d0 a st sm){i:Nat}(hi:i<J.m){g:Goroutine}(hx:gs[J.s0+i]?=some g)(hrun:g.status=.running)(sl:Option (Nat × Nat)):OutJ J bL cw (MuJ J q D tag f0) (runT PP (crowd gs w sl) (J.s0+i)) t:=by
 have hs0:=G.s0
 have hB:=K.com.wf.size
 have hbx:=K.bx G
 obtain⟨g',hg',hs⟩:=K.wk i hi
 rw[hx] at hg';cases hg'
 have hVj:=Vc_le J.m (D7 D)
 have hmode:=K.mode
 have hwg:=K.wg
 generalize hst:(D i).stage=s at hs
 generalize hfu:(D i).fuel=m at hs
 generalize hde:(D i).deaf=dd at hs
 have hdk:Deaf t (J.s0+i)=dd:=by rw[K.com.dW i hi,hde]
 have nr:s≠1→tag≠.ret:=fun h=>hmode.not_ret hi (by show min 7 (D i).stage≠1;omega)
 have same:∀m' dd',Go.ConcN.Mode J.m (D7 (upd D i ⟨s,m',dd'⟩)) tag st sm:=fun m' dd'=>hmode.congr fun y _=>by
  unfold D7
  by_cases e:y=i
  ·subst e;rw[upd_same];show min 7 s=min 7 (D y).stage;omega
  ·rw[upd_ne D _ e]
 have idle7:∀ {g1:Goroutine} {es:Array Event} {m':Nat},7≤s→dd=0→(∀e∈es,EvB J.k e)→stepG PP false g w=.go g1 w es→VS J w s m' 0 g1→m'+1=m→OutJ J bL cw (MuJ J q D tag f0) (runT PP (crowd gs w sl) (J.s0+i)) t:=by
  intro g1 es m' h7 hd0 he hgo hv hm'
  exact K.worker G hi hx hgo (.refl _ w) hwg hv (by rw[hde,hd0];exact idle_deaf (fun e h=>⟨(evB_still (he e h)).1,(evB_still (he e h)).2.1⟩) 0) (fun e h=>evOk_box G hB (he e h)) (fun e h=>(evB_still (he e h)).2.2) (fun h=>by omega) (fun _ ht _=>(same m' 0).retag ht) (fun e=>absurd e (nr (by omega))) (.inr ⟨hst.symm,by omega⟩) sl
 have bookG:∀ {g':Goroutine} {w':World} {es:Array Event} {s' m' dd':Nat} {st' sm':Int},stepG PP false g w=.go g' w' es→Go.Conc.Aside J.k.wg w w'→WgAt lk.tWg J.k.wg w' st' sm'→(∀e∈es,Bk J.k.wg e) →
   (∀jx e,es[jx]?=some e→(MemAct.ofEvent e).touch?=none∨0<deafBehind dd (es.extract 0 jx))→VS J w' s' m' dd' g'→deafBehind dd es=dd'→s≤6 →
   (∀tag',(tag'=tag∨(tag=.blk∧tag'=.w3))→(mayWake PP g=true→g'.status=.running→tag'≠.blk)→Go.ConcN.Mode J.m (D7 (upd D i ⟨s',m',dd'⟩)) tag' st' sm')→(tag=.ret→AcqZ J (t++MemOp.ofEvents (J.s0+i) g.frame.fn g.frame.place es))→((s'<s∧Go.ConcN.cnt (d7 ⟨s',m',dd'⟩)≤Go.ConcN.cnt (d7 (D i)))∨(s'=s∧m'+1=m)) →
   OutJ J bL cw (MuJ J q D tag f0) (runT PP (crowd gs w sl) (J.s0+i)) t:=by
  intro g' w' es s' m' dd' st' sm' hgo hAs hwg' hbk hd hs' hdd h6 hmode' hacq' hlt
  exact K.worker G hi hx hgo hAs hwg' hs' (by rw[hde];exact hdd) (fun e h=>evOk_bk G (by rw[hAs.size];exact hB) (hbk e h)) (norel_of_Bk hbk) (fun _=>let ⟨r,hr⟩:=K.rel i hi (by omega);⟨r,hr.book hdk _ _ hbk hd⟩) hmode' hacq' (by rw[hst,hfu];exact hlt) sl
 have book:∀ {g':Goroutine} {w':World} {es:Array Event} {s' m' dd':Nat} {st' sm':Int},stepG PP false g w=.go g' w' es→Go.Conc.Aside J.k.wg w w'→WgAt lk.tWg J.k.wg w' st' sm'→(∀e∈es,Bk J.k.wg e) →
   (∀jx e,es[jx]?=some e→(MemAct.ofEvent e).touch?=none∨0<deafBehind dd (es.extract 0 jx))→VS J w' s' m' dd' g'→deafBehind dd es=dd'→s≤6 →
   Go.ConcN.Mode J.m (D7 (upd D i ⟨s',m',dd'⟩)) tag st' sm'→(tag=.ret→AcqZ J (t++MemOp.ofEvents (J.s0+i) g.frame.fn g.frame.place es))→((s'<s∧Go.ConcN.cnt (d7 ⟨s',m',dd'⟩)≤Go.ConcN.cnt (d7 (D i)))∨(s'=s∧m'+1=m)) →
   OutJ J bL cw (MuJ J q D tag f0) (runT PP (crowd gs w sl) (J.s0+i)) t :=
  fun hgo hAs hwg' hbk hd hs' hdd h6 hmode' hacq' hlt=>bookG hgo hAs hwg' hbk hd hs' hdd h6 (fun _ ht _=>hmode'.retag ht) hacq' hlt
 have idle:∀ {g':Goroutine} {m':Nat},stepG PP false g w=.go g' w #[]→VS J w s m' dd g'→m'+1=m→s≤6→s≠1→OutJ J bL cw (MuJ J q D tag f0) (runT PP (crowd gs w sl) (J.s0+i)) t:=by
  intro g' m' hgo hs' hm' h6 h1
  exact book hgo (.refl _ w) hwg (by simp) (by simp) hs' rfl h6 (same m' dd) (fun e=>absurd e (nr h1)) (.inr ⟨rfl,hm'⟩)
 cases hs with
 | go h r =>
  cases h with
  | cons hs he hstp t'=>exact idle7 (by omega) rfl he (hstp w hbx.1) (.go t' r) rfl
  | nil=>exact K.recv G hi hx (by omega) hde r (recv_comm J.k r w) sl
 | woke r=>exact K.recv G hi hx (by omega) hde r (recv_again r w _ _) sl
 | r0 h r =>
  cases h with
  | cons hs he hstp t'=>exact idle7 (by omega) rfl he (hstp w hbx.2) (.r0 t' r) rfl
  | nil =>
   obtain⟨_,g1,hgo,hk⟩:=r
   obtain⟨m2,hk⟩:=hk w hbx.2
   have hc:Go.ConcN.Mode J.m (D7 (upd D i ⟨6,m2,0⟩)) tag st sm:=by
    rw[D7_put (by omega)]
    exact hmode.counted hi (by show 5≤min 7 (D i).stage;omega) (.inl rfl) _ _
   exact K.worker G hi hx (hgo w) (.refl _ w) hwg (.lib (Nat.le_refl 6) (.k1 hk)) (by rw[hde];rfl) (fun e h=>by rw[Array.mem_singleton] at h;subst h;exact evOk_at G hB .releaseMerge (.inr rfl)) (fun e h=>by rw[Array.mem_singleton] at h;subst h;simp[mk]) (fun _=>⟨_,RelZ.new hdk _ _⟩) (fun _ ht _=>hc.retag ht) (fun e=>absurd e (nr (by omega))) (.inl ⟨by omega,by rw[←D7_low (D:=D) (i:=i) (by omega)];simp[Go.ConcN.cnt,d7,D7,hst]⟩) sl
 | lib h6 h =>
  have hD7:D7 D i=D i:=D7_low (by omega)
  have hst7:(D7 D i).stage=s:=by rw[hD7];exact hst
  cases h with
  | r0 h=>omega
  | k1 h =>
   rcases Goes.cases h with hstop|⟨m',rfl,hstep⟩
   ·obtain⟨_,g',hgo,m₂,hk⟩:=hstop w (RW.refl w)
    exact book hgo (.refl _ w) hwg (by intro e he;simp at he;subst he;exact .inl rfl) (by intro jx e he;exact .inl (by have:=Array.mem_of_getElem? he;simp at this;subst this;rfl)) (.lib (by omega) (.d1 hk)) rfl (by omega)
     (by rw[D7_put (by omega)];exact hmode.counted hi (by omega) (.inr rfl) _ _) (fun e=>absurd e (nr (by omega))) (.inl ⟨by omega,by simp[Go.ConcN.cnt,d7,hst]⟩)
   ·obtain⟨g',w',es,hgo,⟨rfl,rfl⟩,hg'⟩:=hstep w (RW.refl w)
    exact idle hgo (.lib (by omega) (.k1 hg')) rfl (by omega) (by omega)
  | d1 h =>
   rcases Goes.cases h with hstop|⟨m',rfl,hstep⟩
   ·obtain⟨_,hall⟩:=hstop w (RW.refl w)
    have hc1:Go.ConcN.cnt (D7 D i)=1:=by simp[Go.ConcN.cnt,hst7]
    have hV1:1≤Vc J.m (D7 D):=by have:=le_sumTo (f:=fun x=>Go.ConcN.cnt (D7 D x)) hi;simp only[Vc];omega
    have bk2:∀e∈#[rd (stA J.k.wg),wr (stA J.k.wg)],Bk J.k.wg e:=by intro e he;simp at he;rcases he with rfl|rfl<;>exact bk_cell _ _ rfl
    have df2:∀jx e,(#[rd (stA J.k.wg),wr (stA J.k.wg)]:Array Event)[jx]?=some e→(MemAct.ofEvent e).touch?=none∨0<deafBehind 1 ((#[rd (stA J.k.wg),wr (stA J.k.wg)]:Array Event).extract 0 jx):=by
     intro jx e he
     match jx,he with
     | 0,_=>exact .inr (by simp[deafBehind])
     | 1,_=>exact .inr (by simp[deafBehind,rd])
     | jx+2,he=>simp at he
    have hq0:∀q,Go.ConcN.cnt (⟨1,q,1⟩:WD)=0:=fun _=>rfl
    have opq:∀q,OpenSt J.m (D7 D)→OpenSt J.m (upd (D7 D) i ⟨1,q,1⟩):=fun q h y hy=>by
     by_cases e:y=i
     ·subst e;rw[upd_same];simp
     ·rw[upd_ne _ _ e];exact h y hy
    cases hmode with
    | opn h1 h2 h3 =>
     obtain⟨v,hv⟩:∃v,Vc J.m (D7 D)+pend tag=v+1:=⟨Vc J.m (D7 D)+pend tag - 1,by omega⟩
     rw[hv] at hwg
     have hw1:WgAt lk.tWg J.k.wg w (((v:Nat)+1)*KK+((0:Nat):Int)) 0:=by simpa using hwg
     have hpend:pend tag≤1:=by cases tag<;>simp only[pend]<;>first|omega|(split<;>omega)
     obtain⟨g',hgo,_,hq⟩:=hall v 0 (by omega) (by omega) hw1
     obtain⟨q',hq⟩:=hq (by omega)
     have hv':Vc J.m (upd (D7 D) i ⟨1,q',1⟩)+pend tag=v:=by have:=Vc_upd (D7 D) (⟨1,q',1⟩:WD) hi;have:=hq0 q';omega
     refine book hgo (aside_setCell w (stA J.k.wg) _) (hwg.setSt _) bk2 df2 (.lib (by omega) (.quit hq)) rfl (by omega) ?_ (fun e=>absurd e (nr (by omega))) (.inl ⟨by omega,by simp[Go.ConcN.cnt,d7]⟩)
     have e:((v:Nat):Int)*KK+((0:Nat):Int)=((Vc J.m (upd (D7 D) i ⟨1,q',1⟩)+pend tag:Nat):Int)*KK:=by rw[hv'];simp
     rw[e,D7_put (by omega)]
     exact .opn h1 (opq q' h2) (fun vs ev=>by have:=h3 vs ev;omega)
    | reg h1 h2 h3 =>
     obtain⟨v,hv⟩:∃v,Vc J.m (D7 D)=v+1:=⟨Vc J.m (D7 D) - 1,by omega⟩
     rw[hv] at hwg
     have hw1:WgAt lk.tWg J.k.wg w (((v:Nat)+1)*KK+((1:Nat):Int)) 0:=by simpa using hwg
     obtain⟨g',hgo,hl,hq⟩:=hall v 1 (by omega) (by omega) hw1
     by_cases hv0:v=0
     ·subst hv0
      obtain⟨m₂,hk⟩:=hl ⟨rfl,rfl⟩
      refine book hgo (aside_setCell w (stA J.k.wg) _) (hwg.setSt _) bk2 df2 (.lib (by omega) (.d2 hk)) rfl (by omega) ?_ (fun e=>absurd e (nr (by omega))) (.inl ⟨by omega,by simp[Go.ConcN.cnt,d7]⟩)
      have hoth:∀y,y<J.m→y≠i→(D7 D y).stage=1:=fun y hy e=>by
       have c0:=others_uncounted hi hv hc1 y hy e
       have:=h2 y hy
       simp only[Go.ConcN.cnt] at c0
       split at c0<;>omega
      have:=Go.ConcN.Mode.last (j:=J.m) (D:=upd (D7 D) i ⟨4,m₂,1⟩) (tag:=tag) i h1 hi (by rw[upd_same];simp) (fun y hy e=>by rw[upd_ne _ _ e];exact hoth y hy e)
      rw[upd_same] at this
      rw[D7_put (by omega)]
      simpa using this
     ·obtain⟨q',hq⟩:=hq (by omega)
      have hv':Vc J.m (upd (D7 D) i ⟨1,q',1⟩)=v:=by have:=Vc_upd (D7 D) (⟨1,q',1⟩:WD) hi;have:=hq0 q';omega
      refine book hgo (aside_setCell w (stA J.k.wg) _) (hwg.setSt _) bk2 df2 (.lib (by omega) (.quit hq)) rfl (by omega) ?_ (fun e=>absurd e (nr (by omega))) (.inl ⟨by omega,by simp[Go.ConcN.cnt,d7]⟩)
      have e:((v:Nat):Int)*KK+((1:Nat):Int)=((Vc J.m (upd (D7 D) i ⟨1,q',1⟩):Nat):Int)*KK+1:=by rw[hv'];simp
      rw[e,D7_put (by omega)]
      exact .reg h1 (opq q' h2) (by omega)
    | last L _ h2 h3 h4 =>
     by_cases e:i=L
     ·subst e;omega
     ·have:=h4 i hi e;omega
    | sema h2=>have:=h2 i hi;omega
    | fin _ h2=>have:=h2 i hi;omega
   ·obtain⟨g',w',es,hgo,⟨rfl,rfl⟩,hg'⟩:=hstep w (RW.refl w)
    exact idle hgo (.lib (by omega) (.d1 hg')) rfl (by omega) (by omega)
  | d2 h =>
   rcases Goes.cases h with hstop|⟨m',rfl,hstep⟩
   ·obtain⟨_,hx'⟩:=hstop w (RW.refl w)
    obtain⟨hW3,hoth,rfl,rfl⟩:=hmode.isLast hi (by omega)
    simp only[hst7] at hwg
    obtain⟨g',hgo,m₂,hk⟩:=hx' (by simpa using hwg)
    refine book hgo (.refl _ w) hwg (by intro e he;simp at he;subst he;exact bk_cell _ _ rfl) (by intro jx e he;match jx,he with|0,_=>exact .inr (by simp[deafBehind])|jx+1,he=>simp at he) (.lib (by omega) (.d3 hk)) rfl (by omega) ?_ (fun e=>absurd e (nr (by omega))) (.inl ⟨by omega,by simp[Go.ConcN.cnt,d7]⟩)
    have:=Go.ConcN.Mode.last (j:=J.m) (D:=upd (D7 D) i ⟨3,m₂,1⟩) (tag:=tag) i hW3 hi (by rw[upd_same];simp) (fun y hy e=>by rw[upd_ne _ _ e];exact hoth y hy e)
    rw[upd_same] at this
    rw[D7_put (by omega)]
    simpa using this
   ·obtain⟨g',w',es,hgo,⟨rfl,rfl⟩,hg'⟩:=hstep w (RW.refl w)
    exact idle hgo (.lib (by omega) (.d2 hg')) rfl (by omega) (by omega)
  | d3 h =>
   rcases Goes.cases h with hstop|⟨m',rfl,hstep⟩
   ·obtain⟨_,hx'⟩:=hstop w (RW.refl w)
    obtain⟨hW3,hoth,rfl,rfl⟩:=hmode.isLast hi (by omega)
    simp only[hst7] at hwg
    obtain⟨g',hgo,m₂,hk⟩:=hx' (by simpa using hwg)
    refine book hgo (aside_setCell w (stA J.k.wg) _) (hwg.setSt 0) (by intro e he;simp at he;subst he;exact bk_cell _ _ rfl) (by intro jx e he;match jx,he with|0,_=>exact .inr (by simp[deafBehind])|jx+1,he=>simp at he) (.lib (by omega) (.d4 hk)) rfl (by omega) ?_ (fun e=>absurd e (nr (by omega))) (.inl ⟨by omega,by simp[Go.ConcN.cnt,d7]⟩)
    have:=Go.ConcN.Mode.last (j:=J.m) (D:=upd (D7 D) i ⟨2,m₂,1⟩) (tag:=tag) i hW3 hi (by rw[upd_same];simp) (fun y hy e=>by rw[upd_ne _ _ e];exact hoth y hy e)
    rw[upd_same] at this
    rw[D7_put (by omega)]
    simpa using this
   ·obtain⟨g',w',es,hgo,⟨rfl,rfl⟩,hg'⟩:=hstep w (RW.refl w)
    exact idle hgo (.lib (by omega) (.d3 hg')) rfl (by omega) (by omega)
  | d4 h =>
   rcases Goes.cases h with hstop|⟨m',rfl,hstep⟩
   ·obtain⟨_,hmw,hx'⟩:=hstop w (RW.refl w)
    obtain⟨hW3,hoth,rfl,rfl⟩:=hmode.isLast hi (by omega)
    simp only[hst7] at hwg
    obtain⟨g',hgo,q',hq⟩:=hx' (by simpa using hwg)
    have hrun':g'.status=.running:=by
     cases q' with
     | zero=>exact absurd hq.2 (by decide)
     | succ q'=>exact hq.elim (fun x=>absurd x.2 (by decide)) (fun x=>x.1)
    refine bookG hgo (aside_setCell w (smA J.k.wg) _) (hwg.setSm 1) (es:=semEvents (smA J.k.wg)) ?_ ?_ (.lib (by omega) (.quit hq)) (by simp[deafBehind,semEvents]) (by omega) ?_ (fun e=>absurd e (nr (by omega))) (.inl ⟨by omega,by simp[Go.ConcN.cnt,d7]⟩)
    ·intro e he
     simp[semEvents] at he
     rcases he with rfl|rfl|rfl|rfl
     ·exact .inl rfl
     ·exact bk_cell _ _ rfl
     ·exact bk_cell _ _ rfl
     ·exact .inr (.inl rfl)
    ·intro jx e he
     match jx,he with
     | 0,he=>simp[semEvents] at he;subst he;exact .inl rfl
     | 1,_=>exact .inr (by simp[deafBehind,semEvents])
     | 2,_=>exact .inr (by simp[deafBehind,semEvents])
     | 3,he=>simp[semEvents] at he;subst he;exact .inl rfl
     | jx+4,he=>simp[semEvents] at he
    ·intro tag' ht hw
     have hnb:=hw hmw hrun'
     have e3:tag'=.w3:=by
      rcases ht with rfl|⟨_,rfl⟩
      ·cases tag'<;>first|rfl|exact hW3.elim|exact absurd rfl hnb
      ·rfl
     subst e3
     rw[D7_put (by omega)]
     simp only[if_true]
     exact .sema fun y hy=>by
      by_cases e:y=i
      ·subst e;rw[upd_same]
      ·rw[upd_ne _ _ e];exact hoth y hy e
   ·obtain⟨g',w',es,hgo,⟨rfl,rfl⟩,hg'⟩:=hstep w (RW.refl w)
    exact idle hgo (.lib (by omega) (.d4 hg')) rfl (by omega) (by omega)
  | quit h =>
   cases m with
   | zero=>rw[h.1] at hrun;cases hrun
   | succ q' =>
    rcases h with⟨hf,_⟩|⟨_,g',es,hmute,hstep,hq⟩
    ·rw[hf] at hrun;cases hrun
    ·have hbk:∀e∈es,Bk J.k.wg e:=fun e he=>bk_of_mute (hmute e he)
     have hno:∀jx e,es[jx]?=some e→(MemAct.ofEvent e).touch?=none∨0<deafBehind dd (es.extract 0 jx):=fun jx e he=>.inl (touch_mute (hmute e (Array.mem_of_getElem? he)))
     refine book (hstep w) (.refl _ w) hwg hbk hno (.lib (by omega) (.quit hq)) rfl (by omega) (same q' _) (fun e=>?_) (.inr ⟨rfl,rfl⟩)
     obtain⟨p,h1,h2,h3,h4⟩:=K.acq e
     have hp:=lt_of_act? h1
     refine⟨p,by rw[act?_old hp];exact h1,by rw[g?_old hp];exact h2,(heard_old hp).2 h3,fun i' hi'=>?_⟩
     obtain⟨r,hr,hrp⟩:=h4 i' hi'
     refine⟨r,?_,hrp⟩
     by_cases e':i'=i
     ·subst e';exact hr.book hdk _ _ hbk hno
     ·exact hr.other fun op hop=>by rw[g_of_ofEvents op hop];omega
end
end Go.Proofs.YtjeicikflkjacaaGreatDoor.Ms
