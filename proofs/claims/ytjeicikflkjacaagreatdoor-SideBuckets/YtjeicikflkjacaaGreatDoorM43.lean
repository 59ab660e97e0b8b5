/- A caller and its workers: all leave: a step of the caller's, of an old one; all are waited for. -/
import Derived.Test.YtjeicikflkjacaaGreatDoorM42
set_option linter.unusedVariables false
namespace Go.Proofs.YtjeicikflkjacaaGreatDoor.Ms
open Go Go.Conc Go.Conc.Lib Go.ConcN
open Go.ConcR (KK wgBlock WgAt stA smA rd wr mk Payload Aside2 DC0 g_of_ofEvents ofEvent_cell ofEvent_mk Bk ofEvent_loc_mark bk_of_mute)
open Par (Cx LocIn Bij VR WR AR OR idB shutW Work Fr EsR EvR LR)
open Mk (Still CaseOk ChanOpen go_still comm_any offers_at Acs Down meets_send meets_recv)
section
variable {J:Job} {bL:Nat} {cw:Frame} {gs:Array Goroutine} {w w':World} {t:Trace} {q own:Nat→Nat} {D:Nat→WD} {tag:CTag} {f0 d0:Nat} {a:Goroutine} {st sm:Int}
theorem JS.caller (G:Geo J)(K:JS J bL cw gs w t q own D tag f0 d0 a st sm){a':Goroutine}{es:Array Event}{tag':CTag}{f' d':Nat}{st' sm':Int}(hgo:stepG PP true a w=.go a' w' es)
  (hA:Go.Conc.Aside J.k.wg w w') (hwg':WgAt lk.tWg J.k.wg w' st' sm') (hc:JC J bL cw tag' f' d' a') (hdd:deafBehind d0 es=d') (hev:∀e∈es,EvOk J own (fun _=>none) w'.heap.size 0 e) (hnr:∀e∈es,e.loc≠.mark (.release (stA J.k.wg)))
  (hmode:Go.ConcN.Mode J.m (D7 D) tag' st' sm') (hacq:tag'=.ret→AcqZ J (t++MemOp.ofEvents 0 a.frame.fn a.frame.place es)) (hlt:phi J.m (Vc J.m (D7 D)) tag'<phi J.m (Vc J.m (D7 D)) tag∨(phi J.m (Vc J.m (D7 D)) tag'=phi J.m (Vc J.m (D7 D)) tag∧f'<f0)) (sl:Option (Nat × Nat)) :
  OutJ J bL cw (MuJ J q D tag f0) (runT PP (crowd gs w sl) 0) t:=by
 have hs0:=G.s0
 have hlt':=(Array.getElem?_eq_some_iff.1 K.h0).1
 have hrun:=runT_crowd_go (P:=PP) (sl:=sl) (i:=0) K.h0 hgo
 have hrw:=rw_aside G hA hwg'
 have hu:∀op∈MemOp.ofEvents 0 a.frame.fn a.frame.place es,op.g=0:=g_of_ofEvents
 refine⟨_,_,MuJ J q D tag' f',hrun,?_,_,w',sl,q,own,D,tag',f',d',a',st',sm',rfl,⟨?_,set_same (by simpa using hlt'),hc,fun i' hi'=>?_,hwg',norel_app K.nr hnr,hmode,fun i' hi' h6=>?_,hacq,K.lst.else G K.com.wf.size (kp_aside hA 0) (fun _ _=>rfl) (hA.block bL (by have:=K.lst.1;have:=G.wg;omega))⟩,rfl⟩
 ·unfold MuJ
  rcases hlt with h|⟨h1,h2⟩
  ·exact Prod.Lex.left _ _ (by omega)
  ·rw[h1]
   exact Prod.Lex.right _ (by omega)
 ·refine K.com.step G (.inl rfl) (by simp) (fun j gj h0 hj hg=>?_) (K.com.wf.aside G hA) (by rw[hA.size];exact Nat.le_refl _) (fun _ _ _ h=>.inl h) K.com.inj hev (by rw[if_pos rfl];exact hdd.symm) (fun i' hi'=>by rw[if_neg (by omega)])
  have hlj:j<gs.size:=by rw[K.com.size];omega
  have:=K.others G (x:=0) (g:=a) (g':=a') (w1:=w') (by omega) (by omega) (Array.getElem?_eq_getElem hlj)
  rw[this] at hg
  rw[Array.getElem?_eq_getElem hlj]
  exact hg
 ·obtain⟨g2,hg2,hs2⟩:=K.wk i' hi'
  exact⟨g2,K.others G (by omega) (by omega) hg2,hs2.rely hrw⟩
 ·obtain⟨r,hr⟩:=K.rel i' hi' h6
  exact⟨r,hr.other fun op hop=>by rw[hu op hop];omega⟩
theorem JS.old (G:Geo J)(K:JS J bL cw gs w t q own D tag f0 d0 a st sm){x:Nat}(hp:0<x)(hxs:x<J.s0){g:Goroutine}(hx:gs[x]?=some g)(hgr:g.status=.running)(sl:Option (Nat × Nat)):OutJ J bL cw (MuJ J q D tag f0) (runT PP (crowd gs w sl) x) t:=by
 have hq:=K.com.old x g hp hxs hx
 have hi0:(x==0)=false:=by simp;omega
 have hlt':=(Array.getElem?_eq_some_iff.1 hx).1
 cases hqi:q x with
 | zero=>rw[hqi] at hq;rw[hq.1] at hgr;cases hgr
 | succ n =>
  rw[hqi] at hq
  rcases hq with⟨hf,_⟩|⟨_,g',es,hm',hstp,hq'⟩
  ·rw[hf] at hgr;cases hgr
  obtain⟨tag',f',hcs',hf',htag,hwk⟩:=K.cal.woken g g' w
  have hrun:=runT_crowd_go (P:=PP) (sl:=sl) (i:=x) hx (by rw[hi0];exact hstp w)
  have hu:∀op∈MemOp.ofEvents x g.frame.fn g.frame.place es,op.g=x:=g_of_ofEvents
  have hsum:sumTo J.s0 (upd q x n)+(n+1)=sumTo J.s0 q+n:=by
   have:=sumTo_upd q n id hxs
   simpa [hqi] using this
  refine⟨_,_,MuJ J (upd q x n) D tag' f',hrun,?_,_,w,sl,upd q x n,own,D,tag',f',d0,Go.Conc.woken PP g g' w a,st,sm,rfl,⟨?_,?_,hcs',fun i' hi'=>?_,K.wg,norel_app K.nr fun e he hl=>mute_norel (hm' e he) hl,K.mode.retag htag,fun i' hi' h6=>?_,fun e=>?_,K.lst⟩,rfl⟩
  ·unfold MuJ
   rw[phi_retag J.m _ htag]
   exact Prod.Lex.right _ (by omega)
  ·refine K.com.slip hp hxs hm' hq' (by simp) (set_same (by simpa using hlt')) (fun i gi h0 hi hne hg=>?_)
   have hlj:i<gs.size:=by rw[K.com.size];omega
   have:=K.others G (x:=x) (g:=g) (g':=g') (w1:=w) hne (by omega) (Array.getElem?_eq_getElem hlj)
   rw[this] at hg
   rw[Array.getElem?_eq_getElem hlj]
   exact hg
  ·rw[map_set gs _ _ _ (by omega),K.h0];rfl
  ·obtain⟨g2,hg2,hs2⟩:=K.wk i' hi'
   exact⟨g2,K.others G (by omega) (by omega) hg2,hs2⟩
  ·obtain⟨r,hr⟩:=K.rel i' hi' h6
   exact⟨r,hr.other fun op hop=>by rw[hu op hop];omega⟩
  ·have e':tag=.ret:=by
    rcases htag with rfl|⟨_,rfl⟩
    ·exact e
    ·cases e
   obtain⟨p,h1,h2,h3,h4⟩:=K.acq e'
   have hp:=lt_of_act? h1
   refine⟨p,by rw[act?_old hp];exact h1,by rw[g?_old hp];exact h2,(heard_old hp).2 h3,fun i' hi'=>?_⟩
   obtain⟨r,hr,hrp⟩:=h4 i' hi'
   exact⟨r,hr.other fun op hop=>by rw[hu op hop];omega,hrp⟩
theorem JS.at (G:Geo J)(K:JS J bL cw gs w t q own D tag f0 d0 a st sm)(d:Nat):JS J bL cw gs (w.at d) t q own D tag f0 d0 a st sm :=
 ⟨K.com.at d,K.h0,K.cal,fun i hi=>let ⟨g,hg,h⟩:=K.wk i hi;⟨g,hg,h.rely (RW.at w d)⟩,K.wg,K.nr,K.mode,K.rel,K.acq,K.lst.else G K.com.wf.size (.at d) (fun _ _=>rfl) rfl⟩
def GoalJ (J:Job)(bL:Nat)(cw:Frame)(m:Machine)(t:Trace):Prop :=
 ∃gs w sl q own D a,m=crowd gs w sl∧JS J bL cw gs w t q own D .ret 0 0 a 0 0∧BackG J.N bL J.c J.cs a
set_option maxHeartbeats 3200000 in
theorem stepJC (G:Geo J)(hm:J.m<2147483647)(hback:∀g,AnchG lk J.k.wg cw (J.c :: J.cs) g→To PP true (Bc J.k) (EvC J.k) (Wt1 PP lk J.k.wg (Bc J.k) (EvC J.k) cw (J.c :: J.cs) (BackG J.N bL J.c J.cs)) g)
  (K:JS J bL cw gs w t q own D tag f0 d0 a st sm) (hrun:a.status=.running) (hng:¬BackG J.N bL J.c J.cs a∨tag≠.ret) (sl:Option (Nat × Nat)):OutJ J bL cw (MuJ J q D tag f0) (runT PP (crowd gs w sl) 0) t:=by
 have hs0:=G.s0
 have hB:=K.com.wf.size
 have hbc:=(K.bx G).2
 have hVj:=Vc_le J.m (D7 D)
 have hmode:=K.mode
 have hwg:=K.wg
 have idle:∀ {g1:Goroutine} {es:Array Event} {n':Nat},(∀e∈es,EvC J.k e)→stepG PP true a w=.go g1 w es→JC J bL cw tag n' d0 g1→n'<f0→(tag=.ret→AcqZ J (t++MemOp.ofEvents 0 a.frame.fn a.frame.place es))→OutJ J bL cw (MuJ J q D tag f0) (runT PP (crowd gs w sl) 0) t:=by
  intro g1 es n' he hgo hc hn hq
  exact K.caller G hgo (.refl _ w) hwg hc (idle_deaf (fun e h=>⟨(evC_still (he e h)).1,(evC_still (he e h)).2.1⟩) _) (fun e h=>evOk_cal G hB (he e h)) (fun e h=>(evC_still (he e h)).2.2) hmode hq (.inr ⟨rfl,hn⟩) sl
 have ev1:∀(m:Mark) (B:Nat),J.base≤B→(m=.disable∨m=.enable)→∀e∈#[mk m],EvOk J own (fun _=>none) B 0 e:=fun m B hB hm e he=>by rw[Array.mem_singleton] at he;subst he;exact evOk_mark m hm
 have nr1:∀(m:Mark),m≠.release (stA J.k.wg)→∀e∈#[mk m],e.loc≠.mark (.release (stA J.k.wg)):=fun m hm e he=>by rw[Array.mem_singleton] at he;subst he;simpa [mk] using hm
 have evr:∀e∈#[rd (stA J.k.wg)],EvOk J own (fun _=>none) w.heap.size 0 e:=fun e he=>by rw[Array.mem_singleton] at he;subst he;exact evOk_wg G hB _ rfl _
 have nrr:∀e∈#[rd (stA J.k.wg)],e.loc≠.mark (.release (stA J.k.wg)):=fun e he=>by rw[Array.mem_singleton] at he;subst he;simp[rd]
 have hcal:=K.cal
 cases hcal with
 | blk r=>cases hrun
 | kd h r =>
  cases h with
  | cons hs he hst t'=>exact idle he (hst w hbc) (.kd t' r) (by omega) (fun e=>by cases e)
  | nil =>
   obtain⟨_,g1,hgo,hto⟩:=r
   obtain⟨n,g2,hsl,hw1⟩:=hto.bind hback
   have hmd:Go.ConcN.Mode J.m (D7 D) .w1 st sm:=by
    cases hmode with
    | opn h1 h2 h3=>exact .opn (tag:=.w1) trivial h2 (fun vs e=>by cases e)
    | reg h1 _ _=>exact h1.elim
    | last L h1 _ _ _=>exact h1.elim
    | fin h1 _=>exact h1.elim
   exact K.caller G (hgo w) (.refl _ w) hwg (.w1 hsl hw1) rfl (ev1 .disable _ hB (.inl rfl)) (nr1 .disable (by simp)) hmd (fun e=>by cases e) (.inl (by simp only[phi];omega)) sl
 | w1 h r =>
  cases h with
  | cons hs he hst t'=>exact idle he (hst w hbc) (.w1 t' r) (by omega) (fun e=>by cases e)
  | nil =>
   obtain⟨_,hall⟩:=r
   cases hmode with
   | opn h1 h2 h3 =>
    simp only[pend,Nat.add_zero] at hwg
    obtain⟨g1,hgo,hz,hnz⟩:=hall (Vc J.m (D7 D)) (by omega)
    by_cases hv:Vc J.m (D7 D)=0
    ·obtain⟨n,g2,hsl,hke⟩:=hz hv
     have hq:AllQuit J.m (D7 D):=fun i hi=>by
      have h5:=h2 i hi
      have:Go.ConcN.cnt (D7 D i)=0:=by
       have:=le_sumTo (f:=fun x=>Go.ConcN.cnt (D7 D x)) hi
       simp only[Vc] at hv
       omega
      simp only[Go.ConcN.cnt] at this
      split at this<;>omega
     have hwg0:WgAt lk.tWg J.k.wg w 0 0:=by have:=hwg;rw[hv] at this;simpa using this
     exact K.caller G (hgo w hwg) (.refl _ w) hwg0 (.ke hsl hke) rfl evr nrr (.fin trivial hq) (fun e=>by cases e) (.inl (by simp only[phi];omega)) sl
    ·obtain⟨n,g2,hsl,hw2⟩:=hnz hv
     have hmd:Go.ConcN.Mode J.m (D7 D) (.w2 (Vc J.m (D7 D))) (((Vc J.m (D7 D):Nat):Int)*KK) 0:=.opn (tag:=.w2 _) trivial h2 (fun vs e=>by cases e;omega)
     exact K.caller G (hgo w hwg) (.refl _ w) hwg (.w2 hsl hw2) rfl evr nrr hmd (fun e=>by cases e) (.inl (by simp only[phi];omega)) sl
   | reg h1 _ _=>exact h1.elim
   | last L h1 _ _ _=>exact h1.elim
   | fin h1 _=>exact h1.elim
 | w2 h r =>
  rename_i vs g2
  cases h with
  | cons hs he hst t'=>exact idle he (hst w hbc) (.w2 t' r) (by omega) (fun e=>by cases e)
  | nil =>
   obtain⟨_,⟨g1,hgo,hto⟩,g1',hgo',hto'⟩:=r
   cases hmode with
   | opn h1 h2 h3 =>
    obtain⟨h4,h5⟩:=h3 vs rfl
    simp only[pend,Nat.add_zero] at hwg
    by_cases hv:Vc J.m (D7 D)=vs
    ·obtain⟨n,g3,hsl,hw3⟩:=hto
     rw[hv] at hwg
     have hmd:Go.ConcN.Mode J.m (D7 D) .w3 (((Vc J.m (D7 D):Nat):Int)*KK+1) 0:=.reg (tag:=.w3) trivial h2 (by omega)
     rw[hv] at hmd
     refine K.caller G (hgo w hwg) (aside_setCell w (stA J.k.wg) _) (hwg.setSt _) (.w3 hsl hw3) rfl (fun e he=>?_) (fun e he=>?_) hmd (fun e=>by cases e) (.inl (by simp only[phi];omega)) sl
     ·simp at he
      rcases he with rfl|rfl<;>exact evOk_wg G (by rw[(aside_setCell w (stA J.k.wg) _).size];exact hB) _ rfl _
     ·simp at he
      rcases he with rfl|rfl<;>simp[rd,wr]
    ·obtain⟨n,g3,hsl,hw1⟩:=hto'.bind hback
     have hmd:Go.ConcN.Mode J.m (D7 D) .w1 (((Vc J.m (D7 D):Nat):Int)*KK) 0:=.opn (tag:=.w1) trivial h2 (fun vs e=>by cases e)
     exact K.caller G (hgo' w _ hv hwg) (.refl _ w) hwg (.w1 hsl hw1) rfl evr nrr hmd (fun e=>by cases e) (.inl (by simp only[phi];omega)) sl
   | reg h1 _ _=>exact h1.elim
   | last L h1 _ _ _=>exact h1.elim
   | fin h1 _=>exact h1.elim
 | w3 h r =>
  rename_i n g2
  cases h with
  | cons hs he hst t'=>exact idle he (hst w hbc) (.w3 t' r) (by omega) (fun e=>by cases e)
  | nil =>
   have r':=r
   obtain⟨_,_,hw,g1,hgo,n,g3,hsl,hw4⟩:=r
   have wait:∀ {x:Int},WgAt lk.tWg J.k.wg w x 0→st=x→sm=0→OutJ J bL cw (MuJ J q D .w3 (0+1)) (runT PP (crowd gs w sl) 0) t:=fun {x} hx e1 e2=>by
    have hmd:Go.ConcN.Mode J.m (D7 D) .blk st sm:=by
     cases hmode with
     | opn h1 _ _=>exact h1.elim
     | reg _ h2 h3=>exact .reg (tag:=.blk) trivial h2 h3
     | last L _ h2 h3 h4=>exact .last (tag:=.blk) L trivial h2 h3 h4
     | sema h2=>cases e2
     | fin h1 _=>exact h1.elim
    exact K.caller G (hw w x hx) (.refl _ w) hwg (.blk r') rfl (fun e h=>by simp at h) (fun e h=>by simp at h) hmd (fun e=>by cases e) (.inr ⟨rfl,by omega⟩) sl
   cases hmode with
   | opn h1 _ _=>exact h1.elim
   | reg h1 h2 h3=>exact wait hwg rfl rfl
   | last L h1 h2 h3 h4=>exact wait hwg rfl rfl
   | sema h2 =>
    refine K.caller G (hgo w hwg) (aside_setCell w (smA J.k.wg) _) (hwg.setSm 0) (.w4 hsl hw4) (by simp[deafBehind,semEvents]) (fun e he=>?_) (fun e he=>?_) (.fin trivial h2) (fun e=>by cases e) (.inl (by simp only[phi];omega)) sl
    ·simp[semEvents] at he
     rcases he with rfl|rfl|rfl|rfl
     ·exact evOk_bk G (by rw[(aside_setCell w (smA J.k.wg) _).size];exact hB) (.inl rfl)
     ·exact evOk_wg G (by rw[(aside_setCell w (smA J.k.wg) _).size];exact hB) _ rfl _
     ·exact evOk_wg G (by rw[(aside_setCell w (smA J.k.wg) _).size];exact hB) _ rfl _
     ·exact evOk_bk G (by rw[(aside_setCell w (smA J.k.wg) _).size];exact hB) (.inr (.inl rfl))
    ·simp[semEvents] at he
     rcases he with rfl|rfl|rfl|rfl<;>simp
   | fin h1 _=>exact h1.elim
 | w4 h r =>
  cases h with
  | cons hs he hst t'=>exact idle he (hst w hbc) (.w4 t' r) (by omega) (fun e=>by cases e)
  | nil =>
   obtain⟨_,g1,hgo,n,g3,hsl,hke⟩:=r
   cases hmode with
   | opn h1 _ _=>exact h1.elim
   | reg h1 _ _=>exact h1.elim
   | last L h1 _ _ _=>exact h1.elim
   | fin h1 h2=>exact K.caller G (hgo w hwg) (.refl _ w) hwg (.ke hsl hke) rfl evr nrr (.fin trivial h2) (fun e=>by cases e) (.inl (by simp only[phi];omega)) sl
 | ke h r =>
  cases h with
  | cons hs he hst t'=>exact idle he (hst w hbc) (.ke t' r) (by omega) (fun e=>by cases e)
  | nil =>
   obtain⟨_,g1,hgo,n,g3,hsl,hq⟩:=r
   cases hmode with
   | opn h1 _ _=>exact h1.elim
   | reg h1 _ _=>exact h1.elim
   | last L h1 _ _ _=>exact h1.elim
   | fin h1 h2=>exact K.caller G (hgo w) (.refl _ w) hwg (.acq hsl hq) rfl (ev1 .enable _ hB (.inr rfl)) (nr1 .enable (by simp)) (.fin trivial h2) (fun e=>by cases e) (.inl (by simp only[phi];omega)) sl
 | acq h r =>
  cases h with
  | cons hs he hst t'=>exact idle he (hst w hbc) (.acq t' r) (by omega) (fun e=>by cases e)
  | nil =>
   obtain⟨_,g1,hgo,n,g3,hsl,hb⟩:=r
   cases hmode with
   | opn h1 _ _=>exact h1.elim
   | reg h1 _ _=>exact h1.elim
   | last L h1 _ _ _=>exact h1.elim
   | fin h1 h2 =>
    refine K.caller G (hgo w) (.refl _ w) hwg (.ret hsl hb) rfl (fun e he=>by rw[Array.mem_singleton] at he;subst he;exact evOk_at G hB .acquire (.inl rfl)) (nr1 (.acquire (stA J.k.wg)) (by simp)) (.fin trivial h2) (fun _=>?_) (.inl (by simp only[phi];omega)) sl
    have e1:MemOp.ofEvents 0 a.frame.fn a.frame.place #[mk (.acquire (stA J.k.wg))]=#[{ g:=0,fn:=a.frame.fn,pos:=a.frame.place,act:=.mark (.acquire (stA J.k.wg)) }]:=by rw[ofEvents_eq];simp[ofEvent_mk]
    have hy:(t++#[({ g:=0,fn:=a.frame.fn,pos:=a.frame.place,act:=.mark (.acquire (stA J.k.wg)) }:MemOp)])[t.size]?=some { g:=0,fn:=a.frame.fn,pos:=a.frame.place,act:=.mark (.acquire (stA J.k.wg)) }:=by simp
    rw[e1]
    refine⟨t.size,by rw[act?_of hy],by simp[Trace.g?],⟨0,by simp[Trace.g?],by rw[deaf_old (Nat.le_refl _)];exact K.com.d0⟩,fun i hi=>?_⟩
    have h1:=h2 i hi
    have h6:(D i).stage≤6:=by
     have:min 7 (D i).stage=1:=h1
     omega
    obtain⟨r,hr⟩:=K.rel i hi h6
    exact⟨r,hr.other fun op hop=>by rw[Array.mem_singleton] at hop;subst hop;show 0≠_;omega,lt_of_act? hr.rel.act⟩
 | ret h r =>
  cases h with
  | cons hs he hst t' =>
   refine idle he (hst w hbc) (.ret t' r) (by omega) (fun _=>?_)
   obtain⟨p,h1,h2,h3,h4⟩:=K.acq rfl
   have hp:=lt_of_act? h1
   refine⟨p,by rw[act?_old hp];exact h1,by rw[g?_old hp];exact h2,(heard_old hp).2 h3,fun i' hi'=>?_⟩
   obtain⟨r,hr,hrp⟩:=h4 i' hi'
   exact⟨r,hr.other fun op hop=>by rw[g_of_ofEvents op hop];omega,hrp⟩
  | nil =>
   rcases hng with h|h
   ·exact absurd r h
   ·exact absurd rfl h
end
end Go.Proofs.YtjeicikflkjacaaGreatDoor.Ms

/- A caller and its workers: from the first start to the caller's return. -/
set_option linter.unusedVariables false
namespace Go.Proofs.YtjeicikflkjacaaGreatDoor.Ms
open Go Go.Conc Go.Conc.Lib Go.ConcN
open Go.ConcR (KK wgBlock WgAt stA smA rd wr mk Payload Aside2 DC0 g_of_ofEvents ofEvent_cell ofEvent_mk Bk ofEvent_loc_mark bk_of_mute)
open Par (Cx LocIn Bij VR WR AR OR idB shutW Work Fr EsR EvR LR)
open Mk (Still CaseOk ChanOpen go_still comm_any offers_at Acs Down meets_send meets_recv)
theorem reach_step {P:Program}{α:Type}{r:α→α→Prop}(wf:WellFounded r)(Inv:α→Machine→Trace→Prop)(Goal:Machine→Trace→Prop)
  (h:∀μ m t,Inv μ m t→∃m' ops,stepT P m=(.next m',ops)∧((∃μ',r μ' μ∧Inv μ' m' (t++ops))∨Goal m' (t++ops))):∀μ m t,Inv μ m t→∃n m' t',runNT P n m t=(.next m',t')∧Goal m' t':=by
 intro μ
 induction μ using wf.induction with
 | _ μ ih =>
  intro m t hI
  obtain⟨m',ops,hs,⟨μ',hr,hI'⟩|hg⟩:=h μ m t hI
  ·obtain⟨n,m2,t2,h1,h2⟩:=ih μ' hr m' (t++ops) hI'
   exact⟨n+1,m2,t2,by rw[runNT_succ_next hs];exact h1,h2⟩
  ·exact⟨1,m',t++ops,by rw[runNT_succ_next hs];rfl,hg⟩
section
variable {J:Job} {c0:Frame} {gs:Array Goroutine} {w w':World} {t:Trace} {q own:Nat→Nat}
def GoalC (J:Job)(m:Machine)(t:Trace):Prop :=
 ∃bL cw μ,(∀g,AnchG lk J.k.wg cw (J.c :: J.cs) g→To PP true (Bc J.k) (EvC J.k) (Wt1 PP lk J.k.wg (Bc J.k) (EvC J.k) cw (J.c :: J.cs) (BackG J.N bL J.c J.cs)) g)∧InvJ J bL cw μ m t
def fuN:Fu→Nat
 | .inl n=>n
 | .inr _=>0
theorem KS.close (G:Geo J){hold:Nat→Option Nat}{dn:Nat→Bool}{nx rc n0:Nat}{rk:Nat→Nat}{fW:Nat→Fu}{a:Goroutine}(K:KS J c0 gs w t q own hold dn nx rc n0 rk fW a)(hd:∀x,x<J.N→dn x=true){bL:Nat}(L:Lst J own w dn bL none)(r:CloseG J.k J.N (J.m:Nat) bL (J.c :: J.cs) a)(sl:Option (Nat × Nat)) :
  ∃m' ops,runT PP (crowd gs w sl) 0=(.next m',ops)∧GoalC J m' (t++ops):=by
 have hs0:=G.s0
 have hB:=K.com.wf.size
 have hne:=G.ne
 have hnc:=G.nc
 have hlt':=(Array.getElem?_eq_some_iff.1 K.h0).1
 obtain⟨_,hmw,g1,hg1,hall,cw,hto,hback⟩:=close_step r
 obtain⟨s,r',tm,hcn⟩:=K.com.wf.cn
 obtain⟨s2,r2,tm2,hcr⟩:=K.com.wf.cr
 have hgo:=hall w s r' tm hcn
 have hrun:=runT_crowd_go (P:=PP) (sl:=sl) (i:=0) K.h0 hgo
 obtain⟨n,g2,hsl,hkd⟩:=hto
 generalize hw':w.setChan J.k.cN 0 #[] true s r' tm=w' at *
 have hb:∀b,b≠J.k.cN→w'.heap[b]?=w.heap[b]?:=fun b e=>by rw[←hw'];exact sc_ne w _ _ _ _ _ _ (Ne.symm e)
 have hsz:w'.heap.size=w.heap.size:=by rw[←hw'];exact sc_size _ _ _ _ _ _ _ _
 have hos:w'.os=w.os∧w'.output=w.output:=by rw[←hw'];exact sc_os _ _ _ _ _ _ _ _
 have hcl:w'.heap[J.k.cN]?=some (.chan 0 #[] true s r' tm):=by rw[←hw'];exact sc_self w hcn _ _ _ _ _ _
 have hh:∀i,i<J.m→hold i=none:=fun i hi=>by
  cases e:hold i with
  | none=>rfl
  | some x =>
   have:=K.hn i hi x e
   rw[hd x (by have:=K.le;omega)] at this
   cases this.2
 have hkp:Kp J own 0 w w':=⟨fun b _ _ h _ _=>hb b h,by rw[hsz];exact Nat.le_refl _,hos⟩
 have hL:Lst J own w' (fun _=>true) bL none:=by
  obtain⟨h1,h2,l,h3,h4,h5⟩:=L.else (own':=own) G hB hkp (fun _ _=>rfl) (hb bL (by have:=L.1;have:=G.cN;omega))
  exact⟨h1,h2,l,h3,h4,fun x hx _ hn=>h5 x hx (hd x hx) hn⟩
 have hwake:∀o:Goroutine,Go.Conc.woken PP a g1 w' o=o.again w':=fun o=>by unfold Go.Conc.woken;rw[if_pos (by simp[hmw,hg1])]
 have hold_:∀j gj,0<j→j<J.s0→((gs.map (Go.Conc.woken PP a g1 w')).setIfInBounds 0 g1)[j]?=some gj→gs[j]?=some gj:=fun j gj h0 hj hg=>by
  rw[map_set gs _ 0 g1 (by omega)] at hg
  have hlj:j<gs.size:=by rw[K.com.size];omega
  rw[Array.getElem?_eq_getElem hlj] at hg ⊢
  simp only[Option.map_some,Option.some.injEq] at hg
  rw[woken_run (K.com.old j _ h0 hj (Array.getElem?_eq_getElem hlj)).status] at hg
  rw[hg]
 let D:Nat→WD:=fun i=>⟨if rk i=1 then 10 else 9,if rk i=1 then fuN (fW i) else 0,0⟩
 have hD7:∀i,(D7 D i).stage=7:=fun i=>by
  show min 7 (if rk i=1 then 10 else 9)=7
  split<;>rfl
 have hVc:Vc J.m (D7 D)=J.m:=by
  unfold Vc
  have:∀n,sumTo n (fun i=>Go.ConcN.cnt (D7 D i))=n:=fun n=>by
   induction n with
   | zero=>rfl
   | succ n ih=>simp only[sumTo,ih];simp[Go.ConcN.cnt,hD7 n]
  exact this J.m
 have hu:∀op∈MemOp.ofEvents 0 a.frame.fn a.frame.place #[⟨.obj J.k.cN,false,true⟩,⟨.obj J.k.cN,true,true⟩],op.g=0:=g_of_ofEvents
 refine⟨_,_,hrun,bL,cw,_,hback,_,w',sl,q,own,D,.kd,n,0,g1,_,_,rfl,⟨?_,set_same (by simpa using hlt'),.kd hsl hkd,fun i hi=>?_,wgAt_same K.wg (hb _ (by omega)),norel_app K.nr (fun e he=>?_),?_,fun i hi h6=>?_,fun e=>?_,hL⟩,rfl⟩
 ·refine K.com.step (shut':=true) (own':=own) (hold':=fun _=>none) G (.inl rfl) (by simp) hold_ ⟨fun b h1 h2 h3 h4=>(hb b h3).trans (K.com.wf.old b h1 h2 h3 h4),⟨s,r',tm,hcl⟩,⟨s2,r2,tm2,(hb _ (by omega)).trans hcr⟩,by rw[hsz];exact hB,hos.1.trans K.com.wf.os.1,hos.2.trans K.com.wf.os.2⟩ (by rw[hsz];exact Nat.le_refl _) (fun g l _ h=>.inl ?_) (fun _ _ _ _ _ h=>by cases h) (fun e he=>?_) ?_ (fun i hi=>?_)
  ·obtain⟨b,h1,h2,h3⟩:=h
   rcases h3 with h3|⟨_,_,_,h3,_⟩
   ·exact⟨b,h1,h2,.inl h3⟩
   ·cases h3
  ·simp only[List.mem_toArray,List.mem_cons,List.not_mem_nil,or_false] at he
   rcases he with rfl|rfl
   ·refine⟨fun y hy=>.inr (.inl ?_),?_⟩
    ·simp only[MemAct.ofEvent,MemAct.touch?,Option.some.injEq] at hy
     subst hy
     exact⟨⟨J.k.cN,G.cN.1,by omega,G.cN.2,rfl⟩,rfl⟩
    ·show J.k.cN<_
     have:=G.cN;omega
   ·exact⟨fun y hy=>by simp[MemAct.ofEvent,MemAct.touch?] at hy,by show J.k.cN<_;have:=G.cN;omega⟩
  ·rw[if_pos rfl];rfl
  ·rw[if_neg (by omega)]
 ·obtain⟨g,hg,hs⟩:=K.wk i hi
  have hget:((gs.map (Go.Conc.woken PP a g1 w')).setIfInBounds 0 g1)[J.s0+i]?=some (g.again w'):=by
   rw[map_set gs _ 0 g1 (by omega),hg]
   simp[hwake]
  rw[hh i hi] at hs
  generalize hrk:rk i=rki at hs
  generalize hfw:fW i=fwi at hs
  have e1:(D i).stage=if rki=1 then 10 else 9:=by show (if rk i=1 then 10 else 9)=_;rw[hrk]
  have e2:(D i).fuel=if rki=1 then fuN fwi else 0:=by show (if rk i=1 then fuN (fW i) else 0)=_;rw[hrk,hfw]
  have e3:(D i).deaf=0:=rfl
  rw[e1,e2,e3]
  cases hs with
  | go h r =>
   refine⟨_,hget,?_⟩
   rw[again_run w' (.inl (sl_status h (recv_run r)))]
   exact .go h r
  | park r =>
   refine⟨_,hget,?_⟩
   rw[again_recv_closed hcl]
   exact .woke r
 ·simp only[List.mem_toArray,List.mem_cons,List.not_mem_nil,or_false] at he
  rcases he with rfl|rfl<;>simp
 ·have:=Go.ConcN.Mode.opn (j:=J.m) (D:=D7 D) (tag:=.kd) trivial (fun i _=>.inl (hD7 i)) (fun vs e=>by cases e)
  rw[hVc] at this
  simpa [pend] using this
 ·have:(D i).stage=if rk i=1 then 10 else 9:=rfl
  rw[this] at h6
  split at h6<;>omega
 ·cases e
end
end Go.Proofs.YtjeicikflkjacaaGreatDoor.Ms

/- A caller and its workers: from the first start to the caller's return, all told. -/
set_option linter.unusedVariables false
namespace Go.Proofs.YtjeicikflkjacaaGreatDoor.Ms
open Go Go.Conc Go.Conc.Lib Go.ConcN
open Go.ConcR (KK wgBlock WgAt stA smA rd wr mk Payload Aside2 DC0 g_of_ofEvents ofEvent_cell ofEvent_mk Bk ofEvent_loc_mark bk_of_mute)
open Par (Cx LocIn Bij VR WR AR OR idB shutW Work Fr EsR EvR LR)
open Mk (Still CaseOk ChanOpen go_still comm_any offers_at Acs Down meets_send meets_recv)
section
variable {J:Job} {c0:Frame}
theorem stepC (G:Geo J)(hN:J.N<1000000)(hm:0<J.N→0<J.m)(T:Tasks J)(hend:∀ {bL nx th:Nat} {g:Goroutine},¬th<J.N→CHead J.k J.N (c0 :: J.c :: J.cs) bL nx th g→To PP true (Bc J.k) (EvC J.k) (CloseG J.k J.N (J.m:Nat) bL (J.c :: J.cs)) g)(μ:MuK J)(m:Machine)(t:Trace)(h:InvK J c0 μ m t) :
  ∃m' ops,stepT PP m=(.next m',ops)∧((∃μ',LtK J μ' μ∧InvK J c0 μ' m' (t++ops))∨GoalC J m' (t++ops)):=by
 obtain⟨gs,w,sl,q,own,hold,dn,nx,rc,n0,rk,fW,a,rfl,K,h1,h2⟩:=h
 have hs0:=G.s0
 have out:∀ {r:Stepped × Array MemOp},OutK J c0 μ r t→∃m' ops,r=(.next m',ops)∧((∃μ',LtK J μ' μ∧InvK J c0 μ' m' (t++ops))∨GoalC J m' (t++ops)):=fun ⟨m',ops,μ',e1,e2,e3⟩=>⟨m',ops,e1,.inl ⟨μ',e2,e3⟩⟩
 have haw:∀g∈gs,awake g:=fun g hg=>by
  obtain⟨y,hy⟩:=Array.mem_iff_getElem?.1 hg
  exact awake_still (K.still K.com.wf y g hy)
 obtain⟨x,g,d,sl',hx,hgr,hstep⟩:=crowd_pick (P:=PP) (w:=w) (sl:=sl) haw (K.runs hm)
 rw[hstep]
 have K1:=K.at G d
 have hlt:=(Array.getElem?_eq_some_iff.1 hx).1
 rw[K.com.size] at hlt
 rcases Nat.eq_zero_or_pos x with rfl|hp
 ·rw[K.h0] at hx;cases hx
  refine stepKC G hN hend K1 h1 h2 hgr sl' out (fun hd L h r hrc=>?_)
  subst hrc
  have hbc:Bc J.k (w.at d):=⟨bx_of G K1.com.wf,⟨_,_,K1.wg⟩⟩
  have hB:=K1.com.wf.size
  cases h with
  | cons hs he hst t' =>
   refine out (out_fuelC h1 h2 (go_still (i:=0) K1.h0 (hst (w.at d) hbc) (fun j gj _ hj=>K1.still K1.com.wf j gj hj)) (K1.movC G .refl (fun _ _=>rfl) (fun _ _=>rfl) (fun b h h'=>by omega) (fun e h=>evOk_cal G hB (he e h)) (fun e h=>evC_still (he e h)) (.fin hd L t' r) (fun hb=>by rw[sl_status t' (close_step r).1] at hb;cases hb)) (by omega))
  | nil =>
   obtain⟨m',ops,e1,e2⟩:=K1.close G hd L r sl'
   exact⟨m',ops,e1,.inr e2⟩
 ·rcases Nat.lt_or_ge x J.s0 with hxs|hxs
  ·have hq:=K.com.old x g hp hxs hx
   have hi0:(x==0)=false:=by simp;omega
   cases hqi:q x with
   | zero=>rw[hqi] at hq;rw[hq.1] at hgr;cases hgr
   | succ n =>
    rw[hqi] at hq
    rcases hq with⟨hf,_⟩|⟨_,g',es,hm',hstp,hq'⟩
    ·rw[hf] at hgr;cases hgr
    have hrun:=go_still (sl:=sl') (i:=x) hx (by rw[hi0];exact hstp (w.at d)) (fun j gj _ hj=>K1.still K1.com.wf j gj hj)
    have hsum:sumTo J.s0 (upd q x n)+(n+1)=sumTo J.s0 q+n:=by
     have:=sumTo_upd q n id hxs
     simpa [hqi] using this
    exact out (out_fuelC h1 h2 hrun (K1.slip G hp hxs hm' hq') (by omega))
  ·obtain⟨i,rfl⟩:∃i,x=J.s0+i:=⟨x - J.s0,by omega⟩
   exact out (stepKW G hN T K1 h1 h2 (by omega) hx hgr sl')
theorem phaseC (G:Geo J)(hN:J.N<1000000)(hm:0<J.N→0<J.m)(T:Tasks J)(hend:∀ {bL nx th:Nat} {g:Goroutine},¬th<J.N→CHead J.k J.N (c0 :: J.c :: J.cs) bL nx th g→To PP true (Bc J.k) (EvC J.k) (CloseG J.k J.N (J.m:Nat) bL (J.c :: J.cs)) g){m:Machine}{t:Trace}{μ:MuK J}(h:InvK J c0 μ m t) :
  ∃n m' t',runNT PP n m t=(.next m',t')∧GoalC J m' t' :=
 reach_step (r:=LtK J) (Mk.num_down_wf LtF (J.m+1)) (InvK J c0) (GoalC J) (stepC G hN hm T hend) μ m t h
theorem entryK {m:Machine}{t:Trace}(h:GoalS J m t):∃c0:Frame,(∀ {bL nx th:Nat} {g:Goroutine},¬th<J.N→CHead J.k J.N (c0 :: J.c :: J.cs) bL nx th g→To PP true (Bc J.k) (EvC J.k) (CloseG J.k J.N (J.m:Nat) bL (J.c :: J.cs)) g)∧∃μ:MuK J,InvK J c0 μ m t:=by
 obtain⟨gs,w,sl,q,fW,a,rfl,C,h0,⟨c0,⟨n,g2,hsl,hmk⟩,hend⟩,hW,hwg,hnr,hsz⟩:=h
 refine⟨c0,hend,?_⟩
 have K:KS J c0 gs w t q (fun _=>0) (fun _=>none) (fun _=>false) 0 10 n (fun i=>if fW i=0 then 0 else 1) (fun i=>.inl (fW i - 1)) a:=by
  refine⟨C,h0,.mk rfl (fun _=>rfl) hsl hmk,fun i hi=>?_,hwg,hnr,fun b h1 h2=>by omega,fun i _ x h=>(by cases h),fun x h=>(by omega),fun x h=>(by cases h),Nat.zero_le _,fun hb=>by rw[sl_status hsl (mk_run hmk)] at hb;cases hb⟩
  obtain⟨g,hg,hw⟩:=hW i hi
  refine⟨g,hg,?_⟩
  generalize fW i=f at hw
  cases hw with
  | go h r=>exact .go h r
  | park r=>exact .park r
 exact⟨(_,⟨_,K.accs⟩),_,_,_,_,_,_,_,_,_,_,_,_,_,rfl,K,rfl,rfl⟩
end
section
variable {J:Job} {bL:Nat} {cw:Frame} {gs:Array Goroutine} {w:World} {t:Trace} {q own:Nat→Nat} {D:Nat→WD} {tag:CTag} {f0 d0:Nat} {a:Goroutine} {st sm:Int}
theorem VS.runs {s m d:Nat}{g:Goroutine}(h:VS J w s m d g)(hs:s≠1):g.status=.running:=by
 cases h with
 | go h r=>exact sl_run h (recv_run r)
 | woke r=>rfl
 | r0 h r=>exact sl_run h r.1
 | lib h6 h =>
  cases h with
  | r0 h=>exact Goes.running (fun _ _ x=>x.1) w (RW.refl w) h
  | k1 h=>exact Goes.running (fun _ _ x=>x.1) w (RW.refl w) h
  | d1 h=>exact Goes.running (fun _ _ x=>x.1) w (RW.refl w) h
  | d2 h=>exact Goes.running (fun _ _ x=>x.1) w (RW.refl w) h
  | d3 h=>exact Goes.running (fun _ _ x=>x.1) w (RW.refl w) h
  | d4 h=>exact Goes.running (fun _ _ x=>x.1) w (RW.refl w) h
  | quit h=>exact absurd rfl hs
theorem JS.runs (K:JS J bL cw gs w t q own D tag f0 d0 a st sm):∃(i:Nat) (g:Goroutine),gs[i]?=some g∧g.status=.running:=by
 have one:∀i,i<J.m→(D7 D i).stage≠1→∃(i:Nat) (g:Goroutine),gs[i]?=some g∧g.status=.running:=fun i hi hne=>by
  obtain⟨g,hg,hs⟩:=K.wk i hi
  exact⟨_,g,hg,hs.runs (fun e=>hne (by show min 7 (D i).stage=1;omega))⟩
 rcases K.cal.status with⟨h,_⟩|⟨rfl,_,_,_⟩
 ·exact⟨0,a,K.h0,h⟩
 ·have hmode:=K.mode
  cases hmode with
  | opn h1 _ _=>exact h1.elim
  | reg _ h2 h3 =>
   refine Classical.byContradiction fun hno=>?_
   have:Vc J.m (D7 D)=0:=by
    unfold Vc
    have:∀n,n≤J.m→sumTo n (fun i=>Go.ConcN.cnt (D7 D i))=0:=fun n hn=>by
     induction n with
     | zero=>rfl
     | succ n ih =>
      simp only[sumTo,ih (by omega)]
      have h1:(D7 D n).stage=1:=Classical.byContradiction fun hne=>hno (one n (by omega) hne)
      simp[Go.ConcN.cnt,h1]
    exact this J.m (Nat.le_refl _)
   omega
  | last L _ h2 h3 h4=>exact one L h2 (by omega)
  | fin h1 _=>exact h1.elim
theorem JS.awake (K:JS J bL cw gs w t q own D tag f0 d0 a st sm):∀g∈gs,awake g:=fun g hg=>by
 obtain⟨y,hy⟩:=Array.mem_iff_getElem?.1 hg
 have hlt:=(Array.getElem?_eq_some_iff.1 hy).1
 rw[K.com.size] at hlt
 rcases Nat.eq_zero_or_pos y with rfl|hp
 ·rw[K.h0] at hy;cases hy
  rcases K.cal.status with⟨h,_⟩|⟨_,_,_,g0,_,rfl⟩
  ·exact awake_of (.inl h)
  ·exact awake_of (.inr (.inl rfl))
 ·have hs:g.status=.running∨g.status=.finished:=by
   rcases Nat.lt_or_ge y J.s0 with h|h
   ·exact (K.com.old y g hp h hy).status
   ·obtain⟨g2,hg2,hs⟩:=K.wk (y - J.s0) (by omega)
    rw[show J.s0+(y - J.s0)=y by omega,hy] at hg2
    cases hg2
    exact hs.status
  rcases hs with h|h
  ·exact awake_of (.inl h)
  ·exact awake_of (.inr (.inr h))
theorem stepJ (G:Geo J)(hm:J.m<2147483647)(hback:∀g,AnchG lk J.k.wg cw (J.c :: J.cs) g→To PP true (Bc J.k) (EvC J.k) (Wt1 PP lk J.k.wg (Bc J.k) (EvC J.k) cw (J.c :: J.cs) (BackG J.N bL J.c J.cs)) g)(μ:Nat × Nat)(m:Machine)(t:Trace)(h:InvJ J bL cw μ m t) :
  GoalJ J bL cw m t∨∃m' ops μ',stepT PP m=(.next m',ops)∧Lt2 μ' μ∧InvJ J bL cw μ' m' (t++ops):=by
 obtain⟨gs,w,sl,q,own,D,tag,f0,d0,a,st,sm,rfl,K,rfl⟩:=h
 by_cases hg:BackG J.N bL J.c J.cs a∧tag=.ret
 ·obtain⟨hb,rfl⟩:=hg
  have hd:d0=0:=by
   have hc:=K.cal
   cases hc with
   | ret h r=>rfl
  subst hd
  have hmode:=K.mode
  cases hmode with
  | opn h1 _ _=>exact h1.elim
  | reg h1 _ _=>exact h1.elim
  | last L h1 _ _ _=>exact h1.elim
  | fin h1 h2=>exact .inl ⟨gs,w,sl,q,own,D,a,rfl,⟨K.com,K.h0,.ret (.nil a) hb,K.wk,K.wg,K.nr,K.mode,K.rel,K.acq,K.lst⟩,hb⟩
 ·refine .inr ?_
  have hs0:=G.s0
  obtain⟨x,g,d,sl',hx,hgr,hstep⟩:=crowd_pick (P:=PP) (w:=w) (sl:=sl) K.awake K.runs
  rw[hstep]
  have K1:=K.at G d
  have hlt:=(Array.getElem?_eq_some_iff.1 hx).1
  rw[K.com.size] at hlt
  rcases Nat.eq_zero_or_pos x with rfl|hp
  ·rw[K.h0] at hx;cases hx
   exact stepJC G hm hback K1 hgr (by
    by_cases h:BackG J.N bL J.c J.cs a
    ·exact .inr fun e=>hg ⟨h,e⟩
    ·exact .inl h) sl'
  ·rcases Nat.lt_or_ge x J.s0 with hxs|hxs
   ·exact K1.old G hp hxs hx hgr sl'
   ·obtain⟨i,rfl⟩:∃i,x=J.s0+i:=⟨x - J.s0,by omega⟩
    exact stepJW G hm K1 (by omega) hx hgr sl'
theorem runNT_add {P:Program}:∀ {n k:Nat} {m m1 m2:Machine} {t t1 t2:Trace},runNT P n m t=(.next m1,t1)→runNT P k m1 t1=(.next m2,t2)→∃j,runNT P j m t=(.next m2,t2)
 | 0,k,m,m1,m2,t,t1,t2,h,h'=>by
  cases h
  exact⟨k,h'⟩
 | n+1,k,m,m1,m2,t,t1,t2,h,h'=>by
  cases hs:stepT P m with
  | mk r ops =>
   cases r with
   | next m3 =>
    rw[runNT_succ_next hs] at h
    obtain⟨j,hj⟩:=runNT_add h h'
    exact⟨j+1,by rw[runNT_succ_next hs];exact hj⟩
   | ended o w =>
    simp[runNT,hs] at h
theorem share_end (G:Geo J)(hN:J.N<1000000)(hm:J.m<2147483647)(hNm:0<J.N→0<J.m)(T:Tasks J){m:Machine}{t:Trace}(h:GoalS J m t):∃n m' t' bL cw,runNT PP n m t=(.next m',t')∧GoalJ J bL cw m' t':=by
 obtain⟨c0,hend,μ,hK⟩:=entryK h
 obtain⟨n1,m1,t1,e1,bL,cw,μ1,hback,hJ⟩:=phaseC G hN hNm T hend hK
 obtain⟨n2,m2,t2,e2,hg⟩:=reach_of_inv (r:=Lt2) (Prod.lex Nat.lt_wfRel Nat.lt_wfRel).wf (InvJ J bL cw) (GoalJ J bL cw) (stepJ G hm hback) μ1 m1 t1 hJ
 obtain⟨j,hj⟩:=runNT_add e1 e2
 exact⟨j,m2,t2,bL,cw,hj,hg⟩
theorem share_all (G:Geo J)(hN:J.N<1000000)(hm:J.m<2147483647)(hNm:0<J.N→0<J.m)(T:Tasks J){m:Machine}{t:Trace}{μ:Nat × Nat}(h:InvS J μ m t):∃n m' t' bL cw,runNT PP n m t=(.next m',t')∧GoalJ J bL cw m' t':=by
 obtain⟨n1,m1,t1,e1,h1⟩:=phaseS G hm h
 obtain⟨n2,m2,t2,bL,cw,e2,hg⟩:=share_end G hN hm hNm T h1
 obtain⟨j,hj⟩:=runNT_add e1 e2
 exact⟨j,m2,t2,bL,cw,hj,hg⟩
theorem GoalJ.past {m:Machine}(G:Geo J)(h:GoalJ J bL cw m t):∃gs w sl q own D a,m=crowd gs w sl∧JS J bL cw gs w t q own D .ret 0 0 a 0 0∧BackG J.N bL J.c J.cs a∧Past (ZsL J) w.heap.size t:=by
 obtain⟨gs,w,sl,q,own,D,a,rfl,K,hb⟩:=h
 refine⟨gs,w,sl,q,own,D,a,rfl,K,hb,?_⟩
 obtain⟨p,p1,p2,p3,p4⟩:=K.acq rfl
 have hs0:=G.s0
 have key:∀i g,Mem J J.m g→g≠0→t.g? i=some g→(∃j,t.g? j=some 0∧HappensBefore t i j)∨∀b,touchAt t i=some b→ZsL J b.loc∧b.kind=.atomic∧¬t.heard i:=by
  intro i g hM hne hg
  rcases hM with h|⟨h1,h2⟩
  ·exact absurd h hne
  obtain⟨k,rfl⟩:∃k,g=J.s0+k:=⟨g - J.s0,by omega⟩
  obtain⟨r,hr,hrp⟩:=p4 k (by omega)
  have edge:HappensBefore t r p:=.single (.inr ⟨.marked hrp (.inr hr.rel.act) p1 (fun k _ _=>K.nr k),hr.rel.heard,p3⟩)
  rcases Nat.lt_trichotomy i r with hlt|rfl|hgt
  ·exact .inl ⟨p,p2,.trans (.single (.inl ⟨hlt,_,hg,hr.rel.g⟩)) edge⟩
  ·exact .inl ⟨p,p2,edge⟩
  ·refine .inr fun b hb=>?_
   obtain⟨ad,e1,e2⟩:=hr.aft i b hgt hg hb
   have hnc:=hr.rel.after i hgt hg
   have hmem:b.loc.isMemory=true:=by rw[e1];rfl
   have hk:b.kind=.atomic:=Classical.byContradiction fun hk=>hnc ⟨b,hb,hmem,.inl hk⟩
   exact⟨⟨ad,e1,.inr e2⟩,hk,fun hh=>hnc ⟨b,hb,hmem,.inr hh⟩⟩
 refine⟨K.com.ti.nr,fun i b hb hmem=>?_,fun i g hg hne hc=>?_,K.com.d0,K.com.ti.low⟩
 ·rcases K.com.ti.all i b hb hmem with⟨g,h1,h2,h3⟩|h|⟨h1,h2,h3⟩
  ·rcases key i g h1 h2 h3 with⟨j,hj,hh⟩|h
   ·obtain⟨op,ho,hog⟩:=Option.map_eq_some_iff.1 hj
    exact .inl ⟨j,op,ho,hog,.inr hh⟩
   ·exact .inr ⟨(h b hb).1,(h b hb).2.1⟩
  ·exact .inl h
  ·exact .inr ⟨h1,h2⟩
 ·obtain⟨b,hb,hmem,hk⟩:=hc
  have no:¬(b.kind=.atomic∧¬t.heard i):=fun ⟨e1,e2⟩=>hk.elim (fun h=>h e1) (fun h=>e2 h)
  rcases K.com.ti.all i b hb hmem with⟨g',h1,h2,h3⟩|h|⟨_,h2,h3⟩
  ·rcases key i g' h1 h2 h3 with h|h
   ·exact h
   ·exact absurd ⟨(h b hb).2.1,(h b hb).2.2⟩ no
  ·obtain⟨j,op,ho,hog,h⟩:=h
   rcases h with rfl|h
   ·rw[show t.g? i=some op.g by simp[Trace.g?,ho],hog] at hg
    exact absurd (Option.some.inj hg).symm hne
   ·exact⟨j,by simp[Trace.g?,ho,hog],h⟩
  ·exact absurd ⟨h2,h3⟩ no
end
end Go.Proofs.YtjeicikflkjacaaGreatDoor.Ms
