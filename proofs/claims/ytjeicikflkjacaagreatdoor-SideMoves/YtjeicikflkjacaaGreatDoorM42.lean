/- A caller and its workers: behind the return all others only leave. -/
import Derived.Test.YtjeicikflkjacaaGreatDoorM41
import Derived.Test.YtjeicikflkjacaaGreatDoorM38
import Derived.Test.YtjeicikflkjacaaGreatDoorM7
import Derived.Test.YtjeicikflkjacaaGreatDoorM39
import GoSem.Core.Made
import Derived.KernelRfl
set_option linter.unusedVariables false
namespace Go.Proofs.YtjeicikflkjacaaGreatDoor.Ms
open Go Go.Conc Go.Conc.Lib Go.ConcN
open Go.ConcR (KK wgBlock WgAt stA smA rd wr mk Payload Aside2 DC0 g_of_ofEvents ofEvent_cell ofEvent_mk Bk ofEvent_loc_mark bk_of_mute)
section
variable {J:Job} {bL:Nat} {cw:Frame} {gs:Array Goroutine} {w:World} {t:Trace} {q own:Nat→Nat} {D:Nat→WD} {a:Goroutine}
theorem VS.quits {m d:Nat}{g:Goroutine}(h:VS J w 1 m d g):QuitsD PP m d g:=by
 generalize hs:(1:Nat)=s at h
 cases h with
 | go h r=>cases hs
 | woke r=>cases hs
 | r0 h r=>cases hs
 | lib h6 h =>
  subst hs
  cases h with
  | quit h=>exact h
theorem JS.leavers (G:Geo J)(K:JS J bL cw gs w t q own D .ret 0 0 a 0 0):Leavers PP t gs (fun i=>if i<J.s0 then q i else (D (i - J.s0)).fuel):=by
 have key:∀ {st sm:Int},Go.ConcN.Mode J.m (D7 D) .ret st sm→AllQuit J.m (D7 D):=fun {st sm} hm=>by
  cases hm with
  | opn h1 _ _=>exact h1.elim
  | reg h1 _ _=>exact h1.elim
  | last L h1 _ _ _=>exact h1.elim
  | fin _ h2=>exact h2
 have hq:=key K.mode
 refine⟨fun i g h0 hg=>?_,fun j hj=>K.com.up j (by rw[K.com.size] at hj;exact hj)⟩
 have hlt:=(Array.getElem?_eq_some_iff.1 hg).1
 rw[K.com.size] at hlt
 by_cases hi:i<J.s0
 ·simp only[hi,if_true]
  exact K.com.old i g h0 hi hg
 ·simp only[hi,if_false]
  obtain⟨k,rfl⟩:∃k,i=J.s0+k:=⟨i - J.s0,by omega⟩
  rw[show J.s0+k - J.s0=k by omega]
  obtain⟨g2,hg2,hs⟩:=K.wk k (by omega)
  rw[hg] at hg2;cases hg2
  have h1:min 7 (D k).stage=1:=hq k (by omega)
  have h2:(D k).stage=1:=by omega
  rw[h2] at hs
  rw[K.com.dW k (by omega)]
  exact hs.quits
structure Back (J:Job)(m:Machine)(t:Trace)(bL:Nat)(gs:Array Goroutine)(w:World)(own:Nat→Nat):Prop where
 mach:∃sl,m=crowd gs w sl
 a:gs[0]?=some (G (J.c.finish (.slice (some ⟨bL,0,none⟩) J.N J.N)) J.cs)
 size:gs.size=J.s0+J.m
 lst:Lst J own w (fun _=>true) bL none
 wf:WF J true w
 wg:WgAt lk.tWg J.k.wg w 0 0
 leave:∃q,Leavers PP t gs q
 past:Past (ZsL J) w.heap.size t
theorem GoalJ.back {m:Machine}(G:Geo J)(h:GoalJ J bL cw m t):∃gs w own,Back J m t bL gs w own:=by
 obtain⟨gs,w,sl,q,own,D,a,rfl,K,hb,hp⟩:=h.past G
 exact⟨gs,w,own,⟨sl,rfl⟩,by rw[K.h0,hb],K.com.size,K.lst,K.com.wf,K.wg,⟨_,K.leavers G⟩,hp⟩
end
end Go.Proofs.YtjeicikflkjacaaGreatDoor.Ms

/- A caller and its workers: how it begins, beside those that only leave. -/
set_option linter.unusedVariables false
namespace Go.Proofs.YtjeicikflkjacaaGreatDoor.Ms
open Go Go.Conc Go.Conc.Lib Go.ConcN
open Go.ConcR (KK wgBlock WgAt stA smA rd wr mk Payload Aside2 DC0 g_of_ofEvents ofEvent_cell ofEvent_mk Bk ofEvent_loc_mark bk_of_mute)
open Par (LocIn)
section
variable {J:Job} {Shun:Loc→Prop} {gs:Array Goroutine} {w:World} {t:Trace} {q:Nat→Nat} {a:Goroutine}
theorem ti_of (G:Geo J)(hw:w.heap.size=J.base)(hP:Past Shun w.heap.size t)(hZ:∀l,Shun l→∃ad:Addr,l=.cell ad∧J.Z ad.block)(hq:Quiet (ShN J.k.wg) t):TI (Mem J 0) (OwnL J (fun _=>0) (fun _=>none)) (RoL J) (ShN J.k.wg) (ZsL J) w.heap.size t:=by
 have m0:∀g,Mem J 0 g→g=0:=fun g hg=>by rcases hg with h|h<;>omega
 refine⟨hP.clean,fun g hg l hl i b hb e=>?_,fun g hg l hl i b hb e hwr=>?_,hq,fun i b hb hm=>?_,hP.seen⟩
 ·obtain⟨x,hx,hl',_⟩:=hl
  obtain⟨op,ho,hob⟩:=touch_of hb
  have hlow:=hP.seen op (Array.mem_of_getElem? ho)
  exfalso
  have:∀act:MemAct,act.low w.heap.size→act.touch?=some b→b.loc.low w.heap.size:=fun act h1 h2=>by
   cases act with
   | access ev=>simp only[MemAct.touch?,Option.some.injEq] at h2;subst h2;exact h1
   | mark m =>
    cases m<;>simp only[MemAct.touch?,Option.some.injEq,reduceCtorEq] at h2
    all_goals subst h2;exact h1
   | _=>cases h2
  have h3:=this _ hlow hob
  rw[e] at h3
  cases l with
  | cell ad=>have h4:ad.block=x:=hl';have h5:ad.block<w.heap.size:=h3;omega
  | obj r=>have h4:r=x:=hl';have h5:r<w.heap.size:=h3;omega
  | _=>exact hl'
 ·obtain rfl:=m0 g hg
  obtain⟨x,hx,_,hnz,hl'⟩:=hl
  have hmem:b.loc.isMemory=true:=by
   rw[e]
   cases l with
   | cell ad=>rfl
   | obj r=>rfl
   | _=>exact hl'.elim
  rcases hP.known i b hb hmem with h|⟨h,_⟩
  ·exact h
  ·exfalso
   rw[e] at h
   obtain⟨ad,rfl,hz⟩:=hZ l h
   exact hnz ((show ad.block=x from hl') ▸ hz)
 ·rcases hP.known i b hb hm with h|⟨h,hk⟩
  ·exact .inr (.inl h)
  ·by_cases hh:t.heard i
   ·obtain⟨op,ho,hob⟩:=touch_of hb
    by_cases h0:op.g=0
    ·have:=knows_own ho
     rw[h0] at this
     exact .inr (.inl this)
    ·obtain⟨j,hj,hhb⟩:=hP.over i op.g (by simp[Trace.g?,ho]) h0 ⟨b,hb,hm,.inr hh⟩
     obtain⟨op2,ho2,hg2⟩:=Option.map_eq_some_iff.1 hj
     exact .inr (.inl ⟨j,op2,ho2,hg2,.inr hhb⟩)
   ·obtain⟨ad,e,hz⟩:=hZ b.loc h
    exact .inr (.inr ⟨⟨ad,e,.inl hz⟩,hk,hh⟩)
theorem com_of (G:Geo J)(hw:w.heap=J.w0.heap)(hos:w.os=J.w0.os∧w.output=J.w0.output)(hs:gs.size=J.s0)(hL:Leavers PP t gs q)(hP:Past Shun w.heap.size t)(hZ:∀l,Shun l→∃ad:Addr,l=.cell ad∧J.Z ad.block)(hq:Quiet (ShN J.k.wg) t)
  (hcn:∃s r tm,w.heap[J.k.cN]?=some (.chan 0 #[] false s r tm)) (hcr:∃s r tm,w.heap[J.k.cR]?=some (.chan 0 #[] false s r tm)):Com J 0 (fun _=>0) (fun _=>none) (fun _=>0) 0 false q gs w t:=by
 have hsz:w.heap.size=J.base:=by rw[hw];rfl
 exact⟨by omega,fun i g h0 _ hg=>hL.old i g h0 hg,⟨fun b _ _ _ _=>by rw[hw],hcn,hcr,by omega,hos⟩,ti_of G hsz hP hZ hq,hP.hears,fun i hi=>by omega,fun x hx=>hL.above x (by omega),fun _ _ _ hi=>by omega⟩
theorem share_back (G:Geo J)(hN:J.N<1000000)(hm:J.m<2147483647)(hNm:0<J.N→0<J.m)(T:Tasks J)(hw:w.heap=J.w0.heap)(hos:w.os=J.w0.os∧w.output=J.w0.output)(hs:gs.size=J.s0)(hL:Leavers PP t gs q)(hP:Past Shun w.heap.size t)(hZ:∀l,Shun l→∃ad:Addr,l=.cell ad∧J.Z ad.block)(hq:Quiet (ShN J.k.wg) t)
  (hcn:∃s r tm,w.heap[J.k.cN]?=some (.chan 0 #[] false s r tm)) (hcr:∃s r tm,w.heap[J.k.cR]?=some (.chan 0 #[] false s r tm)) (hwg:WgAt lk.tWg J.k.wg w 0 0) (hnr:NoRelease (stA J.k.wg) t) (h0:gs[0]?=some a) (hh:To PP true (Bc J.k) (EvC J.k) (HeadG J.k (J.N:Nat) (J.m:Nat) (J.c :: J.cs) ((0:Nat):Int)) a) (sl:Option (Nat × Nat)) :
  ∃n m' t' bL gs' w' own,runNT PP n (crowd gs w sl) t=(.next m',t')∧Back J m' t' bL gs' w' own:=by
 have C:=com_of G hw hos hs hL hP hZ hq hcn hcr
 have hsz:w.heap.size=J.base:=by rw[hw];rfl
 have fin:(∃n m' t' bL cw,runNT PP n (crowd gs w sl) t=(.next m',t')∧GoalJ J bL cw m' t')→∃n m' t' bL gs' w' own,runNT PP n (crowd gs w sl) t=(.next m',t')∧Back J m' t' bL gs' w' own:=fun ⟨n,m',t',bL,cw,e,h⟩=>by
  obtain⟨gs',w',own,hb⟩:=h.back G
  exact⟨n,m',t',bL,gs',w',own,e,hb⟩
 apply fin
 rcases Nat.eq_zero_or_pos J.m with hz|hp
 ·refine share_end G hN hm hNm T ⟨gs,w,sl,q,fun _=>0,a,rfl,by rw[hz];exact C,h0,?_,fun i hi=>by omega,by rw[hz];simpa using hwg,hnr,hsz⟩
  obtain⟨n,g2,hsl,hg2⟩:=hh
  obtain⟨c0,hto,hend⟩:=head_done (J:=J) (j:=0) (by omega) hg2
  exact⟨c0,To.bind (Q:=fun g=>g=g2) ⟨n,g2,hsl,rfl⟩ fun g e=>e ▸ hto,hend⟩
 ·obtain⟨n,g2,hsl,hk⟩:=hh.bind fun g hg=>head_more (by omega) hg
  exact share_all G hN hm hNm T (μ:=_) ⟨gs,w,sl,0,q,fun _=>0,3,n,0,0,a,rfl,C,h0,.kd hsl hk,hp,fun i hi=>by omega,by simpa using hwg,hnr,hsz,rfl⟩
end
end Go.Proofs.YtjeicikflkjacaaGreatDoor.Ms

/- Goroutine 0 beside leavers: its own steps between two calls. -/
namespace Go.Proofs.YtjeicikflkjacaaGreatDoor.Par
open Go Go.Conc Go.ConcN
open Ms (Sl To)
section
variable {P:Program} {Shun:Loc→Prop} {B:Nat} {Bw:World→Prop} {Ev:Event→Prop}
theorem goes_of_sl {w0:World}(hB:∀d,Bw (w0.at d)){n:Nat}{g g2:Goroutine}(h:Sl P true Bw Ev n g g2):∀d,Goes P true AtRel (fun w w' es=>w'=w∧∀e∈es,Ev e) (fun g' w'=>g'=g2∧∃d,w'=w0.at d) n g (w0.at d):=by
 induction h with
 | nil =>
  intro d w₁ h₁
  obtain⟨d',rfl⟩:=h₁
  exact⟨rfl,d',rfl⟩
 | cons hs he hst t ih =>
  refine fun d=>.inr ⟨hs,fun w₁ h₁=>?_⟩
  obtain⟨d',rfl⟩:=h₁
  have:=hst ((w0.at d).at d') (hB d')
  rw[this,goes_go]
  exact⟨⟨rfl,he⟩,ih d'⟩
theorem sl_beside (hEv:∀e,Ev e→EvL Shun B e){w0:World}(hB:∀d,Bw (w0.at d)){n:Nat}{g g2:Goroutine}(h:Sl P true Bw Ev n g g2){gs:Array Goroutine}{sl:Option (Nat × Nat)}{t:Trace}{q:Nat→Nat}{d:Nat}(h0:gs[0]?=some g)(hL:Leavers P t gs q)(hP:Past Shun B t) :
  ∃(N:Nat) (gs':Array Goroutine) (d':Nat) (sl':Option (Nat × Nat)) (t':Trace) (q':Nat→Nat),runNT P N (crowd gs (w0.at d) sl) t=(.next (crowd gs' (w0.at d') sl'),t')∧gs'.size=gs.size∧gs'[0]?=some g2∧Leavers P t' gs' q'∧Past Shun B t':=by
 obtain⟨N,gs',a',w',sl',t',q',e1,e2,e3,⟨rfl,d',rfl⟩,e5,e6⟩:=walk_beside (P:=P) (Shun:=Shun) (B:=B) (D:=fun w w' es=>w'=w∧∀e∈es,Ev e) (fun w w' es hd e he=>hEv e (hd.2 e he)) _ n gs g (w0.at d) sl t q (Nat.le_refl _) h0 hL hP (goes_of_sl hB h d)
 exact⟨N,gs',d',sl',t',q',e1,e2,e3,e5,e6⟩
theorem to_beside {Q:Goroutine→Prop}(hEv:∀e,Ev e→EvL Shun B e){w0:World}(hB:∀d,Bw (w0.at d)){g:Goroutine}(h:To P true Bw Ev Q g){gs:Array Goroutine}{sl:Option (Nat × Nat)}{t:Trace}{q:Nat→Nat}{d:Nat}(h0:gs[0]?=some g)(hL:Leavers P t gs q)(hP:Past Shun B t) :
  ∃(N:Nat) (gs':Array Goroutine) (g2:Goroutine) (d':Nat) (sl':Option (Nat × Nat)) (t':Trace) (q':Nat→Nat),runNT P N (crowd gs (w0.at d) sl) t=(.next (crowd gs' (w0.at d') sl'),t')∧gs'.size=gs.size∧gs'[0]?=some g2∧Q g2∧Leavers P t' gs' q'∧Past Shun B t':=by
 obtain⟨n,g2,hs,hQ⟩:=h
 obtain⟨N,gs',d',sl',t',q',e1,e2,e3,e4,e5⟩:=sl_beside (sl:=sl) (d:=d) hEv hB hs h0 hL hP
 exact⟨N,gs',g2,d',sl',t',q',e1,e2,e3,hQ,e4,e5⟩
theorem step_beside {w w1:World}{g g1:Goroutine}(hs:g.status=.running)(hst:∀d,∃d' es,stepG P true g (w.at d)=.go g1 (w1.at d') es∧∀e∈es,EvL Shun B e){gs:Array Goroutine}{sl:Option (Nat × Nat)}{t:Trace}{q:Nat→Nat}{d:Nat}(h0:gs[0]?=some g)(hL:Leavers P t gs q)(hP:Past Shun B t) :
  ∃(N:Nat) (gs':Array Goroutine) (d':Nat) (sl':Option (Nat × Nat)) (t':Trace) (q':Nat→Nat),runNT P N (crowd gs (w.at d) sl) t=(.next (crowd gs' (w1.at d') sl'),t')∧gs'.size=gs.size∧gs'[0]?=some g1∧Leavers P t' gs' q'∧Past Shun B t':=by
 obtain⟨N,gs',a',w',sl',t',q',e1,e2,e3,⟨rfl,d',rfl⟩,e5,e6⟩:=walk_beside (P:=P) (Shun:=Shun) (B:=B) (D:=fun _ _ es=>∀e∈es,EvL Shun B e) (Stop:=fun g' w'=>g'=g1∧∃d,w'=w1.at d) (fun w w' es hd=>hd) _ 1 gs g (w.at d) sl t q (Nat.le_refl _) h0 hL hP (.inr ⟨hs,fun w₁ h₁=>by
  obtain⟨d1,rfl⟩:=h₁
  obtain⟨d2,es,e,he⟩:=hst d1
  have:stepG P true g ((w.at d).at d1)=.go g1 (w1.at d2) es:=e
  rw[this,goes_go]
  refine⟨he,fun w₂ h₂=>?_⟩
  obtain⟨d3,rfl⟩:=h₂
  exact⟨rfl,d3,rfl⟩⟩)
 exact⟨N,gs',d',sl',t',q',e1,e2,e3,e5,e6⟩
end
end Go.Proofs.YtjeicikflkjacaaGreatDoor.Par

/- share: its group is made; to the head of the loop of starts. -/
set_option linter.unusedSimpArgs false
set_option linter.unusedVariables false
namespace Go.Proofs.YtjeicikflkjacaaGreatDoor.Sh
open Go Go.Conc Go.Conc.Lib Go.RowKit Go.ConcN Go.ConcR.Gen Go.ConcN.Gen
open Ms
open Go.ConcR (wgBlock WgAt stA smA)
noncomputable def opsAl:Array Oper:=match rest31 with|.seq (.region _ o _) _=>o|_=>#[]
noncomputable def rest3:Code:=match rest31 with|.seq _ c=>c|_=>.skip
section
variable {N wk bK bN bR cN cR wg:Nat} {fw:FuncId} {cap:Array Value} {cs:List Frame}
set_option maxRecDepth 100000 in
theorem to_al {B:World→Prop}{Ev:Event→Prop}:To Tryz.prog true B Ev (fun g=>g=S31 cs #[.int .i64 (N:Nat),.int .i64 (wk:Nat),.func (.func fw) #[] cap,undef,undef,.pointer (some ⟨bK,0,none⟩),.slice none 0 0,.pointer (some ⟨bN,0,none⟩),.pointer (some ⟨bR,0,none⟩),undef,undef,.chan (some cN),.chan (some cR),undef,undef,undef,undef,undef,undef,undef,undef,undef,undef,undef,undef,undef,undef,undef] [.inRegion opsAl [0],.code rest3]) (S31 cs #[.int .i64 (N:Nat),.int .i64 (wk:Nat),.func (.func fw) #[] cap,undef,undef,.pointer (some ⟨bK,0,none⟩),.slice none 0 0,.pointer (some ⟨bN,0,none⟩),.pointer (some ⟨bR,0,none⟩),undef,undef,.chan (some cN),.chan (some cR),undef,undef,undef,undef,undef,undef,undef,undef,undef,undef,undef,undef,undef,undef,undef] [.code rest31]):=by
 simp only[S31,opsAl,rest3,rest31,Tryz.f31,Option.getD_some]
 refine To.ctl rfl (fun _ _=>stepG_seq) ?_
 refine To.ctl rfl (fun _ _=>stepG_region) ?_;simp only[List.size_toArray,List.length_cons,List.length_nil,Nat.reduceAdd,Nat.zero_add,List.range,List.range.loop]
 exact To.nil rfl
set_option maxRecDepth 100000 in
theorem al31 (w:World):stepG Tryz.prog true (S31 cs #[.int .i64 (N:Nat),.int .i64 (wk:Nat),.func (.func fw) #[] cap,undef,undef,.pointer (some ⟨bK,0,none⟩),.slice none 0 0,.pointer (some ⟨bN,0,none⟩),.pointer (some ⟨bR,0,none⟩),undef,undef,.chan (some cN),.chan (some cR),undef,undef,undef,undef,undef,undef,undef,undef,undef,undef,undef,undef,undef,undef,undef] [.inRegion opsAl [0],.code rest3]) w=.go (S31 cs #[.int .i64 (N:Nat),.int .i64 (wk:Nat),.func (.func fw) #[] cap,undef,undef,.pointer (some ⟨bK,0,none⟩),.slice none 0 0,.pointer (some ⟨bN,0,none⟩),.pointer (some ⟨bR,0,none⟩),.pointer (some ⟨w.heap.size,0,none⟩),undef,.chan (some cN),.chan (some cR),undef,undef,undef,undef,undef,undef,undef,undef,undef,undef,undef,undef,undef,undef,undef] [.inRegion opsAl [],.code rest3]) (w.alloc (wgBlock 93 0 0)) #[]:=by
 have hr : (execOp (Act.eval ⟨#[.int .i64 (N : Nat), .int .i64 (wk : Nat), .func (.func fw) #[] cap, undef, undef, .pointer (some ⟨bK, 0, none⟩), .slice none 0 0, .pointer (some ⟨bN, 0, none⟩), .pointer (some ⟨bR, 0, none⟩), undef, undef, .chan (some cN), .chan (some cR), undef, undef, undef, undef, undef, undef, undef, undef, undef, undef, undef, undef, undef, undef, undef], []⟩) { dst := some 9, op := .alloc 93, type := 0, pos := "side.go:63", after := #[], guard := none }).run Tryz.prog w = .ok (.value (.pointer (some ⟨w.heap.size, 0, none⟩))) (w.alloc (wgBlock 93 0 0)) := by
  go_simp
  rfl
 have hl : (execOp (Act.eval ⟨#[.int .i64 (N : Nat), .int .i64 (wk : Nat), .func (.func fw) #[] cap, undef, undef, .pointer (some ⟨bK, 0, none⟩), .slice none 0 0, .pointer (some ⟨bN, 0, none⟩), .pointer (some ⟨bR, 0, none⟩), undef, undef, .chan (some cN), .chan (some cR), undef, undef, undef, undef, undef, undef, undef, undef, undef, undef, undef, undef, undef, undef, undef], []⟩) { dst := some 9, op := .alloc 93, type := 0, pos := "side.go:63", after := #[], guard := none }).events Tryz.prog w #[] = #[] := by
  simp[go_sem,Instr.alloc,newVar,newRow]
 have:=stepG_value (P:=Tryz.prog) (main:=true) (b:=base 31) (a:=⟨#[.int .i64 (N:Nat),.int .i64 (wk:Nat),.func (.func fw) #[] cap,undef,undef,.pointer (some ⟨bK,0,none⟩),.slice none 0 0,.pointer (some ⟨bN,0,none⟩),.pointer (some ⟨bR,0,none⟩),undef,undef,.chan (some cN),.chan (some cR),undef,undef,undef,undef,undef,undef,undef,undef,undef,undef,undef,undef,undef,undef,undef],[]⟩) (k:=[.code rest3]) (cs:=cs) (w:=w) (w':=w.alloc (wgBlock 93 0 0)) (ops:=opsAl) (i:=0) (rest:=[]) rfl rfl (by k_ne) hr
 rw[S31,this]
 have hs:=congrArg (seen Tryz.prog (base 31).fn) hl
 rw[seen_none] at hs
 exact congrArg (fun x=>GStep.go _ _ x) hs
set_option maxRecDepth 100000 in
set_option maxHeartbeats 8000000 in
theorem to_head (hN:N<1000000)(hw:wk<1000000):To Tryz.prog true (Bc ⟨wg,bN,bK,bR,cN,cR,fw,cap⟩) (EvC ⟨wg,bN,bK,bR,cN,cR,fw,cap⟩) (HeadG ⟨wg,bN,bK,bR,cN,cR,fw,cap⟩ (N:Nat) ((min wk N:Nat):Int) cs ((0:Nat):Int)) (S31 cs #[.int .i64 (N:Nat),.int .i64 (wk:Nat),.func (.func fw) #[] cap,undef,undef,.pointer (some ⟨bK,0,none⟩),.slice none 0 0,.pointer (some ⟨bN,0,none⟩),.pointer (some ⟨bR,0,none⟩),.pointer (some ⟨wg,0,none⟩),undef,.chan (some cN),.chan (some cR),undef,undef,undef,undef,undef,undef,undef,undef,undef,undef,undef,undef,undef,undef,undef] [.inRegion opsAl [],.code rest3]):=by
 simp only[S31,opsAl,rest3,rest31,Tryz.f31,Option.getD_some]
 repeat (first
  | refine To.ctl rfl (fun _ _=>stepG_seq) ?_
  | refine To.ctl rfl (fun _ _=>stepG_skip) ?_
  | refine To.ctl rfl (fun _ _=>stepG_block) ?_
  | refine To.ctl rfl (fun _ _=>stepG_region_end) ?_
  | (refine To.ctl rfl (fun _ _=>stepG_region) ?_;simp only[List.size_toArray,List.length_cons,List.length_nil,Nat.reduceAdd,Nat.zero_add,List.range,List.range.loop])
  | (refine To.value _ rfl rfl (by k_ne) (fun _ _=>by go_simp<;>rfl) (fun _ _=>by first|(simp[go_sem];done)|(simp[go_sem,Builtin.min_,Builtin.min2];done)) ?_;walk_nrm))
 refine To.ctl rfl (fun _ _=>stepG_loop) ?_
 have hif:(if N<wk then (N:Int) else (wk:Int))=((min wk N:Nat):Int):=by split<;>omega
 have hif2:min (wk:Int) (N:Int)=((min wk N:Nat):Int):=by omega
 first
 | rw[hif]
 | rw[hif2]
 exact To.nil ⟨_,_,_,_,_,_,_,_,_,_,_,_,_,_,_,_,_,_,_,_,_,rfl⟩
end
end Go.Proofs.YtjeicikflkjacaaGreatDoor.Sh

/- Types that are made on the way have no methods. -/
set_option linter.unusedSimpArgs false
namespace Go.Proofs.YtjeicikflkjacaaGreatDoor.Po
open Go
theorem struct_methods {info:TypeId→Option TypeInfo}{fs:Array Field}{i:TypeInfo}(h:Made.reckonStruct info fs=some i):i.methods=#[]:=by
 unfold Made.reckonStruct at h
 simp only[bind,Option.bind_eq_some_iff,pure] at h
 repeat (obtain⟨_,_,h⟩:=h)
 split at h<;>(injection h with h;subst h;rfl)
theorem word_methods {d:TypeDesc}{s:String}{z:Value}{p:Bool}{n:Nat}{i:TypeInfo}(h:some (Made.word d s z p n)=some i):i.methods=#[]:=by
 injection h with h
 subst h
 rfl
theorem reckon_methods {info:TypeId→Option TypeInfo}{d:TypeDesc}{i:TypeInfo}(h:Made.reckon info d=some i):i.methods=#[]:=by
 unfold Made.reckon at h
 split at h
 ·simp only[bind,Option.bind_eq_some_iff,pure] at h
  obtain⟨_,_,h⟩:=h
  split at h
  ·cases h
  ·split at h
   ·cases h
   ·rw[Option.bind_eq_some_iff] at h
    obtain⟨_,_,h⟩:=h
    exact word_methods h
  ·rw[Option.bind_eq_some_iff] at h
   obtain⟨_,_,h⟩:=h
   exact word_methods h
 ·simp only[bind,Option.bind_eq_some_iff,pure] at h
  obtain⟨_,_,_,_,h⟩:=h
  exact word_methods h
 ·simp only[bind,Option.bind_eq_some_iff,pure] at h
  obtain⟨_,_,_,_,_,_,_,_,h⟩:=h
  exact word_methods h
 ·simp only[bind,Option.bind_eq_some_iff,pure] at h
  obtain⟨_,_,_,_,h⟩:=h
  exact word_methods h
 ·simp only[bind,Option.bind_eq_some_iff,pure] at h
  obtain⟨_,_,h⟩:=h
  exact word_methods h
 ·simp only[bind,Option.bind_eq_some_iff,pure] at h
  obtain⟨_,_,_,_,h⟩:=h
  injection h with h
  subst h
  rfl
 ·exact struct_methods h
 ·cases h
theorem info_types {T:Tables}{t:TypeId}{i:TypeInfo}(h:T.info? t=some i):T.types[t]?=some i∨i.methods=#[]:=by
 unfold Tables.info? at h
 split at h
 ·exact .inl h
 ·rename_i hn
  right
  unfold Made.depth Made.infoAt at h
  rw[if_neg hn,Option.bind_eq_some_iff] at h
  obtain⟨d,_,h⟩:=h
  exact reckon_methods h
end Go.Proofs.YtjeicikflkjacaaGreatDoor.Po

/- Goroutine 0 beside leavers: the functions that it calls. -/
set_option linter.unusedSimpArgs false
set_option linter.unusedVariables false
namespace Go.Proofs.YtjeicikflkjacaaGreatDoor.Po
open Go
def lxT:List Nat:=[6,7,9,10,11,12,13,15,16,17,18,21,22,23,24,25,26,28,29,30,32,33,34,35,36,37,38,39,40,46,47,48,49,50,54,56,75,76,77,78,79,87,88,89,90,91,92,93,94,95,96,97,98,99,100,101,102,103,104,105,106,107,108,109,128]
def lxX:List Nat:=[51,52,53,55,80,81,123,124,130,133,134,135,136]
def lxN : List String := ["Comparable", "AssignableTo", "Kind", "Is", "Elem", "Implements", "As", "Unwrap"]
def lx:Lx:=⟨fun f=>lxT.contains f,fun f=>lxX.contains f,fun f=>if f==101 then [3,4,7,11,15] else [],fun f=>f==108,fun n=>lxN.contains n⟩
def fnT (P:Program)(f:Nat):Bool:=match P.funcs[f]? with
 | some fn => (match fn.body with | some c => codeT lx P f c | none => false) && !(fn.name == "runtime.NumGoroutine")
 | none=>false
theorem lx_all:lxT.all (fnT Tryz.prog)=true:=by decide +kernel
def methT (P:Program):Bool:=P.types.all fun i=>i.methods.all fun m=>!lx.names m.name || match m.func with
 | some (f,_)=>(lx.T f && (lx.fs f).isEmpty) || lx.X f
 | none=>true
theorem lx_meth:methT Tryz.prog=true:=by decide +kernel
theorem lx_fn {f:Nat}(h:lx.T f=true):fnT Tryz.prog f=true:=by
 have:=lx_all
 rw[List.all_eq_true] at this
 exact this f (by simpa [lx] using h)
theorem lx_texts:TextsT lx Tryz.prog:=fun f hf=>by
 have h:=lx_fn hf
 unfold fnT at h
 split at h
 ·rename_i fn hfn
  simp only[Bool.and_eq_true] at h
  have h1:=h.1
  split at h1
  ·rename_i c hc
   exact⟨fn,c,hfn,hc,h1⟩
  ·cases h1
 ·cases h
section
variable {Z:Zs} {P:Program}
theorem yes_ext {f : FuncId} {fn : Func} (hf : P.funcs[f]? = some fn) (hn : (fn.name == "runtime.NumGoroutine") = false) (hb : fn.body.isNone = true) (hx : Extern.findNext fn = none) {e : Array Value → Sem Value} (he : Extern.find fn = some e) (hY : ∀ x, Ye Z P (e x)) (x : Array Value) : Yes Z P (fun n => ∃ u, n = Next.value u) (callFunc f x) := by
 unfold callFunc
 refine Yes.bind Yes.program fun p hp=>?_
 subst hp
 rw[hf]
 simp only[hn,hb,Bool.false_eq_true,if_false,if_true]
 refine Ye.bind (.extern f) fun _=>?_
 rw[hx,he]
 dsimp only
 exact Ye.bind (hY x) fun u=>.pure ⟨u,rfl⟩
theorem yes_noext {f : FuncId} {fn : Func} (hf : P.funcs[f]? = some fn) (hn : (fn.name == "runtime.NumGoroutine") = false) (hb : fn.body.isNone = true) (hx : Extern.findNext fn = none) (he : Extern.find fn = none) (hi : (fn.name.endsWith ".init" && !fn.name.startsWith "(" && !fn.name.startsWith "gosem.") = false) (x : Array Value) : Yes Z P (fun n => ∃ u, n = Next.value u) (callFunc f x) := by
 unfold callFunc
 refine Yes.bind Yes.program fun p hp=>?_
 subst hp
 rw[hf]
 simp only[hn,hb,Bool.false_eq_true,if_false,if_true]
 refine Ye.bind (.extern f) fun _=>?_
 rw[hx,he]
 dsimp only
 rw[hi]
 exact .unsupported _
end
theorem lx_ext {Z:Zs}:∀f,lx.X f=true→∀x,Yes Z Tryz.prog (fun n=>∃u,n=Next.value u) (callFunc f x):=by
 intro f hf x
 have hf:f∈lxX:=by simpa [lx] using hf
 simp only[lxX,List.mem_cons,List.not_mem_nil,or_false] at hf
 rcases hf with rfl|rfl|rfl|rfl|rfl|rfl|rfl|rfl|rfl|rfl|rfl|rfl|rfl
 ·exact yes_ext Tryz.func51 (by kernel_rfl) (by kernel_rfl) (by kernel_rfl) (e:=fun args=>Extern.ReflectliteValue.unpack (args.getD 0 (.tuple #[]))) (by kernel_rfl) (fun x=>ye_unpack _) x
 ·exact yes_ext Tryz.func52 (by kernel_rfl) (by kernel_rfl) (by kernel_rfl) (e := Extern.ReflectliteValue.methodAny (Extern.ReflectliteValue.valueError "reflectlite.Value.Type" 0) fun t _ _ _ => Extern.ReflectliteType.toType t) (by kernel_rfl) (ye_vmethodAny (.dead (dead_valueError _ _)) fun _ _ _ _ => ye_toType _) x
 ·exact yes_ext Tryz.func53 (by kernel_rfl) (by kernel_rfl) (by kernel_rfl) (e := Extern.ReflectliteValue.method (Extern.ReflectliteValue.valueError "reflectlite.Value.IsNil" 0) Extern.ReflectliteValue.isNil) (by kernel_rfl) (ye_vmethod (.dead (dead_valueError _ _)) fun _ _ _ _ => ye_isNil _ _ _ _) x
 ·exact yes_ext Tryz.func55 (by kernel_rfl) (by kernel_rfl) (by kernel_rfl) (e:=Extern.ReflectliteType.typeOf) (by kernel_rfl) (ye_typeOf) x
 ·exact yes_ext Tryz.func80 (by kernel_rfl) (by kernel_rfl) (by kernel_rfl) (e := Extern.ReflectliteValue.method (Extern.ReflectliteValue.valueError "reflectlite.Value.Elem" 0) Extern.ReflectliteValue.elem) (by kernel_rfl) (ye_vmethod (.dead (dead_valueError _ _)) fun _ _ _ _ => ye_velem _ _ _ _) x
 ·exact yes_ext Tryz.func81 (by kernel_rfl) (by kernel_rfl) (by kernel_rfl) (e:=Extern.ReflectliteValue.set) (by kernel_rfl) (ye_set) x
 ·exact yes_noext Tryz.func123 (by kernel_rfl) (by kernel_rfl) (by kernel_rfl) (by kernel_rfl) (by kernel_rfl) x
 ·exact yes_ext Tryz.func124 (by kernel_rfl) (by kernel_rfl) (by kernel_rfl) (e:=Extern.ReflectliteType.abiMethod fun t=>do Pure.pure (.int .u8 (← Extern.Rtype.kind t))) (by kernel_rfl) (ye_abiMethod fun _=>Ye.bind (ye_kind _) fun _=>.pure trivial) x
 ·exact yes_ext Tryz.func130 (by kernel_rfl) (by kernel_rfl) (by kernel_rfl) (e:=Extern.ReflectliteValue.method (Pure.pure (.int .u8 0)) fun _ _ _ k=>Pure.pure (.int .u8 (Int.ofNat k))) (by kernel_rfl) (ye_vmethod (.pure trivial) fun _ _ _ _=>.pure trivial) x
 ·exact yes_ext Tryz.func133 (by kernel_rfl) (by kernel_rfl) (by kernel_rfl) (e := Extern.ReflectliteType.relation "AssignableTo" Extern.ReflectliteType.assignableTo) (by kernel_rfl) (ye_relation _ ye_assignableTo) x
 ·exact yes_ext Tryz.func134 (by kernel_rfl) (by kernel_rfl) (by kernel_rfl) (e := Extern.ReflectliteType.method fun t => do Extern.Rtype.noPackHeld "Comparable" t; Pure.pure (.bool (← Go.typeInfo t).comparable)) (by kernel_rfl) (ye_tmethod fun _ => Ye.bind (ye_noPackHeld _ _) fun _ => Ye.bind (ye_typeInfo _) fun _ => .pure trivial) x
 ·exact yes_ext Tryz.func135 (by kernel_rfl) (by kernel_rfl) (by kernel_rfl) (e:=Extern.ReflectliteType.method Extern.ReflectliteType.elem) (by kernel_rfl) (ye_tmethod ye_telem) x
 ·exact yes_ext Tryz.func136 (by kernel_rfl) (by kernel_rfl) (by kernel_rfl) (e := Extern.ReflectliteType.relation "Implements" Extern.ReflectliteType.implements_) (by kernel_rfl) (ye_relation _ ye_implements_) x
theorem lx_ok (Z:Zs):LOk Z Tryz.prog lx:=by
 refine⟨fun f hf=>?_,lx_ext,fun t i hi m hm hn f b hmf=>?_,fun f hf=>?_⟩
 ·have h:=lx_fn hf
  unfold fnT at h
  split at h
  ·rename_i fn hfn
   simp only[Bool.and_eq_true] at h
   have h1:=h.1
   split at h1
   ·rename_i c hc
    exact⟨fn,hfn,by rw[hc];rfl,by simpa using h.2⟩
   ·cases h1
  ·cases h
 ·have h:=lx_meth
  unfold methT at h
  rw[Array.all_eq_true] at h
  rcases info_types hi with hi'|hi'
  rotate_left
  ·rw[hi'] at hm
   simp at hm
  obtain⟨hlt,rfl⟩:=Array.getElem?_eq_some_iff.1 hi'
  have h1:=h t hlt
  rw[Array.all_eq_true] at h1
  obtain⟨j,hj,rfl⟩:=Array.mem_iff_getElem.1 hm
  have h2:=h1 j hj
  rw[hn,hmf] at h2
  simp only[Bool.not_true,Bool.false_or,Bool.or_eq_true,Bool.and_eq_true,List.isEmpty_iff] at h2
  exact h2
 ·have:f=108:=by simpa [lx] using hf
  subst this
  exact⟨by decide,by decide⟩
end Go.Proofs.YtjeicikflkjacaaGreatDoor.Po

/- share, called beside leavers: it comes back with the list, all that it started only leave. -/
set_option linter.unusedSimpArgs false
set_option linter.unusedVariables false
namespace Go.Proofs.YtjeicikflkjacaaGreatDoor.Sh
open Go Go.Conc Go.Conc.Lib Go.ConcN
open Ms Po
open Par (Fm Gr on stopper LocIn)
open Go.ConcR (wgBlock WgAt stA smA)
def ZL (Zg:Nat→Prop)(l:Loc):Prop:=∃a:Addr,l=.cell a∧Zg a.block
def zsOf (Zg:Nat→Prop)(w:World):Zs:=⟨fun b=>Zg b∨∃c e,w.heap[b]?=some (.pending c e),Zg,fun _ h=>.inl h⟩
open Classical in
noncomputable def veil (Zg:Nat→Prop)(w:World):World:={ w with heap:=w.heap.mapIdx fun b o=>if (zsOf Zg w).z b then window else o }
section
variable {Zg:Nat→Prop} {w:World}
open Classical in
theorem veil_get (b:Nat):(veil Zg w).heap[b]?=(w.heap[b]?).map fun o=>if (zsOf Zg w).z b then window else o:=by
 unfold veil
 dsimp only
 rw[Array.getElem?_mapIdx]
theorem veil_size:(veil Zg w).heap.size=w.heap.size:=by unfold veil;simp
theorem veil_wr (h:∀b,Zg b→∃c e,w.heap[b]?=some (.cells c e (0,0))):Wr (zsOf Zg w) (veil Zg w) w:=by
 refine⟨veil_size,fun b hb=>?_,fun b hb=>?_,fun b hb=>?_,fun b c e q=>?_,rfl,rfl,rfl,rfl⟩
 ·rw[veil_get]
  have hb':¬(zsOf Zg w).z b:=hb
  cases w.heap[b]? with
  | none=>rfl
  | some o=>simp[hb']
 ·rw[veil_get]
  have hb':(zsOf Zg w).z b:=hb
  have:∃o,w.heap[b]?=some o:=by
   rcases hb with hb|⟨c,e,q⟩
   ·obtain⟨c,e,q⟩:=h b hb
    exact⟨_,q⟩
   ·exact⟨_,q⟩
  obtain⟨o,ho⟩:=this
  rw[ho]
  simp[hb']
 ·rcases hb with hb|⟨c,e,q⟩
  ·obtain⟨c,e,q⟩:=h b hb
   exact⟨c,e,.inl q⟩
  ·by_cases hg:Zg b
   ·obtain⟨c,e,q⟩:=h b hg
    exact⟨c,e,.inl q⟩
   ·exact⟨c,e,.inr ⟨hg,q⟩⟩
 ·rw[veil_get] at q
  cases ho:w.heap[b]? with
  | none=>rw[ho] at q;cases q
  | some o =>
   rw[ho] at q
   simp only[Option.map_some,Option.some.injEq] at q
   split at q
   ·cases q
   ·rename_i hn
    exact hn (.inr ⟨c,e,by rw[ho,q]⟩)
theorem zl_g (b:Nat)(l:Loc)(hl:LocIn b l)(h:ZL Zg l):(zsOf Zg w).g b:=by
 obtain⟨a,rfl,ha⟩:=h
 exact (show a.block=b from hl) ▸ ha
structure Mid (Zg:Nat→Prop)(gs:Array Goroutine)(w:World)(t:Trace)(q:Nat→Nat):Prop where
 leave:Leavers PP t gs q
 past:Past (ZL Zg) w.heap.size t
 grp:∀b,Zg b→∃c e,w.heap[b]?=some (.cells c e (0,0))
theorem Mid.lt {gs:Array Goroutine}{t:Trace}{q:Nat→Nat}(M:Mid Zg gs w t q){b:Nat}(h:Zg b):b<w.heap.size:=by
 obtain⟨c,e,x⟩:=M.grp b h
 exact (Array.getElem?_eq_some_iff.1 x).1
theorem lay_there {Z:Zs}{v v1 w w1:World}{fw:FuncId}{cap:Array Value}{bK bN bR cN cR:Nat}(h:Wr Z v w)(h1:Wr Z v1 w1)(hk:∀b,Z b→w1.heap[b]?=w.heap[b]?)(hl:Lay v v1 fw cap bK bN bR cN cR):Lay w w1 fw cap bK bN bR cN cR:=by
 have new:∀b,v.heap.size≤b→¬Z b:=fun b hb hz=>by
  have:=h.lt hz
  rw[←h.size] at this
  omega
 have sz:=h.size
 have sz1:=h1.size
 obtain⟨l1,l2,l3,l4,l5⟩:=hl.lo
 refine⟨by rw[←sz1,←sz];exact hl.size,fun b hb=>?_,by rw[←sz];exact hl.lo,by rw[←sz1];exact hl.hi,hl.ne,?_,?_,?_,?_,?_,?_⟩
 ·by_cases hz:Z b
  ·exact hk b hz
  ·rw[←h1.off b hz,hl.old b (by omega),h.off b hz]
 ·rw[←h1.off _ (new _ l1)];exact hl.k
 ·rw[←h1.off _ (new _ l2)];exact hl.n
 ·rw[←h1.off _ (new _ l3)];exact hl.r
 ·rw[←h1.off _ (new _ l4)];exact hl.cn
 ·rw[←h1.off _ (new _ l5)];exact hl.cr
 ·exact⟨by rw[←h1.os,←h.os];exact hl.os.1,by rw[←h1.out,←h.out];exact hl.os.2⟩
end
end Go.Proofs.YtjeicikflkjacaaGreatDoor.Sh
