/- Goroutine 0 beside goroutines that only leave: what it does in a memory of its own it does beside them. -/
import Derived.Test.YtjeicikflkjacaaGreatDoorM23
import Derived.Conc.Beside
import Derived.Test.YtjeicikflkjacaaGreatDoorPoM
set_option linter.unusedVariables false
namespace Go.Proofs.YtjeicikflkjacaaGreatDoor.Par
open Go Go.Conc Go.ConcN
open Go.ConcR (g_of_ofEvents ofEvent_cell)
section
variable {Ok:Cx} {P:Program} {R:Value→World→Prop} {c:Frame} {cs:List Frame} {Shun:Loc→Prop} {B0:Nat}
theorem leavers_own {t:Trace}{gs:Array Goroutine}{q:Nat→Nat}(h0:0<gs.size)(hL:Leavers P t gs q){g g':Goroutine}{w':World}{fn:FuncId}{pos:String}{es:Array Event}:Leavers P (t++MemOp.ofEvents 0 fn pos es) ((gs.map (woken P g g' w')).setIfInBounds 0 g') q :=
 ⟨fun j x hj hx=>by
  have hne:0≠j:=by omega
  rw[Array.getElem?_setIfInBounds_ne hne,Array.getElem?_map] at hx
  obtain⟨y,hy,rfl⟩:=Option.map_eq_some_iff.1 hx
  have hq:=hL.old j y hj hy
  rw[woken_quitsD hq,Deaf_other t (by omega) _ g_of_ofEvents]
  exact hq,fun j hj=>by
  rw[Deaf_other t (g':=0) (by simp at hj;omega) _ g_of_ofEvents]
  exact hL.above j (by simpa using hj)⟩
theorem leavers_slip {t:Trace}{gs:Array Goroutine}{q:Nat→Nat}(hL:Leavers P t gs q){i k:Nat}(hi0:0<i)(hlt:i<gs.size){g g':Goroutine}{w':World}{fn:FuncId}{pos:String}{es:Array Event}(hq':QuitsD P k (deafBehind (Deaf t i) es) g') :
  Leavers P (t++MemOp.ofEvents i fn pos es) ((gs.map (woken P g g' w')).setIfInBounds i g') (upd q i k) :=
 ⟨fun j x hj hx=>by
  by_cases hji:i=j
  ·subst hji
   rw[Array.getElem?_setIfInBounds_self_of_lt (by simpa using hlt)] at hx
   obtain rfl:=Option.some.inj hx
   rw[upd_same,Deaf_own]
   exact hq'
  ·rw[Array.getElem?_setIfInBounds_ne hji,Array.getElem?_map] at hx
   obtain⟨y,hy,rfl⟩:=Option.map_eq_some_iff.1 hx
   have hqj:=hL.old j y hj hy
   rw[woken_quitsD hqj,upd_ne q k (Ne.symm hji),Deaf_other t hji _ g_of_ofEvents]
   exact hqj,fun j hj=>by
  rw[Deaf_other t (g':=i) (by simp at hj;omega) _ g_of_ofEvents]
  exact hL.above j (by simpa using hj)⟩
end
end Go.Proofs.YtjeicikflkjacaaGreatDoor.Par

/- Goroutine 0 beside leavers: what ends under every tape ends whatever is answered on the way; beside leavers. -/
set_option linter.unusedSimpArgs false
set_option linter.unusedVariables false
namespace Go.Proofs.YtjeicikflkjacaaGreatDoor.Po
open Go Go.Conc Go.ConcN
open Par (Fm Gr on onT Ag stopper tape_of on_eq LocIn leavers_own leavers_slip)
open Go.ConcR (g_of_ofEvents ofEvent_cell)
section
variable {Z:Zs} {P:Program} {E:Goroutine→Prop} {R:Goroutine→World→Prop} {Shun:Loc→Prop}
def Ends (Z:Zs)(P:Program)(E:Goroutine→Prop)(R:Goroutine→World→Prop)(g:Goroutine)(w:World):Prop:=∃n g2 w2,Chn Z P E n g w g2 w2∧E g2∧R g2 w2
inductive Fin (Z:Zs) (P:Program) (E:Goroutine→Prop) (R:Goroutine→World→Prop):Goroutine→World→Prop
 | stop {g:Goroutine} {w:World} (τ:Nat→Question→Nat) (d:Nat) (he:E g) (hR:R g (on w τ d)):Fin Z P E R g w
 | step {g:Goroutine} {w:World} (hne:¬E g) (hr:g.status=.running) (h1:∀τ d,∃g1 w1,St1 Z P g (on w τ d) g1 w1) (h:∀τ d g1 w1,St1 Z P g (on w τ d) g1 w1→Fin Z P E R g1 w1):Fin Z P E R g w
theorem Fin.on {g:Goroutine}{w:World}(h:Fin Z P E R g w)(τ:Nat→Question→Nat)(d:Nat):Fin Z P E R g (Par.on w τ d):=by
 cases h with
 | stop τ' d' he hR=>exact .stop τ' d' he hR
 | step hne hr h1 h=>exact .step hne hr h1 h
theorem St1.eq {g g1:Goroutine}{w w1:World}(h:St1 Z P g w g1 w1):∃es,stepG P true g w=.go g1 w1 es∧(∀e∈es,EvO Z w1.heap.size e)∧w.heap.size≤w1.heap.size∧∀b,Z b→w1.heap[b]?=w.heap[b]?:=by
 obtain⟨m,u,es,h1,h2,h3,h4,h5⟩:=h
 refine⟨es,?_,h3,h4,h5⟩
 rw[h1]
 exact h2 w.tape w.drawn fun _ _ _=>rfl
theorem St1.det {g g1 g2:Goroutine}{w w1 w2:World}(h:St1 Z P g w g1 w1)(k:St1 Z P g w g2 w2):g2=g1∧w2=w1:=by
 obtain⟨es,e,_⟩:=h.eq
 obtain⟨es2,e2,_⟩:=k.eq
 rw[e] at e2
 injection e2 with a b _
 exact⟨a.symm,b.symm⟩
theorem St1.retape {g g1:Goroutine}{v w1:World}{τ:Nat→Question→Nat}{d:Nat}(h:St1 Z P g (on v τ d) g1 w1):∃m u,w1=on u τ (d+m)∧∀τ' d',Ag m τ d τ' d'→St1 Z P g (on v τ' d') g1 (on u τ' (d'+m)):=by
 obtain⟨m,u,es,h1,h2,h3,h4,h5⟩:=h
 subst h1
 refine⟨m,u,rfl,fun τ' d' ha=>⟨m,u,es,rfl,fun τ2 d2 hb=>h2 τ2 d2 fun i hi q=>?_,h3,h4,h5⟩⟩
 exact (hb i hi q).trans (ha i hi q)
theorem Chn.retape:∀ {n:Nat} {g g2:Goroutine} {v v2:World} {τ:Nat→Question→Nat} {d:Nat},Chn Z P E n g (on v τ d) g2 v2→∀τ' d',(∀m,Ag m τ d τ' d')→∃w m,v2=on w τ (d+m)∧Chn Z P E n g (on v τ' d') g2 (on w τ' (d'+m))
 | 0,g,g2,v,v2,τ,d,hc,τ',d',ha=>by
  cases hc
  exact⟨v,0,rfl,.nil _ _⟩
 | n+1,g,g2,v,v2,τ,d,hc,τ',d',ha=>by
  cases hc with
  | cons hne hr hs hc =>
   obtain⟨m,u,rfl,hex⟩:=hs.retape
   obtain⟨w,m2,e,hc2⟩:=Chn.retape hc τ' (d'+m) (fun m3 i hi q=>by
    have:=ha (m+m3) (m+i) (by omega) q
    rw[show d'+m+i=d'+(m+i) by omega,show d+m+i=d+(m+i) by omega]
    exact this)
   refine⟨w,m+m2,by rw[e,show d+m+m2=d+(m+m2) by omega],?_⟩
   rw[show d'+(m+m2)=d'+m+m2 by omega]
   exact .cons hne hr (hex τ' d' (ha m)) hc2
theorem ends_next (hR:∀g w τ d,R g w→R g (on w τ d)){g g1:Goroutine}{v u:World}(hne:¬E g)(hC:∀τ d,Ends Z P E R g (on v τ d)){τ0:Nat→Question→Nat}{d0 m:Nat}(hex:∀τ' d',Ag m τ0 d0 τ' d'→St1 Z P g (on v τ' d') g1 (on u τ' (d'+m)))(τ:Nat→Question→Nat)(d:Nat):Ends Z P E R g1 (on u τ d):=by
 let T:Nat→Question→Nat:=fun p q=>if p<m then τ0 (d0+p) q else τ (d+(p - m)) q
 have hT0:Ag m τ0 d0 T 0:=fun i hi q=>by
  show (if 0+i<m then τ0 (d0+(0+i)) q else _)=_
  rw[if_pos (by omega),Nat.zero_add]
 obtain⟨n,g2,v2,hc,he,hx⟩:=hC T 0
 cases hc with
 | nil=>exact absurd he hne
 | cons hne hr hs hc =>
  obtain⟨rfl,rfl⟩:=(hex T 0 hT0).det hs
  obtain⟨w,m2,e,hc2⟩:=Chn.retape hc τ d fun m3 i hi q=>by
   show _=(if 0+m+i<m then _ else τ (d+(0+m+i - m)) q)
   rw[if_neg (by omega),show 0+m+i - m=i by omega]
  subst e
  exact⟨_,g2,_,hc2,he,(hR g2 _ τ (d+m2) hx:R g2 (on (on w T (0+m+m2)) τ (d+m2)))⟩
theorem Chn.det:∀ {n:Nat} {g g2:Goroutine} {v v2:World},Chn Z P E n g v g2 v2→∀(s:Nat→Goroutine) (w:Nat→World),s 0=g→w 0=v→(∀k,St1 Z P (s k) (w k) (s (k+1)) (w (k+1)))→g2=s n∧v2=w n
 | 0,_,_,_,_,hc,s,w,h0,h1,_=>by
  cases hc
  exact⟨h0.symm,h1.symm⟩
 | n+1,g,g2,v,v2,hc,s,w,h0,h1,hs=>by
  cases hc with
  | cons hne hr h hc =>
   have:=hs 0
   rw[h0,h1] at this
   obtain⟨e1,e2⟩:=this.det h
   subst e1 e2
   exact Chn.det hc (fun k=>s (k+1)) (fun k=>w (k+1)) rfl rfl fun k=>hs (k+1)
theorem fin_of (hR:∀g w τ d,R g w→R g (on w τ d)){g:Goroutine}{v:World}(hC:∀τ d,Ends Z P E R g (on v τ d)):Fin Z P E R g v:=by
 classical
 refine Classical.byContradiction fun hnf=>?_
 let X:={ p:Goroutine × World // ¬Fin Z P E R p.1 p.2∧∀τ d,Ends Z P E R p.1 (on p.2 τ d) }
 have next:∀p:X,∃(τ:Nat→Question→Nat) (d m:Nat) (p':X),∀τ' d',Ag m τ d τ' d'→St1 Z P p.1.1 (on p.1.2 τ' d') p'.1.1 (on p'.1.2 τ' (d'+m)):=by
  rintro ⟨⟨g,v⟩,hnf,hC⟩
  dsimp only at hnf hC
  have hne:¬E g:=fun he=>by
   obtain⟨n,g2,v2,hc,_,hu⟩:=hC v.tape v.drawn
   cases hc with
   | nil=>exact hnf (.stop _ _ he hu)
   | cons hne=>exact hne he
  have hgo:∀τ d,g.status=.running∧∃g1 v1,St1 Z P g (on v τ d) g1 v1:=fun τ d=>by
   obtain⟨n,g2,v2,hc,he,_⟩:=hC τ d
   cases hc with
   | nil=>exact absurd he hne
   | cons _ hr h _=>exact⟨hr,_,_,h⟩
  have:∃τ d g1 v1,St1 Z P g (on v τ d) g1 v1∧¬Fin Z P E R g1 v1:=Classical.byContradiction fun hno=>hnf (.step hne (hgo v.tape v.drawn).1 (fun τ d=>(hgo τ d).2) fun τ d g1 v1 h=>Classical.byContradiction fun hf=>hno ⟨τ,d,g1,v1,h,hf⟩)
  obtain⟨τ,d,g1,v1,h,hf⟩:=this
  obtain⟨m,u,rfl,hex⟩:=h.retape
  exact⟨τ,d,m,⟨(g1,u),fun q=>hf (q.on _ _),fun τ d=>ends_next hR hne hC hex τ d⟩,hex⟩
 let tp:X→Nat→Question→Nat:=fun p=>(next p).choose
 let dd:X→Nat:=fun p=>(next p).choose_spec.choose
 let mm:X→Nat:=fun p=>(next p).choose_spec.choose_spec.choose
 let nx:X→X:=fun p=>(next p).choose_spec.choose_spec.choose_spec.choose
 have hnx:∀p:X,∀τ' d',Ag (mm p) (tp p) (dd p) τ' d'→St1 Z P p.1.1 (on p.1.2 τ' d') (nx p).1.1 (on (nx p).1.2 τ' (d'+mm p)):=fun p=>(next p).choose_spec.choose_spec.choose_spec.choose_spec
 let x:Nat→X:=fun n=>Nat.rec ⟨(g,v),hnf,hC⟩ (fun _ p=>nx p) n
 obtain⟨T,D,hD0,hD,hAg⟩:=tape_of (fun n=>tp (x n)) (fun n=>dd (x n)) (fun n=>mm (x n))
 obtain⟨n,g2,v2,hc,he,hu⟩:=hC T 0
 obtain⟨e1,e2⟩:=hc.det (fun k=>(x k).1.1) (fun k=>on (x k).1.2 T (D k)) rfl (by show on v T (D 0)=on v T 0;rw[hD0]) fun k=>by
  have h:=hnx (x k) T (D k) (hAg k)
  show St1 Z P (x k).1.1 (on (x k).1.2 T (D k)) (x (k+1)).1.1 (on (x (k+1)).1.2 T (D (k+1)))
  rw[hD k]
  exact h
 subst e1 e2
 exact (x n).2.1 (.stop T (D n) he hu)
theorem evl_of (hsh:∀b l,LocIn b l→Shun l→Z.g b){B:Nat}{e:Event}(h:EvO Z B e):EvL Shun B e:=by
 cases h with
 | cell a wr sy h hb =>
  refine⟨fun x hx hs=>?_,by simp,by simp,?_⟩
  ·simp only[ofEvent_cell,MemAct.touch?,Option.some.injEq] at hx
   subst hx
   exact absurd (hsh a.block (.cell a) rfl hs) h
  ·rw[ofEvent_cell];exact hb
 | obj r wr sy h hb =>
  refine⟨fun x hx hs=>?_,by simp,by simp,?_⟩
  ·cases wr<;>cases sy<;>simp only[MemAct.ofEvent,MemAct.touch?,Option.some.injEq,reduceCtorEq] at hx
   all_goals
    subst hx
    exact absurd (hsh r (.obj r) rfl hs) h
  ·cases wr<;>cases sy<;>exact hb
 | noRoom wr sy=>exact⟨fun x hx=>by simp[MemAct.ofEvent,MemAct.touch?] at hx,by simp,by simp,trivial⟩
 | extern f wr sy=>exact⟨fun x hx=>by simp[MemAct.ofEvent,MemAct.touch?] at hx,by simp,by simp,trivial⟩
theorem fin_beside (hsh:∀b l,LocIn b l→Shun l→Z.g b)(hR:∀g w τ d,R g w→R g (on w τ d)){g:Goroutine}{w:World}(h:Fin Z P E R g w) :
  ∀(M:Nat) (gs:Array Goroutine) (τ:Nat→Question→Nat) (d:Nat) (sl:Option (Nat × Nat)) (t:Trace) (q:Nat→Nat),sumTo gs.size q≤M→gs[0]?=some g→Leavers P t gs q→Past Shun w.heap.size t →
   ∃(N:Nat) (gs':Array Goroutine) (g':Goroutine) (w':World) (sl':Option (Nat × Nat)) (t':Trace) (q':Nat→Nat),
    runNT P N (crowd gs (on w τ d) sl) t=(.next (crowd gs' w' sl'),t')∧gs'.size=gs.size∧gs'[0]?=some g'∧E g'∧R g' w'∧Leavers P t' gs' q'∧Past Shun w'.heap.size t'∧w.heap.size≤w'.heap.size∧∀b,Z b→w'.heap[b]?=w.heap[b]?:=by
 induction h with
 | @stop g w τ' d' he hRw =>
  intro M gs τ d sl t q _ h0 hL hP
  exact⟨0,gs,_,_,sl,t,q,rfl,rfl,h0,he,(hR _ (on w τ' d') τ d hRw:R g (on (on w τ' d') τ d)),hL,hP,Nat.le_refl _,fun _ _=>rfl⟩
 | @step g w hne hrun h1 h ih =>
  intro M
  induction M using Nat.strongRecOn with
  | _ M ihM =>
   intro gs τ d sl t q hM h0 hL hP
   have hlt0:0<gs.size:=(Array.getElem?_eq_some_iff.1 h0).1
   have haw:∀g∈gs,awake g:=by
    intro x hx
    obtain⟨i,hi,rfl⟩:=Array.mem_iff_getElem.1 hx
    rcases Nat.eq_zero_or_pos i with rfl|hpos
    ·have:gs[0]=g:=by simpa [Array.getElem?_eq_getElem hi] using h0
     rw[this];exact awake_of (.inl hrun)
    ·exact awake_of ((hL.old i _ hpos (Array.getElem?_eq_getElem hi)).status.elim .inl fun x=>.inr (.inr x))
   obtain⟨i,x,d1,sl',hi,hg,hst⟩:=crowd_pick (P:=P) (w:=on w τ d) (sl:=sl) haw ⟨0,g,h0,hrun⟩
   have ew:(on w τ d).at d1=on w τ d1:=rfl
   rw[ew] at hst
   rcases Nat.eq_zero_or_pos i with rfl|hpos
   ·obtain rfl:x=g:=by rw[h0] at hi;exact (Option.some.inj hi).symm
    obtain⟨g1,w1,hs1⟩:=h1 τ d1
    obtain⟨es,hgo,hev,hsz,hkp⟩:=hs1.eq
    have hrunT:=runT_crowd_go (P:=P) (sl:=sl') (i:=0) hi (show stepG P (0==0) x (on w τ d1)=_ from hgo)
    have hP1:=(hP.mono hsz).own (fn:=x.frame.fn) (pos:=x.frame.place) (fun e he=>evl_of hsh (hev e he))
    obtain⟨N,gs',g',w',sl2,t',q',hr,hs',h0',he',hR',hL',hP',hsz',hkp'⟩:=ih τ d1 g1 w1 hs1 _ ((gs.map (woken P x g1 w1)).setIfInBounds 0 g1) w1.tape w1.drawn sl' _ q (Nat.le_refl _) (by simp[hlt0]) (leavers_own hlt0 hL) hP1
    refine⟨N+1,gs',g',w',sl2,t',q',by simp only[runNT,hst,hrunT];exact hr,by rw[hs'];simp,h0',he',hR',hL',hP',Nat.le_trans hsz hsz',fun b hb=>(hkp' b hb).trans (hkp b hb)⟩
   ·have hq:=hL.old i x hpos hi
    have hi0:(i==0)=false:=by simp;omega
    have hlt:i<gs.size:=(Array.getElem?_eq_some_iff.1 hi).1
    cases hqi:q i with
    | zero=>rw[hqi] at hq;rw[hq.1] at hg;cases hg
    | succ k =>
     rw[hqi] at hq
     rcases hq with⟨hf,_⟩|⟨_,g',es,hm,hstp,hq'⟩
     ·rw[hf] at hg;cases hg
     have hrunT:=runT_crowd_go (P:=P) (sl:=sl') (i:=i) hi (by rw[hi0];exact hstp (on w τ d1))
     have hsz:((gs.map (woken P x g' (on w τ d1))).setIfInBounds i g').size=gs.size:=by simp
     have hsum:sumTo gs.size (upd q i k)+(k+1)=sumTo gs.size q+k:=by
      have:=sumTo_upd q k id hlt
      simpa [hqi] using this
     obtain⟨N,gs',g2,w',sl2,t',q',hr,hs',h0',he',hR',hL',hP',hsz',hkp'⟩:=ihM (sumTo gs.size (upd q i k)) (by omega) ((gs.map (woken P x g' (on w τ d1))).setIfInBounds i g') τ d1 sl' _ (upd q i k) (by rw[hsz];exact Nat.le_refl _)
      (by
       have hne:i≠0:=by omega
       rw[Array.getElem?_setIfInBounds_ne hne,Array.getElem?_map,h0]
       simp[Go.Conc.woken_run hrun]) (leavers_slip hL hpos hlt hq') (hP.mute (by omega) hm)
     exact⟨N+1,gs',g2,w',sl2,t',q',by simp only[runNT,hst,hrunT];exact hr,hs'.trans hsz,h0',he',hR',hL',hP',hsz',hkp'⟩
end
end Go.Proofs.YtjeicikflkjacaaGreatDoor.Po

/- Goroutine 0 beside leavers: a call, a frame's rest, a piece of a frame, the end. -/
set_option linter.unusedSimpArgs false
set_option linter.unusedVariables false
namespace Go.Proofs.YtjeicikflkjacaaGreatDoor.Po
open Go Go.Conc Go.ConcN
open Par (Fm Gr on onT Ag stopper on_eq LocIn)
section
variable {Z:Zs} {P:Program} {L:Lx} {Shun:Loc→Prop}
theorem Wr.on {v w:World}(h:Wr Z v w)(τ:Nat→Question→Nat)(d:Nat):Wr Z (Par.on v τ d) (Par.on w τ d):=⟨h.size,h.off,h.here,h.there,h.nop,rfl,rfl,h.os,h.out⟩
theorem results_on {v:World}(hv:Nop v){fn:Func}{t:Array Value}{u:Value}(h:(results fn t).run P v=.ok u v)(τ:Nat→Question→Nat)(d:Nat):(results fn t).run P (on v τ d)=.ok u (on v τ d):=by
 have hr:(results fn t).runT P v #[]=(.ok u v,(results fn t).events P v #[]):=Prod.ext (by rw[Sem.runT_fst];exact h) rfl
 obtain⟨_,m,u2,new,hdr,ha⟩:=yes_draws (ye_results (Z:=noZ) fn t) (.same hv) hr
 have h1:=hdr v.tape v.drawn fun _ _ _=>rfl
 have ev:on v v.tape v.drawn=v:=rfl
 rw[ev,hr] at h1
 injection h1 with h2 _
 injection h2 with _ h3
 obtain⟨rfl,e2⟩:=on_eq (v:=v) (u:=u2) (τ:=v.tape) (τ':=τ) (d:=v.drawn) (m:=m) (d':=d) h3
 have h4:=hdr τ d fun i hi=>by omega
 rw[←Sem.runT_fst P _ _ #[],h4,Nat.add_zero,e2]
def AtR (Z:Zs)(P:Program)(F:FuncId→Prop)(base:List Frame)(R:Value→World→Prop)(g:Goroutine)(w:World):Prop :=
 ∃f t k fn u v,F f∧g=Gr (Fm f t k .returning) base∧P.funcs[f]?=some fn∧(results fn t).run P v=.ok u v∧R u v∧Wr Z v w
theorem AtR.on {F:FuncId→Prop}{base:List Frame}{R:Value→World→Prop}(hR:∀u v τ d,R u v→R u (Par.on v τ d)){g:Goroutine}{w:World}(h:AtR Z P F base R g w)(τ:Nat→Question→Nat)(d:Nat):AtR Z P F base R g (Par.on w τ d):=by
 obtain⟨f,t,k,fn,u,v,h0,h1,h2,h3,h4,h5⟩:=h
 exact⟨f,t,k,fn,u,Par.on v τ d,h0,h1,h2,results_on h5.nop h3 τ d,hR _ _ _ _ h4,h5.on τ d⟩
theorem tail_fin (F:FuncId→Prop)(H:LOk Z P L)(hT:TextsT L P){R:Value→World→Prop}(hR:∀u v τ d,R u v→R u (on v τ d)){v w:World}(hw:Wr Z v w){f:FuncId}(hf:∃fn,P.funcs[f]?=some fn){t:Array Value}(ht:SlT L f t){k G K:List Item}(hk:todoT L P f k)(tl:Tl L P f [] G K)
  (hC:∀τ d,∃fr v' u,F fr.fn∧Steps P (lone (Fm f t (k++G) .run) [stopper] (on v τ d)) (lone fr [stopper] v')∧fr.leaving P v' (.returned u)∧R u v') (base:List Frame):Fin Z P (EndR false [] base) (AtR Z P F base R) (Gr (Fm f t (k++K) .run) base) w:=by
 refine fin_of (fun g w τ d h=>h.on hR τ d) fun τ d=>?_
 obtain⟨fr,v',u,hFf,⟨n,hn⟩,hl,hu⟩:=hC τ d
 obtain⟨n',g2,w2,hc,hw2,hg2⟩:=chn_of (pc:=false) (T:=[]) (base:=base) H hT (fun _=>rfl) (fr2:=fr) (v2:=v') hl.1 n (Fm f t (k++G) .run) [stopper] (on v τ d) (on w τ d) (Gr (Fm f t (k++K) .run) base) (hw.on τ d) (.bot hf ht hk (.inl rfl) tl) hn
 obtain⟨hm,_,_,fn,hfn,hres⟩:=hl
 obtain⟨f2,t2,k2,k3,_,rfl,rfl⟩:=(show ∃f t k k',(∃fn,P.funcs[f]?=some fn)∧fr=Fm f t k .returning∧g2=Gr (Fm f t k' .returning) base from hg2)
 exact⟨n',_,w2,hc,⟨rfl,.inl rfl⟩,f2,t2,k3,fn,u,v',hFf,rfl,hfn,hres,hu,hw2⟩
theorem step_fin {g g1:Goroutine}{w:World}(hrun:g.status=.running)(hne:g≠g1){R:World→Prop}(hR:∀w τ d,R w→R (on w τ d))(h:∀τ d,∃w1,St1 Z P g (on w τ d) g1 w1∧R w1):Fin Z P (fun x=>x=g1) (fun _ w=>R w) g w :=
 .step hne hrun (fun τ d=>⟨g1,(h τ d).choose,(h τ d).choose_spec.1⟩) fun τ d g2 w2 hs=>by
  obtain⟨w1,h1,h2⟩:=h τ d
  obtain⟨rfl,rfl⟩:=h1.det hs
  exact .stop w2.tape w2.drawn rfl h2
theorem finish_ne (f:FuncId)(t:Array Value)(k:List Item)(c:Frame)(cs:List Frame)(u:Value):Gr (Fm f t k .returning) (c :: cs)≠Gr (c.finish u) cs:=fun e=>by
 have:=congrArg (fun g:Goroutine=>g.callers.length) e
 simp at this
theorem tail_cut (H:LOk Z P L)(hT:TextsT L P)(hsh:∀b l,LocIn b l→Shun l→Z.g b){R:Value→World→Prop}(hR:∀u v τ d,R u v→R u (on v τ d)){v w:World}(hw:Wr Z v w){f:FuncId}(hf:∃fn,P.funcs[f]?=some fn){t:Array Value}(ht:SlT L f t){k G K:List Item}(hk:todoT L P f k)(tl:Tl L P f [] G K)
  (hC:∀τ d,∃fr v' u,Steps P (lone (Fm f t (k++G) .run) [stopper] (on v τ d)) (lone fr [stopper] v')∧fr.leaving P v' (.returned u)∧R u v')
  {gs:Array Goroutine} {sl:Option (Nat × Nat)} {tr:Trace} {q:Nat→Nat} {c:Frame} {cs:List Frame} (h0:gs[0]?=some (Gr (Fm f t (k++K) .run) (c :: cs))) (hL:Leavers P tr gs q) (hP:Past Shun w.heap.size tr) :
  ∃N gs' w' sl' tr' q' u v',runNT P N (crowd gs w sl) tr=(.next (crowd gs' w' sl'),tr')∧gs'.size=gs.size∧gs'[0]?=some (Gr (c.finish u) cs)∧R u v'∧Wr Z v' w'∧Leavers P tr' gs' q'∧Past Shun w'.heap.size tr'∧w.heap.size≤w'.heap.size∧∀b,Z b→w'.heap[b]?=w.heap[b]?:=by
 obtain⟨N,gs1,g1,w1,sl1,tr1,q1,e1,e2,e3,_,⟨f2,t2,k2,fn,u,v1,_,rfl,hfn,hres,hu,hw1⟩,e5,e6,e7,e8⟩:=fin_beside hsh (fun g w τ d h=>h.on hR τ d) (tail_fin (fun _=>True) H hT hR hw hf ht hk tl (fun τ d=>let ⟨fr,v',u,a,b⟩:=hC τ d;⟨fr,v',u,trivial,a,b⟩) (c :: cs)) _ gs w.tape w.drawn sl tr q (Nat.le_refl _) h0 hL hP
 have hF:Fin Z P (fun x=>x=Gr (c.finish u) cs) (fun _ w=>∃v,R u v∧Wr Z v w) (Gr (Fm f2 t2 k2 .returning) (c :: cs)) w1:=by
  refine step_fin rfl (finish_ne _ _ _ _ _ _) (fun w τ d ⟨v,a,b⟩=>⟨on v τ d,hR _ _ _ _ a,b.on τ d⟩) fun τ d=>?_
  have hr:(results fn t2).runT P (on v1 τ d) #[]=(.ok u (on v1 τ d),(results fn t2).events P (on v1 τ d) #[]):=Prod.ext (by rw[Sem.runT_fst];exact results_on hw1.nop hres τ d) rfl
  obtain⟨u',w2,e,hall⟩:=ret_step (hw1.on τ d) hfn (results_step (main:=true) (k:=k2) (c:=c) (cs:=cs) hfn hr)
  injection e with e9 _
  have hst:=(hall true k2 c cs).st1
  rw[←e9] at hst
  exact⟨w2,hst.1,on v1 τ d,hR _ _ _ _ hu,hst.2⟩
 obtain⟨N2,gs2,g2,w2,sl2,tr2,q2,a1,a2,a3,rfl,⟨v2,a5,a6⟩,a7,a8,a9,a10⟩:=fin_beside hsh (fun g w τ d ⟨v,a,b⟩=>⟨on v τ d,hR _ _ _ _ a,b.on τ d⟩) hF _ gs1 w1.tape w1.drawn sl1 tr1 q1 (Nat.le_refl _) e3 e5 e6
 have e1':runNT P N (crowd gs w sl) tr=(.next (crowd gs1 w1 sl1),tr1):=e1
 have a1':runNT P N2 (crowd gs1 w1 sl1) tr1=(.next (crowd gs2 w2 sl2),tr2):=a1
 exact⟨N+N2,gs2,w2,sl2,tr2,q2,u,v2,by rw[runNT_add,e1'];exact a1',a2.trans e2,a3,a5,a6,a7,a8,Nat.le_trans e7 a9,fun b hb=>(a10 b hb).trans (e8 b hb)⟩
theorem tail_beside (H:LOk Z P L)(hT:TextsT L P)(hsh:∀b l,LocIn b l→Shun l→Z.g b){R:Value→World→Prop}(hR:∀u v τ d,R u v→R u (on v τ d)){v w:World}(hw:Wr Z v w){f:FuncId}(hf:∃fn,P.funcs[f]?=some fn){t:Array Value}(ht:SlT L f t){k:List Item}(hk:todoT L P f k)
  (hC:∀τ d,∃fr v' u,Steps P (lone (Fm f t k .run) [stopper] (on v τ d)) (lone fr [stopper] v')∧fr.leaving P v' (.returned u)∧R u v')
  {gs:Array Goroutine} {sl:Option (Nat × Nat)} {tr:Trace} {q:Nat→Nat} {c:Frame} {cs:List Frame} (h0:gs[0]?=some (Gr (Fm f t k .run) (c :: cs))) (hL:Leavers P tr gs q) (hP:Past Shun w.heap.size tr) :
  ∃N gs' w' sl' tr' q' u v',runNT P N (crowd gs w sl) tr=(.next (crowd gs' w' sl'),tr')∧gs'.size=gs.size∧gs'[0]?=some (Gr (c.finish u) cs)∧R u v'∧Wr Z v' w'∧Leavers P tr' gs' q'∧Past Shun w'.heap.size tr'∧w.heap.size≤w'.heap.size∧∀b,Z b→w'.heap[b]?=w.heap[b]?:=by
 have:=tail_cut (G:=[]) (K:=[]) H hT hsh hR hw hf ht hk .plain (by rw[List.append_nil];exact hC) (sl:=sl) (by rw[List.append_nil];exact h0) hL hP
 exact this
theorem call_beside (H:LOk Z P L)(hT:TextsT L P)(hsh:∀b l,LocIn b l→Shun l→Z.g b){R:Value→World→Prop}(hR:∀u v τ d,R u v→R u (on v τ d)){v w:World}(hw:Wr Z v w){f:FuncId}(hf:L.T f=true){args:Array Value}(ha:∀s∈L.fs f,args.size≤s)
  (hC:∀τ d,Calls P f args (on v τ d) fun e v'=>∃u,e=.returned u∧R u v')
  {gs:Array Goroutine} {sl:Option (Nat × Nat)} {tr:Trace} {q:Nat→Nat} {c:Frame} {cs:List Frame} (h0:gs[0]?=some (Gr (Frame.enter P f args .normal) (c :: cs))) (hL:Leavers P tr gs q) (hP:Past Shun w.heap.size tr) :
  ∃N gs' w' sl' tr' q' u v',runNT P N (crowd gs w sl) tr=(.next (crowd gs' w' sl'),tr')∧gs'.size=gs.size∧gs'[0]?=some (Gr (c.finish u) cs)∧R u v'∧Wr Z v' w'∧Leavers P tr' gs' q'∧Past Shun w'.heap.size tr'∧w.heap.size≤w'.heap.size∧∀b,Z b→w'.heap[b]?=w.heap[b]?:=by
 obtain⟨fn,cd,h1,h2,h3⟩:=hT f hf
 have en:Frame.enter P f args .normal=Fm f (args++Array.replicate (fn.ntmps - args.size) undef) [.code cd] .run:=by
  unfold Frame.enter
  simp[h1,h2]
 rw[en] at h0
 refine tail_beside H hT hsh hR hw ⟨fn,h1⟩ (slT_enter ha _) (todoT.cons (x:=.code cd) h3 todoT.nil) (fun τ d=>?_) h0 hL hP
 obtain⟨e,v',fr,⟨u,rfl,hu⟩,hs,_,hl⟩:=hC τ d [stopper]
 rw[en] at hs
 exact⟨fr,v',u,hs,hl,hu⟩
theorem piece_beside (H:LOk Z P L)(hT:TextsT L P)(hsh:∀b l,LocIn b l→Shun l→Z.g b){R:FuncId→Array Value→World→Prop}(hR:∀f t v τ d,R f t v→R f t (on v τ d)){v w:World}(hw:Wr Z v w){f:FuncId}(hf:∃fn,P.funcs[f]?=some fn){t:Array Value}(ht:SlT L f t){k G K T:List Item}(hk:todoT L P f k)(tl:Tl L P f T G K)
  (hC:∀τ d,∃f1 t1 v',Steps P (lone (Fm f t (k++G) .run) [stopper] (on v τ d)) (lone (Fm f1 t1 [] .run) [stopper] v')∧R f1 t1 v')
  {gs:Array Goroutine} {sl:Option (Nat × Nat)} {tr:Trace} {q:Nat→Nat} {base:List Frame} (h0:gs[0]?=some (Gr (Fm f t (k++K) .run) base)) (hL:Leavers P tr gs q) (hP:Past Shun w.heap.size tr) :
  ∃N gs' w' sl' tr' q' f1 t1 v',runNT P N (crowd gs w sl) tr=(.next (crowd gs' w' sl'),tr')∧gs'.size=gs.size∧gs'[0]?=some (Gr (Fm f1 t1 T .run) base)∧R f1 t1 v'∧Wr Z v' w'∧Leavers P tr' gs' q'∧Past Shun w'.heap.size tr'∧w.heap.size≤w'.heap.size∧∀b,Z b→w'.heap[b]?=w.heap[b]?:=by
 have hF:Fin Z P (EndR true T base) (fun g w=>∃f1 t1 v',g=Gr (Fm f1 t1 T .run) base∧R f1 t1 v'∧Wr Z v' w) (Gr (Fm f t (k++K) .run) base) w:=by
  refine fin_of (fun g w τ d ⟨f1,t1,v',a,b,c⟩=>⟨f1,t1,on v' τ d,a,hR _ _ _ _ _ b,c.on τ d⟩) fun τ d=>?_
  obtain⟨f1,t1,v',⟨n,hn⟩,hu⟩:=hC τ d
  obtain⟨n',g2,w2,hc,hw2,hg2⟩:=chn_of (pc:=true) (T:=T) (base:=base) H hT (fun h=>by cases h) (fr2:=Fm f1 t1 [] .run) (v2:=v') ⟨rfl,rfl⟩ n (Fm f t (k++G) .run) [stopper] (on v τ d) (on w τ d) (Gr (Fm f t (k++K) .run) base) (hw.on τ d) (.bot hf ht hk (.inl rfl) tl) hn
  obtain⟨f2,t2,e,rfl⟩:=(show ∃f t,Fm f1 t1 [] .run=Fm f t [] .run∧g2=Gr (Fm f t T .run) base from hg2)
  injection e with e1 e2
  subst e1 e2
  exact⟨n',_,w2,hc,⟨rfl,.inr ⟨rfl,rfl⟩⟩,f1,t1,v',rfl,hu,hw2⟩
 obtain⟨N2,gs2,g2,w2,sl2,tr2,q2,a1,a2,a3,_,⟨f1,t1,v2,rfl,a5,a6⟩,a7,a8,a9,a10⟩:=fin_beside hsh (fun g w τ d ⟨f1,t1,v',a,b,c⟩=>⟨f1,t1,on v' τ d,a,hR _ _ _ _ _ b,c.on τ d⟩) hF _ gs w.tape w.drawn sl tr q (Nat.le_refl _) h0 hL hP
 exact⟨N2,gs2,w2,sl2,tr2,q2,f1,t1,v2,a1,a2,a3,a5,a6,a7,a8,a9,a10⟩
theorem Wr.unique {v w w1:World}(h:Wr Z v w)(k:Wr Z v w1)(hk:∀b,Z b→w1.heap[b]?=w.heap[b]?):w1=w:=by
 have hh:w1.heap=w.heap:=by
  apply Array.ext_getElem?
  intro b
  by_cases hz:Z b
  ·exact hk b hz
  ·rw[←k.off b hz,h.off b hz]
 have h1:=h.tape.symm.trans k.tape
 have h2:=h.drawn.symm.trans k.drawn
 have h3:=h.os.symm.trans k.os
 have h4:=h.out.symm.trans k.out
 obtain⟨a1,a2,a3,a4,a5⟩:=w
 obtain⟨b1,b2,b3,b4,b5⟩:=w1
 simp only at hh h1 h2 h3 h4
 subst hh h1 h2 h3 h4
 rfl
theorem results_there {v w:World}(hw:Wr Z v w){fn:Func}{t:Array Value}{u:Value}(h:(results fn t).run P v=.ok u v):∃new,(results fn t).runT P w #[]=(.ok u w,new)∧∀e∈new,EvO Z w.heap.size e:=by
 have hr:(results fn t).runT P v #[]=(.ok u v,(results fn t).events P v #[]):=Prod.ext (by rw[Sem.runT_fst];exact h) rfl
 obtain⟨_,h1⟩:=(ye_results (Z:=Z) (P:=P) fn t v w hw #[]).1 u v _ hr
 obtain⟨w1,new,e,ha⟩:=h1 #[]
 obtain rfl:=hw.unique ha.wr ha.keep
 rw[Array.empty_append] at e
 exact⟨new,e,ha.ev⟩
theorem end_cut (H:LOk Z P L)(hT:TextsT L P)(hsh:∀b l,LocIn b l→Shun l→Z.g b){R:Value→World→Prop}(hR:∀u v τ d,R u v→R u (on v τ d)){v w:World}(hw:Wr Z v w){f:FuncId}(hf:∃fn,P.funcs[f]?=some fn)(hi:P.inits.idxOf? f=none){t:Array Value}(ht:SlT L f t){k G K:List Item}(hk:todoT L P f k)(tl:Tl L P f [] G K)
  (hC:∀τ d,∃fr v' u,fr.fn=f∧Steps P (lone (Fm f t (k++G) .run) [stopper] (on v τ d)) (lone fr [stopper] v')∧fr.leaving P v' (.returned u)∧R u v')
  {gs:Array Goroutine} {sl:Option (Nat × Nat)} {tr:Trace} {q:Nat→Nat} (h0:gs[0]?=some (Gr (Fm f t (k++K) .run) [])) (hL:Leavers P tr gs q) (hP:Past Shun w.heap.size tr) :
  ∃N last o w' tr',runNT P (N+1) (crowd gs w sl) tr=(.ended o w',tr')∧runN P N (crowd gs w sl)=.next last∧step P last=.ended o w'∧Good P (fun u w'=>(∃v',R u v'∧Wr Z v' w')∧∀b,Z b→w'.heap[b]?=w.heap[b]?) last o w' tr':=by
 obtain⟨N,gs1,g1,w1,sl1,tr1,q1,e1,e2,e3,_,⟨f2,t2,k2,fn,u,v1,rfl,rfl,hfn,hres,hu,hw1⟩,e5,e6,e7,e8⟩:=fin_beside hsh (fun g w τ d h=>h.on hR τ d) (tail_fin (·=f) H hT hR hw hf ht hk tl hC []) _ gs w.tape w.drawn sl tr q (Nat.le_refl _) h0 hL hP
 have e1':runNT P N (crowd gs w sl) tr=(.next (crowd gs1 w1 sl1),tr1):=e1
 obtain⟨M,last,o,w',tr',b1,b2,b3,b4⟩:=beside_ends (P:=P) (Shun:=Shun) (B:=w1.heap.size) (D:=fun _ _ es=>∀e∈es,EvL Shun w1.heap.size e) (Post:=fun u w'=>(∃v',R u v'∧Wr Z v' w')∧∀b,Z b→w'.heap[b]?=w.heap[b]?) (fun _ _ _ h=>h) (sl:=sl1) (n:=0) e3 e5 e6 (by
  rintro w₁ ⟨d,rfl⟩
  obtain⟨new,hr,hev⟩:=results_there (hw1.on w1.tape d) (results_on hw1.nop hres w1.tape d)
  have hr1:(results fn t2).runT P (w1.at d) #[]=(.ok u (w1.at d),new):=hr
  have h2:(results fn t2).run P (w1.at d)=.ok u (w1.at d):=by rw[←Sem.runT_fst P _ _ #[],hr1]
  have h3:(results fn t2).events P (w1.at d) #[]=new:=by unfold Sem.events;rw[hr1]
  refine⟨rfl,u,seen P f2 new,?_,fun e he=>evl_of hsh (hev e (Go.Conc.mem_seen he)),⟨_,hR _ _ _ _ hu,hw1.on w1.tape d⟩,e8⟩
  simp[stepG,unwind,doReturn,hfn,h2,h3,GStep.after,hi])
 refine⟨N+M,last,o,w',tr',?_,?_,b3,b4⟩
 ·rw[Nat.add_assoc,runNT_add,e1']
  exact b1
 ·have h1:runN P N (crowd gs w sl)=.next (crowd gs1 w1 sl1):=by rw[←runNT_fst _ _ _ tr,e1']
  rw[runN_add,h1]
  exact b2
end
end Go.Proofs.YtjeicikflkjacaaGreatDoor.Po
