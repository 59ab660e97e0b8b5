/- Goroutine 0 beside leavers, by what it sees of memory. -/
import Derived.Test.YtjeicikflkjacaaGreatDoorM43
set_option linter.unusedSimpArgs false
set_option linter.unusedVariables false
namespace Go.Proofs.YtjeicikflkjacaaGreatDoor.Sh
open Go Go.Conc Go.Conc.Lib Go.RowKit Go.ConcN
open Ms Po
open Par (Fm Gr on stopper LocIn to_beside step_beside)
theorem world_eq {v u:World}(h0:v.heap=u.heap)(h1:v.tape=u.tape)(h2:v.drawn=u.drawn)(h3:v.os=u.os)(h4:v.output=u.output):v=u:=by
 obtain⟨a1,a2,a3,a4,a5⟩:=v
 obtain⟨b1,b2,b3,b4,b5⟩:=u
 simp only at h0 h1 h2 h3 h4
 subst h0 h1 h2 h3 h4
 rfl
section
variable {Zg Zg':Nat→Prop} {w w':World}
theorem z_kept {w0 v:World}(h:Wr (zsOf Zg w0) v w)(hk:∀b,(zsOf Zg w0).z b→w.heap[b]?=w0.heap[b]?)(b:Nat):(zsOf Zg w).z b↔(zsOf Zg w0).z b:=by
 constructor
 ·rintro (hz|⟨c,e,hz⟩)
  ·exact .inl hz
  ·refine Classical.byContradiction fun hn=>h.nop b c e ?_
   rw[h.off b hn]
   exact hz
 ·intro hz
  rcases hz with hz1|⟨c,e,hz1⟩
  ·exact .inl hz1
  ·exact .inr ⟨c,e,by rw[hk b (.inr ⟨c,e,hz1⟩)];exact hz1⟩
theorem wr_veil {w0 v:World}(h:Wr (zsOf Zg w0) v w)(hk:∀b,(zsOf Zg w0).z b→w.heap[b]?=w0.heap[b]?):v=veil Zg w:=by
 refine world_eq (Array.ext_getElem? fun b=>?_) h.tape h.drawn h.os h.out
 rw[veil_get]
 by_cases hz:(zsOf Zg w0).z b
 ·rw[h.here b hz]
  have hz':=(z_kept h hk b).2 hz
  have:∃o,w.heap[b]?=some o:=by
   obtain⟨c,e,ho|⟨_,ho⟩⟩:=h.there b hz<;>exact⟨_,ho⟩
  obtain⟨o,ho⟩:=this
  rw[ho]
  simp[hz']
 ·rw[h.off b hz]
  have hz':¬(zsOf Zg w).z b:=fun q=>hz ((z_kept h hk b).1 q)
  cases ho:w.heap[b]? with
  | none=>rfl
  | some o=>simp[hz']
structure Keep (Zg:Nat→Prop)(w:World)(Zg':Nat→Prop)(w':World):Prop where
 size:w.heap.size≤w'.heap.size
 z:∀b,b<w.heap.size→((zsOf Zg' w').z b↔(zsOf Zg w).z b)
 win:∀b,(zsOf Zg w).z b→w'.heap[b]?=w.heap[b]?
theorem Keep.refl (Zg:Nat→Prop)(w:World):Keep Zg w Zg w:=⟨Nat.le_refl _,fun _ _=>Iff.rfl,fun _ _=>rfl⟩
theorem Mid.zlt {gs:Array Goroutine}{t:Trace}{q:Nat→Nat}(M:Mid Zg gs w t q){b:Nat}(h:(zsOf Zg w).z b):b<w.heap.size:=by
 rcases h with h|⟨c,e,h⟩
 ·exact M.lt h
 ·exact (Array.getElem?_eq_some_iff.1 h).1
theorem Keep.trans {gs:Array Goroutine}{t:Trace}{q:Nat→Nat}(M:Mid Zg gs w t q){Zg2:Nat→Prop}{w2:World}(h:Keep Zg w Zg' w')(k:Keep Zg' w' Zg2 w2):Keep Zg w Zg2 w2 :=
 ⟨Nat.le_trans h.size k.size,fun b hb=>(k.z b (Nat.lt_of_lt_of_le hb h.size)).trans (h.z b hb),fun b hb=>(k.win b ((h.z b (M.zlt hb)).2 hb)).trans (h.win b hb)⟩
theorem keep_wr {v:World}(h:Wr (zsOf Zg w) v w')(hk:∀b,(zsOf Zg w).z b→w'.heap[b]?=w.heap[b]?)(hs:w.heap.size≤w'.heap.size):Keep Zg w Zg w':=⟨hs,fun b _=>z_kept h hk b,hk⟩
structure Bel (B:Nat)(v v':World):Prop where
 os:v'.os=v.os
 output:v'.output=v.output
 size:v.heap.size≤v'.heap.size
 block:∀k,k<B→v'.heap[k]?=v.heap[k]?
theorem Bel.trans {B C:Nat}{a b c:World}(h:Bel B a b)(k:Bel C b c)(hBC:B≤C):Bel B a c:=⟨k.os.trans h.os,k.output.trans h.output,Nat.le_trans h.size k.size,fun i hi=>(k.block i (by omega)).trans (h.block i hi)⟩
theorem Bel.of {B:Nat}{a b:World}(h:Below B a b):Bel B a b:=⟨h.os,h.output,h.size,h.block⟩
theorem Bel.ofOn {B:Nat}{a b:World}{τ:Nat→Question→Nat}{d:Nat}(h:Below B (on a τ d) b):Bel B a b:=⟨h.os,h.output,h.size,h.block⟩
def SeenIn (v w:World):Prop:=∀(b:Nat) (x:Array Value) (e:TypeId) (f:Nat × Nat),v.heap[b]?=some (.cells x e f)→w.heap[b]?=some (.cells x e f)
theorem veil_seen:SeenIn (veil Zg w) w:=fun b x e f h=>by
 rw[veil_get] at h
 cases ho:w.heap[b]? with
 | none=>rw[ho] at h;cases h
 | some o =>
  rw[ho] at h
  simp only[Option.map_some,Option.some.injEq] at h
  split at h
  ·cases h
  ·rw[h]
theorem veil_not {b:Nat}{x:Array Value}{e:TypeId}{f:Nat × Nat}(h:(veil Zg w).heap[b]?=some (.cells x e f)):b<w.heap.size∧¬(zsOf Zg w).z b:=by
 refine⟨(Array.getElem?_eq_some_iff.1 (veil_seen b x e f h)).1,fun hz=>?_⟩
 rw[veil_get] at h
 cases ho:w.heap[b]? with
 | none=>rw[ho] at h;cases h
 | some o =>
  rw[ho] at h
  simp[hz,window] at h
theorem SeenIn.cell {v w:World}(h:SeenIn v w){b i:Nat}{u:Value}(hu:v.cell? ⟨b,i,none⟩=some u):w.cell? ⟨b,i,none⟩=some u:=by
 obtain⟨x,e,f,q1,q2⟩:=cell_row hu
 simp only[World.cell?,h b x e f q1]
 exact q2
def EvSeen (v:World)(e:Event):Prop:=∃a x t f,e=⟨.cell a,false,false⟩∧v.heap[a.block]?=some (.cells x t f)
def Rch (g:Goroutine)(v:World)(Q:Goroutine→World→Prop):Prop :=
 ∀(Zg:Nat→Prop) (gs:Array Goroutine) (w:World) (sl:Option (Nat × Nat)) (t:Trace) (q:Nat→Nat) (τ:Nat→Question→Nat) (d:Nat),Mid Zg gs w t q→gs[0]?=some g→veil Zg w=on v τ d →
  ∃(n:Nat) (gs':Array Goroutine) (w':World) (sl':Option (Nat × Nat)) (t':Trace) (q':Nat→Nat) (Zg':Nat→Prop) (g':Goroutine) (v':World) (τ':Nat→Question→Nat) (d':Nat),
   runNT PP n (crowd gs w sl) t=(.next (crowd gs' w' sl'),t')∧Mid Zg' gs' w' t' q'∧gs'[0]?=some g'∧Keep Zg w Zg' w'∧veil Zg' w'=on v' τ' d'∧Q g' v'
def Ends (g:Goroutine)(v:World)(R:Value→World→Prop):Prop :=
 ∀(Zg:Nat→Prop) (gs:Array Goroutine) (w:World) (sl:Option (Nat × Nat)) (t:Trace) (q:Nat→Nat) (τ:Nat→Question→Nat) (d:Nat),Mid Zg gs w t q→gs[0]?=some g→veil Zg w=on v τ d →
  ∃(N:Nat) (last:Machine) (o:Outcome) (w':World) (t':Trace),runNT PP (N+1) (crowd gs w sl) t=(.ended o w',t')∧runN PP N (crowd gs w sl)=.next last∧step PP last=.ended o w' ∧
   Go.Conc.Good PP (fun u w'=>∃(Zg':Nat→Prop) (v':World) (τ':Nat→Question→Nat) (d':Nat),Keep Zg w Zg' w'∧veil Zg' w'=on v' τ' d'∧R u v') last o w' t'
variable {g:Goroutine} {v:World} {Q Q':Goroutine→World→Prop} {R:Value→World→Prop}
theorem Rch.nil (h:Q g v):Rch g v Q:=fun Zg gs w sl t q τ d M h0 hv=>⟨0,gs,w,sl,t,q,Zg,g,v,τ,d,rfl,M,h0,.refl _ _,hv,h⟩
theorem Rch.bind (h:Rch g v Q)(k:∀g' v',Q g' v'→Rch g' v' Q'):Rch g v Q':=fun Zg gs w sl t q τ d M h0 hv=>by
 obtain⟨n1,gs1,w1,sl1,t1,q1,Z1,g1,v1,τ1,d1,e1,M1,a1,k1,hv1,hq1⟩:=h Zg gs w sl t q τ d M h0 hv
 obtain⟨n2,gs2,w2,sl2,t2,q2,Z2,g2,v2,τ2,d2,e2,M2,a2,k2,hv2,hq2⟩:=k g1 v1 hq1 Z1 gs1 w1 sl1 t1 q1 τ1 d1 M1 a1 hv1
 exact⟨n1+n2,gs2,w2,sl2,t2,q2,Z2,g2,v2,τ2,d2,by rw[runNT_add,e1];exact e2,M2,a2,k1.trans M k2,hv2,hq2⟩
theorem Rch.ends (h:Rch g v Q)(k:∀g' v',Q g' v'→Ends g' v' R):Ends g v R:=fun Zg gs w sl t q τ d M h0 hv=>by
 obtain⟨n1,gs1,w1,sl1,t1,q1,Z1,g1,v1,τ1,d1,e1,M1,a1,k1,hv1,hq1⟩:=h Zg gs w sl t q τ d M h0 hv
 obtain⟨N,last,o,w',t',e2,e3,e4,hG⟩:=k g1 v1 hq1 Z1 gs1 w1 sl1 t1 q1 τ1 d1 M1 a1 hv1
 refine⟨n1+N,last,o,w',t',by rw[Nat.add_assoc,runNT_add,e1];exact e2,?_,e4,?_⟩
 ·have h1:runN PP n1 (crowd gs w sl)=.next (crowd gs1 w1 sl1):=by rw[←runNT_fst _ _ _ t,e1]
  rw[runN_add,h1]
  exact e3
 ·obtain⟨u,ho,⟨Z2,v2,τ2,d2,k2,hv2,hr⟩,rest⟩:=hG
  exact⟨u,ho,⟨Z2,v2,τ2,d2,k1.trans M k2,hv2,hr⟩,rest⟩
theorem Rch.mono (h:Rch g v Q)(k:∀g' v',Q g' v'→Q' g' v'):Rch g v Q':=h.bind fun g' v' hq=>.nil (k g' v' hq)
theorem Rch.to {T:Goroutine→Prop}(h:To PP true (SeenIn v) (EvSeen v) T g):Rch g v (fun g' v'=>T g'∧v'=v):=fun Zg gs w sl t q τ d M h0 hv=>by
 have hs:∀d',SeenIn v (w.at d'):=fun d' b x e f h=>by
  have:(veil Zg w).heap[b]?=some (.cells x e f):=by rw[hv];exact h
  exact veil_seen b x e f this
 obtain⟨n1,gs1,g1,d1,sl1,t1,q1,e1,s1,a1,hT,L1,P1⟩:=to_beside (P:=PP) (Shun:=ZL Zg) (B:=w.heap.size) (Bw:=SeenIn v) (Ev:=EvSeen v) (fun e he=>by
  obtain⟨a,x,ty,f,rfl,ha⟩:=he
  have:(veil Zg w).heap[a.block]?=some (.cells x ty f):=by rw[hv];exact ha
  obtain⟨h1,h2⟩:=veil_not this
  exact evl_of (Z:=zsOf Zg w) (fun b l=>zl_g b l) (.cell a false false (fun hg=>h2 (.inl hg)) h1)) (w0:=w) hs h (sl:=sl) (d:=w.drawn) h0 M.leave M.past
 exact⟨n1,gs1,w.at d1,sl1,t1,q1,Zg,g1,v,τ,d1,e1,⟨L1,P1,M.grp⟩,a1,⟨Nat.le_refl _,fun _ _=>Iff.rfl,fun _ _=>rfl⟩,congrArg (fun x:World=>x.at d1) hv,hT,rfl⟩
theorem veil_alloc (hl:∀b,Zg b→b<w.heap.size){c:Array Value}{e:TypeId}{f:Nat × Nat}:veil Zg (w.alloc (.cells c e f))=(veil Zg w).alloc (.cells c e f):=by
 refine world_eq (Array.ext_getElem? fun b=>?_) rfl rfl rfl rfl
 have h1:(w.alloc (.cells c e f)).heap=w.heap.push (.cells c e f):=rfl
 have h2:((veil Zg w).alloc (.cells c e f)).heap=(veil Zg w).heap.push (.cells c e f):=rfl
 rw[veil_get,h1,h2,Array.getElem?_push,Array.getElem?_push,veil_size,veil_get]
 by_cases hb:b=w.heap.size
 ·subst hb
  rw[if_pos rfl,if_pos rfl]
  have:¬(zsOf Zg (w.alloc (.cells c e f))).z w.heap.size:=by
   rintro (h|⟨c',e',h⟩)
   ·exact absurd (hl _ h) (Nat.lt_irrefl _)
   ·rw[h1,Array.getElem?_push,if_pos rfl] at h
    cases h
  simp[this]
 ·rw[if_neg hb,if_neg hb]
  have:(zsOf Zg (w.alloc (.cells c e f))).z b↔(zsOf Zg w).z b:=by
   show (Zg b∨∃c' e',(w.heap.push (.cells c e f))[b]?=some (.pending c' e'))↔_
   rw[Array.getElem?_push,if_neg hb]
   exact Iff.rfl
  by_cases hz:(zsOf Zg w).z b
  ·have hn:=this.2 hz
   cases w.heap[b]? with
   | none=>rfl
   | some o=>simp[hz,hn]
  ·have hn:¬(zsOf Zg (w.alloc (.cells c e f))).z b:=fun q=>hz (this.1 q)
   cases w.heap[b]? with
   | none=>rfl
   | some o=>simp[hz,hn]
theorem Rch.alloc {c:Array Value}{e:TypeId}(g1:Nat→Goroutine)(hs:g.status=.running)(h:∀w:World,stepG PP true g w=.go (g1 w.heap.size) (w.alloc (.cells c e)) #[]):Rch g v (fun g' v'=>g'=g1 v.heap.size∧v'=v.alloc (.cells c e)):=fun Zg gs w sl t q τ d M h0 hv=>by
 have hz:w.heap.size=v.heap.size:=by
  have:=congrArg (fun x:World=>x.heap.size) hv
  simpa [veil_size] using this
 obtain⟨n3,gs3,d3,sl3,t3,q3,e3,s3,a3,L3,P3⟩:=step_beside (P:=PP) (Shun:=ZL Zg) (B:=w.heap.size) (w:=w) (w1:=w.alloc (.cells c e)) (g1:=g1 w.heap.size) (g:=g) hs (fun d=>⟨d,#[],h (w.at d),fun e he=>by simp at he⟩) (sl:=sl) (d:=w.drawn) h0 M.leave M.past
 have hsz:(w.alloc (.cells c e)).heap.size=w.heap.size+1:=by simp
 have old:∀b,b<w.heap.size→(w.alloc (.cells c e)).heap[b]?=w.heap[b]?:=fun b hb=>by
  show (w.heap.push (.cells c e))[b]?=_
  rw[Array.getElem?_push,if_neg (by omega)]
 refine⟨n3,gs3,(w.alloc (.cells c e)).at d3,sl3,t3,q3,Zg,_,_,τ,d3,e3,⟨L3,P3.mono (by show _≤(w.alloc (.cells c e)).heap.size;omega),fun b hb=>?_⟩,a3,⟨by show _≤(w.alloc (.cells c e)).heap.size;omega,fun b hb=>?_,fun b hb=>old b (M.zlt hb)⟩,?_,by rw[hz],rfl⟩
 ·show ∃c' e',(w.alloc (.cells c e)).heap[b]?=_
  rw[old b (M.lt hb)]
  exact M.grp b hb
 ·show (Zg b∨∃c' e',(w.alloc (.cells c e)).heap[b]?=some (.pending c' e'))↔_
  rw[old b hb]
  exact Iff.rfl
 ·have h1:veil Zg ((w.alloc (.cells c e)).at d3)=(veil Zg (w.alloc (.cells c e))).at d3:=rfl
  rw[h1,veil_alloc (fun b hb=>M.lt hb),hv]
  rfl
theorem Rch.tail {f:FuncId}(hf:∃fn,PP.funcs[f]?=some fn){t:Array Value}(ht:SlT lx f t){k G K:List Item}(hk:todoT lx PP f k)(tl:Tl lx PP f [] G K){c:Frame}{cs:List Frame}
  (hC:∀τ d,∃fr v' u,Steps PP (lone (Fm f t (k++G) .run) [stopper] (on v τ d)) (lone fr [stopper] v')∧fr.leaving PP v' (.returned u)∧R u v'):Rch (Gr (Fm f t (k++K) .run) (c :: cs)) v (fun g' v'=>∃u,g'=Gr (c.finish u) cs∧R u v'):=fun Zg gs w sl tr q τ d M h0 hv=>by
 obtain⟨N,gs',w',sl',tr',q',u,v',e1,s1,a1,⟨v0,τ0,d0,rfl,hr⟩,hw',L',P',z',k'⟩:=tail_cut (P:=PP) (L:=lx) (Z:=zsOf Zg w) (Shun:=ZL Zg) (lx_ok _) lx_texts (fun b l=>zl_g b l) (R:=fun u v'=>∃v0 τ0 d0,v'=on v0 τ0 d0∧R u v0) (fun u v τ d ⟨v0,τ0,d0,e,h⟩=>⟨v0,τ,d,by rw[e],h⟩) (veil_wr M.grp) hf ht hk tl
  (fun τ1 d1=>by
   have e:on (veil Zg w) τ1 d1=on v τ1 d1:=by rw[hv]
   rw[e]
   obtain⟨fr,v',u,h1,h2,h3⟩:=hC τ1 d1
   exact⟨fr,v',u,h1,h2,v',v'.tape,v'.drawn,rfl,h3⟩) (sl:=sl) h0 M.leave M.past
 exact⟨N,gs',w',sl',tr',q',Zg,_,v0,τ0,d0,e1,⟨L',P',fun b hb=>by rw[k' b (.inl hb)];exact M.grp b hb⟩,a1,keep_wr hw' k' z',(wr_veil hw' k').symm,u,rfl,hr⟩
theorem Rch.piece {f:FuncId}(hf:∃fn,PP.funcs[f]?=some fn){t:Array Value}(ht:SlT lx f t){k G K T:List Item}(hk:todoT lx PP f k)(tl:Tl lx PP f T G K){base:List Frame}{R:FuncId→Array Value→World→Prop}
  (hC:∀τ d,∃f1 t1 v',Steps PP (lone (Fm f t (k++G) .run) [stopper] (on v τ d)) (lone (Fm f1 t1 [] .run) [stopper] v')∧R f1 t1 v'):Rch (Gr (Fm f t (k++K) .run) base) v (fun g' v'=>∃f1 t1,g'=Gr (Fm f1 t1 T .run) base∧R f1 t1 v'):=fun Zg gs w sl tr q τ d M h0 hv=>by
 obtain⟨N,gs',w',sl',tr',q',f1,t1,v',e1,s1,a1,⟨v0,τ0,d0,rfl,hr⟩,hw',L',P',z',k'⟩:=piece_beside (P:=PP) (L:=lx) (Z:=zsOf Zg w) (Shun:=ZL Zg) (lx_ok _) lx_texts (fun b l=>zl_g b l) (R:=fun f1 t1 v'=>∃v0 τ0 d0,v'=on v0 τ0 d0∧R f1 t1 v0) (fun f1 t1 v τ d ⟨v0,τ0,d0,e,h⟩=>⟨v0,τ,d,by rw[e],h⟩) (veil_wr M.grp) hf ht hk tl
  (fun τ1 d1=>by
   have e:on (veil Zg w) τ1 d1=on v τ1 d1:=by rw[hv]
   rw[e]
   obtain⟨f1,t1,v',h1,h3⟩:=hC τ1 d1
   exact⟨f1,t1,v',h1,v',v'.tape,v'.drawn,rfl,h3⟩) (sl:=sl) h0 M.leave M.past
 exact⟨N,gs',w',sl',tr',q',Zg,_,v0,τ0,d0,e1,⟨L',P',fun b hb=>by rw[k' b (.inl hb)];exact M.grp b hb⟩,a1,keep_wr hw' k' z',(wr_veil hw' k').symm,f1,t1,rfl,hr⟩
theorem Rch.call {f:FuncId}(hf:lx.T f=true){args:Array Value}(ha:∀s∈lx.fs f,args.size≤s){c:Frame}{cs:List Frame}
  (hC:∀τ d,Calls PP f args (on v τ d) fun e v'=>∃u,e=.returned u∧R u v'):Rch (Gr (Frame.enter PP f args .normal) (c :: cs)) v (fun g' v'=>∃u,g'=Gr (c.finish u) cs∧R u v'):=fun Zg gs w sl tr q τ d M h0 hv=>by
 obtain⟨N,gs',w',sl',tr',q',u,v',e1,s1,a1,⟨v0,τ0,d0,rfl,hr⟩,hw',L',P',z',k'⟩:=call_beside (P:=PP) (L:=lx) (Z:=zsOf Zg w) (Shun:=ZL Zg) (lx_ok _) lx_texts (fun b l=>zl_g b l) (R:=fun u v'=>∃v0 τ0 d0,v'=on v0 τ0 d0∧R u v0) (fun u v τ d ⟨v0,τ0,d0,e,h⟩=>⟨v0,τ,d,by rw[e],h⟩) (veil_wr M.grp) hf ha
  (fun τ1 d1=>by
   have e:on (veil Zg w) τ1 d1=on v τ1 d1:=by rw[hv]
   rw[e]
   exact (hC τ1 d1).mono fun e v' ⟨u,h1,h3⟩=>⟨u,h1,v',v'.tape,v'.drawn,rfl,h3⟩) (sl:=sl) h0 M.leave M.past
 exact⟨N,gs',w',sl',tr',q',Zg,_,v0,τ0,d0,e1,⟨L',P',fun b hb=>by rw[k' b (.inl hb)];exact M.grp b hb⟩,a1,keep_wr hw' k' z',(wr_veil hw' k').symm,u,rfl,hr⟩
theorem Ends.rest {f:FuncId}(hf:∃fn,PP.funcs[f]?=some fn)(hi:PP.inits.idxOf? f=none){t:Array Value}(ht:SlT lx f t){k G K:List Item}(hk:todoT lx PP f k)(tl:Tl lx PP f [] G K)(hsz:∀u v',R u v'→v.heap.size≤v'.heap.size)
  (hC:∀τ d,∃fr v' u,fr.fn=f∧Steps PP (lone (Fm f t (k++G) .run) [stopper] (on v τ d)) (lone fr [stopper] v')∧fr.leaving PP v' (.returned u)∧R u v'):Ends (Gr (Fm f t (k++K) .run) []) v R:=fun Zg gs w sl tr q τ d M h0 hv=>by
 obtain⟨N,last,o,w',t',e1,e2,e3,hG⟩:=end_cut (P:=PP) (L:=lx) (Z:=zsOf Zg w) (Shun:=ZL Zg) (lx_ok _) lx_texts (fun b l=>zl_g b l) (R:=fun u v'=>∃v0 τ0 d0,v'=on v0 τ0 d0∧R u v0) (fun u v τ d ⟨v0,τ0,d0,e,h⟩=>⟨v0,τ,d,by rw[e],h⟩) (veil_wr M.grp) hf hi ht hk tl
  (fun τ1 d1=>by
   have e:on (veil Zg w) τ1 d1=on v τ1 d1:=by rw[hv]
   rw[e]
   obtain⟨fr,v',u,h0,h1,h2,h3⟩:=hC τ1 d1
   exact⟨fr,v',u,h0,h1,h2,v',v'.tape,v'.drawn,rfl,h3⟩) (sl:=sl) h0 M.leave M.past
 refine⟨N,last,o,w',t',e1,e2,e3,?_⟩
 obtain⟨u,ho,⟨⟨v',⟨v0,τ0,d0,rfl,hr⟩,hw'⟩,k'⟩,rest⟩:=hG
 refine⟨u,ho,⟨Zg,v0,τ0,d0,keep_wr hw' k' ?_,(wr_veil hw' k').symm,hr⟩,rest⟩
 have h1:=hsz u v0 hr
 have h2:v0.heap.size=w'.heap.size:=hw'.size
 have h3:=congrArg (fun x:World=>x.heap.size) hv
 simp only[veil_size] at h3
 have h4:w.heap.size=v.heap.size:=h3
 exact (by omega)
def AnsP (a:Nat→Addr)(N:Nat)(ks:Nat→Int)(cs:Nat→Nat)(B:Nat)(u:Value)(v:World):Prop :=
  ((∀i,i<N→cs i=0)∧∃x,u=.tuple #[x,.nilIface]∧v.ownsRow B 3 1 x N (((List.range N).map ks).map (Value.int .i64))) ∨
   (∃j,j<N∧(∀i,i<j→cs i=0)∧cs j≠0∧∃ev,u=.tuple #[.slice none 0 0,ev]∧ErrIs a v (cs j) (j:Nat) ev)
theorem owns_less {v:World}{B C:Nat}{e:TypeId}{s:Nat}{x:Value}{n:Nat}{l:List Value}(h:v.ownsRow B e s x n l)(hc:C≤B):v.ownsRow C e s x n l:=by
 obtain⟨hl,h|⟨g,cap,cur,q1,q2,q3⟩⟩:=h
 ·exact⟨hl,.inl h⟩
 ·exact⟨hl,.inr ⟨g,cap,cur,q1,Nat.le_trans hc q2,q3⟩⟩
theorem errs_seen {a:Nat→Addr}{v W:World}(h:Errs a v)(hs:SeenIn v W):Errs a W :=
 ⟨hs.cell h.handle,hs.cell h.s0,hs.cell h.s1,hs.cell h.s2,hs.cell h.s3,hs.cell h.s4,hs.cell h.s5,hs.cell h.s6,hs.cell h.s7,hs.cell h.s8,fun i hi=>let ⟨c,t,q⟩:=h.row i hi;⟨c,t,hs _ _ _ _ q⟩,h.ne⟩
theorem Rch.answers (N wk:Nat)(hN:N<1000000)(hk1:1≤wk)(hk2:wk<1000000)(fw:FuncId)(cap:Array Value){c:Frame}{cs:List Frame}
  (S:Nat→Prop) (Tk:Nat→Option Nat) (R:Nat→Value→World→Prop) (hS:∀b,S b→∃x e f,v.heap[b]?=some (.cells x e f))
  (tk:∀J:Job,J.k.fw=fw→J.k.cap=cap→J.N=N→J.S=S→J.Tk=Tk→J.R=R→SeenIn v J.w0→v.heap.size≤J.base→Geo J→Tasks J)
  (a:Nat→Addr) (he:Errs a v) (Gd:Nat→Int→Nat→Int→Prop)
  (hD:∀(J:Job) (own:Nat→Nat) (w' W:World),J.S=S→J.R=R→(∀b x e f,J.S b∨J.base≤b→w'.heap[b]?=some (.cells x e f)→W.heap[b]?=some (.cells x e f))→∀i k e,Dn J own w' i k e→∃c pl,Gd i k c pl∧ErrIs a W c pl e) :
  Rch (Gr (Frame.enter PP 19 #[.int .i64 (N:Nat),.int .i64 (wk:Nat),.func (.func fw) #[] cap] .normal) (c :: cs)) v (fun g' v'=>∃(u:Value) (ks:Nat→Int) (cs_:Nat→Nat) (pl:Nat→Int),g'=Gr (c.finish u) cs∧(∀i,i<N→Gd i (ks i) (cs_ i) (pl i))∧Bel v.heap.size v v'∧AnsP a N ks cs_ v.heap.size u v'):=fun Zg gs w sl tr q τ d M h0 hv=>by
 have hz:w.heap.size=v.heap.size:=by
  have:=congrArg (fun x:World=>x.heap.size) hv
  simpa [veil_size] using this
 have seen:∀(b:Nat) (x:Array Value) (e:TypeId) (f:Nat × Nat),v.heap[b]?=some (.cells x e f)→(veil Zg w).heap[b]?=some (.cells x e f):=fun b x e f h=>by rw[hv];exact h
 have unseen:∀(b:Nat) (x:Array Value) (e:TypeId) (f:Nat × Nat),b<w.heap.size→¬Zg b→w.heap[b]?=some (.cells x e f)→v.heap[b]?=some (.cells x e f):=fun b x e f hb hz h=>by
  have:(veil Zg w).heap[b]?=some (.cells x e f):=veil_row h hz
  rw[hv] at this
  exact this
 obtain⟨n,gs',w',sl',t',q',wg,u,w2,v',ks,cs_,pl,e1,M',a1,hg,hA,hw',hwg,hs2,old,kp,s3,os1,os2⟩:=answers_call (sl:=sl) M N wk hN hk1 hk2 fw cap h0 S Tk R (fun b hb=>by
  obtain⟨x,e,f,h⟩:=hS b hb
  obtain⟨h1,h2⟩:=veil_not (seen b x e f h)
  exact⟨h1,fun hg=>h2 (.inl hg)⟩) (fun J h1 h2 h3 h4 h5 h6 _ h8 h9 h10=>tk J h1 h2 h3 h4 h5 h6 (fun b x e f h=>by
   rw[h8 b (veil_not (seen b x e f h)).1]
   exact veil_seen b x e f (seen b x e f h)) (by omega) h10) a (fun W hW=>errs_seen he fun b x e f h=>by
   obtain⟨h1,h2⟩:=veil_not (seen b x e f h)
   exact hW b x e f h1 (fun hg=>h2 (.inl hg)) (veil_seen b x e f (seen b x e f h))) Gd hD
 have ev:=wr_veil hw' kp
 obtain⟨τ1,d1,τ2,d2,hb,hA⟩:=hA
 have hz2:∀b,b<w.heap.size→((zsOf (fun b=>Zg b∨b=wg) w2).z b↔(zsOf Zg w).z b):=fun b hb=>by
  show ((Zg b∨b=wg)∨∃c e,w2.heap[b]?=_)↔(Zg b∨∃c e,w.heap[b]?=_)
  rw[old b hb]
  have:b≠wg:=by omega
  simp[this]
 have hB:Bel v.heap.size v (on v' τ2 d2):=by
  have h1:v'.os=w'.os:=hw'.os
  have h2:v'.output=w'.output:=hw'.out
  have h3:v.os=w.os:=(congrArg (fun x:World=>x.os) hv).symm
  have h4:v.output=w.output:=(congrArg (fun x:World=>x.output) hv).symm
  refine⟨by show v'.os=_;rw[h1,os1,h3],by show v'.output=_;rw[h2,os2,h4],by show _≤v'.heap.size;rw[hw'.size];omega,fun b hb'=>?_⟩
  have h5:=hb.block b (by show b<(veil _ w2).heap.size;rw[veil_size];omega)
  refine h5.trans ?_
  show (veil (fun b=>Zg b∨b=wg) w2).heap[b]?=v.heap[b]?
  have h6:v.heap[b]?=(veil Zg w).heap[b]?:=by rw[hv]
  rw[h6,veil_get,veil_get,old b (by omega)]
  have hq:=hz2 b (by omega)
  by_cases hz:(zsOf Zg w).z b
  ·have hn:=hq.2 hz
   cases w.heap[b]? with
   | none=>rfl
   | some o=>simp[hz,hn]
  ·have hn:¬(zsOf (fun b=>Zg b∨b=wg) w2).z b:=fun q=>hz (hq.1 q)
   cases w.heap[b]? with
   | none=>rfl
   | some o=>simp[hz,hn]
 have hsz:v.heap.size≤(on (veil (fun b=>Zg b∨b=wg) w2) τ1 d1).heap.size:=by
  show _≤(veil (fun b=>Zg b∨b=wg) w2).heap.size
  rw[veil_size]
  omega
 refine⟨n,gs',w',sl',t',q',fun b=>Zg b∨b=wg,_,on v' τ2 d2,v'.tape,v'.drawn,e1,M',a1,⟨by omega,fun b hb=>(z_kept hw' kp b).trans (hz2 b hb),fun b hb=>?_⟩,ev.symm,u,ks,cs_,pl,rfl,hg,hB,?_⟩
 ·rw[kp b ((hz2 b (M.zlt hb)).2 hb),old b (M.zlt hb)]
 ·rcases hA with⟨h1,x,h2,h3⟩|h
  ·exact .inl ⟨h1,x,h2,owns_less h3 hsz⟩
  ·exact .inr h
end
end Go.Proofs.YtjeicikflkjacaaGreatDoor.Sh
