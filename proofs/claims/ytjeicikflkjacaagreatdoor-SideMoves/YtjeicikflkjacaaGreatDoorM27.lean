/- A caller and its workers: numbers are handed out, what came of them comes in: a step of a worker's; all is in. -/
import Derived.Test.YtjeicikflkjacaaGreatDoorM26
import Derived.Test.YtjeicikflkjacaaGreatDoorM6
import Derived.Test.YtjeicikflkjacaaGreatDoorM0
import Derived.Test.YtjeicikflkjacaaGreatDoorM3
import Derived.Maps.AppendAt
import Derived.Deep.RegionHeld3
set_option linter.unusedVariables false
namespace Go.Proofs.YtjeicikflkjacaaGreatDoor.Ms
open Go Go.Conc Go.Conc.Lib Go.ConcN
open Go.ConcR (KK wgBlock WgAt stA smA rd wr mk Payload Aside2 DC0 g_of_ofEvents ofEvent_cell ofEvent_mk)
open Par (Cx LocIn Bij VR WR AR OR idB shutW Work Fr EsR EvR LR)
open Mk (Still CaseOk ChanOpen go_still comm_any offers_at Acs Down meets_send meets_recv)
structure Tasks (J:Job):Prop where
 fn : ∃ fn, PP.funcs[J.k.fw]? = some fn ∧ (fn.name == "runtime.NumGoroutine") = false ∧ fn.body.isNone = false
 ok:Par.wkOk J.k.fw=true
 R:∀i u w τ d,J.R i u w→J.R i u (Par.on w τ d)
 S:∀b,J.S b→(∃x e f,J.w0.heap[b]?=some (.cells x e f))∧Par.Cl J.ok J.S J.Tk J.w0 b
 G:PP.globals.size≤J.base
 gl:∀x,Par.wkGl x=true→J.S x
 args:∀i,i<J.N→AR J.ok (idB J.S).r (#[.int .i64 (i:Nat)]++J.k.cap) (#[.int .i64 (i:Nat)]++J.k.cap)
 call:∀i,i<J.N→∀W,WF J false W→∀τ d,Calls PP J.k.fw (#[.int .i64 (i:Nat)]++J.k.cap) (Par.on (shutW J.Tk W) τ d) fun e w'=>∃u,e=.returned u∧J.R i u w'
 ret:∀i u v,J.R i u v→∃a e,u=.tuple #[.int .i64 a,e]∧(e=.nilIface∨∃t x,e=.iface t x)
section
variable {J:Job} {c0:Frame} {gs:Array Goroutine} {w w':World} {t:Trace} {q:Nat→Nat} {own own':Nat→Nat} {hold:Nat→Option Nat} {dn:Nat→Bool} {nx rc n0:Nat} {rk:Nat→Nat} {fW:Nat→Fu} {a:Goroutine}
theorem vr_pair {Ok:Cx}{β:Nat→Nat→Prop}{a:Int}{e u':Value}(h:VR Ok β (.tuple #[.int .i64 a,e]) u')(he:e=.nilIface∨∃t x,e=.iface t x):∃e',u'=.tuple #[.int .i64 a,e']∧(e'=.nilIface∨∃t x,e'=.iface t x):=by
 cases h with
 | @tuple _ y hx hxx =>
  have h2:y.size=2:=by simpa using hx.symm
  have g0:y[0]?=some y[0]:=Array.getElem?_eq_getElem (by omega)
  have g1:y[1]?=some y[1]:=Array.getElem?_eq_getElem (by omega)
  have v0:=hxx 0 (.int .i64 a) y[0] (by simp) g0
  have v1:=hxx 1 e y[1] (by simp) g1
  have e0:y[0]=.int .i64 a:=by generalize y[0]=z at v0;cases v0;rfl
  refine⟨y[1],?_,?_⟩
  ·congr 1
   apply Array.ext
   ·simp[h2]
   ·intro i h1 h2'
    have:i=0∨i=1:=by omega
    rcases this with rfl|rfl
    ·simpa using e0
    ·simp
  ·generalize y[1]=z at v1
   rcases he with rfl|⟨t,x,rfl⟩
   ·cases v1;exact .inl rfl
   ·cases v1;exact .inr ⟨_,_,rfl⟩
theorem work_ev (G:Geo J){i x B:Nat}{γ:Bij}(hh:hold i=some x)(hle:(idB J.S).le γ)(hB:J.base≤B)(hr:∀p b,γ.r p b→(p=b∧J.S b)∨(J.base≤b∧b<B∧own b=x+1)){e e':Event}(h:EvR J.S γ.r e e'):EvOk J own hold B (J.s0+i) e'∧e'.loc≠.mark .disable∧e'.loc≠.mark .enable∧e'.loc≠.mark (.release (stA J.k.wg)):=by
 obtain⟨l,wr_,sy⟩:=e
 obtain⟨l',wr',sy'⟩:=e'
 obtain⟨hl,h1,h2,h3⟩:=h
 simp only at hl h1 h2 h3
 subst h1 h2
 have key:∀p b,γ.r p b→∀l1 l2:Loc,LocIn p l1→LocIn b l2→(wr_=true→∀a,LocIn a l1→¬J.S a)→OwnL J own hold (J.s0+i) l2∨(RoL J l2∧wr_=false):=by
  intro p b hpb l1 l2 hl1 hl2 hw
  rcases hr p b hpb with⟨rfl,hS⟩|⟨e1,e2,e3⟩
  ·obtain⟨g1,g2,g3,g4,g5⟩:=G.sS p hS
   refine .inr ⟨⟨p,g1,g2,g5,hl2⟩,?_⟩
   cases wr_ with
   | false=>rfl
   | true=>exact absurd hS (hw rfl p hl1)
  ·exact .inl ⟨b,e1,hl2,.inr ⟨i,x,rfl,hh,e3⟩⟩
 have low:∀p b,γ.r p b→b<B:=fun p b hpb=>by
  rcases hr p b hpb with⟨_,hS⟩|⟨_,e2,_⟩
  ·have:=(G.sS b hS).1;omega
  ·exact e2
 cases hl with
 | @cell b b' o sp hb =>
  refine⟨⟨fun y hy=>?_,?_⟩,by simp,by simp,by simp⟩
  ·simp only[ofEvent_cell,MemAct.touch?,Option.some.injEq] at hy
   subst hy
   rcases key b b' hb (.cell ⟨b,o,sp⟩) (.cell ⟨b',o,sp⟩) rfl rfl h3 with h|h
   ·exact .inl h
   ·exact .inr (.inl h)
  ·rw[ofEvent_cell]
   exact low b b' hb
 | @obj r r' hb =>
  refine⟨⟨fun y hy=>?_,?_⟩,by simp,by simp,by simp⟩
  ·have hk:=key r r' hb (.obj r) (.obj r') rfl rfl h3
   cases wr_<;>cases sy<;>simp only[MemAct.ofEvent,MemAct.touch?,Option.some.injEq,reduceCtorEq] at hy
   all_goals
    subst hy
    rcases hk with h|h
    ·exact .inl h
    ·exact .inr (.inl h)
  ·cases wr_<;>cases sy<;>exact low r r' hb
 | noRoom=>exact⟨⟨fun y hy=>by simp[MemAct.ofEvent,MemAct.touch?] at hy,trivial⟩,by simp,by simp,by simp⟩
theorem mem_ev {N:Nat→Prop}{β:Nat→Nat→Prop}{es es':Array Event}(h:EsR N β es es'){e':Event}(he:e'∈es'):∃e,EvR N β e e':=by
 obtain⟨i,hi,rfl⟩:=Array.mem_iff_getElem.1 he
 have hi':i<es.size:=by rw[h.1];exact hi
 exact⟨es[i],h.2 i _ _ (Array.getElem?_eq_getElem hi') (Array.getElem?_eq_getElem hi)⟩
def ownBy (own:Nat→Nat)(B x:Nat)(b:Nat):Nat:=if b<B then own b else x+1
theorem ownBy_old {B x b:Nat}(h:b<B):ownBy own B x b=own b:=by simp[ownBy,h]
theorem ownBy_new {B x b:Nat}(h:B≤b):ownBy own B x b=x+1:=by simp[ownBy,Nat.not_lt.2 h]
theorem work_fr (G:Geo J)(hwf:WF J false w){x:Nat}{β γ:Bij}{v v1:World}(hv:∀b,J.S b→Par.Shut v b)(hle:(idB J.S).le β)(hr:Rng J own w x β)(hF:Fr β γ v w v1 w')(hw1:WR J.ok 0 γ v1 w') :
  Kp J own (x+1) w w'∧(∀b,b=J.k.wg∨b=J.k.cN∨b=J.k.cR→w'.heap[b]?=w.heap[b]?)∧Rng J (ownBy own w.heap.size x) w' x γ∧(idB J.S).le γ:=by
 have hB:=hwf.size
 have hg:=G.wg;have hN:=G.cN;have hR:=G.cR
 have old:∀b,b<J.base→w'.heap[b]?=w.heap[b]?:=fun b hb=>by
  by_cases hS:J.S b
  ·exact (hF.keep b b (hle _ _ ⟨rfl,hS⟩) (hv b hS)).2
  ·refine hF.stay b (by omega) fun p hp=>?_
   rcases hr p b hp with⟨_,h⟩|⟨h,_⟩
   ·exact hS h
   ·omega
 refine⟨⟨fun b hb e1 e2 e3 h=>?_,hF.ws,hF.wo,hF.wp⟩,fun b hb=>old b (by rcases hb with rfl|rfl|rfl<;>omega),fun p b hpb=>?_,fun p b h=>hF.le _ _ (hle _ _ h)⟩
 ·rcases Nat.lt_or_ge b J.base with h1|h1
  ·exact old b h1
  ·refine hF.stay b hb fun p hp=>?_
   rcases hr p b hp with⟨_,hS⟩|⟨_,_,e⟩
   ·have:=(G.sS b hS).1;omega
   ·rcases h with h|h
    ·omega
    ·exact h e
 ·have hlt:=(hw1.lt hpb).2
  rcases hF.new p b hpb with h|⟨_,h⟩
  ·rcases hr p b h with h|⟨h1,h2,h3⟩
   ·exact .inl h
   ·exact .inr ⟨h1,hlt,by rw[ownBy_old h2];exact h3⟩
  ·exact .inr ⟨by omega,hlt,ownBy_new h⟩
theorem KS.offC (G:Geo J)(K:KS J c0 gs w t q own hold dn nx rc n0 rk fW a){y kj c:Nat}{gj:Goroutine}{b:Bool}(hy:gs[y]?=some gj)(hk:kj∈offersAt gj c b)(hcb:(c=J.k.cN∧b=true)∨(c=J.k.cR∧b=false)) :
  ∃th bL g',y=0∧gj=a∧th<J.N∧th=cnt J dn∧Lst J own w dn bL none∧SelG J.k J.N (c0 :: J.c :: J.cs) bL nx th g'∧a=parked g' (selC J.k J.N nx) .select∧((b=true∧kj=0∧nx<J.N)∨(b=false∧kj=1)):=by
 have hne:=G.ne
 obtain⟨cs,sh,hb,ho,cc,hcc,hsd,hch⟩:=offers_at hk
 have hlt:=(Array.getElem?_eq_some_iff.1 hy).1
 rw[K.com.size] at hlt
 rcases Nat.eq_zero_or_pos y with rfl|hp
 ·rw[K.h0] at hy;cases hy
  rcases K.cal.kind with h|⟨th,bL,g',h1,h2,h3,h4,_,rfl⟩
  ·rw[h] at hb;cases hb
  simp only[parked,Option.some.injEq,Prod.mk.injEq] at ho
  obtain⟨rfl,rfl⟩:=ho
  refine⟨th,bL,g',rfl,rfl,h1,h2,h3,h4,rfl,?_⟩
  have hk2:kj=0∨kj=1:=by
   have:=(Array.getElem?_eq_some_iff.1 hcc).1
   simp[selC] at this
   omega
  rcases hk2 with rfl|rfl
  ·obtain rfl:cc={ chan:=nch J.k J.N nx,send:=some (.int .i64 (nx:Nat)),zero:=.int .i64 0 }:=by simpa [selC] using hcc.symm
   refine .inl ⟨by simpa using hsd.symm,rfl,?_⟩
   rcases Nat.lt_or_ge nx J.N with h|h
   ·exact h
   ·rw[show (CommCase.chan { chan:=nch J.k J.N nx,send:=some (.int .i64 (nx:Nat)),zero:=.int .i64 0 })=nch J.k J.N nx from rfl,nch_shut J.k h (by omega)] at hch
    cases hch
  ·obtain rfl:cc=rcase J.k.cR zMd:=by simpa [selC] using hcc.symm
   exact .inr ⟨by simpa [rcase] using hsd.symm,rfl⟩
 ·exfalso
  rcases Nat.lt_or_ge y J.s0 with h|h
  ·rcases (K.com.old y gj hp h hy).status with h|h<;>rw[h] at hb<;>cases hb
  obtain⟨i,rfl⟩:∃i,y=J.s0+i:=⟨y - J.s0,by omega⟩
  obtain⟨g',hg',hs⟩:=K.wk i (by omega)
  rw[hy] at hg';cases hg'
  rcases hs.kind with h|⟨h1,_,g',h2,rfl⟩|⟨x,a,e,z,g',h1,_,h2,h3,rfl⟩
  ·rw[h] at hb;cases hb
  ·simp only[parked,Option.some.injEq,Prod.mk.injEq] at ho
   obtain⟨rfl,rfl⟩:=ho
   have:=Array.mem_of_getElem? hcc
   rw[Array.mem_singleton] at this
   subst this
   rcases hcb with⟨rfl,rfl⟩|⟨rfl,rfl⟩
   ·simp[rcase] at hsd
   ·simp only[rcase,Value.chan.injEq,Option.some.injEq] at hch
    omega
  ·simp only[parked,Option.some.injEq,Prod.mk.injEq] at ho
   obtain⟨rfl,rfl⟩:=ho
   have:=Array.mem_of_getElem? hcc
   rw[Array.mem_singleton] at this
   subst this
   rcases hcb with⟨rfl,rfl⟩|⟨rfl,rfl⟩
   ·simp only[scase,Value.chan.injEq,Option.some.injEq] at hch
    omega
   ·simp[scase] at hsd
theorem offers_sel0 {g:Goroutine}(h:nx<J.N):(0:Nat)∈offersAt (parked g (selC J.k J.N nx) .select) J.k.cN true:=by
 rw[sel0 h]
 simp[offersAt,parked,scase,rcase]
theorem offers_sel1 {g:Goroutine}:(1:Nat)∈offersAt (parked g (selC J.k J.N nx) .select) J.k.cR false:=by
 simp[offersAt,parked,selC,rcase]
set_option maxHeartbeats 2000000 in
theorem stepKW (G:Geo J)(hN:J.N<1000000)(T:Tasks J)(K:KS J c0 gs w t q own hold dn nx rc n0 rk fW a){μ:MuK J}(h1:μ.1=Phi J dn nx rc rk)(h2:μ.2.1=fuel q J.s0 n0 fW){i:Nat}(hi:i<J.m){g:Goroutine}(hx:gs[J.s0+i]?=some g)(hrun:g.status=.running)(sl:Option (Nat × Nat)):OutK J c0 μ (runT PP (crowd gs w sl) (J.s0+i)) t:=by
 have hs0:=G.s0
 have hwf:=K.com.wf
 have hBs:=hwf.size
 have hbx:=bx_of G hwf
 have hlt':=(Array.getElem?_eq_some_iff.1 hx).1
 have hi0:(J.s0+i==0)=false:=by simp;omega
 have hst:=fun {w':World} (hw':WF J false w') (j:Nat) (gj:Goroutine) (_:j≠J.s0+i) (hj:gs[j]?=some gj)=>K.still hw' j gj hj
 have big:∀y,dn y=true→J.N+1≠y+1:=fun y hy=>by have:=K.dx y hy;have:=K.le;omega
 have bigh:∀i',i'<J.m→i'≠i→∀y,hold i'=some y→J.N+1≠y+1:=fun i' hi' _ y hy=>by have:=K.hn i' hi' y hy;have:=K.le;omega
 obtain⟨g',hg',hws⟩:=K.wk i hi
 rw[hx] at hg';cases hg'
 have idle:∀ {g1:Goroutine} {es:Array Event} {f':Fu},(∀e∈es,EvB J.k e)→stepG PP false g w=.go g1 w es→WS J own w (hold i) (rk i) f' g1→g1.status=.running→LtF f' (fW i)→OutK J c0 μ (runT PP (crowd gs w sl) (J.s0+i)) t:=by
  intro g1 es f' he hgo hc hr hn
  exact out_fuelW h1 h2 (go_still (i:=J.s0+i) hx (by rw[hi0];exact hgo) (hst hwf)) hi (K.movW (lab:=J.N+1) G hi hx .refl (fun _ _=>rfl) (fun _ _=>rfl) (fun b h h'=>by omega) (by omega) big bigh (fun e h=>evOk_box G hBs (he e h)) (fun e h=>evB_still (he e h)) hc (fun _ hb=>by rw[hr] at hb;cases hb)) hn
 generalize hrk:rk i=r at hws idle
 generalize hfw:fW i=f at hws idle
 generalize hho:hold i=o at hws idle
 cases hws with
 | park r=>cases hrun
 | parkS r D=>cases hrun
 | go h r =>
  cases h with
  | cons hs he hstp t'=>exact idle he (hstp w hbx) (.go t' r) (sl_status t' (recv_run r)) (.n (by omega))
  | nil =>
   have hco:=recv_comm J.k r w
   have hok:∀cc∈#[rcase J.k.cN (.int .i64 0)],CaseOk w cc:=by
    intro cc hcc
    rw[Array.mem_singleton] at hcc
    subst hcc
    exact .inr ⟨J.k.cN,rfl,hwf.cn⟩
   rcases comm_any (P:=PP) (sl:=sl) (i:=J.s0+i) hx (by rw[hi0];exact hco) hok with⟨hno,hnw⟩|⟨k,cc,c,y,kj,d,gj,hk,hch,_,hne,hgj,hkj,hrn⟩
   ·refine out_phi h1 (crowd_waits (P:=PP) (sl:=sl) (i:=J.s0+i) hx (by rw[hi0];exact hco) hnw) (K.movW (lab:=J.N+1) (rk':=0) (f':=.inl 0) G hi hx .refl (fun _ _=>rfl) (fun _ _=>rfl) (fun b h h'=>by omega) (by omega) big bigh (fun e h=>by simp at h) (fun e h=>by simp at h) (by rw[hho];exact .park r) (fun hb _=>⟨hho,?_⟩)) (phi_rk hi (by omega))
    rcases Nat.lt_or_ge nx J.N with hlt|hge
    ·exfalso
     rcases K.cal.kind with h|⟨th,bL,g',_,_,_,_,_,rfl⟩
     ·rw[h] at hb;cases hb
     have hp:=hno (rcase J.k.cN (.int .i64 0)) (by simp) J.k.cN rfl
     have hm:(0,0)∈partners (gs.setIfInBounds (J.s0+i) ph) J.k.cN true:=mem_partners.2 ⟨_,by rw[set_get _ (by omega)];exact K.h0,offers_sel0 hlt⟩
     rw[show (rcase J.k.cN (.int .i64 0)).send.isNone=true from rfl] at hp
     rw[hp] at hm
     cases hm
    ·exact Nat.le_antisymm K.le hge
   ·obtain rfl:cc=rcase J.k.cN (.int .i64 0):=by
     have:=Array.mem_of_getElem? hk
     rwa [Array.mem_singleton] at this
    obtain rfl:k=0:=by
     have:=(Array.getElem?_eq_some_iff.1 hk).1
     simp at this
     exact this
    cases hch
    obtain⟨th,bL,g',rfl,rfl,hth,hc,L,hsel,ha,⟨_,rfl,hnx⟩|⟨hb,_⟩⟩:=K.offC G hgj hkj (.inl ⟨rfl,rfl⟩)
    ·obtain⟨s,r',tm,hcn⟩:=hwf.cn
     rw[ha] at hgj
     have hM:=meets_recv (P:=PP) (sl:=sl) (i:=J.s0+i) (k:=0) (g₂:=g) (cases:=#[rcase J.k.cN (.int .i64 0)]) (shape:=.recv true) (z:=.int .i64 0) (d:=d) hcn hne hgj (kj:=0) (vj:=.int .i64 (nx:Nat)) (zj:=.int .i64 0) (by rw[sel0 hnx];rfl)
     rw[hM,show MemOp.ofEvents (J.s0+i) g.frame.fn g.frame.place #[]=#[] from rfl,Array.empty_append] at hrn
     have M:=met_of G hwf d (c:=J.k.cN) (s:=s+1) (r:=r'+1) (tm:=tm) (.inl rfl)
     obtain⟨n,g2,hsl,hsl2⟩:=(sel_sent hnx (by omega) hsel).bind fun g hg=>chead_more hth hg
     obtain⟨n1,g3,hsl1,hcall⟩:=w_got J.k r (nx:Nat)
     exact out_phi h1 hrn (K.give G hi hnx hho (two_cw G hlt') M (metU (.inl rfl)) (.sel hth hc (L.keep (lab:=J.N+1) G hBs (M.kp _) (fun _ _=>rfl) (by omega) big) hsl hsl2) (sl_status hsl (sel_comm hsl2 default).1) (.got hsl1 hcall) (sl_status hsl1 (call_run hcall))) (phi_give hi (by omega) (by omega) hnx)
    ·cases hb
 | got h r =>
  rename_i n x g2
  cases h with
  | cons hs he hstp t'=>exact idle he (hstp w hbx) (.got t' r) (sl_status t' (call_run r)) (.n (by omega))
  | nil =>
   have hxn:=K.hn i hi x hho
   have hxN:x<J.N:=Nat.lt_of_lt_of_le hxn.1 K.le
   obtain⟨fn,hf,hn1,hn2⟩:=T.fn
   obtain⟨c1,_,hgo,hback⟩:=call_enter J.k r hf hn1 hn2
   have hS':∀b,J.S b→(∃x e f,w.heap[b]?=some (.cells x e f))∧Par.Cl J.ok J.S J.Tk w b:=fun b hb=>by
    obtain⟨g1,g2,g3,g4,_⟩:=G.sS b hb
    unfold Par.Cl
    rw[hwf.old b g1 g2 g3 g4]
    exact T.S b hb
   have hwk:=Par.work_start J.Tk (Ok:=J.ok) (P:=PP) (R:=J.R x) rfl (Par.wk_bodies J.S) (Par.wk_texts J.S) (T.R x) J.S (W:=w) (fun b hb=>(hS' b hb).2) (fun b hb=>(hS' b hb).1)
    (by show PP.globals.size≤_;have:=T.G;omega) T.gl (f:=J.k.fw) T.ok (T.args x hxN) (T.call x hxN w hwf) [c1,bot]
   refine out_phi h1 (go_still (sl:=sl) (i:=J.s0+i) hx (by rw[hi0];exact hgo w) (hst hwf)) (K.movW (lab:=J.N+1) (rk':=4) (f':=.inr (_,_)) G hi hx .refl (fun _ _=>rfl) (fun _ _=>rfl) (fun b h h'=>by omega) (by omega) big bigh (fun e h=>by simp at h) (fun e h=>by simp at h) (by rw[hho];exact .work hwk (Bij.le_refl _) (fun p b h=>.inl ⟨h.1,h.1 ▸ h.2⟩) hback) (fun _ hb=>by cases hb)) (phi_rk hi (by omega))
 | work h hle hr hb =>
  rename_i x c1 β gg v
  have hxn:=K.hn i hi x hho
  have hxN:x<J.N:=Nat.lt_of_lt_of_le hxn.1 K.le
  have hl2:∀y,dn y=true→x+1≠y+1:=fun y hy=>by
   intro e
   obtain rfl:x=y:=by omega
   rw[hxn.2] at hy;cases hy
  have hl3:∀i',i'<J.m→i'≠i→∀y,hold i'=some y→x+1≠y+1:=fun i' hi' hne y hy e=>by
   obtain rfl:x=y:=by omega
   exact hne (K.com.inj i' i x hi' hi hy hho)
  have hsh:∀b,J.S b→Par.Shut (Par.on v w.tape w.drawn) b:=fun b hb=>h.wr.sh b hb
  have hnw:∀ {w':World},∀b,w.heap.size≤b→b<w'.heap.size→ownBy own w.heap.size x b≤nx:=fun b h _=>by rw[ownBy_new h];omega
  rcases h.step rfl (Par.wk_bodies J.S) (Par.wk_texts J.S) (T.R x) false with⟨γ,gg1,v1,g1,W1,es,es',hgo,hwk,hlt,hF,hes⟩|⟨γ,u,u',W1,es,es',hgo,hvr,hRu,hwr,hF,hes⟩
  ·obtain⟨hk,hch,hrng,hle'⟩:=work_fr G hwf hsh hle hr hF hwk.wr
   have hev:∀e'∈es',_:=fun e' he'=>let ⟨e,hee⟩:=mem_ev hes he';work_ev (own:=ownBy own w.heap.size x) (hold:=hold) G hho hle' (Nat.le_trans hBs hk.size) hrng hee
   exact out_fuelW h1 h2 (go_still (sl:=sl) (i:=J.s0+i) hx (by rw[hi0];exact hgo) (hst (hwf.kp G hk hch))) hi (K.movW G hi hx hk hch (fun b hb=>ownBy_old hb) hnw (by omega) hl2 hl3 (fun e he=>(hev e he).1) (fun e he=>(hev e he).2) (by rw[hho,hrk];exact .work hwk hle' hrng hb) (fun _ hb=>by rw[work_run hwk] at hb;cases hb)) (by rw[hfw];exact .w hlt)
  ·obtain⟨hk,hch,hrng,hle'⟩:=work_fr G hwf hsh hle hr hF hwr
   have hev:∀e'∈es',_:=fun e' he'=>let ⟨e,hee⟩:=mem_ev hes he';work_ev (own:=ownBy own w.heap.size x) (hold:=hold) G hho hle' (Nat.le_trans hBs hk.size) hrng hee
   obtain⟨b,e,rfl,he⟩:=T.ret x u _ hRu
   obtain⟨e',rfl,he'⟩:=vr_pair hvr he
   obtain⟨n,g2,hsl,hsd⟩:=hb b e' he'
   exact out_phi h1 (go_still (sl:=sl) (i:=J.s0+i) hx (by rw[hi0];exact hgo) (hst (hwf.kp G hk hch))) (K.movW (rk':=3) (f':=.inl n) G hi hx hk hch (fun b hb=>ownBy_old hb) hnw (by omega) hl2 hl3 (fun e he=>(hev e he).1) (fun e he=>(hev e he).2) (by rw[hho];exact .ret hsl hsd ⟨he',γ,_,_,hRu,hvr,hwr,hrng,hle'⟩) (fun _ hb=>by rw[show (Par.Gr (c1.finish (.tuple #[.int .i64 b,e'])) [bot]).status=.running from rfl] at hb;cases hb)) (phi_rk hi (by omega))
 | ret h r D =>
  rename_i n x b e g2
  cases h with
  | cons hs he hstp t'=>exact idle he (hstp w hbx) (.ret t' r D) (sl_status t' (send_run r)) (.n (by omega))
  | nil =>
   obtain⟨_,z,hco⟩:=send_comm J.k r w
   have hok:∀cc∈#[scase J.k.cR (.agg #[.int .i64 (x:Nat),.int .i64 b,e]) z],CaseOk w cc:=by
    intro cc hcc
    rw[Array.mem_singleton] at hcc
    subst hcc
    exact .inr ⟨J.k.cR,rfl,hwf.cr⟩
   have hxn:=K.hn i hi x hho
   have hxN:x<J.N:=Nat.lt_of_lt_of_le hxn.1 K.le
   rcases comm_any (P:=PP) (sl:=sl) (i:=J.s0+i) hx (by rw[hi0];exact hco) hok with⟨hno,hnw⟩|⟨k,cc,c,y,kj,d,gj,hk,hch,_,hne,hgj,hkj,hrn⟩
   ·refine out_phi h1 (crowd_waits (P:=PP) (sl:=sl) (i:=J.s0+i) hx (by rw[hi0];exact hco) hnw) (K.movW (lab:=J.N+1) (rk':=2) (f':=.inl 0) G hi hx .refl (fun _ _=>rfl) (fun _ _=>rfl) (fun b h h'=>by omega) (by omega) big bigh (fun e h=>by simp at h) (fun e h=>by simp at h) (by rw[hho];exact .parkS r D) (fun hb _=>?_)) (phi_rk hi (by omega))
    exfalso
    rcases K.cal.kind with h|⟨th,bL,g',_,_,_,_,_,rfl⟩
    ·rw[h] at hb;cases hb
    have hp:=hno (scase J.k.cR (.agg #[.int .i64 (x:Nat),.int .i64 b,e]) z) (by simp) J.k.cR rfl
    have hm:(0,1)∈partners (gs.setIfInBounds (J.s0+i) ph) J.k.cR false:=mem_partners.2 ⟨_,by rw[set_get _ (by omega)];exact K.h0,offers_sel1⟩
    rw[show (scase J.k.cR (.agg #[.int .i64 (x:Nat),.int .i64 b,e]) z).send.isNone=false from rfl] at hp
    rw[hp] at hm
    cases hm
   ·obtain rfl:cc=scase J.k.cR (.agg #[.int .i64 (x:Nat),.int .i64 b,e]) z:=by
     have:=Array.mem_of_getElem? hk
     rwa [Array.mem_singleton] at this
    obtain rfl:k=0:=by
     have:=(Array.getElem?_eq_some_iff.1 hk).1
     simp at this
     exact this
    cases hch
    obtain⟨th,bL,g',rfl,rfl,hth,hc,L,hsel,ha,⟨hb,_⟩|⟨_,rfl⟩⟩:=K.offC G hgj hkj (.inr ⟨rfl,rfl⟩)
    ·cases hb
    ·obtain⟨s,r',tm,hcr⟩:=hwf.cr
     rw[ha] at hgj
     have hM:=meets_send (P:=PP) (sl:=sl) (i:=J.s0+i) (k:=0) (g₂:=g) (cases:=#[scase J.k.cR (.agg #[.int .i64 (x:Nat),.int .i64 b,e]) z]) (shape:=.send) (v:=.agg #[.int .i64 (x:Nat),.int .i64 b,e]) (z:=z) (d:=d) hcr hne hgj (kj:=1) (zj:=zMd) rfl
     rw[hM,show MemOp.ofEvents (J.s0+i) g.frame.fn g.frame.place #[]=#[] from rfl,Array.empty_append] at hrn
     have M:=met_of G hwf d (c:=J.k.cR) (s:=s+1) (r:=r'+1) (tm:=tm) (.inr rfl)
     obtain⟨n,g2,hsl,hal⟩:=sel_got (i:=x) (a:=b) (e:=e) hsel
     obtain⟨n1,g3,hsl1,hrv⟩:=w_sent J.k r #[scase J.k.cR (.agg #[.int .i64 (x:Nat),.int .i64 b,e]) z] 0 undef false
     have hbig:∀y,upd dn x true y=true→J.N+1≠y+1:=fun y hy=>by
      by_cases e:y=x
      ·omega
      ·rw[upd_ne dn _ e] at hy
       exact big y hy
     exact out_phi h1 hrn (K.take G hi hho (two_cw G hlt') M (metU (.inr rfl)) (.al hxN (upd_same _ _ _) (by rw[cnt_put hxN hxn.2,hc]) (D.keep (lab:=J.N+1) G hBs (M.kp _) (fun _ _=>rfl) (by omega)) (L.put.keep (lab:=J.N+1) G hBs (M.kp _) (fun _ _=>rfl) (by omega) hbig) hsl hal) (sl_status hsl (al_step hal default).1) (.go hsl1 hrv) (sl_status hsl1 (recv_run hrv))) (phi_take hi (by omega) (by omega) hxN hxn.2)
theorem KS.runs (K:KS J c0 gs w t q own hold dn nx rc n0 rk fW a)(hm:0<J.N→0<J.m):∃(i:Nat) (g:Goroutine),gs[i]?=some g∧g.status=.running:=by
 rcases K.cal.kind with h|⟨th,bL,g',h1,h2,_,_,_,rfl⟩
 ·exact⟨0,a,K.h0,h⟩
 ·refine Classical.byContradiction fun hno=>?_
  have hbl:∀i,i<J.m→hold i=none∧nx=J.N:=fun i hi=>by
   obtain⟨g,hg,hs⟩:=K.wk i hi
   refine K.nm rfl i hi g hg ?_
   rcases hs.kind with h|⟨_,_,g',_,rfl⟩|⟨x,b,e,z,g',_,_,_,_,rfl⟩
   ·exact absurd ⟨_,g,hg,h⟩ hno
   ·rfl
   ·rfl
  have h0:=hbl 0 (hm (by omega))
  have:cnt J dn=J.N:=sumTo_all _ _ fun x hx=>by
   rcases K.all x (by omega) with h|⟨i,hi,h⟩
   ·exact h
   ·rw[(hbl i hi).1] at h;cases h
  omega
end
end Go.Proofs.YtjeicikflkjacaaGreatDoor.Ms

/- What a worker does with a number: side.Moves' and side.Buckets' closures. -/
namespace Go.Proofs.YtjeicikflkjacaaGreatDoor
open Go.RowKit
set_option maxHeartbeats 2000000 in
theorem work_moves (ba bl bs bR i N cap:Nat)(va vb:Value)(n:Int)(Q:Value→Value→World→Prop)(w:World)(ha:w.cell? ⟨ba,0,none⟩=some va)(hl:w.cell? ⟨bl,0,none⟩=some (.slice (some ⟨bR,0,none⟩) N cap))(hb:w.cell? ⟨bR,i,none⟩=some vb)(hs:w.cell? ⟨bs,0,none⟩=some (.int .i64 n))(hi:i<N)
  (hc:∀W,Below w.heap.size w W→Calls Tryz.prog 11 #[va,vb,.int .i64 n] W fun e w'=>∃x ev,e=.returned (.tuple #[x,ev])∧Q x ev w'∧Below w.heap.size w w') :
  Calls Tryz.prog 20 #[.int .i64 (i:Nat),.pointer (some ⟨ba,0,none⟩),.pointer (some ⟨bl,0,none⟩),.pointer (some ⟨bs,0,none⟩)] w fun e w'=>∃x ev,e=.returned (.tuple #[x,ev])∧Q x ev w'∧Below w.heap.size w w':=by
 have HC:Hid (∀W,Below w.heap.size w W→Calls Tryz.prog 11 #[va,vb,.int .i64 n] W fun e w'=>∃x ev,e=.returned (.tuple #[x,ev])∧Q x ev w'∧Below w.heap.size w w'):=hc
 have HK:Hid (∀W',Below w.heap.size w W'→Below w.heap.size w W'∧W'.cell? ⟨ba,0,none⟩=some va∧W'.cell? ⟨bl,0,none⟩=some (.slice (some ⟨bR,0,none⟩) N cap)∧W'.cell? ⟨bR,i,none⟩=some vb∧W'.cell? ⟨bs,0,none⟩=some (.int .i64 n)):=fun W' h=>⟨h,below_cell h ha,below_cell h hl,below_cell h hb,below_cell h hs⟩
 have hii:(i:Int)<(N:Int):=by omega
 clear hc
 go_enter Tryz.func20,Tryz.ntmps20
 go_wp2_with fail
 go_region_held3 (fun W'=>Below w.heap.size w W'∧W'.cell? ⟨ba,0,none⟩=some va∧W'.cell? ⟨bl,0,none⟩=some (.slice (some ⟨bR,0,none⟩) N cap)∧W'.cell? ⟨bR,i,none⟩=some vb∧W'.cell? ⟨bs,0,none⟩=some (.int .i64 n))
  (first|exact HK.out _ (by assumption)|exact HK.out _ (below_drewN (Below.refl _ _) 1)|exact HK.out _ (Below.refl _ _))
  (first|(go_at_call 11;refine (HC.out _ (by first|assumption|exact Below.refl _ _|exact below_drewN (Below.refl _ _) 1)).mono ?_;rintro e wz ⟨x,ev,rfl,hq,hbz⟩))
 all_goals
  go_wp2
  go_ret2
  exact⟨_,_,rfl,hq,hbz⟩
end Go.Proofs.YtjeicikflkjacaaGreatDoor

/- What is shared with workers: rows, and how much of each is known. -/
set_option linter.unusedVariables false
namespace Go.Proofs.YtjeicikflkjacaaGreatDoor.Ms
open Go Go.Conc Go.Conc.Lib Go.ConcN
open Par (Cx LocIn Bij VR WR AR OR idB shutW Work)
open Go.RowKit
def tk:List (Nat × Nat)→Nat→Nat
 | [],_=>0
 | (c,n) :: T,b=>if c=b then max n (tk T b) else tk T b
def inT (T:List (Nat × Nat))(b:Nat):Prop:=∃n,(b,n)∈T
theorem tk_le {T:List (Nat × Nat)}{b n:Nat}(h:(b,n)∈T):n≤tk T b:=by
 induction T with
 | nil=>cases h
 | cons p T ih =>
  obtain⟨c,m⟩:=p
  simp only[tk]
  rcases List.mem_cons.1 h with e|h
  ·cases e
   rw[if_pos rfl]
   exact Nat.le_max_left _ _
  ·have:=ih h
   split
   ·exact Nat.le_trans this (Nat.le_max_right _ _)
   ·exact this
theorem tk_lt {T:List (Nat × Nat)}{b i:Nat}(h:i<tk T b):∃n,(b,n)∈T∧i<n:=by
 induction T with
 | nil=>cases h
 | cons p T ih =>
  obtain⟨c,m⟩:=p
  simp only[tk] at h
  split at h
  ·rename_i e
   subst e
   rcases Nat.lt_or_ge i m with h1|h1
   ·exact⟨m,List.mem_cons_self,h1⟩
   ·obtain⟨n,h2,h3⟩:=ih (by omega)
    exact⟨n,List.mem_cons_of_mem _ h2,h3⟩
  ·obtain⟨n,h2,h3⟩:=ih h
   exact⟨n,List.mem_cons_of_mem _ h2,h3⟩
def Knows (Ok:Cx)(T:List (Nat × Nat))(w:World):Prop:=∀b n,(b,n)∈T→∃x e f,w.heap[b]?=some (.cells x e f)∧∀i u,i<n→x[i]?=some u→VR Ok (idB (inT T)).r u u
theorem knows_cl {Ok:Cx}{T:List (Nat × Nat)}{w:World}(h:Knows Ok T w){b:Nat}(hb:inT T b):(∃x e f,w.heap[b]?=some (.cells x e f))∧Par.Cl Ok (inT T) (fun b=>some (tk T b)) w b:=by
 obtain⟨n,hn⟩:=hb
 obtain⟨x,e,f,h1,h2⟩:=h b n hn
 refine⟨⟨x,e,f,h1⟩,_,h1,x,e,f,rfl,fun i u hi hu=>?_⟩
 obtain⟨m,hm,him⟩:=tk_lt hi
 obtain⟨x',e',f',h1',h2'⟩:=h b m hm
 rw[h1] at h1'
 cases h1'
 exact h2' i u him hu
theorem known_cell {T:List (Nat × Nat)}{W:World}{b n i:Nat}(h:(b,n)∈T)(hi:i<n)(τ:Nat→Question→Nat)(d:Nat):(Par.on (shutW (fun b=>some (tk T b)) W) τ d).cell? ⟨b,i,none⟩=W.cell? ⟨b,i,none⟩:=by
 have:(Par.on (shutW (fun b=>some (tk T b)) W) τ d).cell? ⟨b,i,none⟩=(shutW (fun b=>some (tk T b)) W).cell? ⟨b,i,none⟩:=rfl
 rw[this]
 refine Par.shut_cell W ⟨b,i,none⟩ fun m hm=>?_
 cases hm
 have:=tk_le h
 show i<tk T b
 omega
def Row0 (w:World)(v:Value)(xs:List ByteArray):Prop:=(v=.slice none 0 0∧xs=[])∨∃g cap cur e f,v=.slice (some ⟨g,0,none⟩) xs.length cap∧xs.length≤cap∧w.heap[g]?=some (.cells cur e f)∧∀k (h:k<xs.length),cur[k]?=some (.string xs[k])
theorem row0_of_owns {w:World}{base n:Nat}{v:Value}{e:TypeId}{xs:List ByteArray}(h:w.ownsRow base e 1 v n (xs.map Value.string)):Row0 w v xs:=by
 obtain⟨hl,⟨rfl,rfl⟩|⟨g,cap,cur,rfl,hbase,hb,hn,hm,hsz,ht⟩⟩:=h
 ·exact .inl ⟨rfl,by simpa using hl⟩
 ·have hl':xs.length=n:=by simpa using hl
  refine .inr ⟨g,cap,cur,e,(0,0),by rw[hl'],by omega,hb,fun k hk=>?_⟩
  have hk':(cur.toList.take (n*1))[k]?=some (.string xs[k]):=by rw[ht];simp[hk]
  rw[List.getElem?_take_of_lt (by omega)] at hk'
  simpa using hk'
def rowT:Value→List (Nat × Nat)
 | .slice (some a) l _=>[(a.block,l)]
 | _=>[]
theorem Row0.same {w w':World}{v:Value}{xs:List ByteArray}(h:Row0 w v xs)(hs:∀b n,(b,n)∈rowT v→w'.heap[b]?=w.heap[b]?):Row0 w' v xs:=by
 rcases h with h|⟨g,cap,cur,e,f,rfl,h1,h2,h3⟩
 ·exact .inl h
 ·exact .inr ⟨g,cap,cur,e,f,rfl,h1,by rw[hs g xs.length (by simp[rowT])];exact h2,h3⟩
theorem Row0.vr {Ok:Cx}{w:World}{v:Value}{xs:List ByteArray}(h:Row0 w v xs){S:Nat→Prop}(hS:∀b n,(b,n)∈rowT v→S b):VR Ok (idB S).r v v:=by
 rcases h with⟨rfl,rfl⟩|⟨g,cap,cur,e,f,rfl,h1,h2,h3⟩
 ·exact .snil 0 0
 ·exact .slice 0 none _ _ ⟨rfl,hS g xs.length (by simp[rowT])⟩
theorem Row0.knows {Ok:Cx}{w:World}{v:Value}{xs:List ByteArray}(h:Row0 w v xs){S:Nat→Prop}{b n:Nat}(hb:(b,n)∈rowT v):∃x e f,w.heap[b]?=some (.cells x e f)∧∀i u,i<n→x[i]?=some u→VR Ok (idB S).r u u:=by
 rcases h with⟨rfl,rfl⟩|⟨g,cap,cur,e,f,rfl,h1,h2,h3⟩
 ·cases hb
 ·simp only[rowT,List.mem_singleton,Prod.mk.injEq] at hb
  obtain⟨rfl,rfl⟩:=hb
  refine⟨cur,e,f,h2,fun i u hi hu=>?_⟩
  rw[h3 i hi] at hu
  cases hu
  exact .string _
theorem Row0.shut {T:List (Nat × Nat)}{W:World}{v:Value}{xs:List ByteArray}(h:Row0 W v xs)(hT:∀p∈rowT v,p∈T)(τ:Nat→Question→Nat)(d:Nat):Strs1 (Par.on (shutW (fun b=>some (tk T b)) W) τ d) v xs:=by
 rcases h with⟨rfl,rfl⟩|⟨g,cap,cur,e,f,rfl,h1,h2,h3⟩
 ·exact .inl ⟨rfl,.inl rfl⟩
 ·refine .inr ⟨g,0,cap,rfl,h1,fun k hk=>?_⟩
  rw[Nat.zero_add,known_cell (hT (g,xs.length) (by simp[rowT])) hk]
  simp only[World.cell?,h2]
  exact h3 k hk
end Go.Proofs.YtjeicikflkjacaaGreatDoor.Ms

/- The two works, as workers are asked for them. -/
set_option linter.unusedVariables false
namespace Go.Proofs.YtjeicikflkjacaaGreatDoor.Ms
open Go Go.Conc Go.Conc.Lib Go.ConcN
open Par (Cx LocIn Bij VR WR AR OR idB shutW Work)
open Go.RowKit
theorem errs5 {a:Nat→Addr}{w:World}(h:Errs a w):Errs5 a w:=⟨h.s1,h.s2,h.s3,h.s4,h.s5⟩
def MovFault (xs ys:List ByteArray)(n:Int)(c:Nat)(pl:Int):Prop:=(TabFault xs n c pl∧c≠0)∨((∃p,TabFault xs n 0 p)∧TabFault ys n c pl)
def MovQ (a:Nat→Addr)(xs ys:List ByteArray)(n:Int)(x ev:Value)(w:World):Prop:=∃c pl,MovFault xs ys n c pl∧((c=0∧(∃m:Nat,n=m∧x=.int .i64 (mv xs ys m m:Nat))∧ev=.nilIface)∨(c≠0∧x=.int .i64 0∧ErrIs a w c pl ev))
theorem moves_q (a:Nat→Addr)(va vb:Value)(xs ys:List ByteArray)(n:Int)(w:World)(he:Errs5 a w)(hv:Strs1 w va xs)(hv2:Strs1 w vb ys)(hn:-9223372036854775808≤n∧n≤9223372036854775807)(hs1:∀k (h:k<xs.length),(xs[k]).size≤300)(hs2:∀k (h:k<ys.length),(ys[k]).size≤300)(hm1:xs.length<1000000)(hm2:ys.length<1000000) :
  Calls Tryz.prog 11 #[va,vb,.int .i64 n] w fun e w'=>∃x ev,e=.returned (.tuple #[x,ev])∧MovQ a xs ys n x ev w'∧Below w.heap.size w w':=by
 obtain⟨c,pl,hf⟩:=tabFault_ex xs n
 by_cases hc:c=0
 ·subst hc
  obtain⟨rfl,h0,hf1,m,rfl,hp,h2,h5⟩:=tabFault_zero hf
  obtain⟨c2,pl2,hf2⟩:=tabFault_ex ys m
  by_cases hc2:c2=0
  ·subst hc2
   obtain⟨rfl,h0',hf1',_⟩:=tabFault_zero hf2
   exact (moves_good5 a va vb xs ys m w he hv hv2 h0 h0' hf1 hf1' hp h5 hs1 hs2).mono fun e w' ⟨h1,h2⟩=>⟨_,_,h1,⟨0,-1,.inr ⟨⟨_,hf⟩,hf2⟩,.inl ⟨rfl,⟨m,rfl,rfl⟩,rfl⟩⟩,h2⟩
  ·exact (moves_bad25 a va vb xs ys m w c2 pl2 he hv hv2 h0 hf1 hp h5 hs1 hf2 hc2 (fun k h=>Nat.le_trans (hs2 k h) (by omega)) hm2).mono fun e w' ⟨ev,h1,h2,h3⟩=>⟨_,ev,h1,⟨c2,pl2,.inr ⟨⟨_,hf⟩,hf2⟩,.inr ⟨hc2,rfl,h2⟩⟩,h3⟩
 ·exact (moves_bad15 a va vb xs n w c pl he hv hf hc hn (fun k h=>Nat.le_trans (hs1 k h) (by omega)) hm1).mono fun e w' ⟨ev,h1,h2,h3⟩=>⟨_,ev,h1,⟨c,pl,.inl ⟨hf,hc⟩,.inr ⟨hc,rfl,h2⟩⟩,h3⟩
def errT (a:Nat→Addr):List (Nat × Nat):=[(0,1),(1,1),(4,1),(2,1),(5,1),((a 1).block,0),((a 2).block,0),((a 3).block,0),((a 4).block,0),((a 5).block,0)]
theorem cell_row {w:World}{b i:Nat}{v:Value}(h:w.cell? ⟨b,i,none⟩=some v):∃x e f,w.heap[b]?=some (.cells x e f)∧x[i]?=some v:=by
 unfold World.cell? at h
 cases hb:w.heap[b]? with
 | none=>rw[hb] at h;simp at h
 | some o =>
  rw[hb] at h
  cases o with
  | cells x e f=>exact⟨x,e,f,rfl,by simpa using h⟩
  | _=>simp at h
theorem err_knows {Ok:Cx}{a:Nat→Addr}{w:World}(h:Errs a w){T:List (Nat × Nat)}(hT:∀p∈errT a,p∈T){b n:Nat}(hb:(b,n)∈errT a):∃x e f,w.heap[b]?=some (.cells x e f)∧∀i u,i<n→x[i]?=some u→VR Ok (idB (inT T)).r u u:=by
 have key:∀g j,1≤j→j≤5→w.cell? ⟨g,0,none⟩=some (.iface 179 (.pointer (some (a j))))→∃x e f,w.heap[g]?=some (.cells x e f)∧∀i u,i<1→x[i]?=some u→VR Ok (idB (inT T)).r u u:=fun g j h1 h5 hc=>by
  obtain⟨x,e,f,q1,q2⟩:=cell_row hc
  refine⟨x,e,f,q1,fun i u hi hu=>?_⟩
  obtain rfl:i=0:=by omega
  rw[q2] at hu
  cases hu
  refine .iface _ (.ptr _ _ ⟨rfl,0,hT _ ?_⟩)
  have:j=1∨j=2∨j=3∨j=4∨j=5:=by omega
  rcases this with rfl|rfl|rfl|rfl|rfl<;>simp[errT]
 have key2:∀j,j<9→∃x e f,w.heap[(a j).block]?=some (.cells x e f)∧∀i u,i<0→x[i]?=some u→VR Ok (idB (inT T)).r u u:=fun j hj=>by
  obtain⟨c,t,q⟩:=h.row j hj
  exact⟨c,t,_,q,fun i u hi=>absurd hi (Nat.not_lt_zero _)⟩
 simp only[errT,List.mem_cons,Prod.mk.injEq,List.not_mem_nil,or_false] at hb
 rcases hb with⟨rfl,rfl⟩|⟨rfl,rfl⟩|⟨rfl,rfl⟩|⟨rfl,rfl⟩|⟨rfl,rfl⟩|⟨rfl,rfl⟩|⟨rfl,rfl⟩|⟨rfl,rfl⟩|⟨rfl,rfl⟩|⟨rfl,rfl⟩
 ·exact key _ 1 (by omega) (by omega) h.s1
 ·exact key _ 2 (by omega) (by omega) h.s2
 ·exact key _ 3 (by omega) (by omega) h.s3
 ·exact key _ 4 (by omega) (by omega) h.s4
 ·exact key _ 5 (by omega) (by omega) h.s5
 ·exact key2 1 (by omega)
 ·exact key2 2 (by omega)
 ·exact key2 3 (by omega)
 ·exact key2 4 (by omega)
 ·exact key2 5 (by omega)
theorem err_gl {a:Nat→Addr}{x:Nat}(h:Par.wkGl x=true):(x,1)∈errT a:=by
 simp only[Par.wkGl,Par.wkG,List.contains_iff_mem,List.mem_cons,List.not_mem_nil,or_false] at h
 rcases h with rfl|rfl|rfl|rfl|rfl<;>simp[errT]
theorem err_shut {a:Nat→Addr}{W:World}(h:Errs5 a W){T:List (Nat × Nat)}(hT:∀p∈errT a,p∈T)(τ:Nat→Question→Nat)(d:Nat):Errs5 a (Par.on (shutW (fun b=>some (tk T b)) W) τ d):=by
 have key:∀g v,(g,1)∈errT a→W.cell? ⟨g,0,none⟩=some v→(Par.on (shutW (fun b=>some (tk T b)) W) τ d).cell? ⟨g,0,none⟩=some v:=fun g v hg hv=>by
  rw[known_cell (hT _ hg) (by omega)]
  exact hv
 exact⟨key _ _ (by simp[errT]) h.s1,key _ _ (by simp[errT]) h.s2,key _ _ (by simp[errT]) h.s3,key _ _ (by simp[errT]) h.s4,key _ _ (by simp[errT]) h.s5⟩
end Go.Proofs.YtjeicikflkjacaaGreatDoor.Ms
