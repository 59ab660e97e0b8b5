/- A caller and its workers: numbers are handed out, what came of them comes in: two meet. -/
import Derived.Test.YtjeicikflkjacaaGreatDoorM25
set_option linter.unusedVariables false
namespace Go.Proofs.YtjeicikflkjacaaGreatDoor.Ms
open Go Go.Conc Go.Conc.Lib Go.ConcN
open Go.ConcR (KK wgBlock WgAt stA smA rd wr mk Payload Aside2 DC0 g_of_ofEvents ofEvent_cell ofEvent_mk)
open Par (Cx LocIn Bij VR WR AR OR idB shutW Work Fr EsR EvR)
open Mk (Still CaseOk ChanOpen go_still comm_any offers_at Acs Down)
section
variable {J:Job} {c0:Frame} {gs gs':Array Goroutine} {w w':World} {t u:Trace} {q:Nat→Nat} {own:Nat→Nat} {hold:Nat→Option Nat} {dn:Nat→Bool} {nx rc n0:Nat} {rk:Nat→Nat} {fW:Nat→Fu} {a:Goroutine}
theorem sc_size (w:World)(c cap:Nat)(buf:Array Value)(cl:Bool)(s r:Nat)(tm:Bool):(w.setChan c cap buf cl s r tm).heap.size=w.heap.size:=by simp[World.setChan]
theorem sc_ne (w:World){c c':Nat}(cap:Nat)(buf:Array Value)(cl:Bool)(s r:Nat)(tm:Bool)(h:c≠c'):(w.setChan c cap buf cl s r tm).heap[c']?=w.heap[c']?:=by simp[World.setChan,Array.getElem?_setIfInBounds_ne h]
theorem sc_self (w:World){c:Nat}{o:Obj}(ho:w.heap[c]?=some o)(cap:Nat)(buf:Array Value)(cl:Bool)(s r:Nat)(tm:Bool):(w.setChan c cap buf cl s r tm).heap[c]?=some (.chan cap buf cl s r tm):=by
 obtain⟨hlt,_⟩:=Array.getElem?_eq_some_iff.1 ho
 simp[World.setChan,hlt]
structure Met (J:Job)(w w':World):Prop where
 ne:∀b,b≠J.k.cN→b≠J.k.cR→w'.heap[b]?=w.heap[b]?
 cn:∃s r tm,w'.heap[J.k.cN]?=some (.chan 0 #[] false s r tm)
 cr:∃s r tm,w'.heap[J.k.cR]?=some (.chan 0 #[] false s r tm)
 size:w'.heap.size=w.heap.size
 os:w'.os=w.os∧w'.output=w.output
theorem sc_os (w:World)(c n:Nat)(x:Array Value)(sh:Bool)(s r:Nat)(tm:Bool):(w.setChan c n x sh s r tm).os=w.os∧(w.setChan c n x sh s r tm).output=w.output:=⟨rfl,rfl⟩
theorem met_of (G:Geo J)(h:WF J false w)(d:Nat){c s r:Nat}{tm:Bool}(hc:c=J.k.cN∨c=J.k.cR):Met J w ((w.at d).setChan c 0 #[] false s r tm):=by
 have hne:=G.ne.2.2.2.2.2
 obtain⟨s1,r1,tm1,h1⟩:=h.cn
 obtain⟨s2,r2,tm2,h2⟩:=h.cr
 refine⟨fun b e1 e2=>?_,?_,?_,sc_size _ _ _ _ _ _ _ _,sc_os (w.at d) _ _ _ _ _ _ _⟩
 ·rw[sc_ne _ _ _ _ _ _ _ (by rcases hc with rfl|rfl<;>first|exact Ne.symm e1|exact Ne.symm e2)];rfl
 ·rcases hc with rfl|rfl
  ·exact⟨s,r,tm,sc_self (w.at d) h1 _ _ _ _ _ _⟩
  ·exact⟨s1,r1,tm1,by rw[sc_ne _ _ _ _ _ _ _ (Ne.symm hne)];exact h1⟩
 ·rcases hc with rfl|rfl
  ·exact⟨s2,r2,tm2,by rw[sc_ne _ _ _ _ _ _ _ hne];exact h2⟩
  ·exact⟨s,r,tm,sc_self (w.at d) h2 _ _ _ _ _ _⟩
theorem Met.kp (M:Met J w w')(lab:Nat):Kp J own lab w w':=⟨fun b _ _ e1 e2 _=>M.ne b e1 e2,by rw[M.size];exact Nat.le_refl _,M.os⟩
theorem Met.wf (M:Met J w w')(h:WF J false w):WF J false w':=⟨fun b hb e1 e2 e3=>(M.ne b e2 e3).trans (h.old b hb e1 e2 e3),M.cn,M.cr,by rw[M.size];exact h.size,M.os.1.trans h.os.1,M.os.2.trans h.os.2⟩
def MetU (J:Job)(u:Trace):Prop:=∀op∈u,∃c k,(c=J.k.cN∨c=J.k.cR)∧(op.act=.send c k∨op.act=.recv c k 0∨op.act=.sendDone c k∨op.act=.recvDone c k)
theorem MetU.none (h:MetU J u):∀op∈u,op.act.touch?=none:=fun op hop=>by
 obtain⟨c,k,_,h|h|h|h⟩:=h op hop<;>rw[h]<;>rfl
theorem MetU.low (G:Geo J)(h:MetU J u){B:Nat}(hB:J.base≤B):∀op∈u,op.act.low B:=fun op hop=>by
 have:=G.cN;have:=G.cR
 obtain⟨c,k,hc,h|h|h|h⟩:=h op hop<;>rw[h]<;>show c<B<;>rcases hc with rfl|rfl<;>omega
theorem MetU.deaf (h:MetU J u):∀op∈u,op.act≠.mark .disable∧op.act≠.mark .enable:=fun op hop=>by
 obtain⟨c,k,_,h|h|h|h⟩:=h op hop<;>rw[h]<;>exact⟨by simp,by simp⟩
theorem MetU.rel (h:MetU J u):∀op∈u,op.act≠.mark (.release (stA J.k.wg)):=fun op hop=>by
 obtain⟨c,k,_,h|h|h|h⟩:=h op hop<;>rw[h]<;>simp
theorem metU {c s r x y:Nat}{f1 f2 f3 f4:FuncId}{p1 p2 p3 p4:String}(hc:c=J.k.cN∨c=J.k.cR):MetU J #[{ g:=x,fn:=f1,pos:=p1,act:=.send c s },{ g:=y,fn:=f2,pos:=p2,act:=.recv c r 0 },{ g:=x,fn:=f3,pos:=p3,act:=.sendDone c s },{ g:=y,fn:=f4,pos:=p4,act:=.recvDone c r }]:=by
 intro op hop
 simp only[List.mem_toArray,List.mem_cons,List.not_mem_nil,or_false] at hop
 rcases hop with rfl|rfl|rfl|rfl
 ·exact⟨c,s,hc,.inl rfl⟩
 ·exact⟨c,r,hc,.inr (.inl rfl)⟩
 ·exact⟨c,s,hc,.inr (.inr (.inl rfl))⟩
 ·exact⟨c,r,hc,.inr (.inr (.inr rfl))⟩
structure Two (J:Job)(i:Nat)(gs gs':Array Goroutine)(a' g1:Goroutine):Prop where
 size:gs'.size=gs.size
 a:gs'[0]?=some a'
 g:gs'[J.s0+i]?=some g1
 o:∀y,y≠0→y≠J.s0+i→gs'[y]?=gs[y]?
theorem two_cw (G:Geo J){i:Nat}{a' g1:Goroutine}(hlt:J.s0+i<gs.size):Two J i gs ((gs.setIfInBounds 0 a').setIfInBounds (J.s0+i) g1) a' g1:=by
 have:=G.s0
 exact⟨by simp,by rw[set_get 0 (by omega),set_same (by omega)],set_same (by simpa using hlt),fun y h1 h2=>by rw[set_get y h2,set_get y h1]⟩
theorem two_wc (G:Geo J){i:Nat}{a' g1:Goroutine}(hlt:J.s0+i<gs.size):Two J i gs ((gs.setIfInBounds (J.s0+i) g1).setIfInBounds 0 a') a' g1:=by
 have:=G.s0
 exact⟨by simp,set_same (by simp;omega),by rw[set_get _ (by omega),set_same hlt],fun y h1 h2=>by rw[set_get y h1,set_get y h2]⟩
theorem KS.give (G:Geo J)(K:KS J c0 gs w t q own hold dn nx rc n0 rk fW a){i:Nat}(hi:i<J.m)(hnx:nx<J.N)(hh:hold i=none){a' g1:Goroutine}(T:Two J i gs gs' a' g1)(M:Met J w w')(U:MetU J u){n':Nat}{f':Fu}
  (hc:CS J c0 own w' dn (nx+1) 1 n' a') (hca:a'.status=.running) (hw:WS J own w' (some nx) 5 f' g1) (hg1:g1.status=.running) :
  KS J c0 gs' w' (t++u) q own (upd hold i (some nx)) dn (nx+1) 1 n' (upd rk i 5) (upd fW i f') a':=by
 have hs0:=G.s0
 have hB:=K.com.wf.size
 refine⟨K.com.quiet U.none (U.low G hB) U.deaf T.size (fun y g h0 hy hg=>by rwa [T.o y (by omega) (by omega)] at hg) (M.wf K.com.wf) M.size (fun g l hg hl=>?_) (fun i1 i2 x h1 h2 e1 e2=>?_),T.a,hc,fun i' hi'=>?_,wgAt_same K.wg (M.ne _ (by have:=G.ne;omega) (by have:=G.ne;omega)),K.nr.app U.rel,
  fun b hb hlt=>by have:=K.lab b hb (by rw[M.size] at hlt;exact hlt);omega,fun i' hi' x hx=>?_,fun x hx=>?_,fun x hx=>by have:=K.dx x hx;omega,hnx,fun hb=>by rw[hca] at hb;cases hb⟩
 ·obtain⟨b,hb,hl',h⟩:=hl
  rcases h with h|⟨i',x,h1,h2,h3⟩
  ·exact .inl ⟨b,hb,hl',.inl h⟩
  ·by_cases e:i'=i
   ·subst e
    rw[upd_same] at h2
    cases h2
    refine .inr ⟨b,?_,hl'⟩
    rcases Nat.lt_or_ge b w.heap.size with hlt|hge
    ·have:=K.lab b hb hlt;omega
    ·exact hge
   ·rw[upd_ne hold _ e] at h2
    exact .inl ⟨b,hb,hl',.inr ⟨i',x,h1,h2,h3⟩⟩
 ·by_cases d1:i1=i<;>by_cases d2:i2=i
  ·omega
  ·subst d1
   rw[upd_same] at e1
   cases e1
   rw[upd_ne hold _ d2] at e2
   have:=(K.hn i2 h2 _ e2).1
   omega
  ·subst d2
   rw[upd_same] at e2
   cases e2
   rw[upd_ne hold _ d1] at e1
   have:=(K.hn i1 h1 _ e1).1
   omega
  ·rw[upd_ne hold _ d1] at e1
   rw[upd_ne hold _ d2] at e2
   exact K.com.inj i1 i2 x h1 h2 e1 e2
 ·by_cases e:i'=i
  ·subst e
   exact⟨g1,T.g,by rw[upd_same,upd_same,upd_same];exact hw⟩
  ·obtain⟨g',hg',hs⟩:=K.wk i' hi'
   exact⟨g',by rw[T.o _ (by omega) (by omega)];exact hg',by rw[upd_ne hold _ e,upd_ne rk _ e,upd_ne fW _ e];exact hs.keep (lab:=0) G hB (M.kp 0) (fun _ _=>rfl) (fun x _=>by omega)⟩
 ·by_cases e:i'=i
  ·subst e
   rw[upd_same] at hx
   cases hx
   refine⟨by omega,?_⟩
   cases hd:dn nx with
   | false=>rfl
   | true=>have:=K.dx nx hd;omega
  ·rw[upd_ne hold _ e] at hx
   have:=K.hn i' hi' x hx
   exact⟨by omega,this.2⟩
 ·rcases Nat.lt_or_ge x nx with h|h
  ·rcases K.all x h with h|⟨i',hi',h⟩
   ·exact .inl h
   ·refine .inr ⟨i',hi',?_⟩
    by_cases e:i'=i
    ·subst e;rw[hh] at h;cases h
    ·rw[upd_ne hold _ e];exact h
  ·exact .inr ⟨i,hi,by rw[upd_same,show x=nx by omega]⟩
theorem KS.take (G:Geo J)(K:KS J c0 gs w t q own hold dn nx rc n0 rk fW a){i x:Nat}(hi:i<J.m)(hh:hold i=some x){a' g1:Goroutine}(T:Two J i gs gs' a' g1)(M:Met J w w')(U:MetU J u){n':Nat}{f':Fu}
  (hc:CS J c0 own w' (upd dn x true) nx 4 n' a') (hca:a'.status=.running) (hw:WS J own w' none 1 f' g1) (hg1:g1.status=.running) :
  KS J c0 gs' w' (t++u) q own (upd hold i none) (upd dn x true) nx 4 n' (upd rk i 1) (upd fW i f') a':=by
 have hs0:=G.s0
 have hB:=K.com.wf.size
 refine⟨K.com.quiet U.none (U.low G hB) U.deaf T.size (fun y g h0 hy hg=>by rwa [T.o y (by omega) (by omega)] at hg) (M.wf K.com.wf) M.size (fun g l hg hl=>?_) (fun i1 i2 x h1 h2 e1 e2=>?_),T.a,hc,fun i' hi'=>?_,wgAt_same K.wg (M.ne _ (by have:=G.ne;omega) (by have:=G.ne;omega)),K.nr.app U.rel,
  fun b hb hlt=>K.lab b hb (by rw[M.size] at hlt;exact hlt),fun i' hi' y hy=>?_,fun y hy=>?_,fun y hy=>?_,K.le,fun hb=>by rw[hca] at hb;cases hb⟩
 ·obtain⟨b,hb,hl',h⟩:=hl
  rcases h with h|⟨i',x,h1,h2,h3⟩
  ·exact .inl ⟨b,hb,hl',.inl h⟩
  ·by_cases e:i'=i
   ·subst e
    rw[upd_same] at h2
    cases h2
   ·rw[upd_ne hold _ e] at h2
    exact .inl ⟨b,hb,hl',.inr ⟨i',x,h1,h2,h3⟩⟩
 ·by_cases d1:i1=i
  ·subst d1
   rw[upd_same] at e1
   cases e1
  ·by_cases d2:i2=i
   ·subst d2
    rw[upd_same] at e2
    cases e2
   ·rw[upd_ne hold _ d1] at e1
    rw[upd_ne hold _ d2] at e2
    exact K.com.inj i1 i2 x h1 h2 e1 e2
 ·by_cases e:i'=i
  ·subst e
   exact⟨g1,T.g,by rw[upd_same,upd_same,upd_same];exact hw⟩
  ·obtain⟨g',hg',hs⟩:=K.wk i' hi'
   exact⟨g',by rw[T.o _ (by omega) (by omega)];exact hg',by rw[upd_ne hold _ e,upd_ne rk _ e,upd_ne fW _ e];exact hs.keep (lab:=0) G hB (M.kp 0) (fun _ _=>rfl) (fun x _=>by omega)⟩
 ·by_cases e:i'=i
  ·subst e
   rw[upd_same] at hy
   cases hy
  ·rw[upd_ne hold _ e] at hy
   have h1:=K.hn i' hi' y hy
   have hne:y≠x:=by
    rintro rfl
    exact e (K.com.inj i' i y hi' hi hy hh)
   exact⟨h1.1,by rw[upd_ne dn _ hne];exact h1.2⟩
 ·by_cases e:y=x
  ·subst e
   exact .inl (by rw[upd_same])
  ·rcases K.all y hy with h|⟨i',hi',h⟩
   ·exact .inl (by rw[upd_ne dn _ e];exact h)
   ·refine .inr ⟨i',hi',?_⟩
    by_cases e':i'=i
    ·subst e';rw[hh] at h;cases h;exact absurd rfl e
    ·rw[upd_ne hold _ e'];exact h
 ·by_cases e:y=x
  ·subst e
   exact (K.hn i hi y hh).1
  ·rw[upd_ne dn _ e] at hy
   exact K.dx y hy
end
end Go.Proofs.YtjeicikflkjacaaGreatDoor.Ms

/- A caller and its workers: numbers are handed out, what came of them comes in: the caller's steps. -/
set_option linter.unusedVariables false
namespace Go.Proofs.YtjeicikflkjacaaGreatDoor.Ms
open Go Go.Conc Go.Conc.Lib Go.ConcN
open Go.ConcR (KK wgBlock WgAt stA smA rd wr mk Payload Aside2 DC0 g_of_ofEvents ofEvent_cell ofEvent_mk)
open Par (Cx LocIn Bij VR WR AR OR idB shutW Work Fr EsR EvR)
open Mk (Still CaseOk ChanOpen go_still comm_any offers_at Acs Down meets_send meets_recv)
def fuel (q:Nat→Nat)(s0 n0:Nat)(fW:Nat→Fu):Nat→Fu
 | 0=>.inl (n0+sumTo s0 q)
 | i+1=>fW i
def Phi (J:Job)(dn:Nat→Bool)(nx rc:Nat)(rk:Nat→Nat):Nat:=100*(J.N - nx)+100*(J.N - cnt J dn)+sumTo J.m rk+rc
abbrev MuK (J:Job):Type:=Nat × Acs LtF (J.m+1)
def LtK (J:Job):MuK J→MuK J→Prop:=Prod.Lex (· < ·) fun f g=>Down LtF (J.m+1) f.1 g.1
def InvK (J:Job)(c0:Frame)(μ:MuK J)(m:Machine)(t:Trace):Prop :=
 ∃gs w sl q own hold dn nx rc n0 rk fW a,m=crowd gs w sl∧KS J c0 gs w t q own hold dn nx rc n0 rk fW a∧μ.1=Phi J dn nx rc rk∧μ.2.1=fuel q J.s0 n0 fW
def OutK (J:Job)(c0:Frame)(μ:MuK J)(r:Stepped × Array MemOp)(t:Trace):Prop:=∃m' ops μ',r=(.next m',ops)∧LtK J μ' μ∧InvK J c0 μ' m' (t++ops)
section
variable {J:Job} {c0:Frame} {gs gs':Array Goroutine} {w w':World} {t:Trace} {q q':Nat→Nat} {own own':Nat→Nat} {hold hold':Nat→Option Nat} {dn dn':Nat→Bool} {nx nx' rc rc' n0 n0':Nat} {rk rk':Nat→Nat} {fW fW':Nat→Fu} {a a':Goroutine}
theorem KS.accs (K:KS J c0 gs w t q own hold dn nx rc n0 rk fW a):∀i,i<J.m+1→Acc LtF (fuel q J.s0 n0 fW i)
 | 0,_=>acc_n _
 | i+1,h=>by
  obtain⟨g,_,hs⟩:=K.wk i (by omega)
  exact hs.acc
section
variable {μ:MuK J} {sl:Option (Nat × Nat)} {ops:Array MemOp} {r:Stepped × Array MemOp}
theorem out_phi (h1:μ.1=Phi J dn nx rc rk)(hr:r=(.next (crowd gs' w' sl),ops))(K:KS J c0 gs' w' (t++ops) q' own' hold' dn' nx' rc' n0' rk' fW' a')(h:Phi J dn' nx' rc' rk'<Phi J dn nx rc rk):OutK J c0 μ r t:=by
 refine⟨_,_,(Phi J dn' nx' rc' rk',⟨fuel q' J.s0 n0' fW',K.accs⟩),hr,?_,_,_,_,_,_,_,_,_,_,_,_,_,_,rfl,K,rfl,rfl⟩
 obtain⟨p,f⟩:=μ
 exact Prod.Lex.left _ _ (by simp only at h1;omega)
theorem out_fuel (h1:μ.1=Phi J dn nx rc rk)(h2:μ.2.1=fuel q J.s0 n0 fW)(hr:r=(.next (crowd gs' w' sl),ops))(K:KS J c0 gs' w' (t++ops) q' own' hold' dn nx rc n0' rk' fW' a')(hp:sumTo J.m rk'=sumTo J.m rk)(h:Down LtF (J.m+1) (fuel q' J.s0 n0' fW') (fuel q J.s0 n0 fW)):OutK J c0 μ r t:=by
 have e:Phi J dn nx rc rk'=Phi J dn nx rc rk:=by unfold Phi;rw[hp]
 refine⟨_,_,(Phi J dn nx rc rk',⟨fuel q' J.s0 n0' fW',K.accs⟩),hr,?_,_,_,_,_,_,_,_,_,_,_,_,_,_,rfl,K,rfl,rfl⟩
 obtain⟨p,f⟩:=μ
 simp only at h1 h2
 rw[e,h1]
 refine Prod.Lex.right _ ?_
 show Down LtF (J.m+1) (fuel q' J.s0 n0' fW') f.1
 rw[h2]
 exact h
theorem out_fuelC (h1:μ.1=Phi J dn nx rc rk)(h2:μ.2.1=fuel q J.s0 n0 fW)(hr:r=(.next (crowd gs' w' sl),ops))(K:KS J c0 gs' w' (t++ops) q' own' hold' dn nx rc n0' rk fW a')(h:n0'+sumTo J.s0 q'<n0+sumTo J.s0 q):OutK J c0 μ r t :=
 out_fuel h1 h2 hr K rfl ⟨0,by omega,.n h,fun j hj=>by
  cases j with
  | zero=>exact absurd rfl hj
  | succ j=>rfl⟩
theorem out_fuelW (h1:μ.1=Phi J dn nx rc rk)(h2:μ.2.1=fuel q J.s0 n0 fW)(hr:r=(.next (crowd gs' w' sl),ops)){i:Nat}(hi:i<J.m){f':Fu}(K:KS J c0 gs' w' (t++ops) q own' hold' dn nx rc n0 (upd rk i (rk i)) (upd fW i f') a')(h:LtF f' (fW i)):OutK J c0 μ r t:=by
 refine out_fuel h1 h2 hr K ?_ ⟨i+1,by omega,?_,fun j hj=>?_⟩
 ·congr 1
  funext y
  by_cases e:y=i
  ·subst e;rw[upd_same]
  ·rw[upd_ne rk _ e]
 ·show LtF (upd fW i f' i) (fW i)
  rw[upd_same];exact h
 ·cases j with
  | zero=>rfl
  | succ j =>
   show upd fW i f' j=fW j
   rw[upd_ne fW _ (by omega)]
end
theorem phi_rk {i x:Nat}(hi:i<J.m)(h:x<rk i):Phi J dn nx rc (upd rk i x)<Phi J dn nx rc rk:=by
 have h1:=sumTo_upd rk x id hi
 have h2:sumTo J.m (upd rk i x)+rk i=sumTo J.m rk+x:=h1
 unfold Phi
 omega
theorem phi_give {i x rc':Nat}(hi:i<J.m)(hx:x≤5)(hrc:rc'≤5)(hnx:nx<J.N):Phi J dn (nx+1) rc' (upd rk i x)<Phi J dn nx rc rk:=by
 have h1:=sumTo_upd rk x id hi
 have h2:sumTo J.m (upd rk i x)+rk i=sumTo J.m rk+x:=h1
 unfold Phi
 omega
theorem phi_take {i x y rc':Nat}(hi:i<J.m)(hx:x≤5)(hrc:rc'≤5)(hy:y<J.N)(hd:dn y=false):Phi J (upd dn y true) nx rc' (upd rk i x)<Phi J dn nx rc rk:=by
 have h1:=sumTo_upd rk x id hi
 have h2:sumTo J.m (upd rk i x)+rk i=sumTo J.m rk+x:=h1
 have h3:=cnt_put hy hd
 have h4:cnt J (upd dn y true)≤J.N:=cnt_le
 unfold Phi
 omega
theorem put3_size {L:Array Value}{o:Nat}{x y z:Value}(h:o+3≤L.size):(put3 L o x y z).size=L.size:=by
 simp[put3]
 omega
theorem put3_at {L:Array Value}{o:Nat}{x y z:Value}(h:o+3≤L.size):(put3 L o x y z)[o]?=some x∧(put3 L o x y z)[o+1]?=some y∧(put3 L o x y z)[o+2]?=some z:=by
 have hl:(L.toList.take o).length=o:=by simp;omega
 refine⟨?_,?_,?_⟩
 all_goals
  simp only[put3,List.append_assoc,List.getElem?_toArray]
  rw[List.getElem?_append_right (by omega),hl]
  simp
theorem put3_ne {L:Array Value}{o j:Nat}{x y z:Value}(h:o+3≤L.size)(hj:j<o∨o+3≤j):(put3 L o x y z)[j]?=L[j]?:=by
 have hl:(L.toList.take o).length=o:=by simp;omega
 simp only[put3,List.append_assoc,List.getElem?_toArray]
 rcases hj with hj|hj
 ·rw[List.getElem?_append_left (by omega)]
  simp[hj]
 ·rw[List.getElem?_append_right (by omega),List.getElem?_append_right (by simp;omega),hl]
  simp only[List.length_cons,List.length_nil,List.getElem?_drop]
  rw[show o+3+(j - o - (0+1+1+1))=j by omega]
  simp
end
end Go.Proofs.YtjeicikflkjacaaGreatDoor.Ms

/- A caller and its workers: numbers are handed out, what came of them comes in: a step of the caller's. -/
set_option linter.unusedVariables false
namespace Go.Proofs.YtjeicikflkjacaaGreatDoor.Ms
open Go Go.Conc Go.Conc.Lib Go.ConcN
open Go.ConcR (KK wgBlock WgAt stA smA rd wr mk Payload Aside2 DC0 g_of_ofEvents ofEvent_cell ofEvent_mk)
open Par (Cx LocIn Bij VR WR AR OR idB shutW Work Fr EsR EvR)
open Mk (Still CaseOk ChanOpen go_still comm_any offers_at Acs Down meets_send meets_recv)
section
variable {J:Job} {c0:Frame} {gs:Array Goroutine} {w w':World} {t:Trace} {q:Nat→Nat} {own own':Nat→Nat} {hold:Nat→Option Nat} {dn:Nat→Bool} {nx rc n0:Nat} {rk:Nat→Nat} {fW:Nat→Fu} {a:Goroutine}
theorem Lst.else (G:Geo J)(hB:J.base≤w.heap.size){bL:Nat}{o:Option Nat}(L:Lst J own w dn bL o)(K:Kp J own 0 w w')(ho:∀b,b<w.heap.size→own' b=own b)(h:w'.heap[bL]?=w.heap[bL]?):Lst J own' w' dn bL o:=by
 obtain⟨h1,h2,l,h3,h4,h5⟩:=L
 have hlt:=(Array.getElem?_eq_some_iff.1 h3).1
 refine⟨h1,by rw[ho bL hlt];exact h2,l,h.trans h3,h4,fun x hx hd hne=>?_⟩
 obtain⟨a,e,e1,e2,e3,D⟩:=h5 x hx hd hne
 exact⟨a,e,e1,e2,e3,D.keep G hB K ho (by omega)⟩
theorem Lst.lt {bL:Nat}{o:Option Nat}(L:Lst J own w dn bL o):bL<w.heap.size:=by
 obtain⟨_,_,l,h3,_,_⟩:=L
 exact (Array.getElem?_eq_some_iff.1 h3).1
theorem al_old (o:Obj){b:Nat}(hb:b<w.heap.size):(w.alloc o).heap[b]?=w.heap[b]?:=by
 show (w.heap.push o)[b]?=_
 simp[Array.getElem?_push,Nat.ne_of_lt hb]
theorem al_new (o:Obj):(w.alloc o).heap[w.heap.size]?=some o:=by
 show (w.heap.push o)[w.heap.size]?=_
 simp
theorem al_size (o:Obj):(w.alloc o).heap.size=w.heap.size+1:=by
 show (w.heap.push o).size=_
 simp
theorem kp_alloc (o:Obj):Kp J own 0 w (w.alloc o):=⟨fun b hb _ _ _ _=>al_old o hb,by rw[al_size];omega,rfl,rfl⟩
theorem kp_row {b:Nat}(cs:Array Value)(ho:own b=0)(hb:J.base≤b):Kp J own 0 w (w.setRow b cs):=⟨fun y hy _ _ _ h=>setRow_other w b y cs (by rintro rfl;omega),by simp,rfl,rfl⟩
theorem own_new (b x:Nat)(hb:b<w.heap.size):upd own w.heap.size x b=own b:=upd_ne own x (by omega)
theorem bm_of {bT x:Nat}{a:Int}{e:Value}(h:Bc J.k w)(hT:w.heap[bT]?=some (.cells #[.int .i64 (x:Nat),.int .i64 a,e] 65 (0,0))):Bm J.k bT x a e w:=⟨h,by simp[World.cell?,hT],by simp[World.cell?,hT],by simp[World.cell?,hT]⟩
theorem offers_recv {g:Goroutine}{c:Nat}{z:Value}{sh:CommShape}:(0:Nat)∈offersAt (parked g #[rcase c z] sh) c false:=by
 rw[offersAt_parked_at (k:=0) (z:=z) rfl (fun m cc hm h=>by
  cases m with
  | zero=>exact absurd rfl hm
  | succ m=>simp at h)]
 simp
theorem offers_send {g:Goroutine}{c:Nat}{v z:Value}{sh:CommShape}:(0:Nat)∈offersAt (parked g #[scase c v z] sh) c true:=by
 simp[offersAt,parked,scase]
theorem KS.atN (G:Geo J)(K:KS J c0 gs w t q own hold dn nx rc n0 rk fW a){y kj:Nat}{gj:Goroutine}(hy:gs[y]?=some gj)(hne:y≠0)(hk:kj∈offersAt gj J.k.cN false) :
  ∃i g',y=J.s0+i∧i<J.m∧hold i=none∧RecvG J.k g'∧gj=parked g' #[rcase J.k.cN (.int .i64 0)] (.recv true)∧kj=0:=by
 obtain⟨cs,sh,hb,ho,cc,hcc,hsd,hch⟩:=offers_at hk
 have hlt:=(Array.getElem?_eq_some_iff.1 hy).1
 rw[K.com.size] at hlt
 rcases Nat.lt_or_ge y J.s0 with h|h
 ·rcases (K.com.old y gj (by omega) h hy).status with h|h<;>rw[h] at hb<;>cases hb
 obtain⟨i,rfl⟩:∃i,y=J.s0+i:=⟨y - J.s0,by omega⟩
 obtain⟨g',hg',hs⟩:=K.wk i (by omega)
 rw[hy] at hg';cases hg'
 rcases hs.kind with h|⟨h1,_,g',h2,rfl⟩|⟨x,a,e,z,g',_,_,_,_,rfl⟩
 ·rw[h] at hb;cases hb
 ·simp only[parked,Option.some.injEq,Prod.mk.injEq] at ho
  obtain⟨rfl,rfl⟩:=ho
  refine⟨i,g',rfl,by omega,h1,h2,rfl,?_⟩
  cases kj with
  | zero=>rfl
  | succ k=>simp at hcc
 ·simp only[parked,Option.some.injEq,Prod.mk.injEq] at ho
  obtain⟨rfl,rfl⟩:=ho
  have:=Array.mem_of_getElem? hcc
  rw[Array.mem_singleton] at this
  subst this
  simp[scase] at hsd
theorem KS.atR (G:Geo J)(K:KS J c0 gs w t q own hold dn nx rc n0 rk fW a){y kj:Nat}{gj:Goroutine}(hy:gs[y]?=some gj)(hne:y≠0)(hk:kj∈offersAt gj J.k.cR true) :
  ∃i x b e z g',y=J.s0+i∧i<J.m∧hold i=some x∧SendG J.k (x:Nat) b e g'∧Dn J own w x b e∧gj=parked g' #[scase J.k.cR (.agg #[.int .i64 (x:Nat),.int .i64 b,e]) z] .send∧kj=0:=by
 obtain⟨cs,sh,hb,ho,cc,hcc,hsd,hch⟩:=offers_at hk
 have hlt:=(Array.getElem?_eq_some_iff.1 hy).1
 rw[K.com.size] at hlt
 rcases Nat.lt_or_ge y J.s0 with h|h
 ·rcases (K.com.old y gj (by omega) h hy).status with h|h<;>rw[h] at hb<;>cases hb
 obtain⟨i,rfl⟩:∃i,y=J.s0+i:=⟨y - J.s0,by omega⟩
 obtain⟨g',hg',hs⟩:=K.wk i (by omega)
 rw[hy] at hg';cases hg'
 rcases hs.kind with h|⟨h1,_,g',h2,rfl⟩|⟨x,a,e,z,g',h1,_,h2,h3,rfl⟩
 ·rw[h] at hb;cases hb
 ·simp only[parked,Option.some.injEq,Prod.mk.injEq] at ho
  obtain⟨rfl,rfl⟩:=ho
  have:=Array.mem_of_getElem? hcc
  rw[Array.mem_singleton] at this
  subst this
  simp[rcase] at hsd
 ·simp only[parked,Option.some.injEq,Prod.mk.injEq] at ho
  obtain⟨rfl,rfl⟩:=ho
  refine⟨i,x,a,e,z,g',rfl,by omega,h1,h2,h3,rfl,?_⟩
  cases kj with
  | zero=>rfl
  | succ k=>simp at hcc
theorem sel0 {nx:Nat}(h:nx<J.N):selC J.k J.N nx=#[scase J.k.cN (.int .i64 (nx:Nat)) (.int .i64 0),rcase J.k.cR zMd]:=by
 simp only[selC,nch_open J.k h,scase]
theorem Lst.put {bL x:Nat}(L:Lst J own w dn bL none):Lst J own w (upd dn x true) bL (some x):=by
 obtain⟨h1,h2,l,h3,h4,h5⟩:=L
 refine⟨h1,h2,l,h3,h4,fun y hy hd hne=>?_⟩
 have hyx:y≠x:=fun e=>hne (by rw[e])
 rw[upd_ne dn _ hyx] at hd
 exact h5 y hy hd (by simp)
set_option maxHeartbeats 2000000 in
theorem stepKC (G:Geo J)(hN:J.N<1000000)(hend:∀ {bL nx th:Nat} {g:Goroutine},¬th<J.N→CHead J.k J.N (c0 :: J.c :: J.cs) bL nx th g→To PP true (Bc J.k) (EvC J.k) (CloseG J.k J.N (J.m:Nat) bL (J.c :: J.cs)) g)
  (K:KS J c0 gs w t q own hold dn nx rc n0 rk fW a) {μ:MuK J} (h1:μ.1=Phi J dn nx rc rk) (h2:μ.2.1=fuel q J.s0 n0 fW) (hrun:a.status=.running) (sl:Option (Nat × Nat)) {Q:Prop} (hQ:OutK J c0 μ (runT PP (crowd gs w sl) 0) t→Q)
  (hF:∀ {bL:Nat} {g2:Goroutine},(∀x,x<J.N→dn x=true)→Lst J own w dn bL none→Sl PP true (Bc J.k) (EvC J.k) n0 a g2→CloseG J.k J.N (J.m:Nat) bL (J.c :: J.cs) g2→rc=0→Q):Q:=by
 have hs0:=G.s0
 have hwf:=K.com.wf
 have hBs:=hwf.size
 have hbx:=bx_of G hwf
 have hbc:Bc J.k w:=⟨hbx,⟨_,_,K.wg⟩⟩
 have hst:=fun {w':World} (hw':WF J false w') (j:Nat) (gj:Goroutine) (_:j≠0) (hj:gs[j]?=some gj)=>K.still hw' j gj hj
 have idle:∀ {g1:Goroutine} {es:Array Event} {n':Nat},(∀e∈es,EvC J.k e)→stepG PP true a w=.go g1 w es→CS J c0 own w dn nx rc n' g1→g1.status=.running→n'<n0→OutK J c0 μ (runT PP (crowd gs w sl) 0) t:=by
  intro g1 es n' he hgo hc hr hn
  exact out_fuelC h1 h2 (go_still (i:=0) K.h0 hgo (hst hwf)) (K.movC G .refl (fun _ _=>rfl) (fun _ _=>rfl) (fun b h h'=>by omega) (fun e h=>evOk_cal G hBs (he e h)) (fun e h=>evC_still (he e h)) hc (fun hb=>by rw[hr] at hb;cases hb)) (by omega)
 have hcal:=K.cal
 cases hcal with
 | fin hd L h r=>exact hF hd L h r rfl
 | par hth hc L r=>cases hrun
 | mk hnx hd h r =>
  refine hQ ?_
  cases h with
  | cons hs he hstp t'=>exact idle he (hstp w hbc) (.mk hnx hd t' r) (sl_status t' (mk_run r)) (by omega)
  | nil =>
   obtain⟨_,g1,hgo,hto⟩:=mk_step hN r w
   have hk:=kp_alloc (J:=J) (own:=own) (w:=w) (.cells (zL J.N) 65)
   have hch:∀b,b=J.k.wg∨b=J.k.cN∨b=J.k.cR→(w.alloc (.cells (zL J.N) 65)).heap[b]?=w.heap[b]?:=fun b hb=>al_old _ (by have:=G.wg;have:=G.cN;have:=G.cR;rcases hb with rfl|rfl|rfl<;>omega)
   have ho:=own_new (w:=w) (own:=own) (x:=0)
   have hnw:∀b,w.heap.size≤b→b<(w.alloc (.cells (zL J.N) 65)).heap.size→upd own w.heap.size 0 b=0:=fun b h h'=>by
    rw[al_size] at h'
    rw[show b=w.heap.size by omega,upd_same]
   have hL:Lst J (upd own w.heap.size 0) (w.alloc (.cells (zL J.N) 65)) dn w.heap.size none:=⟨hBs,upd_same _ _ _,zL J.N,al_new _,by simp[zL,Go.madeCells],fun x _ hdx=>by rw[hd x] at hdx;cases hdx⟩
   have hr:=go_still (sl:=sl) (i:=0) K.h0 hgo (hst (hwf.kp G hk hch))
   rcases Nat.lt_or_ge 0 J.N with hp|hp
   ·obtain⟨n,g2,hsl,hsel⟩:=hto.bind fun g hg=>chead_more hp hg
    subst hnx
    exact out_phi h1 hr (K.movC G hk hch ho hnw (fun e h=>by simp at h) (fun e h=>by simp at h) (.sel hp (cnt_none hd).symm hL hsl hsel) (fun hb=>by rw[sl_status hsl (sel_comm hsel default).1] at hb;cases hb)) (by unfold Phi;omega)
   ·obtain⟨n,g2,hsl,hcl⟩:=hto.bind fun g hg=>hend (by omega) hg
    exact out_phi h1 hr (K.movC G hk hch ho hnw (fun e h=>by simp at h) (fun e h=>by simp at h) (.fin (fun x hx=>by omega) hL hsl hcl) (fun hb=>by rw[sl_status hsl (close_step hcl).1] at hb;cases hb)) (by unfold Phi;omega)
 | sel hth hc L h r =>
  refine hQ ?_
  cases h with
  | cons hs he hstp t'=>exact idle he (hstp w hbc) (.sel hth hc L t' r) (sl_status t' (sel_comm r default).1) (by omega)
  | nil =>
   have hco:=(sel_comm r w).2
   rcases comm_any (P:=PP) (sl:=sl) (i:=0) K.h0 hco (case_ok hwf) with⟨hno,hnw⟩|⟨k,cc,c,y,kj,d,gj,hk,hch,hopen,hne,hgj,hkj,hrn⟩
   ·
    refine out_phi h1 (crowd_waits (P:=PP) (sl:=sl) (i:=0) K.h0 hco hnw) (K.movC G .refl (fun _ _=>rfl) (fun _ _=>rfl) (fun b h h'=>by omega) (fun e h=>by simp at h) (fun e h=>by simp at h) (.par hth hc L r) (fun _ i hi g hg hb=>?_)) (by unfold Phi;omega)
    obtain⟨g',hg',hs⟩:=K.wk i hi
    rw[hg] at hg';cases hg'
    rcases hs.kind with h|⟨e1,_,g',_,rfl⟩|⟨x,b,e,z,g',_,_,_,_,rfl⟩
    ·rw[h] at hb;cases hb
    ·refine⟨e1,?_⟩
     rcases Nat.lt_or_ge nx J.N with hlt|hge
     ·have hp:=hno (scase J.k.cN (.int .i64 (nx:Nat)) (.int .i64 0)) (by rw[sel0 hlt];simp) J.k.cN rfl
      have hm:(J.s0+i,0)∈partners (gs.setIfInBounds 0 ph) J.k.cN false:=mem_partners.2 ⟨_,by rw[set_get _ (by omega)];exact hg,offers_recv⟩
      rw[show (scase J.k.cN (.int .i64 (nx:Nat)) (.int .i64 0)).send.isNone=false from rfl] at hp
      rw[hp] at hm
      cases hm
     ·exact Nat.le_antisymm K.le hge
    ·have hp:=hno (rcase J.k.cR zMd) (by simp[selC]) J.k.cR rfl
     have hm:(J.s0+i,0)∈partners (gs.setIfInBounds 0 ph) J.k.cR true:=mem_partners.2 ⟨_,by rw[set_get _ (by omega)];exact hg,offers_send⟩
     rw[show (rcase J.k.cR zMd).send.isNone=true from rfl] at hp
     rw[hp] at hm
     cases hm
   ·have hk2:k=0∨k=1:=by
     have:=(Array.getElem?_eq_some_iff.1 hk).1
     simp[selC] at this
     omega
    rcases hk2 with rfl|rfl
    ·
     have hcc:cc={ chan:=nch J.k J.N nx,send:=some (.int .i64 (nx:Nat)),zero:=.int .i64 0 }:=by simpa [selC] using hk.symm
     have hlt:nx<J.N:=by
      rcases Nat.lt_or_ge nx J.N with h|h
      ·exact h
      ·rw[hcc] at hch
       rw[show (CommCase.chan { chan:=nch J.k J.N nx,send:=some (.int .i64 (nx:Nat)),zero:=.int .i64 0 })=nch J.k J.N nx from rfl,nch_shut J.k h (by omega)] at hch
       cases hch
     rw[nch_open J.k hlt] at hcc
     subst hcc
     cases hch
     obtain⟨i,g',rfl,hi,hh,hrv,rfl,rfl⟩:=K.atN G hgj hne hkj
     obtain⟨s,r',tm,hcn⟩:=hwf.cn
     have hlt':=(Array.getElem?_eq_some_iff.1 hgj).1
     have hM:=meets_send (P:=PP) (sl:=sl) (i:=0) (k:=0) (g₂:=a) (cases:=selC J.k J.N nx) (shape:=.select) (v:=.int .i64 (nx:Nat)) (z:=.int .i64 0) (d:=d) hcn hne hgj (kj:=0) (zj:=.int .i64 0) rfl
     rw[show ({ chan:=.chan (some J.k.cN),send:=some (.int .i64 (nx:Nat)),zero:=.int .i64 0 }:CommCase)=scase J.k.cN (.int .i64 (nx:Nat)) (.int .i64 0) from rfl,hM] at hrn
     rw[show MemOp.ofEvents 0 a.frame.fn a.frame.place #[]=#[] from rfl,Array.empty_append] at hrn
     have M:=met_of G hwf d (c:=J.k.cN) (s:=s+1) (r:=r'+1) (tm:=tm) (.inl rfl)
     obtain⟨n,g2,hsl,hsel⟩:=(sel_sent hlt (by omega) r).bind fun g hg=>chead_more hth hg
     obtain⟨n1,g3,hsl1,hcall⟩:=w_got J.k hrv (nx:Nat)
     refine out_phi h1 hrn (K.give G hi hlt hh (two_wc G hlt') M (metU (.inl rfl)) (.sel hth hc (L.keep (lab:=J.N+1) G hBs (M.kp _) (fun _ _=>rfl) (by omega) (fun y hy=>by have:=K.dx y hy;have:=K.le;omega)) hsl hsel) (sl_status hsl (sel_comm hsel default).1) (.got hsl1 hcall) (sl_status hsl1 (call_run hcall))) (phi_give hi (by omega) (by omega) hlt)
    ·
     have hcc:cc=rcase J.k.cR zMd:=by simpa [selC] using hk.symm
     subst hcc
     cases hch
     obtain⟨i,x,b,e,z,g',rfl,hi,hh,hsd,D,rfl,rfl⟩:=K.atR G hgj hne hkj
     obtain⟨s,r',tm,hcr⟩:=hwf.cr
     have hlt':=(Array.getElem?_eq_some_iff.1 hgj).1
     have hM:=meets_recv (P:=PP) (sl:=sl) (i:=0) (k:=1) (g₂:=a) (cases:=selC J.k J.N nx) (shape:=.select) (z:=zMd) (d:=d) hcr hne hgj (kj:=0) (vj:=.agg #[.int .i64 (x:Nat),.int .i64 b,e]) (zj:=z) rfl
     rw[hM,show MemOp.ofEvents 0 a.frame.fn a.frame.place #[]=#[] from rfl,Array.empty_append] at hrn
     have M:=met_of G hwf d (c:=J.k.cR) (s:=s+1) (r:=r'+1) (tm:=tm) (.inr rfl)
     obtain⟨n,g2,hsl,hal⟩:=sel_got (i:=x) (a:=b) (e:=e) r
     obtain⟨n1,g3,hsl1,hrv⟩:=w_sent J.k hsd #[scase J.k.cR (.agg #[.int .i64 (x:Nat),.int .i64 b,e]) z] 0 undef false
     have hx:=K.hn i hi x hh
     have hxN:x<J.N:=Nat.lt_of_lt_of_le hx.1 K.le
     have hbig:∀y,upd dn x true y=true→J.N+1≠y+1:=fun y hy=>by
      by_cases e:y=x
      ·omega
      ·rw[upd_ne dn _ e] at hy
       have:=K.dx y hy;have:=K.le;omega
     refine out_phi h1 hrn (K.take G hi hh (two_wc G hlt') M (metU (.inr rfl)) (.al hxN (upd_same _ _ _) (by rw[cnt_put hxN hx.2,hc]) (D.keep (lab:=J.N+1) G hBs (M.kp _) (fun _ _=>rfl) (by omega)) (L.put.keep (lab:=J.N+1) G hBs (M.kp _) (fun _ _=>rfl) (by omega) hbig) hsl hal) (sl_status hsl (al_step hal default).1) (.go hsl1 hrv) (sl_status hsl1 (recv_run hrv))) (phi_take hi (by omega) (by omega) hxN hx.2)
 | al hx hdx hc D L h r =>
  refine hQ ?_
  cases h with
  | cons hs he hstp t'=>exact idle he (hstp w hbc) (.al hx hdx hc D L t' r) (sl_status t' (al_step r default).1) (by omega)
  | nil =>
   obtain⟨_,g1,hgo,hs1⟩:=al_step r w
   have hk:=kp_alloc (J:=J) (own:=own) (w:=w) (.cells #[.int .i64 0,.int .i64 0,.nilIface] 65)
   have hch:∀b,b=J.k.wg∨b=J.k.cN∨b=J.k.cR→(w.alloc (.cells #[.int .i64 0,.int .i64 0,.nilIface] 65)).heap[b]?=w.heap[b]?:=fun b hb=>al_old _ (by have:=G.wg;have:=G.cN;have:=G.cR;rcases hb with rfl|rfl|rfl<;>omega)
   have ho:=own_new (w:=w) (own:=own) (x:=0)
   have hnw:∀b,w.heap.size≤b→b<(w.alloc (.cells #[.int .i64 0,.int .i64 0,.nilIface] 65)).heap.size→upd own w.heap.size 0 b=0:=fun b h h'=>by
    rw[al_size] at h'
    rw[show b=w.heap.size by omega,upd_same]
   have hr:=go_still (sl:=sl) (i:=0) K.h0 hgo (hst (hwf.kp G hk hch))
   have hLl:=L.lt
   exact out_phi h1 hr (K.movC G hk hch ho hnw (fun e h=>by simp at h) (fun e h=>by simp at h) (.s1 hx hdx hc (D.keep G hBs hk ho (by omega)) (L.else G hBs hk ho (al_old _ hLl)) (al_new _) rfl (by omega) hBs (upd_same _ _ _) hs1) (fun hb=>by rw[(st1_step hx D.1 hs1).1] at hb;cases hb)) (by unfold Phi;omega)
 | s1 hx hdx hc D L hT h3 hne hb ho r =>
  refine hQ ?_
  rename_i th bL x bT b e old
  obtain⟨_,g1,hall,n,g2,hsl,hs2⟩:=st1_step hx D.1 r
  obtain⟨es,hgo,hev⟩:=hall w old hT h3
  have hlt:=(Array.getElem?_eq_some_iff.1 hT).1
  have hk:=kp_row (J:=J) (own:=own) (w:=w) (b:=bT) (put3 old 0 (.int .i64 (x:Nat)) (.int .i64 b) e) ho hb
  have hch:∀y,y=J.k.wg∨y=J.k.cN∨y=J.k.cR→(w.setRow bT (put3 old 0 (.int .i64 (x:Nat)) (.int .i64 b) e)).heap[y]?=w.heap[y]?:=fun y hy=>setRow_other _ _ _ _ (by have:=G.wg;have:=G.cN;have:=G.cR;rcases hy with rfl|rfl|rfl<;>omega)
  have hr:=go_still (sl:=sl) (i:=0) K.h0 hgo (hst (hwf.kp G hk hch))
  have hrow:=setRow_heap w bT old (put3 old 0 (.int .i64 (x:Nat)) (.int .i64 b) e) _ _ hT
  have hput:put3 old 0 (.int .i64 (x:Nat)) (.int .i64 b) e=#[.int .i64 (x:Nat),.int .i64 b,e]:=by
   have:old.toList.drop 3=[]:=by rw[List.drop_eq_nil_iff];simp[h3]
   simp[put3,this]
  rw[hput] at hrow
  refine out_phi h1 hr (K.movC G hk hch (fun _ _=>rfl) (fun y h h'=>by rw[setRow_size] at h';omega) (fun ev h=>?_) (fun ev h=>?_) (.s2 hx hdx hc (D.keep G hBs hk (fun _ _=>rfl) (by omega)) (L.else G hBs hk (fun _ _=>rfl) (setRow_other _ _ _ _ (fun e=>hne e.symm))) (by rw[hput];exact hrow) hb ho hsl hs2) (fun hb=>by rw[sl_status hsl (st2_run hs2)] at hb;cases hb)) (by unfold Phi;omega)
  ·obtain⟨p,rfl⟩:=hev ev h
   exact evOk_mine hb ho (by rw[setRow_size];exact hlt) true
  ·obtain⟨p,rfl⟩:=hev ev h
   simp
 | s2 hx hdx hc D L hT hb ho h r =>
  refine hQ ?_
  rename_i th bL x bT b e g2
  have hltT:=(Array.getElem?_eq_some_iff.1 hT).1
  cases h with
  | cons hs he hstp t' =>
   have hgo:=hstp w (bm_of hbc hT)
   have hv:∀ev∈_,EvOk J own hold w.heap.size 0 ev∧ev.loc≠.mark .disable∧ev.loc≠.mark .enable∧ev.loc≠.mark (.release (stA J.k.wg)):=fun ev h=>by
    rcases he ev h with h|⟨p,rfl⟩
    ·exact⟨evOk_cal G hBs h,evC_still h⟩
    ·exact⟨evOk_mine hb ho hltT false,by simp,by simp,by simp⟩
   exact out_fuelC h1 h2 (go_still (i:=0) K.h0 hgo (hst hwf)) (K.movC G .refl (fun _ _=>rfl) (fun _ _=>rfl) (fun b h h'=>by omega) (fun ev h=>(hv ev h).1) (fun ev h=>(hv ev h).2) (.s2 hx hdx hc D L hT hb ho t' r) (fun hb=>by rw[sl_status t' (st2_run r)] at hb;cases hb)) (by omega)
  | nil =>
   have hcl:cnt J dn≤J.N:=cnt_le
   obtain⟨_,g1,hall,hto⟩:=st2_step hx (by omega) D.1 r
   obtain⟨hb1,hb2,l,hl,hls,hin⟩:=L
   have hltL:=(Array.getElem?_eq_some_iff.1 hl).1
   obtain⟨es,hgo,hev⟩:=hall w l hl hls
   have hk:=kp_row (J:=J) (own:=own) (w:=w) (b:=bL) (put3 l (x*3) (.int .i64 (x:Nat)) (.int .i64 b) e) hb2 hb1
   have hch:∀y,y=J.k.wg∨y=J.k.cN∨y=J.k.cR→(w.setRow bL (put3 l (x*3) (.int .i64 (x:Nat)) (.int .i64 b) e)).heap[y]?=w.heap[y]?:=fun y hy=>setRow_other _ _ _ _ (by have:=G.wg;have:=G.cN;have:=G.cR;rcases hy with rfl|rfl|rfl<;>omega)
   have hr:=go_still (sl:=sl) (i:=0) K.h0 hgo (hst (hwf.kp G hk hch))
   have ho3:x*3+3≤l.size:=by omega
   have hL':Lst J own (w.setRow bL (put3 l (x*3) (.int .i64 (x:Nat)) (.int .i64 b) e)) dn bL none:=by
    refine⟨hb1,hb2,_,setRow_heap w bL l _ _ _ hl,by rw[put3_size ho3];exact hls,fun y hy hd _=>?_⟩
    by_cases hyx:y=x
    ·subst hyx
     obtain⟨p1,p2,p3⟩:=put3_at (x:=.int .i64 (y:Nat)) (y:=.int .i64 b) (z:=e) ho3
     exact⟨b,e,p1,p2,p3,D.keep G hBs hk (fun _ _=>rfl) (by omega)⟩
    ·obtain⟨b',e',p1,p2,p3,D'⟩:=hin y hy hd (by simpa using fun h=>hyx h.symm)
     exact⟨b',e',by rw[put3_ne ho3 (by omega)];exact p1,by rw[put3_ne ho3 (by omega)];exact p2,by rw[put3_ne ho3 (by omega)];exact p3,D'.keep G hBs hk (fun _ _=>rfl) (by omega)⟩
   have hv:∀ev∈es,EvOk J own hold (w.setRow bL (put3 l (x*3) (.int .i64 (x:Nat)) (.int .i64 b) e)).heap.size 0 ev∧ev.loc≠.mark .disable∧ev.loc≠.mark .enable∧ev.loc≠.mark (.release (stA J.k.wg)):=fun ev h=>by
    obtain⟨p,rfl⟩:=hev ev h
    exact⟨evOk_mine hb1 hb2 (by rw[setRow_size];exact hltL) true,by simp,by simp,by simp⟩
   rcases Nat.lt_or_ge (th+1) J.N with hlt|hge
   ·obtain⟨n,g2,hsl,hsel⟩:=hto.bind fun g hg=>chead_more hlt hg
    exact out_phi h1 hr (K.movC G hk hch (fun _ _=>rfl) (fun y h h'=>by rw[setRow_size] at h';omega) (fun ev h=>(hv ev h).1) (fun ev h=>(hv ev h).2) (.sel hlt hc hL' hsl hsel) (fun hb=>by rw[sl_status hsl (sel_comm hsel default).1] at hb;cases hb)) (by unfold Phi;omega)
   ·obtain⟨n,g2,hsl,hcl'⟩:=hto.bind fun g hg=>hend (by omega) hg
    exact out_phi h1 hr (K.movC G hk hch (fun _ _=>rfl) (fun y h h'=>by rw[setRow_size] at h';omega) (fun ev h=>(hv ev h).1) (fun ev h=>(hv ev h).2) (.fin (sumTo_full _ _ (show cnt J dn=J.N by omega)) hL' hsl hcl') (fun hb=>by rw[sl_status hsl (close_step hcl').1] at hb;cases hb)) (by unfold Phi;omega)
end
end Go.Proofs.YtjeicikflkjacaaGreatDoor.Ms
