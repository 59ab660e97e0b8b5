/- A caller and its workers: numbers are handed out, what came of them comes in: what holds meanwhile. -/
import Derived.Test.YtjeicikflkjacaaGreatDoorM24
set_option linter.unusedVariables false
namespace Go.Proofs.YtjeicikflkjacaaGreatDoor.Ms
open Go Go.Conc Go.Conc.Lib Go.ConcN
open Go.ConcR (KK wgBlock WgAt stA smA rd wr mk Payload Aside2 DC0 g_of_ofEvents ofEvent_cell ofEvent_mk)
open Par (Cx LocIn Bij VR WR AR OR idB shutW Work Fr EsR EvR)
open Mk (Still CaseOk ChanOpen go_still comm_any offers_at Acs Down)
abbrev Fu:Type:=Nat ⊕ (Goroutine × World)
inductive LtF:Fu→Fu→Prop
 | n {a b:Nat} (h:a<b):LtF (.inl a) (.inl b)
 | w {p q:Goroutine × World} (h:Par.Lt PP p q):LtF (.inr p) (.inr q)
theorem acc_n:∀n,Acc LtF (.inl n):=fun n=>by
 induction n using Nat.strongRecOn with
 | _ n ih =>
  refine⟨_,fun y hy=>?_⟩
  cases hy with
  | n h=>exact ih _ h
theorem acc_w {p:Goroutine × World}(h:Acc (Par.Lt PP) p):Acc LtF (.inr p):=by
 induction h with
 | intro p _ ih =>
  refine⟨_,fun y hy=>?_⟩
  cases hy with
  | w h=>exact ih _ h
section
variable (J:Job)
structure Kp (own:Nat→Nat)(lab:Nat)(w w':World):Prop where
 same:∀b,b<w.heap.size→b≠J.k.wg→b≠J.k.cN→b≠J.k.cR→(b<J.base∨own b≠lab)→w'.heap[b]?=w.heap[b]?
 size:w.heap.size≤w'.heap.size
 os:w'.os=w.os∧w'.output=w.output
def Rng (own:Nat→Nat)(w:World)(x:Nat)(γ:Bij):Prop:=∀p b,γ.r p b→(p=b∧J.S b)∨(J.base≤b∧b<w.heap.size∧own b=x+1)
def Dn (own:Nat→Nat)(w:World)(x:Nat)(a:Int)(e:Value):Prop :=
 (e=.nilIface∨∃t v,e=.iface t v)∧∃(γ:Bij) (u:Value) (v:World),J.R x u v∧VR J.ok γ.r u (.tuple #[.int .i64 a,e])∧WR J.ok 0 γ v w∧Rng J own w x γ∧(idB J.S).le γ
inductive WS (own:Nat→Nat) (w:World):Option Nat→Nat→Fu→Goroutine→Prop
 | go {n:Nat} {g g2:Goroutine} (h:Sl PP false (Bx J.k) (EvB J.k) n g g2) (r:RecvG J.k g2):WS own w none 1 (.inl n) g
 | park {g:Goroutine} (r:RecvG J.k g):WS own w none 0 (.inl 0) (parked g #[rcase J.k.cN (.int .i64 0)] (.recv true))
 | got {n x:Nat} {g g2:Goroutine} (h:Sl PP false (Bx J.k) (EvB J.k) n g g2) (r:CallG J.k (x:Nat) g2):WS own w (some x) 5 (.inl n) g
 | work {x:Nat} {c0:Frame} {β:Bij} {gg g:Goroutine} {v:World} (h:Work J.ok PP (J.R x) [c0,bot] β gg v g w) (hle:(idB J.S).le β) (hr:Rng J own w x β)
   (hb:∀(a:Int) (e:Value),(e=.nilIface∨∃t v,e=.iface t v)→To PP false (Bx J.k) (EvB J.k) (SendG J.k (x:Nat) a e) (G (c0.finish (.tuple #[.int .i64 a,e])) [bot])):WS own w (some x) 4 (.inr (gg,v)) g
 | ret {n x:Nat} {a:Int} {e:Value} {g g2:Goroutine} (h:Sl PP false (Bx J.k) (EvB J.k) n g g2) (r:SendG J.k (x:Nat) a e g2) (D:Dn J own w x a e):WS own w (some x) 3 (.inl n) g
 | parkS {x:Nat} {a:Int} {e z:Value} {g:Goroutine} (r:SendG J.k (x:Nat) a e g) (D:Dn J own w x a e):WS own w (some x) 2 (.inl 0) (parked g #[scase J.k.cR (.agg #[.int .i64 (x:Nat),.int .i64 a,e]) z] .send)
def cnt (dn:Nat→Bool):Nat:=sumTo J.N fun x=>if dn x then 1 else 0
def Lst (own:Nat→Nat)(w:World)(dn:Nat→Bool)(bL:Nat)(o:Option Nat):Prop :=
 J.base≤bL∧own bL=0∧∃L,w.heap[bL]?=some (.cells L 65 (0,0))∧L.size=J.N*3∧∀x,x<J.N→dn x=true→o≠some x→∃a e,L[x*3]?=some (.int .i64 (x:Nat))∧L[x*3+1]?=some (.int .i64 a)∧L[x*3+2]?=some e∧Dn J own w x a e
inductive CS (c0:Frame) (own:Nat→Nat) (w:World) (dn:Nat→Bool) (nx:Nat):Nat→Nat→Goroutine→Prop
 | mk {n:Nat} {g g2:Goroutine} (hnx:nx=0) (hd:∀x,dn x=false) (h:Sl PP true (Bc J.k) (EvC J.k) n g g2) (r:MkG J.k J.N (c0 :: J.c :: J.cs) g2):CS c0 own w dn nx 10 n g
 | sel {n th bL:Nat} {g g2:Goroutine} (hth:th<J.N) (hc:th=cnt J dn) (L:Lst J own w dn bL none) (h:Sl PP true (Bc J.k) (EvC J.k) n g g2) (r:SelG J.k J.N (c0 :: J.c :: J.cs) bL nx th g2):CS c0 own w dn nx 1 n g
 | par {th bL:Nat} {g:Goroutine} (hth:th<J.N) (hc:th=cnt J dn) (L:Lst J own w dn bL none) (r:SelG J.k J.N (c0 :: J.c :: J.cs) bL nx th g):CS c0 own w dn nx 0 0 (parked g (selC J.k J.N nx) .select)
 | al {n th bL x:Nat} {a:Int} {e:Value} {g g2:Goroutine} (hx:x<J.N) (hdx:dn x=true) (hc:th+1=cnt J dn) (D:Dn J own w x a e) (L:Lst J own w dn bL (some x)) (h:Sl PP true (Bc J.k) (EvC J.k) n g g2) (r:AlG J.k J.N (c0 :: J.c :: J.cs) bL nx th x a e g2):CS c0 own w dn nx 4 n g
 | s1 {th bL x bT:Nat} {a:Int} {e:Value} {old:Array Value} {g:Goroutine} (hx:x<J.N) (hdx:dn x=true) (hc:th+1=cnt J dn) (D:Dn J own w x a e) (L:Lst J own w dn bL (some x)) (hT:w.heap[bT]?=some (.cells old 65 (0,0))) (h3:old.size=3) (hne:bT≠bL) (hb:J.base≤bT) (ho:own bT=0) (r:St1G J.k J.N (c0 :: J.c :: J.cs) bL nx th x a e bT g):CS c0 own w dn nx 3 0 g
 | s2 {n th bL x bT:Nat} {a:Int} {e:Value} {g g2:Goroutine} (hx:x<J.N) (hdx:dn x=true) (hc:th+1=cnt J dn) (D:Dn J own w x a e) (L:Lst J own w dn bL (some x)) (hT:w.heap[bT]?=some (.cells #[.int .i64 (x:Nat),.int .i64 a,e] 65 (0,0))) (hb:J.base≤bT) (ho:own bT=0) (h:Sl PP true (Bm J.k bT x a e) (EvM J.k bT) n g g2) (r:St2G J.k J.N (c0 :: J.c :: J.cs) bL nx th x a e g2):CS c0 own w dn nx 2 n g
 | fin {n bL:Nat} {g g2:Goroutine} (hd:∀x,x<J.N→dn x=true) (L:Lst J own w dn bL none) (h:Sl PP true (Bc J.k) (EvC J.k) n g g2) (r:CloseG J.k J.N (J.m:Nat) bL (J.c :: J.cs) g2):CS c0 own w dn nx 0 n g
end
section
variable {J:Job} {own own':Nat→Nat} {w w':World} {lab:Nat}
theorem Kp.refl:Kp J own lab w w:=⟨fun _ _ _ _ _ _=>rfl,Nat.le_refl _,rfl,rfl⟩
theorem Kp.at (d:Nat):Kp J own lab w (w.at d):=⟨fun _ _ _ _ _ _=>rfl,Nat.le_refl _,rfl,rfl⟩
theorem Rng.same (G:Geo J)(hB:J.base≤w.heap.size){x:Nat}{γ:Bij}(h:Rng J own w x γ)(K:Kp J own lab w w')(hl:lab≠x+1):∀p b,γ.r p b→w'.heap[b]?=w.heap[b]?:=by
 intro p b hpb
 rcases h p b hpb with⟨_,hS⟩|⟨h1,h2,h3⟩
 ·obtain⟨e1,e2,e3,e4,_⟩:=G.sS b hS
  exact K.same b (by omega) e2 e3 e4 (.inl e1)
 ·have:=G.wg;have:=G.cN;have:=G.cR
  exact K.same b h2 (by omega) (by omega) (by omega) (.inr (by omega))
theorem Rng.keep {x:Nat}{γ:Bij}(h:Rng J own w x γ)(hs:w.heap.size≤w'.heap.size)(ho:∀b,b<w.heap.size→own' b=own b):Rng J own' w' x γ:=by
 intro p b hpb
 rcases h p b hpb with h|⟨h1,h2,h3⟩
 ·exact .inl h
 ·exact .inr ⟨h1,by omega,by rw[ho b h2];exact h3⟩
theorem wr_keep {Ok:Cx}{γ:Bij}{v:World}(h:WR Ok 0 γ v w)(hb:∀p b,γ.r p b→w'.heap[b]?=w.heap[b]?)(hs:w.heap.size≤w'.heap.size):WR Ok 0 γ v w':=by
 refine⟨fun a b hab=>?_,fun i q hi=>absurd hi (Nat.not_lt_zero _),h.gl,h.vg,Nat.le_trans h.wg hs,h.sh⟩
 obtain⟨o,o',h1,h2,h3⟩:=h.obj a b hab
 exact⟨o,o',h1,by rw[hb a b hab];exact h2,h3⟩
theorem Dn.keep (G:Geo J)(hB:J.base≤w.heap.size){x:Nat}{a:Int}{e:Value}(D:Dn J own w x a e)(K:Kp J own lab w w')(ho:∀b,b<w.heap.size→own' b=own b)(hl:lab≠x+1):Dn J own' w' x a e:=by
 obtain⟨he,γ,u,v,h1,h2,h3,h4,h5⟩:=D
 exact⟨he,γ,u,v,h1,h2,wr_keep h3 (h4.same G hB K hl) K.size,h4.keep K.size ho,h5⟩
theorem WS.keep (G:Geo J)(hB:J.base≤w.heap.size){h:Option Nat}{r:Nat}{f:Fu}{g:Goroutine}(S:WS J own w h r f g)(K:Kp J own lab w w')(ho:∀b,b<w.heap.size→own' b=own b)(hl:∀x,h=some x→lab≠x+1):WS J own' w' h r f g:=by
 cases S with
 | go h r=>exact .go h r
 | park r=>exact .park r
 | got h r=>exact .got h r
 | work h hle hr hb=>exact .work (h.others (hr.same G hB K (hl _ rfl)) K.size) hle (hr.keep K.size ho) hb
 | ret h r D=>exact .ret h r (D.keep G hB K ho (hl _ rfl))
 | parkS r D=>exact .parkS r (D.keep G hB K ho (hl _ rfl))
theorem Lst.keep (G:Geo J)(hB:J.base≤w.heap.size){dn:Nat→Bool}{bL:Nat}{o:Option Nat}(L:Lst J own w dn bL o)(K:Kp J own lab w w')(ho:∀b,b<w.heap.size→own' b=own b)(h0:lab≠0)(hl:∀y,dn y=true→lab≠y+1):Lst J own' w' dn bL o:=by
 obtain⟨h1,h2,l,h3,h4,h5⟩:=L
 have hlt:=(Array.getElem?_eq_some_iff.1 h3).1
 have:=G.wg;have:=G.cN;have:=G.cR
 refine⟨h1,by rw[ho bL hlt];exact h2,l,by rw[K.same bL hlt (by omega) (by omega) (by omega) (.inr (by omega))];exact h3,h4,fun x hx hd hne=>?_⟩
 obtain⟨a,e,e1,e2,e3,D⟩:=h5 x hx hd hne
 exact⟨a,e,e1,e2,e3,D.keep G hB K ho (hl x hd)⟩
theorem CS.keep (G:Geo J)(hB:J.base≤w.heap.size){c0:Frame}{dn:Nat→Bool}{nx r n:Nat}{g:Goroutine}(C:CS J c0 own w dn nx r n g)(K:Kp J own lab w w')(ho:∀b,b<w.heap.size→own' b=own b)(h0:lab≠0)(hl:∀y,dn y=true→lab≠y+1):CS J c0 own' w' dn nx r n g:=by
 have hw:=G.wg;have hN:=G.cN;have hR:=G.cR
 have cell:∀ {b:Nat} {o:Obj},w.heap[b]?=some o→J.base≤b→own b=0→w'.heap[b]?=some o∧own' b=0:=fun {b o} h1 h2 h3=>by
  have hlt:=(Array.getElem?_eq_some_iff.1 h1).1
  exact⟨by rw[K.same b hlt (by omega) (by omega) (by omega) (.inr (by omega))];exact h1,by rw[ho b hlt];exact h3⟩
 cases C with
 | mk hnx hd h r=>exact .mk hnx hd h r
 | sel hth hc L h r=>exact .sel hth hc (L.keep G hB K ho h0 hl) h r
 | par hth hc L r=>exact .par hth hc (L.keep G hB K ho h0 hl) r
 | al hx hdx hc D L h r=>exact .al hx hdx hc (D.keep G hB K ho (hl _ hdx)) (L.keep G hB K ho h0 hl) h r
 | s1 hx hdx hc D L hT h3 hne hb ho' r=>exact .s1 hx hdx hc (D.keep G hB K ho (hl _ hdx)) (L.keep G hB K ho h0 hl) (cell hT hb ho').1 h3 hne hb (cell hT hb ho').2 r
 | s2 hx hdx hc D L hT hb ho' h r=>exact .s2 hx hdx hc (D.keep G hB K ho (hl _ hdx)) (L.keep G hB K ho h0 hl) (cell hT hb ho').1 hb (cell hT hb ho').2 h r
 | fin hd L h r=>exact .fin hd (L.keep G hB K ho h0 hl) h r
theorem WS.acc {h:Option Nat}{r:Nat}{f:Fu}{g:Goroutine}(S:WS J own w h r f g):Acc LtF f:=by
 cases S with
 | work h hle hr hb=>exact acc_w h.fin.acc
 | _=>exact acc_n _
theorem sl_status {main:Bool}{B:World→Prop}{Ev:Event→Prop}{n:Nat}{g g2:Goroutine}(h:Sl PP main B Ev n g g2)(h2:g2.status=.running):g.status=.running:=by
 cases h with
 | nil=>exact h2
 | cons hs _ _ _=>exact hs
theorem recv_run {k:Kt}{g:Goroutine}(h:RecvG k g):g.status=.running:=by obtain⟨_,_,_,_,_,_,_,_,_,_,_,_,_,_,_,_,_,rfl⟩:=h;rfl
theorem call_run {k:Kt}{i:Int}{g:Goroutine}(h:CallG k i g):g.status=.running:=by obtain⟨_,_,_,_,_,_,_,_,_,_,_,_,_,_,rfl⟩:=h;rfl
theorem send_run {k:Kt}{i a:Int}{e:Value}{g:Goroutine}(h:SendG k i a e g):g.status=.running:=(send_comm k h default).1
theorem work_run {Ok:Cx}{R:Value→World→Prop}{base:List Frame}{β:Bij}{gg g:Goroutine}{v:World}(h:Work Ok PP R base β gg v g w):g.status=.running:=by
 cases h.gr with
 | mk=>rfl
theorem WS.kind {h:Option Nat}{r:Nat}{f:Fu}{g:Goroutine}(S:WS J own w h r f g):g.status=.running∨(h=none∧r=0∧∃g',RecvG J.k g'∧g=parked g' #[rcase J.k.cN (.int .i64 0)] (.recv true)) ∨
  ∃x a e z g',h=some x∧r=2∧SendG J.k (x:Nat) a e g'∧Dn J own w x a e∧g=parked g' #[scase J.k.cR (.agg #[.int .i64 (x:Nat),.int .i64 a,e]) z] .send:=by
 cases S with
 | go h r=>exact .inl (sl_status h (recv_run r))
 | park r=>exact .inr (.inl ⟨rfl,rfl,_,r,rfl⟩)
 | got h r=>exact .inl (sl_status h (call_run r))
 | work h hle hr hb=>exact .inl (work_run h)
 | ret h r D=>exact .inl (sl_status h (send_run r))
 | parkS r D=>exact .inr (.inr ⟨_,_,_,_,_,rfl,rfl,r,D,rfl⟩)
theorem mk_run {k:Kt}{N:Nat}{cs:List Frame}{g:Goroutine}(h:MkG k N cs g):g.status=.running:=by obtain⟨_,_,_,_,_,_,_,_,_,_,_,_,_,_,_,_,_,_,_,_,_,_,_,_,_,_,_,_,_,_,_,_,_,rfl⟩:=h;rfl
theorem st2_run {k:Kt}{N:Nat}{cs:List Frame}{bL nx th i:Nat}{a:Int}{e:Value}{g:Goroutine}(h:St2G k N cs bL nx th i a e g):g.status=.running:=by obtain⟨_,_,_,_,_,_,_,_,_,_,_,_,_,_,_,_,_,_,_,_,_,_,_,_,_,_,_,_,_,rfl⟩:=h;rfl
theorem CS.kind {c0:Frame}{dn:Nat→Bool}{nx r n:Nat}{g:Goroutine}(C:CS J c0 own w dn nx r n g):g.status=.running∨∃th bL g',th<J.N∧th=cnt J dn∧Lst J own w dn bL none∧SelG J.k J.N (c0 :: J.c :: J.cs) bL nx th g'∧r=0∧g=parked g' (selC J.k J.N nx) .select:=by
 cases C with
 | mk hnx hd h r=>exact .inl (sl_status h (mk_run r))
 | sel hth hc L h r=>exact .inl (sl_status h (sel_comm r default).1)
 | par hth hc L r=>exact .inr ⟨_,_,_,hth,hc,L,r,rfl,rfl⟩
 | al hx hdx hc D L h r=>exact .inl (sl_status h (al_step r default).1)
 | s1 hx hdx hc D L hT h3 hne hb ho' r=>exact .inl (st1_step hx D.1 r).1
 | s2 hx hdx hc D L hT hb ho' h r=>exact .inl (sl_status h (st2_run r))
 | fin hd L h r=>exact .inl (sl_status h (close_step r).1)
theorem nch_open (k:Kt){N nx:Nat}(h:nx<N):nch k N nx=.chan (some k.cN):=by unfold nch;rw[if_neg (by omega)]
theorem nch_shut (k:Kt){N nx:Nat}(h:N≤nx)(h0:0<N):nch k N nx=.chan none:=by unfold nch;rw[if_pos ⟨h,h0⟩]
theorem case_ok (hw:WF J false w){nx:Nat}:∀cc∈selC J.k J.N nx,CaseOk w cc:=by
 intro cc hcc
 simp only[selC,List.mem_toArray,List.mem_cons,List.not_mem_nil,or_false] at hcc
 rcases hcc with rfl|rfl
 ·show CaseOk w _
  unfold CaseOk nch
  simp only
  split
  ·exact .inl rfl
  ·exact .inr ⟨J.k.cN,rfl,hw.cn⟩
 ·exact .inr ⟨J.k.cR,rfl,hw.cr⟩
theorem WS.still {h:Option Nat}{r:Nat}{f:Fu}{g:Goroutine}(S:WS J own w h r f g){w1:World}(hw:WF J false w1):Still w1 g:=by
 rcases S.kind with h|⟨_,_,g',_,rfl⟩|⟨x,a,e,z,g',_,_,_,_,rfl⟩
 ·exact .run h
 ·refine .park fun cc hcc=>?_
  rw[Array.mem_singleton] at hcc
  subst hcc
  exact .inr ⟨J.k.cN,rfl,hw.cn⟩
 ·refine .park fun cc hcc=>?_
  rw[Array.mem_singleton] at hcc
  subst hcc
  exact .inr ⟨J.k.cR,rfl,hw.cr⟩
theorem CS.still {c0:Frame}{dn:Nat→Bool}{nx r n:Nat}{g:Goroutine}(C:CS J c0 own w dn nx r n g){w1:World}(hw:WF J false w1):Still w1 g:=by
 rcases C.kind with h|⟨_,_,g',_,_,_,_,_,rfl⟩
 ·exact .run h
 ·exact .park (case_ok hw)
end
end Go.Proofs.YtjeicikflkjacaaGreatDoor.Ms

/- A caller and its workers: numbers are handed out, what came of them comes in: one moves. -/
set_option linter.unusedVariables false
namespace Go.Proofs.YtjeicikflkjacaaGreatDoor.Ms
open Go Go.Conc Go.Conc.Lib Go.ConcN
open Go.ConcR (KK wgBlock WgAt stA smA rd wr mk Payload Aside2 DC0 g_of_ofEvents ofEvent_cell ofEvent_mk)
open Par (Cx LocIn Bij VR WR AR OR idB shutW Work Fr EsR EvR)
open Mk (Still CaseOk ChanOpen go_still comm_any offers_at Acs Down)
structure KS (J:Job)(c0:Frame)(gs:Array Goroutine)(w:World)(t:Trace)(q:Nat→Nat)(own:Nat→Nat)(hold:Nat→Option Nat)(dn:Nat→Bool)(nx rc n0:Nat)(rk:Nat→Nat)(fW:Nat→Fu)(a:Goroutine):Prop where
 com:Com J J.m own hold (fun _=>0) 0 false q gs w t
 h0:gs[0]?=some a
 cal:CS J c0 own w dn nx rc n0 a
 wk:∀i,i<J.m→∃g,gs[J.s0+i]?=some g∧WS J own w (hold i) (rk i) (fW i) g
 wg:WgAt lk.tWg J.k.wg w ((J.m:Int)*KK) 0
 nr:NoRelease (stA J.k.wg) t
 lab:∀b,J.base≤b→b<w.heap.size→own b≤nx
 hn:∀i,i<J.m→∀x,hold i=some x→x<nx∧dn x=false
 all:∀x,x<nx→dn x=true∨∃i,i<J.m∧hold i=some x
 dx:∀x,dn x=true→x<nx
 le:nx≤J.N
 nm:a.status=.blocked→∀i,i<J.m→∀g,gs[J.s0+i]?=some g→g.status=.blocked→hold i=none∧nx=J.N
section
variable {J:Job} {c0:Frame} {gs gs':Array Goroutine} {w w':World} {t:Trace} {q:Nat→Nat} {own own':Nat→Nat} {hold hold':Nat→Option Nat} {dn:Nat→Bool} {nx rc n0:Nat} {rk:Nat→Nat} {fW:Nat→Fu} {a:Goroutine}
theorem sumTo_le1:∀(n:Nat) (f:Nat→Bool),sumTo n (fun x=>if f x then 1 else 0)≤n
 | 0,_=>Nat.le_refl 0
 | n+1,f=>by
  have:=sumTo_le1 n f
  simp only[sumTo]
  split<;>omega
theorem sumTo_full:∀(n:Nat) (f:Nat→Bool),sumTo n (fun x=>if f x then 1 else 0)=n→∀x,x<n→f x=true
 | 0,_,_,x,hx=>absurd hx (Nat.not_lt_zero _)
 | n+1,f,h,x,hx=>by
  have h1:=sumTo_le1 n f
  simp only[sumTo] at h
  by_cases e:f n=true
  ·rw[if_pos e] at h
   rcases Nat.lt_or_ge x n with h2|h2
   ·exact sumTo_full n f (by omega) x h2
   ·rw[show x=n by omega];exact e
  ·rw[if_neg e] at h;omega
theorem sumTo_all:∀(n:Nat) (f:Nat→Bool),(∀x,x<n→f x=true)→sumTo n (fun x=>if f x then 1 else 0)=n
 | 0,_,_=>rfl
 | n+1,f,h=>by
  simp only[sumTo,h n (Nat.lt_succ_self n),if_true]
  rw[sumTo_all n f fun x hx=>h x (by omega)]
theorem cnt_le:cnt J dn≤J.N:=sumTo_le1 _ _
theorem cnt_put {x:Nat}(hx:x<J.N)(hd:dn x=false):cnt J (upd dn x true)=cnt J dn+1:=by
 have:=sumTo_upd dn true (fun b:Bool=>if b then 1 else 0) hx
 simp only[hd] at this
 unfold cnt
 simpa using this
theorem cnt_none (h:∀x,dn x=false):cnt J dn=0:=by
 unfold cnt
 have:∀n,sumTo n (fun x=>if dn x then 1 else 0)=0:=fun n=>by
  induction n with
  | zero=>rfl
  | succ n ih=>simp[sumTo,ih,h n]
 exact this _
theorem KS.still (K:KS J c0 gs w t q own hold dn nx rc n0 rk fW a){w1:World}(hw:WF J false w1)(y:Nat)(gy:Goroutine)(hy:gs[y]?=some gy):Still w1 gy:=by
 have hlt:=(Array.getElem?_eq_some_iff.1 hy).1
 rw[K.com.size] at hlt
 rcases Nat.eq_zero_or_pos y with rfl|hp
 ·rw[K.h0] at hy;cases hy
  exact K.cal.still hw
 ·rcases Nat.lt_or_ge y J.s0 with h|h
  ·exact old_still (K.com.old y gy hp h hy)
  ·obtain⟨g,hg,hw0⟩:=K.wk (y - J.s0) (by omega)
   rw[show J.s0+(y - J.s0)=y by omega,hy] at hg
   cases hg
   exact hw0.still hw
theorem KS.at (G:Geo J)(K:KS J c0 gs w t q own hold dn nx rc n0 rk fW a)(d:Nat):KS J c0 gs (w.at d) t q own hold dn nx rc n0 rk fW a :=
 ⟨K.com.at d,K.h0,K.cal.keep (lab:=J.N+1) G K.com.wf.size (.at d) (fun _ _=>rfl) (by omega) (fun y hy=>by have:=K.dx y hy;have:=K.le;omega),fun i hi=>let ⟨g,hg,h⟩:=K.wk i hi;⟨g,hg,h.keep (lab:=J.N+1) G K.com.wf.size (.at d) (fun _ _=>rfl) (fun x hx=>by have:=K.hn i hi x hx;have:=K.le;omega)⟩,
  K.wg,K.nr,K.lab,K.hn,K.all,K.dx,K.le,K.nm⟩
theorem ownL_same (hB:∀b,b<w.heap.size→own' b=own b):∀g l,Mem J J.m g→OwnL J own' hold g l→OwnL J own hold g l∨∃b,w.heap.size≤b∧LocIn b l:=by
 rintro g l _ ⟨b,hb,hl,h⟩
 rcases Nat.lt_or_ge b w.heap.size with hlt|hge
 ·rw[hB b hlt] at h
  exact .inl ⟨b,hb,hl,h⟩
 ·exact .inr ⟨b,hge,hl⟩
theorem WF.kp (G:Geo J)(h:WF J false w){lab:Nat}(K:Kp J own lab w w')(hch:∀b,b=J.k.wg∨b=J.k.cN∨b=J.k.cR→w'.heap[b]?=w.heap[b]?):WF J false w':=by
 obtain⟨s,r,tm,h1⟩:=h.cn
 obtain⟨s',r',tm',h2⟩:=h.cr
 exact⟨fun b hb e1 e2 e3=>(K.same b (Nat.lt_of_lt_of_le hb h.size) e1 e2 e3 (.inl hb)).trans (h.old b hb e1 e2 e3),⟨s,r,tm,(hch _ (.inr (.inl rfl))).trans h1⟩,⟨s',r',tm',(hch _ (.inr (.inr rfl))).trans h2⟩,Nat.le_trans h.size K.size,K.os.1.trans h.os.1,K.os.2.trans h.os.2⟩
theorem wgAt_same {ty:TypeId}{wg:Nat}{x y:Int}(h:WgAt ty wg w x y)(e:w'.heap[wg]?=w.heap[wg]?):WgAt ty wg w' x y:=by
 unfold WgAt at *
 rw[e]
 exact h
theorem KS.movW (G:Geo J)(K:KS J c0 gs w t q own hold dn nx rc n0 rk fW a){i:Nat}(hi:i<J.m){g g1:Goroutine}{es:Array Event}{lab rk':Nat}{f':Fu}{fn:FuncId}{pos:String}(hx:gs[J.s0+i]?=some g)
  (hk:Kp J own lab w w') (hch:∀b,b=J.k.wg∨b=J.k.cN∨b=J.k.cR→w'.heap[b]?=w.heap[b]?) (ho:∀b,b<w.heap.size→own' b=own b) (hnw:∀b,w.heap.size≤b→b<w'.heap.size→own' b≤nx)
  (hl0:lab≠0) (hld:∀y,dn y=true→lab≠y+1) (hlh:∀i',i'<J.m→i'≠i→∀y,hold i'=some y→lab≠y+1)
  (he:∀e∈es,EvOk J own' hold w'.heap.size (J.s0+i) e) (hde:∀e∈es,e.loc≠.mark .disable∧e.loc≠.mark .enable∧e.loc≠.mark (.release (stA J.k.wg)))
  (hw:WS J own' w' (hold i) rk' f' g1) (hnm:a.status=.blocked→g1.status=.blocked→hold i=none∧nx=J.N) :
  KS J c0 (gs.setIfInBounds (J.s0+i) g1) w' (t++MemOp.ofEvents (J.s0+i) fn pos es) q own' hold dn nx rc n0 (upd rk i rk') (upd fW i f') a:=by
 have hs0:=G.s0
 have hlt:=(Array.getElem?_eq_some_iff.1 hx).1
 have hBs:=K.com.wf.size
 refine⟨K.com.step G (.inr ⟨by omega,by omega⟩) (by simp) (fun j gj h0 hj hg=>by rwa [set_get j (by omega)] at hg) (K.com.wf.kp G hk hch) hk.size (ownL_same ho) K.com.inj he (by rw[if_neg (by omega)]) (fun i' hi'=>?_),by rw[set_get 0 (by omega)];exact K.h0,
  K.cal.keep G hBs hk ho hl0 hld,fun i' hi'=>?_,wgAt_same K.wg (hch _ (.inl rfl)),norel_app K.nr fun e h=>(hde e h).2.2,fun b hb hlt'=>?_,K.hn,K.all,K.dx,K.le,fun hb i' hi' g' hg' hb'=>?_⟩
 ·split
  ·exact (idle_deaf (fun e h=>⟨(hde e h).1,(hde e h).2.1⟩) _).symm
  ·rfl
 ·by_cases e:i'=i
  ·subst e
   exact⟨g1,set_same hlt,by rw[upd_same,upd_same];exact hw⟩
  ·obtain⟨g',hg',hs⟩:=K.wk i' hi'
   exact⟨g',by rw[set_get _ (by omega)];exact hg',by rw[upd_ne rk _ e,upd_ne fW _ e];exact hs.keep G hBs hk ho (hlh i' hi' e)⟩
 ·rcases Nat.lt_or_ge b w.heap.size with h|h
  ·rw[ho b h];exact K.lab b hb h
  ·exact hnw b h hlt'
 ·by_cases e:i'=i
  ·subst e
   rw[set_same hlt] at hg'
   cases hg'
   exact hnm hb hb'
  ·rw[set_get _ (by omega)] at hg'
   exact K.nm hb i' hi' g' hg' hb'
theorem KS.movC (G:Geo J)(K:KS J c0 gs w t q own hold dn nx rc n0 rk fW a){a':Goroutine}{es:Array Event}{rc' n':Nat}{fn:FuncId}{pos:String}
  (hk:Kp J own 0 w w') (hch:∀b,b=J.k.wg∨b=J.k.cN∨b=J.k.cR→w'.heap[b]?=w.heap[b]?) (ho:∀b,b<w.heap.size→own' b=own b) (hnw:∀b,w.heap.size≤b→b<w'.heap.size→own' b=0)
  (he:∀e∈es,EvOk J own' hold w'.heap.size 0 e) (hde:∀e∈es,e.loc≠.mark .disable∧e.loc≠.mark .enable∧e.loc≠.mark (.release (stA J.k.wg)))
  (hc:CS J c0 own' w' dn nx rc' n' a') (hnm:a'.status=.blocked→∀i,i<J.m→∀g,gs[J.s0+i]?=some g→g.status=.blocked→hold i=none∧nx=J.N) :
  KS J c0 (gs.setIfInBounds 0 a') w' (t++MemOp.ofEvents 0 fn pos es) q own' hold dn nx rc' n' rk fW a':=by
 have hs0:=G.s0
 have hlt:=(Array.getElem?_eq_some_iff.1 K.h0).1
 have hBs:=K.com.wf.size
 refine⟨K.com.step G (.inl rfl) (by simp) (fun j gj h0 hj hg=>by rwa [set_get j (by omega)] at hg) (K.com.wf.kp G hk hch) hk.size (ownL_same ho) K.com.inj he (by rw[if_pos rfl];exact (idle_deaf (fun e h=>⟨(hde e h).1,(hde e h).2.1⟩) _).symm) (fun i' hi'=>by rw[if_neg (by omega)]),set_same hlt,
  hc,fun i' hi'=>?_,wgAt_same K.wg (hch _ (.inl rfl)),norel_app K.nr fun e h=>(hde e h).2.2,fun b hb hlt'=>?_,K.hn,K.all,K.dx,K.le,fun hb i' hi' g' hg' hb'=>?_⟩
 ·obtain⟨g',hg',hs⟩:=K.wk i' hi'
  exact⟨g',by rw[set_get _ (by omega)];exact hg',hs.keep G hBs hk ho (fun x _=>by omega)⟩
 ·rcases Nat.lt_or_ge b w.heap.size with h|h
  ·rw[ho b h];exact K.lab b hb h
  ·rw[hnw b h hlt'];omega
 ·rw[set_get _ (by omega)] at hg'
  exact hnm hb i' hi' g' hg' hb'
theorem KS.slip (G:Geo J)(K:KS J c0 gs w t q own hold dn nx rc n0 rk fW a){x:Nat}(h0:0<x)(hx:x<J.s0){g':Goroutine}{fn:FuncId}{pos:String}{es:Array Event}(hm:∀e∈es,Event.mute e=true){n:Nat}(hq:QuitsD PP n (deafBehind (Deaf t x) es) g') :
  KS J c0 (gs.setIfInBounds x g') w (t++MemOp.ofEvents x fn pos es) (upd q x n) own hold dn nx rc n0 rk fW a:=by
 have hlt:x<gs.size:=by rw[K.com.size];omega
 exact⟨K.com.slip h0 hx hm hq (by simp) (set_same hlt) (fun i gi _ _ hi hg=>by rwa [set_get i hi] at hg),by rw[set_get 0 (by omega)];exact K.h0,K.cal,fun i hi=>by rw[set_get _ (by omega)];exact K.wk i hi,K.wg,norel_app K.nr fun e he hl=>mute_norel (hm e he) hl,K.lab,K.hn,K.all,K.dx,K.le,
  fun hb i hi g hg=>K.nm hb i hi g (by rwa [set_get _ (by omega)] at hg)⟩
end
end Go.Proofs.YtjeicikflkjacaaGreatDoor.Ms
