/- Tasks: table.Moves and jump.Bucket for workers. -/
import Derived.Test.YtjeicikflkjacaaGreatDoorM27
set_option linter.unusedVariables false
namespace Go.Proofs.YtjeicikflkjacaaGreatDoor.Ms
open Go Go.Conc Go.Conc.Lib Go.ConcN
open Par (Cx LocIn Bij VR WR AR OR idB shutW Work)
open Go.RowKit
def Rows0 (w:World)(vl:Value)(N:Nat)(vb:Nat→Value):Prop:=(vl=.slice none 0 0∧N=0)∨∃g cap cur e f,vl=.slice (some ⟨g,0,none⟩) N cap∧w.heap[g]?=some (.cells cur e f)∧∀i,i<N→cur[i]?=some (vb i)
def movT (a:Nat→Addr)(ba bl bs:Nat)(va vl:Value)(N:Nat)(vb:Nat→Value):List (Nat × Nat):=(ba,1) :: (bl,1) :: (bs,1) :: (rowT va++(rowT vl++((List.range N).flatMap (fun i=>rowT (vb i))++errT a)))
structure MovIn (a:Nat→Addr)(w:World)(ba bl bs:Nat)(va vl:Value)(N:Nat)(vb:Nat→Value)(xs:List ByteArray)(ys:Nat→List ByteArray)(n:Int):Prop where
 er:Errs a w
 ca:w.cell? ⟨ba,0,none⟩=some va
 cl:w.cell? ⟨bl,0,none⟩=some vl
 cs:w.cell? ⟨bs,0,none⟩=some (.int .i64 n)
 sa:Row0 w va xs
 sl:Rows0 w vl N vb
 sb:∀i,i<N→Row0 w (vb i) (ys i)
structure MovSz (N:Nat)(xs:List ByteArray)(ys:Nat→List ByteArray)(n:Int):Prop where
 n:-9223372036854775808≤n∧n≤9223372036854775807
 x:∀k (h:k<xs.length),(xs[k]).size≤300
 y:∀i,i<N→∀k (h:k<(ys i).length),((ys i)[k]).size≤300
 lx:xs.length<1000000
 ly:∀i,i<N→(ys i).length<1000000
theorem cell_same {w w':World}{b i:Nat}(h:w'.heap[b]?=w.heap[b]?):w'.cell? ⟨b,i,none⟩=w.cell? ⟨b,i,none⟩:=by
 unfold World.cell?
 simp only[h]
section
variable {a:Nat→Addr} {w:World} {ba bl bs:Nat} {va vl:Value} {N:Nat} {vb:Nat→Value} {xs:List ByteArray} {ys:Nat→List ByteArray} {n:Int}
theorem mov_er {p:Nat × Nat}(h:p∈errT a):p∈movT a ba bl bs va vl N vb:=by simp[movT,h]
theorem mov_va {p:Nat × Nat}(h:p∈rowT va):p∈movT a ba bl bs va vl N vb:=by simp[movT,h]
theorem mov_vl {p:Nat × Nat}(h:p∈rowT vl):p∈movT a ba bl bs va vl N vb:=by simp[movT,h]
theorem mov_vb {p:Nat × Nat}{i:Nat}(hi:i<N)(h:p∈rowT (vb i)):p∈movT a ba bl bs va vl N vb:=by
 simp only[movT,List.mem_cons,List.mem_append,List.mem_flatMap,List.mem_range]
 exact .inr (.inr (.inr (.inr (.inr (.inl ⟨i,hi,h⟩)))))
theorem MovIn.knows {Ok:Cx}(h:MovIn a w ba bl bs va vl N vb xs ys n):Knows Ok (movT a ba bl bs va vl N vb) w:=by
 intro b m hb
 have one:∀g v,w.cell? ⟨g,0,none⟩=some v→VR Ok (idB (inT (movT a ba bl bs va vl N vb))).r v v→∃x e f,w.heap[g]?=some (.cells x e f)∧∀i u,i<1→x[i]?=some u→VR Ok (idB (inT (movT a ba bl bs va vl N vb))).r u u:=fun g v hc hv=>by
  obtain⟨x,e,f,q1,q2⟩:=cell_row hc
  refine⟨x,e,f,q1,fun i u hi hu=>?_⟩
  obtain rfl:i=0:=by omega
  rw[q2] at hu
  cases hu
  exact hv
 simp only[movT,List.mem_cons,List.mem_append,List.mem_flatMap,List.mem_range,Prod.mk.injEq] at hb
 rcases hb with⟨rfl,rfl⟩|⟨rfl,rfl⟩|⟨rfl,rfl⟩|hb|hb|⟨i,hi,hb⟩|hb
 ·exact one _ _ h.ca (h.sa.vr fun b n hb=>⟨n,mov_va hb⟩)
 ·refine one _ _ h.cl ?_
  rcases h.sl with⟨rfl,_⟩|⟨g,cap,cur,e,f,rfl,_⟩
  ·exact .snil 0 0
  ·exact .slice 0 none _ _ ⟨rfl,N,mov_vl (by simp[rowT])⟩
 ·exact one _ _ h.cs (.int _ _)
 ·exact h.sa.knows hb
 ·rcases h.sl with⟨rfl,_⟩|⟨g,cap,cur,e,f,rfl,q1,q2⟩
  ·cases hb
  ·simp only[rowT,List.mem_singleton,Prod.mk.injEq] at hb
   obtain⟨rfl,rfl⟩:=hb
   refine⟨cur,e,f,q1,fun i u hi hu=>?_⟩
   rw[q2 i hi] at hu
   cases hu
   exact (h.sb i hi).vr fun b n hb=>⟨n,mov_vb hi hb⟩
 ·exact (h.sb i hi).knows hb
 ·exact err_knows h.er (fun p hp=>mov_er hp) hb
theorem MovIn.errs5 (h:MovIn a w ba bl bs va vl N vb xs ys n){W:World}(hs:∀b,inT (movT a ba bl bs va vl N vb) b→W.heap[b]?=w.heap[b]?):Errs5 a W:=by
 have key:∀g v,(g,1)∈errT a→w.cell? ⟨g,0,none⟩=some v→W.cell? ⟨g,0,none⟩=some v:=fun g v hg hv=>by
  rw[cell_same (hs g ⟨1,mov_er hg⟩)]
  exact hv
 exact⟨key _ _ (by simp[errT]) h.er.s1,key _ _ (by simp[errT]) h.er.s2,key _ _ (by simp[errT]) h.er.s3,key _ _ (by simp[errT]) h.er.s4,key _ _ (by simp[errT]) h.er.s5⟩
end
def movR (a:Nat→Addr)(xs:List ByteArray)(ys:Nat→List ByteArray)(n:Int)(i:Nat)(u:Value)(w:World):Prop:=∃x ev,u=.tuple #[x,ev]∧MovQ a xs (ys i) n x ev w
theorem tasks_moves {J:Job}(G:Geo J){a:Nat→Addr}{ba bl bs:Nat}{va vl:Value}{vb:Nat→Value}{xs:List ByteArray}{ys:Nat→List ByteArray}{n:Int}(hfw:J.k.fw=20)(hcap:J.k.cap=#[.pointer (some ⟨ba,0,none⟩),.pointer (some ⟨bl,0,none⟩),.pointer (some ⟨bs,0,none⟩)])
  (hS:J.S=inT (movT a ba bl bs va vl J.N vb)) (hTk:J.Tk=fun b=>some (tk (movT a ba bl bs va vl J.N vb) b)) (hR:J.R=movR a xs ys n) (hg:PP.globals.size≤J.base) (h:MovIn a J.w0 ba bl bs va vl J.N vb xs ys n) (z:MovSz J.N xs ys n):Tasks J:=by
 refine⟨?_,?_,?_,?_,hg,?_,?_,?_,?_⟩
 ·rw[hfw]
  exact⟨_,Tryz.func20,by decide +kernel,by decide +kernel⟩
 ·rw[hfw]
  decide +kernel
 ·rw[hR]
  rintro i u w τ d ⟨x,ev,rfl,c,pl,h1,h2⟩
  exact⟨x,ev,rfl,c,pl,h1,h2⟩
 ·intro b hb
  rw[hS] at hb ⊢
  rw[hTk]
  exact knows_cl h.knows hb
 ·intro x hx
  rw[hS]
  exact⟨1,mov_er (err_gl hx)⟩
 ·intro i hi
  rw[hcap,hS]
  refine⟨rfl,fun k u u' h1 h2=>?_⟩
  rw[h1] at h2
  cases h2
  have hk:k<4:=by simpa using (Array.getElem?_eq_some_iff.1 h1).1
  have:k=0∨k=1∨k=2∨k=3:=by omega
  rcases this with rfl|rfl|rfl|rfl
  ·obtain rfl:Value.int .i64 (i:Nat)=u:=by simpa using h1
   exact .int _ _
  ·obtain rfl:Value.pointer (some ⟨ba,0,none⟩)=u:=by simpa using h1
   exact .ptr _ _ ⟨rfl,1,by simp[movT]⟩
  ·obtain rfl:Value.pointer (some ⟨bl,0,none⟩)=u:=by simpa using h1
   exact .ptr _ _ ⟨rfl,1,by simp[movT]⟩
  ·obtain rfl:Value.pointer (some ⟨bs,0,none⟩)=u:=by simpa using h1
   exact .ptr _ _ ⟨rfl,1,by simp[movT]⟩
 ·intro i hi W hW τ d
  have hs:∀b,inT (movT a ba bl bs va vl J.N vb) b→W.heap[b]?=J.w0.heap[b]?:=fun b hb=>by
   obtain⟨g1,g2,g3,g4,g5⟩:=G.sS b (by rw[hS];exact hb)
   exact hW.old b g1 g2 g3 g4
  have one:∀g v,(g,1)∈movT a ba bl bs va vl J.N vb→J.w0.cell? ⟨g,0,none⟩=some v→(Par.on (shutW (fun b=>some (tk (movT a ba bl bs va vl J.N vb) b)) W) τ d).cell? ⟨g,0,none⟩=some v:=fun g v hg hv=>by
   rw[known_cell hg (by omega),cell_same (hs g ⟨1,hg⟩)]
   exact hv
  rw[hfw,hcap,hTk,hR]
  rcases h.sl with⟨_,q⟩|⟨bR,cap,cur,e,f,rfl,q1,q2⟩
  ·omega
  have hE:=err_shut (h.errs5 hs) (T:=movT a ba bl bs va (.slice (some ⟨bR,0,none⟩) J.N cap) J.N vb) (fun p hp=>mov_er hp) τ d
  have hA:=(h.sa.same (w':=W) fun b m hb=>hs b ⟨m,mov_va hb⟩).shut (T:=movT a ba bl bs va (.slice (some ⟨bR,0,none⟩) J.N cap) J.N vb) (fun p hp=>mov_va hp) τ d
  have hB:=((h.sb i hi).same (w':=W) fun b m hb=>hs b ⟨m,mov_vb hi hb⟩).shut (T:=movT a ba bl bs va (.slice (some ⟨bR,0,none⟩) J.N cap) J.N vb) (fun p hp=>mov_vb hi hp) τ d
  have hc:=work_moves ba bl bs bR i J.N cap va (vb i) n (MovQ a xs (ys i) n) _ (one ba va (by simp[movT]) h.ca) (one bl _ (by simp[movT]) h.cl) (by
   rw[known_cell (n:=J.N) (mov_vl (by simp[rowT])) hi,cell_same (hs bR ⟨J.N,mov_vl (by simp[rowT])⟩)]
   simp only[World.cell?,q1]
   exact q2 i hi) (one bs _ (by simp[movT]) h.cs) hi fun W' hb=>(moves_q a va (vb i) xs (ys i) n W' (hE.later hb) (hA.later hb) (hB.later hb) z.n z.x (z.y i hi) z.lx (z.ly i hi)).mono fun e w' ⟨x,ev,r1,r2,r3⟩=>⟨x,ev,r1,r2,below_then hb r3⟩
  exact hc.mono fun e w' ⟨x,ev,r1,r2,r3⟩=>⟨_,r1,x,ev,rfl,r2⟩
 ·rw[hR]
  rintro i u v ⟨x,ev,rfl,c,pl,h1,⟨rfl,⟨m,rfl,rfl⟩,rfl⟩|⟨h2,rfl,h3⟩⟩
  ·exact⟨_,_,rfl,.inl rfl⟩
  ·refine⟨_,_,rfl,?_⟩
   rcases h3 with⟨_,_,rfl⟩|⟨j,_,_,⟨_,rfl⟩|⟨b,rfl,_⟩⟩
   ·exact .inl rfl
   ·exact .inr ⟨_,_,rfl⟩
   ·exact .inr ⟨_,_,rfl⟩
end Go.Proofs.YtjeicikflkjacaaGreatDoor.Ms

/- What came of a number, as the caller finds it. -/
set_option linter.unusedVariables false
namespace Go.Proofs.YtjeicikflkjacaaGreatDoor.Ms
open Go Go.Conc Go.Conc.Lib Go.ConcN
open Par (Cx LocIn Bij VR WR AR OR idB shutW Work)
open Go.RowKit
theorem vr_at {Ok:Cx}{β:Nat→Nat→Prop}{t:TypeId}{p:Addr}{e:Value}(h:VR Ok β (.iface t (.pointer (some p))) e):∃b',β p.block b'∧e=.iface t (.pointer (some ⟨b',p.off,p.spot⟩)):=by
 obtain⟨b,o,sp⟩:=p
 cases h with
 | iface _ h =>
  cases h with
  | ptr _ _ h=>exact⟨_,h,rfl⟩
theorem vr_same {Ok:Cx}{γ:Bij}{S:Nat→Prop}(hle:(idB S).le γ){t:TypeId}{p:Addr}{e:Value}(hS:S p.block)(h:VR Ok γ.r (.iface t (.pointer (some p))) e):e=.iface t (.pointer (some p)):=by
 obtain⟨b',h1,rfl⟩:=vr_at h
 obtain rfl:=γ.fn h1 (hle _ _ ⟨rfl,hS⟩)
 rfl
theorem wr_cell {Ok:Cx}{γ:Bij}{E:Nat}{v w:World}(h:WR Ok E γ v w){b b' i:Nat}(hb:γ.r b b'){u:Value}(hu:v.cell? ⟨b,i,none⟩=some u):∃u',w.cell? ⟨b',i,none⟩=some u'∧VR Ok γ.r u u':=by
 obtain⟨x,e,f,q1,q2⟩:=cell_row hu
 obtain⟨o,o',h1,h2,h3⟩:=h.obj b b' hb
 rw[q1] at h1
 cases h1
 have hi:=(Array.getElem?_eq_some_iff.1 q2).1
 cases h3 with
 | @cells _ x' _ _ _ hx _ =>
  have hi':i<x'.size:=by rw[←hx.1];exact hi
  refine⟨x'[i],?_,hx.2 i u x'[i] q2 (Array.getElem?_eq_getElem hi')⟩
  simp only[World.cell?,h2]
  exact Array.getElem?_eq_getElem hi'
 | @pre _ x' _ _ _ hs hx _ =>
  have hi':i<x'.size:=by omega
  refine⟨x'[i],?_,hx i u x'[i] q2 (Array.getElem?_eq_getElem hi')⟩
  simp only[World.cell?,h2]
  exact Array.getElem?_eq_getElem hi'
theorem cell_to {w W:World}{b i:Nat}{v:Value}(h:w.cell? ⟨b,i,none⟩=some v)(hW:∀x e f,w.heap[b]?=some (.cells x e f)→W.heap[b]?=some (.cells x e f)):W.cell? ⟨b,i,none⟩=some v:=by
 obtain⟨x,e,f,q1,q2⟩:=cell_row h
 simp only[World.cell?,hW x e f q1]
 exact q2
theorem err_there {Ok:Cx}{γ:Bij}{E:Nat}{v w W:World}(h:WR Ok E γ v w)(hW:∀b b' x e f,γ.r b b'→w.heap[b']?=some (.cells x e f)→W.heap[b']?=some (.cells x e f)){S:Nat→Prop}(hle:(idB S).le γ){a:Nat→Addr}{c:Nat}{pl:Int}{ev e:Value}(hS:∀i,c=i+1→S (a i).block)(he:ErrIs a v c pl ev)(hv:VR Ok γ.r ev e):ErrIs a W c pl e:=by
 rcases he with⟨rfl,rfl,rfl⟩|⟨i,hi,rfl,⟨rfl,rfl⟩|⟨b,rfl,h0,h1⟩⟩
 ·cases hv
  exact .inl ⟨rfl,rfl,rfl⟩
 ·exact .inr ⟨i,hi,rfl,.inl ⟨rfl,vr_same hle (hS i rfl) hv⟩⟩
 ·obtain⟨b',hb,rfl⟩:=vr_at hv
  obtain⟨u0,q0,r0⟩:=wr_cell h hb h0
  obtain⟨u1,q1,r1⟩:=wr_cell h hb h1
  cases r0
  have:=vr_same hle (hS i rfl) r1
  subst this
  exact .inr ⟨i,hi,rfl,.inr ⟨b',rfl,cell_to q0 fun x e f=>hW b b' x e f hb,cell_to q1 fun x e f=>hW b b' x e f hb⟩⟩
theorem vr_two {Ok:Cx}{β:Nat→Nat→Prop}{x ev y e:Value}(h:VR Ok β (.tuple #[x,ev]) (.tuple #[y,e])):VR Ok β x y∧VR Ok β ev e:=by
 cases h with
 | tuple _ hxx=>exact⟨hxx 0 x y (by simp) (by simp),hxx 1 ev e (by simp) (by simp)⟩
theorem movFault_code {xs ys:List ByteArray}{n:Int}{c:Nat}{pl:Int}(h:MovFault xs ys n c pl)(hc:c≠0):2≤c∧c≤6:=by
 have key:∀zs,TabFault zs n c pl→2≤c∧c≤6:=fun zs h=>by
  rcases h with⟨_,rfl,_⟩|⟨_,h,_⟩|⟨_,_,h,_⟩
  ·omega
  ·rcases h with⟨_,rfl,_⟩|⟨_,i,_,_,_,⟨_,rfl⟩|⟨_,_,rfl⟩⟩|⟨_,_,rfl,_⟩<;>omega
  ·rcases h with⟨_,rfl⟩|⟨m,_,_,_,⟨_,rfl⟩|⟨_,rfl⟩⟩<;>omega
 rcases h with⟨h,_⟩|⟨_,h⟩<;>exact key _ h
theorem moved {J:Job}{own:Nat→Nat}{w:World}{i:Nat}{k:Int}{e:Value}{a:Nat→Addr}{xs:List ByteArray}{ys:Nat→List ByteArray}{n:Int}(hR:J.R=movR a xs ys n)(hS:∀j,1≤j→j≤5→J.S (a j).block)(D:Dn J own w i k e){W:World}(hW:∀b x e f,J.S b∨J.base≤b→w.heap[b]?=some (.cells x e f)→W.heap[b]?=some (.cells x e f)):MovQ a xs (ys i) n (.int .i64 k) e W:=by
 obtain⟨_,γ,u,v,h1,h2,h3,h4,h5⟩:=D
 rw[hR] at h1
 obtain⟨x,ev,rfl,c,pl,hf,h⟩:=h1
 obtain⟨v1,v2⟩:=vr_two h2
 refine⟨c,pl,hf,?_⟩
 rcases h with⟨rfl,⟨m,rfl,rfl⟩,rfl⟩|⟨hc,rfl,he⟩
 ·cases v1;cases v2
  exact .inl ⟨rfl,⟨m,rfl,rfl⟩,rfl⟩
 ·cases v1
  refine .inr ⟨hc,rfl,err_there h3 (fun p b x e f hb=>hW b x e f (by rcases h4 p b hb with⟨_,h⟩|⟨h,_⟩<;>simp[h])) h5 (fun j hj=>?_) he v2⟩
  have:=movFault_code hf hc
  exact hS j (by omega) (by omega)
end Go.Proofs.YtjeicikflkjacaaGreatDoor.Ms

/- withoutPlace. -/
namespace Go.Proofs.YtjeicikflkjacaaGreatDoor
open Go.RowKit
set_option maxHeartbeats 1000000 in
theorem wp_fault (a:Nat→Addr)(i:Nat)(pb:Nat)(w:World)(he:Errs a w)(h1:w.cell? ⟨pb,1,none⟩=some (.iface 179 (.pointer (some (a i))))) :
  Calls Tryz.prog 32 #[.iface 66 (.pointer (some ⟨pb,0,none⟩))] w fun e w'=>e=.returned (.iface 179 (.pointer (some (a i))))∧Below w.heap.size w w':=by
 have HA:Hid (Calls Tryz.prog 38 #[.iface 66 (.pointer (some ⟨pb,0,none⟩)),.iface 78 (.pointer (some ⟨w.heap.size,0,none⟩))] (w.alloc (.cells #[.pointer none] 66)) fun ev w'=>ev=.returned (.bool true)∧Below w.heap.size w w'∧w'.cell? ⟨w.heap.size,0,none⟩=some (.pointer (some ⟨pb,0,none⟩))∧w.heap.size<w'.heap.size):=by
  refine (as_hit ⟨pb,0,none⟩ ⟨w.heap.size,0,none⟩ (.pointer none) (w.alloc (.cells #[.pointer none] 66)) (below_cell ((Below.refl _ _).alloc (Nat.le_refl _) _) he.handle) (by simp) (by simp)).mono ?_
  rintro ev w' ⟨rfl,rfl⟩
  refine⟨rfl,(((((Below.refl _ _).alloc (Nat.le_refl _) _).alloc (by simp) _).alloc (by simp;omega) _).alloc (by simp;omega) _).alloc (by simp;omega) _ |>.setCell (Nat.le_refl _) _,?_,by simp;omega⟩
  exact World.cell?_setCell_same' _ _ _ (by
   rw[World.cell?_alloc_lt _ _ _ (by simp;omega),World.cell?_alloc_lt _ _ _ (by simp;omega),World.cell?_alloc_lt _ _ _ (by simp;omega),World.cell?_alloc_lt _ _ _ (by simp)];simp)
 go_enter Tryz.func32,Tryz.ntmps32
 go_wp2_with fail
 refine HA.out.mono ?_
 rintro e w1 ⟨rfl,hb1,c1,hs1⟩
 have c2:=below_cell hb1 h1
 go_wp2
 go_ret
 exact⟨rfl,hb1⟩
set_option maxHeartbeats 1000000 in
theorem wp_sent (a:Nat→Addr)(i:Nat)(w:World)(he:Errs a w) :
  Calls Tryz.prog 32 #[.iface 179 (.pointer (some (a i)))] w fun e w'=>e=.returned (.iface 179 (.pointer (some (a i))))∧Below w.heap.size w w':=by
 have HA:Hid (Calls Tryz.prog 38 #[.iface 179 (.pointer (some (a i))),.iface 78 (.pointer (some ⟨w.heap.size,0,none⟩))] (w.alloc (.cells #[.pointer none] 66)) fun ev w'=>ev=.returned (.bool false)∧Below w.heap.size w w'):=by
  refine (as_miss (a i) ⟨w.heap.size,0,none⟩ (w.alloc (.cells #[.pointer none] 66)) (below_cell ((Below.refl _ _).alloc (Nat.le_refl _) _) he.handle)).mono ?_
  rintro ev w' ⟨rfl,rfl⟩
  exact⟨rfl,((((Below.refl _ _).alloc (Nat.le_refl _) _).alloc (by simp) _).alloc (by simp;omega) _).alloc (by simp;omega) _⟩
 go_enter Tryz.func32,Tryz.ntmps32
 go_wp2_with fail
 refine HA.out.mono ?_
 rintro e w1 ⟨rfl,hb1⟩
 go_wp2
 go_ret
 exact⟨rfl,hb1⟩
theorem without_any (a:Nat→Addr)(c:Nat)(pl:Int)(v:Value)(w:World)(he:Errs a w)(hc:c≠0)(h:ErrIs a w c pl v) :
  Calls Tryz.prog 32 #[v] w fun e w'=>e=.returned (.iface 179 (.pointer (some (a (c - 1)))))∧Below w.heap.size w w':=by
 rcases h with⟨rfl,_⟩|⟨i,hi,rfl,⟨_,rfl⟩|⟨b,rfl,h0,h1⟩⟩
 ·exact absurd rfl hc
 ·exact wp_sent a i w he
 ·exact wp_fault a i b w he h1
end Go.Proofs.YtjeicikflkjacaaGreatDoor
