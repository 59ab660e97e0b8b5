/- The caller in collect: what it makes and writes. -/
import Derived.Test.YtjeicikflkjacaaGreatDoorM10
import Derived.Conc.AppendWalk
set_option linter.unusedSimpArgs false
namespace Go.Proofs.YtjeicikflkjacaaGreatDoor.Ms
open Go Go.Conc Go.Conc.Lib Go.RowKit Go.ConcN Go.ConcR.Gen Go.ConcN.Gen
open Go.ConcR (KK wgBlock WgAt stA smA rd wr mk Payload Aside2 DC0)
section
variable {k:Kt} {N:Nat} {cs:List Frame} {bL nx th i:Nat} {a:Int} {e:Value}
set_option maxRecDepth 100000 in
theorem al_step {g:Goroutine}(h:AlG k N cs bL nx th i a e g)(w:World):g.status=.running∧∃g1,stepG Tryz.prog true g w=.go g1 (w.alloc (.cells #[.int .i64 0,.int .i64 0,.nilIface] 65)) #[]∧St1G k N cs bL nx th i a e w.heap.size g1:=by
 obtain⟨x3,x4,x5,x6,x10,x11,x12,x13,x14,x15,x16,x17,x18,x19,x20,x21,x22,x23,x24,x25,x26,x27,x29,x30,x31,x32,x33,x34,x35,x36,rfl⟩:=h
 refine⟨rfl,S44 cs #[.int .i64 (N:Nat),nch k N nx,.chan (some k.cR),x3,x4,x5,x6,.slice (some ⟨bL,0,none⟩) N N,.int .i64 (nx:Nat),.int .i64 (th:Nat),.pointer (some ⟨w.heap.size,0,none⟩),x11,x12,x13,x14,x15,x16,x17,x18,x19,x20,x21,x22,x23,x24,x25,x26,x27,.agg #[.int .i64 (i:Nat),.int .i64 a,e],x29,x30,x31,x32,x33,x34,x35,x36] [.inRegion ops12 [2],.code c13,.inBlock 2,.inBlock 1,.inLoop lp44,.inBlock 0,.code tl44],?_,⟨x3,x4,x5,x6,x11,x12,x13,x14,x15,x16,x17,x18,x19,x20,x21,x22,x23,x24,x25,x26,x27,x29,x30,x31,x32,x33,x34,x35,x36,rfl⟩⟩
 have hr : (execOp (Act.eval ⟨#[.int .i64 (N : Nat), nch k N nx, .chan (some k.cR), x3, x4, x5, x6, .slice (some ⟨bL, 0, none⟩) N N, .int .i64 (nx : Nat), .int .i64 (th : Nat), x10, x11, x12, x13, x14, x15, x16, x17, x18, x19, x20, x21, x22, x23, x24, x25, x26, x27, .agg #[.int .i64 (i : Nat), .int .i64 a, e], x29, x30, x31, x32, x33, x34, x35, x36], []⟩) { dst := some 10, op := .alloc 65, type := 0, pos := "side.go:91", after := #[], guard := none }).run Tryz.prog w = .ok (.value (.pointer (some ⟨w.heap.size, 0, none⟩))) (w.alloc (.cells #[.int .i64 0, .int .i64 0, .nilIface] 65)) := by
  go_simp
 have hl : (execOp (Act.eval ⟨#[.int .i64 (N : Nat), nch k N nx, .chan (some k.cR), x3, x4, x5, x6, .slice (some ⟨bL, 0, none⟩) N N, .int .i64 (nx : Nat), .int .i64 (th : Nat), x10, x11, x12, x13, x14, x15, x16, x17, x18, x19, x20, x21, x22, x23, x24, x25, x26, x27, .agg #[.int .i64 (i : Nat), .int .i64 a, e], x29, x30, x31, x32, x33, x34, x35, x36], []⟩) { dst := some 10, op := .alloc 65, type := 0, pos := "side.go:91", after := #[], guard := none }).events Tryz.prog w #[] = #[] := by
  simp[go_sem,Instr.alloc,newVar,newRow]
 have:=stepG_value (P:=Tryz.prog) (main:=true) (b:=base 44) (a:=⟨#[.int .i64 (N:Nat),nch k N nx,.chan (some k.cR),x3,x4,x5,x6,.slice (some ⟨bL,0,none⟩) N N,.int .i64 (nx:Nat),.int .i64 (th:Nat),x10,x11,x12,x13,x14,x15,x16,x17,x18,x19,x20,x21,x22,x23,x24,x25,x26,x27,.agg #[.int .i64 (i:Nat),.int .i64 a,e],x29,x30,x31,x32,x33,x34,x35,x36],[]⟩) (k:=[.code c13,.inBlock 2,.inBlock 1,.inLoop lp44,.inBlock 0,.code tl44]) (cs:=cs) (w:=w) (ops:=ops12) (i:=1) (rest:=[2]) rfl rfl (by k_ne) hr
 rw[S44,this]
 have hs:=congrArg (seen Tryz.prog (base 44).fn) hl
 rw[seen_none] at hs
 exact congrArg (fun x=>GStep.go _ _ x) hs
theorem add_none (b o i:Nat):Addr.add ⟨b,o,none⟩ i=⟨b,o+i,none⟩:=by
 unfold Addr.add
 split
 ·rename_i h;rw[h];rfl
 ·rfl
theorem isSome_set (w:World)(p q:Addr)(v:Value)(h:(w.cell? q).isSome=true):((w.setCell p v).cell? q).isSome=true:=by
 by_cases e:p=q
 ·subst e
  obtain⟨u,hu⟩:=Option.isSome_iff_exists.1 h
  rw[World.cell?_setCell_same _ _ _ hu]
  rfl
 ·rw[World.cell?_setCell_other _ _ _ _ e];exact h
theorem ev_storeCells {P:Program}(b o:Nat):∀(vs:List Value) (i:Nat) (w:World) (es:Array Event),(∀j,j<vs.length→(w.cell? ⟨b,o+(i+j),none⟩).isSome=true)→(∀j,w.frozen? ⟨b,o+j,none⟩=false)→(∀v∈vs,v.oneCell'=true) →
  ∀ev∈(storeCells ⟨b,o,none⟩ vs i).events P w es,ev∈es∨∃q,ev=⟨.cell ⟨b,q,none⟩,true,false⟩
 | [],i,w,es,_,_,_=>fun ev h=>.inl (by simpa [storeCells] using h)
 | v :: r,i,w,es,hc,hf,h1=>fun ev h=>by
  have hv:=h1 v (by simp)
  have hc0:=hc 0 (by simp)
  obtain⟨u,hu⟩:=Option.isSome_iff_exists.1 hc0
  simp only[Nat.add_zero] at hu
  have hfi:=hf i
  have hr:(store (Addr.add ⟨b,o,none⟩ i) v).run P w=.ok () (w.setCell ⟨b,o+i,none⟩ v):=by
   rw[add_none,run_store P w _ v .plain hv]
   simp[stored,hu,hfi]
  have he:(store (Addr.add ⟨b,o,none⟩ i) v).events P w es=es.push ⟨.cell ⟨b,o+i,none⟩,true,false⟩:=by
   rw[add_none,events_store P w es _ v .plain hv]
   simp[hu,hfi]
   rfl
  simp only[storeCells,Sem.events_bind,hr,he,Result.evThen_ok] at h
  rcases ev_storeCells b o r (i+1) _ _ (fun j hj=>by
    have:=hc (j+1) (by simp;omega)
    rw[show i+1+j=i+(j+1) by omega]
    exact isSome_set _ _ _ _ this) (fun j=>by rw[World.frozen?_setCell];exact hf j) (fun v hv=>h1 v (by simp[hv])) ev h with h|h
  ·rcases Array.mem_push.1 h with h|h
   ·exact .inl h
   ·exact .inr ⟨o+i,h⟩
  ·exact .inr h
def put3 (L:Array Value)(o:Nat)(x y z:Value):Array Value:=(L.toList.take o++[x,y,z]++L.toList.drop (o+3)).toArray
theorem run_store3 {t:TypeId}{P:Program}(hs:∀w,(sizeOf t).run P w=.ok 3 w){b o:Nat}{old:Array Value}{w:World}(hb:w.heap[b]?=some (.cells old t (0,0)))(ho:o+3≤old.size){x y z:Value}(h1:x.oneCell'=true)(h2:y.oneCell'=true)(h3:z.oneCell'=true) :
  (Instr.storeAt t (.pointer (some ⟨b,o,none⟩)) (.agg #[x,y,z])).run P w=.ok () (w.setRow b (put3 old o x y z)):=by
 have:=run_storeCells_at (P:=P) b o t [x,y,z] 0 old w hb (by simpa using ho) (by simp[h1,h2,h3])
 simp only[Nat.add_zero,List.length_cons,List.length_nil,Nat.zero_add,Nat.reduceAdd] at this
 have ha:(Instr.sureAddr (.pointer (some ⟨b,o,none⟩))).run P w=.ok ⟨b,o,none⟩ w:=rfl
 unfold put3
 simp only[Instr.storeAt,storeVar,bind,Sem.run_bind',ha,Result.andThen,hs]
 simp[Value.cells,this]
theorem ev_store3 {t:TypeId}{P:Program}(hs:∀w,(sizeOf t).run P w=.ok 3 w){b o:Nat}{old:Array Value}{w:World}(hb:w.heap[b]?=some (.cells old t (0,0)))(ho:o+3≤old.size){x y z:Value}(h1:x.oneCell'=true)(h2:y.oneCell'=true)(h3:z.oneCell'=true) :
  ∀ev∈(Instr.storeAt t (.pointer (some ⟨b,o,none⟩)) (.agg #[x,y,z])).events P w #[],∃q,ev=⟨.cell ⟨b,q,none⟩,true,false⟩:=by
 have ha:(Instr.sureAddr (.pointer (some ⟨b,o,none⟩))).run P w=.ok ⟨b,o,none⟩ w:=rfl
 have ha':(Instr.sureAddr (.pointer (some ⟨b,o,none⟩))).events P w #[]=#[]:=rfl
 intro ev hev
 simp only[Instr.storeAt,storeVar,Sem.events_bind,ha,ha',Result.evThen_ok,hs,events_sizeOf] at hev
 simp only[Value.cells,List.size_toArray,List.length_cons,List.length_nil,Nat.zero_add,Nat.reduceAdd,ne_eq,not_true_eq_false,if_false,Sem.events_pure,Sem.run_pure,Result.evThen_ok] at hev
 rcases ev_storeCells (P:=P) b o [x,y,z] 0 w #[] (fun j hj=>by simp[World.cell?,hb];simp at hj;omega) (fun j=>by simp[World.frozen?,hb]) (by simp[h1,h2,h3]) ev hev with h|h
 ·simp at h
 ·exact h
theorem one_of {e:Value}(he:e=.nilIface∨∃t v,e=.iface t v):e.oneCell'=true:=by rcases he with rfl|⟨t,v,rfl⟩<;>rfl
theorem To.reads {P:Program}{main:Bool}{B:World→Prop}{Ev:Event→Prop}{Q:Goroutine→Prop}{b:Frame}{a:Act}{k:List Item}{cs:List Frame}{ops:Array Oper}{i:Nat}{rest:List Nat}{o:Oper}{es:Array Event}(v:Value)(ho:ops[i]?=some o)(hw:Region.wanted o (yielded ops a.tmps)=true)(hk:b.kind≠.early)
  (hr:∀w,B w→(execOp a.eval o).run P w=.ok (.value v) w) (he:∀w,B w→(execOp a.eval o).events P w #[]=es) (hq:(P.funcs[b.fn]?).any (·.norace)=false) (hm:∀e∈es,∀f,e.loc≠.mark (.extern f)) (hE:∀e∈es,Ev e)
  (t:To P main B Ev Q (G (b.at (a.put o.dst v) (.inRegion ops rest :: k)) cs)):To P main B Ev Q (G (b.at a (.inRegion ops (i :: rest) :: k)) cs) :=
 .cons rfl hE (fun w hB=>by rw[stepG_value ho hw hk (hr w hB)];unfold listed;rw[he w hB,seen_eq hq hm]) t
section
variable {P:Program} {t:TypeId} {b:Nat} {x y z:Value} {w:World}
theorem run_load3 (hs:∀w,(sizeOf t).run P w=.ok 3 w)(hg:∀w,(isAgg t).run P w=.ok true w)(h0:w.cell? ⟨b,0,none⟩=some x)(h1:w.cell? ⟨b,1,none⟩=some y)(h2:w.cell? ⟨b,2,none⟩=some z) :
  (Instr.loadAt t (.pointer (some ⟨b,0,none⟩))).run P w=.ok (.agg #[x,y,z]) w:=by
 have ha:(Instr.sureAddr (.pointer (some ⟨b,0,none⟩))).run P w=.ok ⟨b,0,none⟩ w:=rfl
 simp[Instr.loadAt,loadVar,ha,hs,hg,loadCells,loadCellsFrom,add_none,h0,h1,h2]
theorem ev_load3 (hs:∀w,(sizeOf t).run P w=.ok 3 w)(hg:∀w,(isAgg t).run P w=.ok true w)(h0:w.cell? ⟨b,0,none⟩=some x)(h1:w.cell? ⟨b,1,none⟩=some y)(h2:w.cell? ⟨b,2,none⟩=some z) :
  (Instr.loadAt t (.pointer (some ⟨b,0,none⟩))).events P w #[]=#[⟨.cell ⟨b,0,none⟩,false,false⟩,⟨.cell ⟨b,1,none⟩,false,false⟩,⟨.cell ⟨b,2,none⟩,false,false⟩]:=by
 have ha:(Instr.sureAddr (.pointer (some ⟨b,0,none⟩))).run P w=.ok ⟨b,0,none⟩ w:=rfl
 have ha':(Instr.sureAddr (.pointer (some ⟨b,0,none⟩))).events P w #[]=#[]:=rfl
 simp only[Instr.loadAt,loadVar,Sem.events_bind,ha,ha',Result.evThen_ok,hs,hg,events_isAgg,events_sizeOf,if_true]
 simp[loadCells,loadCellsFrom,add_none,h0,h1,h2]
end
structure Bm (k:Kt)(bT i:Nat)(a:Int)(e:Value)(w:World):Prop where
 bc:Bc k w
 c0:w.cell? ⟨bT,0,none⟩=some (.int .i64 (i:Nat))
 c1:w.cell? ⟨bT,1,none⟩=some (.int .i64 a)
 c2:w.cell? ⟨bT,2,none⟩=some e
def EvM (k:Kt)(bT:Nat)(ev:Event):Prop:=EvC k ev∨∃q,ev=⟨.cell ⟨bT,q,none⟩,false,false⟩
theorem evM3 (k:Kt)(bT:Nat):∀ev∈(#[⟨.cell ⟨bT,0,none⟩,false,false⟩,⟨.cell ⟨bT,1,none⟩,false,false⟩,⟨.cell ⟨bT,2,none⟩,false,false⟩]:Array Event),EvM k bT ev:=by
 intro ev h
 simp at h
 rcases h with rfl|rfl|rfl
 ·exact .inr ⟨0,rfl⟩
 ·exact .inr ⟨1,rfl⟩
 ·exact .inr ⟨2,rfl⟩
set_option maxRecDepth 100000 in
set_option maxHeartbeats 8000000 in
theorem st1_step {bT:Nat}(hi:i<N)(he:e=.nilIface∨∃t v,e=.iface t v){g:Goroutine}(h:St1G k N cs bL nx th i a e bT g):g.status=.running∧∃g1,(∀w old,w.heap[bT]?=some (.cells old 65 (0,0))→old.size=3 →
   ∃es,stepG Tryz.prog true g w=.go g1 (w.setRow bT (put3 old 0 (.int .i64 (i:Nat)) (.int .i64 a) e)) es∧∀ev∈es,∃q,ev=⟨.cell ⟨bT,q,none⟩,true,false⟩) ∧
  To Tryz.prog true (Bm k bT i a e) (EvM k bT) (St2G k N cs bL nx th i a e) g1:=by
 obtain⟨x3,x4,x5,x6,x11,x12,x13,x14,x15,x16,x17,x18,x19,x20,x21,x22,x23,x24,x25,x26,x27,x29,x30,x31,x32,x33,x34,x35,x36,rfl⟩:=h
 have ho:=one_of he
 refine⟨rfl,S44 cs #[.int .i64 (N:Nat),nch k N nx,.chan (some k.cR),x3,x4,x5,x6,.slice (some ⟨bL,0,none⟩) N N,.int .i64 (nx:Nat),.int .i64 (th:Nat),.pointer (some ⟨bT,0,none⟩),x11,x12,x13,x14,x15,x16,x17,x18,x19,x20,x21,x22,x23,x24,x25,x26,x27,.agg #[.int .i64 (i:Nat),.int .i64 a,e],x29,x30,x31,x32,x33,x34,x35,x36] [.inRegion ops12 [],.code c13,.inBlock 2,.inBlock 1,.inLoop lp44,.inBlock 0,.code tl44],fun w old hb hz=>?_,?_⟩
 ·have hr:(execOp (Act.eval ⟨#[.int .i64 (N:Nat),nch k N nx,.chan (some k.cR),x3,x4,x5,x6,.slice (some ⟨bL,0,none⟩) N N,.int .i64 (nx:Nat),.int .i64 (th:Nat),.pointer (some ⟨bT,0,none⟩),x11,x12,x13,x14,x15,x16,x17,x18,x19,x20,x21,x22,x23,x24,x25,x26,x27,.agg #[.int .i64 (i:Nat),.int .i64 a,e],x29,x30,x31,x32,x33,x34,x35,x36],[]⟩) (ops12[2]'(by decide))).run Tryz.prog w=.ok .skip (w.setRow bT (put3 old 0 (.int .i64 (i:Nat)) (.int .i64 a) e)):=by
   have:=run_store3 (P:=Tryz.prog) Tryz.sizeOf65 (o:=0) hb (by omega) (x:=.int .i64 (i:Nat)) (y:=.int .i64 a) rfl rfl ho
   show Sem.run Tryz.prog (do Instr.storeAt 65 (.pointer (some ⟨bT,0,none⟩)) (.agg #[.int .i64 (i:Nat),.int .i64 a,e]);pure Next.skip:Sem Next) w=_
   simp only[bind,Sem.run_bind',this,Result.andThen]
   rfl
  have hl:∀ev∈(execOp (Act.eval ⟨#[.int .i64 (N:Nat),nch k N nx,.chan (some k.cR),x3,x4,x5,x6,.slice (some ⟨bL,0,none⟩) N N,.int .i64 (nx:Nat),.int .i64 (th:Nat),.pointer (some ⟨bT,0,none⟩),x11,x12,x13,x14,x15,x16,x17,x18,x19,x20,x21,x22,x23,x24,x25,x26,x27,.agg #[.int .i64 (i:Nat),.int .i64 a,e],x29,x30,x31,x32,x33,x34,x35,x36],[]⟩) (ops12[2]'(by decide))).events Tryz.prog w #[],∃q,ev=⟨.cell ⟨bT,q,none⟩,true,false⟩:=by
   have:=ev_store3 (P:=Tryz.prog) Tryz.sizeOf65 (o:=0) hb (by omega) (x:=.int .i64 (i:Nat)) (y:=.int .i64 a) rfl rfl ho
   have h2:=run_store3 (P:=Tryz.prog) Tryz.sizeOf65 (o:=0) hb (by omega) (x:=.int .i64 (i:Nat)) (y:=.int .i64 a) rfl rfl ho
   show ∀ev∈Sem.events Tryz.prog (do Instr.storeAt 65 (.pointer (some ⟨bT,0,none⟩)) (.agg #[.int .i64 (i:Nat),.int .i64 a,e]);pure Next.skip:Sem Next) w #[],_
   simp only[Sem.events_bind,h2,Result.evThen_ok,Sem.events_pure]
   exact this
  have:=stepG_none (P:=Tryz.prog) (main:=true) (b:=base 44) (a:=⟨#[.int .i64 (N:Nat),nch k N nx,.chan (some k.cR),x3,x4,x5,x6,.slice (some ⟨bL,0,none⟩) N N,.int .i64 (nx:Nat),.int .i64 (th:Nat),.pointer (some ⟨bT,0,none⟩),x11,x12,x13,x14,x15,x16,x17,x18,x19,x20,x21,x22,x23,x24,x25,x26,x27,.agg #[.int .i64 (i:Nat),.int .i64 a,e],x29,x30,x31,x32,x33,x34,x35,x36],[]⟩) (k:=[.code c13,.inBlock 2,.inBlock 1,.inLoop lp44,.inBlock 0,.code tl44]) (cs:=cs) (w:=w) (ops:=ops12) (i:=2) (rest:=[]) rfl rfl (by k_ne) hr
  refine⟨_,by rw[S44,this];rfl,?_⟩
  unfold listed
  rw[seen_eq loud44 (fun ev hev f=>by obtain⟨q,rfl⟩:=hl ev hev;simp)]
  exact hl
 ·simp only[S44,ops12,c13,cGot,cSel,bd44,lp44,tl44,body44,Tryz.f44,Option.getD_some]
  have hiN:(i:Int)<(N:Int):=by omega
  refine To.ctl rfl (fun _ _=>stepG_region_end) ?_
  refine To.ctl rfl (fun _ _=>stepG_seq) ?_
  refine To.ctl rfl (fun _ _=>stepG_region) ?_;simp only[List.size_toArray,List.length_cons,List.length_nil,Nat.reduceAdd,Nat.zero_add,List.range,List.range.loop]
  refine To.value _ rfl rfl (by k_ne) (fun _ _=>by go_simp<;>rfl) (fun _ _=>by simp[go_sem]) ?_;walk_nrm
  refine To.value _ rfl rfl (by k_ne) (fun _ _=>by go_simp<;>rfl) (fun _ _=>by simp[go_sem]) ?_;walk_nrm
  refine To.load (.int .i64 (i:Nat)) rfl rfl (by k_ne) (fun w hB=>by have h1:=hB.c0;go_simp) (fun w hB=>by have h1:=hB.c0;simp[go_sem,h1]) loud44 (.inr ⟨0,rfl⟩) ?_
  walk_nrm
  refine To.reads (es:=#[⟨.cell ⟨bT,0,none⟩,false,false⟩,⟨.cell ⟨bT,1,none⟩,false,false⟩,⟨.cell ⟨bT,2,none⟩,false,false⟩]) (.agg #[.int .i64 (i:Nat),.int .i64 a,e]) rfl rfl (by k_ne) (fun w hB=>?_) (fun w hB=>?_) loud44 (by simp) (evM3 k bT) ?_
  ·have:=run_load3 (P:=Tryz.prog) Tryz.sizeOf65 Tryz.isAgg65 hB.c0 hB.c1 hB.c2
   show Sem.run Tryz.prog (do pure (Next.value (← Instr.loadAt 65 (.pointer (some ⟨bT,0,none⟩)))):Sem Next) w=_
   simp only[bind,Sem.run_bind',this,Result.andThen]
   rfl
  ·have:=run_load3 (P:=Tryz.prog) Tryz.sizeOf65 Tryz.isAgg65 hB.c0 hB.c1 hB.c2
   have h2:=ev_load3 (P:=Tryz.prog) Tryz.sizeOf65 Tryz.isAgg65 hB.c0 hB.c1 hB.c2
   show Sem.events Tryz.prog (do pure (Next.value (← Instr.loadAt 65 (.pointer (some ⟨bT,0,none⟩)))):Sem Next) w #[]=_
   simp only[Sem.events_bind,this,Result.evThen_ok,Sem.events_pure,h2]
  walk_nrm
  refine To.value (.pointer (some ⟨bL,i*3,none⟩)) rfl rfl (by k_ne) (fun _ _=>by go_simp) (fun _ _=>by simp[go_sem,hiN]) ?_
  walk_nrm
  exact To.nil ⟨_,_,_,_,_,_,_,_,_,_,_,_,_,_,_,_,_,_,_,_,_,_,_,_,_,_,_,_,_,rfl⟩
end
end Go.Proofs.YtjeicikflkjacaaGreatDoor.Ms
